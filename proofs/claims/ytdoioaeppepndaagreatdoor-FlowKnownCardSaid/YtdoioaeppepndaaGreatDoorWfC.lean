/- Walk: what the iterator over leaves owes a range over it. -/
import Derived.Test.YtdoioaeppepndaaGreatDoorWfB
import Derived.Sort.CutIn
namespace Go.Proofs.YtdoioaeppepndaaGreatDoor
open Go.RowKit Go.Shelf
open A8 W10
attribute [local go_sem] Oper.semAt_some

theorem bx_set {W : World} {b : Nat} {t : TypeId} {u : Value} (h : Bx W b t [u]) (v : Value) : Bx (W.setCell ⟨b, 0, none⟩ v) b t [v] := by
  unfold Bx at h ⊢
  simp [World.setCell, Array.getElem?_modify, h]
theorem bx_other {W : World} {b : Nat} {t : TypeId} {us : List Value} (h : Bx W b t us) {p : Addr} (hp : p.block ≠ b) (v : Value) : Bx (W.setCell p v) b t us := (Below.heap_setCell W p v b (fun e => hp e.symm)).trans h
theorem keep_set10 {m B b : Nat} {W : World} {t u : TypeId} {us : List Value} (hm : m ≤ b) (hb : Bx W b u us) (hN : u ∉ KT) (hB : b < B ∨ u ≠ t) (i : Nat) (v : Value) : KeepW KT t m B W (W.setCell ⟨b, i, none⟩ v) := KeepW.set hm hb hN hB i v
def lfB : Tr → Bool | .mk _ _ _ _ _ ks => ks.isEmpty
/-- The nodes without kids, with their numbers. -/
def lfT (T : Tr) : List Tr := (subsT T).filter lfB
def lfL (l : List Tr) : List (Tr × Nat) := (l.filter lfB).zipIdx
theorem lfL_yes (l : List Tr) (x : Tr) (h : lfB x = true) : lfL (l ++ [x]) = lfL l ++ [(x, (l.filter lfB).length)] := by
  unfold lfL
  rw [List.filter_append, List.filter_cons_of_pos h, List.filter_nil, List.zipIdx_append]
  simp
theorem lfL_no (l : List Tr) (x : Tr) (h : lfB x = false) : lfL (l ++ [x]) = lfL l := by
  unfold lfL
  rw [List.filter_append, List.filter_cons_of_neg (by simp [h]), List.filter_nil, List.append_nil]
theorem lfL_pre {a b : List Tr} (h : a <+: b) : lfL a <+: lfL b := by
  obtain ⟨r, rfl⟩ := h
  unfold lfL
  rw [List.filter_append, List.zipIdx_append]
  exact ⟨_, rfl⟩
theorem lfL_len {a b : List Tr} (h : a <+: b) : (a.filter lfB).length ≤ b.length := Nat.le_trans (List.length_filter_le _ _) h.length_le
/-- A mark and what stands behind a range that is the function's last statement. -/
theorem one_mark {P : Program} {fn : Func} {tmps : Array Value} {n : Nat} {R : Ending → World → Prop} (hr : fn.results = #[]) (K : World → Prop) {B : Nat} {t : TypeId} (hK : ∀ W W', K W → Turn t B W W' → K W')
    (hend : ∀ W, K W → R (.returned (.tuple #[])) W) {D : Nat} {W : World} (hD : B ≤ D) (h : W.heap[D]? = some (.deferred (some []))) (hW : K W) : LeavesInM Fence.wide n P fn tmps R [{ target := .collected D, args := #[] }] .returning W :=
  leaves_marks (t := t) (B := B) K hK (fun W' h => ⟨_, results_none hr _ _ _, hend W' h⟩) [D] W (by simp) (fun E hE => by rw [List.mem_singleton] at hE; subst hE; exact ⟨hD, h⟩) hW
set_option maxRecDepth 100000 in
set_option maxHeartbeats 8000000 in
theorem wleaves_seq (w0 : World) (T : Tr) (hT : TrW w0 T) (hlen : (subsT T).length ≤ 1000000) (b : Nat) (w : World) (hS : SameB w0.heap.size w0 w) (hB : Bx w b 31 T.row) :
    SeqO Tryz.prog 121 #[.pointer (some ⟨b, 0, none⟩)] (fun x : Tr × Nat => #[.int .i64 (x.2 : Int), .agg x.1.row.toArray]) KT 3 w0.heap.size (lfL (subsT T)) w := by
  intro n l J Jx W hW hJ hJx hY h0
  have hSW := hS.trans (SameB.of (hW.mono hS.1))
  have hm0 := hSW.1
  replace hB := hB.later hW
  have hseq := fun (b' : Nat) (w' : World) => wnodes_seq w0 T hT b' w'
  have hnd := fun w => wnodes_any T w
  have hmem : ∀ x ∈ subsT T, TrW w0 x := fun x hx u hu => hT u (subs_trans hx hu)
  have hone := hT.one
  obtain ⟨L, hL⟩ : ∃ L, L = subsT T := ⟨_, rfl⟩
  rw [← hL] at hmem hseq hY hlen ⊢
  clear hL hT
  obtain ⟨k, mn, mx, ⟨⟨kd, bd, bn, cs, nm⟩, sc⟩, sk, ks⟩ := T
  obtain ⟨-, ⟨-, hsc⟩, hsl⟩ := hone
  obtain ⟨A1, cap1, hA1, -, -⟩ := sl_get (by decide) hsc
  simp only at hA1
  subst hA1
  obtain ⟨A, cap, rfl, -, -⟩ := sl_get (by decide) hsl
  simp only [Tr.row] at hB hnd hseq
  clear hsc hsl
  have HM := Lib.hid hmem
  have HY := Lib.hid hY
  have HQ := Lib.hid hseq
  have HB := Lib.hid hB
  have H0 := Lib.hid h0
  have hc0 := hB.blk.cell 0 _ rfl
  have hc1 := hB.blk.cell 1 _ rfl
  have hc2 := hB.blk.cell 2 _ rfl
  have hc3 := hB.blk.cell 3 _ rfl
  have hc4 := hB.blk.cell 4 _ rfl
  have hc5 := hB.blk.cell 5 _ rfl
  have hc6 := hB.blk.cell 6 _ rfl
  have hc7 := hB.blk.cell 7 _ rfl
  have hc8 := hB.blk.cell 8 _ rfl
  have hbl := hB.lt
  clear hmem hY hseq hS h0 hB
  refine callsIn_of_wp_marks Tryz.func121 rfl trivial ?_ rfl
  simp only [Tryz.ntmps121, List.size_toArray, List.length_cons, List.length_nil, Nat.reduceAdd, Nat.reduceSub, Array.replicate_succ, Array.replicate_zero, List.push_toArray, List.append_toArray, List.nil_append, List.cons_append]
  gi_wp2_with (refine ⟨trivial, (fun h => by cases h), ?_⟩; refine (callsIn_wide.2 (hnd _)).mono ?_; rintro e w' ⟨rfl, rfl⟩)
  clear hc0 hc1 hc2 hc3 hc4 hc5 hc6 hc7 hc8
  obtain ⟨W3, hW3⟩ : ∃ W3, W3 = ((W.alloc (.cells #[.func (.yield l) #[] #[]] 161)).alloc (.cells #[.int .i64 0] 3)).alloc (.cells #[.int .i64 k, .int .i64 mn, .int .i64 mx, .int .i64 kd, .bool bd, .int .u64 bn, .slice A1 cs.length cap1, .string (strOf nm), .slice A ks.length cap] 31) := ⟨_, rfl⟩
  rw [← hW3]
  have hb3 : Below W.heap.size W W3 := hW3 ▸ b3 _ _ _ _
  have hsz3 : W3.heap.size = W.heap.size + 3 := by rw [hW3]; simp
  have hyb : Bx W3 W.heap.size 161 [.func (.yield l) #[] #[]] := by rw [hW3]; exact ((Bx.new W [.func (.yield l) #[] #[]] _).later (b1 _ _)).later (b1 _ _)
  have hnb : Bx W3 (W.heap.size + 1) 3 [.int .i64 ((0 : Nat) : Int)] := by
    rw [hW3]
    have := Bx.new (W.alloc (.cells #[.func (.yield l) #[] #[]] 161)) [.int .i64 ((0 : Nat) : Int)] 3
    rw [World.size_alloc] at this
    exact this.later (b1 _ _)
  have hbx3 : Bx W3 (W.heap.size + 1 + 1) 31 [.int .i64 k, .int .i64 mn, .int .i64 mx, .int .i64 kd, .bool bd, .int .u64 bn, .slice A1 cs.length cap1, .string (strOf nm), .slice A ks.length cap] := by
    rw [hW3]
    have := Bx.new ((W.alloc (.cells #[.func (.yield l) #[] #[]] 161)).alloc (.cells #[.int .i64 0] 3)) [.int .i64 k, .int .i64 mn, .int .i64 mx, .int .i64 kd, .bool bd, .int .u64 bn, .slice A1 cs.length cap1, .string (strOf nm), .slice A ks.length cap] 31
    rw [World.size_alloc, World.size_alloc] at this
    exact this
  have hS3 : SameB w0.heap.size w0 W3 := hSW.trans (SameB.of (hb3.mono hm0))
  have hseq := HQ.out (W.heap.size + 1 + 1) W3 hS3 hbx3
  clear hW3 hbx3 HQ hnd
  refine wpIn_range_own (gf := 136) (lb := #[.pointer (some ⟨W.heap.size + 1 + 1, 0, none⟩)]) rfl (enters_of Tryz.func136 (by kernel_rfl) rfl)
    hseq (by omega) (Below.refl _ _) (fun _ => rfl)
    (fun pre Wx => J (lfL pre) Wx ∧ Bx Wx W.heap.size 161 [.func (.yield l) #[] #[]] ∧ Bx Wx (W.heap.size + 1) 3 [.int .i64 ((pre.filter lfB).length : Int)])
    (fun pre Wx => Jx (lfL pre) Wx)
    ?hI ?hIx ?h0 (fun x act Wx => ∃ b5, W.heap.size + 1 < b5 ∧ Bx Wx b5 31 x.row ∧ act = { tmps := #[.func (.yield l) #[] #[], .pointer (some ⟨b, 0, none⟩), .pointer (some ⟨W.heap.size, 0, none⟩), .pointer (some ⟨W.heap.size + 1, 0, none⟩), .pointer (some ⟨b5, 0, none⟩), .agg #[.int .i64 k, .int .i64 mn, .int .i64 mx, .int .i64 kd, .bool bd, .int .u64 bn, .slice A1 cs.length cap1, .string (strOf nm), .slice A ks.length cap], .func (.func 136) #[] #[.pointer (some ⟨W.heap.size + 1 + 1, 0, none⟩)], .agg x.row.toArray, undef, undef, undef, undef, undef, undef, undef, undef, undef, undef, undef], defers := [] }) ?hA ?assign ?body ?done ?stop
  case hI =>
    rintro s Wx Wy ⟨g1, g2, g3⟩ ht
    exact ⟨hJ _ _ _ g1 (ht.mono (by omega)), bx_turn g2 ht (.inl (by omega)), bx_turn g3 ht (.inl (by omega))⟩
  case hIx =>
    rintro s Wx Wy g1 ht
    exact hJx _ _ _ g1 (ht.mono (by omega))
  case h0 => exact ⟨hJ _ _ _ H0.out (Turn.of hb3), hyb, hnb⟩
  case hA =>
    rintro x act s Wx Wy row ⟨b5, h1, h2, h3⟩ hg hr
    exact ⟨b5, h1, bx_noncells h2 hg (fun j e => (hr j e).2), h3⟩
  case assign =>
    intro l2 pre x Wx K hp hsz hi hK
    have ho := (HM.out x (hp.subset (by simp))).one
    obtain ⟨k2, mn2, mx2, ⟨⟨kd2, bd2, bn2, cs2, nm2⟩, sc2⟩, sk2, ks2⟩ := x
    obtain ⟨-, ⟨-, g1⟩, g2⟩ := ho
    simp only at g1
    obtain ⟨A5, c5, rfl, -, -⟩ := sl_get (by decide) g1
    obtain ⟨A6, c6, rfl, -, -⟩ := sl_get (by decide) g2
    simp only [Tr.row] at hK ⊢
    clear g1 g2 hi hseq
    gi_wp2
    exact hK _ _ ⟨Wx.heap.size, by omega, Bx.new _ _ _, rfl⟩ (b1 _ _)
  case body =>
    rintro l2 pre x act Wx hp hsz ⟨g1, g2, g3⟩ ⟨b5, hb5l, hb5, rfl⟩
    have ho := (HM.out x (hp.subset (by simp))).one
    have hcn : (pre.filter lfB).length < 1000000 := by
      have h1 := lfL_len hp
      have h2 := hp.length_le
      simp at h2
      have h3 := List.length_filter_le lfB pre
      omega
    have hY5 : lfB x = true → _ := fun hx => HY.out (n - 1 - 1 - 1) (lfL pre) (x, (pre.filter lfB).length) Wx g1 (by rw [← lfL_yes _ _ hx]; exact lfL_pre hp) (by omega)
    have hyes := lfL_yes pre x
    have hno := lfL_no pre x
    obtain ⟨c, hc⟩ : ∃ c, c = (pre.filter lfB).length := ⟨_, rfl⟩
    rw [← hc] at g3 hcn hyes hY5
    have hcy : lfB x = true → ((pre ++ [x]).filter lfB).length = c + 1 := fun hx => by rw [List.filter_append, List.filter_cons_of_pos hx, hc]; simp
    have hcno : lfB x = false → ((pre ++ [x]).filter lfB).length = c := fun hx => by rw [List.filter_append, List.filter_cons_of_neg (by simp [hx]), hc]; simp
    obtain ⟨xs, hxs⟩ : ∃ xs, xs = pre ++ [x] := ⟨_, rfl⟩
    obtain ⟨ys, hys⟩ : ∃ ys, ys = lfL pre ++ [(x, c)] := ⟨_, rfl⟩
    rw [← hxs] at hyes hno hcy hcno ⊢
    rw [← hys] at hyes hY5
    clear hxs hys hp hc
    obtain ⟨k2, mn2, mx2, ⟨⟨kd2, bd2, bn2, cs2, nm2⟩, sc2⟩, sk2, ks2⟩ := x
    obtain ⟨-, ⟨-, e1⟩, e2⟩ := ho
    simp only at e1
    obtain ⟨A5, c5, rfl, -, -⟩ := sl_get (by decide) e1
    obtain ⟨A6, c6, rfl, -, -⟩ := sl_get (by decide) e2
    simp only [Tr.row, lfB] at hY5 hb5 hyes hno hcy hcno ⊢
    clear e1 e2 hseq
    have hK5 := hb5.blk
    have d0 := hK5.cell 0 _ rfl
    have d1 := hK5.cell 1 _ rfl
    have d2 := hK5.cell 2 _ rfl
    have d3 := hK5.cell 3 _ rfl
    have d4 := hK5.cell 4 _ rfl
    have d5 := hK5.cell 5 _ rfl
    have d6 := hK5.cell 6 _ rfl
    have d7 := hK5.cell 7 _ rfl
    have d8 := hK5.cell 8 _ rfl
    have y1 := g2.blk.cell 0 _ rfl
    have n1 := g3.blk.cell 0 _ rfl
    have G1 := Lib.hid g1
    have G2 := Lib.hid g2
    have G3 := Lib.hid g3
    have HYS := Lib.hid hyes
    have HNO := Lib.hid hno
    have HCY := Lib.hid hcy
    have HCN := Lib.hid hcno
    clear hK5 hb5 g1 g2 g3 hyes hno hcy hcno hyb hnb
    have hwc : IntKind.i64.wrap ((c : Int) + 1) = (c : Int) + 1 := IntWalk.i64_in _ ⟨by omega, by omega⟩
    cases ks2 with
    | cons kq kr =>
      have hpos : (0 : Int) < ((kq :: kr).length : Int) := by simp
      obtain ⟨kn, hkn⟩ : ∃ kn : Nat, kn = (kq :: kr).length := ⟨_, rfl⟩
      rw [← hkn] at hpos d8
      clear hY5 hkn
      gi_wp2
      exact ⟨KeepW.refl _ _, by rw [HNO.out rfl]; exact G1.out, G2.out, by rw [HCN.out rfl]; exact G3.out⟩
    | nil =>
      obtain ⟨fn2, tmps2, assign2, body2, hy2, hR2⟩ := hY5 rfl
      simp only [List.length_nil] at d8 hy2 hR2 ⊢
      gi_wp2
      refine ⟨(fun h => by simp [Fence.wide] at h), ?_⟩
      refine hR2.mono ?_
      clear hR2 hy2 d0 d1 d2 d3 d4 d5 d6 d7 d8 y1 n1
      rintro e W5 ⟨hkf, (⟨rfl, hJ5, hk5⟩ | ⟨rfl, hJx5⟩)⟩
      · have hn5 := bx_keepT G3.out hk5 (by omega)
        have hy5 := bx_keep G2.out hk5 (by decide)
        have n2 := hn5.blk.cell 0 _ rfl
        have n3 := hn5.blk.fr 0 _ rfl
        have HN5 := Lib.hid hn5
        have HY5 := Lib.hid hy5
        have HJ5 := Lib.hid hJ5
        have HK5 := Lib.hid hk5
        clear hn5 hy5 hJ5 hk5
        gi_wp2
        exact ⟨(HK5.out.mono (by omega)).trans (keep_set10 (by omega) HN5.out (by decide) (.inl (by omega)) 0 _), by rw [HYS.out rfl]; exact hJ _ _ _ HJ5.out (Turn.set (by omega) HN5.out 0 _), bx_other HY5.out (by simp) _, by rw [HCY.out rfl]; exact bx_set HN5.out _⟩
      · gi_wp2
        exact ⟨KeepsFrom.mono hkf (by omega), by show Jx (lfL xs) W5; rw [HYS.out rfl]; exact hJx5⟩
  case done =>
    rintro D Wx hD ⟨g1, -, -⟩ hKd
    clear hseq
    gi_wp2
    exact one_mark rfl (fun W' => J (lfL L) W') (fun _ _ => hJ _ _ _) (fun W' h => ⟨⟨_, rfl⟩, .inl h⟩) (show W.heap.size ≤ D by omega) hKd g1
  case stop =>
    rintro D pre Wx hD hp g1 hKd
    clear hseq
    gi_wp2
    exact one_mark rfl (fun W' => Jx (lfL pre) W') (fun _ _ => hJx _ _ _) (fun W' h => ⟨⟨_, rfl⟩, .inr ⟨_, lfL_pre hp, h⟩⟩) (show W.heap.size ≤ D by omega) hKd g1
end Go.Proofs.YtdoioaeppepndaaGreatDoor
