/- Walk: what the iterator over names owes a range over it. -/
import Derived.Test.YtdoioaeppepndaaGreatDoorWfC
import Derived.Test.YtdoioaeppepndaaGreatDoorTokOne
namespace Go.Proofs.YtdoioaeppepndaaGreatDoor
open Go.RowKit Go.Shelf
open A8 W10
attribute [local go_sem] Oper.semAt_some

/-- The atom's name of a node. -/
def nmT : Tr → List UInt8 | .mk _ _ _ g _ _ => g.a.nm
/-- Whether a node has a name that counts. -/
def nmdB : Tr → Bool | .mk k _ _ g _ _ => !(k == 2) && !g.a.nm.isEmpty
def nmL (l : List (Tr × Nat)) : List (Tr × Nat) := l.filter fun x => nmdB x.1
theorem nmL_yes (l : List (Tr × Nat)) (x : Tr × Nat) (h : nmdB x.1 = true) : nmL (l ++ [x]) = nmL l ++ [x] := by
  unfold nmL
  rw [List.filter_append, List.filter_cons_of_pos (by simpa using h), List.filter_nil]
theorem nmL_no (l : List (Tr × Nat)) (x : Tr × Nat) (h : nmdB x.1 = false) : nmL (l ++ [x]) = nmL l := by
  unfold nmL
  rw [List.filter_append, List.filter_cons_of_neg (by simp [h]), List.filter_nil, List.append_nil]
theorem nmL_pre {a b : List (Tr × Nat)} (h : a <+: b) : nmL a <+: nmL b := by
  obtain ⟨r, rfl⟩ := h
  unfold nmL
  rw [List.filter_append]
  exact ⟨_, rfl⟩
theorem lf_mem {T : Tr} {x : Tr × Nat} (h : x ∈ lfL (subsT T)) : x.1 ∈ subsT T := by
  unfold lfL at h
  have := List.mem_zipIdx h
  have h2 : x.1 ∈ (subsT T).filter lfB := by
    rw [this.2.2]
    exact List.getElem_mem _
  exact (List.mem_filter.1 h2).1
set_option maxRecDepth 100000 in
set_option maxHeartbeats 8000000 in
theorem wnames_seq (w0 : World) (T : Tr) (hT : TrW w0 T) (hlen : (subsT T).length ≤ 1000000) (b : Nat) (w : World) (hS : SameB w0.heap.size w0 w) (hB : Bx w b 31 T.row) :
    SeqO Tryz.prog 117 #[.pointer (some ⟨b, 0, none⟩)] (fun x : Tr × Nat => #[.int .i64 (x.2 : Int), .string (strOf (nmT x.1))]) KT 3 w0.heap.size (nmL (lfL (subsT T))) w := by
  intro n l J Jx W hW hJ hJx hY h0
  have hSW := hS.trans (SameB.of (hW.mono hS.1))
  have hm0 := hSW.1
  replace hB := hB.later hW
  have hseq := fun (b' : Nat) (w' : World) => wleaves_seq w0 T hT hlen b' w'
  have hnd := fun w => wleaves_any T w
  have hmem : ∀ x ∈ lfL (subsT T), TrW w0 x.1 := fun x hx u hu => hT u (subs_trans (lf_mem hx) hu)
  have hone := hT.one
  obtain ⟨L, hL⟩ : ∃ L, L = lfL (subsT T) := ⟨_, rfl⟩
  rw [← hL] at hmem hseq hY ⊢
  clear hL hT hlen
  obtain ⟨k, mn, mx, ⟨⟨kd, bd, bn, cs, nm⟩, sc⟩, sk, ks⟩ := T
  obtain ⟨-, ⟨-, hsc⟩, hsl⟩ := hone
  obtain ⟨A1, cap1, hA1, -, -⟩ := sl_get (by decide) hsc
  simp only at hA1
  subst hA1
  obtain ⟨A, cap, rfl, -, -⟩ := sl_get (by decide) hsl
  simp only [Tr.row] at hB hnd hseq
  clear hsc hsl
  have HM := Lib.hid hmem
  have HY := Lib.hid hY
  have HQ := Lib.hid hseq
  have HB := Lib.hid hB
  have H0 := Lib.hid h0
  have hc0 := hB.blk.cell 0 _ rfl
  have hc1 := hB.blk.cell 1 _ rfl
  have hc2 := hB.blk.cell 2 _ rfl
  have hc3 := hB.blk.cell 3 _ rfl
  have hc4 := hB.blk.cell 4 _ rfl
  have hc5 := hB.blk.cell 5 _ rfl
  have hc6 := hB.blk.cell 6 _ rfl
  have hc7 := hB.blk.cell 7 _ rfl
  have hc8 := hB.blk.cell 8 _ rfl
  have hbl := hB.lt
  clear hmem hY hseq hS h0 hB
  refine callsIn_of_wp_marks Tryz.func117 rfl trivial ?_ rfl
  simp only [Tryz.ntmps117, List.size_toArray, List.length_cons, List.length_nil, Nat.reduceAdd, Nat.reduceSub, Array.replicate_succ, Array.replicate_zero, List.push_toArray, List.append_toArray, List.nil_append, List.cons_append]
  gi_wp2_with (refine ⟨trivial, (fun h => by cases h), ?_⟩; refine (callsIn_wide.2 (hnd _)).mono ?_; rintro e w' ⟨rfl, rfl⟩)
  clear hc0 hc1 hc2 hc3 hc4 hc5 hc6 hc7 hc8
  obtain ⟨W3, hW3⟩ : ∃ W3, W3 = (W.alloc (.cells #[.func (.yield l) #[] #[]] 159)).alloc (.cells #[.int .i64 k, .int .i64 mn, .int .i64 mx, .int .i64 kd, .bool bd, .int .u64 bn, .slice A1 cs.length cap1, .string (strOf nm), .slice A ks.length cap] 31) := ⟨_, rfl⟩
  rw [← hW3]
  have hb3 : Below W.heap.size W W3 := hW3 ▸ b2 _ _ _
  have hsz3 : W3.heap.size = W.heap.size + 2 := by rw [hW3]; simp
  have hyb : Bx W3 W.heap.size 159 [.func (.yield l) #[] #[]] := by rw [hW3]; exact (Bx.new W [.func (.yield l) #[] #[]] _).later (b1 _ _)
  have hbx3 : Bx W3 (W.heap.size + 1) 31 [.int .i64 k, .int .i64 mn, .int .i64 mx, .int .i64 kd, .bool bd, .int .u64 bn, .slice A1 cs.length cap1, .string (strOf nm), .slice A ks.length cap] := by
    rw [hW3]
    have := Bx.new (W.alloc (.cells #[.func (.yield l) #[] #[]] 159)) [.int .i64 k, .int .i64 mn, .int .i64 mx, .int .i64 kd, .bool bd, .int .u64 bn, .slice A1 cs.length cap1, .string (strOf nm), .slice A ks.length cap] 31
    rw [World.size_alloc] at this
    exact this
  have hS3 : SameB w0.heap.size w0 W3 := hSW.trans (SameB.of (hb3.mono hm0))
  have hseq := HQ.out (W.heap.size + 1) W3 hS3 hbx3
  clear hW3 hbx3 HQ hnd
  refine wpIn_range_own (gf := 121) (lb := #[.pointer (some ⟨W.heap.size + 1, 0, none⟩)]) rfl (enters_of Tryz.func121 (by kernel_rfl) rfl)
    hseq (by omega) (Below.refl _ _) (fun _ => rfl)
    (fun pre Wx => J (nmL pre) Wx ∧ Bx Wx W.heap.size 159 [.func (.yield l) #[] #[]])
    (fun pre Wx => Jx (nmL pre) Wx)
    ?hI ?hIx ?h0 (fun x act Wx => ∃ b5, W.heap.size + 1 < b5 ∧ Bx Wx b5 31 x.1.row ∧ act = { tmps := #[.func (.yield l) #[] #[], .pointer (some ⟨b, 0, none⟩), .pointer (some ⟨W.heap.size, 0, none⟩), .int .i64 (x.2 : Int), .pointer (some ⟨b5, 0, none⟩), .agg #[.int .i64 k, .int .i64 mn, .int .i64 mx, .int .i64 kd, .bool bd, .int .u64 bn, .slice A1 cs.length cap1, .string (strOf nm), .slice A ks.length cap], .func (.func 121) #[] #[.pointer (some ⟨W.heap.size + 1, 0, none⟩)], .int .i64 (x.2 : Int), .agg x.1.row.toArray, undef, undef, undef, undef, undef, undef, undef, undef, undef, undef, undef, undef, undef, undef, undef, undef, undef, undef], defers := [] }) ?hA ?assign ?body ?done ?stop
  case hI =>
    rintro s Wx Wy ⟨g1, g2⟩ ht
    exact ⟨hJ _ _ _ g1 (ht.mono (by omega)), bx_turn g2 ht (.inl (by omega))⟩
  case hIx =>
    rintro s Wx Wy g1 ht
    exact hJx _ _ _ g1 (ht.mono (by omega))
  case h0 => exact ⟨hJ _ _ _ H0.out (Turn.of hb3), hyb⟩
  case hA =>
    rintro x act s Wx Wy row ⟨b5, h1, h2, h3⟩ hg hr
    exact ⟨b5, h1, bx_noncells h2 hg (fun j e => (hr j e).2), h3⟩
  case assign =>
    intro l2 pre x Wx K hp hsz hi hK
    have ho := (HM.out x (hp.subset (by simp))).one
    obtain ⟨x, c⟩ := x
    obtain ⟨k2, mn2, mx2, ⟨⟨kd2, bd2, bn2, cs2, nm2⟩, sc2⟩, sk2, ks2⟩ := x
    obtain ⟨-, ⟨-, g1⟩, g2⟩ := ho
    simp only at g1
    obtain ⟨A5, c5, rfl, -, -⟩ := sl_get (by decide) g1
    obtain ⟨A6, c6, rfl, -, -⟩ := sl_get (by decide) g2
    simp only [Tr.row] at hK ⊢
    clear g1 g2 hi hseq
    gi_wp2
    exact hK _ _ ⟨Wx.heap.size, by omega, Bx.new _ _ _, rfl⟩ (b1 _ _)
  case body =>
    rintro l2 pre x act Wx hp hsz ⟨g1, g2⟩ ⟨b5, hb5l, hb5, rfl⟩
    have ho := (HM.out x (hp.subset (by simp))).one
    have hY5 : nmdB x.1 = true → ∀ W5, J (nmL pre) W5 → Below Wx.heap.size Wx W5 → _ := fun hx W5 hJ5 hb => HY.out (n - 1 - 1 - 1) (nmL pre) x W5 hJ5 (by rw [← nmL_yes _ _ hx]; exact nmL_pre hp) (by have := hb.size; omega)
    have hyes := nmL_yes pre x
    have hno := nmL_no pre x
    have hin := fun w => isNot_any x.1 w
    obtain ⟨xs, hxs⟩ : ∃ xs, xs = pre ++ [x] := ⟨_, rfl⟩
    obtain ⟨ys, hys⟩ : ∃ ys, ys = nmL pre ++ [x] := ⟨_, rfl⟩
    rw [← hxs] at hyes hno ⊢
    rw [← hys] at hyes hY5
    clear hxs hys hp
    obtain ⟨x, c⟩ := x
    obtain ⟨k2, mn2, mx2, ⟨⟨kd2, bd2, bn2, cs2, nm2⟩, sc2⟩, sk2, ks2⟩ := x
    obtain ⟨-, ⟨-, e1⟩, e2⟩ := ho
    simp only at e1
    obtain ⟨A5, c5, rfl, -, -⟩ := sl_get (by decide) e1
    obtain ⟨A6, c6, rfl, -, -⟩ := sl_get (by decide) e2
    simp only [Tr.row, nmdB, nmT, nd_mk, isNotB, Nd.kind] at hY5 hb5 hyes hno hin ⊢
    clear e1 e2 hseq
    have hK5 := hb5.blk
    have d0 := hK5.cell 0 _ rfl
    have d1 := hK5.cell 1 _ rfl
    have d2 := hK5.cell 2 _ rfl
    have d3 := hK5.cell 3 _ rfl
    have d4 := hK5.cell 4 _ rfl
    have d5 := hK5.cell 5 _ rfl
    have d6 := hK5.cell 6 _ rfl
    have d7 := hK5.cell 7 _ rfl
    have d8 := hK5.cell 8 _ rfl
    have G1 := Lib.hid g1
    have G2 := Lib.hid g2
    have HYS := Lib.hid hyes
    have HNO := Lib.hid hno
    have HB5 := Lib.hid hb5
    clear hK5 hb5 g1 g2 hyes hno hyb
    by_cases h2 : k2 = 2
    · rw [decide_eq_true h2] at hin
      have HNO2 := Lib.hid (HNO.out (by simp [h2]))
      clear HNO HYS hY5 h2
      gi_wp2_with (refine ⟨trivial, (fun h => by cases h), ?_⟩; refine (callsIn_wide.2 (hin _)).mono ?_; rintro e W4 ⟨rfl, hb4⟩)
      refine ⟨(fun f h => by cases h), ?_⟩
      gi_wp2
      exact ⟨KeepW.of hb4, by show J (nmL xs) W4; rw [HNO2.out]; exact hJ _ _ _ G1.out (Turn.of hb4), G2.out.later hb4⟩
    · rw [decide_eq_false h2] at hin
      have hkk : (k2 == 2) = false := by simpa using h2
      rw [hkk] at HYS HNO hY5
      have hcell : ∀ W4, Below Wx.heap.size Wx W4 → W4.cell? ⟨b5, 7, none⟩ = some (.string (strOf nm2)) ∧ W4.cell? ⟨W.heap.size, 0, none⟩ = some (.func (.yield l) #[] #[]) := fun W4 hb => ⟨(HB5.out.later hb).blk.cell 7 _ rfl, (G2.out.later hb).blk.cell 0 _ rfl⟩
      clear h2 hkk
      cases nm2 with
      | nil =>
        have HNO2 := Lib.hid (HNO.out (by simp))
        clear HNO HYS hY5
        have hse : (strOf ([] : List UInt8)).toList.isEmpty = true := by rw [strOf_toL]; rfl
        have hse2 : (strOf ([] : List UInt8)).toList = [] := by rw [strOf_toL]
        gi_wp2_with (refine ⟨trivial, (fun h => by cases h), ?_⟩; refine (callsIn_wide.2 (hin _)).mono ?_; rintro e W4 ⟨rfl, hb4⟩; obtain ⟨z1, z2⟩ := hcell W4 hb4; clear hcell)
        refine ⟨(fun f h => by cases h), ?_⟩
        gi_wp2
        exact ⟨KeepW.of hb4, by show J (nmL xs) W4; rw [HNO2.out]; exact hJ _ _ _ G1.out (Turn.of hb4), G2.out.later hb4⟩
      | cons q qs =>
        have HYS2 := Lib.hid (HYS.out (by simp))
        replace hY5 := hY5 (by simp)
        obtain ⟨st, hst⟩ : ∃ st, st = strOf (q :: qs) := ⟨_, rfl⟩
        have hse : st.toList.isEmpty = false := by rw [hst, strOf_toL]; rfl
        have hse2 : ¬ st.toList = [] := by rw [hst, strOf_toL]; simp
        rw [← hst] at d7 hcell hin hY5 ⊢
        clear HYS HNO hst
        gi_wp2_with (refine ⟨trivial, (fun h => by cases h), ?_⟩; refine (callsIn_wide.2 (hin _)).mono ?_; rintro e W4 ⟨rfl, hb4⟩; obtain ⟨z1, z2⟩ := hcell W4 hb4; clear hcell; obtain ⟨fn2, tmps2, assign2, body2, hy2, hR2⟩ := hY5 W4 (hJ _ _ _ G1.out (Turn.of hb4)) hb4; clear hY5)
        refine ⟨(fun h => by simp [Fence.wide] at h), ?_⟩
        refine hR2.mono ?_
        clear hR2 hy2 d0 d1 d2 d3 d4 d5 d6 d7 d8 z1 z2
        rintro e W5 ⟨hkf, (⟨rfl, hJ5, hk5⟩ | ⟨rfl, hJx5⟩)⟩
        · gi_wp2
          exact ⟨(KeepW.of hb4).trans (hk5.mono (by omega)), by show J (nmL xs) W5; rw [HYS2.out]; exact hJ5, bx_keep (G2.out.later hb4) hk5 (by decide)⟩
        · gi_wp2
          exact ⟨(KeepsFrom.of_below hb4).trans (KeepsFrom.mono hkf (by omega)), by show Jx (nmL xs) W5; rw [HYS2.out]; exact hJx5⟩
  case done =>
    rintro D Wx hD ⟨g1, -⟩ hKd
    clear hseq
    gi_wp2
    exact one_mark rfl (fun W' => J (nmL L) W') (fun _ _ => hJ _ _ _) (fun W' h => ⟨⟨_, rfl⟩, .inl h⟩) (show W.heap.size ≤ D by omega) hKd g1
  case stop =>
    rintro D pre Wx hD hp g1 hKd
    clear hseq
    gi_wp2
    exact one_mark rfl (fun W' => Jx (nmL pre) W') (fun _ _ => hJx _ _ _) (fun W' h => ⟨⟨_, rfl⟩, .inr ⟨_, nmL_pre hp, h⟩⟩) (show W.heap.size ≤ D by omega) hKd g1
end Go.Proofs.YtdoioaeppepndaaGreatDoor
