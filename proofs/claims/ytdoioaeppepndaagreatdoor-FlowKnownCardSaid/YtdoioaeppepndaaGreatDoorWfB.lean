/- Walk: what the iterator over nodes owes a range over it. -/
import Derived.Test.YtdoioaeppepndaaGreatDoorWfA
import Derived.Sort.CutIn
namespace Go.Proofs.YtdoioaeppepndaaGreatDoor
open Go.RowKit Go.Shelf
open A8 W10
attribute [local go_sem] Oper.semAt_some

/-- What stands between two rounds of the loop over kids: the marks of its ranges are not taken. -/
structure NI (m : Nat) (W1 : World) (B : Nat) (Ds : List Nat) (wr : World) : Prop where
  kp : KeepW KT 3 m B W1 wr
  nd : Ds.Nodup
  mks : ∀ D ∈ Ds, B ≤ D ∧ wr.heap[D]? = some (.deferred (some []))
theorem NI.turn {m B B' : Nat} {W1 wr W' : World} {Ds : List Nat} (h : NI m W1 B Ds wr) (ht : Turn 3 B' wr W') (h1 : W1.heap.size ≤ B') (hD : ∀ D ∈ Ds, D < B') : NI m W1 B Ds W' :=
  ⟨h.kp.turn ht h1, h.nd, fun D hm => ⟨(h.mks D hm).1, ht.same _ _ (h.mks D hm).2 (.inl (hD D hm))⟩⟩
theorem NI.keep {m B : Nat} {W1 wr W' : World} {Ds : List Nat} (h : NI m W1 B Ds wr) (hk : KeepW KT 3 m B wr W') : NI m W1 B Ds W' :=
  ⟨h.kp.trans hk, h.nd, fun D hD => ⟨(h.mks D hD).1, hk.same _ _ (h.mks D hD).2 (.inr (.inr ⟨(h.mks D hD).1, .inl rfl⟩))⟩⟩
theorem subsTL_app (a b : List Tr) : subsTL (a ++ b) = subsTL a ++ subsTL b := by rw [subsTL_flat, subsTL_flat, subsTL_flat, List.flatMap_append]
theorem subsTL_one (t : Tr) : subsTL [t] = subsT t := by simp [subsTL]
set_option maxRecDepth 100000 in
set_option maxHeartbeats 8000000 in
theorem wnodes_seq (w0 : World) (T : Tr) : TrW w0 T → ∀ (b : Nat) (w : World), SameB w0.heap.size w0 w → Bx w b 31 T.row →
    SeqO Tryz.prog 136 #[.pointer (some ⟨b, 0, none⟩)] (fun x : Tr => #[.agg x.row.toArray]) KT 3 w0.heap.size (subsT T) w := by
  refine Tr.ind (P := fun T => TrW w0 T → ∀ (b : Nat) (w : World), SameB w0.heap.size w0 w → Bx w b 31 T.row →
    SeqO Tryz.prog 136 #[.pointer (some ⟨b, 0, none⟩)] (fun x : Tr => #[.agg x.row.toArray]) KT 3 w0.heap.size (subsT T) w) ?_ T
  intro k mn mx g sk ks ih hT b w hS hB n l J Jx W hW hJ hJx hY h0
  have hSW := hS.trans (SameB.of (hW.mono hS.1))
  replace hB := hB.later hW
  have hm0 := hSW.1
  obtain ⟨X, hX⟩ : ∃ X, X = Tr.mk k mn mx g sk ks := ⟨_, rfl⟩
  have hpe : subsT (.mk k mn mx g sk ks) = X :: subsTL ks := by rw [hX, subsT]
  rw [hpe] at hY ⊢
  have hkid := fun t (ht : t ∈ ks) => hT.kid ht
  obtain ⟨-, ⟨-, hsc⟩, hsl⟩ := hT.one
  obtain ⟨A, cap, rfl, hlen, hels⟩ := sl_els (by decide) row_len hsl
  obtain ⟨⟨kd, bd, bn, cs, nm⟩, sc⟩ := g
  obtain ⟨A1, cap1, hA1, -, -⟩ := sl_get (by decide) hsc
  simp only at hA1
  subst hA1
  simp only [Tr.row] at hB
  obtain ⟨us, hus⟩ : ∃ us : List Value, us = [.int .i64 k, .int .i64 mn, .int .i64 mx, .int .i64 kd, .bool bd, .int .u64 bn, .slice A1 cs.length cap1, .string (strOf nm), .slice A ks.length cap] := ⟨_, rfl⟩
  have hrow : X.row = us := by rw [hX, hus]; rfl
  obtain ⟨W1, hW1⟩ : ∃ W1, W1 = W.alloc (.cells #[.func (.yield l) #[] #[]] 106) := ⟨_, rfl⟩
  have hb1 : Below W.heap.size W W1 := hW1 ▸ b1 _ _
  have hsz1 : W.heap.size < W1.heap.size := by rw [hW1]; simp
  have hyb : Bx W1 W.heap.size 106 [.func (.yield l) #[] #[]] := hW1 ▸ Bx.new W _ _
  have hY1 := (hY (n - 1) [] X W1 (hJ _ _ _ h0 (Turn.of hb1)) (by simp) hb1.size).mono (R' := fun e W2 =>
      (e = .returned (.bool true) ∧ J [X] W2 ∧ KeepW KT 3 w0.heap.size W.heap.size W1 W2) ∨ (e = .returned (.bool false) ∧ Jx [X] W2)) (fun e W2 h => h.2)
  simp only [hrow] at hY1
  rw [hus] at hY1
  rw [hus] at hrow
  have hK := (hB.later hb1).blk
  have hBk := hB
  have c0 := hK.cell 0 _ rfl
  have c1 := hK.cell 1 _ rfl
  have c2 := hK.cell 2 _ rfl
  have c3 := hK.cell 3 _ rfl
  have c4 := hK.cell 4 _ rfl
  have c5 := hK.cell 5 _ rfl
  have c6 := hK.cell 6 _ rfl
  have c7 := hK.cell 7 _ rfl
  have c8 := hK.cell 8 _ rfl
  have y0 := hyb.blk.cell 0 _ rfl
  have HE := Lib.hid hels
  have HK := Lib.hid hkid
  have HI := Lib.hid ih
  have HY := Lib.hid hY
  have HB := Lib.hid (hB.later hb1)
  have HU := Lib.hid hyb
  have HS := Lib.hid (hSW.trans (SameB.of (hb1.mono hSW.1)))
  have HX := Lib.hid hX
  clear hels hkid ih hY hpe hT hsl hsc hX hK hus hBk hB hyb hSW hS hrow
  obtain ⟨fn, tmps, assign, body, hy, hR⟩ := hY1
  refine callsIn_of_wp_marks Tryz.func136 rfl trivial ?_ rfl
  simp only [Tryz.ntmps136, List.size_toArray, List.length_cons, List.length_nil, Nat.reduceAdd, Nat.reduceSub, Array.replicate_succ, Array.replicate_zero, List.push_toArray, List.append_toArray, List.nil_append, List.cons_append]
  subst hW1
  gi_wp2
  refine ⟨(fun h => by simp [Fence.wide] at h), ?_⟩
  refine hR.mono ?_
  clear hR hy
  rintro e W2 (⟨rfl, hJ2, hk2⟩ | ⟨rfl, hJx2⟩)
  · have c8 := (bx_keep HB.out hk2 (by decide)).blk.cell 8 _ rfl
    gi_wp2
    have hszW : W.heap.size ≤ (W.alloc (Obj.cells #[Value.func (Fn.yield l) #[] #[]] 106)).heap.size := by simp
    refine wpIn_loop (fun a wr => ∃ (i : Nat) (Ds : List Nat) (u3 u4 u5 u14 u15 u16 u17 u18 u19 u20 u21 u22 u23 u24 : Value), i ≤ ks.length ∧ NI w0.heap.size (W.alloc (Obj.cells #[Value.func (Fn.yield l) #[] #[]] 106)) W.heap.size Ds wr ∧ J (X :: subsTL (ks.take i)) wr ∧ a = { tmps := #[.func (.yield l) #[] #[], .pointer (some ⟨b, 0, none⟩), .pointer (some ⟨W.heap.size, 0, none⟩), u3, u4, u5, .func (.yield l) #[] #[], .agg #[.int .i64 k, .int .i64 mn, .int .i64 mx, .int .i64 kd, .bool bd, .int .u64 bn, .slice A1 cs.length cap1, .string (strOf nm), .slice A ks.length cap], .bool true, .bool false, .pointer (some ⟨b, 8, none⟩), .slice A ks.length cap, .int .i64 (ks.length : Int), .int .i64 (i : Int), u14, u15, u16, u17, u18, u19, u20, u21, u22, u23, u24], defers := Ds.map markD }) (fun a _ => ks.length - (intOf (a.tmps.getD 13 undef)).toNat) ⟨0, [], _, _, _, _, _, _, _, _, _, _, _, _, _, _, Nat.zero_le _, ⟨hk2, List.nodup_nil, fun D hD => by cases hD⟩, by simpa [subsTL] using hJ2, rfl⟩ ?_
    rintro a wr ⟨i, Ds, u3, u4, u5, u14, u15, u16, u17, u18, u19, u20, u21, u22, u23, u24, hi, hN, hJi, rfl⟩
    have HN := Lib.hid hN
    have HJ := Lib.hid hJi
    clear hN hJi hJ2 hk2 c8
    by_cases hlt : i < ks.length
    · obtain ⟨a, rfl, ha, E⟩ := HE.out i hlt
      have hSr := sameb_keep HS.out HN.out.kp
      replace E := E.same hSr
      have h1 : (i : Int) < (ks.length : Int) := by omega
      have hwk : IntKind.i64.wrap ((i : Int) + 1) = (i : Int) + 1 := IntWalk.i64_in _ ⟨by omega, by omega⟩
      obtain ⟨t, ht⟩ : ∃ t, t = ks[i] := ⟨_, rfl⟩
      have htm : t ∈ ks := by rw [ht]; exact List.getElem_mem hlt
      rw [← ht] at E
      have hko := (HK.out t htm).one
      have hnd := fun w => wnodes_any t w
      have hmem : ∀ x ∈ subsT t, TrW w0 x := fun x hx u hu => HK.out t htm u (subs_trans hx hu)
      have hseq := fun (b' : Nat) (w' : World) => HI.out t htm (HK.out t htm) b' w'
      have hrow : t.row.length = 9 := row_len t
      obtain ⟨L, hL⟩ : ∃ L, L = subsT t := ⟨_, rfl⟩
      have htk : X :: subsTL (ks.take (i + 1)) = (X :: subsTL (ks.take i)) ++ L := by
        rw [take_snoc ks i hlt, subsTL_app, ← ht, subsTL_one, hL]
        rfl
      have hpre : ∃ r, (X :: subsTL (ks.take i)) ++ L ++ r = X :: subsTL ks := by
        refine ⟨subsTL (ks.drop (i + 1)), ?_⟩
        rw [← htk]
        show X :: (subsTL (ks.take (i + 1)) ++ subsTL (ks.drop (i + 1))) = _
        rw [← subsTL_app, List.take_append_drop]
      rw [← hL] at hmem hseq
      obtain ⟨P, hP⟩ : ∃ P, P = X :: subsTL (ks.take i) := ⟨_, rfl⟩
      rw [← hP] at HJ hpre htk
      have HT := Lib.hid htk
      have HM := Lib.hid hmem
      have HP := Lib.hid hpre
      have HQ := Lib.hid hseq
      clear htk hmem hpre hseq hP hL
      obtain ⟨k', mn', mx', ⟨⟨kd', bd', bn', cs', nm'⟩, sc'⟩, sk', ks'⟩ := t
      obtain ⟨-, ⟨-, hgc⟩, hgk⟩ := hko
      obtain ⟨A3, cap3, hA3, -, -⟩ := sl_get (by decide) hgc
      obtain ⟨A2, cap2, rfl, -, -⟩ := sl_get (by decide) hgk
      simp only at hA3
      subst hA3
      simp only [Tr.row] at E hnd HQ
      clear hgc hgk hrow ht htm
      have e0 := E.at0 _ rfl
      have e1 := E.at1 1 _ (by decide) rfl
      have e2 := E.at1 2 _ (by decide) rfl
      have e3 := E.at1 3 _ (by decide) rfl
      have e4 := E.at1 4 _ (by decide) rfl
      have e5 := E.at1 5 _ (by decide) rfl
      have e6 := E.at1 6 _ (by decide) rfl
      have e7 := E.at1 7 _ (by decide) rfl
      have e8 := E.at1 8 _ (by decide) rfl
      clear E
      gi_wp2_with (refine ⟨trivial, (fun h => by cases h), ?_⟩; refine (callsIn_wide.2 (hnd _)).mono ?_; rintro e w' ⟨rfl, rfl⟩)
      clear e0 e1 e2 e3 e4 e5 e6 e7 e8
      obtain ⟨W3, hW3⟩ : ∃ W3, W3 = (wr.alloc (.cells #[.int .i64 k', .int .i64 mn', .int .i64 mx', .int .i64 kd', .bool bd', .int .u64 bn', .slice A3 cs'.length cap3, .string (strOf nm'), .slice A2 ks'.length cap2] 31)).alloc (.cells #[.int .i64 k', .int .i64 mn', .int .i64 mx', .int .i64 kd', .bool bd', .int .u64 bn', .slice A3 cs'.length cap3, .string (strOf nm'), .slice A2 ks'.length cap2] 31) := ⟨_, rfl⟩
      rw [← hW3]
      have hb3 : Below wr.heap.size wr W3 := hW3 ▸ b2 _ _ _
      have hsz3 : W3.heap.size = wr.heap.size + 2 := by rw [hW3]; simp
      have hbx3 : Bx W3 (wr.heap.size + 1) 31 [.int .i64 k', .int .i64 mn', .int .i64 mx', .int .i64 kd', .bool bd', .int .u64 bn', .slice A3 cs'.length cap3, .string (strOf nm'), .slice A2 ks'.length cap2] := by
        rw [hW3]
        have := Bx.new (wr.alloc (.cells #[.int .i64 k', .int .i64 mn', .int .i64 mx', .int .i64 kd', .bool bd', .int .u64 bn', .slice A3 cs'.length cap3, .string (strOf nm'), .slice A2 ks'.length cap2] 31)) [.int .i64 k', .int .i64 mn', .int .i64 mx', .int .i64 kd', .bool bd', .int .u64 bn', .slice A3 cs'.length cap3, .string (strOf nm'), .slice A2 ks'.length cap2] 31
        rw [World.size_alloc] at this
        exact this
      have hwr : W.heap.size < wr.heap.size := by have := HN.out.kp.size; simp at this; omega
      have hDs : ∀ D ∈ Ds, D < wr.heap.size := fun D hD => (Array.getElem?_eq_some_iff.1 (HN.out.mks D hD).2).1
      have hs1 : (W.alloc (Obj.cells #[Value.func (Fn.yield l) #[] #[]] 106)).heap.size = W.heap.size + 1 := by simp
      have hS3 : SameB w0.heap.size w0 W3 := hSr.trans (SameB.of (hb3.mono hSr.1))
      have hseq := HQ.out (wr.heap.size + 1) W3 hS3 hbx3
      clear hW3 hbx3 HQ hnd
      refine wpIn_range_own (gf := 136) (lb := #[.pointer (some ⟨wr.heap.size + 1, 0, none⟩)]) rfl (enters_of Tryz.func136 (by kernel_rfl) rfl)
        hseq (by omega) (Below.refl _ _) (fun _ => rfl)
        (fun pre Wx => J (P ++ pre) Wx ∧ NI w0.heap.size (W.alloc (Obj.cells #[Value.func (Fn.yield l) #[] #[]] 106)) W.heap.size Ds Wx)
        (fun pre Wx => Jx (P ++ pre) Wx ∧ ∀ D ∈ Ds, W.heap.size ≤ D ∧ Wx.heap[D]? = some (.deferred (some [])))
        ?hI ?hIx ?h0 (fun x act Wx => ∃ b5, Bx Wx b5 31 x.row ∧ act = { tmps := #[.func (.yield l) #[] #[], .pointer (some ⟨b, 0, none⟩), .pointer (some ⟨W.heap.size, 0, none⟩), u3, .pointer (some ⟨wr.heap.size, 0, none⟩), .pointer (some ⟨b5, 0, none⟩), .func (.yield l) #[] #[], .agg #[.int .i64 k, .int .i64 mn, .int .i64 mx, .int .i64 kd, .bool bd, .int .u64 bn, .slice A1 cs.length cap1, .string (strOf nm), .slice (some a) ks.length cap], .bool true, .bool false, .pointer (some ⟨b, 8, none⟩), .slice (some a) ks.length cap, .int .i64 (ks.length : Int), .int .i64 (i : Int), .bool true, .pointer (some (a.add (i * 9))), .agg #[.int .i64 k', .int .i64 mn', .int .i64 mx', .int .i64 kd', .bool bd', .int .u64 bn', .slice A3 cs'.length cap3, .string (strOf nm'), .slice A2 ks'.length cap2], .agg #[.int .i64 k', .int .i64 mn', .int .i64 mx', .int .i64 kd', .bool bd', .int .u64 bn', .slice A3 cs'.length cap3, .string (strOf nm'), .slice A2 ks'.length cap2], .func (.func 136) #[] #[.pointer (some ⟨wr.heap.size + 1, 0, none⟩)], .agg x.row.toArray, u20, u21, u22, u23, u24], defers := [] }) ?hA ?assign ?body ?done ?stop
      case hI =>
        rintro s Wx Wy ⟨g1, g2⟩ ht
        exact ⟨hJ _ _ _ g1 (ht.mono (by omega)), g2.turn ht (by omega) fun D hD => by have := hDs D hD; omega⟩
      case hIx =>
        rintro s Wx Wy ⟨g1, g2⟩ ht
        exact ⟨hJx _ _ _ g1 (ht.mono (by omega)), fun D hD => ⟨(g2 D hD).1, ht.same _ _ (g2 D hD).2 (.inl (by have := hDs D hD; omega))⟩⟩
      case h0 => exact ⟨by rw [List.append_nil]; exact hJ _ _ _ HJ.out (Turn.of hb3), HN.out.keep (KeepW.of hb3)⟩
      case hA =>
        rintro x act s Wx Wy row ⟨b5, h1, h2⟩ hg hr
        exact ⟨b5, bx_noncells h1 hg (fun j e => (hr j e).2), h2⟩
      case assign =>
        intro l2 pre x Wx K hp hsz hi hK
        have ho := (HM.out x (hp.subset (by simp))).one
        obtain ⟨k2, mn2, mx2, ⟨⟨kd2, bd2, bn2, cs2, nm2⟩, sc2⟩, sk2, ks2⟩ := x
        obtain ⟨-, ⟨-, g1⟩, g2⟩ := ho
        simp only at g1
        obtain ⟨A5, c5, rfl, -, -⟩ := sl_get (by decide) g1
        obtain ⟨A6, c6, rfl, -, -⟩ := sl_get (by decide) g2
        simp only [Tr.row] at hK ⊢
        clear g1 g2 hi
        gi_wp2
        exact hK _ _ ⟨Wx.heap.size, Bx.new _ _ _, rfl⟩ (b1 _ _)
      case body =>
        rintro l2 pre x act Wx hp hsz ⟨g1, g2⟩ ⟨b5, hb5, rfl⟩
        have ho := (HM.out x (hp.subset (by simp))).one
        have hpp : (P ++ pre) ++ [x] <+: X :: subsTL ks := by
          obtain ⟨r, hr⟩ := HP.out
          obtain ⟨r2, hr2⟩ := hp
          exact ⟨r2 ++ r, by rw [← hr, ← hr2]; simp⟩
        have hY5 := HY.out (n - 1 - 1 - 1) (P ++ pre) x Wx g1 hpp (by omega)
        have hyb := bx_keep HU.out g2.kp (by decide)
        have y1 := hyb.blk.cell 0 _ rfl
        have HG := Lib.hid g2
        clear g1 g2 hpp hyb y0 h0
        obtain ⟨z, hz⟩ : ∃ z, z = x := ⟨_, rfl⟩
        rw [← hz] at hY5 hp ⊢
        have hrz : z.row = x.row := by rw [hz]
        simp only [hrz] at hY5
        clear hrz hz
        obtain ⟨k2, mn2, mx2, ⟨⟨kd2, bd2, bn2, cs2, nm2⟩, sc2⟩, sk2, ks2⟩ := x
        obtain ⟨-, ⟨-, g1⟩, g2⟩ := ho
        simp only at g1
        obtain ⟨A5, c5, rfl, -, -⟩ := sl_get (by decide) g1
        obtain ⟨A6, c6, rfl, -, -⟩ := sl_get (by decide) g2
        simp only [Tr.row] at hY5 hb5 ⊢
        clear g1 g2
        have hK5 := hb5.blk
        have d0 := hK5.cell 0 _ rfl
        have d1 := hK5.cell 1 _ rfl
        have d2 := hK5.cell 2 _ rfl
        have d3 := hK5.cell 3 _ rfl
        have d4 := hK5.cell 4 _ rfl
        have d5 := hK5.cell 5 _ rfl
        have d6 := hK5.cell 6 _ rfl
        have d7 := hK5.cell 7 _ rfl
        have d8 := hK5.cell 8 _ rfl
        clear hK5 hb5 hseq
        obtain ⟨fn2, tmps2, assign2, body2, hy2, hR2⟩ := hY5
        gi_wp2
        refine ⟨(fun h => by simp [Fence.wide] at h), ?_⟩
        refine hR2.mono ?_
        clear hR2 hy2 d0 d1 d2 d3 d4 d5 d6 d7 d8 y1
        rintro e W5 ⟨hkf, (⟨rfl, hJ5, hk5⟩ | ⟨rfl, hJx5⟩)⟩
        · gi_wp2
          exact ⟨hk5.mono (by omega), by rw [List.append_assoc] at hJ5; exact hJ5, HG.out.keep hk5⟩
        · gi_wp2
          exact ⟨KeepsFrom.mono hkf (by omega), by rw [List.append_assoc] at hJx5; exact hJx5, fun D hD => ⟨(HG.out.mks D hD).1, hkf.same _ _ (HG.out.mks D hD).1 (HG.out.mks D hD).2 rfl⟩⟩
      case done =>
        rintro D Wx hD ⟨g1, g2⟩ hKd
        have HG := Lib.hid g2
        have H1 := Lib.hid g1
        have HD := Lib.hid hKd
        clear g1 g2 hKd hseq y0
        gi_wp2
        refine ⟨⟨i + 1, D :: Ds, _, _, _, _, _, _, _, _, _, _, _, _, _, _, by omega, ⟨HG.out.kp, List.nodup_cons.2 ⟨fun hm => by have := hDs D hm; omega, HG.out.nd⟩, fun E hE => ?_⟩, by rw [HT.out]; exact H1.out, rfl⟩, ?_⟩
        · rcases List.mem_cons.1 hE with rfl | hE
          · exact ⟨by omega, HD.out⟩
          · exact HG.out.mks E hE
        · simp [intOf]
          omega
      case stop =>
        rintro D pre Wx hD hp ⟨g1, g2⟩ hKd
        have hpp : P ++ pre <+: X :: subsTL ks := by
          obtain ⟨r, hr⟩ := HP.out
          obtain ⟨r2, hr2⟩ := hp
          exact ⟨r2 ++ r, by rw [← hr, ← hr2]; simp⟩
        have HG := Lib.hid g2
        have H1 := Lib.hid g1
        have HD := Lib.hid hKd
        clear g1 g2 hKd hseq y0
        gi_wp2
        refine leaves_marks (t := 3) (B := W.heap.size) (fun W' => ∃ pre, pre <+: X :: subsTL ks ∧ Jx pre W') (fun W1 W2 h ht => by obtain ⟨q, hq, h⟩ := h; exact ⟨q, hq, hJx _ _ _ h ht⟩) (fun W' h => ?_) (D :: Ds) Wx (List.nodup_cons.2 ⟨fun hm => by have := hDs D hm; omega, HN.out.nd⟩) (fun E hE => ?_) ⟨_, hpp, H1.out⟩
        · exact ⟨_, results_none rfl _ _ _, ⟨_, rfl⟩, .inr h⟩
        · rcases List.mem_cons.1 hE with rfl | hE
          · exact ⟨by omega, HD.out⟩
          · exact HG.out E hE
    · have h1 : ¬ (i : Int) < (ks.length : Int) := by omega
      have hall := Lib.hid (show ks.take i = ks by rw [List.take_of_length_le (by omega)])
      clear HE HK HI y0
      gi_wp2
      refine leaves_marks (t := 3) (B := W.heap.size) (fun W' => J (X :: subsTL ks) W') (fun W1 W2 h ht => hJ _ _ _ h ht) (fun W' h => ?_) Ds wr HN.out.nd HN.out.mks (by have := HJ.out; rw [hall.out] at this; exact this)
      exact ⟨_, results_none rfl _ _ _, ⟨_, rfl⟩, .inl h⟩
  · gi_wp2
    refine leaves_marks (t := 3) (B := W.heap.size) (fun W' => Jx [X] W') (fun W1 W2 h ht => hJx _ _ _ h ht) (fun W' h => ?_) [] W2 List.nodup_nil (fun D hD => by cases hD) hJx2
    exact ⟨_, results_none rfl _ _ _, ⟨_, rfl⟩, .inr ⟨[X], ⟨subsTL ks, rfl⟩, h⟩⟩
end Go.Proofs.YtdoioaeppepndaaGreatDoor
