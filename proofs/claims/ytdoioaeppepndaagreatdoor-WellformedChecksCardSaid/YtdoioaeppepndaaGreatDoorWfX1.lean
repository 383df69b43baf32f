/- Walks: Check's first parts. -/
import Derived.Test.YtdoioaeppepndaaGreatDoorProg
import Derived.Test.YtdoioaeppepndaaGreatDoorAstSm
import Derived.Test.YtdoioaeppepndaaGreatDoorAstW
import Derived.Test.YtdoioaeppepndaaGreatDoorRg
import Derived.Test.YtdoioaeppepndaaGreatDoorWfSpec
import Derived.Deep.LoopGhost
import Derived.Sort.CutIn
import Derived.Test.YtdoioaeppepndaaGreatDoorTokOne
import Derived.Test.YtdoioaeppepndaaGreatDoorAstThr
namespace Go.Proofs.YtdoioaeppepndaaGreatDoor
open Go.RowKit Go.Shelf
open A8 W10
attribute [local go_sem] Oper.semAt_some

/-- Boxes that nobody turns: of nodes, of queries, of what takes the values. -/
def KT : List TypeId := [31, 35, 106, 161, 159, 160]
/-- What a yield's mark is. -/
def markD (D : Nat) : Deferred := { target := .collected D, args := #[] }
theorem bx_keep {W W' : World} {b m B : Nat} {t u : TypeId} {us : List Value} (h : Bx W b u us) (hk : KeepW KT t m B W W') (hu : u ∈ KT) : Bx W' b u us := hk.same _ _ h (.inr (.inl ⟨_, _, _, rfl, hu⟩))
theorem bx_keepT {W W' : World} {b m B : Nat} {t : TypeId} {us : List Value} (h : Bx W b t us) (hk : KeepW KT t m B W W') (hB : B ≤ b) : Bx W' b t us := hk.same _ _ h (.inr (.inr ⟨hB, .inr ⟨_, _, rfl⟩⟩))
theorem bx_turn {W W' : World} {b B : Nat} {t u : TypeId} {us : List Value} (h : Bx W b u us) (hk : Turn t B W W') (hB : b < B ∨ u ≠ t) : Bx W' b u us := hk.same _ _ h (hB.imp id fun hu => ⟨_, _, _, rfl, hu⟩)
theorem sameb_keep {w0 W W' : World} {B : Nat} {t : TypeId} (h : SameB w0.heap.size w0 W) (hk : KeepW KT t w0.heap.size B W W') : SameB w0.heap.size w0 W' :=
  ⟨Nat.le_trans h.1 hk.size, fun k hlt => by
    have e := h.2 k hlt
    rw [Array.getElem?_eq_getElem hlt] at e
    rw [hk.same k _ e (.inl hlt), Array.getElem?_eq_getElem hlt]⟩
theorem sameb_turn {w0 W W' : World} {B : Nat} {t : TypeId} (h : SameB w0.heap.size w0 W) (hk : Turn t B W W') (hB : w0.heap.size ≤ B) : SameB w0.heap.size w0 W' :=
  ⟨Nat.le_trans h.1 hk.size, fun k hlt => by
    have e := h.2 k hlt
    rw [Array.getElem?_eq_getElem hlt] at e
    rw [hk.same k _ e (.inl (by omega)), Array.getElem?_eq_getElem hlt]⟩
theorem bx_noncells {W W' : World} {b : Nat} {u : TypeId} {us : List Value} {row : Option Nat} (h : Bx W b u us) (hg : W.grownBy W' row) (hr : ∀ j, row = some j → ∃ o : Obj, W.heap[j]? = some o ∧ o.isCells = false) : Bx W' b u us := by
  refine (hg.block b h.lt fun e => ?_).trans h
  obtain ⟨o, ho, hc⟩ := hr b e.symm
  rw [h] at ho
  cases ho
  cases hc
theorem isNot_any (T : Tr) (w : World) : Calls Tryz.prog 118 #[.agg T.row.toArray] w fun e w' => e = .returned (.bool (isNotB T.nd)) ∧ Below w.heap.size w w' := by
  obtain ⟨k, mn, mx, g, sk, ks⟩ := T
  have hk2 : isNotB (Tr.nd (.mk k mn mx g sk ks)) = (k == 2) := by rw [nd_mk]; rfl
  rw [hk2]
  clear hk2
  simp only [Tr.row]
  go_enter Tryz.func118, Tryz.ntmps118
  go_wp2
  go_ret
  exact ⟨rfl, b1 _ _⟩
/-- What makes the iterator. -/
theorem wnodes_any (T : Tr) (w : World) :
    Calls Tryz.prog 122 #[.agg T.row.toArray] w fun e w' => e = .returned (.func (.func 136) #[] #[.pointer (some ⟨w.heap.size, 0, none⟩)]) ∧ w' = w.alloc (.cells T.row.toArray 31) := by
  obtain ⟨k, mn, mx, g, sk, ks⟩ := T
  simp only [Tr.row]
  go_enter Tryz.func122, Tryz.ntmps122
  go_wp2
  go_ret
  exact ⟨rfl, rfl⟩
theorem wleaves_any (T : Tr) (w : World) :
    Calls Tryz.prog 90 #[.agg T.row.toArray] w fun e w' => e = .returned (.func (.func 121) #[] #[.pointer (some ⟨w.heap.size, 0, none⟩)]) ∧ w' = w.alloc (.cells T.row.toArray 31) := by
  obtain ⟨k, mn, mx, g, sk, ks⟩ := T
  simp only [Tr.row]
  go_enter Tryz.func90, Tryz.ntmps90
  go_wp2
  go_ret
  exact ⟨rfl, rfl⟩
theorem wnames_any (T : Tr) (w : World) :
    Calls Tryz.prog 84 #[.agg T.row.toArray] w fun e w' => e = .returned (.func (.func 117) #[] #[.pointer (some ⟨w.heap.size, 0, none⟩)]) ∧ w' = w.alloc (.cells T.row.toArray 31) := by
  obtain ⟨k, mn, mx, g, sk, ks⟩ := T
  simp only [Tr.row]
  go_enter Tryz.func84, Tryz.ntmps84
  go_wp2
  go_ret
  exact ⟨rfl, rfl⟩
end Go.Proofs.YtdoioaeppepndaaGreatDoor
namespace Go.Proofs.YtdoioaeppepndaaGreatDoor
open Go.RowKit Go.Shelf
open A8 W10
attribute [local go_sem] Oper.semAt_some

/-- What stands between two rounds of the loop over kids: the marks of its ranges are not taken. -/
structure NI (m : Nat) (W1 : World) (B : Nat) (Ds : List Nat) (wr : World) : Prop where
  kp : KeepW KT 3 m B W1 wr
  nd : Ds.Nodup
  mks : ∀ D ∈ Ds, B ≤ D ∧ wr.heap[D]? = some (.deferred (some []))
theorem NI.turn {m B B' : Nat} {W1 wr W' : World} {Ds : List Nat} (h : NI m W1 B Ds wr) (ht : Turn 3 B' wr W') (h1 : W1.heap.size ≤ B') (hD : ∀ D ∈ Ds, D < B') : NI m W1 B Ds W' :=
  ⟨h.kp.turn ht h1, h.nd, fun D hm => ⟨(h.mks D hm).1, ht.same _ _ (h.mks D hm).2 (.inl (hD D hm))⟩⟩
theorem NI.keep {m B : Nat} {W1 wr W' : World} {Ds : List Nat} (h : NI m W1 B Ds wr) (hk : KeepW KT 3 m B wr W') : NI m W1 B Ds W' :=
  ⟨h.kp.trans hk, h.nd, fun D hD => ⟨(h.mks D hD).1, hk.same _ _ (h.mks D hD).2 (.inr (.inr ⟨(h.mks D hD).1, .inl rfl⟩))⟩⟩
theorem subsTL_app (a b : List Tr) : subsTL (a ++ b) = subsTL a ++ subsTL b := by rw [subsTL_flat, subsTL_flat, subsTL_flat, List.flatMap_append]
theorem subsTL_one (t : Tr) : subsTL [t] = subsT t := by simp [subsTL]
set_option maxRecDepth 100000 in
set_option maxHeartbeats 8000000 in
theorem wnodes_seq (w0 : World) (T : Tr) : TrW w0 T → ∀ (b : Nat) (w : World), SameB w0.heap.size w0 w → Bx w b 31 T.row →
    SeqO Tryz.prog 136 #[.pointer (some ⟨b, 0, none⟩)] (fun x : Tr => #[.agg x.row.toArray]) KT 3 w0.heap.size (subsT T) w := by
  refine Tr.ind (P := fun T => TrW w0 T → ∀ (b : Nat) (w : World), SameB w0.heap.size w0 w → Bx w b 31 T.row →
    SeqO Tryz.prog 136 #[.pointer (some ⟨b, 0, none⟩)] (fun x : Tr => #[.agg x.row.toArray]) KT 3 w0.heap.size (subsT T) w) ?_ T
  intro k mn mx g sk ks ih hT b w hS hB n l J Jx W hW hJ hJx hY h0
  have hSW := hS.trans (SameB.of (hW.mono hS.1))
  replace hB := hB.later hW
  have hm0 := hSW.1
  obtain ⟨X, hX⟩ : ∃ X, X = Tr.mk k mn mx g sk ks := ⟨_, rfl⟩
  have hpe : subsT (.mk k mn mx g sk ks) = X :: subsTL ks := by rw [hX, subsT]
  rw [hpe] at hY ⊢
  have hkid := fun t (ht : t ∈ ks) => hT.kid ht
  obtain ⟨-, ⟨-, hsc⟩, hsl⟩ := hT.one
  obtain ⟨A, cap, rfl, hlen, hels⟩ := sl_els (by decide) row_len hsl
  obtain ⟨⟨kd, bd, bn, cs, nm⟩, sc⟩ := g
  obtain ⟨A1, cap1, hA1, -, -⟩ := sl_get (by decide) hsc
  simp only at hA1
  subst hA1
  simp only [Tr.row] at hB
  obtain ⟨us, hus⟩ : ∃ us : List Value, us = [.int .i64 k, .int .i64 mn, .int .i64 mx, .int .i64 kd, .bool bd, .int .u64 bn, .slice A1 cs.length cap1, .string (strOf nm), .slice A ks.length cap] := ⟨_, rfl⟩
  have hrow : X.row = us := by rw [hX, hus]; rfl
  obtain ⟨W1, hW1⟩ : ∃ W1, W1 = W.alloc (.cells #[.func (.yield l) #[] #[]] 106) := ⟨_, rfl⟩
  have hb1 : Below W.heap.size W W1 := hW1 ▸ b1 _ _
  have hsz1 : W.heap.size < W1.heap.size := by rw [hW1]; simp
  have hyb : Bx W1 W.heap.size 106 [.func (.yield l) #[] #[]] := hW1 ▸ Bx.new W _ _
  have hY1 := (hY (n - 1) [] X W1 (hJ _ _ _ h0 (Turn.of hb1)) (by simp) hb1.size).mono (R' := fun e W2 =>
      (e = .returned (.bool true) ∧ J [X] W2 ∧ KeepW KT 3 w0.heap.size W.heap.size W1 W2) ∨ (e = .returned (.bool false) ∧ Jx [X] W2)) (fun e W2 h => h.2)
  simp only [hrow] at hY1
  rw [hus] at hY1
  rw [hus] at hrow
  have hK := (hB.later hb1).blk
  have hBk := hB
  have c0 := hK.cell 0 _ rfl
  have c1 := hK.cell 1 _ rfl
  have c2 := hK.cell 2 _ rfl
  have c3 := hK.cell 3 _ rfl
  have c4 := hK.cell 4 _ rfl
  have c5 := hK.cell 5 _ rfl
  have c6 := hK.cell 6 _ rfl
  have c7 := hK.cell 7 _ rfl
  have c8 := hK.cell 8 _ rfl
  have y0 := hyb.blk.cell 0 _ rfl
  have HE := Lib.hid hels
  have HK := Lib.hid hkid
  have HI := Lib.hid ih
  have HY := Lib.hid hY
  have HB := Lib.hid (hB.later hb1)
  have HU := Lib.hid hyb
  have HS := Lib.hid (hSW.trans (SameB.of (hb1.mono hSW.1)))
  have HX := Lib.hid hX
  clear hels hkid ih hY hpe hT hsl hsc hX hK hus hBk hB hyb hSW hS hrow
  obtain ⟨fn, tmps, assign, body, hy, hR⟩ := hY1
  refine callsIn_of_wp_marks Tryz.func136 rfl trivial ?_ rfl
  simp only [Tryz.ntmps136, List.size_toArray, List.length_cons, List.length_nil, Nat.reduceAdd, Nat.reduceSub, Array.replicate_succ, Array.replicate_zero, List.push_toArray, List.append_toArray, List.nil_append, List.cons_append]
  subst hW1
  gi_wp2
  refine ⟨(fun h => by simp [Fence.wide] at h), ?_⟩
  refine hR.mono ?_
  clear hR hy
  rintro e W2 (⟨rfl, hJ2, hk2⟩ | ⟨rfl, hJx2⟩)
  · have c8 := (bx_keep HB.out hk2 (by decide)).blk.cell 8 _ rfl
    gi_wp2
    have hszW : W.heap.size ≤ (W.alloc (Obj.cells #[Value.func (Fn.yield l) #[] #[]] 106)).heap.size := by simp
    refine wpIn_loop (fun a wr => ∃ (i : Nat) (Ds : List Nat) (u3 u4 u5 u14 u15 u16 u17 u18 u19 u20 u21 u22 u23 u24 : Value), i ≤ ks.length ∧ NI w0.heap.size (W.alloc (Obj.cells #[Value.func (Fn.yield l) #[] #[]] 106)) W.heap.size Ds wr ∧ J (X :: subsTL (ks.take i)) wr ∧ a = { tmps := #[.func (.yield l) #[] #[], .pointer (some ⟨b, 0, none⟩), .pointer (some ⟨W.heap.size, 0, none⟩), u3, u4, u5, .func (.yield l) #[] #[], .agg #[.int .i64 k, .int .i64 mn, .int .i64 mx, .int .i64 kd, .bool bd, .int .u64 bn, .slice A1 cs.length cap1, .string (strOf nm), .slice A ks.length cap], .bool true, .bool false, .pointer (some ⟨b, 8, none⟩), .slice A ks.length cap, .int .i64 (ks.length : Int), .int .i64 (i : Int), u14, u15, u16, u17, u18, u19, u20, u21, u22, u23, u24], defers := Ds.map markD }) (fun a _ => ks.length - (intOf (a.tmps.getD 13 undef)).toNat) ⟨0, [], _, _, _, _, _, _, _, _, _, _, _, _, _, _, Nat.zero_le _, ⟨hk2, List.nodup_nil, fun D hD => by cases hD⟩, by simpa [subsTL] using hJ2, rfl⟩ ?_
    rintro a wr ⟨i, Ds, u3, u4, u5, u14, u15, u16, u17, u18, u19, u20, u21, u22, u23, u24, hi, hN, hJi, rfl⟩
    have HN := Lib.hid hN
    have HJ := Lib.hid hJi
    clear hN hJi hJ2 hk2 c8
    by_cases hlt : i < ks.length
    · obtain ⟨a, rfl, ha, E⟩ := HE.out i hlt
      have hSr := sameb_keep HS.out HN.out.kp
      replace E := E.same hSr
      have h1 : (i : Int) < (ks.length : Int) := by omega
      have hwk : IntKind.i64.wrap ((i : Int) + 1) = (i : Int) + 1 := IntWalk.i64_in _ ⟨by omega, by omega⟩
      obtain ⟨t, ht⟩ : ∃ t, t = ks[i] := ⟨_, rfl⟩
      have htm : t ∈ ks := by rw [ht]; exact List.getElem_mem hlt
      rw [← ht] at E
      have hko := (HK.out t htm).one
      have hnd := fun w => wnodes_any t w
      have hmem : ∀ x ∈ subsT t, TrW w0 x := fun x hx u hu => HK.out t htm u (subs_trans hx hu)
      have hseq := fun (b' : Nat) (w' : World) => HI.out t htm (HK.out t htm) b' w'
      have hrow : t.row.length = 9 := row_len t
      obtain ⟨L, hL⟩ : ∃ L, L = subsT t := ⟨_, rfl⟩
      have htk : X :: subsTL (ks.take (i + 1)) = (X :: subsTL (ks.take i)) ++ L := by
        rw [take_snoc ks i hlt, subsTL_app, ← ht, subsTL_one, hL]
        rfl
      have hpre : ∃ r, (X :: subsTL (ks.take i)) ++ L ++ r = X :: subsTL ks := by
        refine ⟨subsTL (ks.drop (i + 1)), ?_⟩
        rw [← htk]
        show X :: (subsTL (ks.take (i + 1)) ++ subsTL (ks.drop (i + 1))) = _
        rw [← subsTL_app, List.take_append_drop]
      rw [← hL] at hmem hseq
      obtain ⟨P, hP⟩ : ∃ P, P = X :: subsTL (ks.take i) := ⟨_, rfl⟩
      rw [← hP] at HJ hpre htk
      have HT := Lib.hid htk
      have HM := Lib.hid hmem
      have HP := Lib.hid hpre
      have HQ := Lib.hid hseq
      clear htk hmem hpre hseq hP hL
      obtain ⟨k', mn', mx', ⟨⟨kd', bd', bn', cs', nm'⟩, sc'⟩, sk', ks'⟩ := t
      obtain ⟨-, ⟨-, hgc⟩, hgk⟩ := hko
      obtain ⟨A3, cap3, hA3, -, -⟩ := sl_get (by decide) hgc
      obtain ⟨A2, cap2, rfl, -, -⟩ := sl_get (by decide) hgk
      simp only at hA3
      subst hA3
      simp only [Tr.row] at E hnd HQ
      clear hgc hgk hrow ht htm
      have e0 := E.at0 _ rfl
      have e1 := E.at1 1 _ (by decide) rfl
      have e2 := E.at1 2 _ (by decide) rfl
      have e3 := E.at1 3 _ (by decide) rfl
      have e4 := E.at1 4 _ (by decide) rfl
      have e5 := E.at1 5 _ (by decide) rfl
      have e6 := E.at1 6 _ (by decide) rfl
      have e7 := E.at1 7 _ (by decide) rfl
      have e8 := E.at1 8 _ (by decide) rfl
      clear E
      gi_wp2_with (refine ⟨trivial, (fun h => by cases h), ?_⟩; refine (callsIn_wide.2 (hnd _)).mono ?_; rintro e w' ⟨rfl, rfl⟩)
      clear e0 e1 e2 e3 e4 e5 e6 e7 e8
      obtain ⟨W3, hW3⟩ : ∃ W3, W3 = (wr.alloc (.cells #[.int .i64 k', .int .i64 mn', .int .i64 mx', .int .i64 kd', .bool bd', .int .u64 bn', .slice A3 cs'.length cap3, .string (strOf nm'), .slice A2 ks'.length cap2] 31)).alloc (.cells #[.int .i64 k', .int .i64 mn', .int .i64 mx', .int .i64 kd', .bool bd', .int .u64 bn', .slice A3 cs'.length cap3, .string (strOf nm'), .slice A2 ks'.length cap2] 31) := ⟨_, rfl⟩
      rw [← hW3]
      have hb3 : Below wr.heap.size wr W3 := hW3 ▸ b2 _ _ _
      have hsz3 : W3.heap.size = wr.heap.size + 2 := by rw [hW3]; simp
      have hbx3 : Bx W3 (wr.heap.size + 1) 31 [.int .i64 k', .int .i64 mn', .int .i64 mx', .int .i64 kd', .bool bd', .int .u64 bn', .slice A3 cs'.length cap3, .string (strOf nm'), .slice A2 ks'.length cap2] := by
        rw [hW3]
        have := Bx.new (wr.alloc (.cells #[.int .i64 k', .int .i64 mn', .int .i64 mx', .int .i64 kd', .bool bd', .int .u64 bn', .slice A3 cs'.length cap3, .string (strOf nm'), .slice A2 ks'.length cap2] 31)) [.int .i64 k', .int .i64 mn', .int .i64 mx', .int .i64 kd', .bool bd', .int .u64 bn', .slice A3 cs'.length cap3, .string (strOf nm'), .slice A2 ks'.length cap2] 31
        rw [World.size_alloc] at this
        exact this
      have hwr : W.heap.size < wr.heap.size := by have := HN.out.kp.size; simp at this; omega
      have hDs : ∀ D ∈ Ds, D < wr.heap.size := fun D hD => (Array.getElem?_eq_some_iff.1 (HN.out.mks D hD).2).1
      have hs1 : (W.alloc (Obj.cells #[Value.func (Fn.yield l) #[] #[]] 106)).heap.size = W.heap.size + 1 := by simp
      have hS3 : SameB w0.heap.size w0 W3 := hSr.trans (SameB.of (hb3.mono hSr.1))
      have hseq := HQ.out (wr.heap.size + 1) W3 hS3 hbx3
      clear hW3 hbx3 HQ hnd
      refine wpIn_range_own (gf := 136) (lb := #[.pointer (some ⟨wr.heap.size + 1, 0, none⟩)]) rfl (enters_of Tryz.func136 (by kernel_rfl) rfl)
        hseq (by omega) (Below.refl _ _) (fun _ => rfl)
        (fun pre Wx => J (P ++ pre) Wx ∧ NI w0.heap.size (W.alloc (Obj.cells #[Value.func (Fn.yield l) #[] #[]] 106)) W.heap.size Ds Wx)
        (fun pre Wx => Jx (P ++ pre) Wx ∧ ∀ D ∈ Ds, W.heap.size ≤ D ∧ Wx.heap[D]? = some (.deferred (some [])))
        ?hI ?hIx ?h0 (fun x act Wx => ∃ b5, Bx Wx b5 31 x.row ∧ act = { tmps := #[.func (.yield l) #[] #[], .pointer (some ⟨b, 0, none⟩), .pointer (some ⟨W.heap.size, 0, none⟩), u3, .pointer (some ⟨wr.heap.size, 0, none⟩), .pointer (some ⟨b5, 0, none⟩), .func (.yield l) #[] #[], .agg #[.int .i64 k, .int .i64 mn, .int .i64 mx, .int .i64 kd, .bool bd, .int .u64 bn, .slice A1 cs.length cap1, .string (strOf nm), .slice (some a) ks.length cap], .bool true, .bool false, .pointer (some ⟨b, 8, none⟩), .slice (some a) ks.length cap, .int .i64 (ks.length : Int), .int .i64 (i : Int), .bool true, .pointer (some (a.add (i * 9))), .agg #[.int .i64 k', .int .i64 mn', .int .i64 mx', .int .i64 kd', .bool bd', .int .u64 bn', .slice A3 cs'.length cap3, .string (strOf nm'), .slice A2 ks'.length cap2], .agg #[.int .i64 k', .int .i64 mn', .int .i64 mx', .int .i64 kd', .bool bd', .int .u64 bn', .slice A3 cs'.length cap3, .string (strOf nm'), .slice A2 ks'.length cap2], .func (.func 136) #[] #[.pointer (some ⟨wr.heap.size + 1, 0, none⟩)], .agg x.row.toArray, u20, u21, u22, u23, u24], defers := [] }) ?hA ?assign ?body ?done ?stop
      case hI =>
        rintro s Wx Wy ⟨g1, g2⟩ ht
        exact ⟨hJ _ _ _ g1 (ht.mono (by omega)), g2.turn ht (by omega) fun D hD => by have := hDs D hD; omega⟩
      case hIx =>
        rintro s Wx Wy ⟨g1, g2⟩ ht
        exact ⟨hJx _ _ _ g1 (ht.mono (by omega)), fun D hD => ⟨(g2 D hD).1, ht.same _ _ (g2 D hD).2 (.inl (by have := hDs D hD; omega))⟩⟩
      case h0 => exact ⟨by rw [List.append_nil]; exact hJ _ _ _ HJ.out (Turn.of hb3), HN.out.keep (KeepW.of hb3)⟩
      case hA =>
        rintro x act s Wx Wy row ⟨b5, h1, h2⟩ hg hr
        exact ⟨b5, bx_noncells h1 hg (fun j e => (hr j e).2), h2⟩
      case assign =>
        intro l2 pre x Wx K hp hsz hi hK
        have ho := (HM.out x (hp.subset (by simp))).one
        obtain ⟨k2, mn2, mx2, ⟨⟨kd2, bd2, bn2, cs2, nm2⟩, sc2⟩, sk2, ks2⟩ := x
        obtain ⟨-, ⟨-, g1⟩, g2⟩ := ho
        simp only at g1
        obtain ⟨A5, c5, rfl, -, -⟩ := sl_get (by decide) g1
        obtain ⟨A6, c6, rfl, -, -⟩ := sl_get (by decide) g2
        simp only [Tr.row] at hK ⊢
        clear g1 g2 hi
        gi_wp2
        exact hK _ _ ⟨Wx.heap.size, Bx.new _ _ _, rfl⟩ (b1 _ _)
      case body =>
        rintro l2 pre x act Wx hp hsz ⟨g1, g2⟩ ⟨b5, hb5, rfl⟩
        have ho := (HM.out x (hp.subset (by simp))).one
        have hpp : (P ++ pre) ++ [x] <+: X :: subsTL ks := by
          obtain ⟨r, hr⟩ := HP.out
          obtain ⟨r2, hr2⟩ := hp
          exact ⟨r2 ++ r, by rw [← hr, ← hr2]; simp⟩
        have hY5 := HY.out (n - 1 - 1 - 1) (P ++ pre) x Wx g1 hpp (by omega)
        have hyb := bx_keep HU.out g2.kp (by decide)
        have y1 := hyb.blk.cell 0 _ rfl
        have HG := Lib.hid g2
        clear g1 g2 hpp hyb y0 h0
        obtain ⟨z, hz⟩ : ∃ z, z = x := ⟨_, rfl⟩
        rw [← hz] at hY5 hp ⊢
        have hrz : z.row = x.row := by rw [hz]
        simp only [hrz] at hY5
        clear hrz hz
        obtain ⟨k2, mn2, mx2, ⟨⟨kd2, bd2, bn2, cs2, nm2⟩, sc2⟩, sk2, ks2⟩ := x
        obtain ⟨-, ⟨-, g1⟩, g2⟩ := ho
        simp only at g1
        obtain ⟨A5, c5, rfl, -, -⟩ := sl_get (by decide) g1
        obtain ⟨A6, c6, rfl, -, -⟩ := sl_get (by decide) g2
        simp only [Tr.row] at hY5 hb5 ⊢
        clear g1 g2
        have hK5 := hb5.blk
        have d0 := hK5.cell 0 _ rfl
        have d1 := hK5.cell 1 _ rfl
        have d2 := hK5.cell 2 _ rfl
        have d3 := hK5.cell 3 _ rfl
        have d4 := hK5.cell 4 _ rfl
        have d5 := hK5.cell 5 _ rfl
        have d6 := hK5.cell 6 _ rfl
        have d7 := hK5.cell 7 _ rfl
        have d8 := hK5.cell 8 _ rfl
        clear hK5 hb5 hseq
        obtain ⟨fn2, tmps2, assign2, body2, hy2, hR2⟩ := hY5
        gi_wp2
        refine ⟨(fun h => by simp [Fence.wide] at h), ?_⟩
        refine hR2.mono ?_
        clear hR2 hy2 d0 d1 d2 d3 d4 d5 d6 d7 d8 y1
        rintro e W5 ⟨hkf, (⟨rfl, hJ5, hk5⟩ | ⟨rfl, hJx5⟩)⟩
        · gi_wp2
          exact ⟨hk5.mono (by omega), by rw [List.append_assoc] at hJ5; exact hJ5, HG.out.keep hk5⟩
        · gi_wp2
          exact ⟨KeepsFrom.mono hkf (by omega), by rw [List.append_assoc] at hJx5; exact hJx5, fun D hD => ⟨(HG.out.mks D hD).1, hkf.same _ _ (HG.out.mks D hD).1 (HG.out.mks D hD).2 rfl⟩⟩
      case done =>
        rintro D Wx hD ⟨g1, g2⟩ hKd
        have HG := Lib.hid g2
        have H1 := Lib.hid g1
        have HD := Lib.hid hKd
        clear g1 g2 hKd hseq y0
        gi_wp2
        refine ⟨⟨i + 1, D :: Ds, _, _, _, _, _, _, _, _, _, _, _, _, _, _, by omega, ⟨HG.out.kp, List.nodup_cons.2 ⟨fun hm => by have := hDs D hm; omega, HG.out.nd⟩, fun E hE => ?_⟩, by rw [HT.out]; exact H1.out, rfl⟩, ?_⟩
        · rcases List.mem_cons.1 hE with rfl | hE
          · exact ⟨by omega, HD.out⟩
          · exact HG.out.mks E hE
        · simp [intOf]
          omega
      case stop =>
        rintro D pre Wx hD hp ⟨g1, g2⟩ hKd
        have hpp : P ++ pre <+: X :: subsTL ks := by
          obtain ⟨r, hr⟩ := HP.out
          obtain ⟨r2, hr2⟩ := hp
          exact ⟨r2 ++ r, by rw [← hr, ← hr2]; simp⟩
        have HG := Lib.hid g2
        have H1 := Lib.hid g1
        have HD := Lib.hid hKd
        clear g1 g2 hKd hseq y0
        gi_wp2
        refine leaves_marks (t := 3) (B := W.heap.size) (fun W' => ∃ pre, pre <+: X :: subsTL ks ∧ Jx pre W') (fun W1 W2 h ht => by obtain ⟨q, hq, h⟩ := h; exact ⟨q, hq, hJx _ _ _ h ht⟩) (fun W' h => ?_) (D :: Ds) Wx (List.nodup_cons.2 ⟨fun hm => by have := hDs D hm; omega, HN.out.nd⟩) (fun E hE => ?_) ⟨_, hpp, H1.out⟩
        · exact ⟨_, results_none rfl _ _ _, ⟨_, rfl⟩, .inr h⟩
        · rcases List.mem_cons.1 hE with rfl | hE
          · exact ⟨by omega, HD.out⟩
          · exact HG.out E hE
    · have h1 : ¬ (i : Int) < (ks.length : Int) := by omega
      have hall := Lib.hid (show ks.take i = ks by rw [List.take_of_length_le (by omega)])
      clear HE HK HI y0
      gi_wp2
      refine leaves_marks (t := 3) (B := W.heap.size) (fun W' => J (X :: subsTL ks) W') (fun W1 W2 h ht => hJ _ _ _ h ht) (fun W' h => ?_) Ds wr HN.out.nd HN.out.mks (by have := HJ.out; rw [hall.out] at this; exact this)
      exact ⟨_, results_none rfl _ _ _, ⟨_, rfl⟩, .inl h⟩
  · gi_wp2
    refine leaves_marks (t := 3) (B := W.heap.size) (fun W' => Jx [X] W') (fun W1 W2 h ht => hJx _ _ _ h ht) (fun W' h => ?_) [] W2 List.nodup_nil (fun D hD => by cases hD) hJx2
    exact ⟨_, results_none rfl _ _ _, ⟨_, rfl⟩, .inr ⟨[X], ⟨subsTL ks, rfl⟩, h⟩⟩
end Go.Proofs.YtdoioaeppepndaaGreatDoor
namespace Go.Proofs.YtdoioaeppepndaaGreatDoor
open Go.RowKit Go.Shelf
open A8 W10
attribute [local go_sem] Oper.semAt_some

theorem bx_set {W : World} {b : Nat} {t : TypeId} {u : Value} (h : Bx W b t [u]) (v : Value) : Bx (W.setCell ⟨b, 0, none⟩ v) b t [v] := by
  unfold Bx at h ⊢
  simp [World.setCell, Array.getElem?_modify, h]
theorem bx_other {W : World} {b : Nat} {t : TypeId} {us : List Value} (h : Bx W b t us) {p : Addr} (hp : p.block ≠ b) (v : Value) : Bx (W.setCell p v) b t us := (Below.heap_setCell W p v b (fun e => hp e.symm)).trans h
theorem keep_set10 {m B b : Nat} {W : World} {t u : TypeId} {us : List Value} (hm : m ≤ b) (hb : Bx W b u us) (hN : u ∉ KT) (hB : b < B ∨ u ≠ t) (i : Nat) (v : Value) : KeepW KT t m B W (W.setCell ⟨b, i, none⟩ v) := KeepW.set hm hb hN hB i v
def lfB : Tr → Bool | .mk _ _ _ _ _ ks => ks.isEmpty
/-- The nodes without kids, with their numbers. -/
def lfT (T : Tr) : List Tr := (subsT T).filter lfB
def lfL (l : List Tr) : List (Tr × Nat) := (l.filter lfB).zipIdx
theorem lfL_yes (l : List Tr) (x : Tr) (h : lfB x = true) : lfL (l ++ [x]) = lfL l ++ [(x, (l.filter lfB).length)] := by
  unfold lfL
  rw [List.filter_append, List.filter_cons_of_pos h, List.filter_nil, List.zipIdx_append]
  simp
theorem lfL_no (l : List Tr) (x : Tr) (h : lfB x = false) : lfL (l ++ [x]) = lfL l := by
  unfold lfL
  rw [List.filter_append, List.filter_cons_of_neg (by simp [h]), List.filter_nil, List.append_nil]
theorem lfL_pre {a b : List Tr} (h : a <+: b) : lfL a <+: lfL b := by
  obtain ⟨r, rfl⟩ := h
  unfold lfL
  rw [List.filter_append, List.zipIdx_append]
  exact ⟨_, rfl⟩
theorem lfL_len {a b : List Tr} (h : a <+: b) : (a.filter lfB).length ≤ b.length := Nat.le_trans (List.length_filter_le _ _) h.length_le
/-- A mark and what stands behind a range that is the function's last statement. -/
theorem one_mark {P : Program} {fn : Func} {tmps : Array Value} {n : Nat} {R : Ending → World → Prop} (hr : fn.results = #[]) (K : World → Prop) {B : Nat} {t : TypeId} (hK : ∀ W W', K W → Turn t B W W' → K W')
    (hend : ∀ W, K W → R (.returned (.tuple #[])) W) {D : Nat} {W : World} (hD : B ≤ D) (h : W.heap[D]? = some (.deferred (some []))) (hW : K W) : LeavesInM Fence.wide n P fn tmps R [{ target := .collected D, args := #[] }] .returning W :=
  leaves_marks (t := t) (B := B) K hK (fun W' h => ⟨_, results_none hr _ _ _, hend W' h⟩) [D] W (by simp) (fun E hE => by rw [List.mem_singleton] at hE; subst hE; exact ⟨hD, h⟩) hW
set_option maxRecDepth 100000 in
set_option maxHeartbeats 8000000 in
theorem wleaves_seq (w0 : World) (T : Tr) (hT : TrW w0 T) (hlen : (subsT T).length ≤ 1000000) (b : Nat) (w : World) (hS : SameB w0.heap.size w0 w) (hB : Bx w b 31 T.row) :
    SeqO Tryz.prog 121 #[.pointer (some ⟨b, 0, none⟩)] (fun x : Tr × Nat => #[.int .i64 (x.2 : Int), .agg x.1.row.toArray]) KT 3 w0.heap.size (lfL (subsT T)) w := by
  intro n l J Jx W hW hJ hJx hY h0
  have hSW := hS.trans (SameB.of (hW.mono hS.1))
  have hm0 := hSW.1
  replace hB := hB.later hW
  have hseq := fun (b' : Nat) (w' : World) => wnodes_seq w0 T hT b' w'
  have hnd := fun w => wnodes_any T w
  have hmem : ∀ x ∈ subsT T, TrW w0 x := fun x hx u hu => hT u (subs_trans hx hu)
  have hone := hT.one
  obtain ⟨L, hL⟩ : ∃ L, L = subsT T := ⟨_, rfl⟩
  rw [← hL] at hmem hseq hY hlen ⊢
  clear hL hT
  obtain ⟨k, mn, mx, ⟨⟨kd, bd, bn, cs, nm⟩, sc⟩, sk, ks⟩ := T
  obtain ⟨-, ⟨-, hsc⟩, hsl⟩ := hone
  obtain ⟨A1, cap1, hA1, -, -⟩ := sl_get (by decide) hsc
  simp only at hA1
  subst hA1
  obtain ⟨A, cap, rfl, -, -⟩ := sl_get (by decide) hsl
  simp only [Tr.row] at hB hnd hseq
  clear hsc hsl
  have HM := Lib.hid hmem
  have HY := Lib.hid hY
  have HQ := Lib.hid hseq
  have HB := Lib.hid hB
  have H0 := Lib.hid h0
  have hc0 := hB.blk.cell 0 _ rfl
  have hc1 := hB.blk.cell 1 _ rfl
  have hc2 := hB.blk.cell 2 _ rfl
  have hc3 := hB.blk.cell 3 _ rfl
  have hc4 := hB.blk.cell 4 _ rfl
  have hc5 := hB.blk.cell 5 _ rfl
  have hc6 := hB.blk.cell 6 _ rfl
  have hc7 := hB.blk.cell 7 _ rfl
  have hc8 := hB.blk.cell 8 _ rfl
  have hbl := hB.lt
  clear hmem hY hseq hS h0 hB
  refine callsIn_of_wp_marks Tryz.func121 rfl trivial ?_ rfl
  simp only [Tryz.ntmps121, List.size_toArray, List.length_cons, List.length_nil, Nat.reduceAdd, Nat.reduceSub, Array.replicate_succ, Array.replicate_zero, List.push_toArray, List.append_toArray, List.nil_append, List.cons_append]
  gi_wp2_with (refine ⟨trivial, (fun h => by cases h), ?_⟩; refine (callsIn_wide.2 (hnd _)).mono ?_; rintro e w' ⟨rfl, rfl⟩)
  clear hc0 hc1 hc2 hc3 hc4 hc5 hc6 hc7 hc8
  obtain ⟨W3, hW3⟩ : ∃ W3, W3 = ((W.alloc (.cells #[.func (.yield l) #[] #[]] 161)).alloc (.cells #[.int .i64 0] 3)).alloc (.cells #[.int .i64 k, .int .i64 mn, .int .i64 mx, .int .i64 kd, .bool bd, .int .u64 bn, .slice A1 cs.length cap1, .string (strOf nm), .slice A ks.length cap] 31) := ⟨_, rfl⟩
  rw [← hW3]
  have hb3 : Below W.heap.size W W3 := hW3 ▸ b3 _ _ _ _
  have hsz3 : W3.heap.size = W.heap.size + 3 := by rw [hW3]; simp
  have hyb : Bx W3 W.heap.size 161 [.func (.yield l) #[] #[]] := by rw [hW3]; exact ((Bx.new W [.func (.yield l) #[] #[]] _).later (b1 _ _)).later (b1 _ _)
  have hnb : Bx W3 (W.heap.size + 1) 3 [.int .i64 ((0 : Nat) : Int)] := by
    rw [hW3]
    have := Bx.new (W.alloc (.cells #[.func (.yield l) #[] #[]] 161)) [.int .i64 ((0 : Nat) : Int)] 3
    rw [World.size_alloc] at this
    exact this.later (b1 _ _)
  have hbx3 : Bx W3 (W.heap.size + 1 + 1) 31 [.int .i64 k, .int .i64 mn, .int .i64 mx, .int .i64 kd, .bool bd, .int .u64 bn, .slice A1 cs.length cap1, .string (strOf nm), .slice A ks.length cap] := by
    rw [hW3]
    have := Bx.new ((W.alloc (.cells #[.func (.yield l) #[] #[]] 161)).alloc (.cells #[.int .i64 0] 3)) [.int .i64 k, .int .i64 mn, .int .i64 mx, .int .i64 kd, .bool bd, .int .u64 bn, .slice A1 cs.length cap1, .string (strOf nm), .slice A ks.length cap] 31
    rw [World.size_alloc, World.size_alloc] at this
    exact this
  have hS3 : SameB w0.heap.size w0 W3 := hSW.trans (SameB.of (hb3.mono hm0))
  have hseq := HQ.out (W.heap.size + 1 + 1) W3 hS3 hbx3
  clear hW3 hbx3 HQ hnd
  refine wpIn_range_own (gf := 136) (lb := #[.pointer (some ⟨W.heap.size + 1 + 1, 0, none⟩)]) rfl (enters_of Tryz.func136 (by kernel_rfl) rfl)
    hseq (by omega) (Below.refl _ _) (fun _ => rfl)
    (fun pre Wx => J (lfL pre) Wx ∧ Bx Wx W.heap.size 161 [.func (.yield l) #[] #[]] ∧ Bx Wx (W.heap.size + 1) 3 [.int .i64 ((pre.filter lfB).length : Int)])
    (fun pre Wx => Jx (lfL pre) Wx)
    ?hI ?hIx ?h0 (fun x act Wx => ∃ b5, W.heap.size + 1 < b5 ∧ Bx Wx b5 31 x.row ∧ act = { tmps := #[.func (.yield l) #[] #[], .pointer (some ⟨b, 0, none⟩), .pointer (some ⟨W.heap.size, 0, none⟩), .pointer (some ⟨W.heap.size + 1, 0, none⟩), .pointer (some ⟨b5, 0, none⟩), .agg #[.int .i64 k, .int .i64 mn, .int .i64 mx, .int .i64 kd, .bool bd, .int .u64 bn, .slice A1 cs.length cap1, .string (strOf nm), .slice A ks.length cap], .func (.func 136) #[] #[.pointer (some ⟨W.heap.size + 1 + 1, 0, none⟩)], .agg x.row.toArray, undef, undef, undef, undef, undef, undef, undef, undef, undef, undef, undef], defers := [] }) ?hA ?assign ?body ?done ?stop
  case hI =>
    rintro s Wx Wy ⟨g1, g2, g3⟩ ht
    exact ⟨hJ _ _ _ g1 (ht.mono (by omega)), bx_turn g2 ht (.inl (by omega)), bx_turn g3 ht (.inl (by omega))⟩
  case hIx =>
    rintro s Wx Wy g1 ht
    exact hJx _ _ _ g1 (ht.mono (by omega))
  case h0 => exact ⟨hJ _ _ _ H0.out (Turn.of hb3), hyb, hnb⟩
  case hA =>
    rintro x act s Wx Wy row ⟨b5, h1, h2, h3⟩ hg hr
    exact ⟨b5, h1, bx_noncells h2 hg (fun j e => (hr j e).2), h3⟩
  case assign =>
    intro l2 pre x Wx K hp hsz hi hK
    have ho := (HM.out x (hp.subset (by simp))).one
    obtain ⟨k2, mn2, mx2, ⟨⟨kd2, bd2, bn2, cs2, nm2⟩, sc2⟩, sk2, ks2⟩ := x
    obtain ⟨-, ⟨-, g1⟩, g2⟩ := ho
    simp only at g1
    obtain ⟨A5, c5, rfl, -, -⟩ := sl_get (by decide) g1
    obtain ⟨A6, c6, rfl, -, -⟩ := sl_get (by decide) g2
    simp only [Tr.row] at hK ⊢
    clear g1 g2 hi hseq
    gi_wp2
    exact hK _ _ ⟨Wx.heap.size, by omega, Bx.new _ _ _, rfl⟩ (b1 _ _)
  case body =>
    rintro l2 pre x act Wx hp hsz ⟨g1, g2, g3⟩ ⟨b5, hb5l, hb5, rfl⟩
    have ho := (HM.out x (hp.subset (by simp))).one
    have hcn : (pre.filter lfB).length < 1000000 := by
      have h1 := lfL_len hp
      have h2 := hp.length_le
      simp at h2
      have h3 := List.length_filter_le lfB pre
      omega
    have hY5 : lfB x = true → _ := fun hx => HY.out (n - 1 - 1 - 1) (lfL pre) (x, (pre.filter lfB).length) Wx g1 (by rw [← lfL_yes _ _ hx]; exact lfL_pre hp) (by omega)
    have hyes := lfL_yes pre x
    have hno := lfL_no pre x
    obtain ⟨c, hc⟩ : ∃ c, c = (pre.filter lfB).length := ⟨_, rfl⟩
    rw [← hc] at g3 hcn hyes hY5
    have hcy : lfB x = true → ((pre ++ [x]).filter lfB).length = c + 1 := fun hx => by rw [List.filter_append, List.filter_cons_of_pos hx, hc]; simp
    have hcno : lfB x = false → ((pre ++ [x]).filter lfB).length = c := fun hx => by rw [List.filter_append, List.filter_cons_of_neg (by simp [hx]), hc]; simp
    obtain ⟨xs, hxs⟩ : ∃ xs, xs = pre ++ [x] := ⟨_, rfl⟩
    obtain ⟨ys, hys⟩ : ∃ ys, ys = lfL pre ++ [(x, c)] := ⟨_, rfl⟩
    rw [← hxs] at hyes hno hcy hcno ⊢
    rw [← hys] at hyes hY5
    clear hxs hys hp hc
    obtain ⟨k2, mn2, mx2, ⟨⟨kd2, bd2, bn2, cs2, nm2⟩, sc2⟩, sk2, ks2⟩ := x
    obtain ⟨-, ⟨-, e1⟩, e2⟩ := ho
    simp only at e1
    obtain ⟨A5, c5, rfl, -, -⟩ := sl_get (by decide) e1
    obtain ⟨A6, c6, rfl, -, -⟩ := sl_get (by decide) e2
    simp only [Tr.row, lfB] at hY5 hb5 hyes hno hcy hcno ⊢
    clear e1 e2 hseq
    have hK5 := hb5.blk
    have d0 := hK5.cell 0 _ rfl
    have d1 := hK5.cell 1 _ rfl
    have d2 := hK5.cell 2 _ rfl
    have d3 := hK5.cell 3 _ rfl
    have d4 := hK5.cell 4 _ rfl
    have d5 := hK5.cell 5 _ rfl
    have d6 := hK5.cell 6 _ rfl
    have d7 := hK5.cell 7 _ rfl
    have d8 := hK5.cell 8 _ rfl
    have y1 := g2.blk.cell 0 _ rfl
    have n1 := g3.blk.cell 0 _ rfl
    have G1 := Lib.hid g1
    have G2 := Lib.hid g2
    have G3 := Lib.hid g3
    have HYS := Lib.hid hyes
    have HNO := Lib.hid hno
    have HCY := Lib.hid hcy
    have HCN := Lib.hid hcno
    clear hK5 hb5 g1 g2 g3 hyes hno hcy hcno hyb hnb
    have hwc : IntKind.i64.wrap ((c : Int) + 1) = (c : Int) + 1 := IntWalk.i64_in _ ⟨by omega, by omega⟩
    cases ks2 with
    | cons kq kr =>
      have hpos : (0 : Int) < ((kq :: kr).length : Int) := by simp
      obtain ⟨kn, hkn⟩ : ∃ kn : Nat, kn = (kq :: kr).length := ⟨_, rfl⟩
      rw [← hkn] at hpos d8
      clear hY5 hkn
      gi_wp2
      exact ⟨KeepW.refl _ _, by rw [HNO.out rfl]; exact G1.out, G2.out, by rw [HCN.out rfl]; exact G3.out⟩
    | nil =>
      obtain ⟨fn2, tmps2, assign2, body2, hy2, hR2⟩ := hY5 rfl
      simp only [List.length_nil] at d8 hy2 hR2 ⊢
      gi_wp2
      refine ⟨(fun h => by simp [Fence.wide] at h), ?_⟩
      refine hR2.mono ?_
      clear hR2 hy2 d0 d1 d2 d3 d4 d5 d6 d7 d8 y1 n1
      rintro e W5 ⟨hkf, (⟨rfl, hJ5, hk5⟩ | ⟨rfl, hJx5⟩)⟩
      · have hn5 := bx_keepT G3.out hk5 (by omega)
        have hy5 := bx_keep G2.out hk5 (by decide)
        have n2 := hn5.blk.cell 0 _ rfl
        have n3 := hn5.blk.fr 0 _ rfl
        have HN5 := Lib.hid hn5
        have HY5 := Lib.hid hy5
        have HJ5 := Lib.hid hJ5
        have HK5 := Lib.hid hk5
        clear hn5 hy5 hJ5 hk5
        gi_wp2
        exact ⟨(HK5.out.mono (by omega)).trans (keep_set10 (by omega) HN5.out (by decide) (.inl (by omega)) 0 _), by rw [HYS.out rfl]; exact hJ _ _ _ HJ5.out (Turn.set (by omega) HN5.out 0 _), bx_other HY5.out (by simp) _, by rw [HCY.out rfl]; exact bx_set HN5.out _⟩
      · gi_wp2
        exact ⟨KeepsFrom.mono hkf (by omega), by show Jx (lfL xs) W5; rw [HYS.out rfl]; exact hJx5⟩
  case done =>
    rintro D Wx hD ⟨g1, -, -⟩ hKd
    clear hseq
    gi_wp2
    exact one_mark rfl (fun W' => J (lfL L) W') (fun _ _ => hJ _ _ _) (fun W' h => ⟨⟨_, rfl⟩, .inl h⟩) (show W.heap.size ≤ D by omega) hKd g1
  case stop =>
    rintro D pre Wx hD hp g1 hKd
    clear hseq
    gi_wp2
    exact one_mark rfl (fun W' => Jx (lfL pre) W') (fun _ _ => hJx _ _ _) (fun W' h => ⟨⟨_, rfl⟩, .inr ⟨_, lfL_pre hp, h⟩⟩) (show W.heap.size ≤ D by omega) hKd g1
end Go.Proofs.YtdoioaeppepndaaGreatDoor
namespace Go.Proofs.YtdoioaeppepndaaGreatDoor
open Go.RowKit Go.Shelf
open A8 W10
attribute [local go_sem] Oper.semAt_some

/-- The atom's name of a node. -/
def nmT : Tr → List UInt8 | .mk _ _ _ g _ _ => g.a.nm
/-- Whether a node has a name that counts. -/
def nmdB : Tr → Bool | .mk k _ _ g _ _ => !(k == 2) && !g.a.nm.isEmpty
def nmL (l : List (Tr × Nat)) : List (Tr × Nat) := l.filter fun x => nmdB x.1
theorem nmL_yes (l : List (Tr × Nat)) (x : Tr × Nat) (h : nmdB x.1 = true) : nmL (l ++ [x]) = nmL l ++ [x] := by
  unfold nmL
  rw [List.filter_append, List.filter_cons_of_pos (by simpa using h), List.filter_nil]
theorem nmL_no (l : List (Tr × Nat)) (x : Tr × Nat) (h : nmdB x.1 = false) : nmL (l ++ [x]) = nmL l := by
  unfold nmL
  rw [List.filter_append, List.filter_cons_of_neg (by simp [h]), List.filter_nil, List.append_nil]
theorem nmL_pre {a b : List (Tr × Nat)} (h : a <+: b) : nmL a <+: nmL b := by
  obtain ⟨r, rfl⟩ := h
  unfold nmL
  rw [List.filter_append]
  exact ⟨_, rfl⟩
theorem lf_mem {T : Tr} {x : Tr × Nat} (h : x ∈ lfL (subsT T)) : x.1 ∈ subsT T := by
  unfold lfL at h
  have := List.mem_zipIdx h
  have h2 : x.1 ∈ (subsT T).filter lfB := by
    rw [this.2.2]
    exact List.getElem_mem _
  exact (List.mem_filter.1 h2).1
set_option maxRecDepth 100000 in
set_option maxHeartbeats 8000000 in
theorem wnames_seq (w0 : World) (T : Tr) (hT : TrW w0 T) (hlen : (subsT T).length ≤ 1000000) (b : Nat) (w : World) (hS : SameB w0.heap.size w0 w) (hB : Bx w b 31 T.row) :
    SeqO Tryz.prog 117 #[.pointer (some ⟨b, 0, none⟩)] (fun x : Tr × Nat => #[.int .i64 (x.2 : Int), .string (strOf (nmT x.1))]) KT 3 w0.heap.size (nmL (lfL (subsT T))) w := by
  intro n l J Jx W hW hJ hJx hY h0
  have hSW := hS.trans (SameB.of (hW.mono hS.1))
  have hm0 := hSW.1
  replace hB := hB.later hW
  have hseq := fun (b' : Nat) (w' : World) => wleaves_seq w0 T hT hlen b' w'
  have hnd := fun w => wleaves_any T w
  have hmem : ∀ x ∈ lfL (subsT T), TrW w0 x.1 := fun x hx u hu => hT u (subs_trans (lf_mem hx) hu)
  have hone := hT.one
  obtain ⟨L, hL⟩ : ∃ L, L = lfL (subsT T) := ⟨_, rfl⟩
  rw [← hL] at hmem hseq hY ⊢
  clear hL hT hlen
  obtain ⟨k, mn, mx, ⟨⟨kd, bd, bn, cs, nm⟩, sc⟩, sk, ks⟩ := T
  obtain ⟨-, ⟨-, hsc⟩, hsl⟩ := hone
  obtain ⟨A1, cap1, hA1, -, -⟩ := sl_get (by decide) hsc
  simp only at hA1
  subst hA1
  obtain ⟨A, cap, rfl, -, -⟩ := sl_get (by decide) hsl
  simp only [Tr.row] at hB hnd hseq
  clear hsc hsl
  have HM := Lib.hid hmem
  have HY := Lib.hid hY
  have HQ := Lib.hid hseq
  have HB := Lib.hid hB
  have H0 := Lib.hid h0
  have hc0 := hB.blk.cell 0 _ rfl
  have hc1 := hB.blk.cell 1 _ rfl
  have hc2 := hB.blk.cell 2 _ rfl
  have hc3 := hB.blk.cell 3 _ rfl
  have hc4 := hB.blk.cell 4 _ rfl
  have hc5 := hB.blk.cell 5 _ rfl
  have hc6 := hB.blk.cell 6 _ rfl
  have hc7 := hB.blk.cell 7 _ rfl
  have hc8 := hB.blk.cell 8 _ rfl
  have hbl := hB.lt
  clear hmem hY hseq hS h0 hB
  refine callsIn_of_wp_marks Tryz.func117 rfl trivial ?_ rfl
  simp only [Tryz.ntmps117, List.size_toArray, List.length_cons, List.length_nil, Nat.reduceAdd, Nat.reduceSub, Array.replicate_succ, Array.replicate_zero, List.push_toArray, List.append_toArray, List.nil_append, List.cons_append]
  gi_wp2_with (refine ⟨trivial, (fun h => by cases h), ?_⟩; refine (callsIn_wide.2 (hnd _)).mono ?_; rintro e w' ⟨rfl, rfl⟩)
  clear hc0 hc1 hc2 hc3 hc4 hc5 hc6 hc7 hc8
  obtain ⟨W3, hW3⟩ : ∃ W3, W3 = (W.alloc (.cells #[.func (.yield l) #[] #[]] 159)).alloc (.cells #[.int .i64 k, .int .i64 mn, .int .i64 mx, .int .i64 kd, .bool bd, .int .u64 bn, .slice A1 cs.length cap1, .string (strOf nm), .slice A ks.length cap] 31) := ⟨_, rfl⟩
  rw [← hW3]
  have hb3 : Below W.heap.size W W3 := hW3 ▸ b2 _ _ _
  have hsz3 : W3.heap.size = W.heap.size + 2 := by rw [hW3]; simp
  have hyb : Bx W3 W.heap.size 159 [.func (.yield l) #[] #[]] := by rw [hW3]; exact (Bx.new W [.func (.yield l) #[] #[]] _).later (b1 _ _)
  have hbx3 : Bx W3 (W.heap.size + 1) 31 [.int .i64 k, .int .i64 mn, .int .i64 mx, .int .i64 kd, .bool bd, .int .u64 bn, .slice A1 cs.length cap1, .string (strOf nm), .slice A ks.length cap] := by
    rw [hW3]
    have := Bx.new (W.alloc (.cells #[.func (.yield l) #[] #[]] 159)) [.int .i64 k, .int .i64 mn, .int .i64 mx, .int .i64 kd, .bool bd, .int .u64 bn, .slice A1 cs.length cap1, .string (strOf nm), .slice A ks.length cap] 31
    rw [World.size_alloc] at this
    exact this
  have hS3 : SameB w0.heap.size w0 W3 := hSW.trans (SameB.of (hb3.mono hm0))
  have hseq := HQ.out (W.heap.size + 1) W3 hS3 hbx3
  clear hW3 hbx3 HQ hnd
  refine wpIn_range_own (gf := 121) (lb := #[.pointer (some ⟨W.heap.size + 1, 0, none⟩)]) rfl (enters_of Tryz.func121 (by kernel_rfl) rfl)
    hseq (by omega) (Below.refl _ _) (fun _ => rfl)
    (fun pre Wx => J (nmL pre) Wx ∧ Bx Wx W.heap.size 159 [.func (.yield l) #[] #[]])
    (fun pre Wx => Jx (nmL pre) Wx)
    ?hI ?hIx ?h0 (fun x act Wx => ∃ b5, W.heap.size + 1 < b5 ∧ Bx Wx b5 31 x.1.row ∧ act = { tmps := #[.func (.yield l) #[] #[], .pointer (some ⟨b, 0, none⟩), .pointer (some ⟨W.heap.size, 0, none⟩), .int .i64 (x.2 : Int), .pointer (some ⟨b5, 0, none⟩), .agg #[.int .i64 k, .int .i64 mn, .int .i64 mx, .int .i64 kd, .bool bd, .int .u64 bn, .slice A1 cs.length cap1, .string (strOf nm), .slice A ks.length cap], .func (.func 121) #[] #[.pointer (some ⟨W.heap.size + 1, 0, none⟩)], .int .i64 (x.2 : Int), .agg x.1.row.toArray, undef, undef, undef, undef, undef, undef, undef, undef, undef, undef, undef, undef, undef, undef, undef, undef, undef, undef], defers := [] }) ?hA ?assign ?body ?done ?stop
  case hI =>
    rintro s Wx Wy ⟨g1, g2⟩ ht
    exact ⟨hJ _ _ _ g1 (ht.mono (by omega)), bx_turn g2 ht (.inl (by omega))⟩
  case hIx =>
    rintro s Wx Wy g1 ht
    exact hJx _ _ _ g1 (ht.mono (by omega))
  case h0 => exact ⟨hJ _ _ _ H0.out (Turn.of hb3), hyb⟩
  case hA =>
    rintro x act s Wx Wy row ⟨b5, h1, h2, h3⟩ hg hr
    exact ⟨b5, h1, bx_noncells h2 hg (fun j e => (hr j e).2), h3⟩
  case assign =>
    intro l2 pre x Wx K hp hsz hi hK
    have ho := (HM.out x (hp.subset (by simp))).one
    obtain ⟨x, c⟩ := x
    obtain ⟨k2, mn2, mx2, ⟨⟨kd2, bd2, bn2, cs2, nm2⟩, sc2⟩, sk2, ks2⟩ := x
    obtain ⟨-, ⟨-, g1⟩, g2⟩ := ho
    simp only at g1
    obtain ⟨A5, c5, rfl, -, -⟩ := sl_get (by decide) g1
    obtain ⟨A6, c6, rfl, -, -⟩ := sl_get (by decide) g2
    simp only [Tr.row] at hK ⊢
    clear g1 g2 hi hseq
    gi_wp2
    exact hK _ _ ⟨Wx.heap.size, by omega, Bx.new _ _ _, rfl⟩ (b1 _ _)
  case body =>
    rintro l2 pre x act Wx hp hsz ⟨g1, g2⟩ ⟨b5, hb5l, hb5, rfl⟩
    have ho := (HM.out x (hp.subset (by simp))).one
    have hY5 : nmdB x.1 = true → ∀ W5, J (nmL pre) W5 → Below Wx.heap.size Wx W5 → _ := fun hx W5 hJ5 hb => HY.out (n - 1 - 1 - 1) (nmL pre) x W5 hJ5 (by rw [← nmL_yes _ _ hx]; exact nmL_pre hp) (by have := hb.size; omega)
    have hyes := nmL_yes pre x
    have hno := nmL_no pre x
    have hin := fun w => isNot_any x.1 w
    obtain ⟨xs, hxs⟩ : ∃ xs, xs = pre ++ [x] := ⟨_, rfl⟩
    obtain ⟨ys, hys⟩ : ∃ ys, ys = nmL pre ++ [x] := ⟨_, rfl⟩
    rw [← hxs] at hyes hno ⊢
    rw [← hys] at hyes hY5
    clear hxs hys hp
    obtain ⟨x, c⟩ := x
    obtain ⟨k2, mn2, mx2, ⟨⟨kd2, bd2, bn2, cs2, nm2⟩, sc2⟩, sk2, ks2⟩ := x
    obtain ⟨-, ⟨-, e1⟩, e2⟩ := ho
    simp only at e1
    obtain ⟨A5, c5, rfl, -, -⟩ := sl_get (by decide) e1
    obtain ⟨A6, c6, rfl, -, -⟩ := sl_get (by decide) e2
    simp only [Tr.row, nmdB, nmT, nd_mk, isNotB, Nd.kind] at hY5 hb5 hyes hno hin ⊢
    clear e1 e2 hseq
    have hK5 := hb5.blk
    have d0 := hK5.cell 0 _ rfl
    have d1 := hK5.cell 1 _ rfl
    have d2 := hK5.cell 2 _ rfl
    have d3 := hK5.cell 3 _ rfl
    have d4 := hK5.cell 4 _ rfl
    have d5 := hK5.cell 5 _ rfl
    have d6 := hK5.cell 6 _ rfl
    have d7 := hK5.cell 7 _ rfl
    have d8 := hK5.cell 8 _ rfl
    have G1 := Lib.hid g1
    have G2 := Lib.hid g2
    have HYS := Lib.hid hyes
    have HNO := Lib.hid hno
    have HB5 := Lib.hid hb5
    clear hK5 hb5 g1 g2 hyes hno hyb
    by_cases h2 : k2 = 2
    · rw [decide_eq_true h2] at hin
      have HNO2 := Lib.hid (HNO.out (by simp [h2]))
      clear HNO HYS hY5 h2
      gi_wp2_with (refine ⟨trivial, (fun h => by cases h), ?_⟩; refine (callsIn_wide.2 (hin _)).mono ?_; rintro e W4 ⟨rfl, hb4⟩)
      refine ⟨(fun f h => by cases h), ?_⟩
      gi_wp2
      exact ⟨KeepW.of hb4, by show J (nmL xs) W4; rw [HNO2.out]; exact hJ _ _ _ G1.out (Turn.of hb4), G2.out.later hb4⟩
    · rw [decide_eq_false h2] at hin
      have hkk : (k2 == 2) = false := by simpa using h2
      rw [hkk] at HYS HNO hY5
      have hcell : ∀ W4, Below Wx.heap.size Wx W4 → W4.cell? ⟨b5, 7, none⟩ = some (.string (strOf nm2)) ∧ W4.cell? ⟨W.heap.size, 0, none⟩ = some (.func (.yield l) #[] #[]) := fun W4 hb => ⟨(HB5.out.later hb).blk.cell 7 _ rfl, (G2.out.later hb).blk.cell 0 _ rfl⟩
      clear h2 hkk
      cases nm2 with
      | nil =>
        have HNO2 := Lib.hid (HNO.out (by simp))
        clear HNO HYS hY5
        have hse : (strOf ([] : List UInt8)).toList.isEmpty = true := by rw [strOf_toL]; rfl
        have hse2 : (strOf ([] : List UInt8)).toList = [] := by rw [strOf_toL]
        gi_wp2_with (refine ⟨trivial, (fun h => by cases h), ?_⟩; refine (callsIn_wide.2 (hin _)).mono ?_; rintro e W4 ⟨rfl, hb4⟩; obtain ⟨z1, z2⟩ := hcell W4 hb4; clear hcell)
        refine ⟨(fun f h => by cases h), ?_⟩
        gi_wp2
        exact ⟨KeepW.of hb4, by show J (nmL xs) W4; rw [HNO2.out]; exact hJ _ _ _ G1.out (Turn.of hb4), G2.out.later hb4⟩
      | cons q qs =>
        have HYS2 := Lib.hid (HYS.out (by simp))
        replace hY5 := hY5 (by simp)
        obtain ⟨st, hst⟩ : ∃ st, st = strOf (q :: qs) := ⟨_, rfl⟩
        have hse : st.toList.isEmpty = false := by rw [hst, strOf_toL]; rfl
        have hse2 : ¬ st.toList = [] := by rw [hst, strOf_toL]; simp
        rw [← hst] at d7 hcell hin hY5 ⊢
        clear HYS HNO hst
        gi_wp2_with (refine ⟨trivial, (fun h => by cases h), ?_⟩; refine (callsIn_wide.2 (hin _)).mono ?_; rintro e W4 ⟨rfl, hb4⟩; obtain ⟨z1, z2⟩ := hcell W4 hb4; clear hcell; obtain ⟨fn2, tmps2, assign2, body2, hy2, hR2⟩ := hY5 W4 (hJ _ _ _ G1.out (Turn.of hb4)) hb4; clear hY5)
        refine ⟨(fun h => by simp [Fence.wide] at h), ?_⟩
        refine hR2.mono ?_
        clear hR2 hy2 d0 d1 d2 d3 d4 d5 d6 d7 d8 z1 z2
        rintro e W5 ⟨hkf, (⟨rfl, hJ5, hk5⟩ | ⟨rfl, hJx5⟩)⟩
        · gi_wp2
          exact ⟨(KeepW.of hb4).trans (hk5.mono (by omega)), by show J (nmL xs) W5; rw [HYS2.out]; exact hJ5, bx_keep (G2.out.later hb4) hk5 (by decide)⟩
        · gi_wp2
          exact ⟨(KeepsFrom.of_below hb4).trans (KeepsFrom.mono hkf (by omega)), by show Jx (nmL xs) W5; rw [HYS2.out]; exact hJx5⟩
  case done =>
    rintro D Wx hD ⟨g1, -⟩ hKd
    clear hseq
    gi_wp2
    exact one_mark rfl (fun W' => J (nmL L) W') (fun _ _ => hJ _ _ _) (fun W' h => ⟨⟨_, rfl⟩, .inl h⟩) (show W.heap.size ≤ D by omega) hKd g1
  case stop =>
    rintro D pre Wx hD hp g1 hKd
    clear hseq
    gi_wp2
    exact one_mark rfl (fun W' => Jx (nmL pre) W') (fun _ _ => hJx _ _ _) (fun W' h => ⟨⟨_, rfl⟩, .inr ⟨_, nmL_pre hp, h⟩⟩) (show W.heap.size ≤ D by omega) hKd g1
end Go.Proofs.YtdoioaeppepndaaGreatDoor
namespace Go.Proofs.YtdoioaeppepndaaGreatDoor
open Go.RowKit Go.Shelf
open A8 W10
attribute [local go_sem] Oper.semAt_some

theorem El.same' {w w' : World} {p : Addr} {us : List Value} {m : Nat} (h : El w p us) (hb : SameB m w w') (hm : w.heap.size ≤ m) : El w' p us :=
  h.same ⟨hb.1, fun k hk => hb.2 k (by omega)⟩
theorem useH_snoc (hv : List Hv) (i : Nat) (h : i < hv.length) : (hv.take (i + 1)).map (fun h => h.ag.nm) = (hv.take i).map (fun h => h.ag.nm) ++ [hv[i].ag.nm] := by rw [take_snoc hv i h, List.map_append]; rfl
theorem useE_snoc (em : List Ag) (i : Nat) (h : i < em.length) : (em.take (i + 1)).map (fun h => h.nm) = (em.take i).map (fun h => h.nm) ++ [em[i].nm] := by rw [take_snoc em i h, List.map_append]; rfl
theorem take_pre {α β : Type} (f : α → β) (l : List α) (i : Nat) : (l.take i).map f <+: l.map f := by
  rw [List.map_take]
  exact List.take_prefix _ _
theorem wuses_any (q : GQ) (w : World) (ho : ∃ (Ac Ak Ah Ae : Option Addr) (cc ck ch ce nc nk nh ne : Nat) (g : GA) (k mn mx : Int) (ks : List Tr), g.sc = .slice Ac nc cc ∧ q.t = .mk k mn mx g (.slice Ak nk ck) ks ∧ q.sh = .slice Ah nh ch ∧ q.se = .slice Ae ne ce) :
    Calls Tryz.prog 85 #[.agg q.row.toArray] w fun e w' => e = .returned (.func (.func 119) #[] #[.pointer (some ⟨w.heap.size, 0, none⟩)]) ∧ w' = w.alloc (.cells q.row.toArray 35) := by
  obtain ⟨Ac, Ak, Ah, Ae, cc, ck, ch, ce, nc, nk, nh, ne, ⟨a, sc⟩, k, mn, mx, ks, h1, h2, h3, h4⟩ := ho
  obtain ⟨T, wi, sh, hv, se, em⟩ := q
  simp only at h1 h2 h3 h4
  subst h1 h2 h3 h4
  simp only [GQ.row, Tr.row, List.cons_append, List.nil_append]
  go_enter Tryz.func85, Tryz.ntmps85
  go_wp2
  go_ret
  exact ⟨rfl, rfl⟩
set_option maxRecDepth 100000 in
set_option maxHeartbeats 8000000 in
theorem wuses_seq (w0 : World) (q : GQ) (hq : QW w0 q) (b : Nat) (w : World) (hS : SameB w0.heap.size w0 w) (hB : Bx w b 35 q.row) :
    SeqO Tryz.prog 119 #[.pointer (some ⟨b, 0, none⟩)] (fun s : List UInt8 => #[.string (strOf s)]) KT 3 w0.heap.size (useL q.qu) w := by
  intro n l J Jx W hW hJ hJx hY h0
  have hSW := hS.trans (SameB.of (hW.mono hS.1))
  have hm0 := hSW.1
  replace hB := hB.later hW
  obtain ⟨hT, -, hh, he, -, -⟩ := hq
  obtain ⟨T, wi, sh, hv, se, em⟩ := q
  simp only at hT hh he
  obtain ⟨A, cap, rfl, hlen, hels⟩ := sl_els (by decide) hvC_len hh
  obtain ⟨A2, cap2, rfl, hlen2, hels2⟩ := sl_els (by decide) agC_len he
  have hu : useL (GQ.qu ⟨T, wi, .slice A hv.length cap, hv, .slice A2 em.length cap2, em⟩) = hv.map (fun h => h.ag.nm) ++ em.map (fun a => a.nm) := rfl
  rw [hu] at hY ⊢
  clear hu hh he hT
  obtain ⟨k, mn, mx, ⟨⟨kd, bd, bn, cs, nm⟩, sc⟩, sk, ks⟩ := T
  simp only [GQ.row, Tr.row, List.cons_append, List.nil_append] at hB
  have c10 := hB.blk.cell 10 _ rfl
  have HE := Lib.hid hels
  have HE2 := Lib.hid hels2
  have HB := Lib.hid hB
  have HY := Lib.hid hY
  have H0 := Lib.hid h0
  have hbl := hB.lt
  clear hels hels2 hB hY h0 hS
  refine callsIn_of_wp Tryz.func119 rfl trivial ?_ rfl
  simp only [Tryz.ntmps119, List.size_toArray, List.length_cons, List.length_nil, Nat.reduceAdd, Nat.reduceSub, Array.replicate_succ, Array.replicate_zero, List.push_toArray, List.append_toArray, List.nil_append, List.cons_append]
  gi_wp2
  gi_loopw [10] (fun v wr => ∃ i : Nat, i ≤ hv.length ∧ v = .int .i64 (i : Int) ∧ KeepW KT 3 w0.heap.size W.heap.size W wr ∧ J ((hv.take i).map fun h => h.ag.nm) wr) (fun v _ => hv.length - (intOf v).toNat)
  case atStart => exact ⟨0, Nat.zero_le _, rfl, KeepW.refl _ _, H0.out⟩
  case round =>
    obtain ⟨i, hi, rfl, hk, hJi⟩ := hrel
    by_cases hlt : i < hv.length
    · obtain ⟨a, rfl, ha, E⟩ := HE.out i hlt
      have hSr := sameb_keep hSW hk
      replace E := E.same hSr
      have h1 : (i : Int) < (hv.length : Int) := by omega
      have hwk : IntKind.i64.wrap ((i : Int) + 1) = (i : Int) + 1 := IntWalk.i64_in _ ⟨by omega, by omega⟩
      have hwr := hk.size
      have hyy := fun (W5 : World) (hb : Below wr.heap.size wr W5) => HY.out (n - 1) ((hv.take i).map fun h => h.ag.nm) hv[i].ag.nm W5 (hJ _ _ _ hJi (Turn.of hb)) (by rw [← useH_snoc hv i hlt]; exact (take_pre _ _ _).trans (List.prefix_append _ _)) (by have := hb.size; omega)
      have hsn := useH_snoc hv i hlt
      obtain ⟨ys, hys⟩ : ∃ ys, ys = (hv.take i).map (fun h => h.ag.nm) ++ [hv[i].ag.nm] := ⟨_, rfl⟩
      rw [← hys] at hyy hsn
      obtain ⟨h, hh⟩ : ∃ h, h = hv[i] := ⟨_, rfl⟩
      rw [← hh] at E hyy
      clear hys hh
      obtain ⟨⟨fn, nmv⟩, op, va⟩ := h
      have e0 := E.at0 _ rfl
      have e1 := E.at1 1 _ (by decide) rfl
      have e2 := E.at1 2 _ (by decide) rfl
      have e3 := E.at1 3 _ (by decide) rfl
      have HK := Lib.hid hk
      have HS := Lib.hid hsn
      have HYY := Lib.hid hyy
      clear E hk hJi hsn hyy c10
      obtain ⟨fy, ty, ay, by_, hy, hR⟩ := HYY.out (wr.alloc (.cells #[.int .i64 fn, .string (strOf nmv), .int .i64 op, .int .i64 va] 96)) (b1 _ _)
      gi_wp2
      refine ⟨(fun h => by cases h), ?_⟩
      refine hR.mono ?_
      clear hR hy e0 e1 e2 e3
      rintro e W5 ⟨hkf, (⟨rfl, hJ5, hk5⟩ | ⟨rfl, hJx5⟩)⟩
      · gi_wp2
        go_roundw
        case rel => exact ⟨i + 1, by omega, by rfl, HK.out.trans ((KeepW.of (b1 _ _)).trans hk5), by rw [HS.out]; exact hJ5⟩
        case measure => simp [intOf]; omega
      · gi_wp2
        refine bodyPost_ret (results_none rfl _ _ _) rfl ?_
        refine ⟨⟨_, rfl⟩, .inr ⟨ys, ?_, hJx5⟩⟩
        rw [← HS.out]
        exact (take_pre _ _ _).trans (List.prefix_append _ _)
    · have h1 : ¬ (i : Int) < (hv.length : Int) := by omega
      have hall : hv.take i = hv := by rw [List.take_of_length_le (by omega)]
      rw [hall] at hJi
      have c11 := (bx_keep HB.out hk (by decide)).blk.cell 11 _ rfl
      clear HE hall c10
      gi_wp2
      gi_loopw [24] (fun v w2 => ∃ j : Nat, j ≤ em.length ∧ v = .int .i64 (j : Int) ∧ KeepW KT 3 w0.heap.size W.heap.size W w2 ∧ J (hv.map (fun h => h.ag.nm) ++ (em.take j).map fun h => h.nm) w2) (fun v _ => em.length - (intOf v).toNat)
      case atStart => exact ⟨0, Nat.zero_le _, rfl, hk, by simpa using hJi⟩
      case round =>
        clear hJi hk c11
        obtain ⟨j, hj, rfl, hk, hJj⟩ := hrel
        by_cases hlt : j < em.length
        · obtain ⟨a, rfl, ha, E⟩ := HE2.out j hlt
          have hSr := sameb_keep hSW hk
          replace E := E.same hSr
          have h1 : (j : Int) < (em.length : Int) := by omega
          have hwk : IntKind.i64.wrap ((j : Int) + 1) = (j : Int) + 1 := IntWalk.i64_in _ ⟨by omega, by omega⟩
          have hwr := hk.size
          have hsn : (hv.map (fun h => h.ag.nm) ++ (em.take (j + 1)).map fun h => h.nm) = (hv.map (fun h => h.ag.nm) ++ (em.take j).map fun h => h.nm) ++ [em[j].nm] := by rw [useE_snoc em j hlt, List.append_assoc]
          have hpr : (hv.map (fun h => h.ag.nm) ++ (em.take (j + 1)).map fun h => h.nm) <+: hv.map (fun h => h.ag.nm) ++ em.map fun h => h.nm := (List.prefix_append_right_inj _).2 (take_pre _ _ _)
          have hyy := fun (W5 : World) (hb : Below wr.heap.size wr W5) => HY.out (n - 1) (hv.map (fun h => h.ag.nm) ++ (em.take j).map fun h => h.nm) em[j].nm W5 (hJ _ _ _ hJj (Turn.of hb)) (by rw [← hsn]; exact hpr) (by have := hb.size; omega)
          obtain ⟨ys, hys⟩ : ∃ ys, ys = (hv.map (fun h => h.ag.nm) ++ (em.take j).map fun h => h.nm) ++ [em[j].nm] := ⟨_, rfl⟩
          rw [← hys] at hyy hsn
          obtain ⟨h, hh⟩ : ∃ h, h = em[j] := ⟨_, rfl⟩
          rw [← hh] at E hyy
          clear hys hh
          obtain ⟨fn, nmv⟩ := h
          have e0 := E.at0 _ rfl
          have e1 := E.at1 1 _ (by decide) rfl
          have HK := Lib.hid hk
          have HS := Lib.hid hsn
          have HP := Lib.hid hpr
          have HYY := Lib.hid hyy
          clear E hk hJj hsn hyy hpr
          obtain ⟨fy, ty, ay, by_, hy, hR⟩ := HYY.out (wr.alloc (.cells #[.int .i64 fn, .string (strOf nmv)] 92)) (b1 _ _)
          gi_wp2
          refine ⟨(fun h => by cases h), ?_⟩
          refine hR.mono ?_
          clear hR hy e0 e1
          rintro e W5 ⟨hkf, (⟨rfl, hJ5, hk5⟩ | ⟨rfl, hJx5⟩)⟩
          · gi_wp2
            go_roundw
            case rel => exact ⟨j + 1, by omega, by rfl, HK.out.trans ((KeepW.of (b1 _ _)).trans hk5), by rw [HS.out]; exact hJ5⟩
            case measure => simp [intOf]; omega
          · gi_wp2
            refine bodyPost_ret (results_none rfl _ _ _) rfl ?_
            exact ⟨⟨_, rfl⟩, .inr ⟨ys, HS.out ▸ HP.out, hJx5⟩⟩
        · have h1 : ¬ (j : Int) < (em.length : Int) := by omega
          have hall : em.take j = em := by rw [List.take_of_length_le (by omega)]
          rw [hall] at hJj
          have HJ := Lib.hid hJj
          clear HE2 hall hJj
          gi_wp2
          go_end0
          exact ⟨⟨_, rfl⟩, .inl HJ.out⟩
end Go.Proofs.YtdoioaeppepndaaGreatDoor
