/- Package ast: what is the same. -/
import Derived.Test.YtdjaijhlhhnmeaaGreatDoorAstOne
import Derived.Test.YtdjaijhlhhnmeaaGreatDoorAstThr
import Derived.Deep.RegionWith
import Derived.Deep.QuietTactic
namespace Go.Proofs.YtdjaijhlhhnmeaaGreatDoor.A8
mutual
def Nd.dec : (x y : Nd) → Decidable (x = y)
  | .mk k mn mx a ks, .mk k' mn' mx' a' ks' =>
    match Nd.decL ks ks' with
    | .isTrue h => if h2 : k = k' ∧ mn = mn' ∧ mx = mx' ∧ a = a' then .isTrue (by rw [h, h2.1, h2.2.1, h2.2.2.1, h2.2.2.2]) else .isFalse (fun e => h2 (by cases e; exact ⟨rfl, rfl, rfl, rfl⟩))
    | .isFalse h => .isFalse (fun e => h (by cases e; rfl))
def Nd.decL : (x y : List Nd) → Decidable (x = y)
  | [], [] => .isTrue rfl
  | [], _ :: _ => .isFalse (fun e => by cases e)
  | _ :: _, [] => .isFalse (fun e => by cases e)
  | a :: r, b :: s =>
    match Nd.dec a b with
    | .isTrue h => match Nd.decL r s with
      | .isTrue h2 => .isTrue (by rw [h, h2])
      | .isFalse h2 => .isFalse (fun e => h2 (by cases e; rfl))
    | .isFalse h => .isFalse (fun e => h (by cases e; rfl))
end
instance : DecidableEq Nd := Nd.dec
/-- Whether two queries are equal. -/
def sameQ (a b : Qu) : Bool := decide (a.p = b.p) && decide (a.wi = b.wi) && decide (a.hv = b.hv) && decide (a.em = b.em)
theorem sameQ_iff (a b : Qu) : sameQ a b = true ↔ a = b := by
  obtain ⟨p, w, h, e⟩ := a
  obtain ⟨p', w', h', e'⟩ := b
  simp only [sameQ, Bool.and_eq_true, decide_eq_true_eq, Qu.mk.injEq, and_assoc]
theorem sameQ_refl (a : Qu) : sameQ a a = true := (sameQ_iff a a).2 rfl
theorem sameQ_symm (a b : Qu) : sameQ b a = sameQ a b := by
  rw [Bool.eq_iff_iff, sameQ_iff, sameQ_iff]
  exact eq_comm
end Go.Proofs.YtdjaijhlhhnmeaaGreatDoor.A8
namespace Go.Proofs.YtdjaijhlhhnmeaaGreatDoor
open Go.RowKit
open A8 Tk7

set_option maxRecDepth 100000 in
set_option maxHeartbeats 8000000 in
theorem sameListNode_any (u v : Value) (xs ys : List Tr) (w : World) (hu : Sl w 9 xs.length u (xs.flatMap Tr.row)) (hv : Sl w 9 ys.length v (ys.flatMap Tr.row))
    (hel : ∀ x ∈ xs, ∀ y ∈ ys, ∀ w1, Below w.heap.size w w1 → Calls Tryz.prog 58 #[.agg x.row.toArray, .agg y.row.toArray] w1 fun e w' => e = .returned (.bool (decide (x.nd = y.nd))) ∧ Below w1.heap.size w1 w') :
    Calls Tryz.prog 121 #[u, v, .func (.func 58) #[] #[]] w fun e w' => e = .returned (.bool (decide (xs.map Tr.nd = ys.map Tr.nd))) ∧ Below w.heap.size w w' := by
  obtain ⟨A, cap, rfl, hm, hc⟩ := sl_els (by decide) row_len hu
  obtain ⟨A', cap', rfl, hm', hc'⟩ := sl_els (by decide) row_len hv
  have HC := Lib.hid hc
  have HC' := Lib.hid hc'
  have HH := Lib.hid hel
  clear hc hc' hu hv hel
  by_cases hlen : xs.length = ys.length
  · have hne : ((xs.length : Int) != (ys.length : Int)) = false := by simp [hlen]
    have HL := Lib.hid hlen
    clear hlen
    go_enter Tryz.func121, Tryz.ntmps121
    go_wp2
    go_loopg [15] xs.length (fun g iv wr => ∃ k : Nat, k ≤ xs.length ∧ g = xs.length - k ∧ iv = .int .i64 (k : Int) ∧ Hid (Below w.heap.size w wr) ∧ Hid (decide (xs.map Tr.nd = ys.map Tr.nd) = decide ((xs.drop k).map Tr.nd = (ys.drop k).map Tr.nd)))
    case atStart => exact ⟨0, Nat.zero_le _, rfl, rfl, Lib.hid (Below.refl _ _), Lib.hid rfl⟩
    case round =>
      obtain ⟨k, hk, hg, rfl, hB, hS⟩ := hrel
      by_cases hlt : k < xs.length
      · have hlt2 : k < ys.length := by rw [← HL.out]; exact hlt
        obtain ⟨a, rfl, ha, E⟩ := HC.out k hlt
        obtain ⟨a', rfl, ha', E'⟩ := HC'.out k hlt2
        have hst : decide ((xs.drop k).map Tr.nd = (ys.drop k).map Tr.nd) = (decide ((xs[k]).nd = (ys[k]).nd) && decide ((xs.drop (k + 1)).map Tr.nd = (ys.drop (k + 1)).map Tr.nd)) := by
          rw [List.drop_eq_getElem_cons hlt, List.drop_eq_getElem_cons hlt2]
          simp only [List.map_cons, List.cons.injEq, Bool.decide_and]
        have hq := fun w1 (hb : Below wr.drew.heap.size wr.drew w1) => HH.out xs[k] (List.getElem_mem hlt) ys[k] (List.getElem_mem hlt2) w1 (bstep hB.out.drew hb)
        obtain ⟨x, hx⟩ : ∃ x, x = xs[k] := ⟨_, rfl⟩
        obtain ⟨y, hy⟩ : ∃ y, y = ys[k] := ⟨_, rfl⟩
        rw [← hx] at E hst hq
        rw [← hy] at E' hst hq
        obtain ⟨q, hqq⟩ : ∃ q, q = decide (x.nd = y.nd) := ⟨_, rfl⟩
        rw [← hqq] at hst hq
        rw [hst] at hS
        replace E := (E.same (SameB.of hB.out)).later (Below.refl _ _).drew
        replace E' := (E'.same (SameB.of hB.out)).later (Below.refl _ _).drew
        clear hx hy hqq hst HH
        obtain ⟨xk, xmn, xmx, ⟨⟨xkd, xbd, xbn, xcs, xnm⟩, xsc⟩, xsk, xks⟩ := x
        obtain ⟨yk, ymn, ymx, ⟨⟨ykd, ybd, ybn, ycs, ynm⟩, ysc⟩, ysk, yks⟩ := y
        simp only [Tr.row] at hq E E'
        have c0 := E.at0 _ rfl
        have d0 := E'.at0 _ rfl
        have c1 := E.at1 1 _ (by decide) rfl
        have d1 := E'.at1 1 _ (by decide) rfl
        have c2 := E.at1 2 _ (by decide) rfl
        have d2 := E'.at1 2 _ (by decide) rfl
        have c3 := E.at1 3 _ (by decide) rfl
        have d3 := E'.at1 3 _ (by decide) rfl
        have c4 := E.at1 4 _ (by decide) rfl
        have d4 := E'.at1 4 _ (by decide) rfl
        have c5 := E.at1 5 _ (by decide) rfl
        have d5 := E'.at1 5 _ (by decide) rfl
        have c6 := E.at1 6 _ (by decide) rfl
        have d6 := E'.at1 6 _ (by decide) rfl
        have c7 := E.at1 7 _ (by decide) rfl
        have d7 := E'.at1 7 _ (by decide) rfl
        have c8 := E.at1 8 _ (by decide) rfl
        have d8 := E'.at1 8 _ (by decide) rfl
        have h1 : (k : Int) < (xs.length : Int) := by omega
        have h2 : (k : Int) < (ys.length : Int) := by omega
        have hwk : IntKind.i64.wrap ((k : Int) + 1) = (k : Int) + 1 := IntWalk.i64_in _ ⟨by omega, by omega⟩
        clear E E' HC HC'
        have hq0 := hq _ (Below.refl _ _)
        have HB2 := fun (w2 : World) (hb2 : Below wr.drew.heap.size wr.drew w2) => bstep hB.out.drew hb2
        clear hq
        cases q with
        | true =>
          have HS2 := Lib.hid (show decide (xs.map Tr.nd = ys.map Tr.nd) = decide ((xs.drop (k + 1)).map Tr.nd = (ys.drop (k + 1)).map Tr.nd) by rw [hS.out, Bool.true_and])
          clear hS
          go_wp2
          go_region_with (go_at_call 58; refine hq0.mono ?_; rintro e w2 ⟨rfl, hb2⟩)
          all_goals
            go_wp2
            go_roundg (xs.length - (k + 1))
            case rel => exact ⟨k + 1, by omega, rfl, by go_num, Lib.hid (HB2 _ hb2), HS2⟩
            case measure => omega
        | false =>
          have HS2 := Lib.hid (show decide (xs.map Tr.nd = ys.map Tr.nd) = false by rw [hS.out, Bool.false_and])
          clear hS
          go_wp2
          go_region_with (go_at_call 58; refine hq0.mono ?_; rintro e w2 ⟨rfl, hb2⟩)
          all_goals
            go_wp2
            go_ret
            exact ⟨by rw [HS2.out]; rfl, HB2 _ hb2⟩
      · have e1 := Lib.hid (show decide (xs.map Tr.nd = ys.map Tr.nd) = true by rw [hS.out, List.drop_eq_nil_of_le (by omega), List.drop_eq_nil_of_le (by have := HL.out; omega)]; rfl)
        have hi : ¬ (k : Int) < (xs.length : Int) := by omega
        clear HC HC' hS HH
        go_wp2
        go_ret
        exact ⟨by rw [e1.out]; rfl, hB.out⟩
  · have hne : ((xs.length : Int) != (ys.length : Int)) = true := by simp; omega
    have e1 := Lib.hid (show decide (xs.map Tr.nd = ys.map Tr.nd) = false by rw [decide_eq_false_iff_not]; exact fun e => hlen (by have := congrArg List.length e; simpa using this))
    go_enter Tryz.func121, Tryz.ntmps121
    go_wp2
    go_ret
    exact ⟨by rw [e1.out]; rfl, Below.refl _ _⟩
set_option maxRecDepth 100000 in
set_option maxHeartbeats 4000000 in
theorem sameNode_0 (xk xmn xmx : Int) (yk : Int) (ymn : Int) (ymx : Int) (xkd : Int) (xbd : Bool) (xbn : Int) (xsc : Value) (xnm : ByteArray) (xsk : Value) (ykd : Int) (ybd : Bool) (ybn : Int) (ysc : Value) (ynm : ByteArray) (ysk : Value) (w : World) (h : ¬ xk = yk)  :
    Calls Tryz.prog 58 #[.agg #[.int .i64 xk, .int .i64 xmn, .int .i64 xmx, .int .i64 xkd, .bool xbd, .int .u64 xbn, xsc, .string xnm, xsk], .agg #[.int .i64 yk, .int .i64 ymn, .int .i64 ymx, .int .i64 ykd, .bool ybd, .int .u64 ybn, ysc, .string ynm, ysk]] w fun e w' => e = .returned (.bool false) ∧ Below w.heap.size w w' := by
  have hb : (xk == yk) = false := by rw [beq_eq_false_iff_ne]; exact h
  go_enter Tryz.func58, Tryz.ntmps58
  go_wp2
  go_ret
  exact ⟨rfl, b2 _ _ _⟩
set_option maxRecDepth 100000 in
set_option maxHeartbeats 4000000 in
theorem sameNode_1 (xk xmn xmx : Int) (ymn : Int) (ymx : Int) (xkd : Int) (xbd : Bool) (xbn : Int) (xsc : Value) (xnm : ByteArray) (xsk : Value) (ykd : Int) (ybd : Bool) (ybn : Int) (ysc : Value) (ynm : ByteArray) (ysk : Value) (w : World) (h : ¬ xmn = ymn)  :
    Calls Tryz.prog 58 #[.agg #[.int .i64 xk, .int .i64 xmn, .int .i64 xmx, .int .i64 xkd, .bool xbd, .int .u64 xbn, xsc, .string xnm, xsk], .agg #[.int .i64 xk, .int .i64 ymn, .int .i64 ymx, .int .i64 ykd, .bool ybd, .int .u64 ybn, ysc, .string ynm, ysk]] w fun e w' => e = .returned (.bool false) ∧ Below w.heap.size w w' := by
  have hb : (xmn == ymn) = false := by rw [beq_eq_false_iff_ne]; exact h
  go_enter Tryz.func58, Tryz.ntmps58
  go_wp2
  go_ret
  exact ⟨rfl, b2 _ _ _⟩
set_option maxRecDepth 100000 in
set_option maxHeartbeats 4000000 in
theorem sameNode_2 (xk xmn xmx : Int) (ymx : Int) (xkd : Int) (xbd : Bool) (xbn : Int) (xsc : Value) (xnm : ByteArray) (xsk : Value) (ykd : Int) (ybd : Bool) (ybn : Int) (ysc : Value) (ynm : ByteArray) (ysk : Value) (w : World) (h : ¬ xmx = ymx)  :
    Calls Tryz.prog 58 #[.agg #[.int .i64 xk, .int .i64 xmn, .int .i64 xmx, .int .i64 xkd, .bool xbd, .int .u64 xbn, xsc, .string xnm, xsk], .agg #[.int .i64 xk, .int .i64 xmn, .int .i64 ymx, .int .i64 ykd, .bool ybd, .int .u64 ybn, ysc, .string ynm, ysk]] w fun e w' => e = .returned (.bool false) ∧ Below w.heap.size w w' := by
  have hb : (xmx == ymx) = false := by rw [beq_eq_false_iff_ne]; exact h
  go_enter Tryz.func58, Tryz.ntmps58
  go_wp2
  go_ret
  exact ⟨rfl, b2 _ _ _⟩
set_option maxRecDepth 100000 in
set_option maxHeartbeats 4000000 in
theorem sameNode_3 (xk xmn xmx : Int) (xkd : Int) (xbd : Bool) (xbn : Int) (xsc : Value) (xnm : ByteArray) (xsk : Value) (ykd : Int) (ybd : Bool) (ybn : Int) (ysc : Value) (ynm : ByteArray) (ysk : Value) (w : World) 
    (hA : ∀ w', Below w.heap.size w w' → Calls Tryz.prog 120 #[.agg #[.int .i64 xkd, .bool xbd, .int .u64 xbn, xsc, .string xnm], .agg #[.int .i64 ykd, .bool ybd, .int .u64 ybn, ysc, .string ynm]] w' fun e w'' => e = .returned (.bool false) ∧ Below w'.heap.size w' w'') :
    Calls Tryz.prog 58 #[.agg #[.int .i64 xk, .int .i64 xmn, .int .i64 xmx, .int .i64 xkd, .bool xbd, .int .u64 xbn, xsc, .string xnm, xsk], .agg #[.int .i64 xk, .int .i64 xmn, .int .i64 xmx, .int .i64 ykd, .bool ybd, .int .u64 ybn, ysc, .string ynm, ysk]] w fun e w' => e = .returned (.bool false) ∧ Below w.heap.size w w' := by
  go_enter Tryz.func58, Tryz.ntmps58
  go_wp2_with (go_at_call 120; refine (hA _ (b2 _ _ _)).mono ?_; rintro e w3 ⟨rfl, hb3⟩)
  go_ret
  exact ⟨rfl, bstep (b2 _ _ _) hb3⟩
set_option maxRecDepth 100000 in
set_option maxHeartbeats 4000000 in
theorem sameNode_4 (xk xmn xmx : Int) (xkd : Int) (xbd : Bool) (xbn : Int) (xsc : Value) (xnm : ByteArray) (xsk : Value) (ykd : Int) (ybd : Bool) (ybn : Int) (ysc : Value) (ynm : ByteArray) (ysk : Value) (q : Bool) (w : World) 
    (hA : ∀ w', Below w.heap.size w w' → Calls Tryz.prog 120 #[.agg #[.int .i64 xkd, .bool xbd, .int .u64 xbn, xsc, .string xnm], .agg #[.int .i64 ykd, .bool ybd, .int .u64 ybn, ysc, .string ynm]] w' fun e w'' => e = .returned (.bool true) ∧ Below w'.heap.size w' w'')
    (hL : ∀ w', Below w.heap.size w w' → Calls Tryz.prog 121 #[xsk, ysk, .func (.func 58) #[] #[]] w' fun e w'' => e = .returned (.bool q) ∧ Below w'.heap.size w' w'') :
    Calls Tryz.prog 58 #[.agg #[.int .i64 xk, .int .i64 xmn, .int .i64 xmx, .int .i64 xkd, .bool xbd, .int .u64 xbn, xsc, .string xnm, xsk], .agg #[.int .i64 xk, .int .i64 xmn, .int .i64 xmx, .int .i64 ykd, .bool ybd, .int .u64 ybn, ysc, .string ynm, ysk]] w fun e w' => e = .returned (.bool q) ∧ Below w.heap.size w w' := by
  obtain ⟨W, hWW⟩ : ∃ W, W = (w.alloc (.cells #[.int .i64 xk, .int .i64 xmn, .int .i64 xmx, .int .i64 xkd, .bool xbd, .int .u64 xbn, xsc, .string xnm, xsk] 29)).alloc (.cells #[.int .i64 xk, .int .i64 xmn, .int .i64 xmx, .int .i64 ykd, .bool ybd, .int .u64 ybn, ysc, .string ynm, ysk] 29) := ⟨_, rfl⟩
  have hb2 : Below w.heap.size w W := hWW ▸ b2 _ _ _
  have hX : Blk W w.heap.size [.int .i64 xk, .int .i64 xmn, .int .i64 xmx, .int .i64 xkd, .bool xbd, .int .u64 xbn, xsc, .string xnm, xsk] := by rw [hWW]; exact (Blk.new w [.int .i64 xk, .int .i64 xmn, .int .i64 xmx, .int .i64 xkd, .bool xbd, .int .u64 xbn, xsc, .string xnm, xsk] 29).alloc _
  have hY : Blk W (w.heap.size + 1) [.int .i64 xk, .int .i64 xmn, .int .i64 xmx, .int .i64 ykd, .bool ybd, .int .u64 ybn, ysc, .string ynm, ysk] := by rw [hWW]; exact Blk.is (us := [.int .i64 xk, .int .i64 xmn, .int .i64 xmx, .int .i64 ykd, .bool ybd, .int .u64 ybn, ysc, .string ynm, ysk]) _ (by simp)
  have hA1 := hA W hb2
  have hcell : ∀ w1, Below W.heap.size W w1 → w1.cell? ⟨w.heap.size, 8, none⟩ = some xsk ∧ w1.cell? ⟨w.heap.size + 1, 8, none⟩ = some ysk := fun w1 hb => ⟨(hX.later hb).cell 8 _ rfl, (hY.later hb).cell 8 _ rfl⟩
  clear hX hY hA
  subst hWW
  go_enter Tryz.func58, Tryz.ntmps58
  go_wp2_with (first | (go_at_call 120; refine hA1.mono ?_; rintro e w3 ⟨rfl, hb3⟩; obtain ⟨c8, d8⟩ := hcell _ hb3) | (go_at_call 121; refine (hL _ (bstep hb2 hb3)).mono ?_; rintro e w4 ⟨rfl, hb4⟩))
  go_ret
  exact ⟨rfl, bstep (bstep hb2 hb3) hb4⟩
theorem sameNode_any (S : Tr) : ∀ (T : Tr) (w : World), TrW w S → TrW w T →
    Calls Tryz.prog 58 #[.agg S.row.toArray, .agg T.row.toArray] w fun e w' => e = .returned (.bool (decide (S.nd = T.nd))) ∧ Below w.heap.size w w' := by
  refine Tr.ind (P := fun S => ∀ (T : Tr) (w : World), TrW w S → TrW w T →
    Calls Tryz.prog 58 #[.agg S.row.toArray, .agg T.row.toArray] w fun e w' => e = .returned (.bool (decide (S.nd = T.nd))) ∧ Below w.heap.size w w') (fun xk xmn xmx xg xsk xks ih => ?_) S
  intro T w hS hT
  obtain ⟨yk, ymn, ymx, yg, ysk, yks⟩ := T
  have hx := hS.one
  have hy := hT.one
  obtain ⟨-, hxg, hxl⟩ := hx
  obtain ⟨-, hyg, hyl⟩ := hy
  have hA := fun w' (hb : Below w.heap.size w w') => sameAtom_any xg yg w' (hxg.later hb) (hyg.later hb)
  have hL := fun w' (hb : Below w.heap.size w w') => sameListNode_any xsk ysk xks yks w' (hxl.later hb) (hyl.later hb) (fun x hx y hy w1 hb1 => ih x hx y w1 (((hS.kid hx).later hb).later hb1) (((hT.kid hy).later hb).later hb1))
  obtain ⟨xa, xsc⟩ := xg
  obtain ⟨ya, ysc⟩ := yg
  have hE : (Tr.nd (.mk xk xmn xmx ⟨xa, xsc⟩ xsk xks) = Tr.nd (.mk yk ymn ymx ⟨ya, ysc⟩ ysk yks)) ↔ (xk = yk ∧ xmn = ymn ∧ xmx = ymx ∧ xa = ya ∧ xks.map Tr.nd = yks.map Tr.nd) := by rw [nd_mk, nd_mk, Nd.mk.injEq]
  have hD : decide (Tr.nd (.mk xk xmn xmx ⟨xa, xsc⟩ xsk xks) = Tr.nd (.mk yk ymn ymx ⟨ya, ysc⟩ ysk yks)) = (decide (xk = yk) && (decide (xmn = ymn) && (decide (xmx = ymx) && (decide (xa = ya) && decide (xks.map Tr.nd = yks.map Tr.nd))))) := by
    rw [Bool.eq_iff_iff]
    simp only [decide_eq_true_eq, Bool.and_eq_true]
    exact hE
  rw [hD]
  clear hD hE
  simp only at hA
  obtain ⟨xkd, xbd, xbn, xcs, xnm⟩ := xa
  obtain ⟨ykd, ybd, ybn, ycs, ynm⟩ := ya
  simp only [gaC, Tr.row] at hA ⊢
  by_cases e1 : xk = yk
  · subst e1
    by_cases e2 : xmn = ymn
    · subst e2
      by_cases e3 : xmx = ymx
      · subst e3
        simp only [decide_true, Bool.true_and]
        cases ea : decide ((⟨xkd, xbd, xbn, xcs, xnm⟩ : At) = ⟨ykd, ybd, ybn, ycs, ynm⟩) with
        | false =>
          rw [ea] at hA
          simp only [Bool.false_and]
          exact sameNode_3 xk xmn xmx xkd xbd xbn xsc (strOf xnm) xsk ykd ybd ybn ysc (strOf ynm) ysk w hA
        | true =>
          rw [ea] at hA
          simp only [Bool.true_and]
          exact sameNode_4 xk xmn xmx xkd xbd xbn xsc (strOf xnm) xsk ykd ybd ybn ysc (strOf ynm) ysk _ w hA hL
      · simp only [decide_eq_false e3, Bool.false_and, Bool.and_false]
        exact sameNode_2 xk xmn xmx ymx xkd xbd xbn xsc (strOf xnm) xsk ykd ybd ybn ysc (strOf ynm) ysk w e3
    · simp only [decide_eq_false e2, Bool.false_and, Bool.and_false]
      exact sameNode_1 xk xmn xmx ymn ymx xkd xbd xbn xsc (strOf xnm) xsk ykd ybd ybn ysc (strOf ynm) ysk w e2
  · simp only [decide_eq_false e1, Bool.false_and]
    exact sameNode_0 xk xmn xmx yk ymn ymx xkd xbd xbn xsc (strOf xnm) xsk ykd ybd ybn ysc (strOf ynm) ysk w e1
end Go.Proofs.YtdjaijhlhhnmeaaGreatDoor
namespace Go.Proofs.YtdjaijhlhhnmeaaGreatDoor
open Go.RowKit
open A8 Tk7

end Go.Proofs.YtdjaijhlhhnmeaaGreatDoor
namespace Go.Proofs.YtdjaijhlhhnmeaaGreatDoor
open Go.RowKit
open A8 Tk7

end Go.Proofs.YtdjaijhlhhnmeaaGreatDoor
namespace Go.Proofs.YtdjaijhlhhnmeaaGreatDoor
open Go.RowKit
open A8 Tk7

theorem qrow_is' (k mn mx kd : Int) (bd : Bool) (bn : Int) (cs : List Cn) (nm : List UInt8) (sc sk : Value) (ks : List Tr) (wi : Int) (sh se : Value) (hv : List Hv) (em : List Ag) :
    GQ.row ⟨.mk k mn mx ⟨⟨kd, bd, bn, cs, nm⟩, sc⟩ sk ks, wi, sh, hv, se, em⟩ = [.int .i64 k, .int .i64 mn, .int .i64 mx, .int .i64 kd, .bool bd, .int .u64 bn, sc, .string (strOf nm), sk, .int .u64 wi, sh, se] := rfl
set_option maxRecDepth 100000 in
set_option maxHeartbeats 4000000 in
theorem same_n (xk xmn xmx xkd : Int) (xbd : Bool) (xbn : Int) (xsc : Value) (xnm : ByteArray) (xsk : Value) (xw : Int) (yw : Int) (xh xe : Value) (yk ymn ymx ykd : Int) (ybd : Bool) (ybn : Int) (ysc : Value) (ynm : ByteArray) (ysk : Value) (yh ye : Value) (w : World)
    (hN : ∀ w', Below w.heap.size w w' → Calls Tryz.prog 58 #[.agg #[.int .i64 xk, .int .i64 xmn, .int .i64 xmx, .int .i64 xkd, .bool xbd, .int .u64 xbn, xsc, .string xnm, xsk], .agg #[.int .i64 yk, .int .i64 ymn, .int .i64 ymx, .int .i64 ykd, .bool ybd, .int .u64 ybn, ysc, .string ynm, ysk]] w' fun e w'' => e = .returned (.bool false) ∧ Below w'.heap.size w' w'') :
    Calls Tryz.prog 32 #[.agg #[.int .i64 xk, .int .i64 xmn, .int .i64 xmx, .int .i64 xkd, .bool xbd, .int .u64 xbn, xsc, .string xnm, xsk, .int .u64 xw, xh, xe], .agg #[.int .i64 yk, .int .i64 ymn, .int .i64 ymx, .int .i64 ykd, .bool ybd, .int .u64 ybn, ysc, .string ynm, ysk, .int .u64 yw, yh, ye]] w fun e w' => e = .returned (.bool false) ∧ Below w.heap.size w w' := by
  obtain ⟨W, hWW⟩ : ∃ W, W = (w.alloc (.cells #[.int .i64 xk, .int .i64 xmn, .int .i64 xmx, .int .i64 xkd, .bool xbd, .int .u64 xbn, xsc, .string xnm, xsk, .int .u64 xw, xh, xe] 33)).alloc (.cells #[.int .i64 yk, .int .i64 ymn, .int .i64 ymx, .int .i64 ykd, .bool ybd, .int .u64 ybn, ysc, .string ynm, ysk, .int .u64 yw, yh, ye] 33) := ⟨_, rfl⟩
  have hb2 : Below w.heap.size w W := hWW ▸ b2 _ _ _
  have hX : Blk W w.heap.size [.int .i64 xk, .int .i64 xmn, .int .i64 xmx, .int .i64 xkd, .bool xbd, .int .u64 xbn, xsc, .string xnm, xsk, .int .u64 xw, xh, xe] := by rw [hWW]; exact (Blk.new w [.int .i64 xk, .int .i64 xmn, .int .i64 xmx, .int .i64 xkd, .bool xbd, .int .u64 xbn, xsc, .string xnm, xsk, .int .u64 xw, xh, xe] 33).alloc _
  have hY : Blk W (w.heap.size + 1) [.int .i64 yk, .int .i64 ymn, .int .i64 ymx, .int .i64 ykd, .bool ybd, .int .u64 ybn, ysc, .string ynm, ysk, .int .u64 yw, yh, ye] := by rw [hWW]; exact Blk.is (us := [.int .i64 yk, .int .i64 ymn, .int .i64 ymx, .int .i64 ykd, .bool ybd, .int .u64 ybn, ysc, .string ynm, ysk, .int .u64 yw, yh, ye]) _ (by simp)
  have hN1 := hN W hb2
  have hcell : ∀ w1, Below W.heap.size W w1 → Blk w1 w.heap.size [.int .i64 xk, .int .i64 xmn, .int .i64 xmx, .int .i64 xkd, .bool xbd, .int .u64 xbn, xsc, .string xnm, xsk, .int .u64 xw, xh, xe] ∧ Blk w1 (w.heap.size + 1) [.int .i64 yk, .int .i64 ymn, .int .i64 ymx, .int .i64 ykd, .bool ybd, .int .u64 ybn, ysc, .string ynm, ysk, .int .u64 yw, yh, ye] := fun w1 hb => ⟨hX.later hb, hY.later hb⟩
  clear hX hY hN hcell
  subst hWW
  go_enter Tryz.func32, Tryz.ntmps32
  go_wp2_with (first | (go_at_call 58; refine hN1.mono ?_; rintro e w3 ⟨rfl, hb3⟩))
  go_ret
  exact ⟨rfl, bstep hb2 hb3⟩
set_option maxRecDepth 100000 in
set_option maxHeartbeats 4000000 in
theorem same_w (xk xmn xmx xkd : Int) (xbd : Bool) (xbn : Int) (xsc : Value) (xnm : ByteArray) (xsk : Value) (xw : Int) (yw : Int) (xh xe : Value) (yk ymn ymx ykd : Int) (ybd : Bool) (ybn : Int) (ysc : Value) (ynm : ByteArray) (ysk : Value) (yh ye : Value) (w : World)
    (hN : ∀ w', Below w.heap.size w w' → Calls Tryz.prog 58 #[.agg #[.int .i64 xk, .int .i64 xmn, .int .i64 xmx, .int .i64 xkd, .bool xbd, .int .u64 xbn, xsc, .string xnm, xsk], .agg #[.int .i64 yk, .int .i64 ymn, .int .i64 ymx, .int .i64 ykd, .bool ybd, .int .u64 ybn, ysc, .string ynm, ysk]] w' fun e w'' => e = .returned (.bool true) ∧ Below w'.heap.size w' w'') (h : ¬ xw = yw) :
    Calls Tryz.prog 32 #[.agg #[.int .i64 xk, .int .i64 xmn, .int .i64 xmx, .int .i64 xkd, .bool xbd, .int .u64 xbn, xsc, .string xnm, xsk, .int .u64 xw, xh, xe], .agg #[.int .i64 yk, .int .i64 ymn, .int .i64 ymx, .int .i64 ykd, .bool ybd, .int .u64 ybn, ysc, .string ynm, ysk, .int .u64 yw, yh, ye]] w fun e w' => e = .returned (.bool false) ∧ Below w.heap.size w w' := by
  obtain ⟨W, hWW⟩ : ∃ W, W = (w.alloc (.cells #[.int .i64 xk, .int .i64 xmn, .int .i64 xmx, .int .i64 xkd, .bool xbd, .int .u64 xbn, xsc, .string xnm, xsk, .int .u64 xw, xh, xe] 33)).alloc (.cells #[.int .i64 yk, .int .i64 ymn, .int .i64 ymx, .int .i64 ykd, .bool ybd, .int .u64 ybn, ysc, .string ynm, ysk, .int .u64 yw, yh, ye] 33) := ⟨_, rfl⟩
  have hb2 : Below w.heap.size w W := hWW ▸ b2 _ _ _
  have hX : Blk W w.heap.size [.int .i64 xk, .int .i64 xmn, .int .i64 xmx, .int .i64 xkd, .bool xbd, .int .u64 xbn, xsc, .string xnm, xsk, .int .u64 xw, xh, xe] := by rw [hWW]; exact (Blk.new w [.int .i64 xk, .int .i64 xmn, .int .i64 xmx, .int .i64 xkd, .bool xbd, .int .u64 xbn, xsc, .string xnm, xsk, .int .u64 xw, xh, xe] 33).alloc _
  have hY : Blk W (w.heap.size + 1) [.int .i64 yk, .int .i64 ymn, .int .i64 ymx, .int .i64 ykd, .bool ybd, .int .u64 ybn, ysc, .string ynm, ysk, .int .u64 yw, yh, ye] := by rw [hWW]; exact Blk.is (us := [.int .i64 yk, .int .i64 ymn, .int .i64 ymx, .int .i64 ykd, .bool ybd, .int .u64 ybn, ysc, .string ynm, ysk, .int .u64 yw, yh, ye]) _ (by simp)
  have hN1 := hN W hb2
  have hcell : ∀ w1, Below W.heap.size W w1 → Blk w1 w.heap.size [.int .i64 xk, .int .i64 xmn, .int .i64 xmx, .int .i64 xkd, .bool xbd, .int .u64 xbn, xsc, .string xnm, xsk, .int .u64 xw, xh, xe] ∧ Blk w1 (w.heap.size + 1) [.int .i64 yk, .int .i64 ymn, .int .i64 ymx, .int .i64 ykd, .bool ybd, .int .u64 ybn, ysc, .string ynm, ysk, .int .u64 yw, yh, ye] := fun w1 hb => ⟨hX.later hb, hY.later hb⟩
  have hb0 : (xw == yw) = false := by rw [beq_eq_false_iff_ne]; exact h
  clear hX hY hN
  subst hWW
  go_enter Tryz.func32, Tryz.ntmps32
  go_wp2_with (first | (go_at_call 58; refine hN1.mono ?_; rintro e w3 ⟨rfl, hb3⟩; obtain ⟨HX, HY⟩ := hcell _ hb3; have c9 := HX.cell 9 _ rfl; have d9 := HY.cell 9 _ rfl; have c10 := HX.cell 10 _ rfl; have d10 := HY.cell 10 _ rfl; clear HX HY))
  go_ret
  exact ⟨rfl, bstep hb2 hb3⟩
set_option maxRecDepth 100000 in
set_option maxHeartbeats 4000000 in
theorem same_h (xk xmn xmx xkd : Int) (xbd : Bool) (xbn : Int) (xsc : Value) (xnm : ByteArray) (xsk : Value) (xw : Int) (xh xe : Value) (yk ymn ymx ykd : Int) (ybd : Bool) (ybn : Int) (ysc : Value) (ynm : ByteArray) (ysk : Value) (yh ye : Value) (w : World)
    (hN : ∀ w', Below w.heap.size w w' → Calls Tryz.prog 58 #[.agg #[.int .i64 xk, .int .i64 xmn, .int .i64 xmx, .int .i64 xkd, .bool xbd, .int .u64 xbn, xsc, .string xnm, xsk], .agg #[.int .i64 yk, .int .i64 ymn, .int .i64 ymx, .int .i64 ykd, .bool ybd, .int .u64 ybn, ysc, .string ynm, ysk]] w' fun e w'' => e = .returned (.bool true) ∧ Below w'.heap.size w' w'')
    (hH : ∀ w', Below w.heap.size w w' → Calls Tryz.prog 59 #[xh, yh, .func (.func 60) #[] #[]] w' fun e w'' => e = .returned (.bool false) ∧ Below w'.heap.size w' w'') :
    Calls Tryz.prog 32 #[.agg #[.int .i64 xk, .int .i64 xmn, .int .i64 xmx, .int .i64 xkd, .bool xbd, .int .u64 xbn, xsc, .string xnm, xsk, .int .u64 xw, xh, xe], .agg #[.int .i64 yk, .int .i64 ymn, .int .i64 ymx, .int .i64 ykd, .bool ybd, .int .u64 ybn, ysc, .string ynm, ysk, .int .u64 xw, yh, ye]] w fun e w' => e = .returned (.bool false) ∧ Below w.heap.size w w' := by
  obtain ⟨W, hWW⟩ : ∃ W, W = (w.alloc (.cells #[.int .i64 xk, .int .i64 xmn, .int .i64 xmx, .int .i64 xkd, .bool xbd, .int .u64 xbn, xsc, .string xnm, xsk, .int .u64 xw, xh, xe] 33)).alloc (.cells #[.int .i64 yk, .int .i64 ymn, .int .i64 ymx, .int .i64 ykd, .bool ybd, .int .u64 ybn, ysc, .string ynm, ysk, .int .u64 xw, yh, ye] 33) := ⟨_, rfl⟩
  have hb2 : Below w.heap.size w W := hWW ▸ b2 _ _ _
  have hX : Blk W w.heap.size [.int .i64 xk, .int .i64 xmn, .int .i64 xmx, .int .i64 xkd, .bool xbd, .int .u64 xbn, xsc, .string xnm, xsk, .int .u64 xw, xh, xe] := by rw [hWW]; exact (Blk.new w [.int .i64 xk, .int .i64 xmn, .int .i64 xmx, .int .i64 xkd, .bool xbd, .int .u64 xbn, xsc, .string xnm, xsk, .int .u64 xw, xh, xe] 33).alloc _
  have hY : Blk W (w.heap.size + 1) [.int .i64 yk, .int .i64 ymn, .int .i64 ymx, .int .i64 ykd, .bool ybd, .int .u64 ybn, ysc, .string ynm, ysk, .int .u64 xw, yh, ye] := by rw [hWW]; exact Blk.is (us := [.int .i64 yk, .int .i64 ymn, .int .i64 ymx, .int .i64 ykd, .bool ybd, .int .u64 ybn, ysc, .string ynm, ysk, .int .u64 xw, yh, ye]) _ (by simp)
  have hN1 := hN W hb2
  have hcell : ∀ w1, Below W.heap.size W w1 → Blk w1 w.heap.size [.int .i64 xk, .int .i64 xmn, .int .i64 xmx, .int .i64 xkd, .bool xbd, .int .u64 xbn, xsc, .string xnm, xsk, .int .u64 xw, xh, xe] ∧ Blk w1 (w.heap.size + 1) [.int .i64 yk, .int .i64 ymn, .int .i64 ymx, .int .i64 ykd, .bool ybd, .int .u64 ybn, ysc, .string ynm, ysk, .int .u64 xw, yh, ye] := fun w1 hb => ⟨hX.later hb, hY.later hb⟩
  clear hX hY hN
  subst hWW
  go_enter Tryz.func32, Tryz.ntmps32
  go_wp2_with (first | (go_at_call 58; refine hN1.mono ?_; rintro e w3 ⟨rfl, hb3⟩; obtain ⟨HX, HY⟩ := hcell _ hb3; have c9 := HX.cell 9 _ rfl; have d9 := HY.cell 9 _ rfl; have c10 := HX.cell 10 _ rfl; have d10 := HY.cell 10 _ rfl; clear HX HY) | (go_at_call 59; refine (hH _ (bstep hb2 hb3)).mono ?_; rintro e w4 ⟨rfl, hb4⟩))
  go_ret
  exact ⟨rfl, bstep (bstep hb2 hb3) hb4⟩
set_option maxRecDepth 100000 in
set_option maxHeartbeats 4000000 in
theorem same_e (xk xmn xmx xkd : Int) (xbd : Bool) (xbn : Int) (xsc : Value) (xnm : ByteArray) (xsk : Value) (xw : Int) (xh xe : Value) (yk ymn ymx ykd : Int) (ybd : Bool) (ybn : Int) (ysc : Value) (ynm : ByteArray) (ysk : Value) (yh ye : Value) (q : Bool) (w : World)
    (hN : ∀ w', Below w.heap.size w w' → Calls Tryz.prog 58 #[.agg #[.int .i64 xk, .int .i64 xmn, .int .i64 xmx, .int .i64 xkd, .bool xbd, .int .u64 xbn, xsc, .string xnm, xsk], .agg #[.int .i64 yk, .int .i64 ymn, .int .i64 ymx, .int .i64 ykd, .bool ybd, .int .u64 ybn, ysc, .string ynm, ysk]] w' fun e w'' => e = .returned (.bool true) ∧ Below w'.heap.size w' w'')
    (hH : ∀ w', Below w.heap.size w w' → Calls Tryz.prog 59 #[xh, yh, .func (.func 60) #[] #[]] w' fun e w'' => e = .returned (.bool true) ∧ Below w'.heap.size w' w'')
    (hE : ∀ w', Below w.heap.size w w' → Calls Tryz.prog 61 #[xe, ye, .func (.func 62) #[] #[]] w' fun e w'' => e = .returned (.bool q) ∧ Below w'.heap.size w' w'') :
    Calls Tryz.prog 32 #[.agg #[.int .i64 xk, .int .i64 xmn, .int .i64 xmx, .int .i64 xkd, .bool xbd, .int .u64 xbn, xsc, .string xnm, xsk, .int .u64 xw, xh, xe], .agg #[.int .i64 yk, .int .i64 ymn, .int .i64 ymx, .int .i64 ykd, .bool ybd, .int .u64 ybn, ysc, .string ynm, ysk, .int .u64 xw, yh, ye]] w fun e w' => e = .returned (.bool q) ∧ Below w.heap.size w w' := by
  obtain ⟨W, hWW⟩ : ∃ W, W = (w.alloc (.cells #[.int .i64 xk, .int .i64 xmn, .int .i64 xmx, .int .i64 xkd, .bool xbd, .int .u64 xbn, xsc, .string xnm, xsk, .int .u64 xw, xh, xe] 33)).alloc (.cells #[.int .i64 yk, .int .i64 ymn, .int .i64 ymx, .int .i64 ykd, .bool ybd, .int .u64 ybn, ysc, .string ynm, ysk, .int .u64 xw, yh, ye] 33) := ⟨_, rfl⟩
  have hb2 : Below w.heap.size w W := hWW ▸ b2 _ _ _
  have hX : Blk W w.heap.size [.int .i64 xk, .int .i64 xmn, .int .i64 xmx, .int .i64 xkd, .bool xbd, .int .u64 xbn, xsc, .string xnm, xsk, .int .u64 xw, xh, xe] := by rw [hWW]; exact (Blk.new w [.int .i64 xk, .int .i64 xmn, .int .i64 xmx, .int .i64 xkd, .bool xbd, .int .u64 xbn, xsc, .string xnm, xsk, .int .u64 xw, xh, xe] 33).alloc _
  have hY : Blk W (w.heap.size + 1) [.int .i64 yk, .int .i64 ymn, .int .i64 ymx, .int .i64 ykd, .bool ybd, .int .u64 ybn, ysc, .string ynm, ysk, .int .u64 xw, yh, ye] := by rw [hWW]; exact Blk.is (us := [.int .i64 yk, .int .i64 ymn, .int .i64 ymx, .int .i64 ykd, .bool ybd, .int .u64 ybn, ysc, .string ynm, ysk, .int .u64 xw, yh, ye]) _ (by simp)
  have hN1 := hN W hb2
  have hcell : ∀ w1, Below W.heap.size W w1 → Blk w1 w.heap.size [.int .i64 xk, .int .i64 xmn, .int .i64 xmx, .int .i64 xkd, .bool xbd, .int .u64 xbn, xsc, .string xnm, xsk, .int .u64 xw, xh, xe] ∧ Blk w1 (w.heap.size + 1) [.int .i64 yk, .int .i64 ymn, .int .i64 ymx, .int .i64 ykd, .bool ybd, .int .u64 ybn, ysc, .string ynm, ysk, .int .u64 xw, yh, ye] := fun w1 hb => ⟨hX.later hb, hY.later hb⟩
  clear hX hY hN
  subst hWW
  go_enter Tryz.func32, Tryz.ntmps32
  go_wp2_with (first | (go_at_call 58; refine hN1.mono ?_; rintro e w3 ⟨rfl, hb3⟩; obtain ⟨HX, HY⟩ := hcell _ hb3; have c9 := HX.cell 9 _ rfl; have d9 := HY.cell 9 _ rfl; have c10 := HX.cell 10 _ rfl; have d10 := HY.cell 10 _ rfl; clear HX HY) | (go_at_call 59; refine (hH _ (bstep hb2 hb3)).mono ?_; rintro e w4 ⟨rfl, hb4⟩; obtain ⟨HX, HY⟩ := hcell _ (bstep hb3 hb4); have c11 := HX.cell 11 _ rfl; have d11 := HY.cell 11 _ rfl; clear HX HY) | (go_at_call 61; refine (hE _ (bstep (bstep hb2 hb3) hb4)).mono ?_; rintro e w5 ⟨rfl, hb5⟩))
  go_ret
  exact ⟨rfl, bstep (bstep (bstep hb2 hb3) hb4) hb5⟩
theorem sameq_any (a b : GQ) (w : World) (ha : QW w a) (hb : QW w b) :
    Calls Tryz.prog 32 #[.agg a.row.toArray, .agg b.row.toArray] w fun e w' => e = .returned (.bool (sameQ a.qu b.qu)) ∧ Below w.heap.size w w' := by
  have hN := fun w' (hb' : Below w.heap.size w w') => sameNode_any a.t b.t w' (ha.tr.later hb') (hb.tr.later hb')
  have hH := fun w' (hb' : Below w.heap.size w w') => sameListHave_any a.sh b.sh a.hv b.hv w' (ha.hv.later hb') (hb.hv.later hb')
  have hE := fun w' (hb' : Below w.heap.size w w') => sameListAgg_any a.se b.se a.em b.em w' (ha.em.later hb') (hb.em.later hb')
  have hs : sameQ a.qu b.qu = (decide (a.t.nd = b.t.nd) && decide (a.wi = b.wi) && decide (a.hv = b.hv) && decide (a.em = b.em)) := rfl
  rw [hs]
  clear hs ha hb
  obtain ⟨⟨xk, xmn, xmx, ⟨⟨xkd, xbd, xbn, xcs, xnm⟩, xsc⟩, xsk, xks⟩, xw, xh, xhv, xe, xem⟩ := a
  obtain ⟨⟨yk, ymn, ymx, ⟨⟨ykd, ybd, ybn, ycs, ynm⟩, ysc⟩, ysk, yks⟩, yw, yh, yhv, ye, yem⟩ := b
  simp only at hN hH hE ⊢
  simp only [qrow_is']
  simp only [Tr.row] at hN
  obtain ⟨p, hp⟩ : ∃ p, p = decide (Tr.nd (.mk xk xmn xmx ⟨⟨xkd, xbd, xbn, xcs, xnm⟩, xsc⟩ xsk xks) = Tr.nd (.mk yk ymn ymx ⟨⟨ykd, ybd, ybn, ycs, ynm⟩, ysc⟩ ysk yks)) := ⟨_, rfl⟩
  obtain ⟨q, hq⟩ : ∃ q, q = decide (xhv = yhv) := ⟨_, rfl⟩
  obtain ⟨r, hr⟩ : ∃ r, r = decide (xem = yem) := ⟨_, rfl⟩
  rw [← hp] at hN ⊢
  rw [← hq] at hH ⊢
  rw [← hr] at hE ⊢
  clear hp hq hr
  cases p with
  | false => exact same_n xk xmn xmx xkd xbd xbn xsc (strOf xnm) xsk xw yw xh xe yk ymn ymx ykd ybd ybn ysc (strOf ynm) ysk yh ye w hN
  | true =>
    by_cases ew : xw = yw
    · subst ew
      simp only [decide_true, Bool.true_and]
      cases q with
      | false => exact same_h xk xmn xmx xkd xbd xbn xsc (strOf xnm) xsk xw xh xe yk ymn ymx ykd ybd ybn ysc (strOf ynm) ysk yh ye w hN hH
      | true => exact same_e xk xmn xmx xkd xbd xbn xsc (strOf xnm) xsk xw xh xe yk ymn ymx ykd ybd ybn ysc (strOf ynm) ysk yh ye r w hN hH hE
    · simp only [decide_eq_false ew, Bool.and_false, Bool.false_and]
      exact same_w xk xmn xmx xkd xbd xbn xsc (strOf xnm) xsk xw yw xh xe yk ymn ymx ykd ybd ybn ysc (strOf ynm) ysk yh ye w hN ew
end Go.Proofs.YtdjaijhlhhnmeaaGreatDoor
