/- Walks: the document's own comparing of nodes. Made by program (wip/tools/gen_astAB.py). -/
import Derived.Test.YtfibmdbplfghcaaGreatDoorAstAA
namespace Go.Proofs.YtfibmdbplfghcaaGreatDoor
open Go.RowKit
open A8 Tk7

set_option maxRecDepth 100000 in
set_option maxHeartbeats 4000000 in
theorem rsameNode_0 (xk xmn xmx : Int) (yk : Int) (ymn : Int) (ymx : Int) (xkd : Int) (xbd : Bool) (xbn : Int) (xsc : Value) (xnm : ByteArray) (ykd : Int) (ybd : Bool) (ybn : Int) (ysc : Value) (ynm : ByteArray) (A B : Option Addr) (n m c e : Nat) (w : World) (h : ¬ xk = yk)  :
    Calls Tryz.prog 67 #[.agg #[.int .i64 xk, .int .i64 xmn, .int .i64 xmx, .int .i64 xkd, .bool xbd, .int .u64 xbn, xsc, .string xnm, .slice A n c], .agg #[.int .i64 yk, .int .i64 ymn, .int .i64 ymx, .int .i64 ykd, .bool ybd, .int .u64 ybn, ysc, .string ynm, .slice B m e]] w fun e w' => e = .returned (.bool false) ∧ Below w.heap.size w w' := by
  have hb : (xk == yk) = false := by rw [beq_eq_false_iff_ne]; exact h
  have hb3 : (xk != yk) = true := by simp only [bne, hb]; rfl
  go_enter Tryz.func67, Tryz.ntmps67
  go_wp2
  go_ret
  exact ⟨rfl, b2 _ _ _⟩
set_option maxRecDepth 100000 in
set_option maxHeartbeats 4000000 in
theorem rsameNode_1 (xk xmn xmx : Int) (ymn : Int) (ymx : Int) (xkd : Int) (xbd : Bool) (xbn : Int) (xsc : Value) (xnm : ByteArray) (ykd : Int) (ybd : Bool) (ybn : Int) (ysc : Value) (ynm : ByteArray) (A B : Option Addr) (n m c e : Nat) (w : World) (h : ¬ xmn = ymn)  :
    Calls Tryz.prog 67 #[.agg #[.int .i64 xk, .int .i64 xmn, .int .i64 xmx, .int .i64 xkd, .bool xbd, .int .u64 xbn, xsc, .string xnm, .slice A n c], .agg #[.int .i64 xk, .int .i64 ymn, .int .i64 ymx, .int .i64 ykd, .bool ybd, .int .u64 ybn, ysc, .string ynm, .slice B m e]] w fun e w' => e = .returned (.bool false) ∧ Below w.heap.size w w' := by
  have hb : (xmn == ymn) = false := by rw [beq_eq_false_iff_ne]; exact h
  have hb3 : (xmn != ymn) = true := by simp only [bne, hb]; rfl
  go_enter Tryz.func67, Tryz.ntmps67
  go_wp2
  go_ret
  exact ⟨rfl, b2 _ _ _⟩
set_option maxRecDepth 100000 in
set_option maxHeartbeats 4000000 in
theorem rsameNode_2 (xk xmn xmx : Int) (ymx : Int) (xkd : Int) (xbd : Bool) (xbn : Int) (xsc : Value) (xnm : ByteArray) (ykd : Int) (ybd : Bool) (ybn : Int) (ysc : Value) (ynm : ByteArray) (A B : Option Addr) (n m c e : Nat) (w : World) (h : ¬ xmx = ymx)  :
    Calls Tryz.prog 67 #[.agg #[.int .i64 xk, .int .i64 xmn, .int .i64 xmx, .int .i64 xkd, .bool xbd, .int .u64 xbn, xsc, .string xnm, .slice A n c], .agg #[.int .i64 xk, .int .i64 xmn, .int .i64 ymx, .int .i64 ykd, .bool ybd, .int .u64 ybn, ysc, .string ynm, .slice B m e]] w fun e w' => e = .returned (.bool false) ∧ Below w.heap.size w w' := by
  have hb : (xmx == ymx) = false := by rw [beq_eq_false_iff_ne]; exact h
  have hb3 : (xmx != ymx) = true := by simp only [bne, hb]; rfl
  go_enter Tryz.func67, Tryz.ntmps67
  go_wp2
  go_ret
  exact ⟨rfl, b2 _ _ _⟩
set_option maxRecDepth 100000 in
set_option maxHeartbeats 4000000 in
theorem rsameNode_3 (xk xmn xmx : Int) (xkd : Int) (xbd : Bool) (xbn : Int) (xsc : Value) (xnm : ByteArray) (ykd : Int) (ybd : Bool) (ybn : Int) (ysc : Value) (ynm : ByteArray) (A B : Option Addr) (n m c e : Nat) (w : World) 
    (hA : ∀ w', Below w.heap.size w w' → Calls Tryz.prog 97 #[.agg #[.int .i64 xkd, .bool xbd, .int .u64 xbn, xsc, .string xnm], .agg #[.int .i64 ykd, .bool ybd, .int .u64 ybn, ysc, .string ynm]] w' fun e w'' => e = .returned (.bool false) ∧ Below w'.heap.size w' w'') :
    Calls Tryz.prog 67 #[.agg #[.int .i64 xk, .int .i64 xmn, .int .i64 xmx, .int .i64 xkd, .bool xbd, .int .u64 xbn, xsc, .string xnm, .slice A n c], .agg #[.int .i64 xk, .int .i64 xmn, .int .i64 xmx, .int .i64 ykd, .bool ybd, .int .u64 ybn, ysc, .string ynm, .slice B m e]] w fun e w' => e = .returned (.bool false) ∧ Below w.heap.size w w' := by
  go_enter Tryz.func67, Tryz.ntmps67
  go_wp2_with (go_at_call 97; refine (hA _ (b2 _ _ _)).mono ?_; rintro e w3 ⟨rfl, hb3⟩)
  go_ret
  exact ⟨rfl, bstep (b2 _ _ _) hb3⟩
set_option maxRecDepth 100000 in
set_option maxHeartbeats 4000000 in
theorem rsameNode_4 (xk xmn xmx : Int) (xkd : Int) (xbd : Bool) (xbn : Int) (xsc : Value) (xnm : ByteArray) (ykd : Int) (ybd : Bool) (ybn : Int) (ysc : Value) (ynm : ByteArray) (A B : Option Addr) (n m c e : Nat) (w : World) (h : ¬ n = m) 
    (hA : ∀ w', Below w.heap.size w w' → Calls Tryz.prog 97 #[.agg #[.int .i64 xkd, .bool xbd, .int .u64 xbn, xsc, .string xnm], .agg #[.int .i64 ykd, .bool ybd, .int .u64 ybn, ysc, .string ynm]] w' fun e w'' => e = .returned (.bool true) ∧ Below w'.heap.size w' w'') :
    Calls Tryz.prog 67 #[.agg #[.int .i64 xk, .int .i64 xmn, .int .i64 xmx, .int .i64 xkd, .bool xbd, .int .u64 xbn, xsc, .string xnm, .slice A n c], .agg #[.int .i64 xk, .int .i64 xmn, .int .i64 xmx, .int .i64 ykd, .bool ybd, .int .u64 ybn, ysc, .string ynm, .slice B m e]] w fun e w' => e = .returned (.bool false) ∧ Below w.heap.size w w' := by
  have hb : ((n : Int) == (m : Int)) = false := by rw [beq_eq_false_iff_ne]; omega
  have hbn : ((n : Int) != (m : Int)) = true := by simp only [bne, hb]; rfl
  obtain ⟨W, hWW⟩ : ∃ W, W = (w.alloc (.cells #[.int .i64 xk, .int .i64 xmn, .int .i64 xmx, .int .i64 xkd, .bool xbd, .int .u64 xbn, xsc, .string xnm, .slice A n c] 28)).alloc (.cells #[.int .i64 xk, .int .i64 xmn, .int .i64 xmx, .int .i64 ykd, .bool ybd, .int .u64 ybn, ysc, .string ynm, .slice B m e] 28) := ⟨_, rfl⟩
  have hb2 : Below w.heap.size w W := hWW ▸ b2 _ _ _
  have hX : Blk W w.heap.size [.int .i64 xk, .int .i64 xmn, .int .i64 xmx, .int .i64 xkd, .bool xbd, .int .u64 xbn, xsc, .string xnm, .slice A n c] := by rw [hWW]; exact (Blk.new w [.int .i64 xk, .int .i64 xmn, .int .i64 xmx, .int .i64 xkd, .bool xbd, .int .u64 xbn, xsc, .string xnm, .slice A n c] 28).alloc _
  have hY : Blk W (w.heap.size + 1) [.int .i64 xk, .int .i64 xmn, .int .i64 xmx, .int .i64 ykd, .bool ybd, .int .u64 ybn, ysc, .string ynm, .slice B m e] := by rw [hWW]; exact Blk.is (us := [.int .i64 xk, .int .i64 xmn, .int .i64 xmx, .int .i64 ykd, .bool ybd, .int .u64 ybn, ysc, .string ynm, .slice B m e]) _ (by simp)
  have hA1 := hA W hb2
  have hcell : ∀ w1, Below W.heap.size W w1 → w1.cell? ⟨w.heap.size, 8, none⟩ = some (.slice A n c) ∧ w1.cell? ⟨w.heap.size + 1, 8, none⟩ = some (.slice B m e) := fun w1 hb => ⟨(hX.later hb).cell 8 _ rfl, (hY.later hb).cell 8 _ rfl⟩
  clear hX hY hA
  subst hWW
  go_enter Tryz.func67, Tryz.ntmps67
  go_wp2_with (go_at_call 97; refine hA1.mono ?_; rintro e w3 ⟨rfl, hb3⟩; obtain ⟨c8, d8⟩ := hcell _ hb3)
  go_ret
  exact ⟨rfl, bstep hb2 hb3⟩
set_option maxRecDepth 100000 in
set_option maxHeartbeats 8000000 in
theorem rsameNode_5 (xk xmn xmx xkd : Int) (xbd : Bool) (xbn : Int) (xsc : Value) (xnm : ByteArray) (ykd : Int) (ybd : Bool) (ybn : Int) (ysc : Value) (ynm : ByteArray) (u v : Value) (xs ys : List Tr) (w : World) (hlen : xs.length = ys.length)
    (hu : Sl w 9 xs.length u (xs.flatMap Tr.row)) (hv : Sl w 9 ys.length v (ys.flatMap Tr.row))
    (hA : ∀ w', Below w.heap.size w w' → Calls Tryz.prog 97 #[.agg #[.int .i64 xkd, .bool xbd, .int .u64 xbn, xsc, .string xnm], .agg #[.int .i64 ykd, .bool ybd, .int .u64 ybn, ysc, .string ynm]] w' fun e w'' => e = .returned (.bool true) ∧ Below w'.heap.size w' w'')
    (hel : ∀ x ∈ xs, ∀ y ∈ ys, ∀ w1, Below w.heap.size w w1 → Calls Tryz.prog 67 #[.agg x.row.toArray, .agg y.row.toArray] w1 fun e w' => e = .returned (.bool (decide (x.nd = y.nd))) ∧ Below w1.heap.size w1 w') :
    Calls Tryz.prog 67 #[.agg #[.int .i64 xk, .int .i64 xmn, .int .i64 xmx, .int .i64 xkd, .bool xbd, .int .u64 xbn, xsc, .string xnm, u], .agg #[.int .i64 xk, .int .i64 xmn, .int .i64 xmx, .int .i64 ykd, .bool ybd, .int .u64 ybn, ysc, .string ynm, v]] w fun e w' => e = .returned (.bool (decide (xs.map Tr.nd = ys.map Tr.nd))) ∧ Below w.heap.size w w' := by
  obtain ⟨A, c, rfl, hm, hc⟩ := sl_els (by decide) row_len hu
  obtain ⟨B, e, rfl, hm', hc'⟩ := sl_els (by decide) row_len hv
  have HC := Lib.hid hc
  have HC' := Lib.hid hc'
  have HH := Lib.hid hel
  have HL := Lib.hid hlen
  have hbe : ((xs.length : Int) == (ys.length : Int)) = true := by simp [hlen]
  have hbe2 : ((xs.length : Int) != (ys.length : Int)) = false := by simp [hlen]
  obtain ⟨W, hWW⟩ : ∃ W, W = (w.alloc (.cells #[.int .i64 xk, .int .i64 xmn, .int .i64 xmx, .int .i64 xkd, .bool xbd, .int .u64 xbn, xsc, .string xnm, .slice A xs.length c] 28)).alloc (.cells #[.int .i64 xk, .int .i64 xmn, .int .i64 xmx, .int .i64 ykd, .bool ybd, .int .u64 ybn, ysc, .string ynm, .slice B ys.length e] 28) := ⟨_, rfl⟩
  have hb2 : Below w.heap.size w W := hWW ▸ b2 _ _ _
  have hX : Blk W w.heap.size [.int .i64 xk, .int .i64 xmn, .int .i64 xmx, .int .i64 xkd, .bool xbd, .int .u64 xbn, xsc, .string xnm, .slice A xs.length c] := by rw [hWW]; exact (Blk.new w [.int .i64 xk, .int .i64 xmn, .int .i64 xmx, .int .i64 xkd, .bool xbd, .int .u64 xbn, xsc, .string xnm, .slice A xs.length c] 28).alloc _
  have hY : Blk W (w.heap.size + 1) [.int .i64 xk, .int .i64 xmn, .int .i64 xmx, .int .i64 ykd, .bool ybd, .int .u64 ybn, ysc, .string ynm, .slice B ys.length e] := by rw [hWW]; exact Blk.is (us := [.int .i64 xk, .int .i64 xmn, .int .i64 xmx, .int .i64 ykd, .bool ybd, .int .u64 ybn, ysc, .string ynm, .slice B ys.length e]) _ (by simp)
  have hA1 := hA W hb2
  have HX := Lib.hid (fun w1 (hb : Below W.heap.size W w1) => (show w1.cell? ⟨w.heap.size, 8, none⟩ = some (.slice A xs.length c) ∧ w1.cell? ⟨w.heap.size + 1, 8, none⟩ = some (.slice B ys.length e) from ⟨(hX.later hb).cell 8 _ rfl, (hY.later hb).cell 8 _ rfl⟩))
  have HB := Lib.hid hb2
  clear hc hc' hu hv hlen hX hY hb2 hel hA
  go_enter Tryz.func67, Tryz.ntmps67
  go_wp2_with fail
  rw [← hWW]
  clear hWW
  refine hA1.mono ?_
  rintro e1 w3 ⟨rfl, hb3⟩
  have HB3 := Lib.hid hb3
  obtain ⟨c8, d8⟩ := HX.out _ hb3
  clear hA1 hb3
  go_wp2
  clear c8 d8
  go_loopg [5] xs.length (fun g iv wr => ∃ k : Nat, k ≤ xs.length ∧ g = xs.length - k ∧ iv = .int .i64 (k : Int) ∧ Hid (Below W.heap.size W wr) ∧ Hid (decide (xs.map Tr.nd = ys.map Tr.nd) = decide ((xs.drop k).map Tr.nd = (ys.drop k).map Tr.nd)))
  case atStart => exact ⟨0, Nat.zero_le _, rfl, rfl, HB3, Lib.hid rfl⟩
  case round =>
      obtain ⟨k, hk, hg, rfl, hBW, hS⟩ := hrel
      have hBr := bstep HB.out hBW.out
      by_cases hlt : k < xs.length
      · have hlt2 : k < ys.length := by rw [← HL.out]; exact hlt
        obtain ⟨a, rfl, ha, E⟩ := HC.out k hlt
        obtain ⟨a', rfl, ha', E'⟩ := HC'.out k hlt2
        have hst : decide ((xs.drop k).map Tr.nd = (ys.drop k).map Tr.nd) = (decide ((xs[k]).nd = (ys[k]).nd) && decide ((xs.drop (k + 1)).map Tr.nd = (ys.drop (k + 1)).map Tr.nd)) := by
          rw [List.drop_eq_getElem_cons hlt, List.drop_eq_getElem_cons hlt2]
          simp only [List.map_cons, List.cons.injEq, Bool.decide_and]
        have hq := HH.out xs[k] (List.getElem_mem hlt) ys[k] (List.getElem_mem hlt2) wr.drew hBr.drew
        obtain ⟨x, hx⟩ : ∃ x, x = xs[k] := ⟨_, rfl⟩
        obtain ⟨y, hy⟩ : ∃ y, y = ys[k] := ⟨_, rfl⟩
        rw [← hx] at E hst hq
        rw [← hy] at E' hst hq
        obtain ⟨q, hqq⟩ : ∃ q, q = decide (x.nd = y.nd) := ⟨_, rfl⟩
        rw [← hqq] at hst hq
        rw [hst] at hS
        replace E := (E.later hBr).later (Below.refl _ _).drew
        replace E' := (E'.later hBr).later (Below.refl _ _).drew
        obtain ⟨c8, d8⟩ := HX.out _ hBW.out
        obtain ⟨f8, g8⟩ := HX.out wr.drew hBW.out.drew
        clear hx hy hqq hst HH HX
        obtain ⟨yk, ymn, ymx, ⟨⟨zkd, zbd, zbn, ycs, znm⟩, zsc⟩, ysk, yks⟩ := y
        obtain ⟨zk, zmn, zmx, ⟨⟨wkd, wbd, wbn, xcs, wnm⟩, wsc⟩, xsk, xks⟩ := x
        simp only [Tr.row] at hq E E'
        have c0 := E.at0 _ rfl
        have d0 := E'.at0 _ rfl
        have c1 := E.at1 1 _ (by decide) rfl
        have d1 := E'.at1 1 _ (by decide) rfl
        have c2 := E.at1 2 _ (by decide) rfl
        have d2 := E'.at1 2 _ (by decide) rfl
        have c3 := E.at1 3 _ (by decide) rfl
        have d3 := E'.at1 3 _ (by decide) rfl
        have c4 := E.at1 4 _ (by decide) rfl
        have d4 := E'.at1 4 _ (by decide) rfl
        have c5 := E.at1 5 _ (by decide) rfl
        have d5 := E'.at1 5 _ (by decide) rfl
        have c6 := E.at1 6 _ (by decide) rfl
        have d6 := E'.at1 6 _ (by decide) rfl
        have c7 := E.at1 7 _ (by decide) rfl
        have d7 := E'.at1 7 _ (by decide) rfl
        have k8 := E.at1 8 _ (by decide) rfl
        have l8 := E'.at1 8 _ (by decide) rfl
        have h1 : (k : Int) < (xs.length : Int) := by omega
        have h2 : (k : Int) < (ys.length : Int) := by omega
        have hwk : IntKind.i64.wrap ((k : Int) + 1) = (k : Int) + 1 := IntWalk.i64_in _ ⟨by omega, by omega⟩
        clear E E' HC HC'
        have HB2 := fun (w2 : World) (hb2 : Below wr.drew.heap.size wr.drew w2) => bstep hBW.out.drew hb2
        cases q with
        | true =>
          have HS2 := Lib.hid (show decide (xs.map Tr.nd = ys.map Tr.nd) = decide ((xs.drop (k + 1)).map Tr.nd = (ys.drop (k + 1)).map Tr.nd) by rw [hS.out, Bool.true_and])
          clear hS
          go_wp2
          go_region_with (go_at_call 67; refine hq.mono ?_; rintro e w2 ⟨rfl, hb2⟩)
          all_goals
            go_wp2
            go_roundg (xs.length - (k + 1))
            case rel => exact ⟨k + 1, by omega, rfl, by go_num, Lib.hid (HB2 _ hb2), HS2⟩
            case measure => omega
        | false =>
          have HS2 := Lib.hid (show decide (xs.map Tr.nd = ys.map Tr.nd) = false by rw [hS.out, Bool.false_and])
          clear hS
          go_wp2
          go_region_with (go_at_call 67; refine hq.mono ?_; rintro e w2 ⟨rfl, hb2⟩)
          all_goals
            go_wp2
            go_ret
            exact ⟨by rw [HS2.out]; rfl, bstep HB.out (HB2 _ hb2)⟩
      · have e1 := Lib.hid (show decide (xs.map Tr.nd = ys.map Tr.nd) = true by rw [hS.out, List.drop_eq_nil_of_le (by omega), List.drop_eq_nil_of_le (by have := HL.out; omega)]; rfl)
        have hi : ¬ (k : Int) < (xs.length : Int) := by omega
        obtain ⟨c8, d8⟩ := HX.out _ hBW.out
        clear HC HC' hS HH HX
        go_wp2
        go_ret
        exact ⟨by rw [e1.out]; rfl, hBr⟩
theorem rsameNode_any (S : Tr) : ∀ (T : Tr) (w : World), TrW w S → TrW w T →
    Calls Tryz.prog 67 #[.agg S.row.toArray, .agg T.row.toArray] w fun e w' => e = .returned (.bool (decide (S.nd = T.nd))) ∧ Below w.heap.size w w' := by
  refine Tr.ind (P := fun S => ∀ (T : Tr) (w : World), TrW w S → TrW w T →
    Calls Tryz.prog 67 #[.agg S.row.toArray, .agg T.row.toArray] w fun e w' => e = .returned (.bool (decide (S.nd = T.nd))) ∧ Below w.heap.size w w') (fun xk xmn xmx xg xsk xks ih => ?_) S
  intro T w hS hT
  obtain ⟨yk, ymn, ymx, yg, ysk, yks⟩ := T
  have hx := hS.one
  have hy := hT.one
  obtain ⟨-, hxg, hxl⟩ := hx
  obtain ⟨-, hyg, hyl⟩ := hy
  have hA := fun w' (hb : Below w.heap.size w w') => rsameAtom_any xg yg w' (hxg.later hb) (hyg.later hb)
  have hH := fun x (hx : x ∈ xks) y (hy : y ∈ yks) w1 (hb1 : Below w.heap.size w w1) => ih x hx y w1 ((hS.kid hx).later hb1) ((hT.kid hy).later hb1)
  obtain ⟨xa, xsc⟩ := xg
  obtain ⟨ya, ysc⟩ := yg
  have hE : (Tr.nd (.mk xk xmn xmx ⟨xa, xsc⟩ xsk xks) = Tr.nd (.mk yk ymn ymx ⟨ya, ysc⟩ ysk yks)) ↔ (xk = yk ∧ xmn = ymn ∧ xmx = ymx ∧ xa = ya ∧ xks.map Tr.nd = yks.map Tr.nd) := by rw [nd_mk, nd_mk, Nd.mk.injEq]
  have hD : decide (Tr.nd (.mk xk xmn xmx ⟨xa, xsc⟩ xsk xks) = Tr.nd (.mk yk ymn ymx ⟨ya, ysc⟩ ysk yks)) = (decide (xk = yk) && (decide (xmn = ymn) && (decide (xmx = ymx) && (decide (xa = ya) && decide (xks.map Tr.nd = yks.map Tr.nd))))) := by
    rw [Bool.eq_iff_iff]
    simp only [decide_eq_true_eq, Bool.and_eq_true]
    exact hE
  rw [hD]
  clear hD hE
  simp only at hA
  obtain ⟨xkd, xbd, xbn, xcs, xnm⟩ := xa
  obtain ⟨ykd, ybd, ybn, ycs, ynm⟩ := ya
  simp only [gaC, Tr.row] at hA ⊢
  by_cases e5 : xk = yk ∧ xmn = ymn ∧ xmx = ymx ∧ (decide ((⟨xkd, xbd, xbn, xcs, xnm⟩ : At) = ⟨ykd, ybd, ybn, ycs, ynm⟩)) = true ∧ xks.length = yks.length
  · obtain ⟨rfl, rfl, rfl, ea, el⟩ := e5
    rw [ea] at hA ⊢
    simp only [decide_true, Bool.true_and]
    exact rsameNode_5 xk xmn xmx xkd xbd xbn xsc (strOf xnm) ykd ybd ybn ysc (strOf ynm) xsk ysk xks yks w el hxl hyl hA hH
  · obtain ⟨A, c, rfl, -, -⟩ := sl_get (by decide) hxl
    obtain ⟨B, e, rfl, -, -⟩ := sl_get (by decide) hyl
    by_cases e1 : xk = yk
    · subst e1
      by_cases e2 : xmn = ymn
      · subst e2
        by_cases e3 : xmx = ymx
        · subst e3
          simp only [decide_true, Bool.true_and]
          cases ea : decide ((⟨xkd, xbd, xbn, xcs, xnm⟩ : At) = ⟨ykd, ybd, ybn, ycs, ynm⟩) with
          | false =>
            rw [ea] at hA
            simp only [Bool.false_and]
            exact rsameNode_3 xk xmn xmx xkd xbd xbn xsc (strOf xnm) ykd ybd ybn ysc (strOf ynm) A B _ _ c e w hA
          | true =>
            rw [ea] at hA
            have el : ¬ xks.length = yks.length := fun h => e5 ⟨rfl, rfl, rfl, ea, h⟩
            have ed : decide (xks.map Tr.nd = yks.map Tr.nd) = false := by rw [decide_eq_false_iff_not]; exact fun h => el (by have := congrArg List.length h; simpa using this)
            rw [ed]
            exact rsameNode_4 xk xmn xmx xkd xbd xbn xsc (strOf xnm) ykd ybd ybn ysc (strOf ynm) A B _ _ c e w el hA
        · simp only [decide_eq_false e3, Bool.false_and, Bool.and_false]
          exact rsameNode_2 xk xmn xmx ymx xkd xbd xbn xsc (strOf xnm) ykd ybd ybn ysc (strOf ynm) A B _ _ c e w e3
      · simp only [decide_eq_false e2, Bool.false_and, Bool.and_false]
        exact rsameNode_1 xk xmn xmx ymn ymx xkd xbd xbn xsc (strOf xnm) ykd ybd ybn ysc (strOf ynm) A B _ _ c e w e2
    · simp only [decide_eq_false e1, Bool.false_and]
      exact rsameNode_0 xk xmn xmx yk ymn ymx xkd xbd xbn xsc (strOf xnm) ykd ybd ybn ysc (strOf ynm) A B _ _ c e w e1
end Go.Proofs.YtfibmdbplfghcaaGreatDoor
