/- Walks: the document's own agg and Check. Made by program (wip/tools/gen_astCk.py). -/
import Derived.Test.YtdoioaeppepndaaGreatDoorAstDg
import Derived.Test.YtdoioaeppepndaaGreatDoorAstThr
namespace Go.Proofs.YtdoioaeppepndaaGreatDoor
open Go.RowKit
open A8 Tk7

set_option maxRecDepth 100000 in
theorem ragg_any (fn : Int) (nm : List UInt8) (w : World) :
    Calls Tryz.prog 111 #[.agg #[.int .i64 fn, .string (strOf nm)]] w fun e w' => e = .returned (.bool (aggB ⟨fn, nm⟩)) ∧ Below w.heap.size w w' := by
  have hN := fun w1 => rname_any (strOf nm) w1
  rw [show (strOf nm).data.toList = nm from by simp [strOf]] at hN
  have hab : aggB ⟨fn, nm⟩ = ((decide (1 ≤ fn) && decide (fn ≤ 6)) && nameB nm) := rfl
  rw [hab]
  obtain ⟨z, hz⟩ : ∃ z, z = nameB nm := ⟨_, rfl⟩
  obtain ⟨s, hs⟩ : ∃ s, s = strOf nm := ⟨_, rfl⟩
  rw [← hz, ← hs] at hN
  rw [← hz, ← hs]
  clear hz hs hab
  have HN := Lib.hid hN
  clear hN
  by_cases h1 : 1 ≤ fn
  · by_cases h2 : fn ≤ 6
    · rw [decide_eq_true h1, decide_eq_true h2]
      go_enter Tryz.func111, Tryz.ntmps111
      go_wp2_with (go_at_call 135; refine (HN.out _).mono ?_; rintro e w2 ⟨rfl, hb2⟩)
      go_ret
      exact ⟨by simp, bstep (b1 _ _) hb2⟩
    · rw [decide_eq_true h1, decide_eq_false h2]
      go_enter Tryz.func111, Tryz.ntmps111
      go_wp2
      go_ret
      exact ⟨by simp, b1 _ _⟩
  · rw [decide_eq_false h1]
    go_enter Tryz.func111, Tryz.ntmps111
    go_wp2
    go_ret
    exact ⟨by simp, b1 _ _⟩
set_option maxRecDepth 100000 in
theorem rcheck_s (k mn mx kd : Int) (bd : Bool) (bn : Int) (sc : Value) (nm : ByteArray) (sk : Value) (wi : Int) (sh se : Value) (w : World) (hS : ∀ w1, Below w.heap.size w w1 → Calls Tryz.prog 110 #[.agg #[.int .i64 k, .int .i64 mn, .int .i64 mx, .int .i64 kd, .bool bd, .int .u64 bn, sc, .string nm, sk], .int .i64 1] w1 fun e w' => e = .returned (.bool false) ∧ Below w1.heap.size w1 w') :
    Calls Tryz.prog 77 #[.agg #[.int .i64 k, .int .i64 mn, .int .i64 mx, .int .i64 kd, .bool bd, .int .u64 bn, sc, .string nm, sk, .int .u64 wi, sh, se]] w fun e w' => e = .returned (.int .i64 3) ∧ Below w.heap.size w w' := by
  obtain ⟨W, hWW⟩ : ∃ W, W = w.alloc (.cells #[.int .i64 k, .int .i64 mn, .int .i64 mx, .int .i64 kd, .bool bd, .int .u64 bn, sc, .string nm, sk, .int .u64 wi, sh, se] 35) := ⟨_, rfl⟩
  have hb1 : Below w.heap.size w W := hWW ▸ b1 _ _
  have hBx : Blk W w.heap.size [.int .i64 k, .int .i64 mn, .int .i64 mx, .int .i64 kd, .bool bd, .int .u64 bn, sc, .string nm, sk, .int .u64 wi, sh, se] := hWW ▸ Blk.new w _ _
  have c0 := hBx.cell 0 _ rfl
  have c1 := hBx.cell 1 _ rfl
  have c2 := hBx.cell 2 _ rfl
  have c3 := hBx.cell 3 _ rfl
  have c4 := hBx.cell 4 _ rfl
  have c5 := hBx.cell 5 _ rfl
  have c6 := hBx.cell 6 _ rfl
  have c7 := hBx.cell 7 _ rfl
  have c8 := hBx.cell 8 _ rfl
  have c9 := hBx.cell 9 _ rfl
  have c10 := hBx.cell 10 _ rfl
  have c11 := hBx.cell 11 _ rfl
  have HX := Lib.hid hBx
  have HS := Lib.hid hS
  have HB := Lib.hid hb1
  clear hb1 hBx hS
  go_enter Tryz.func77, Tryz.ntmps77
  go_wp2_with fail
  rw [← hWW]
  clear hWW
  go_wp2_with (go_at_call 110; refine (HS.out _ HB.out).mono ?_; rintro e w2 ⟨rfl, hb2⟩; have hx2 := HX.out.later hb2; clear c0 c1 c2 c3 c4 c5 c6 c7 c8 c9 c10 c11; have c0 := hx2.cell 0 _ rfl; have c1 := hx2.cell 1 _ rfl; have c2 := hx2.cell 2 _ rfl; have c3 := hx2.cell 3 _ rfl; have c4 := hx2.cell 4 _ rfl; have c5 := hx2.cell 5 _ rfl; have c6 := hx2.cell 6 _ rfl; have c7 := hx2.cell 7 _ rfl; have c8 := hx2.cell 8 _ rfl; have c9 := hx2.cell 9 _ rfl; have c10 := hx2.cell 10 _ rfl; have c11 := hx2.cell 11 _ rfl; clear hx2; have HB2 := Lib.hid (bstep HB.out hb2); have HW2 := Lib.hid hb2; clear hb2)
  go_ret
  exact ⟨rfl, HB2.out⟩
set_option maxRecDepth 100000 in
theorem rcheck_w (k mn mx kd : Int) (bd : Bool) (bn : Int) (sc : Value) (nm : ByteArray) (sk : Value) (wi : Int) (sh se : Value) (w : World) (hS : ∀ w1, Below w.heap.size w w1 → Calls Tryz.prog 110 #[.agg #[.int .i64 k, .int .i64 mn, .int .i64 mx, .int .i64 kd, .bool bd, .int .u64 bn, sc, .string nm, sk], .int .i64 1] w1 fun e w' => e = .returned (.bool true) ∧ Below w1.heap.size w1 w') (hw : 99999 < wi) :
    Calls Tryz.prog 77 #[.agg #[.int .i64 k, .int .i64 mn, .int .i64 mx, .int .i64 kd, .bool bd, .int .u64 bn, sc, .string nm, sk, .int .u64 wi, sh, se]] w fun e w' => e = .returned (.int .i64 3) ∧ Below w.heap.size w w' := by
  obtain ⟨W, hWW⟩ : ∃ W, W = w.alloc (.cells #[.int .i64 k, .int .i64 mn, .int .i64 mx, .int .i64 kd, .bool bd, .int .u64 bn, sc, .string nm, sk, .int .u64 wi, sh, se] 35) := ⟨_, rfl⟩
  have hb1 : Below w.heap.size w W := hWW ▸ b1 _ _
  have hBx : Blk W w.heap.size [.int .i64 k, .int .i64 mn, .int .i64 mx, .int .i64 kd, .bool bd, .int .u64 bn, sc, .string nm, sk, .int .u64 wi, sh, se] := hWW ▸ Blk.new w _ _
  have c0 := hBx.cell 0 _ rfl
  have c1 := hBx.cell 1 _ rfl
  have c2 := hBx.cell 2 _ rfl
  have c3 := hBx.cell 3 _ rfl
  have c4 := hBx.cell 4 _ rfl
  have c5 := hBx.cell 5 _ rfl
  have c6 := hBx.cell 6 _ rfl
  have c7 := hBx.cell 7 _ rfl
  have c8 := hBx.cell 8 _ rfl
  have c9 := hBx.cell 9 _ rfl
  have c10 := hBx.cell 10 _ rfl
  have c11 := hBx.cell 11 _ rfl
  have HX := Lib.hid hBx
  have HS := Lib.hid hS
  have HB := Lib.hid hb1
  clear hb1 hBx hS
  go_enter Tryz.func77, Tryz.ntmps77
  go_wp2_with fail
  rw [← hWW]
  clear hWW
  go_wp2_with (go_at_call 110; refine (HS.out _ HB.out).mono ?_; rintro e w2 ⟨rfl, hb2⟩; have hx2 := HX.out.later hb2; clear c0 c1 c2 c3 c4 c5 c6 c7 c8 c9 c10 c11; have c0 := hx2.cell 0 _ rfl; have c1 := hx2.cell 1 _ rfl; have c2 := hx2.cell 2 _ rfl; have c3 := hx2.cell 3 _ rfl; have c4 := hx2.cell 4 _ rfl; have c5 := hx2.cell 5 _ rfl; have c6 := hx2.cell 6 _ rfl; have c7 := hx2.cell 7 _ rfl; have c8 := hx2.cell 8 _ rfl; have c9 := hx2.cell 9 _ rfl; have c10 := hx2.cell 10 _ rfl; have c11 := hx2.cell 11 _ rfl; clear hx2; have HB2 := Lib.hid (bstep HB.out hb2); have HW2 := Lib.hid hb2; clear hb2)
  go_ret
  exact ⟨rfl, HB2.out⟩
set_option maxRecDepth 100000 in
set_option maxHeartbeats 16000000 in
theorem rcheck_in (k mn mx kd : Int) (bd : Bool) (bn : Int) (sc : Value) (nm : ByteArray) (sk : Value) (wi : Int) (H : Option Addr) (hv : List Hv) (ch : Nat) (M : Option Addr) (em : List Ag) (cm : Nat) (w : World) (hS : ∀ w1, Below w.heap.size w w1 → Calls Tryz.prog 110 #[.agg #[.int .i64 k, .int .i64 mn, .int .i64 mx, .int .i64 kd, .bool bd, .int .u64 bn, sc, .string nm, sk], .int .i64 1] w1 fun e w' => e = .returned (.bool true) ∧ Below w1.heap.size w1 w') (hw : ¬ 99999 < wi) (hh : Sl w 4 hv.length (.slice H hv.length ch) (hv.flatMap hvC)) (he : Sl w 2 em.length (.slice M em.length cm) (em.flatMap agC)) :
    Calls Tryz.prog 77 #[.agg #[.int .i64 k, .int .i64 mn, .int .i64 mx, .int .i64 kd, .bool bd, .int .u64 bn, sc, .string nm, sk, .int .u64 wi, .slice H hv.length ch, .slice M em.length cm]] w fun e w' => e = .returned (.int .i64 (if (hv.all haveB && em.all aggB) = true then 0 else 3)) ∧ Below w.heap.size w w' := by
  obtain ⟨_, _, hAA, hm, hels⟩ := sl_els (by decide) hvC_len hh
  obtain ⟨_, _, hAB, hm2, hels2⟩ := sl_els (by decide) agC_len he
  cases hAA
  cases hAB
  obtain ⟨R, hR⟩ : ∃ R : Int, R = if (hv.all haveB && em.all aggB) = true then 0 else 3 := ⟨_, rfl⟩
  rw [← hR]
  have HR := Lib.hid hR
  obtain ⟨W, hWW⟩ : ∃ W, W = w.alloc (.cells #[.int .i64 k, .int .i64 mn, .int .i64 mx, .int .i64 kd, .bool bd, .int .u64 bn, sc, .string nm, sk, .int .u64 wi, .slice H hv.length ch, .slice M em.length cm] 35) := ⟨_, rfl⟩
  have hb1 : Below w.heap.size w W := hWW ▸ b1 _ _
  have hBx : Blk W w.heap.size [.int .i64 k, .int .i64 mn, .int .i64 mx, .int .i64 kd, .bool bd, .int .u64 bn, sc, .string nm, sk, .int .u64 wi, .slice H hv.length ch, .slice M em.length cm] := hWW ▸ Blk.new w _ _
  have c0 := hBx.cell 0 _ rfl
  have c1 := hBx.cell 1 _ rfl
  have c2 := hBx.cell 2 _ rfl
  have c3 := hBx.cell 3 _ rfl
  have c4 := hBx.cell 4 _ rfl
  have c5 := hBx.cell 5 _ rfl
  have c6 := hBx.cell 6 _ rfl
  have c7 := hBx.cell 7 _ rfl
  have c8 := hBx.cell 8 _ rfl
  have c9 := hBx.cell 9 _ rfl
  have c10 := hBx.cell 10 _ rfl
  have c11 := hBx.cell 11 _ rfl
  have HX := Lib.hid hBx
  have HS := Lib.hid hS
  have HB := Lib.hid hb1
  have HE := Lib.hid hels
  have HE2 := Lib.hid hels2
  clear hb1 hBx hS hR hh he hels hels2
  go_enter Tryz.func77, Tryz.ntmps77
  go_wp2_with fail
  rw [← hWW]
  clear hWW
  go_wp2_with (go_at_call 110; refine (HS.out _ HB.out).mono ?_; rintro e w2 ⟨rfl, hb2⟩; have hx2 := HX.out.later hb2; clear c0 c1 c2 c3 c4 c5 c6 c7 c8 c9 c10 c11; have c0 := hx2.cell 0 _ rfl; have c1 := hx2.cell 1 _ rfl; have c2 := hx2.cell 2 _ rfl; have c3 := hx2.cell 3 _ rfl; have c4 := hx2.cell 4 _ rfl; have c5 := hx2.cell 5 _ rfl; have c6 := hx2.cell 6 _ rfl; have c7 := hx2.cell 7 _ rfl; have c8 := hx2.cell 8 _ rfl; have c9 := hx2.cell 9 _ rfl; have c10 := hx2.cell 10 _ rfl; have c11 := hx2.cell 11 _ rfl; clear hx2; have HB2 := Lib.hid (bstep HB.out hb2); have HW2 := Lib.hid hb2; clear hb2)
  clear HS
  go_loopg [3] hv.length (fun g iv wr => ∃ i : Nat, i ≤ hv.length ∧ g = hv.length - i ∧ iv = .int .i64 (i : Int) ∧ Hid (hv.all haveB = (hv.drop i).all haveB) ∧ Hid (Below W.heap.size W wr))
  case atStart => exact ⟨0, Nat.zero_le _, rfl, rfl, Lib.hid rfl, HW2⟩
  case round =>
    obtain ⟨i, hi, hg, rfl, hA, HWr⟩ := hrel
    clear c0 c1 c2 c3 c4 c5 c6 c7 c8 c9 c10 c11
    clear HB2 HW2
    have hx := HX.out.later HWr.out
    have c0 := hx.cell 0 _ rfl
    have c1 := hx.cell 1 _ rfl
    have c2 := hx.cell 2 _ rfl
    have c3 := hx.cell 3 _ rfl
    have c4 := hx.cell 4 _ rfl
    have c5 := hx.cell 5 _ rfl
    have c6 := hx.cell 6 _ rfl
    have c7 := hx.cell 7 _ rfl
    have c8 := hx.cell 8 _ rfl
    have c9 := hx.cell 9 _ rfl
    have c10 := hx.cell 10 _ rfl
    have c11 := hx.cell 11 _ rfl
    clear hx
    by_cases hlt : i < hv.length
    · have g1 : (i : Int) < (hv.length : Int) := by omega
      obtain ⟨a, hHa, _, E⟩ := HE.out i hlt
      replace E := E.later (bstep HB.out HWr.out)
      have hst : (hv.drop i).all haveB = ((aggB (hv[i]).ag && condB (hv[i]).cn) && (hv.drop (i + 1)).all haveB) := by rw [List.drop_eq_getElem_cons hlt, List.all_cons]; rfl
      obtain ⟨⟨⟨fn, xn⟩, ⟨op, va⟩⟩, hx⟩ : ∃ x, x = hv[i] := ⟨_, rfl⟩
      rw [← hx] at E hst
      simp only [hvC] at E
      simp only at hst
      have hA := hA
      have hA1 := fun w1 => ragg_any fn xn w1
      have hC := fun w1 => rcond_any op va w1
      have hAll := hA.out
      rw [hst] at hAll
      obtain ⟨p1, hp1⟩ : ∃ r, r = aggB ⟨fn, xn⟩ := ⟨_, rfl⟩
      obtain ⟨p2, hp2⟩ : ∃ r, r = condB ⟨op, va⟩ := ⟨_, rfl⟩
      obtain ⟨xs, hxs⟩ : ∃ s, s = strOf xn := ⟨_, rfl⟩
      rw [← hp1, ← hxs] at hA1
      rw [← hp2] at hC
      rw [← hp1, ← hp2] at hAll
      rw [← hxs] at E
      have HAll := Lib.hid hAll
      clear hA hx hst hp1 hp2 hxs hAll
      subst hHa
      have hA := hA1
      clear hA1
      have HEl := Lib.hid E
      have e0 := E.at0 _ rfl
      have e1 := E.at1 1 _ (by decide) rfl
      have e2 := E.at1 2 _ (by decide) rfl
      have e3 := E.at1 3 _ (by decide) rfl
      have hwi : IntKind.i64.wrap ((i : Int) + 1) = (i : Int) + 1 := IntWalk.i64_in _ ⟨by omega, by omega⟩
      clear E HE HE2
      cases p1 with
      | false =>
        have hR3 : R = 3 := by rw [HR.out, HAll.out]; rfl
        subst hR3
        clear hC e2 e3
        go_wp2_with (go_at_call 111; refine (hA _).mono ?_; rintro e w5 ⟨rfl, hb5⟩; clear c0 c1 c2 c3 c4 c5 c6 c7 c8 c9 c10 c11; have hx5 := (HX.out.later HWr.out).later hb5; have c0 := hx5.cell 0 _ rfl; have c1 := hx5.cell 1 _ rfl; have c2 := hx5.cell 2 _ rfl; have c3 := hx5.cell 3 _ rfl; have c4 := hx5.cell 4 _ rfl; have c5 := hx5.cell 5 _ rfl; have c6 := hx5.cell 6 _ rfl; have c7 := hx5.cell 7 _ rfl; have c8 := hx5.cell 8 _ rfl; have c9 := hx5.cell 9 _ rfl; have c10 := hx5.cell 10 _ rfl; have c11 := hx5.cell 11 _ rfl; clear hx5; have HW5 := Lib.hid (bstep HWr.out hb5); clear hb5)
        go_ret
        exact ⟨rfl, bstep HB.out HW5.out⟩
      | true =>
        cases p2 with
        | false =>
          have hR3 : R = 3 := by rw [HR.out, HAll.out]; rfl
          subst hR3
          clear e2 e3
          go_wp2_with (first | (go_at_call 111; refine (hA _).mono ?_; rintro e w5 ⟨rfl, hb5⟩; clear c0 c1 c2 c3 c4 c5 c6 c7 c8 c9 c10 c11; have hx5 := (HX.out.later HWr.out).later hb5; have c0 := hx5.cell 0 _ rfl; have c1 := hx5.cell 1 _ rfl; have c2 := hx5.cell 2 _ rfl; have c3 := hx5.cell 3 _ rfl; have c4 := hx5.cell 4 _ rfl; have c5 := hx5.cell 5 _ rfl; have c6 := hx5.cell 6 _ rfl; have c7 := hx5.cell 7 _ rfl; have c8 := hx5.cell 8 _ rfl; have c9 := hx5.cell 9 _ rfl; have c10 := hx5.cell 10 _ rfl; have c11 := hx5.cell 11 _ rfl; clear hx5; have hE5 := HEl.out.later hb5; have e2 := hE5.at1 2 _ (by decide) rfl; have e3 := hE5.at1 3 _ (by decide) rfl; clear hE5; have HW5 := Lib.hid (bstep HWr.out hb5); clear hb5) | (go_at_call 112; refine (hC _).mono ?_; rintro e w6 ⟨rfl, hb6⟩; replace HW5 := Lib.hid (bstep HW5.out hb6); clear hb6))
          go_ret
          exact ⟨rfl, bstep HB.out HW5.out⟩
        | true =>
          have HA2 := Lib.hid (show hv.all haveB = (hv.drop (i + 1)).all haveB by rw [HAll.out]; rfl)
          clear e2 e3
          go_wp2_with (first | (go_at_call 111; refine (hA _).mono ?_; rintro e w5 ⟨rfl, hb5⟩; clear c0 c1 c2 c3 c4 c5 c6 c7 c8 c9 c10 c11; have hx5 := (HX.out.later HWr.out).later hb5; have c0 := hx5.cell 0 _ rfl; have c1 := hx5.cell 1 _ rfl; have c2 := hx5.cell 2 _ rfl; have c3 := hx5.cell 3 _ rfl; have c4 := hx5.cell 4 _ rfl; have c5 := hx5.cell 5 _ rfl; have c6 := hx5.cell 6 _ rfl; have c7 := hx5.cell 7 _ rfl; have c8 := hx5.cell 8 _ rfl; have c9 := hx5.cell 9 _ rfl; have c10 := hx5.cell 10 _ rfl; have c11 := hx5.cell 11 _ rfl; clear hx5; have hE5 := HEl.out.later hb5; have e2 := hE5.at1 2 _ (by decide) rfl; have e3 := hE5.at1 3 _ (by decide) rfl; clear hE5; have HW5 := Lib.hid (bstep HWr.out hb5); clear hb5) | (go_at_call 112; refine (hC _).mono ?_; rintro e w6 ⟨rfl, hb6⟩; replace HW5 := Lib.hid (bstep HW5.out hb6); clear hb6))
          go_roundg (hv.length - (i + 1))
          case rel => exact ⟨i + 1, by omega, rfl, by go_num, HA2, HW5⟩
          case measure => omega
    · have g1 : ¬ (i : Int) < (hv.length : Int) := by omega
      have hall : hv.all haveB = true := by
        rw [hA.out, List.drop_of_length_le (by omega)]
        rfl
      have HALL := Lib.hid hall
      clear hall hA HE
      go_wp2
      go_loopg [4] em.length (fun g iv w7 => ∃ j : Nat, j ≤ em.length ∧ g = em.length - j ∧ iv = .int .i64 (j : Int) ∧ Hid (em.all aggB = (em.drop j).all aggB) ∧ Hid (Below W.heap.size W w7))
      case atStart => exact ⟨0, Nat.zero_le _, rfl, rfl, Lib.hid rfl, HWr⟩
      case round =>
        clear HWr
        obtain ⟨j, hj, hg2, rfl, hA, HWr⟩ := hrel
        clear c0 c1 c2 c3 c4 c5 c6 c7 c8 c9 c10 c11
        have hx := HX.out.later HWr.out
        have c0 := hx.cell 0 _ rfl
        have c1 := hx.cell 1 _ rfl
        have c2 := hx.cell 2 _ rfl
        have c3 := hx.cell 3 _ rfl
        have c4 := hx.cell 4 _ rfl
        have c5 := hx.cell 5 _ rfl
        have c6 := hx.cell 6 _ rfl
        have c7 := hx.cell 7 _ rfl
        have c8 := hx.cell 8 _ rfl
        have c9 := hx.cell 9 _ rfl
        have c10 := hx.cell 10 _ rfl
        have c11 := hx.cell 11 _ rfl
        clear hx
        by_cases hlt2 : j < em.length
        · have g2 : (j : Int) < (em.length : Int) := by omega
          obtain ⟨a, hMa, _, E⟩ := HE2.out j hlt2
          replace E := E.later (bstep HB.out HWr.out)
          have hst : (em.drop j).all aggB = (aggB em[j] && (em.drop (j + 1)).all aggB) := by rw [List.drop_eq_getElem_cons hlt2, List.all_cons]
          obtain ⟨⟨fn, xn⟩, hx⟩ : ∃ x, x = em[j] := ⟨_, rfl⟩
          rw [← hx] at E hst
          simp only [agC] at E
          have hA1 := fun w1 => ragg_any fn xn w1
          have hAll := hA.out
          rw [hst] at hAll
          obtain ⟨p1, hp1⟩ : ∃ r, r = aggB ⟨fn, xn⟩ := ⟨_, rfl⟩
          obtain ⟨xs, hxs⟩ : ∃ s, s = strOf xn := ⟨_, rfl⟩
          rw [← hp1, ← hxs] at hA1
          rw [← hp1] at hAll
          rw [← hxs] at E
          have HAll := Lib.hid hAll
          clear hA hx hst hp1 hxs hAll
          subst hMa
          have hA := hA1
          clear hA1
          have e0 := E.at0 _ rfl
          have e1 := E.at1 1 _ (by decide) rfl
          have hwi : IntKind.i64.wrap ((j : Int) + 1) = (j : Int) + 1 := IntWalk.i64_in _ ⟨by omega, by omega⟩
          clear E HE2
          cases p1 with
          | false =>
            have hR3 : R = 3 := by rw [HR.out, HAll.out, HALL.out]; rfl
            subst hR3
            go_wp2_with (go_at_call 111; refine (hA _).mono ?_; rintro e w5 ⟨rfl, hb5⟩; clear c0 c1 c2 c3 c4 c5 c6 c7 c8 c9 c10 c11; have hx5 := (HX.out.later HWr.out).later hb5; have c0 := hx5.cell 0 _ rfl; have c1 := hx5.cell 1 _ rfl; have c2 := hx5.cell 2 _ rfl; have c3 := hx5.cell 3 _ rfl; have c4 := hx5.cell 4 _ rfl; have c5 := hx5.cell 5 _ rfl; have c6 := hx5.cell 6 _ rfl; have c7 := hx5.cell 7 _ rfl; have c8 := hx5.cell 8 _ rfl; have c9 := hx5.cell 9 _ rfl; have c10 := hx5.cell 10 _ rfl; have c11 := hx5.cell 11 _ rfl; clear hx5; have HW5 := Lib.hid (bstep HWr.out hb5); clear hb5)
            go_ret
            exact ⟨rfl, bstep HB.out HW5.out⟩
          | true =>
            have HA2 := Lib.hid (show em.all aggB = (em.drop (j + 1)).all aggB by rw [HAll.out]; rfl)
            go_wp2_with (go_at_call 111; refine (hA _).mono ?_; rintro e w5 ⟨rfl, hb5⟩; clear c0 c1 c2 c3 c4 c5 c6 c7 c8 c9 c10 c11; have hx5 := (HX.out.later HWr.out).later hb5; have c0 := hx5.cell 0 _ rfl; have c1 := hx5.cell 1 _ rfl; have c2 := hx5.cell 2 _ rfl; have c3 := hx5.cell 3 _ rfl; have c4 := hx5.cell 4 _ rfl; have c5 := hx5.cell 5 _ rfl; have c6 := hx5.cell 6 _ rfl; have c7 := hx5.cell 7 _ rfl; have c8 := hx5.cell 8 _ rfl; have c9 := hx5.cell 9 _ rfl; have c10 := hx5.cell 10 _ rfl; have c11 := hx5.cell 11 _ rfl; clear hx5; have HW5 := Lib.hid (bstep HWr.out hb5); clear hb5)
            go_roundg (em.length - (j + 1))
            case rel => exact ⟨j + 1, by omega, rfl, by go_num, HA2, HW5⟩
            case measure => omega
        · have g2 : ¬ (j : Int) < (em.length : Int) := by omega
          have hR0 : R = 0 := by
            rw [HR.out, HALL.out, hA.out, List.drop_of_length_le (by omega)]
            rfl
          subst hR0
          clear hA HE2
          go_wp2
          go_ret
          exact ⟨rfl, bstep HB.out HWr.out⟩
theorem rCheck_any (q : GQ) (w : World) (hq : QW w q) :
    Calls Tryz.prog 77 #[.agg q.row.toArray] w fun e w' => e = .returned (.int .i64 (checkE q.qu)) ∧ Below w.heap.size w w' := by
  obtain ⟨T, wi, sh, hv, se, em⟩ := q
  obtain ⟨hT, -, hh, he, -, -⟩ := hq
  simp only at hT hh he
  have hS := fun w1 (hb : Below w.heap.size w w1) => rsound_any T 1 w1 (hT.later hb) (by omega)
  have hc : checkE (GQ.qu ⟨T, wi, sh, hv, se, em⟩) = if (soundN 1 T.nd && decide (wi ≤ 99999) && hv.all haveB && em.all aggB) = true then 0 else 3 := rfl
  rw [hc]
  clear hc hT
  obtain ⟨p, hp⟩ : ∃ p, p = soundN 1 T.nd := ⟨_, rfl⟩
  rw [← hp] at hS ⊢
  clear hp
  obtain ⟨H, ch, rfl, -, -⟩ := sl_get (by decide) hh
  obtain ⟨M, cm, rfl, -, -⟩ := sl_get (by decide) he
  obtain ⟨k, mn, mx, ⟨⟨kd, bd, bn, cs, nm⟩, sc⟩, sk, ks⟩ := T
  simp only [Tr.row] at hS
  cases p with
  | false => exact rcheck_s k mn mx kd bd bn sc (strOf nm) sk wi _ _ w hS
  | true =>
    by_cases hw : 99999 < wi
    · rw [decide_eq_false (by omega)]
      exact rcheck_w k mn mx kd bd bn sc (strOf nm) sk wi _ _ w hS hw
    · rw [decide_eq_true (by omega), Bool.true_and, Bool.true_and]
      exact rcheck_in k mn mx kd bd bn sc (strOf nm) sk wi H hv ch M em cm w hS hw hh he
end Go.Proofs.YtdoioaeppepndaaGreatDoor
