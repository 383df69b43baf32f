/- Walks: conditions that all hold. Made by program (wip/tools/gen_astC.py). -/
import Derived.Test.YtfibmdbplfghcaaGreatDoorAstA
namespace Go.Proofs.YtfibmdbplfghcaaGreatDoor
open Go.RowKit
open A8

theorem isFrom_any (a n b : Int) (w : World) : Calls Tryz.prog 88 #[.int .i64 a, .int .i64 n, .int .i64 b] w fun e w' => e = .returned (.bool (decide (a ≤ n) && decide (n ≤ b))) ∧ w = w' := by
  by_cases h1 : a ≤ n
  · by_cases h2 : n ≤ b
    · go_enter Tryz.func88, Tryz.ntmps88
      go_wp2
      go_ret
      exact ⟨ret_bool (by simp [h1, h2]), rfl⟩
    · go_enter Tryz.func88, Tryz.ntmps88
      go_wp2
      go_ret
      exact ⟨ret_bool (by simp [h2]), rfl⟩
  · go_enter Tryz.func88, Tryz.ntmps88
    go_wp2
    go_ret
    exact ⟨ret_bool (by rw [decide_eq_false (p := a ≤ n) (by omega)]; rfl), rfl⟩
theorem isCond_any (c : Cn) (w : World) : Calls Tryz.prog 85 #[.agg (cnC c).toArray] w fun e w' => e = .returned (.bool (condB c)) ∧ Below w.heap.size w w' := by
  obtain ⟨op, va⟩ := c
  have hq := fun w => isFrom_any 1 op 6 w
  unfold condB cnC
  simp only
  obtain ⟨q, hqq⟩ : ∃ q, q = (decide (1 ≤ op) && decide (op ≤ 6)) := ⟨_, rfl⟩
  rw [← hqq] at hq ⊢
  clear hqq
  go_enter Tryz.func85, Tryz.ntmps85
  go_wp2_with (go_at_call 88; refine (hq _).mono ?_; rintro e w2 ⟨rfl, rfl⟩)
  go_ret
  exact ⟨rfl, b1 _ _⟩
set_option maxRecDepth 100000 in
set_option maxHeartbeats 2000000 in
theorem areAllCond1_any (x : Cn) (b : Nat) (w : World) (hB : Blk w b [.func (.func 85) #[] #[]]) :
    Calls Tryz.prog 125 #[.agg (cnC x).toArray, .pointer (some ⟨b, 0, none⟩)] w fun e w' => e = .returned (.bool (!condB x)) ∧ Below w.heap.size w w' := by
  have hq := fun w => isCond_any x w
  obtain ⟨q, hqq⟩ : ∃ q, q = condB x := ⟨_, rfl⟩
  rw [← hqq] at hq ⊢
  have hB2 := hB.alloc (.cells (cnC x).toArray 59)
  have c0 := hB2.cell 0 _ rfl
  simp only [cnC] at hq c0 ⊢


  clear hqq hB hB2
  go_enter Tryz.func125, Tryz.ntmps125
  go_wp2_with (go_at_call 85; refine (hq _).mono ?_; rintro e w2 ⟨rfl, hb2⟩)
  go_ret
  exact ⟨rfl, bstep (b1 _ _) hb2⟩
set_option maxRecDepth 100000 in
set_option maxHeartbeats 4000000 in
theorem indexFuncCond_any (v : Value) (l : List Cn) (b : Nat) (w : World) (hv : Sl w 2 l.length v (l.flatMap cnC)) (hB : Blk w b [.func (.func 85) #[] #[]]) :
    Calls Tryz.prog 141 #[v, .func (.func 125) #[] #[.pointer (some ⟨b, 0, none⟩)]] w fun e w' => ∃ j : Int, e = .returned (.int .i64 j) ∧ decide (0 ≤ j) = !l.all condB ∧ Below w.heap.size w w' := by
  obtain ⟨A, cap, rfl, hm, hc⟩ := sl_els (by decide) cnC_len hv
  have HC := Lib.hid hc
  have HB := Lib.hid hB

  clear hc hv hB
  go_enter Tryz.func141, Tryz.ntmps141
  go_wp2
  go_loopg [5, 8] l.length (fun g tv iv wr => ∃ k : Nat, k ≤ l.length ∧ g = l.length - k ∧ iv = .int .i64 (k : Int) ∧ Hid (Below w.heap.size w wr) ∧ Hid (l.all condB = (l.drop k).all condB))
  case atStart => exact ⟨0, Nat.zero_le _, rfl, rfl, Lib.hid (Below.refl _ _), Lib.hid rfl⟩
  case round =>
    obtain ⟨k, hk, hg, rfl, hb, hS⟩ := hrel
    by_cases hlt : k < l.length
    · obtain ⟨a, rfl, ha, E⟩ := HC.out k hlt
      have hst : (l.drop k).all condB = (condB l[k] && (l.drop (k + 1)).all condB) := by
        rw [List.drop_eq_getElem_cons hlt, List.all_cons]
      rw [hst] at hS
      have hq := fun w hB  => areAllCond1_any l[k] b w  hB
      obtain ⟨x, hx⟩ : ∃ x, x = l[k] := ⟨_, rfl⟩
      rw [← hx] at E hS hq
      obtain ⟨q, hqq⟩ : ∃ q, q = condB x := ⟨_, rfl⟩
      rw [← hqq] at hS hq
      replace E := E.same (SameB.of hb.out)
      have hBr := HB.out.later hb.out

      clear hx hqq hst HC
      have c0 := E.at0 _ rfl
      have c1 := E.at1 1 _ (by decide) rfl
      simp only [cnC] at hq
      have h1 : (k : Int) < (l.length : Int) := by omega
      have hwk : IntKind.i64.wrap ((k : Int) + 1) = (k : Int) + 1 := IntWalk.i64_in _ ⟨by omega, by omega⟩
      clear E
      cases q with
      | true =>
        have HS2 := Lib.hid (show l.all condB = (l.drop (k + 1)).all condB by rw [hS.out, Bool.true_and])
        clear hS
        go_wp2_with (go_at_call 125; refine (hq _ hBr).mono ?_; rintro e w2 ⟨rfl, hb2⟩)
        go_roundg (l.length - (k + 1))
        case rel => exact ⟨k + 1, by omega, rfl, by go_num, Lib.hid (bstep hb.out hb2), HS2⟩
        case measure => omega
      | false =>
        have HS2 := Lib.hid (show decide (0 ≤ (k : Int)) = !l.all condB by rw [hS.out, Bool.false_and, Bool.not_false, decide_eq_true_iff]; omega)
        clear hS
        go_wp2_with (go_at_call 125; refine (hq _ hBr).mono ?_; rintro e w2 ⟨rfl, hb2⟩)
        go_ret
        exact ⟨_, rfl, HS2.out, bstep hb.out hb2⟩
    · have e1 := Lib.hid (show decide (0 ≤ (-1 : Int)) = !l.all condB by rw [hS.out, List.drop_eq_nil_of_le (by omega)]; rfl)
      have hi : ¬ (k : Int) < (l.length : Int) := by omega
      clear HC hS
      go_wp2
      go_ret
      exact ⟨_, rfl, e1.out, hb.out⟩
set_option maxRecDepth 100000 in
set_option maxHeartbeats 2000000 in
theorem containsFuncCond_any (v : Value) (l : List Cn) (b : Nat) (w : World) (hv : Sl w 2 l.length v (l.flatMap cnC)) (hB : Blk w b [.func (.func 85) #[] #[]]) :
    Calls Tryz.prog 124 #[v, .func (.func 125) #[] #[.pointer (some ⟨b, 0, none⟩)]] w fun e w' => e = .returned (.bool (!l.all condB)) ∧ Below w.heap.size w w' := by
  have hq := indexFuncCond_any v l b w  hv hB
  clear hv hB
  obtain ⟨q, hqq⟩ : ∃ q, q = l.all condB := ⟨_, rfl⟩
  rw [← hqq] at hq ⊢
  clear hqq
  go_enter Tryz.func124, Tryz.ntmps124
  go_wp2_with (go_at_call 141; refine hq.mono ?_; rintro e w2 ⟨j, rfl, hj, hb2⟩)
  go_ret
  exact ⟨rfl, hb2⟩
set_option maxRecDepth 100000 in
set_option maxHeartbeats 2000000 in
theorem areAllCond_any (v : Value) (l : List Cn) (w : World) (hv : Sl w 2 l.length v (l.flatMap cnC)) :
    Calls Tryz.prog 111 #[v, .func (.func 85) #[] #[]] w fun e w' => e = .returned (.bool (l.all condB)) ∧ Below w.heap.size w w' := by
  obtain ⟨W, hW⟩ : ∃ W, W = w.alloc (.cells #[.func (.func 85) #[] #[]] 82) := ⟨_, rfl⟩
  have hb1 := b1 w (.cells #[.func (.func 85) #[] #[]] 82)
  have hB := Blk.new w [.func (.func 85) #[] #[]] 82
  rw [← hW] at hb1
  have hB2 : Blk W w.heap.size [.func (.func 85) #[] #[]] := hW ▸ hB
  have hq := containsFuncCond_any v l w.heap.size W  (hv.later hb1) hB2
  obtain ⟨q, hqq⟩ : ∃ q, q = l.all condB := ⟨_, rfl⟩
  rw [← hqq] at hq ⊢
  clear hqq hv hB hB2
  go_enter Tryz.func111, Tryz.ntmps111
  go_wp2_with fail
  rw [← hW]
  go_wp2_with (go_at_call 124; refine hq.mono ?_; rintro e w2 ⟨rfl, hb2⟩)
  go_ret
  exact ⟨rfl, bstep hb1 hb2⟩
end Go.Proofs.YtfibmdbplfghcaaGreatDoor
