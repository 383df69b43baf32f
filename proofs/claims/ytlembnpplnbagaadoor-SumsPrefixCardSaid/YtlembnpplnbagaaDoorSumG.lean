/- Walks: counts, quotients that are rounded up, products with a limit: the program's and the reference's. -/
import Derived.Test.YtlembnpplnbagaaDoorSumA
namespace Go.Proofs.YtlembnpplnbagaaDoor
open Go.RowKit Go.Shelf
open Sm

def cntB (n : Int) : Bool := decide (n ≤ 1099511627776)
theorem cntB_iff {n : Int} : cntB n = true ↔ n ≤ 1099511627776 := by simp [cntB]
theorem cntB_not {n : Int} : cntB n = false ↔ 1099511627776 < n := by simp [cntB]
theorem isCount_is (n : Int) (b : Bool) (h : cntB n = b) (w : World) : Calls Tryd.prog 54 #[.int .u64 n] w fun e w' => e = .returned (.bool b) ∧ w = w' := by
  subst h
  go_enter Tryd.func54, Tryd.ntmps54
  go_wp2
  go_ret
  exact ⟨rfl, rfl⟩
def plusB (n m : Int) : Bool := cntB n && cntB m && cntB (n + m)
def plusN (n m : Int) : Int := if plusB n m = true then n + m else 0
def plusE (n m : Int) : Int := if plusB n m = true then 0 else 6
theorem plus_no {n m : Int} (h : plusB n m = false) : plusN n m = 0 ∧ plusE n m = 6 := by unfold plusN plusE; rw [h]; exact ⟨rfl, rfl⟩
theorem plus_yes {n m : Int} (h : plusB n m = true) : plusN n m = n + m ∧ plusE n m = 0 := by unfold plusN plusE; rw [h]; exact ⟨rfl, rfl⟩

theorem sumPlus_any (n m : Int) (hn : 0 ≤ n) (hm : 0 ≤ m) (w : World) : Calls Tryd.prog 28 #[.int .u64 n, .int .u64 m] w fun e w' => e = .returned (.tuple #[.int .u64 (plusN n m), .int .i64 (plusE n m)]) ∧ w = w' := by
  cases h1 : cntB n
  · have c1 := fun w => isCount_is n false h1 w
    obtain ⟨e1, e2⟩ := plus_no (n := n) (m := m) (by unfold plusB; rw [h1]; rfl)
    rw [e1, e2]
    clear e1 e2 h1
    go_enter Tryd.func28, Tryd.ntmps28
    go_wp2_with (go_at_call 54; with_reducible refine (c1 _).mono ?_; rintro e w' ⟨rfl, rfl⟩)
    go_ret2
    exact ⟨rfl, rfl⟩
  · have c1 := fun w => isCount_is n true h1 w
    cases h2 : cntB m
    · have c2 := fun w => isCount_is m false h2 w
      obtain ⟨e1, e2⟩ := plus_no (n := n) (m := m) (by unfold plusB; rw [h1, h2]; rfl)
      rw [e1, e2]
      clear e1 e2 h1 h2
      go_enter Tryd.func28, Tryd.ntmps28
      go_wp2_with (first | (go_at_call 54; with_reducible refine (c1 _).mono ?_; rintro e w' ⟨rfl, rfl⟩) | (go_at_call 54; with_reducible refine (c2 _).mono ?_; rintro e w' ⟨rfl, rfl⟩))
      go_ret2
      exact ⟨rfl, rfl⟩
    · have c2 := fun w => isCount_is m true h2 w
      have b1 := cntB_iff.1 h1
      have b2 := cntB_iff.1 h2
      obtain ⟨s, hs⟩ : ∃ s, s = n + m := ⟨_, rfl⟩
      have hw : IntKind.u64.wrap (n + m) = s := by rw [IntWalk.u64_in _ ⟨by omega, by omega⟩, hs]
      cases h3 : cntB (n + m)
      · have c3 := fun w => isCount_is s false (by rw [hs]; exact h3) w
        obtain ⟨e1, e2⟩ := plus_no (n := n) (m := m) (by unfold plusB; rw [h1, h2, h3]; rfl)
        rw [e1, e2]
        clear e1 e2 h1 h2 h3 hs b1 b2 hn hm
        go_enter Tryd.func28, Tryd.ntmps28
        go_wp2_with (first | (go_at_call 54; with_reducible refine (c1 _).mono ?_; rintro e w' ⟨rfl, rfl⟩) | (go_at_call 54; with_reducible refine (c2 _).mono ?_; rintro e w' ⟨rfl, rfl⟩) | (go_at_call 54; with_reducible refine (c3 _).mono ?_; rintro e w' ⟨rfl, rfl⟩))
        go_ret2
        exact ⟨rfl, rfl⟩
      · have c3 := fun w => isCount_is s true (by rw [hs]; exact h3) w
        obtain ⟨e1, e2⟩ := plus_yes (n := n) (m := m) (by unfold plusB; rw [h1, h2, h3]; rfl)
        rw [e1, e2, ← hs]
        clear e1 e2 h1 h2 h3 hs b1 b2 hn hm
        go_enter Tryd.func28, Tryd.ntmps28
        go_wp2_with (first | (go_at_call 54; with_reducible refine (c1 _).mono ?_; rintro e w' ⟨rfl, rfl⟩) | (go_at_call 54; with_reducible refine (c2 _).mono ?_; rintro e w' ⟨rfl, rfl⟩) | (go_at_call 54; with_reducible refine (c3 _).mono ?_; rintro e w' ⟨rfl, rfl⟩))
        go_ret2
        exact ⟨rfl, rfl⟩
theorem sumNext_any (n : Int) (hn : 0 ≤ n) (w : World) : Calls Tryd.prog 26 #[.int .u64 n] w fun e w' => e = .returned (.tuple #[.int .u64 (plusN n 1), .int .i64 (plusE n 1)]) ∧ w = w' := by
  have hc := fun w => sumPlus_any n 1 hn (by decide) w
  obtain ⟨x, hx⟩ : ∃ x, x = plusN n 1 := ⟨_, rfl⟩
  obtain ⟨y, hy⟩ : ∃ y, y = plusE n 1 := ⟨_, rfl⟩
  rw [← hx, ← hy] at hc ⊢
  clear hx hy hn
  go_enter Tryd.func26, Tryd.ntmps26
  go_wp2_with (go_at_call 28; refine (hc _).mono ?_; rintro e w' ⟨rfl, rfl⟩)
  go_ret2
  exact ⟨rfl, rfl⟩
theorem refPlus_any (n m : Int) (hn : 0 ≤ n) (hm : 0 ≤ m) (w : World) : Calls Tryd.prog 29 #[.int .u64 n, .int .u64 m] w fun e w' => e = .returned (.tuple #[.int .u64 (plusN n m), .int .i64 (plusE n m)]) ∧ w = w' := by
  cases h1 : cntB n
  · have b1 := cntB_not.1 h1
    obtain ⟨e1, e2⟩ := plus_no (n := n) (m := m) (by unfold plusB; rw [h1]; rfl)
    rw [e1, e2]
    clear e1 e2 h1
    go_enter Tryd.func29, Tryd.ntmps29
    go_wp2
    go_ret2
    exact ⟨rfl, rfl⟩
  · have b1 := cntB_iff.1 h1
    cases h2 : cntB m
    · have b2 := cntB_not.1 h2
      obtain ⟨e1, e2⟩ := plus_no (n := n) (m := m) (by unfold plusB; rw [h1, h2]; rfl)
      rw [e1, e2]
      clear e1 e2 h1 h2
      go_enter Tryd.func29, Tryd.ntmps29
      go_wp2
      go_ret2
      exact ⟨rfl, rfl⟩
    · have b2 := cntB_iff.1 h2
      cases h3 : cntB (n + m)
      · have b3 := cntB_not.1 h3
        obtain ⟨e1, e2⟩ := plus_no (n := n) (m := m) (by unfold plusB; rw [h1, h2, h3]; rfl)
        rw [e1, e2]
        clear e1 e2 h1 h2 h3
        go_enter Tryd.func29, Tryd.ntmps29
        go_wp2
        go_ret2
        exact ⟨rfl, rfl⟩
      · have b3 := cntB_iff.1 h3
        obtain ⟨e1, e2⟩ := plus_yes (n := n) (m := m) (by unfold plusB; rw [h1, h2, h3]; rfl)
        rw [e1, e2]
        clear e1 e2 h1 h2 h3
        go_enter Tryd.func29, Tryd.ntmps29
        go_wp2
        go_ret2
        exact ⟨rfl, rfl⟩
theorem refNext_any (n : Int) (hn : 0 ≤ n) (w : World) : Calls Tryd.prog 27 #[.int .u64 n] w fun e w' => e = .returned (.tuple #[.int .u64 (plusN n 1), .int .i64 (plusE n 1)]) ∧ w = w' := by
  have hc := fun w => refPlus_any n 1 hn (by decide) w
  obtain ⟨x, hx⟩ : ∃ x, x = plusN n 1 := ⟨_, rfl⟩
  obtain ⟨y, hy⟩ : ∃ y, y = plusE n 1 := ⟨_, rfl⟩
  rw [← hx, ← hy] at hc ⊢
  clear hx hy hn
  go_enter Tryd.func27, Tryd.ntmps27
  go_wp2_with (go_at_call 29; refine (hc _).mono ?_; rintro e w' ⟨rfl, rfl⟩)
  go_ret2
  exact ⟨rfl, rfl⟩

def btw (l n : Int) : Bool := decide (l ≤ n) && decide (n ≤ 1099511627776)
theorem btw_iff {l n : Int} : btw l n = true ↔ l ≤ n ∧ n ≤ 1099511627776 := by simp [btw]
theorem isBetween_is (l n : Int) (b : Bool) (h : btw l n = b) (w : World) : Calls Tryd.prog 55 #[.int .i64 l, .int .i64 n] w fun e w' => e = .returned (.bool b) ∧ w = w' := by
  subst h
  by_cases h : l ≤ n
  · go_enter Tryd.func55, Tryd.ntmps55
    go_wp2
    go_ret
    exact ⟨ret_bool (by simp [btw, h]), rfl⟩
  · go_enter Tryd.func55, Tryd.ntmps55
    go_wp2
    go_ret
    exact ⟨ret_bool (by simp [btw]; omega), rfl⟩
theorem refCount_is (n : Int) (b : Bool) (h : btw 0 n = b) (w : World) : Calls Tryd.prog 56 #[.int .i64 n] w fun e w' => e = .returned (.bool b) ∧ w = w' := by
  subst h
  by_cases h : 0 ≤ n
  · go_enter Tryd.func56, Tryd.ntmps56
    go_wp2
    go_ret
    exact ⟨ret_bool (by simp [btw, h]), rfl⟩
  · go_enter Tryd.func56, Tryd.ntmps56
    go_wp2
    go_ret
    exact ⟨ret_bool (by simp [btw]; omega), rfl⟩
def ceilB (a b : Int) : Bool := btw 0 a && btw 1 b
def ceilN (a b : Int) : Int := if ceilB a b = true then (a + b - 1) / b else 0
def ceilE (a b : Int) : Int := if ceilB a b = true then 0 else 2
theorem ceil_no {a b : Int} (h : ceilB a b = false) : ceilN a b = 0 ∧ ceilE a b = 2 := by unfold ceilN ceilE; rw [h]; exact ⟨rfl, rfl⟩
theorem ceil_yes {a b : Int} (h : ceilB a b = true) : ceilN a b = (a + b - 1) / b ∧ ceilE a b = 0 := by unfold ceilN ceilE; rw [h]; exact ⟨rfl, rfl⟩
theorem ceil_any (a b : Int) (w : World) : Calls Tryd.prog 30 #[.int .i64 a, .int .i64 b] w fun e w' => e = .returned (.tuple #[.int .i64 (ceilN a b), .int .i64 (ceilE a b)]) ∧ w = w' := by
  cases h1 : btw 0 a
  · have c1 := fun w => isBetween_is 0 a false h1 w
    obtain ⟨e1, e2⟩ := ceil_no (a := a) (b := b) (by unfold ceilB; rw [h1]; rfl)
    rw [e1, e2]
    clear e1 e2 h1
    go_enter Tryd.func30, Tryd.ntmps30
    go_wp2_with (go_at_call 55; with_reducible refine (c1 _).mono ?_; rintro e w' ⟨rfl, rfl⟩)
    go_ret2
    exact ⟨rfl, rfl⟩
  · have c1 := fun w => isBetween_is 0 a true h1 w
    cases h2 : btw 1 b
    · have c2 := fun w => isBetween_is 1 b false h2 w
      obtain ⟨e1, e2⟩ := ceil_no (a := a) (b := b) (by unfold ceilB; rw [h1, h2]; rfl)
      rw [e1, e2]
      clear e1 e2 h1 h2
      go_enter Tryd.func30, Tryd.ntmps30
      go_wp2_with (first | (go_at_call 55; with_reducible refine (c1 _).mono ?_; rintro e w' ⟨rfl, rfl⟩) | (go_at_call 55; with_reducible refine (c2 _).mono ?_; rintro e w' ⟨rfl, rfl⟩))
      go_ret2
      exact ⟨rfl, rfl⟩
    · have c2 := fun w => isBetween_is 1 b true h2 w
      obtain ⟨a0, a1⟩ := btw_iff.1 h1
      obtain ⟨b0, b1⟩ := btw_iff.1 h2
      obtain ⟨e1, e2⟩ := ceil_yes (a := a) (b := b) (by unfold ceilB; rw [h1, h2]; rfl)
      rw [e1, e2]
      clear e1 e2 h1 h2
      go_enter Tryd.func30, Tryd.ntmps30
      go_wp2_with (first | (go_at_call 55; with_reducible refine (c1 _).mono ?_; rintro e w' ⟨rfl, rfl⟩) | (go_at_call 55; with_reducible refine (c2 _).mono ?_; rintro e w' ⟨rfl, rfl⟩))
      go_ret2
      exact ⟨rfl, rfl⟩
theorem refCeil_any (a b : Int) (w : World) : Calls Tryd.prog 31 #[.int .i64 a, .int .i64 b] w fun e w' => e = .returned (.tuple #[.int .i64 (ceilN a b), .int .i64 (ceilE a b)]) ∧ w = w' := by
  cases h1 : btw 0 a
  · have c1 := fun w => refCount_is a false h1 w
    obtain ⟨e1, e2⟩ := ceil_no (a := a) (b := b) (by unfold ceilB; rw [h1]; rfl)
    rw [e1, e2]
    clear e1 e2 h1
    go_enter Tryd.func31, Tryd.ntmps31
    go_wp2_with (go_at_call 56; with_reducible refine (c1 _).mono ?_; rintro e w' ⟨rfl, rfl⟩)
    go_ret2
    exact ⟨rfl, rfl⟩
  · have c1 := fun w => refCount_is a true h1 w
    cases h2 : btw 0 b
    · have c2 := fun w => refCount_is b false h2 w
      have h2' : btw 1 b = false := by
        cases e : btw 1 b
        · rfl
        · have := btw_iff.1 e; rw [btw_iff.2 ⟨by omega, this.2⟩] at h2; cases h2
      obtain ⟨e1, e2⟩ := ceil_no (a := a) (b := b) (by unfold ceilB; rw [h1, h2']; rfl)
      rw [e1, e2]
      clear e1 e2 h1 h2 h2'
      go_enter Tryd.func31, Tryd.ntmps31
      go_wp2_with (first | (go_at_call 56; with_reducible refine (c1 _).mono ?_; rintro e w' ⟨rfl, rfl⟩) | (go_at_call 56; with_reducible refine (c2 _).mono ?_; rintro e w' ⟨rfl, rfl⟩))
      go_ret2
      exact ⟨rfl, rfl⟩
    · have c2 := fun w => refCount_is b true h2 w
      obtain ⟨a0, a1⟩ := btw_iff.1 h1
      obtain ⟨b0, b1⟩ := btw_iff.1 h2
      by_cases hb : b = 0
      · subst hb
        obtain ⟨e1, e2⟩ := ceil_no (a := a) (b := 0) (by unfold ceilB; rw [h1]; rfl)
        rw [e1, e2]
        clear e1 e2 h1 h2
        go_enter Tryd.func31, Tryd.ntmps31
        go_wp2_with (first | (go_at_call 56; with_reducible refine (c1 _).mono ?_; rintro e w' ⟨rfl, rfl⟩) | (go_at_call 56; with_reducible refine (c2 _).mono ?_; rintro e w' ⟨rfl, rfl⟩))
        go_ret2
        exact ⟨rfl, rfl⟩
      · have b2 : 1 ≤ b := by omega
        have b3 : (b == 0) = false := by rw [beq_eq_false_iff_ne]; exact hb
        obtain ⟨e1, e2⟩ := ceil_yes (a := a) (b := b) (by unfold ceilB; rw [h1, btw_iff.2 ⟨b2, b1⟩]; rfl)
        rw [e1, e2]
        clear e1 e2 h1 h2
        go_enter Tryd.func31, Tryd.ntmps31
        go_wp2_with (first | (go_at_call 56; with_reducible refine (c1 _).mono ?_; rintro e w' ⟨rfl, rfl⟩) | (go_at_call 56; with_reducible refine (c2 _).mono ?_; rintro e w' ⟨rfl, rfl⟩))
        go_ret2
        exact ⟨rfl, rfl⟩
end Go.Proofs.YtlembnpplnbagaaDoor
