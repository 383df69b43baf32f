/- Walks: the reference's sums, differences, products, negatives. -/
import Derived.Test.YtlembnpplnbagaaDoorSumC
import Derived.Handy
namespace Go.Proofs.YtlembnpplnbagaaDoor
open Go.RowKit Go.Shelf
open Sm

def BigOut (v : Int) (w : World) (e : Ending) (w' : World) : Prop := ∃ (s : Bool) (hi lo : Nat), e = .returned (.agg #[.bool s, .int .u64 (hi : Int), .int .u64 (lo : Int)]) ∧ lo < 18446744073709551616 ∧ bigV s hi lo = v ∧ Below w.heap.size w w'
theorem BigOut.of {v : Int} {w w' : World} {e : Ending} (s : Bool) (hi lo : Nat) (he : e = .returned (.agg #[.bool s, .int .u64 (hi : Int), .int .u64 (lo : Int)])) (hl : lo < 18446744073709551616) (hv : bigV s hi lo = v) (hb : Below w.heap.size w w') : BigOut v w e w' :=
  ⟨s, hi, lo, he, hl, hv, hb⟩
theorem plus_any (a b : Int) (ha : okI a = true) (hb : okI b = true) (w : World) : Calls Tryd.prog 48 #[.int .i64 a, .int .i64 b] w (BigOut (a + b) w) := by
  have hsa := fun w => refSize5_any a ha w
  have hsb := fun w => refSize5_any b hb w
  have hA := abs_ok ha
  have hB := abs_ok hb
  obtain ⟨x, hx⟩ : ∃ x, x = a.natAbs := ⟨_, rfl⟩
  obtain ⟨y, hy⟩ : ∃ y, y = b.natAbs := ⟨_, rfl⟩
  rw [← hx] at hsa hA
  rw [← hy] at hsb hB
  by_cases hs : (a < 0) = (b < 0)
  · by_cases hov : x + y < 18446744073709551616
    · have c0 : ¬ ((x : Int) + (y : Int) < (x : Int)) := by omega
      have HV := Lib.hid (show ∀ s, s = decide (a < 0) → bigV s 0 (x + y) = a + b from fun s h => by
        subst h; unfold bigV
        by_cases h1 : a < 0
        · have h2 : b < 0 := by rw [← hs]; exact h1
          simp [h1]; omega
        · have h2 : ¬ b < 0 := by rw [← hs]; exact h1
          simp [h1]; omega)
      by_cases h1 : a < 0
      · have h2 : b < 0 := by rw [← hs]; exact h1
        have HV2 := Lib.hid (HV.out true (by simp [h1]))
        have d1 := decide_eq_true h1
        have d2 := decide_eq_true h2
        clear HV hx hy hs ha hb
        go_enter Tryd.func48, Tryd.ntmps48
        go_wp2_with (first | (go_at_call 51; with_reducible refine (hsa _).mono ?_; rintro e w' ⟨rfl, rfl⟩) | (go_at_call 51; with_reducible refine (hsb _).mono ?_; rintro e w' ⟨rfl, rfl⟩))
        refine bodyPost_ret (v := .agg #[.bool true, .int .u64 ((0 : Nat) : Int), .int .u64 ((x + y : Nat) : Int)]) (by simp [results, Tryd.results48, go_sem]; try rfl) rfl (BigOut.of true 0 (x + y) rfl (by omega) HV2.out ?_)
        go_grown
      · have h2 : ¬ b < 0 := by rw [← hs]; exact h1
        have HV2 := Lib.hid (HV.out false (by simp [h1]))
        have d1 := decide_eq_false h1
        have d2 := decide_eq_false h2
        clear HV hx hy hs ha hb
        go_enter Tryd.func48, Tryd.ntmps48
        go_wp2_with (first | (go_at_call 51; with_reducible refine (hsa _).mono ?_; rintro e w' ⟨rfl, rfl⟩) | (go_at_call 51; with_reducible refine (hsb _).mono ?_; rintro e w' ⟨rfl, rfl⟩))
        refine bodyPost_ret (v := .agg #[.bool false, .int .u64 ((0 : Nat) : Int), .int .u64 ((x + y : Nat) : Int)]) (by simp [results, Tryd.results48, go_sem]; try rfl) rfl (BigOut.of false 0 (x + y) rfl (by omega) HV2.out ?_)
        go_grown
    · have e1 : a = -9223372036854775808 := by have := okI_iff.1 ha; omega
      have e2 : b = -9223372036854775808 := by have := okI_iff.1 hb; omega
      obtain rfl : x = 9223372036854775808 := by omega
      obtain rfl : y = 9223372036854775808 := by omega
      subst e1
      subst e2
      clear hx hy hs ha hb hA hB hov
      go_enter Tryd.func48, Tryd.ntmps48
      go_wp2_with (first | (go_at_call 51; with_reducible refine (hsa _).mono ?_; rintro e w' ⟨rfl, rfl⟩) | (go_at_call 51; with_reducible refine (hsb _).mono ?_; rintro e w' ⟨rfl, rfl⟩))
      refine bodyPost_ret (v := .agg #[.bool true, .int .u64 ((1 : Nat) : Int), .int .u64 ((0 : Nat) : Int)]) (by simp [results, Tryd.results48, go_sem]; try rfl) rfl (BigOut.of true 1 0 rfl (by omega) (by decide) ?_)
      go_grown
  · by_cases hge : y ≤ x
    · have cge : (y : Int) ≤ (x : Int) := by omega
      have hsub : IntKind.u64.wrap ((x : Int) - (y : Int)) = ((x - y : Nat) : Int) := by rw [IntWalk.u64_in _ ⟨by omega, by omega⟩]; omega
      obtain ⟨z, hz⟩ : ∃ z, z = x - y := ⟨_, rfl⟩
      rw [← hz] at hsub
      by_cases h1 : a < 0
      · have h2 : ¬ b < 0 := fun h => hs (by simp [h1, h])
        have HV2 := Lib.hid (show bigV true 0 z = a + b by unfold bigV; simp; omega)
        have hz' : z < 18446744073709551616 := by omega
        have d1 := decide_eq_true h1
        have d2 := decide_eq_false h2
        clear hx hy hs ha hb hz
        go_enter Tryd.func48, Tryd.ntmps48
        go_wp2_with (first | (go_at_call 51; with_reducible refine (hsa _).mono ?_; rintro e w' ⟨rfl, rfl⟩) | (go_at_call 51; with_reducible refine (hsb _).mono ?_; rintro e w' ⟨rfl, rfl⟩))
        refine bodyPost_ret (v := .agg #[.bool true, .int .u64 ((0 : Nat) : Int), .int .u64 ((z : Nat) : Int)]) (by simp [results, Tryd.results48, go_sem]; try rfl) rfl (BigOut.of true 0 z rfl hz' HV2.out ?_)
        go_grown
      · have h2 : b < 0 := by
          by_cases h : b < 0
          · exact h
          · exact absurd (by simp [h1, h]) hs
        have HV2 := Lib.hid (show bigV false 0 z = a + b by unfold bigV; simp; omega)
        have hz' : z < 18446744073709551616 := by omega
        have d1 := decide_eq_false h1
        have d2 := decide_eq_true h2
        clear hx hy hs ha hb hz
        go_enter Tryd.func48, Tryd.ntmps48
        go_wp2_with (first | (go_at_call 51; with_reducible refine (hsa _).mono ?_; rintro e w' ⟨rfl, rfl⟩) | (go_at_call 51; with_reducible refine (hsb _).mono ?_; rintro e w' ⟨rfl, rfl⟩))
        refine bodyPost_ret (v := .agg #[.bool false, .int .u64 ((0 : Nat) : Int), .int .u64 ((z : Nat) : Int)]) (by simp [results, Tryd.results48, go_sem]; try rfl) rfl (BigOut.of false 0 z rfl hz' HV2.out ?_)
        go_grown
    · have cge : ¬ (y : Int) ≤ (x : Int) := by omega
      have hsub : IntKind.u64.wrap ((y : Int) - (x : Int)) = ((y - x : Nat) : Int) := by rw [IntWalk.u64_in _ ⟨by omega, by omega⟩]; omega
      obtain ⟨z, hz⟩ : ∃ z, z = y - x := ⟨_, rfl⟩
      rw [← hz] at hsub
      by_cases h1 : a < 0
      · have h2 : ¬ b < 0 := fun h => hs (by simp [h1, h])
        have HV2 := Lib.hid (show bigV false 0 z = a + b by unfold bigV; simp; omega)
        have hz' : z < 18446744073709551616 := by omega
        have d1 := decide_eq_true h1
        have d2 := decide_eq_false h2
        clear hx hy hs ha hb hz
        go_enter Tryd.func48, Tryd.ntmps48
        go_wp2_with (first | (go_at_call 51; with_reducible refine (hsa _).mono ?_; rintro e w' ⟨rfl, rfl⟩) | (go_at_call 51; with_reducible refine (hsb _).mono ?_; rintro e w' ⟨rfl, rfl⟩))
        refine bodyPost_ret (v := .agg #[.bool false, .int .u64 ((0 : Nat) : Int), .int .u64 ((z : Nat) : Int)]) (by simp [results, Tryd.results48, go_sem]; try rfl) rfl (BigOut.of false 0 z rfl hz' HV2.out ?_)
        go_grown
      · have h2 : b < 0 := by
          by_cases h : b < 0
          · exact h
          · exact absurd (by simp [h1, h]) hs
        have HV2 := Lib.hid (show bigV true 0 z = a + b by unfold bigV; simp; omega)
        have hz' : z < 18446744073709551616 := by omega
        have d1 := decide_eq_false h1
        have d2 := decide_eq_true h2
        clear hx hy hs ha hb hz
        go_enter Tryd.func48, Tryd.ntmps48
        go_wp2_with (first | (go_at_call 51; with_reducible refine (hsa _).mono ?_; rintro e w' ⟨rfl, rfl⟩) | (go_at_call 51; with_reducible refine (hsb _).mono ?_; rintro e w' ⟨rfl, rfl⟩))
        refine bodyPost_ret (v := .agg #[.bool true, .int .u64 ((0 : Nat) : Int), .int .u64 ((z : Nat) : Int)]) (by simp [results, Tryd.results48, go_sem]; try rfl) rfl (BigOut.of true 0 z rfl hz' HV2.out ?_)
        go_grown
end Go.Proofs.YtlembnpplnbagaaDoor
