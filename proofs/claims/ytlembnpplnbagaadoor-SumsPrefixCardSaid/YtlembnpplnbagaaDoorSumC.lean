/- Walks: the reference's numbers of more than 64 bits. -/
import Derived.Test.YtlembnpplnbagaaDoorSumA
namespace Go.Proofs.YtlembnpplnbagaaDoor
open Go.RowKit Go.Shelf
open Sm

theorem refSize5_any (n : Int) (h : okI n = true) (w : World) : Calls Tryd.prog 51 #[.int .i64 n] w fun e w' => e = .returned (.int .u64 ((n.natAbs : Nat) : Int)) ∧ w = w' := by
  have hb := okI_iff.1 h
  clear h
  obtain ⟨r, hr⟩ : ∃ r : Int, r = ((n.natAbs : Nat) : Int) := ⟨_, rfl⟩
  rw [← hr]
  by_cases h0 : n < 0
  · obtain ⟨p, hp⟩ : ∃ p, p = n + 1 := ⟨_, rfl⟩
    obtain ⟨q, hq⟩ : ∃ q, q = -p := ⟨_, rfl⟩
    have c1 : IntKind.i64.wrap (n + 1) = p := by rw [IntWalk.i64_in _ ⟨by omega, by omega⟩, hp]
    have c2 : IntKind.i64.wrap (-p) = q := by rw [IntWalk.i64_in _ ⟨by omega, by omega⟩, hq]
    have c3 : IntKind.u64.wrap q = q := IntWalk.u64_in _ ⟨by omega, by omega⟩
    have c4 : IntKind.u64.wrap (q + 1) = r := by rw [IntWalk.u64_in _ ⟨by omega, by omega⟩]; omega
    clear hr hp hq hb
    go_enter Tryd.func51, Tryd.ntmps51
    go_wp2
    go_ret
    exact ⟨rfl, rfl⟩
  · have c3 : IntKind.u64.wrap n = r := by rw [IntWalk.u64_in _ ⟨by omega, by omega⟩]; omega
    clear hr hb
    go_enter Tryd.func51, Tryd.ntmps51
    go_wp2
    go_ret
    exact ⟨rfl, rfl⟩

/-- The number that a sign and two words are. -/
def bigV (s : Bool) (hi lo : Nat) : Int := if s = true then -((hi : Int) * 18446744073709551616 + lo) else (hi : Int) * 18446744073709551616 + lo
theorem narrow_any (s : Bool) (hi lo : Nat) (hlo : lo < 18446744073709551616) (w : World) :
    Calls Tryd.prog 47 #[.agg #[.bool s, .int .u64 (hi : Int), .int .u64 (lo : Int)]] w fun e w' => e = .returned (two (bigV s hi lo)) ∧ Below w.heap.size w w' := by
  by_cases h0 : hi = 0
  · subst h0
    by_cases h1 : lo < 9223372036854775808
    · have c0 : ¬ ((9223372036854775808 : Int) < (lo : Int)) := by omega
      have c1 : ((lo : Int) == 9223372036854775808) = false := by rw [beq_eq_false_iff_ne]; omega
      have c1' : ¬ ((lo : Int) = 9223372036854775808) := by omega
      cases s
      · have e : bigV false 0 lo = (lo : Int) := by unfold bigV; rw [if_neg (by decide)]; omega
        rw [e, two_ok (by rw [okI_iff]; omega)]
        clear e
        go_enter Tryd.func47, Tryd.ntmps47
        go_wp2
        go_ret2
        exact ⟨rfl, (Below.refl _ _).alloc (Nat.le_refl _) _⟩
      · have e : bigV true 0 lo = -(lo : Int) := by unfold bigV; rw [if_pos rfl]; omega
        rw [e, two_ok (by rw [okI_iff]; omega)]
        clear e
        go_enter Tryd.func47, Tryd.ntmps47
        go_wp2
        go_ret2
        exact ⟨rfl, (Below.refl _ _).alloc (Nat.le_refl _) _⟩
    · by_cases h2 : lo = 9223372036854775808
      · subst h2
        cases s
        · have e : bigV false 0 9223372036854775808 = 9223372036854775808 := by decide
          rw [e, two_no (by decide)]
          clear e
          go_enter Tryd.func47, Tryd.ntmps47
          go_wp2
          go_ret2
          exact ⟨rfl, (Below.refl _ _).alloc (Nat.le_refl _) _⟩
        · have e : bigV true 0 9223372036854775808 = -9223372036854775808 := by decide
          rw [e, two_ok (by decide)]
          clear e
          go_enter Tryd.func47, Tryd.ntmps47
          go_wp2
          go_ret2
          exact ⟨rfl, (Below.refl _ _).alloc (Nat.le_refl _) _⟩
      · have c0 : (9223372036854775808 : Int) < (lo : Int) := by omega
        have e : okI (bigV s 0 lo) = false := by rw [okI_not]; unfold bigV; split <;> omega
        rw [two_no e]
        clear e h1 h2
        go_enter Tryd.func47, Tryd.ntmps47
        go_wp2
        go_ret2
        exact ⟨rfl, (Below.refl _ _).alloc (Nat.le_refl _) _⟩
  · have c0 : (0 : Int) < (hi : Int) := by omega
    have e : okI (bigV s hi lo) = false := by rw [okI_not]; unfold bigV; split <;> omega
    rw [two_no e]
    clear e h0
    go_enter Tryd.func47, Tryd.ntmps47
    go_wp2
    go_ret2
    exact ⟨rfl, (Below.refl _ _).alloc (Nat.le_refl _) _⟩
end Go.Proofs.YtlembnpplnbagaaDoor
