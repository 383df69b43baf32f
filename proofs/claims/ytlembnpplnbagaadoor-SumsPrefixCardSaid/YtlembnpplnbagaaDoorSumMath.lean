/- Numbers of 64 bits, more: products, cuts, quotients. Nothing here speaks of the program. -/
import Derived.Test.YtlembnpplnbagaaDoorSumSpec
namespace Go.Proofs.YtlembnpplnbagaaDoor.Sm
open Go Go.RowKit

/-- A product by its absolute value, of 128 bits, and its sign. -/
theorem abs_ok {n : Int} (h : okI n = true) : n.natAbs ≤ 9223372036854775808 := by have := okI_iff.1 h; omega
theorem wrap_abs {n : Int} (h : okI n = true) : IntKind.u64.wrap (if neg n = true then -(IntKind.u64.wrap n) else IntKind.u64.wrap n) = ((n.natAbs : Nat) : Int) := by
  have := okI_iff.1 h
  rw [IntKind.wrap_u64, IntKind.wrap_u64]
  split
  · rename_i h1; have := neg_iff.1 h1; omega
  · rename_i h1; have : ¬ n < 0 := fun h => h1 (neg_iff.2 h)
    omega
theorem neg_xor_sgn (a b : Int) (c : Int) (h : neg c = (neg a ^^ neg b)) : sgn c = if neg a = neg b then 0 else 1 := by
  unfold sgn
  rw [h]
  cases neg a <;> cases neg b <;> rfl
theorem mul_abs (a b : Int) : (a * b).natAbs = a.natAbs * b.natAbs := Int.natAbs_mul a b
theorem mul_neg_same {a b : Int} (h : neg a = neg b) : 0 ≤ a * b := by
  cases e : neg a
  · have h1 : ¬ a < 0 := fun h1 => by rw [neg_iff.2 h1] at e; cases e
    have h2 : ¬ b < 0 := fun h1 => by rw [neg_iff.2 h1, e] at h; cases h
    exact Int.mul_nonneg (by omega) (by omega)
  · have h1 := neg_iff.1 e
    have h2 := neg_iff.1 (h ▸ e)
    exact Int.mul_nonneg_of_nonpos_of_nonpos (by omega) (by omega)
theorem mul_neg_other {a b : Int} (h : neg a ≠ neg b) : a * b ≤ 0 := by
  cases e : neg a
  · have h1 : ¬ a < 0 := fun h1 => by rw [neg_iff.2 h1] at e; cases e
    have h2 : neg b = true := by cases e2 : neg b; rw [e, e2] at h; exact absurd rfl h; rfl
    exact Int.mul_nonpos_of_nonneg_of_nonpos (by omega) (by have := neg_iff.1 h2; omega)
  · have h1 := neg_iff.1 e
    have h2 : ¬ b < 0 := fun h1 => by rw [e, neg_iff.2 h1] at h; exact h rfl
    exact Int.mul_nonpos_of_nonpos_of_nonneg (by omega) (by omega)
/-- When a product is a number, by the two halves of its absolute value. -/
theorem mul_over {a b : Int} (p : Nat) (hp : p = a.natAbs * b.natAbs) (s : Int) (hs : s = if neg a = neg b then 0 else 1) :
    okI (a * b) = (decide (p / 18446744073709551616 = 0) && decide (((p % 18446744073709551616 : Nat) : Int) ≤ 9223372036854775807 + s)) := by
  rw [← mul_abs] at hp
  rw [Bool.eq_iff_iff, okI_iff, Bool.and_eq_true, decide_eq_true_iff, decide_eq_true_iff]
  by_cases h : neg a = neg b
  · rw [if_pos h] at hs
    have := mul_neg_same h
    subst hs
    generalize a * b = q at *
    omega
  · rw [if_neg h] at hs
    have := mul_neg_other h
    subst hs
    generalize a * b = q at *
    omega
theorem mul_same {a b : Int} (p : Nat) (hp : p = a.natAbs * b.natAbs) (h : neg a = neg b) (hok : okI (a * b) = true) : IntKind.i64.wrap ((p % 18446744073709551616 : Nat) : Int) = a * b := by
  rw [← mul_abs] at hp
  have h1 := mul_neg_same h
  have h2 := okI_iff.1 hok
  rw [IntKind.wrap_i64]
  generalize a * b = q at *
  omega
theorem mul_other {a b : Int} (p : Nat) (hp : p = a.natAbs * b.natAbs) (h : neg a ≠ neg b) (hok : okI (a * b) = true) : IntKind.i64.wrap (IntKind.u64.wrap (-((p % 18446744073709551616 : Nat) : Int))) = a * b := by
  rw [← mul_abs] at hp
  have h1 := mul_neg_other h
  have h2 := okI_iff.1 hok
  rw [IntKind.wrap_i64, IntKind.wrap_u64]
  generalize a * b = q at *
  omega

/-- A number cut to its lowest bits: k of 64 are left out. -/
def cutI (n : Int) (k : Nat) : Int := IntKind.i64.wrap (n * 2 ^ k) / 2 ^ k
theorem cut_u (n : Int) (k : Nat) : IntKind.i64.wrap (IntKind.u64.wrap (IntKind.u64.wrap n * 2 ^ k)) = IntKind.i64.wrap (n * 2 ^ k) := by
  rw [IntKind.wrap_i64, IntKind.wrap_i64, IntKind.wrap_u64, IntKind.wrap_u64]
  have h : (n % 18446744073709551616 * 2 ^ k) % 18446744073709551616 = (n * 2 ^ k) % 18446744073709551616 := by rw [Int.mul_emod, Int.emod_emod_of_dvd _ (Int.dvd_refl _), ← Int.mul_emod]
  rw [h]
  omega
theorem cut_ok (n : Int) (k : Nat) : okI (cutI n k) = true := by
  have h := okI_iff.1 (wrap_ok (n * 2 ^ k))
  have hp : (0 : Int) < 2 ^ k := Int.pow_pos (by decide)
  unfold cutI
  generalize IntKind.i64.wrap (n * 2 ^ k) = x at *
  rw [okI_iff]
  constructor
  · rcases Int.le_total 0 x with h0 | h0
    · have := Int.ediv_nonneg h0 (Int.le_of_lt hp); omega
    · have := Int.le_ediv_of_mul_le hp (a := x) (b := x) (by
        have : x * 2 ^ k ≤ x * 1 := Int.mul_le_mul_of_nonpos_left h0 (by omega)
        omega)
      omega
  · rcases Int.le_total 0 x with h0 | h0
    · have := Int.ediv_le_self (2 ^ k) h0; omega
    · have : x / 2 ^ k ≤ 0 := by
        have := Int.ediv_le_ediv hp h0
        simpa using this
      omega
theorem cut_mul (n : Int) (k : Nat) (hk : k ≤ 63) : cutI n k * 2 ^ k = IntKind.i64.wrap (n * 2 ^ k) := by
  unfold cutI
  apply Int.ediv_mul_cancel
  rw [IntKind.wrap_i64]
  have e : (18446744073709551616 : Int) = 2 ^ k * 2 ^ (64 - k) := by rw [← Int.pow_add, Nat.add_sub_cancel' (by omega)]; rfl
  have e2 : (9223372036854775808 : Int) = 2 ^ k * 2 ^ (63 - k) := by rw [← Int.pow_add, Nat.add_sub_cancel' (by omega)]; rfl
  refine Int.dvd_sub ?_ (e2 ▸ Int.dvd_mul_right _ _)
  rw [Int.emod_def]
  refine Int.dvd_sub (Int.dvd_add (Int.dvd_mul_left _ _) (e2 ▸ Int.dvd_mul_right _ _)) ?_
  rw [e, Int.mul_assoc]
  exact Int.dvd_mul_right _ _
theorem wrap_wrap (n : Int) : IntKind.i64.wrap (IntKind.i64.wrap n) = IntKind.i64.wrap n := by rw [IntKind.wrap_i64, IntKind.wrap_i64]; omega
/-- Cut twice is cut once. -/
theorem cut_cut (n : Int) (k : Nat) (hk : k ≤ 63) : cutI (cutI n k) k = cutI n k := by
  show IntKind.i64.wrap (cutI n k * 2 ^ k) / 2 ^ k = _
  rw [cut_mul n k hk, wrap_wrap]
  rfl
theorem cut_all {n : Int} (h : okI n = true) : cutI n 0 = n := by
  unfold cutI
  have := okI_iff.1 h
  rw [IntKind.wrap_i64]
  simp
  omega
end Go.Proofs.YtlembnpplnbagaaDoor.Sm
