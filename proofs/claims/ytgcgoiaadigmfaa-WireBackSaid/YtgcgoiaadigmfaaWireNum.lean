/- Numbers of one size and their bytes: their order, and their sums. -/
import Derived.Test.YtgcgoiaadigmfaaWireMath
namespace Go.Proofs.Ytgcgoiaadigmfaa.Wr
open Go Go.RowKit

theorem byte_of (n k : Nat) : (byteAt n k).toNat = n / 256 ^ k % 256 := by
  have h := byteAt_val n k
  have e : ((n : Int) / 256 ^ k % 256) = ((n / 256 ^ k % 256 : Nat) : Int) := by simp
  rw [e] at h
  omega
theorem digI_mod (n k j : Nat) (h : j ≤ k) : digI ((n % 256 ^ k : Nat) : Int) j = digI (n : Int) j := by
  induction j with
  | zero => rfl
  | succ j ih =>
    rw [digI_succ, digI_succ, ih (by omega)]
    congr 1
    apply UInt8.toNat_inj.1
    rw [byte_of, byte_of]
    have hs : 256 ^ k = 256 ^ j * (256 * 256 ^ (k - j - 1)) := by
      rw [← Nat.pow_succ', ← Nat.pow_add]; congr 1; omega
    rw [hs, Nat.mod_mul_right_div_self, Nat.mod_mul_right_mod]
theorem less_digI (n x y : Nat) (hx : x < 256 ^ n) (hy : y < 256 ^ n) : Op.bytesLess (digI x n) (digI y n) = decide (x < y) := by
  induction n generalizing x y with
  | zero =>
    rw [Nat.pow_zero] at hx hy
    have : ¬ x < y := by omega
    simp [digI, Op.bytesLess, this]
  | succ n ih =>
    have hp : 0 < 256 ^ n := Nat.pow_pos (by decide)
    rw [Nat.pow_succ] at hx hy
    have hqx : x / 256 ^ n < 256 := Nat.div_lt_of_lt_mul hx
    have hqy : y / 256 ^ n < 256 := Nat.div_lt_of_lt_mul hy
    have bx : (byteAt (x : Int) n).toNat = x / 256 ^ n := by rw [byte_of, Nat.mod_eq_of_lt hqx]
    have bY : (byteAt (y : Int) n).toNat = y / 256 ^ n := by rw [byte_of, Nat.mod_eq_of_lt hqy]
    have dx := Nat.div_add_mod x (256 ^ n)
    have dy := Nat.div_add_mod y (256 ^ n)
    have mx := Nat.mod_lt x hp
    have my := Nat.mod_lt y hp
    have ih' := ih (x % 256 ^ n) (y % 256 ^ n) mx my
    rw [digI_mod x n n (Nat.le_refl _), digI_mod y n n (Nat.le_refl _)] at ih'
    rw [digI_succ, digI_succ, Op.bytesLess, ih', Bool.eq_iff_iff, decide_eq_true_iff, Bool.or_eq_true, Bool.and_eq_true, decide_eq_true_iff, decide_eq_true_iff, beq_iff_eq, UInt8.lt_iff_toNat_lt, ← UInt8.toNat_inj, bx, bY]
    clear ih ih' bx bY hx hy hqx hqy
    generalize 256 ^ n = p at dx dy mx my hp ⊢
    generalize x / p = qx at dx ⊢
    generalize y / p = qy at dy ⊢
    constructor
    · rintro (h | ⟨h, h2⟩)
      · have : p * qx + p ≤ p * qy := by rw [← Nat.mul_succ]; exact Nat.mul_le_mul_left _ h
        omega
      · rw [h] at dx; omega
    · intro h
      rcases Nat.lt_trichotomy qx qy with h1 | h1 | h1
      · exact .inl h1
      · rw [h1] at dx; exact .inr ⟨h1, by omega⟩
      · have : p * qy + p ≤ p * qx := by rw [← Nat.mul_succ]; exact Nat.mul_le_mul_left _ h1
        omega
theorem eq_digI (n x y : Nat) (hx : x < 256 ^ n) (hy : y < 256 ^ n) : (digI x n == digI y n) = decide (x = y) := by
  rw [Bool.eq_iff_iff, beq_iff_eq, decide_eq_true_iff]
  constructor
  · intro h
    have h1 := congrArg numOf h
    rw [numOf_digI, numOf_digI, Nat.mod_eq_of_lt hx, Nat.mod_eq_of_lt hy] at h1
    exact h1
  · intro h; rw [h]
end Go.Proofs.Ytgcgoiaadigmfaa.Wr
