/- Labels as sets of bits: what the functions of package label answer, said of natural numbers. -/
import Derived.Test.YtfibmdbplfghcaaGreatDoorLabelSpec
import Derived.Lib.TrailingZeros
namespace Go.Proofs.YtfibmdbplfghcaaGreatDoor.Lb
open Go



theorem or_nat (a b : Nat) (ha : a < 18446744073709551616) (hb : b < 18446744073709551616) : bits .or .u64 (a : Int) (b : Int) = ((a ||| b : Nat) : Int) := u64_or_nat a b ha hb
theorem and_nat (a b : Nat) (ha : a < 18446744073709551616) (hb : b < 18446744073709551616) : bits .and .u64 (a : Int) (b : Int) = ((a &&& b : Nat) : Int) := u64_and_nat a b ha hb
theorem andNot_nat (a b : Nat) (ha : a < 18446744073709551616) (hb : b < 18446744073709551616) : bits .andNot .u64 (a : Int) (b : Int) = ((a &&& (18446744073709551615 - b) : Nat) : Int) := u64_andNot_nat a b ha hb

theorem hasI_nat (n c : Nat) (hn : n < 18446744073709551616) : hasI (n : Int) (c : Int) = n.testBit c := by
  unfold hasI
  have e : ((n : Int) / 2 ^ (c : Int).toNat) = ((n / 2 ^ c : Nat) : Int) := by
    rw [Int.toNat_natCast]; simp
  rw [e, show (1 : Int) = ((1 : Nat) : Int) from rfl, and_nat _ _ (Nat.lt_of_le_of_lt (Nat.div_le_self _ _) hn) (by decide), Nat.and_one_is_mod, Nat.testBit_eq_decide_div_mod_eq]
  by_cases h : n / 2 ^ c % 2 = 1
  · simp [h]
  · have h0 : n / 2 ^ c % 2 = 0 := by omega
    simp [h0]

/-- The bits of a number, ascending. -/
def cats (n : Nat) : List Nat := (List.range 64).filter n.testBit
theorem catsI_nat (n : Nat) (hn : n < 18446744073709551616) : catsI (n : Int) = (cats n).map fun (k : Nat) => (k : Int) := by
  unfold catsI cats upto64
  rw [List.filter_map]
  congr 1
  apply List.filter_congr
  intro k _
  exact hasI_nat n k hn

theorem filter_first {p q : Nat → Bool} {k : Nat} (hp : p k = true) (hq : q k = false) (hlt : ∀ i, i < k → p i = false ∧ q i = false) (hgt : ∀ i, k < i → p i = q i) (n : Nat) :
    (List.range n).filter p = if k < n then k :: (List.range n).filter q else [] := by
  induction n with
  | zero => simp
  | succ n ih =>
    rw [List.range_succ, List.filter_append, List.filter_append, ih]
    rcases Nat.lt_trichotomy n k with h | h | h
    · rw [if_neg (by omega), if_neg (by omega)]
      simp [(hlt n h).1]
    · subst h
      rw [if_neg (by omega), if_pos (by omega)]
      have : (List.range n).filter q = [] := by
        rw [List.filter_eq_nil_iff]
        intro i hi
        rw [(hlt i (by simpa using hi)).2]
        simp
      simp [hp, hq, this]
    · rw [if_pos h, if_pos (by omega)]
      have e : [n].filter p = [n].filter q := List.filter_congr fun i hi => by rw [List.mem_singleton.1 hi]; exact hgt n h
      rw [e]; rfl

theorem cats_step (r : Nat) (h0 : r ≠ 0) (hr : r < 18446744073709551616) : cats r = Lib.ctz 64 r :: cats (r &&& (r - 1)) ∧ Lib.ctz 64 r < 64 := by
  have hctz : Lib.ctz 64 r = Lib.ctzFrom 64 r := by unfold Lib.ctz; rw [if_neg h0]
  obtain ⟨m, hm, hk⟩ := Lib.ctzFrom_spec 64 r (by omega) hr
  rw [hctz]
  obtain ⟨k, hkk⟩ : ∃ k, k = Lib.ctzFrom 64 r := ⟨_, rfl⟩
  rw [← hkk] at hm hk ⊢
  have hpos : 0 < 2 ^ k := Nat.pow_pos (by decide)
  have e1 : r = 2 ^ k * (2 * m + 1) + 0 := by omega
  have e2 : r - 1 = 2 ^ k * (2 * m) + (2 ^ k - 1) := by
    rw [hm, Nat.mul_add, Nat.mul_one]; omega
  have t1 : ∀ j, r.testBit j = if j < k then false else (2 * m + 1).testBit (j - k) := fun j => by
    rw [e1, Nat.testBit_two_pow_mul_add _ (by omega)]; simp
  have t2 : ∀ j, (r - 1).testBit j = if j < k then true else (2 * m).testBit (j - k) := fun j => by
    rw [e2, Nat.testBit_two_pow_mul_add _ (by omega)]
    split
    · rw [Nat.testBit_two_pow_sub_one]; simp; omega
    · rfl
  refine ⟨?_, hk⟩
  unfold cats
  rw [filter_first (p := r.testBit) (q := (r &&& (r - 1)).testBit) (k := k), if_pos hk]
  · rw [t1, if_neg (by omega), Nat.sub_self]; simp
  · rw [Nat.testBit_and, t1, t2, if_neg (by omega), if_neg (by omega), Nat.sub_self]; simp
  · intro i hi
    rw [Nat.testBit_and, t1, if_pos hi]; simp
  · intro i hi
    rw [Nat.testBit_and, t1, t2, if_neg (by omega), if_neg (by omega)]
    obtain ⟨j, hj⟩ : ∃ j, i - k = j + 1 := ⟨i - k - 1, by omega⟩
    rw [hj, Nat.testBit_succ, Nat.testBit_succ]
    have a1 : (2 * m + 1) / 2 = m := by omega
    have a2 : (2 * m) / 2 = m := by omega
    rw [a1, a2]; simp
theorem cats_zero : cats 0 = [] := by decide
theorem cats_nil {n : Nat} (hn : n < 18446744073709551616) (h : cats n = []) : n = 0 := by
  by_cases h0 : n = 0
  · exact h0
  · rw [(cats_step n h0 hn).1] at h; cases h
theorem cats_le (n : Nat) : (cats n).length ≤ 64 := by
  have := List.length_filter_le n.testBit (List.range 64)
  simpa [cats] using this
theorem and_pred_lt (r : Nat) (hr : r < 18446744073709551616) : (r &&& (r - 1)) < 18446744073709551616 := Nat.lt_of_le_of_lt Nat.and_le_left hr
theorem cats_lt {n c : Nat} (h : c ∈ cats n) : c < 64 := by
  have := List.mem_filter.1 h
  simpa using this.1
end Go.Proofs.YtfibmdbplfghcaaGreatDoor.Lb
