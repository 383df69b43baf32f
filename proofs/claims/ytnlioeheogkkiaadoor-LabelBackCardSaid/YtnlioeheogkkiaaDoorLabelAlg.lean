/- The algebra of labels, as sets of bits. -/
import Derived.Test.YtnlioeheogkkiaaDoorLabelMath
namespace Go.Proofs.YtnlioeheogkkiaaDoor.Lb
open Go

/-- What a number of 64 bits is: its bits. -/
theorem bit_ext {a b : Nat} (h : ∀ i, a.testBit i = b.testBit i) : a = b := Nat.eq_of_testBit_eq h
theorem testBit_hi {a i : Nat} (ha : a < 18446744073709551616) (hi : 64 ≤ i) : a.testBit i = false :=
  Nat.testBit_lt_two_pow (Nat.lt_of_lt_of_le ha (Nat.pow_le_pow_right (n := 2) (i := 64) (by decide) hi))
theorem or_lt {a b : Nat} (ha : a < 18446744073709551616) (hb : b < 18446744073709551616) : a ||| b < 18446744073709551616 := Nat.or_lt_two_pow (n := 64) ha hb
theorem and_lt {a b : Nat} (ha : a < 18446744073709551616) : a &&& b < 18446744073709551616 := Nat.lt_of_le_of_lt Nat.and_le_left ha
theorem comp_bit {b i : Nat} (hb : b < 18446744073709551616) : (18446744073709551615 - b).testBit i = (decide (i < 64) && !b.testBit i) := by
  have h := Nat.testBit_two_pow_sub_succ (n := 64) (x := b) hb i
  rw [show 2 ^ 64 - (b + 1) = 18446744073709551615 - b by omega] at h
  exact h
theorem diff_bit {a b i : Nat} (ha : a < 18446744073709551616) (hb : b < 18446744073709551616) : (a &&& (18446744073709551615 - b)).testBit i = (a.testBit i && !b.testBit i) := by
  rw [Nat.testBit_and, comp_bit hb]
  by_cases h : i < 64
  · simp [h]
  · rw [testBit_hi ha (by omega)]; simp

def dif (a b : Nat) : Nat := a &&& (18446744073709551615 - b)
theorem dif_lt {a b : Nat} (ha : a < 18446744073709551616) : dif a b < 18446744073709551616 := and_lt ha
theorem dif_bit {a b : Nat} (ha : a < 18446744073709551616) (hb : b < 18446744073709551616) (i : Nat) : (dif a b).testBit i = (a.testBit i && !b.testBit i) := diff_bit ha hb
def sub (a b : Nat) : Prop := ∀ i, a.testBit i = true → b.testBit i = true
theorem sub_iff {a b : Nat} (ha : a < 18446744073709551616) (hb : b < 18446744073709551616) : sub a b ↔ dif a b = 0 := by
  constructor
  · intro h
    apply bit_ext
    intro i
    rw [dif_bit ha hb, Nat.zero_testBit]
    cases h1 : a.testBit i
    · rfl
    · rw [h i h1]; rfl
  · intro h i hi
    have := congrArg (fun x => Nat.testBit x i) h
    simp only [dif_bit ha hb, hi, Nat.zero_testBit] at this
    simpa using this

theorem belowI_nat {a b : Nat} (ha : a < 18446744073709551616) (hb : b < 18446744073709551616) : (belowI (a : Int) (b : Int) = true) ↔ sub a b := by
  unfold belowI
  rw [andNot_nat a b ha hb, sub_iff ha hb]
  unfold dif
  simp
theorem joinI_two {a b : Nat} (ha : a < 18446744073709551616) (hb : b < 18446744073709551616) : joinI [(a : Int), (b : Int)] = ((a ||| b : Nat) : Int) := by
  show bits .or .u64 (bits .or .u64 ((0 : Nat) : Int) (a : Int)) (b : Int) = _
  rw [or_nat 0 a (by decide) ha, Nat.zero_or, or_nat a b ha hb]
theorem joinI_three {a b c : Nat} (ha : a < 18446744073709551616) (hb : b < 18446744073709551616) (hc : c < 18446744073709551616) : joinI [(a : Int), (b : Int), (c : Int)] = ((a ||| b ||| c : Nat) : Int) := by
  show bits .or .u64 (bits .or .u64 (bits .or .u64 ((0 : Nat) : Int) (a : Int)) (b : Int)) (c : Int) = _
  rw [or_nat 0 a (by decide) ha, Nat.zero_or, or_nat a b ha hb, or_nat _ c (or_lt ha hb) hc]
theorem joinI_four {a b c d : Nat} (ha : a < 18446744073709551616) (hb : b < 18446744073709551616) (hc : c < 18446744073709551616) (hd : d < 18446744073709551616) : joinI [(a : Int), (b : Int), (c : Int), (d : Int)] = ((a ||| b ||| c ||| d : Nat) : Int) := by
  show bits .or .u64 (bits .or .u64 (bits .or .u64 (bits .or .u64 ((0 : Nat) : Int) (a : Int)) (b : Int)) (c : Int)) (d : Int) = _
  rw [or_nat 0 a (by decide) ha, Nat.zero_or, or_nat a b ha hb, or_nat _ c (or_lt ha hb) hc, or_nat _ d (or_lt (or_lt ha hb) hc) hd]
theorem all_and {a : Nat} (ha : a < 18446744073709551616) : 18446744073709551615 &&& a = a := by
  apply bit_ext
  intro i
  rw [Nat.testBit_and, show (18446744073709551615 : Nat) = 18446744073709551615 - 0 from rfl, comp_bit (by decide)]
  by_cases h : i < 64
  · simp [h]
  · rw [testBit_hi ha (by omega)]; simp
theorem meetI_two {a b : Nat} (ha : a < 18446744073709551616) (hb : b < 18446744073709551616) : meetI [(a : Int), (b : Int)] = ((a &&& b : Nat) : Int) := by
  show bits .and .u64 (bits .and .u64 ((18446744073709551615 : Nat) : Int) (a : Int)) (b : Int) = _
  rw [and_nat _ a (by decide) ha, all_and ha, and_nat a b ha hb]
theorem meetI_three {a b c : Nat} (ha : a < 18446744073709551616) (hb : b < 18446744073709551616) (hc : c < 18446744073709551616) : meetI [(a : Int), (b : Int), (c : Int)] = ((a &&& b &&& c : Nat) : Int) := by
  show bits .and .u64 (bits .and .u64 (bits .and .u64 ((18446744073709551615 : Nat) : Int) (a : Int)) (b : Int)) (c : Int) = _
  rw [and_nat _ a (by decide) ha, all_and ha, and_nat a b ha hb, and_nat _ c (and_lt ha) hc]
theorem meetI_four {a b c d : Nat} (ha : a < 18446744073709551616) (hb : b < 18446744073709551616) (hc : c < 18446744073709551616) (hd : d < 18446744073709551616) : meetI [(a : Int), (b : Int), (c : Int), (d : Int)] = ((a &&& b &&& c &&& d : Nat) : Int) := by
  show bits .and .u64 (bits .and .u64 (bits .and .u64 (bits .and .u64 ((18446744073709551615 : Nat) : Int) (a : Int)) (b : Int)) (c : Int)) (d : Int) = _
  rw [and_nat _ a (by decide) ha, all_and ha, and_nat a b ha hb, and_nat _ c (and_lt ha) hc, and_nat _ d (and_lt (and_lt ha)) hd]
end Go.Proofs.YtnlioeheogkkiaaDoor.Lb
