/- Labels as sets of bits. -/
import Derived.Laws.BitsAllLaws
import Derived.Lib.TrailingZeros
namespace Go.Proofs.YtdjaijhlhhnmeaaGreatDoor.Lb
open Go

def isCat (c : Int) : Bool := decide (0 ≤ c) && decide (c ≤ 63)
def bitOf (c : Int) : Int := 2 ^ c.toNat % 18446744073709551616
def orAll (cs : List Int) : Int := cs.foldl (fun a c => bits .or .u64 a (bitOf c)) 0
theorem orAll_snoc (cs : List Int) (c : Int) : orAll (cs ++ [c]) = bits .or .u64 (orAll cs) (bitOf c) := by simp [orAll]
/-- The label with these categories, and 0; or 0 and ErrRange. -/
def ofI (cs : List Int) : Int × Int := if cs.all isCat then (orAll cs, 0) else (0, 2)

/-- The byte of a text at an offset; 0 behind its end. -/
def bt (s : ByteArray) (i : Nat) : Int := if h : i < s.size then ((s[i]'h).toNat : Int) else 0
def isDig (x : Int) : Bool := decide (48 ≤ x) && decide (x ≤ 57)
/-- The digits that stand at an offset. -/
def digs (s : ByteArray) (at_ : Nat) : List UInt8 := (s.data.toList.drop at_).takeWhile fun b => isDig (b.toNat : Int)
def decOf (ds : List UInt8) : Nat := ds.foldl (fun a d => 10 * a + (d.toNat - 48)) 0
/-- What is read as a category: the category, the offset behind it, the fault and its offset. -/
def numI (s : ByteArray) (at_ : Nat) : Int × Int × Int × Int :=
  if (digs s at_).length = 0 then (0, 0, 3, at_)
  else if bt s at_ = 48 ∧ 1 < (digs s at_).length then (0, 0, 3, at_ + 1)
  else if 63 < decOf (digs s at_) then (0, 0, 2, at_)
  else (decOf (digs s at_), at_ + (digs s at_).length, 0, 0)

end Go.Proofs.YtdjaijhlhhnmeaaGreatDoor.Lb
namespace Go.Proofs.YtdjaijhlhhnmeaaGreatDoor.Lb
open Go



theorem or_nat (a b : Nat) (ha : a < 18446744073709551616) (hb : b < 18446744073709551616) : bits .or .u64 (a : Int) (b : Int) = ((a ||| b : Nat) : Int) := u64_or_nat a b ha hb
theorem and_nat (a b : Nat) (ha : a < 18446744073709551616) (hb : b < 18446744073709551616) : bits .and .u64 (a : Int) (b : Int) = ((a &&& b : Nat) : Int) := u64_and_nat a b ha hb
/-- The bits of a number, ascending. -/
def cats (n : Nat) : List Nat := (List.range 64).filter n.testBit
theorem filter_first {p q : Nat → Bool} {k : Nat} (hp : p k = true) (hq : q k = false) (hlt : ∀ i, i < k → p i = false ∧ q i = false) (hgt : ∀ i, k < i → p i = q i) (n : Nat) :
    (List.range n).filter p = if k < n then k :: (List.range n).filter q else [] := by
  induction n with
  | zero => simp
  | succ n ih =>
    rw [List.range_succ, List.filter_append, List.filter_append, ih]
    rcases Nat.lt_trichotomy n k with h | h | h
    · rw [if_neg (by omega), if_neg (by omega)]
      simp [(hlt n h).1]
    · subst h
      rw [if_neg (by omega), if_pos (by omega)]
      have : (List.range n).filter q = [] := by
        rw [List.filter_eq_nil_iff]
        intro i hi
        rw [(hlt i (by simpa using hi)).2]
        simp
      simp [hp, hq, this]
    · rw [if_pos h, if_pos (by omega)]
      have e : [n].filter p = [n].filter q := List.filter_congr fun i hi => by rw [List.mem_singleton.1 hi]; exact hgt n h
      rw [e]; rfl

theorem cats_step (r : Nat) (h0 : r ≠ 0) (hr : r < 18446744073709551616) : cats r = Lib.ctz 64 r :: cats (r &&& (r - 1)) ∧ Lib.ctz 64 r < 64 := by
  have hctz : Lib.ctz 64 r = Lib.ctzFrom 64 r := by unfold Lib.ctz; rw [if_neg h0]
  obtain ⟨m, hm, hk⟩ := Lib.ctzFrom_spec 64 r (by omega) hr
  rw [hctz]
  obtain ⟨k, hkk⟩ : ∃ k, k = Lib.ctzFrom 64 r := ⟨_, rfl⟩
  rw [← hkk] at hm hk ⊢
  have hpos : 0 < 2 ^ k := Nat.pow_pos (by decide)
  have e1 : r = 2 ^ k * (2 * m + 1) + 0 := by omega
  have e2 : r - 1 = 2 ^ k * (2 * m) + (2 ^ k - 1) := by
    rw [hm, Nat.mul_add, Nat.mul_one]; omega
  have t1 : ∀ j, r.testBit j = if j < k then false else (2 * m + 1).testBit (j - k) := fun j => by
    rw [e1, Nat.testBit_two_pow_mul_add _ (by omega)]; simp
  have t2 : ∀ j, (r - 1).testBit j = if j < k then true else (2 * m).testBit (j - k) := fun j => by
    rw [e2, Nat.testBit_two_pow_mul_add _ (by omega)]
    split
    · rw [Nat.testBit_two_pow_sub_one]; simp; omega
    · rfl
  refine ⟨?_, hk⟩
  unfold cats
  rw [filter_first (p := r.testBit) (q := (r &&& (r - 1)).testBit) (k := k), if_pos hk]
  · rw [t1, if_neg (by omega), Nat.sub_self]; simp
  · rw [Nat.testBit_and, t1, t2, if_neg (by omega), if_neg (by omega), Nat.sub_self]; simp
  · intro i hi
    rw [Nat.testBit_and, t1, if_pos hi]; simp
  · intro i hi
    rw [Nat.testBit_and, t1, t2, if_neg (by omega), if_neg (by omega)]
    obtain ⟨j, hj⟩ : ∃ j, i - k = j + 1 := ⟨i - k - 1, by omega⟩
    rw [hj, Nat.testBit_succ, Nat.testBit_succ]
    have a1 : (2 * m + 1) / 2 = m := by omega
    have a2 : (2 * m) / 2 = m := by omega
    rw [a1, a2]; simp
theorem cats_zero : cats 0 = [] := by decide
theorem cats_le (n : Nat) : (cats n).length ≤ 64 := by
  have := List.length_filter_le n.testBit (List.range 64)
  simpa [cats] using this
theorem and_pred_lt (r : Nat) (hr : r < 18446744073709551616) : (r &&& (r - 1)) < 18446744073709551616 := Nat.lt_of_le_of_lt Nat.and_le_left hr
theorem cats_lt {n c : Nat} (h : c ∈ cats n) : c < 64 := by
  have := List.mem_filter.1 h
  simpa using this.1
end Go.Proofs.YtdjaijhlhhnmeaaGreatDoor.Lb
