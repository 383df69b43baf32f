/- Walk: LabelSets. -/
import Derived.Test.YtnlioeheogkkiaaDoorOc
import Derived.Test.YtnlioeheogkkiaaDoorLabelN
namespace Go.Proofs.YtnlioeheogkkiaaDoor
open Go.RowKit
open Lb

theorem catsI_vals {r : Nat} (hr : r < 18446744073709551616) : ints (cats r) = vals .i64 (catsI (r : Int)) := by
  rw [catsI_nat r hr]
  unfold ints vals
  simp
theorem catsI_len {r : Nat} (hr : r < 18446744073709551616) : (catsI (r : Int)).length = (cats r).length := by rw [catsI_nat r hr, List.length_map]
theorem catsI_zero {r : Nat} (hr : r < 18446744073709551616) : (r : Int) = 0 ↔ catsI (r : Int) = [] := by
  constructor
  · intro h
    obtain rfl : r = 0 := by omega
    decide +kernel
  · intro h
    by_cases h0 : r = 0
    · simp [h0]
    · exfalso
      rw [catsI_nat r hr, (cats_step r h0 hr).1] at h
      simp at h
theorem refBelowI_nat {a b : Nat} (ha : a < 18446744073709551616) (hb : b < 18446744073709551616) : refBelowI (a : Int) (b : Int) = belowI (a : Int) (b : Int) := by
  rw [Bool.eq_iff_iff, belowI_nat ha hb]
  unfold refBelowI upto64
  rw [List.all_eq_true]
  constructor
  · intro h i hi
    have hlt : i < 64 := by
      apply Classical.byContradiction
      intro hge
      have : a.testBit i = false := Nat.testBit_lt_two_pow (Nat.lt_of_lt_of_le ha (by rw [show (18446744073709551616 : Nat) = 2 ^ 64 by decide]; exact Nat.pow_le_pow_right (by decide) (by omega)))
      rw [this] at hi; cases hi
    have := h (i : Int) (List.mem_map.2 ⟨i, by simpa using hlt, rfl⟩)
    rw [hasI_nat a i ha, hasI_nat b i hb, hi] at this
    simpa using this
  · intro h c hc
    obtain ⟨i, hi, rfl⟩ := List.mem_map.1 hc
    rw [hasI_nat a i ha, hasI_nat b i hb]
    cases hx : a.testBit i with
    | false => rfl
    | true => rw [h i hx]; rfl

theorem same_same (u v : Value) (xs : List Int) (w : World) (hu : Slc w u (vals .i64 xs)) (hv : Slc w v (vals .i64 xs)) :
    Calls Tryd.prog 18 #[u, v] w fun e w' => e = .returned (.bool true) ∧ Below w.heap.size w w' := by
  refine (sameInts_any u v xs xs w hu hv).mono fun e w' hh => ?_
  obtain ⟨he, n, rfl⟩ := hh
  have hb := Below.refl w.heap.size w
  exact ⟨by rw [he]; simp, hb.os, hb.tape, hb.output, hb.size, hb.block⟩
theorem list_s (a : Nat) (w : World) (ha : a < 18446744073709551616) (hT : Tabs w) :
    Calls Tryd.prog 19 #[.int .u64 (a : Int)] w fun e w' => OutSlc w (vals .i64 (catsI (a : Int))) e w' := by
  rw [← catsI_vals ha]
  exact list_any a w ha hT.1 hT.2
theorem count_s (a : Nat) (w : World) (ha : a < 18446744073709551616) :
    Calls Tryd.prog 21 #[.int .u64 (a : Int)] w fun e w' => e = .returned (.int .i64 ((catsI (a : Int)).length : Int)) ∧ w = w' := by
  rw [catsI_len ha]
  exact count_any a w ha
theorem least_s (a : Nat) (w : World) (ha : a < 18446744073709551616) (hT : Tabs w) :
    Calls Tryd.prog 16 #[.int .u64 (a : Int)] w fun e w' => e = .returned (.tuple #[.int .i64 (leastI (a : Int)).1, .int .i64 (leastI (a : Int)).2]) ∧ Below w.heap.size w w' := least_any a w ha hT.1 hT.2
theorem refBelow_s (a b : Nat) (w : World) (ha : a < 18446744073709551616) (hb : b < 18446744073709551616) :
    Calls Tryd.prog 24 #[.int .u64 (a : Int), .int .u64 (b : Int)] w fun e w' => e = .returned (.bool (belowI (a : Int) (b : Int))) ∧ w = w' := by
  rw [← refBelowI_nat ha hb]
  exact refBelow_any a b w
theorem refComparable_s (a b : Nat) (w : World) (ha : a < 18446744073709551616) (hb : b < 18446744073709551616) :
    Calls Tryd.prog 26 #[.int .u64 (a : Int), .int .u64 (b : Int)] w fun e w' => e = .returned (.bool (belowI (a : Int) (b : Int) || belowI (b : Int) (a : Int))) ∧ w = w' := by
  rw [← refBelowI_nat ha hb, ← refBelowI_nat hb ha]
  exact refComparable_any a b w

/-- What Has gives: a bit and an error. -/
def hasB (l c : Int) : Bool := if isCat c then hasI l c else false
def hasE (c : Int) : Int := if isCat c then 0 else 2
theorem has_s (l c : Int) (w : World) : Calls Tryd.prog 14 #[.int .u64 l, .int .i64 c] w fun e w' => e = .returned (.tuple #[.bool (hasB l c), .int .i64 (hasE c)]) ∧ w = w' := by
  refine (has_any l c w).mono fun e w' hh => ⟨?_, hh.2⟩
  rw [hh.1]; unfold hasB hasE; cases isCat c <;> rfl
theorem refHas_s (l c : Int) (w : World) : Calls Tryd.prog 15 #[.int .u64 l, .int .i64 c] w fun e w' => e = .returned (.tuple #[.bool (hasB l c), .int .i64 (hasE c)]) ∧ w = w' := by
  refine (refHas_any l c w).mono fun e w' hh => ⟨?_, hh.2⟩
  rw [hh.1]; unfold hasB hasE; cases isCat c <;> rfl

set_option maxRecDepth 100000 in
set_option maxHeartbeats 2000000 in
theorem sets_any (a b : Nat) (c : Int) (v : Value) (l : List Int) (w : World) (ha : a < 18446744073709551616) (hb : b < 18446744073709551616) (hT : Tabs w) (hv : Slc w v (vals .i64 l)) :
    Calls Tryd.prog 3 #[.int .u64 (a : Int), .int .u64 (b : Int), .int .i64 c, v] w fun e w' => e = .returned (.bool true) ∧ Below w.heap.size w w' := by
  have hlen0 := hv.len
  rw [vals_length] at hlen0
  obtain ⟨A, cap, rfl, hm0, hc0⟩ := hv.ints
  clear hc0 hm0
  by_cases hlen : l.length ≤ 100
  · have h1 : ¬ (100 : Int) < (l.length : Int) := by omega
    have Hv := Lib.hid hv
    clear hlen0 hv
    go_enter Tryd.func3, Tryd.ntmps3
    go_wp2_with fail
    refine (ownInts_any _ l _ Hv.out (by omega)).mono ?_
    rintro e w1 ⟨v1, rfl, hs1, hb1⟩
    have hv1 := Hv.out.below hb1
    have hT1 := hT.below hb1
    have hB1 := hb1
    clear hb1 hT Hv
    go_wp2_with fail
    refine (of_any _ l _ hs1).mono ?_
    rintro e w' ⟨rfl, rfl⟩
    go_wp2_with fail
    refine (refOf_any _ l _ hv1).mono ?_
    rintro e w' ⟨rfl, rfl⟩
    obtain ⟨⟨x, xe⟩, hx⟩ : ∃ q, q = ofI l := ⟨_, rfl⟩
    rw [← hx]
    clear hx
    go_wp2_with fail
    refine (has_s _ _ _).mono ?_
    rintro e w' ⟨rfl, rfl⟩
    go_wp2_with fail
    refine (refHas_s _ _ _).mono ?_
    rintro e w' ⟨rfl, rfl⟩
    obtain ⟨hh, hhx⟩ : ∃ q, q = hasB a c := ⟨_, rfl⟩
    rw [← hhx]
    clear hhx
    obtain ⟨he, hhe⟩ : ∃ q, q = hasE c := ⟨_, rfl⟩
    rw [← hhe]
    clear hhe
    go_wp2_with fail
    refine (least_s a _ ha hT1).mono ?_
    rintro e w2 ⟨rfl, hb2⟩
    have hv2 := hv1.below hb2
    have hs2 := hs1.below hb2
    have hT2 := hT1.below hb2
    have hB2 := below_step hB1 hb2
    clear hb2 hv1 hs1 hT1 hB1
    go_wp2_with fail
    refine (refLeast_any a _ (catsI_zero ha)).mono ?_
    rintro e w3 ⟨rfl, hb3⟩
    have hv3 := hv2.below hb3
    have hs3 := hs2.below hb3
    have hT3 := hT2.below hb3
    have hB3 := below_step hB2 hb3
    clear hb3 hv2 hs2 hT2 hB2
    obtain ⟨⟨y, ye⟩, hy⟩ : ∃ q, q = leastI (a : Int) := ⟨_, rfl⟩
    rw [← hy]
    clear hy
    go_wp2_with fail
    refine (list_s a _ ha hT3).mono ?_
    rintro e w4 ⟨v4, rfl, hs4, hb4⟩
    have hv4 := hv3.below hb4
    have hi4 := hs3.below hb4
    have hT4 := hT3.below hb4
    have hB4 := below_step hB3 hb4
    clear hb4 hv3 hs3 hT3 hB3
    go_wp2_with fail
    refine (refList_any a _).mono ?_
    rintro e w5 ⟨v5, rfl, ht5, hb5⟩
    have hs5 := hs4.below hb5
    have hv5 := hv4.below hb5
    have hi5 := hi4.below hb5
    have hT5 := hT4.below hb5
    have hB5 := below_step hB4 hb5
    clear hb5 hv4 hs4 hT4 hB4 hi4
    go_wp2_with fail
    refine (same_same v4 v5 _ _ hs5 ht5).mono ?_
    rintro e w6 ⟨rfl, hb6⟩
    have hv6 := hv5.below hb6
    have hi6 := hi5.below hb6
    have hT6 := hT5.below hb6
    have hB6 := below_step hB5 hb6
    clear hb6 hv5 hs5 hT5 hB5 hi5 ht5
    go_wp2_with fail
    refine (count_s a _ ha).mono ?_
    rintro e w' ⟨rfl, rfl⟩
    go_wp2_with fail
    refine (refCount_any a _).mono ?_
    rintro e w7 ⟨rfl, hb7⟩
    obtain ⟨k, hk⟩ : ∃ k : Int, k = ((catsI (a : Int)).length : Int) := ⟨_, rfl⟩
    rw [← hk]
    clear hk
    have hv7 := hv6.below hb7
    have hi7 := hi6.below hb7
    have hT7 := hT6.below hb7
    have hB7 := below_step hB6 hb7
    clear hb7 hv6 hT6 hB6 hi6
    go_wp2_with fail
    refine (below_any a b _).mono ?_
    rintro e w' ⟨rfl, rfl⟩
    go_wp2_with fail
    refine (refBelow_s a b _ ha hb).mono ?_
    rintro e w' ⟨rfl, rfl⟩
    obtain ⟨k1, hk⟩ : ∃ k, k = belowI (a : Int) (b : Int) := ⟨_, rfl⟩
    rw [← hk]
    go_wp2_with fail
    refine (comparable_any a b _).mono ?_
    rintro e w' ⟨rfl, rfl⟩
    go_wp2_with fail
    refine (refComparable_s a b _ ha hb).mono ?_
    rintro e w' ⟨rfl, rfl⟩
    rw [← hk]
    clear hk
    obtain ⟨k2, hk⟩ : ∃ k, k = (k1 || belowI (b : Int) (a : Int)) := ⟨_, rfl⟩
    rw [← hk]
    clear hk
    go_wp2_with fail
    refine (without_any a b _).mono ?_
    rintro e w' ⟨rfl, rfl⟩
    go_wp2_with fail
    refine (refWithout_any a b _).mono ?_
    rintro e w' ⟨rfl, rfl⟩
    obtain ⟨k3, hk⟩ : ∃ k, k = bits .andNot .u64 (a : Int) (b : Int) := ⟨_, rfl⟩
    rw [← hk]
    clear hk
    go_wp2_with fail
    refine (same_same _ _ l _ hi7 hv7).mono ?_
    rintro e w8 ⟨rfl, hb8⟩
    have hT8 := hT7.below hb8
    have hB8 := below_step hB7 hb8
    clear hb8 hv7 hT7 hB7 hi7
    go_wp2_with fail
    refine (awake_any _ hT8).mono ?_
    rintro e w9 ⟨rfl, hb9⟩
    go_wp2
    go_ret
    exact ⟨rfl, below_step hB8 hb9⟩
  · have h1 : (100 : Int) < (l.length : Int) := by omega
    clear hlen
    go_enter Tryd.func3, Tryd.ntmps3
    go_wp2_with fail
    refine (awake_any _ hT).mono ?_
    rintro e w1 ⟨rfl, hb1⟩
    go_wp2
    go_ret
    exact ⟨rfl, hb1⟩
end Go.Proofs.YtnlioeheogkkiaaDoor
