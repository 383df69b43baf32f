/- Walks: the reference's sums, differences, products, negatives; cuts. -/
import Derived.Test.YtlembnpplnbagaaDoorSumB
import Derived.Test.YtlembnpplnbagaaDoorSumD
namespace Go.Proofs.YtlembnpplnbagaaDoor
open Go.RowKit Go.Shelf
open Sm

theorem refAdd_any (a b : Int) (ha : okI a = true) (hb : okI b = true) (w : World) : Calls Tryd.prog 12 #[.int .i64 a, .int .i64 b] w fun e w' => e = .returned (two (a + b)) ∧ Below w.heap.size w w' := by
  have hp := fun w => plus_any a b ha hb w
  obtain ⟨v, hv⟩ : ∃ v, v = a + b := ⟨_, rfl⟩
  rw [← hv] at hp ⊢
  clear hv ha hb
  have hn := fun s hi lo h (w : World) => narrow_any s hi lo h w
  unfold two at hn ⊢
  obtain ⟨x, hx⟩ : ∃ x, x = numI v := ⟨_, rfl⟩
  obtain ⟨y, hy⟩ : ∃ y, y = errI v := ⟨_, rfl⟩
  rw [← hx, ← hy]
  have HX := Lib.hid hx
  have HY := Lib.hid hy
  clear hx hy
  go_enter Tryd.func12, Tryd.ntmps12
  go_wp2_with fail
  refine (hp _).mono ?_
  rintro e w1 ⟨s, hi, lo, rfl, hl, hbv, hb1⟩
  have hn1 := fun w => hn s hi lo hl w
  rw [hbv, ← HX.out, ← HY.out] at hn1
  clear hn hbv hp
  go_wp2_with fail
  refine (hn1 _).mono ?_
  rintro e w2 ⟨rfl, hb2⟩
  go_wp2_with fail
  go_ret2
  exact ⟨rfl, bstep hb1 hb2⟩
theorem refNeg_any (a : Int) (ha : okI a = true) (w : World) : Calls Tryd.prog 18 #[.int .i64 a] w fun e w' => e = .returned (two (-a)) ∧ Below w.heap.size w w' := by
  have hs := fun w => refSize5_any a ha w
  have hA := abs_ok ha
  have hn := fun w => narrow_any (decide (0 ≤ a)) 0 a.natAbs (by omega) w
  have hv : bigV (decide (0 ≤ a)) 0 a.natAbs = -a := by
    unfold bigV
    by_cases h : 0 ≤ a
    · simp [h]; omega
    · simp [h]; omega
  rw [hv] at hn
  unfold two at hn ⊢
  obtain ⟨x, hx⟩ : ∃ x, x = numI (-a) := ⟨_, rfl⟩
  obtain ⟨y, hy⟩ : ∃ y, y = errI (-a) := ⟨_, rfl⟩
  obtain ⟨z, hz⟩ : ∃ y : Int, y = ((a.natAbs : Nat) : Int) := ⟨_, rfl⟩
  rw [← hx, ← hy] at hn ⊢
  rw [← hz] at hn hs
  clear hx hy hz hv hA ha
  obtain ⟨s, hse⟩ : ∃ s, s = decide (0 ≤ a) := ⟨_, rfl⟩
  rw [← hse] at hn
  replace hse := hse.symm
  go_enter Tryd.func18, Tryd.ntmps18
  go_wp2_with fail
  refine (hs _).mono ?_
  rintro e w1 ⟨rfl, rfl⟩
  go_wp2_with fail
  refine (hn _).mono ?_
  rintro e w2 ⟨rfl, hb2⟩
  go_wp2_with fail
  go_ret2
  exact ⟨rfl, hb2⟩
theorem refSub_any (a b : Int) (ha : okI a = true) (hb : okI b = true) (w : World) : Calls Tryd.prog 14 #[.int .i64 a, .int .i64 b] w fun e w' => e = .returned (two (a - b)) ∧ Below w.heap.size w w' := by
  have h1 := okI_iff.1 ha
  have h2 := okI_iff.1 hb
  by_cases hl : b = -9223372036854775808
  · subst hl
    by_cases h0 : 0 ≤ a
    · rw [two_no (by rw [okI_not]; omega)]
      clear h1 h2 ha hb
      go_enter Tryd.func14, Tryd.ntmps14
      go_wp2_with fail
      go_ret2
      exact ⟨rfl, Below.refl _ _⟩
    · rw [two_ok (by rw [okI_iff]; omega)]
      have hw : IntKind.i64.wrap (a - -9223372036854775808) = a - -9223372036854775808 := IntWalk.i64_in _ ⟨by omega, by omega⟩
      have hw2 : IntKind.i64.wrap (a + 9223372036854775808) = a - -9223372036854775808 := by rw [IntWalk.i64_in _ ⟨by omega, by omega⟩]; omega
      obtain ⟨r, hr⟩ : ∃ r, r = a - -9223372036854775808 := ⟨_, rfl⟩
      rw [← hr] at hw hw2 ⊢
      clear h1 h2 ha hb
      go_enter Tryd.func14, Tryd.ntmps14
      go_wp2_with fail
      go_ret2
      exact ⟨rfl, Below.refl _ _⟩
  · obtain ⟨n, hn⟩ : ∃ n, n = -b := ⟨_, rfl⟩
    have hc := fun w => refAdd_any a n ha (by rw [okI_iff]; omega) w
    have e : a + n = a - b := by omega
    rw [e] at hc
    have hw : IntKind.i64.wrap (-b) = n := by rw [IntWalk.i64_in _ ⟨by omega, by omega⟩, hn]
    have hne : (b == -9223372036854775808) = false := by rw [beq_eq_false_iff_ne]; exact hl
    unfold two at hc ⊢
    obtain ⟨x, hx⟩ : ∃ x, x = numI (a - b) := ⟨_, rfl⟩
    obtain ⟨y, hy⟩ : ∃ y, y = errI (a - b) := ⟨_, rfl⟩
    rw [← hx, ← hy] at hc ⊢
    have hw2 : wrap64 (-b) = n := by rw [← hw]; exact (IntWalk.i64_left _).symm
    clear hn hx hy e h1 h2 ha hb
    go_enter Tryd.func14, Tryd.ntmps14
    go_wp2_with fail
    refine (hc _).mono ?_
    rintro e w2 ⟨rfl, hb2⟩
    go_wp2_with fail
    go_ret2
    exact ⟨rfl, hb2⟩
theorem refMul_any (a b : Int) (ha : okI a = true) (hb : okI b = true) (w : World) : Calls Tryd.prog 16 #[.int .i64 a, .int .i64 b] w fun e w' => e = .returned (two (a * b)) ∧ Below w.heap.size w w' := by
  have hsa := fun w => refSize5_any a ha w
  have hsb := fun w => refSize5_any b hb w
  have hA := abs_ok ha
  have hB := abs_ok hb
  have hp := mul_abs a b
  have hsame := mul_neg_same (a := a) (b := b)
  have hoth := mul_neg_other (a := a) (b := b)
  obtain ⟨x, hx⟩ : ∃ x, x = a.natAbs := ⟨_, rfl⟩
  obtain ⟨y, hy⟩ : ∃ y, y = b.natAbs := ⟨_, rfl⟩
  rw [← hx] at hsa hA hp
  rw [← hy] at hsb hB hp
  obtain ⟨P, hP⟩ : ∃ P, P = a * b := ⟨_, rfl⟩
  rw [← hP] at hp hsame hoth ⊢
  by_cases hbig : x ≠ 0 ∧ 9223372036854775808 / x < y
  · obtain ⟨hx0, hgt⟩ := hbig
    have hno : okI P = false := by
      rw [okI_not]
      have : 9223372036854775808 < x * y := by
        have := (Nat.div_lt_iff_lt_mul (Nat.pos_of_ne_zero hx0)).1 hgt
        rw [Nat.mul_comm]; exact this
      omega
    rw [two_no hno]
    have c0 : ((x : Int) == 0) = false := by rw [beq_eq_false_iff_ne]; omega
    have c1 : (9223372036854775808 : Int) / (x : Int) < (y : Int) := by
      have : ((9223372036854775808 / x : Nat) : Int) < (y : Int) := by omega
      simpa using this
    have c2 : (1 : Int) ≤ (x : Int) := by omega
    obtain ⟨q, hq⟩ : ∃ q : Int, q = (9223372036854775808 : Int) / (x : Int) := ⟨_, rfl⟩
    rw [← hq] at c1
    have c3 : IntKind.u64.wrap q = q := by
      have h1 : 0 ≤ q := by rw [hq]; exact Int.ediv_nonneg (by decide) (by omega)
      have h2 : q ≤ 9223372036854775808 := by rw [hq]; exact Int.ediv_le_self _ (by decide)
      exact IntWalk.u64_in _ ⟨h1, by omega⟩
    have c4 : IntKind.u64.wrap (Int.tdiv 9223372036854775808 (x : Int)) = q := by rw [Int.tdiv_eq_ediv_of_nonneg (by decide), ← hq, c3]
    replace hq := hq.symm
    clear hsame hoth hp hP hx hy hno ha hb hA hB hgt hx0
    go_enter Tryd.func16, Tryd.ntmps16
    go_wp2_with (first | (go_at_call 51; with_reducible refine (hsa _).mono ?_; rintro e w' ⟨rfl, rfl⟩) | (go_at_call 51; with_reducible refine (hsb _).mono ?_; rintro e w' ⟨rfl, rfl⟩))
    go_ret2
    exact ⟨rfl, Below.refl _ _⟩
  · have hle : x = 0 ∨ y ≤ 9223372036854775808 / x := by
      by_cases h : x = 0
      · exact .inl h
      · exact .inr (by have := fun h2 => hbig ⟨h, h2⟩; omega)
    have hm : x * y ≤ 9223372036854775808 := by
      rcases hle with h | h
      · rw [h]; omega
      · calc x * y ≤ x * (9223372036854775808 / x) := Nat.mul_le_mul_left _ h
          _ ≤ 9223372036854775808 := Nat.mul_div_le _ _
    obtain ⟨z, hz⟩ : ∃ z, z = x * y := ⟨_, rfl⟩
    have hzi : (x : Int) * (y : Int) = (z : Int) := by rw [hz]; exact (Int.natCast_mul x y).symm
    have hw : IntKind.u64.wrap (z : Int) = (z : Int) := IntWalk.u64_in _ ⟨by omega, by omega⟩
    rw [← hz] at hp hm
    have hn := fun s (w : World) => narrow_any s 0 z (by omega) w
    have hv : bigV (decide (a < 0) != decide (b < 0)) 0 z = P := by
      by_cases hs : neg a = neg b
      · have h1 := hsame hs
        have e : (decide (a < 0) != decide (b < 0)) = false := by show (neg a != neg b) = false; rw [hs]; simp
        rw [e]
        unfold bigV
        simp
        omega
      · have h1 := hoth hs
        have e : (decide (a < 0) != decide (b < 0)) = true := by show (neg a != neg b) = true; simpa using hs
        rw [e]
        unfold bigV
        simp
        omega
    obtain ⟨d1, hd1⟩ : ∃ d, d = decide (a < 0) := ⟨_, rfl⟩
    obtain ⟨d2, hd2⟩ : ∃ d, d = decide (b < 0) := ⟨_, rfl⟩
    rw [← hd1, ← hd2] at hv
    have hn1 := hn (d1 != d2)
    rw [hv] at hn1
    unfold two at hn1 ⊢
    obtain ⟨X, hX⟩ : ∃ x, x = numI P := ⟨_, rfl⟩
    obtain ⟨Y, hY⟩ : ∃ y, y = errI P := ⟨_, rfl⟩
    rw [← hX, ← hY] at hn1 ⊢
    replace hd1 := hd1.symm
    replace hd2 := hd2.symm
    clear hX hY hn hv hsame hoth hp hP hx hy ha hb hA hB hz hbig hm
    by_cases hx0 : x = 0
    · subst hx0
      obtain rfl : z = 0 := by have : (0 : Int) * (y : Int) = (z : Int) := hzi; omega
      clear hle hzi
      go_enter Tryd.func16, Tryd.ntmps16
      go_wp2_with (first | (go_at_call 51; with_reducible refine (hsa _).mono ?_; rintro e w' ⟨rfl, rfl⟩) | (go_at_call 51; with_reducible refine (hsb _).mono ?_; rintro e w' ⟨rfl, rfl⟩))
      refine (hn1 _).mono ?_
      rintro e w2 ⟨rfl, hb2⟩
      go_wp2_with fail
      go_ret2
      exact ⟨rfl, hb2⟩
    · have hle' := hle.resolve_left hx0
      have c0 : ((x : Int) == 0) = false := by rw [beq_eq_false_iff_ne]; omega
      have c0' : ¬ ((x : Int) = 0) := by omega
      obtain ⟨q, hq⟩ : ∃ q : Int, q = (9223372036854775808 : Int) / (x : Int) := ⟨_, rfl⟩
      have c1 : ¬ q < (y : Int) := by
        have : (y : Int) ≤ ((9223372036854775808 / x : Nat) : Int) := by omega
        rw [hq]
        simpa using this
      have c2 : (1 : Int) ≤ (x : Int) := by omega
      have c3 : IntKind.u64.wrap q = q := by
        have h1 : 0 ≤ q := by rw [hq]; exact Int.ediv_nonneg (by decide) (by omega)
        have h2 : q ≤ 9223372036854775808 := by rw [hq]; exact Int.ediv_le_self _ (by decide)
        exact IntWalk.u64_in _ ⟨h1, by omega⟩
      have c4 : IntKind.u64.wrap (Int.tdiv 9223372036854775808 (x : Int)) = q := by rw [Int.tdiv_eq_ediv_of_nonneg (by decide), ← hq, c3]
      replace hq := hq.symm
      clear hle hle' hx0
      go_enter Tryd.func16, Tryd.ntmps16
      go_wp2_with (first | (go_at_call 51; with_reducible refine (hsa _).mono ?_; rintro e w' ⟨rfl, rfl⟩) | (go_at_call 51; with_reducible refine (hsb _).mono ?_; rintro e w' ⟨rfl, rfl⟩))
      refine (hn1 _).mono ?_
      rintro e w2 ⟨rfl, hb2⟩
      go_wp2_with fail
      go_ret2
      exact ⟨rfl, hb2⟩
end Go.Proofs.YtlembnpplnbagaaDoor
