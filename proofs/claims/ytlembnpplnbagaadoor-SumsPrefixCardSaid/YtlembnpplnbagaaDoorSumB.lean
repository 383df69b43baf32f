/- Walks: the program's differences, products, negatives and cuts. -/
import Derived.Test.YtlembnpplnbagaaDoorSumA
namespace Go.Proofs.YtlembnpplnbagaaDoor
open Go.RowKit Go.Shelf
open Sm

theorem sub_any (a b : Int) (ha : okI a = true) (hb : okI b = true) (w : World) : Calls Tryd.prog 13 #[.int .i64 a, .int .i64 b] w fun e w' => e = .returned (two (a - b)) ∧ w = w' := by
  obtain ⟨ua, hua⟩ : ∃ u, u = IntKind.u64.wrap a := ⟨_, rfl⟩
  obtain ⟨ub, hub⟩ : ∃ u, u = IntKind.u64.wrap b := ⟨_, rfl⟩
  obtain ⟨us, hus⟩ : ∃ u, u = IntKind.u64.wrap (ua - ub) := ⟨_, rfl⟩
  obtain ⟨s, hs⟩ : ∃ u, u = IntKind.i64.wrap us := ⟨_, rfl⟩
  have hk : ∃ k : Int, s = a - b + 18446744073709551616 * k := by
    rw [hs, hus, hua, hub, IntKind.wrap_i64, IntKind.wrap_u64, IntKind.wrap_u64, IntKind.wrap_u64]
    refine ⟨((a % 18446744073709551616 - b % 18446744073709551616) % 18446744073709551616 - (a - b)) / 18446744073709551616 + (if (a % 18446744073709551616 - b % 18446744073709551616) % 18446744073709551616 < 9223372036854775808 then 0 else -1), ?_⟩
    split <;> omega
  have hso : okI s = true := by rw [hs]; exact wrap_ok _
  have hov := sub_over ha hb hso hk
  obtain ⟨X, hX⟩ : ∃ X, X = bits .xor .i64 a b := ⟨_, rfl⟩
  obtain ⟨Y, hY⟩ : ∃ Y, Y = bits .xor .i64 a s := ⟨_, rfl⟩
  obtain ⟨Z, hZ⟩ : ∃ Z, Z = bits .and .i64 X Y := ⟨_, rfl⟩
  have hn : neg Z = ((neg a ^^ neg b) && (neg a ^^ neg s)) := by rw [hZ, and_neg (by rw [hX]; exact bits_ok _ _ _) (by rw [hY]; exact bits_ok _ _ _), hX, hY, xor_neg ha hb, xor_neg ha hso]
  have hZo : okI Z = true := by rw [hZ]; exact bits_ok _ _ _
  rw [← hn] at hov
  have hs64 : wrap64 us = s := by rw [hs]; exact (IntWalk.i64_left us).symm
  clear hn hk hso ha hb
  replace hua := hua.symm
  replace hub := hub.symm
  replace hus := hus.symm
  replace hs := hs.symm
  replace hX := hX.symm
  replace hY := hY.symm
  replace hZ := hZ.symm
  cases hc : okI (a - b)
  · have hcz := (sgn_cases Z).1 (by have := hov.1; rw [hc] at this; cases e : neg Z <;> simp [e] at this ⊢)
    have hsg := fun w => sign_is Z 1 hZo hcz w
    rw [two_no hc]
    clear hov hc hcz hZo
    go_enter Tryd.func13, Tryd.ntmps13
    go_wp2_with (go_at_call 46; refine (hsg _).mono ?_; rintro e w' ⟨rfl, rfl⟩)
    go_ret2
    exact ⟨rfl, rfl⟩
  · have hcz := (sgn_cases Z).2 (by have := hov.1; rw [hc] at this; cases e : neg Z <;> simp [e] at this ⊢)
    have hsg := fun w => sign_is Z 0 hZo hcz w
    have hr := hov.2 hc
    rw [two_ok hc, ← hr]
    clear hov hc hcz hZo hr
    go_enter Tryd.func13, Tryd.ntmps13
    go_wp2_with (go_at_call 46; refine (hsg _).mono ?_; rintro e w' ⟨rfl, rfl⟩)
    go_ret2
    exact ⟨rfl, rfl⟩
theorem neg_any (a : Int) (ha : okI a = true) (w : World) : Calls Tryd.prog 17 #[.int .i64 a] w fun e w' => e = .returned (two (-a)) ∧ w = w' := by
  have hc := fun w => sub_any 0 a (by decide) ha w
  rw [Int.zero_sub] at hc
  unfold two at hc ⊢
  obtain ⟨x, hx⟩ : ∃ x, x = numI (-a) := ⟨_, rfl⟩
  obtain ⟨y, hy⟩ : ∃ y, y = errI (-a) := ⟨_, rfl⟩
  rw [← hx, ← hy] at hc ⊢
  clear hx hy ha
  go_enter Tryd.func17, Tryd.ntmps17
  go_wp2_with (go_at_call 13; refine (hc _).mono ?_; rintro e w' ⟨rfl, rfl⟩)
  go_ret2
  exact ⟨rfl, rfl⟩

theorem mul_any (a b : Int) (ha : okI a = true) (hb : okI b = true) (w : World) : Calls Tryd.prog 15 #[.int .i64 a, .int .i64 b] w fun e w' => e = .returned (two (a * b)) ∧ w = w' := by
  have hsa := fun w => size_any a ha w
  have hsb := fun w => size_any b hb w
  have hA := abs_ok ha
  have hB := abs_ok hb
  have hm := fun w => Tryd.bits_Mul64 a.natAbs b.natAbs (by omega) (by omega) w
  obtain ⟨X, hX⟩ : ∃ X, X = bits .xor .i64 a b := ⟨_, rfl⟩
  have hn : neg X = (neg a ^^ neg b) := by rw [hX, xor_neg ha hb]
  have hXo : okI X = true := by rw [hX]; exact bits_ok _ _ _
  have hs := neg_xor_sgn a b X hn
  obtain ⟨p, hp⟩ : ∃ p, p = a.natAbs * b.natAbs := ⟨_, rfl⟩
  rw [← hp] at hm
  have hover := mul_over p hp _ rfl
  have hR1 := mul_same (a := a) (b := b) p hp
  have hR2 := mul_other (a := a) (b := b) p hp
  obtain ⟨A, hAe⟩ : ∃ A : Int, A = ((a.natAbs : Nat) : Int) := ⟨_, rfl⟩
  obtain ⟨B, hBe⟩ : ∃ A : Int, A = ((b.natAbs : Nat) : Int) := ⟨_, rfl⟩
  rw [← hAe] at hsa hm
  rw [← hBe] at hsb hm
  obtain ⟨hi, hhi⟩ : ∃ h : Nat, h = p / 18446744073709551616 := ⟨_, rfl⟩
  obtain ⟨lo, hlo⟩ : ∃ h : Nat, h = p % 18446744073709551616 := ⟨_, rfl⟩
  have hlt : lo < 18446744073709551616 := by omega
  rw [← hhi, ← hlo] at hm hover
  rw [← hlo] at hR1 hR2
  obtain ⟨P, hP⟩ : ∃ P, P = a * b := ⟨_, rfl⟩
  rw [← hP] at hover hR1 hR2 ⊢
  have hsg := fun w => sign_is X _ hXo hs w
  replace hX := hX.symm
  clear hn hs hXo hP hhi hlo hAe hBe hp hA hB ha hb
  by_cases hne : neg a = neg b
  · rw [if_pos hne] at hover hsg
    replace hR1 := fun h => hR1 hne h
    clear hR2 hne
    cases hc : okI P
    · rw [hc] at hover
      rw [two_no hc]
      clear hc hR1
      by_cases h0 : hi = 0
      · have h1 : ¬ (lo : Int) ≤ 9223372036854775807 := fun h => by rw [h0] at hover; simp at hover; omega
        subst h0
        clear hover
        go_enter Tryd.func15, Tryd.ntmps15
        go_wp2_with (first | (go_at_call 46; refine (hsg _).mono ?_; rintro e w' ⟨rfl, rfl⟩) | (go_at_call 50; with_reducible refine (hsa _).mono ?_; rintro e w' ⟨rfl, rfl⟩) | (go_at_call 50; with_reducible refine (hsb _).mono ?_; rintro e w' ⟨rfl, rfl⟩) | (go_at_call 49; refine (hm _).mono ?_; rintro e w' ⟨rfl, rfl⟩))
        go_ret2
        exact ⟨rfl, rfl⟩
      · have h1 : ¬ (hi : Int) = 0 := by omega
        clear hover h0
        go_enter Tryd.func15, Tryd.ntmps15
        go_wp2_with (first | (go_at_call 46; refine (hsg _).mono ?_; rintro e w' ⟨rfl, rfl⟩) | (go_at_call 50; with_reducible refine (hsa _).mono ?_; rintro e w' ⟨rfl, rfl⟩) | (go_at_call 50; with_reducible refine (hsb _).mono ?_; rintro e w' ⟨rfl, rfl⟩) | (go_at_call 49; refine (hm _).mono ?_; rintro e w' ⟨rfl, rfl⟩))
        go_ret2
        exact ⟨rfl, rfl⟩
    · have hr := hR1 hc
      rw [hc] at hover
      rw [two_ok hc]
      have h0 : hi = 0 := by have := hover.symm; simp at this; exact this.1
      have h1 : (lo : Int) ≤ 9223372036854775807 := by have := hover.symm; simp at this; omega
      have hr' : (lo : Int) = P := by rw [← hr, IntWalk.i64_in _ ⟨by omega, h1⟩]
      subst h0
      clear hover hc hR1 hr
      subst hr'
      go_enter Tryd.func15, Tryd.ntmps15
      go_wp2_with (first | (go_at_call 46; refine (hsg _).mono ?_; rintro e w' ⟨rfl, rfl⟩) | (go_at_call 50; with_reducible refine (hsa _).mono ?_; rintro e w' ⟨rfl, rfl⟩) | (go_at_call 50; with_reducible refine (hsb _).mono ?_; rintro e w' ⟨rfl, rfl⟩) | (go_at_call 49; refine (hm _).mono ?_; rintro e w' ⟨rfl, rfl⟩))
      go_ret2
      exact ⟨rfl, rfl⟩
  · rw [if_neg hne] at hover hsg
    replace hR2 := fun h => hR2 hne h
    clear hR1 hne
    cases hc : okI P
    · rw [hc] at hover
      rw [two_no hc]
      clear hc hR2
      by_cases h0 : hi = 0
      · have h1 : ¬ (lo : Int) ≤ 9223372036854775808 := fun h => by rw [h0] at hover; simp at hover; omega
        subst h0
        clear hover
        go_enter Tryd.func15, Tryd.ntmps15
        go_wp2_with (first | (go_at_call 46; refine (hsg _).mono ?_; rintro e w' ⟨rfl, rfl⟩) | (go_at_call 50; with_reducible refine (hsa _).mono ?_; rintro e w' ⟨rfl, rfl⟩) | (go_at_call 50; with_reducible refine (hsb _).mono ?_; rintro e w' ⟨rfl, rfl⟩) | (go_at_call 49; refine (hm _).mono ?_; rintro e w' ⟨rfl, rfl⟩))
        go_ret2
        exact ⟨rfl, rfl⟩
      · have h1 : ¬ (hi : Int) = 0 := by omega
        clear hover h0
        go_enter Tryd.func15, Tryd.ntmps15
        go_wp2_with (first | (go_at_call 46; refine (hsg _).mono ?_; rintro e w' ⟨rfl, rfl⟩) | (go_at_call 50; with_reducible refine (hsa _).mono ?_; rintro e w' ⟨rfl, rfl⟩) | (go_at_call 50; with_reducible refine (hsb _).mono ?_; rintro e w' ⟨rfl, rfl⟩) | (go_at_call 49; refine (hm _).mono ?_; rintro e w' ⟨rfl, rfl⟩))
        go_ret2
        exact ⟨rfl, rfl⟩
    · have hr := hR2 hc
      rw [hc] at hover
      rw [two_ok hc]
      have h0 : hi = 0 := by have := hover.symm; simp at this; exact this.1
      have h1 : (lo : Int) ≤ 9223372036854775808 := by have := hover.symm; simp at this; omega
      obtain ⟨nl, hnl⟩ : ∃ x, x = IntKind.u64.wrap (-(lo : Int)) := ⟨_, rfl⟩
      rw [← hnl] at hr
      have hr' : wrap64 nl = P := by rw [← hr]; exact (IntWalk.i64_left nl).symm
      replace hnl := hnl.symm
      subst h0
      clear hover hc hR2
      go_enter Tryd.func15, Tryd.ntmps15
      go_wp2_with (first | (go_at_call 46; refine (hsg _).mono ?_; rintro e w' ⟨rfl, rfl⟩) | (go_at_call 50; with_reducible refine (hsa _).mono ?_; rintro e w' ⟨rfl, rfl⟩) | (go_at_call 50; with_reducible refine (hsb _).mono ?_; rintro e w' ⟨rfl, rfl⟩) | (go_at_call 49; refine (hm _).mono ?_; rintro e w' ⟨rfl, rfl⟩))
      go_ret2
      exact ⟨rfl, rfl⟩
end Go.Proofs.YtlembnpplnbagaaDoor
