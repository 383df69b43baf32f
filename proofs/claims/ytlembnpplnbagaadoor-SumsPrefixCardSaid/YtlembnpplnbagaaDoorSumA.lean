/- Walks: the program's sums, differences, products, negatives and cuts. -/
import Derived.Test.YtlembnpplnbagaaDoorSumMath
import Derived.Test.YtlembnpplnbagaaDoorBlk
import Derived.Test.YtlembnpplnbagaaDoorShelf
import Derived.Lib.Hide
import Derived.WalkMore
namespace Go.Proofs.YtlembnpplnbagaaDoor
open Go.RowKit Go.Shelf
open Sm

theorem sign_any (n : Int) (h : okI n = true) (w : World) : Calls Tryd.prog 46 #[.int .i64 n] w fun e w' => e = .returned (.int .u64 (sgn n)) ∧ w = w' := by
  have hs := Lib.hid (sgn_of h)
  clear h
  go_enter Tryd.func46, Tryd.ntmps46
  go_wp2
  go_ret
  exact ⟨ret_int hs.out, rfl⟩
theorem sign_is (n s : Int) (h : okI n = true) (hs : sgn n = s) (w : World) : Calls Tryd.prog 46 #[.int .i64 n] w fun e w' => e = .returned (.int .u64 s) ∧ w = w' := hs ▸ sign_any n h w
theorem size_any (n : Int) (h : okI n = true) (w : World) : Calls Tryd.prog 50 #[.int .i64 n] w fun e w' => e = .returned (.int .u64 ((n.natAbs : Nat) : Int)) ∧ w = w' := by
  have hb := okI_iff.1 h
  have hw : IntKind.u64.wrap n = n % 18446744073709551616 := IntKind.wrap_u64 n
  obtain ⟨m, hm⟩ : ∃ m, m = n % 18446744073709551616 := ⟨_, rfl⟩
  rw [← hm] at hw
  by_cases h0 : n < 0
  · have hc := fun w => sign_is n 1 h (by unfold sgn; rw [if_pos (neg_iff.2 h0)]) w
    have hr : IntKind.u64.wrap (-m) = ((n.natAbs : Nat) : Int) := by rw [IntKind.wrap_u64]; omega
    obtain ⟨r, hrr⟩ : ∃ r : Int, r = ((n.natAbs : Nat) : Int) := ⟨_, rfl⟩
    rw [← hrr] at hr ⊢
    clear hm hb h0 h hrr
    go_enter Tryd.func50, Tryd.ntmps50
    go_wp2_with (go_at_call 46; refine (hc _).mono ?_; rintro e w' ⟨rfl, rfl⟩)
    go_ret
    exact ⟨rfl, rfl⟩
  · have hc := fun w => sign_is n 0 h (by unfold sgn; rw [if_neg (fun e => h0 (neg_iff.1 e))]) w
    have hr : m = ((n.natAbs : Nat) : Int) := by omega
    obtain ⟨r, hrr⟩ : ∃ r : Int, r = ((n.natAbs : Nat) : Int) := ⟨_, rfl⟩
    rw [← hrr] at hr ⊢
    subst hr
    clear hm hb h0 h hrr
    go_enter Tryd.func50, Tryd.ntmps50
    go_wp2_with (go_at_call 46; refine (hc _).mono ?_; rintro e w' ⟨rfl, rfl⟩)
    go_ret
    exact ⟨rfl, rfl⟩

/-- What a function of two results gives: a number, or none. -/
def two (n : Int) : Value := .tuple #[.int .i64 (numI n), .int .i64 (errI n)]
theorem two_ok {n : Int} (h : okI n = true) : two n = .tuple #[.int .i64 n, .int .i64 0] := by unfold two; rw [numI_ok h, errI_ok h]
theorem two_no {n : Int} (h : okI n = false) : two n = .tuple #[.int .i64 0, .int .i64 16] := by unfold two; rw [numI_no h, errI_no h]

theorem sgn_cases (n : Int) : (neg n = true → sgn n = 1) ∧ (neg n = false → sgn n = 0) := ⟨fun h => by unfold sgn; rw [if_pos h], fun h => by unfold sgn; rw [if_neg (by rw [h]; decide)]⟩
theorem add_any (a b : Int) (ha : okI a = true) (hb : okI b = true) (w : World) : Calls Tryd.prog 11 #[.int .i64 a, .int .i64 b] w fun e w' => e = .returned (two (a + b)) ∧ w = w' := by
  obtain ⟨ua, hua⟩ : ∃ u, u = IntKind.u64.wrap a := ⟨_, rfl⟩
  obtain ⟨ub, hub⟩ : ∃ u, u = IntKind.u64.wrap b := ⟨_, rfl⟩
  obtain ⟨us, hus⟩ : ∃ u, u = IntKind.u64.wrap (ua + ub) := ⟨_, rfl⟩
  obtain ⟨s, hs⟩ : ∃ u, u = IntKind.i64.wrap us := ⟨_, rfl⟩
  have hk : ∃ k : Int, s = a + b + 18446744073709551616 * k := by
    rw [hs, hus, hua, hub, IntKind.wrap_i64, IntKind.wrap_u64, IntKind.wrap_u64, IntKind.wrap_u64]
    refine ⟨((a % 18446744073709551616 + b % 18446744073709551616) % 18446744073709551616 - (a + b)) / 18446744073709551616 + (if (a % 18446744073709551616 + b % 18446744073709551616) % 18446744073709551616 < 9223372036854775808 then 0 else -1), ?_⟩
    split <;> omega
  have hso : okI s = true := by rw [hs]; exact wrap_ok _
  have hov := add_over ha hb hso hk
  obtain ⟨X, hX⟩ : ∃ X, X = bits .xor .i64 a s := ⟨_, rfl⟩
  obtain ⟨Y, hY⟩ : ∃ Y, Y = bits .xor .i64 b s := ⟨_, rfl⟩
  obtain ⟨Z, hZ⟩ : ∃ Z, Z = bits .and .i64 X Y := ⟨_, rfl⟩
  have hn : neg Z = ((neg a ^^ neg s) && (neg b ^^ neg s)) := by rw [hZ, and_neg (by rw [hX]; exact bits_ok _ _ _) (by rw [hY]; exact bits_ok _ _ _), hX, hY, xor_neg ha hso, xor_neg hb hso]
  have hZo : okI Z = true := by rw [hZ]; exact bits_ok _ _ _
  rw [← hn] at hov
  have hs64 : wrap64 us = s := by rw [hs]; exact (IntWalk.i64_left us).symm
  clear hn hk hso ha hb
  replace hua := hua.symm
  replace hub := hub.symm
  replace hus := hus.symm
  replace hs := hs.symm
  replace hX := hX.symm
  replace hY := hY.symm
  replace hZ := hZ.symm
  cases hc : okI (a + b)
  · have hcz := (sgn_cases Z).1 (by have := hov.1; rw [hc] at this; cases e : neg Z <;> simp [e] at this ⊢)
    have hsg := fun w => sign_is Z 1 hZo hcz w
    rw [two_no hc]
    clear hov hc hcz hZo
    go_enter Tryd.func11, Tryd.ntmps11
    go_wp2_with (go_at_call 46; refine (hsg _).mono ?_; rintro e w' ⟨rfl, rfl⟩)
    go_ret2
    exact ⟨rfl, rfl⟩
  · have hcz := (sgn_cases Z).2 (by have := hov.1; rw [hc] at this; cases e : neg Z <;> simp [e] at this ⊢)
    have hsg := fun w => sign_is Z 0 hZo hcz w
    have hr := hov.2 hc
    rw [two_ok hc, ← hr]
    clear hov hc hcz hZo hr
    go_enter Tryd.func11, Tryd.ntmps11
    go_wp2_with (go_at_call 46; refine (hsg _).mono ?_; rintro e w' ⟨rfl, rfl⟩)
    go_ret2
    exact ⟨rfl, rfl⟩
end Go.Proofs.YtlembnpplnbagaaDoor
