/- Walks: sized strings, and the readers' public functions. -/
import Derived.Test.YtgcgoiaadigmfaaWireF
namespace Go.Proofs.Ytgcgoiaadigmfaa
open Go.RowKit
open Wr

theorem fieldN2_any {w : World} {b : Nat} {x : Sp} (h : At w b x) (hk : x.Ok) (hm : x.m = x.s.size) (hs : x.s.size ≤ 9223372036854775807) :
    Calls Try.prog 79 #[.pointer (some ⟨b, 0, none⟩), .int .i64 2] w fun r w' => r = .returned (.int .i64 (x.field 2).2) ∧ Below b w w' ∧ At w' b (x.field 2).1 := by
  have h1 := fieldN_any h hk hm 2 hs
  have h2 := field2_lt hk
  rw [show IntKind.i64.wrap ((x.field 2).2 : Int) = (x.field 2).2 by rw [IntKind.wrap_i64]; omega] at h1
  exact h1
theorem sized_any {w : World} {b : Nat} {x : Sp} (h : At w b x) (hk : x.Ok) (hm : x.m = x.s.size) (n : Int) (hs : x.s.size ≤ 9223372036854775807) :
    Calls Try.prog 56 #[.pointer (some ⟨b, 0, none⟩), .int .i64 n] w fun r w' => r = .returned (.string (x.sized n).2) ∧ Below b w w' ∧ At w' b (x.sized n).1 := by
  obtain ⟨hlt, c0, c1, c2, c3, c4, f0, f1, f2, f3, f4⟩ := id h
  cases hz : within n 65535
  · have hx := Lib.hid (show x.sized n = (x.failAt 2 x.u, ⟨#[]⟩) by unfold Sp.sized; rw [hz]; rfl)
    have HZ := Lib.hid hz
    clear hz hm
    go_enter Try.func56, Try.ntmps56
    go_wp2_with (first | (go_at_call 78; refine (within_is HZ.out _).mono ?_; rintro e w' ⟨rfl, rfl⟩) | (go_at_call 54; refine (fail_any h _).mono ?_; rintro e w' ⟨rfl, hb1, h1⟩))
    go_returns
    exact ⟨by rw [hx.out]; rfl, hb1, by rw [hx.out]; exact h1⟩
  · have hf := field2_lt hk
    have hk2 : (x.field 2).1.Ok := hk.take (n := 2) (by decide)
    have hm2 : (x.field 2).1.m = (x.field 2).1.s.size := by rw [field2, take_m, take_s]; exact hm
    have hs2 : (x.field 2).1.s.size ≤ 9223372036854775807 := by rw [field2, take_s]; exact hs
    have HZ := Lib.hid hz
    have HM := Lib.hid hm
    by_cases hl : n < (x.field 2).2
    · have hx := Lib.hid (show x.sized n = ((x.field 2).1.refuse 4 x.u, ⟨#[]⟩) by unfold Sp.sized; rw [if_pos hz, if_pos hl])
      clear hz hm hm2
      go_enter Try.func56, Try.ntmps56
      go_wp2_with (first | (go_at_call 78; refine (within_is HZ.out _).mono ?_; rintro e w' ⟨rfl, rfl⟩) | (go_at_call 79; refine (fieldN2_any h hk HM.out hs).mono ?_; rintro e w' ⟨rfl, hb1, h1⟩) | (go_at_call 57; refine (refuse_any h1 _ _).mono ?_; rintro e w' ⟨rfl, hb2, h2⟩))
      go_returns
      exact ⟨by rw [hx.out]; rfl, hb1.trans hb2, by rw [hx.out]; exact h2⟩
    · have hx := Lib.hid (show x.sized n = (x.field 2).1.take (x.field 2).2 by unfold Sp.sized; rw [if_pos hz, if_neg hl])
      have HM2 := Lib.hid hm2
      clear hz hm hm2
      go_enter Try.func56, Try.ntmps56
      go_wp2_with (first | (go_at_call 78; refine (within_is HZ.out _).mono ?_; rintro e w' ⟨rfl, rfl⟩) | (go_at_call 79; refine (fieldN2_any h hk HM.out hs).mono ?_; rintro e w' ⟨rfl, hb1, h1⟩) | (go_at_call 55; refine (take_any h1 hk2 HM2.out _ (by omega) (by omega) hs2).mono ?_; rintro e w' ⟨rfl, hb2, h2⟩))
      go_returns
      exact ⟨by rw [hx.out]; rfl, hb1.trans hb2, by rw [hx.out]; exact h2⟩
end Go.Proofs.Ytgcgoiaadigmfaa
