/- Walks: what readers read. -/
import Derived.Test.YtgcgoiaadigmfaaWireE
import Derived.Test.YtgcgoiaadigmfaaWireC
namespace Go.Proofs.Ytgcgoiaadigmfaa
open Go.RowKit
open Wr

theorem claim_yes {x : Sp} {n e : Int} (h : (x.claim n e).2 = true) : (x.claim n e).1 = { x with u := x.u + n } ∧ n ≤ x.m - x.u := by
  unfold Sp.claim at h ⊢
  split at h
  · cases h
  · split at h
    · cases h
    · rename_i h1 h2
      rw [if_neg h1, if_neg h2]
      exact ⟨rfl, by omega⟩
theorem take_any {w : World} {b : Nat} {x : Sp} (h : At w b x) (hk : x.Ok) (hm : x.m = x.s.size) (n : Int) (h0 : 0 ≤ n) (hn : n ≤ 9223372036854775807) (hs : x.s.size ≤ 9223372036854775807) :
    Calls Try.prog 55 #[.pointer (some ⟨b, 0, none⟩), .int .i64 n] w fun r w' => r = .returned (.string (x.take n).2) ∧ Below b w w' ∧ At w' b (x.take n).1 := by
  have hu := hk.u0
  have hum := hk.um
  obtain ⟨hlt, c0, c1, c2, c3, c4, f0, f1, f2, f3, f4⟩ := id h
  cases hc : (x.claim n 5).2
  · have hx := Lib.hid (show x.take n = ((x.claim n 5).1, ⟨#[]⟩) by unfold Sp.take; rw [hc]; rfl)
    have HC := Lib.hid hc
    have HM := Lib.hid hm
    have hm' : x.m ≤ 9223372036854775807 := by omega
    clear hc hm
    go_enter Try.func55, Try.ntmps55
    go_wp2_with (go_at_call 77; refine (claim_any h _ _ h0 hu hum hm' hn (by decide)).mono ?_; rintro e w' ⟨rfl, hb1, h1⟩; rw [HC.out])
    go_returns
    exact ⟨by rw [hx.out]; rfl, hb1, by rw [hx.out]; exact h1⟩
  · obtain ⟨hy, hle⟩ := claim_yes hc
    obtain ⟨u, m, er, a, s⟩ := x
    simp only at *
    obtain ⟨U, rfl⟩ := Int.eq_ofNat_of_zero_le hu
    obtain ⟨N, rfl⟩ := Int.eq_ofNat_of_zero_le h0
    subst hm
    have hx := Lib.hid (show Sp.take ⟨U, s.size, er, a, s⟩ N = (⟨(U + N : Nat), s.size, er, a, s⟩, s.extract U (U + N)) by unfold Sp.take; rw [hc, hy]; rfl)
    have HC := Lib.hid hc
    have HY := Lib.hid hy
    have hs' : (s.size : Int) ≤ 9223372036854775807 := by omega
    clear hc hy
    go_enter Try.func55, Try.ntmps55
    go_wp2_with (go_at_call 77; refine (claim_any h _ _ h0 hu hum hs' hn (by decide)).mono ?_; rintro e w' ⟨rfl, hb1, h1⟩; rw [HC.out]; rw [HY.out] at h1)
    obtain ⟨hlt, d0, d1, d2, d3, d4, g0, g1, g2, g3, g4⟩ := id h1
    simp only at d0 d1 d2 d3 d4
    go_quiet (fail)
    go_wp2
    go_returns
    exact ⟨by rw [hx.out]; rfl, below_drewN hb1 _, by rw [hx.out]; exact h1.drewN _⟩
theorem refuse_any {w : World} {b : Nat} {x : Sp} (h : At w b x) (er from_ : Int) :
    Calls Try.prog 57 #[.pointer (some ⟨b, 0, none⟩), .int .i64 er, .int .i64 from_] w fun r w' => r = .returned (.tuple #[]) ∧ Below b w w' ∧ At w' b (x.refuse er from_) := by
  obtain ⟨hlt, c0, c1, c2, c3, c4, f0, f1, f2, f3, f4⟩ := id h
  have h1 := h.set0 from_
  go_enter Try.func57, Try.ntmps57
  go_wp2_with (go_at_call 54; refine (fail_any h1 _).mono ?_; rintro e w' ⟨rfl, hb1, h2⟩)
  go_returns
  exact ⟨rfl, ((Below.refl _ _).setCell (p := ⟨b, 0, none⟩) (Nat.le_refl _) _).trans hb1, h2⟩
theorem fieldU_any {w : World} {b : Nat} {x : Sp} (h : At w b x) (hk : x.Ok) (hm : x.m = x.s.size) (n : Int) (hs : x.s.size ≤ 9223372036854775807) :
    Calls Try.prog 46 #[.pointer (some ⟨b, 0, none⟩), .int .i64 n] w fun r w' => r = .returned (.int .u64 (x.field n).2) ∧ Below b w w' ∧ At w' b (x.field n).1 := by
  obtain ⟨hlt, c0, c1, c2, c3, c4, f0, f1, f2, f3, f4⟩ := id h
  cases hz : isSz n
  · have hx := Lib.hid (show x.field n = (x.failAt 2 x.u, 0) by unfold Sp.field; rw [hz]; rfl)
    have HZ := Lib.hid hz
    clear hz hm
    go_enter Try.func46, Try.ntmps46
    go_wp2_with (first | (go_at_call 63; refine (isSize_is HZ.out _).mono ?_; rintro e w' ⟨rfl, rfl⟩) | (go_at_call 54; refine (fail_any h _).mono ?_; rintro e w' ⟨rfl, hb1, h1⟩))
    go_returns
    exact ⟨by rw [hx.out]; rfl, hb1, by rw [hx.out]; exact h1⟩
  · have hx := Lib.hid (show x.field n = ((x.take n).1, numOf (x.take n).2.data.toList) by unfold Sp.field; rw [hz]; rfl)
    have h0 : 0 ≤ n := by have := isSz_iff.1 hz; omega
    have h8 : n ≤ 8 := by have := isSz_iff.1 hz; omega
    have hsz : (x.take n).2.size ≤ 8 := by have := take_size hk h0; omega
    have HZ := Lib.hid hz
    have HM := Lib.hid hm
    clear hz hm
    go_enter Try.func46, Try.ntmps46
    go_wp2_with (first | (go_at_call 63; refine (isSize_is HZ.out _).mono ?_; rintro e w' ⟨rfl, rfl⟩) | (go_at_call 55; refine (take_any h hk HM.out _ h0 (by omega) hs).mono ?_; rintro e w' ⟨rfl, hb1, h1⟩) | (go_at_call 75; refine (numU_any _ _ hsz).mono ?_; rintro e w' ⟨rfl, rfl⟩))
    go_returns
    exact ⟨by rw [hx.out]; rfl, hb1, by rw [hx.out]; exact h1⟩
theorem fieldI_any {w : World} {b : Nat} {x : Sp} (h : At w b x) (hk : x.Ok) (hm : x.m = x.s.size) (n : Int) (hs : x.s.size ≤ 9223372036854775807) :
    Calls Try.prog 53 #[.pointer (some ⟨b, 0, none⟩), .int .i64 n] w fun r w' => r = .returned (.int .i64 (IntKind.i64.wrap (x.field n).2)) ∧ Below b w w' ∧ At w' b (x.field n).1 := by
  obtain ⟨hlt, c0, c1, c2, c3, c4, f0, f1, f2, f3, f4⟩ := id h
  cases hz : isSz n
  · have hx := Lib.hid (show x.field n = (x.failAt 2 x.u, 0) by unfold Sp.field; rw [hz]; rfl)
    have HZ := Lib.hid hz
    clear hz hm
    go_enter Try.func53, Try.ntmps53
    go_wp2_with (first | (go_at_call 63; refine (isSize_is HZ.out _).mono ?_; rintro e w' ⟨rfl, rfl⟩) | (go_at_call 54; refine (fail_any h _).mono ?_; rintro e w' ⟨rfl, hb1, h1⟩))
    go_returns
    exact ⟨by rw [hx.out]; rfl, hb1, by rw [hx.out]; exact h1⟩
  · have hx := Lib.hid (show x.field n = ((x.take n).1, numOf (x.take n).2.data.toList) by unfold Sp.field; rw [hz]; rfl)
    have h0 : 0 ≤ n := by have := isSz_iff.1 hz; omega
    have h8 : n ≤ 8 := by have := isSz_iff.1 hz; omega
    have hsz : (x.take n).2.size ≤ 8 := by have := take_size hk h0; omega
    have HZ := Lib.hid hz
    have HM := Lib.hid hm
    clear hz hm
    go_enter Try.func53, Try.ntmps53
    go_wp2_with (first | (go_at_call 63; refine (isSize_is HZ.out _).mono ?_; rintro e w' ⟨rfl, rfl⟩) | (go_at_call 55; refine (take_any h hk HM.out _ h0 (by omega) hs).mono ?_; rintro e w' ⟨rfl, hb1, h1⟩) | (go_at_call 76; refine (numI64_any _ _ hsz).mono ?_; rintro e w' ⟨rfl, rfl⟩))
    go_returns
    exact ⟨by rw [hx.out]; rfl, hb1, by rw [hx.out]; exact h1⟩
theorem fieldN_any {w : World} {b : Nat} {x : Sp} (h : At w b x) (hk : x.Ok) (hm : x.m = x.s.size) (n : Int) (hs : x.s.size ≤ 9223372036854775807) :
    Calls Try.prog 79 #[.pointer (some ⟨b, 0, none⟩), .int .i64 n] w fun r w' => r = .returned (.int .i64 (IntKind.i64.wrap (x.field n).2)) ∧ Below b w w' ∧ At w' b (x.field n).1 := by
  obtain ⟨hlt, c0, c1, c2, c3, c4, f0, f1, f2, f3, f4⟩ := id h
  cases hz : isSz n
  · have hx := Lib.hid (show x.field n = (x.failAt 2 x.u, 0) by unfold Sp.field; rw [hz]; rfl)
    have HZ := Lib.hid hz
    clear hz hm
    go_enter Try.func79, Try.ntmps79
    go_wp2_with (first | (go_at_call 63; refine (isSize_is HZ.out _).mono ?_; rintro e w' ⟨rfl, rfl⟩) | (go_at_call 54; refine (fail_any h _).mono ?_; rintro e w' ⟨rfl, hb1, h1⟩))
    go_returns
    exact ⟨by rw [hx.out]; rfl, hb1, by rw [hx.out]; exact h1⟩
  · have hx := Lib.hid (show x.field n = ((x.take n).1, numOf (x.take n).2.data.toList) by unfold Sp.field; rw [hz]; rfl)
    have h0 : 0 ≤ n := by have := isSz_iff.1 hz; omega
    have h8 : n ≤ 8 := by have := isSz_iff.1 hz; omega
    have hsz : (x.take n).2.size ≤ 8 := by have := take_size hk h0; omega
    have HZ := Lib.hid hz
    have HM := Lib.hid hm
    clear hz hm
    go_enter Try.func79, Try.ntmps79
    go_wp2_with (first | (go_at_call 63; refine (isSize_is HZ.out _).mono ?_; rintro e w' ⟨rfl, rfl⟩) | (go_at_call 55; refine (take_any h hk HM.out _ h0 (by omega) hs).mono ?_; rintro e w' ⟨rfl, hb1, h1⟩) | (go_at_call 81; refine (numInt_any _ _ hsz).mono ?_; rintro e w' ⟨rfl, rfl⟩))
    go_returns
    exact ⟨by rw [hx.out]; rfl, hb1, by rw [hx.out]; exact h1⟩
end Go.Proofs.Ytgcgoiaadigmfaa
