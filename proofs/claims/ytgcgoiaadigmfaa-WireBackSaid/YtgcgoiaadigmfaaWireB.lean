/- Walks: the methods that turn what readers and writers share. -/
import Derived.Test.YtgcgoiaadigmfaaWireA
namespace Go.Proofs.Ytgcgoiaadigmfaa
open Go.RowKit
open Wr

theorem failAt_only {w : World} {b : Nat} {x : Sp} (h : At w b x) (er at_ : Int) :
    Calls Try.prog 59 #[.pointer (some ⟨b, 0, none⟩), .int .i64 er, .int .i64 at_] w fun r w' => r = .returned (.tuple #[]) ∧ Only b w w' ∧ At w' b (x.failAt er at_) := by
  obtain ⟨hlt, c0, c1, c2, c3, c4, f0, f1, f2, f3, f4⟩ := id h
  by_cases he : x.e = 0
  · have hb : (x.e != 0) = false := by simp [he]
    have hx := Lib.hid (show x.failAt er at_ = { x with e := er, a := at_ } by unfold Sp.failAt; rw [if_pos he])
    clear he
    go_enter Try.func59, Try.ntmps59
    go_wp2_with (go_at_call 71; refine (failed_any h).mono ?_; rintro e w' ⟨rfl, rfl⟩; rw [hb])
    go_returns
    refine ⟨rfl, ((Only.refl _ _).setCell _ _).setCell _ _, ?_⟩
    rw [hx.out]
    exact (h.set2 er).set3 at_
  · have hb : (x.e != 0) = true := by simpa using he
    have hx := Lib.hid (show x.failAt er at_ = x by unfold Sp.failAt; rw [if_neg he])
    clear he
    go_enter Try.func59, Try.ntmps59
    go_wp2_with (go_at_call 71; refine (failed_any h).mono ?_; rintro e w' ⟨rfl, rfl⟩; rw [hb])
    go_returns
    exact ⟨rfl, Only.refl _ _, by rw [hx.out]; exact h⟩
theorem fail_only {w : World} {b : Nat} {x : Sp} (h : At w b x) (er : Int) :
    Calls Try.prog 54 #[.pointer (some ⟨b, 0, none⟩), .int .i64 er] w fun r w' => r = .returned (.tuple #[]) ∧ Only b w w' ∧ At w' b (x.failAt er x.u) := by
  obtain ⟨hlt, c0, c1, c2, c3, c4, f0, f1, f2, f3, f4⟩ := id h
  go_enter Try.func54, Try.ntmps54
  go_wp2_with (go_at_call 59; refine (failAt_only h _ _).mono ?_; rintro e w' ⟨rfl, h1, h2⟩)
  go_returns
  exact ⟨rfl, h1, h2⟩
theorem claim_only {w : World} {b : Nat} {x : Sp} (h : At w b x) (n er : Int) (h0 : 0 ≤ n) (hu : 0 ≤ x.u) (hm : x.u ≤ x.m) (h63 : x.m ≤ 9223372036854775807) (hn : n ≤ 9223372036854775807) (her : er ≠ 0) :
    Calls Try.prog 77 #[.pointer (some ⟨b, 0, none⟩), .int .i64 n, .int .i64 er] w fun r w' => r = .returned (.bool (x.claim n er).2) ∧ Only b w w' ∧ At w' b (x.claim n er).1 := by
  obtain ⟨hlt, c0, c1, c2, c3, c4, f0, f1, f2, f3, f4⟩ := id h
  have hxe : (x.claim n er) = if x.e ≠ 0 then (x, false) else if x.m - x.u < n then ({ x with e := er, a := x.u }, false) else ({ x with u := x.u + n }, true) := by
    unfold Sp.claim Sp.failAt
    by_cases he : x.e = 0
    · simp only [he, ne_eq, not_true_eq_false, if_true, if_false]
    · simp only [he, ne_eq, not_false_eq_true, if_true]
  by_cases he : x.e = 0
  · rw [if_neg (by omega)] at hxe
    by_cases hg : x.m - x.u < n
    · have hx := Lib.hid (hxe.trans (if_pos hg))
      have hfa := Lib.hid (show x.failAt er x.u = { x with e := er, a := x.u } by unfold Sp.failAt; rw [if_pos he])
      have her' : (er != 0) = true := by simpa using her
      clear hxe he her
      go_enter Try.func77, Try.ntmps77
      go_wp2
      go_quiet (fail)
      have h1 := h.drewN nq
      go_wp2_with (first | (go_at_call 54; refine (fail_only h1 _).mono ?_; rintro e w' ⟨rfl, hb2, h2⟩; rw [hfa.out] at h2) | (go_at_call 71; refine (failed_any h2).mono ?_; rintro e w' ⟨rfl, rfl⟩; rw [her']))
      go_returns
      exact ⟨by rw [hx.out]; rfl, ((Only.refl _ _).drewN _).trans hb2, by rw [hx.out]; exact h2⟩
    · have hx := Lib.hid (hxe.trans (if_neg hg))
      have he' : (x.e != 0) = false := by simp [he]
      clear hxe he her
      go_enter Try.func77, Try.ntmps77
      go_wp2
      go_quiet (fail)
      have h1 := h.drewN nq
      go_wp2_with (go_at_call 71; refine (failed_any h1).mono ?_; rintro e w' ⟨rfl, rfl⟩; rw [he'])
      go_returns
      exact ⟨by rw [hx.out]; rfl, ((Only.refl _ _).drewN _).setCell _ _, by rw [hx.out]; exact h1.set0 _⟩
  · rw [if_pos he] at hxe
    have hx := Lib.hid hxe
    have hfa := Lib.hid (show x.failAt er x.u = x by unfold Sp.failAt; rw [if_neg he])
    have he' : (x.e != 0) = true := by simpa using he
    clear hxe he her
    by_cases hg : x.m - x.u < n
    all_goals
      go_enter Try.func77, Try.ntmps77
      go_wp2
      go_quiet (fail)
      have h1 := h.drewN nq
    · go_wp2_with (first | (go_at_call 54; refine (fail_only h1 _).mono ?_; rintro e w' ⟨rfl, hb2, h2⟩; rw [hfa.out] at h2) | (go_at_call 71; refine (failed_any h2).mono ?_; rintro e w' ⟨rfl, rfl⟩; rw [he']))
      go_returns
      exact ⟨by rw [hx.out]; rfl, ((Only.refl _ _).drewN _).trans hb2, by rw [hx.out]; exact h2⟩
    · go_wp2_with (go_at_call 71; refine (failed_any h1).mono ?_; rintro e w' ⟨rfl, rfl⟩; rw [he'])
      go_returns
      exact ⟨by rw [hx.out]; rfl, (Only.refl _ _).drewN _, by rw [hx.out]; exact h1⟩
theorem failAt_any {w : World} {b : Nat} {x : Sp} (h : At w b x) (er at_ : Int) :
    Calls Try.prog 59 #[.pointer (some ⟨b, 0, none⟩), .int .i64 er, .int .i64 at_] w fun r w' => r = .returned (.tuple #[]) ∧ Below b w w' ∧ At w' b (x.failAt er at_) :=
  (failAt_only h er at_).mono fun _ _ ⟨h1, h2, h3⟩ => ⟨h1, h2.below, h3⟩
theorem fail_any {w : World} {b : Nat} {x : Sp} (h : At w b x) (er : Int) :
    Calls Try.prog 54 #[.pointer (some ⟨b, 0, none⟩), .int .i64 er] w fun r w' => r = .returned (.tuple #[]) ∧ Below b w w' ∧ At w' b (x.failAt er x.u) :=
  (fail_only h er).mono fun _ _ ⟨h1, h2, h3⟩ => ⟨h1, h2.below, h3⟩
theorem claim_any {w : World} {b : Nat} {x : Sp} (h : At w b x) (n er : Int) (h0 : 0 ≤ n) (hu : 0 ≤ x.u) (hm : x.u ≤ x.m) (h63 : x.m ≤ 9223372036854775807) (hn : n ≤ 9223372036854775807) (her : er ≠ 0) :
    Calls Try.prog 77 #[.pointer (some ⟨b, 0, none⟩), .int .i64 n, .int .i64 er] w fun r w' => r = .returned (.bool (x.claim n er).2) ∧ Below b w w' ∧ At w' b (x.claim n er).1 :=
  (claim_only h n er h0 hu hm h63 hn her).mono fun _ _ ⟨h1, h2, h3⟩ => ⟨h1, h2.below, h3⟩
theorem invalid_any (w : World) :
    Calls Try.prog 74 #[] w fun r w' => r = .returned (.agg #[.int .i64 0, .int .i64 0, .int .i64 10, .int .i64 0]) ∧ Below w.heap.size w w' := by
  go_enter Try.func74, Try.ntmps74
  go_wp2
  go_returns
  exact ⟨rfl, by go_grown⟩
theorem sound_any {w : World} {b : Nat} {x : Sp} (h : At w b x) :
    Calls Try.prog 73 #[.pointer (some ⟨b, 0, none⟩)] w fun r w' => r = .returned (.bool x.sound) ∧ ∃ n, w' = w.drewN n := by
  obtain ⟨hlt, c0, c1, c2, c3, c4, f0, f1, f2, f3, f4⟩ := id h
  by_cases h1 : within x.u x.m = true
  · by_cases he : x.e = 0
    · have hx := Lib.hid (show x.sound = (x.a == 0) by unfold Sp.sound; rw [h1, if_pos he]; simp; rfl)
      have he' : (x.e != 0) = false := by simp [he]
      clear he
      go_enter Try.func73, Try.ntmps73
      go_wp2
      go_quiet ((go_at_call 78; exact quiet_same (within_any _ _ _)))
      have hA := h.drewN nq
      go_wp2_with (go_at_call 71; refine (failed_any hA).mono ?_; rintro e w' ⟨rfl, rfl⟩; rw [he'])
      go_returns
      exact ⟨by rw [hx.out]; rfl, _, rfl⟩
    · have he' : (x.e != 0) = true := by simpa using he
      have hs : x.sound = (isErr x.e && within x.a x.m) := by unfold Sp.sound; rw [h1, if_neg he]; simp
      clear he
      cases hi : isErr x.e
      · have hx := Lib.hid (show x.sound = false by rw [hs, hi]; rfl)
        have H1 := Lib.hid h1
        have HI := Lib.hid hi
        clear hs h1 hi
        go_enter Try.func73, Try.ntmps73
        go_wp2
        go_quiet ((go_at_call 78; exact quiet_same (within_is H1.out _)))
        have hA := h.drewN nq
        go_wp2_with (go_at_call 71; refine (failed_any hA).mono ?_; rintro e w' ⟨rfl, rfl⟩; rw [he'])
        obtain ⟨W, hW⟩ : ∃ W, W = w.drewN nq := ⟨_, rfl⟩
        rw [← hW] at hA ⊢
        have HW := Lib.hid hW
        clear hW c0 c1 c2 c3 c4 f0 f1 f2 f3 f4 hlt
        obtain ⟨hlt, c0, c1, c2, c3, c4, f0, f1, f2, f3, f4⟩ := id hA
        go_quiet (first | (go_at_call 78; exact quiet_same (within_any _ _ _)) | (go_at_call 58; exact quiet_same (isError_is HI.out _)))
        go_wp2
        go_returns
        exact ⟨by rw [hx.out]; rfl, _, by rw [HW.out]; exact World.drewN_drewN _ _ _⟩
      · have hx := Lib.hid (show x.sound = within x.a x.m by rw [hs, hi]; rfl)
        have H1 := Lib.hid h1
        have HI := Lib.hid hi
        clear hs h1 hi
        go_enter Try.func73, Try.ntmps73
        go_wp2
        go_quiet ((go_at_call 78; exact quiet_same (within_is H1.out _)))
        have hA := h.drewN nq
        go_wp2_with (go_at_call 71; refine (failed_any hA).mono ?_; rintro e w' ⟨rfl, rfl⟩; rw [he'])
        obtain ⟨W, hW⟩ : ∃ W, W = w.drewN nq := ⟨_, rfl⟩
        rw [← hW] at hA ⊢
        have HW := Lib.hid hW
        clear hW c0 c1 c2 c3 c4 f0 f1 f2 f3 f4 hlt
        obtain ⟨hlt, c0, c1, c2, c3, c4, f0, f1, f2, f3, f4⟩ := id hA
        go_quiet (first | (go_at_call 78; exact quiet_same (within_any _ _ _)) | (go_at_call 58; exact quiet_same (isError_is HI.out _)))
        go_wp2
        go_returns
        exact ⟨by rw [hx.out]; rfl, _, by rw [HW.out]; exact World.drewN_drewN _ _ _⟩
  · have hx := Lib.hid (show x.sound = false by unfold Sp.sound; simp [h1])
    have h1' : within x.u x.m = false := by simpa using h1
    clear h1
    go_enter Try.func73, Try.ntmps73
    go_wp2
    go_quiet ((go_at_call 78; exact quiet_same (within_any _ _ _)))
    go_wp2
    go_returns
    exact ⟨by rw [hx.out]; rfl, _, rfl⟩
end Go.Proofs.Ytgcgoiaadigmfaa
