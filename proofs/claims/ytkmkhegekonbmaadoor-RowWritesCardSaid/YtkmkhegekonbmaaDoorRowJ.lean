/- The reference's words as they are written, in closed form. -/
import Derived.Test.YtkmkhegekonbmaaDoorRowI
namespace Go.Proofs.YtkmkhegekonbmaaDoor
open Go.RowKit
open Rw6

set_option maxRecDepth 100000 in
set_option maxHeartbeats 2000000 in
theorem refWord_any (q : Bool) (s : ByteArray) (a : Int) (hs : s.size ≤ 100000) (w : World) :
    Calls Tryd.prog 16 #[wordV q s a] w
      fun e w' => e = .returned (.tuple #[.string (strOf (wordG q s.data.toList).1), .int .i64 (wordG q s.data.toList).2]) ∧ Below w.heap.size w w' := by
  cases q with
  | true => exact refWord_quoted s a hs w
  | false =>
    have hB := fun w => refBare_any s hs w
    have hl : strOf s.data.toList = s := (str_is rfl).symm
    unfold wordG wordV
    rw [if_neg (by decide)]
    obtain ⟨b, hb⟩ : ∃ b, b = bareB s.data.toList := ⟨_, rfl⟩
    rw [← hb] at hB ⊢
    clear hb
    cases b with
    | true =>
      rw [if_pos rfl]
      simp only [hl]
      clear hl
      go_enter Tryd.func16, Tryd.ntmps16
      go_wp2_with (go_at_call 38; refine (hB _).mono ?_; rintro e w' ⟨rfl, rfl⟩)
      go_ret2
      exact ⟨rfl, (Below.refl _ _).alloc (Nat.le_refl _) _⟩
    | false =>
      rw [if_neg (by decide)]
      clear hl
      go_enter Tryd.func16, Tryd.ntmps16
      go_wp2_with (go_at_call 38; refine (hB _).mono ?_; rintro e w' ⟨rfl, rfl⟩)
      go_ret2
      exact ⟨rfl, (Below.refl _ _).alloc (Nat.le_refl _) _⟩
end Go.Proofs.YtkmkhegekonbmaaDoor
