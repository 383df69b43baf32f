/- Walks: what package event asks of kinds, numbers and Ids, and the document's own functions for it. -/
import Derived.Test.YtcmdndgaggbhoaaGreatDoorProg
import Derived.Test.YtcmdndgaggbhoaaGreatDoorEventSpec
import Derived.Outline
import Derived.Handy
import Derived.Deep.QuietTactic
import Derived.BigQuiet
import Derived.WalkSmall
namespace Go.Proofs.YtcmdndgaggbhoaaGreatDoor.Ev
open Go.RowKit

theorem isKind_any (k : Int) (w : World) :
    Calls Tryz.prog 36 #[.int .i64 k] w fun e w' => e = .returned (.bool (isKindB k)) ∧ w = w' := by
  by_cases h : 0 ≤ k
  all_goals
    go_enter Tryz.func36, Tryz.ntmps36
    go_wp2
    go_ret
    exact ⟨ret_bool (by simp [isKindB]; try omega), rfl⟩
theorem isCount_any (n : Int) (h0 : 0 ≤ n) (w : World) :
    Calls Tryz.prog 48 #[.int .u64 n] w fun e w' => e = .returned (.bool (isCountB n)) ∧ w = w' := by
  by_cases h : 0 < n
  all_goals
    go_enter Tryz.func48, Tryz.ntmps48
    go_wp2
    go_ret
    exact ⟨ret_bool (by simp [isCountB]; try omega), rfl⟩
theorem isKind_is {k : Int} {b : Bool} (h : isKindB k = b) (w : World) :
    Calls Tryz.prog 36 #[.int .i64 k] w fun e w' => e = .returned (.bool b) ∧ w = w' := h ▸ isKind_any k w
theorem isCount_is {n : Int} {b : Bool} (h0 : 0 ≤ n) (h : isCountB n = b) (w : World) :
    Calls Tryz.prog 48 #[.int .u64 n] w fun e w' => e = .returned (.bool b) ∧ w = w' := h ▸ isCount_any n h0 w
theorem check_any (l k v : Int) (w : World) :
    Calls Tryz.prog 37 #[ev l k v] w fun e w' => e = .returned (.int .i64 (checkI k)) ∧ Below w.heap.size w w' := by
  unfold ev
  obtain ⟨b, hb⟩ : ∃ b, isKindB k = b := ⟨_, rfl⟩
  have hc := @isKind_is k b hb
  unfold checkI
  rw [hb]
  clear hb
  cases b
  all_goals
    go_enter Tryz.func37, Tryz.ntmps37
    go_wp2_with (go_at_call 36; refine (hc _).mono ?_; rintro e w' ⟨rfl, rfl⟩)
    go_ret
    exact ⟨rfl, by go_grown⟩
theorem checkId_any (l n : Int) (h0 : 0 ≤ n) (w : World) :
    Calls Tryz.prog 22 #[idv l n] w fun e w' => e = .returned (.int .i64 (checkIdI n)) ∧ Below w.heap.size w w' := by
  unfold idv
  obtain ⟨b, hb⟩ : ∃ b, isCountB n = b := ⟨_, rfl⟩
  have hc := @isCount_is n b h0 hb
  unfold checkIdI
  rw [hb]
  clear hb
  cases b
  all_goals
    go_enter Tryz.func22, Tryz.ntmps22
    go_wp2_with (go_at_call 48; refine (hc _).mono ?_; rintro e w' ⟨rfl, rfl⟩)
    go_ret
    exact ⟨rfl, by go_grown⟩
theorem refCheckId_any (l n : Int) (hn : 0 ≤ n) (w : World) :
    Calls Tryz.prog 23 #[idv l n] w fun e w' => e = .returned (.int .i64 (checkIdI n)) ∧ Below w.heap.size w w' := by
  unfold idv
  by_cases h0 : n < 1
  · rw [show checkIdI n = 2 by simp [checkIdI, isCountB]; omega]
    go_enter Tryz.func23, Tryz.ntmps23
    go_wp2
    go_ret
    exact ⟨rfl, by go_grown⟩
  · by_cases h1 : 1099511627776 < n
    · rw [show checkIdI n = 2 by simp [checkIdI, isCountB]; omega]
      go_enter Tryz.func23, Tryz.ntmps23
      go_wp2
      go_ret
      exact ⟨rfl, by go_grown⟩
    · rw [show checkIdI n = 0 by simp [checkIdI, isCountB]; omega]
      go_enter Tryz.func23, Tryz.ntmps23
      go_wp2
      go_ret
      exact ⟨rfl, by go_grown⟩
end Go.Proofs.YtcmdndgaggbhoaaGreatDoor.Ev
