/- Walks: the methods of what readers and writers share. -/
import Derived.Test.YtgcgoiaadigmfaaProg
import Derived.Test.YtgcgoiaadigmfaaWireSpec
import Derived.Outline
import Derived.Handy
import Derived.Deep.QuietTactic
import Derived.BigQuiet
import Derived.WalkSmall
import Derived.Test.YtgcgoiaadigmfaaBlk
namespace Go.Proofs.Ytgcgoiaadigmfaa
open Go.RowKit
open Wr

theorem within_any (n m : Int) (w : World) :
    Calls Try.prog 78 #[.int .i64 n, .int .i64 m] w fun e w' => e = .returned (.bool (within n m)) ∧ w = w' := by
  by_cases h : 0 ≤ n
  all_goals
    go_enter Try.func78, Try.ntmps78
    go_wp2
    go_ret
    exact ⟨ret_bool (by simp [within]; try omega), rfl⟩
theorem isError_any (e : Int) (w : World) :
    Calls Try.prog 58 #[.int .i64 e] w fun r w' => r = .returned (.bool (isErr e)) ∧ w = w' := by
  by_cases h : 0 < e
  all_goals
    go_enter Try.func58, Try.ntmps58
    go_wp2
    go_ret
    exact ⟨ret_bool (by simp [isErr]; try omega), rfl⟩
theorem within_is {n m : Int} {b : Bool} (h : within n m = b) (w : World) :
    Calls Try.prog 78 #[.int .i64 n, .int .i64 m] w fun e w' => e = .returned (.bool b) ∧ w = w' := h ▸ within_any n m w
theorem isError_is {n : Int} {b : Bool} (h : isErr n = b) (w : World) :
    Calls Try.prog 58 #[.int .i64 n] w fun e w' => e = .returned (.bool b) ∧ w = w' := h ▸ isError_any n w
theorem failed_any {w : World} {b : Nat} {x : Sp} (h : At w b x) :
    Calls Try.prog 71 #[.pointer (some ⟨b, 0, none⟩)] w fun r w' => r = .returned (.bool (x.e != 0)) ∧ w = w' := by
  obtain ⟨hlt, c0, c1, c2, c3, c4, f0, f1, f2, f3, f4⟩ := h
  go_enter Try.func71, Try.ntmps71
  go_wp2
  go_ret
  exact ⟨rfl, rfl⟩
end Go.Proofs.Ytgcgoiaadigmfaa
