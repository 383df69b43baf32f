/- Walks: the laws' small helpers: each says true where the result is this one. -/
import Derived.Test.YtlembnpplnbagaaDoorSumB
import Derived.Test.YtlembnpplnbagaaDoorSumF
import Derived.Test.YtlembnpplnbagaaDoorSumH
import Derived.Test.YtlembnpplnbagaaDoorSumM
import Derived.Test.YtlembnpplnbagaaDoorSumO
namespace Go.Proofs.YtlembnpplnbagaaDoor
open Go.RowKit Go.Shelf
open Sm

theorem addsY (a b n : Int) (ha : okI a = true) (hb : okI b = true) (hn : a + b = n) (ho : okI n = true) (w : World) :
    Calls Tryd.prog 52 #[.int .i64 a, .int .i64 b, .int .i64 n, .int .i64 0] w fun e w' => e = .returned (.bool true) ∧ w = w' := by
  have hc := fun w => add_any a b ha hb w
  rw [hn, two_ok ho] at hc
  clear hn ho ha hb
  go_enter Tryd.func52, Tryd.ntmps52
  go_wp2_with (go_at_call 11; refine (hc _).mono ?_; rintro e w' ⟨rfl, rfl⟩)
  go_ret
  exact ⟨rfl, rfl⟩
theorem addsN (a b n : Int) (ha : okI a = true) (hb : okI b = true) (hn : a + b = n) (ho : okI n = false) (w : World) :
    Calls Tryd.prog 52 #[.int .i64 a, .int .i64 b, .int .i64 0, .int .i64 16] w fun e w' => e = .returned (.bool true) ∧ w = w' := by
  have hc := fun w => add_any a b ha hb w
  rw [hn, two_no ho] at hc
  clear hn ho ha hb
  go_enter Tryd.func52, Tryd.ntmps52
  go_wp2_with (go_at_call 11; refine (hc _).mono ?_; rintro e w' ⟨rfl, rfl⟩)
  go_ret
  exact ⟨rfl, rfl⟩
theorem subsY (a b n : Int) (ha : okI a = true) (hb : okI b = true) (hn : a - b = n) (ho : okI n = true) (w : World) :
    Calls Tryd.prog 40 #[.int .i64 a, .int .i64 b, .int .i64 n, .int .i64 0] w fun e w' => e = .returned (.bool true) ∧ w = w' := by
  have hc := fun w => sub_any a b ha hb w
  rw [hn, two_ok ho] at hc
  clear hn ho ha hb
  go_enter Tryd.func40, Tryd.ntmps40
  go_wp2_with (go_at_call 13; refine (hc _).mono ?_; rintro e w' ⟨rfl, rfl⟩)
  go_ret
  exact ⟨rfl, rfl⟩
theorem subsN (a b n : Int) (ha : okI a = true) (hb : okI b = true) (hn : a - b = n) (ho : okI n = false) (w : World) :
    Calls Tryd.prog 40 #[.int .i64 a, .int .i64 b, .int .i64 0, .int .i64 16] w fun e w' => e = .returned (.bool true) ∧ w = w' := by
  have hc := fun w => sub_any a b ha hb w
  rw [hn, two_no ho] at hc
  clear hn ho ha hb
  go_enter Tryd.func40, Tryd.ntmps40
  go_wp2_with (go_at_call 13; refine (hc _).mono ?_; rintro e w' ⟨rfl, rfl⟩)
  go_ret
  exact ⟨rfl, rfl⟩
theorem mulsY (a b n : Int) (ha : okI a = true) (hb : okI b = true) (hn : a * b = n) (ho : okI n = true) (w : World) :
    Calls Tryd.prog 41 #[.int .i64 a, .int .i64 b, .int .i64 n, .int .i64 0] w fun e w' => e = .returned (.bool true) ∧ w = w' := by
  have hc := fun w => mul_any a b ha hb w
  rw [hn, two_ok ho] at hc
  clear hn ho ha hb
  go_enter Tryd.func41, Tryd.ntmps41
  go_wp2_with (go_at_call 15; refine (hc _).mono ?_; rintro e w' ⟨rfl, rfl⟩)
  go_ret
  exact ⟨rfl, rfl⟩
theorem mulsN (a b n : Int) (ha : okI a = true) (hb : okI b = true) (hn : a * b = n) (ho : okI n = false) (w : World) :
    Calls Tryd.prog 41 #[.int .i64 a, .int .i64 b, .int .i64 0, .int .i64 16] w fun e w' => e = .returned (.bool true) ∧ w = w' := by
  have hc := fun w => mul_any a b ha hb w
  rw [hn, two_no ho] at hc
  clear hn ho ha hb
  go_enter Tryd.func41, Tryd.ntmps41
  go_wp2_with (go_at_call 15; refine (hc _).mono ?_; rintro e w' ⟨rfl, rfl⟩)
  go_ret
  exact ⟨rfl, rfl⟩
theorem intsY (s : ByteArray) (x c : Int) (hs : s.size ≤ 100000) (h1 : intN s.data.toList = x) (h2 : intE s.data.toList = c) (w : World) (ht : Laid5 w) :
    Calls Tryd.prog 42 #[.string s, .int .i64 x, .int .i64 c] w fun e w' => e = .returned (.bool true) ∧ Below w.heap.size w w' := by
  have hc := int_any s hs w ht
  rw [h1, h2] at hc
  clear h1 h2 ht
  go_enter Tryd.func42, Tryd.ntmps42
  go_wp2_with (go_at_call 34; refine hc.mono ?_; rintro e w' ⟨rfl, hb1⟩)
  go_ret
  exact ⟨rfl, hb1⟩
theorem natsY (s : ByteArray) (most : Nat) (x c : Int) (hm : most < 18446744073709551616) (hs : s.size ≤ 100000) (h1 : (natN s.data.toList most : Int) = x) (h2 : natE s.data.toList most = c) (w : World) (ht : Laid5 w) :
    Calls Tryd.prog 43 #[.string s, .int .u64 (most : Int), .int .u64 x, .int .i64 c] w fun e w' => e = .returned (.bool true) ∧ Below w.heap.size w w' := by
  have hc := nat_any s most hm hs w ht
  rw [h1, h2] at hc
  obtain ⟨m, hme⟩ : ∃ m : Int, m = (most : Int) := ⟨_, rfl⟩
  rw [← hme] at hc ⊢
  clear h1 h2 ht hm hme
  go_enter Tryd.func43, Tryd.ntmps43
  go_wp2_with (go_at_call 36; refine hc.mono ?_; rintro e w' ⟨rfl, hb1⟩)
  go_ret
  exact ⟨rfl, hb1⟩
theorem cutsY (n bits x : Int) (b : Bool) (h1 : cutN n bits = x) (h2 : cutS n bits = b) (h3 : cutE bits = 0) (w : World) :
    Calls Tryd.prog 44 #[.int .i64 n, .int .i64 bits, .int .i64 x, .bool b] w fun e w' => e = .returned (.bool true) ∧ w = w' := by
  have hc := fun w => cut_any n bits w
  rw [h1, h2, h3] at hc
  clear h1 h2 h3
  cases b
  all_goals
    go_enter Tryd.func44, Tryd.ntmps44
    go_wp2_with (go_at_call 19; refine (hc _).mono ?_; rintro e w' ⟨rfl, rfl⟩)
    go_ret
    exact ⟨rfl, rfl⟩
end Go.Proofs.YtlembnpplnbagaaDoor
