/- Walk: SumsCounts: counts, quotients that are rounded up, and products with a limit are the reference's. -/
import Derived.Test.YtlembnpplnbagaaDoorSumQ
namespace Go.Proofs.YtlembnpplnbagaaDoor
open Go.RowKit Go.Shelf
open Sm

set_option maxRecDepth 100000 in
set_option maxHeartbeats 4000000 in
theorem counts_any (n m a b most : Int) (hn : 0 ≤ n) (hm : 0 ≤ m) (w : World) (ht : Laid5 w) :
    Calls Tryd.prog 5 #[.int .u64 n, .int .u64 m, .int .i64 a, .int .i64 b, .int .i64 most] w fun e w' => e = .returned (.bool true) ∧ Below w.heap.size w w' := by
  have h1 := fun w => sumNext_any n hn w
  have h1' := fun w => refNext_any n hn w
  have h2 := fun w => sumPlus_any n m hn hm w
  have h2' := fun w => refPlus_any n m hn hm w
  have h3 := fun w => ceil_any a b w
  have h3' := fun w => refCeil_any a b w
  have h4 := fun w => most_any a b most w
  have h4' := fun w => refMost_any a b most w
  generalize plusN n 1 = n1 at h1 h1'
  generalize plusE n 1 = e1 at h1 h1'
  generalize plusN n m = n2 at h2 h2'
  generalize plusE n m = e2 at h2 h2'
  generalize ceilN a b = n3 at h3 h3'
  generalize ceilE a b = e3 at h3 h3'
  generalize mostN a b most = n4 at h4 h4'
  generalize mostE a b most = e4 at h4 h4'
  clear hn hm
  go_enter Tryd.func5, Tryd.ntmps5
  go_wp2_with (first
    | (go_at_call 26; with_reducible refine (h1 _).mono ?_; rintro e w' ⟨rfl, rfl⟩)
    | (go_at_call 27; with_reducible refine (h1' _).mono ?_; rintro e w' ⟨rfl, rfl⟩)
    | (go_at_call 28; with_reducible refine (h2 _).mono ?_; rintro e w' ⟨rfl, rfl⟩)
    | (go_at_call 29; with_reducible refine (h2' _).mono ?_; rintro e w' ⟨rfl, rfl⟩)
    | (go_at_call 30; with_reducible refine (h3 _).mono ?_; rintro e w' ⟨rfl, rfl⟩)
    | (go_at_call 31; with_reducible refine (h3' _).mono ?_; rintro e w' ⟨rfl, rfl⟩)
    | (go_at_call 32; with_reducible refine (h4 _).mono ?_; rintro e w' ⟨rfl, rfl⟩)
    | (go_at_call 33; with_reducible refine (h4' _).mono ?_; rintro e w' ⟨rfl, rfl⟩)
    | (go_at_call 21; with_reducible refine (awake5_any _ ht).mono ?_; rintro e w5 ⟨rfl, hb5⟩))
  go_ret
  exact ⟨rfl, hb5⟩
end Go.Proofs.YtlembnpplnbagaaDoor
