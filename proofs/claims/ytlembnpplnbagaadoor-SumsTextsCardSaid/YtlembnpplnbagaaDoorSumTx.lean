/- Walk: SumsTexts: texts of numbers, and the numbers that texts are, are the reference's. -/
import Derived.Test.YtlembnpplnbagaaDoorSumQ
namespace Go.Proofs.YtlembnpplnbagaaDoor
open Go.RowKit Go.Shelf
open Sm

set_option maxRecDepth 100000 in
set_option maxHeartbeats 4000000 in
theorem texts_any (n : Int) (s : ByteArray) (most : Nat) (hn : okI n = true) (hm : most < 18446744073709551616) (w : World) (ht : Laid5 w) :
    Calls Tryd.prog 6 #[.int .i64 n, .string s, .int .u64 (most : Int)] w fun e w' => e = .returned (.bool true) ∧ Below w.heap.size w w' := by
  by_cases hs : 100 < s.size
  · have c1 : (100 : Int) < (s.size : Int) := by omega
    clear hs hn hm
    go_enter Tryd.func6, Tryd.ntmps6
    go_wp2_with (go_at_call 21; with_reducible refine (awake5_any _ ht).mono ?_; rintro e w5 ⟨rfl, hb5⟩)
    go_ret
    exact ⟨rfl, hb5⟩
  · have c1 : ¬ (100 : Int) < (s.size : Int) := by omega
    have h1 := fun w ht => int_any s (by omega) w ht
    have h1' := fun w => refInt5_any s (by omega) w
    have h2 := fun w ht => nat_any s most hm (by omega) w ht
    have h2' := fun w => refNat5_any s most hm (by omega) w
    have h3 := fun w ht => text5_any n hn w ht
    have h3' := fun w => refText5_any n hn w
    generalize intN s.data.toList = n1 at h1 h1'
    generalize intE s.data.toList = e1 at h1 h1'
    generalize (natN s.data.toList most : Int) = n2 at h2 h2'
    generalize natE s.data.toList most = e2 at h2 h2'
    generalize strOf (Lib.itoa n) = T at h3 h3'
    clear hs hn hm
    go_enter Tryd.func6, Tryd.ntmps6
    go_wp2_with (first
      | (go_at_call 34; with_reducible refine (h1 _ ht).mono ?_; rintro e w1 ⟨rfl, B1⟩; have t1 := ht.below B1)
      | (go_at_call 35; with_reducible refine (h1' _).mono ?_; rintro e w2 ⟨rfl, hb2⟩; have B2 := bstep B1 hb2)
      | (go_at_call 36; with_reducible refine (h2 _ (ht.below B2)).mono ?_; rintro e w3 ⟨rfl, hb3⟩; have B3 := bstep B2 hb3)
      | (go_at_call 37; with_reducible refine (h2' _).mono ?_; rintro e w' ⟨rfl, rfl⟩)
      | (go_at_call 38; with_reducible refine (h3 _ (ht.below B3)).mono ?_; rintro e w4 ⟨rfl, hb4⟩; have B4 := bstep B3 hb4)
      | (go_at_call 39; with_reducible refine (h3' _).mono ?_; rintro e w5 ⟨rfl, hb5⟩; have B5 := bstep B4 hb5)
      | (go_at_call 21; with_reducible refine (awake5_any _ (ht.below B5)).mono ?_; rintro e w6 ⟨rfl, hb6⟩; have B6 := bstep B5 hb6))
    go_ret
    exact ⟨rfl, B6⟩
end Go.Proofs.YtlembnpplnbagaaDoor
