/- Walk: SumsTwo: sums, differences, products, negatives and cuts are the reference's. -/
import Derived.Test.YtlembnpplnbagaaDoorSumQ
namespace Go.Proofs.YtlembnpplnbagaaDoor
open Go.RowKit Go.Shelf
open Sm

set_option maxRecDepth 100000 in
set_option maxHeartbeats 4000000 in
theorem two_any (a b bits : Int) (ha : okI a = true) (hb : okI b = true) (w : World) (ht : Laid5 w) :
    Calls Tryd.prog 3 #[.int .i64 a, .int .i64 b, .int .i64 bits] w fun e w' => e = .returned (.bool true) ∧ Below w.heap.size w w' := by
  have h1 := fun w => add_any a b ha hb w
  have h1' := fun w => refAdd_any a b ha hb w
  have h2 := fun w => sub_any a b ha hb w
  have h2' := fun w => refSub_any a b ha hb w
  have h3 := fun w => mul_any a b ha hb w
  have h3' := fun w => refMul_any a b ha hb w
  have h4 := fun w => neg_any a ha w
  have h4' := fun w => refNeg_any a ha w
  have h5 := fun w => cut_any a bits w
  have h5' := fun w => refCut_any a bits w
  unfold two at h1 h1' h2 h2' h3 h3' h4 h4'
  generalize numI (a + b) = n1 at h1 h1'
  generalize errI (a + b) = e1 at h1 h1'
  generalize numI (a - b) = n2 at h2 h2'
  generalize errI (a - b) = e2 at h2 h2'
  generalize numI (a * b) = n3 at h3 h3'
  generalize errI (a * b) = e3 at h3 h3'
  generalize numI (-a) = n4 at h4 h4'
  generalize errI (-a) = e4 at h4 h4'
  generalize cutN a bits = n5 at h5 h5'
  generalize cutS a bits = b5 at h5 h5'
  generalize cutE bits = e5 at h5 h5'
  clear ha hb
  go_enter Tryd.func3, Tryd.ntmps3
  go_wp2_with (first
    | (go_at_call 11; with_reducible refine (h1 _).mono ?_; rintro e w' ⟨rfl, rfl⟩)
    | (go_at_call 12; with_reducible refine (h1' _).mono ?_; rintro e w1 ⟨rfl, B1⟩)
    | (go_at_call 13; with_reducible refine (h2 _).mono ?_; rintro e w' ⟨rfl, rfl⟩)
    | (go_at_call 14; with_reducible refine (h2' _).mono ?_; rintro e w2 ⟨rfl, hb2⟩; have B2 := bstep B1 hb2)
    | (go_at_call 15; with_reducible refine (h3 _).mono ?_; rintro e w' ⟨rfl, rfl⟩)
    | (go_at_call 16; with_reducible refine (h3' _).mono ?_; rintro e w3 ⟨rfl, hb3⟩; have B3 := bstep B2 hb3)
    | (go_at_call 17; with_reducible refine (h4 _).mono ?_; rintro e w' ⟨rfl, rfl⟩)
    | (go_at_call 18; with_reducible refine (h4' _).mono ?_; rintro e w4 ⟨rfl, hb4⟩; have B4 := bstep B3 hb4)
    | (go_at_call 19; with_reducible refine (h5 _).mono ?_; rintro e w' ⟨rfl, rfl⟩)
    | (go_at_call 20; with_reducible refine (h5' _).mono ?_; rintro e w' ⟨rfl, rfl⟩)
    | (go_at_call 21; with_reducible refine (awake5_any _ (ht.below B4)).mono ?_; rintro e w5 ⟨rfl, hb5⟩; have B5 := bstep B4 hb5))
  go_ret
  exact ⟨rfl, B5⟩
end Go.Proofs.YtlembnpplnbagaaDoor
