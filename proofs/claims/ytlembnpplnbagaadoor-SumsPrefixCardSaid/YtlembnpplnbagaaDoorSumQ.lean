/- Walks: the examples that each statement asks at its end, and all of the chapter's examples. -/
import Derived.Test.YtlembnpplnbagaaDoorSumP
namespace Go.Proofs.YtlembnpplnbagaaDoor
open Go.RowKit Go.Shelf
open Sm

theorem lit5 (w : World) (l : List Int) (n : Nat) (hn : l.length = n) (hm : n ≤ 1000) : Slc (w.alloc (.cells (vals .i64 l).toArray 2)) (.slice (some ⟨w.heap.size, 0, none⟩) n n) (vals .i64 l) :=
  Slc.lit w (vals .i64 l) 2 n (by rw [vals_length]; exact hn) (by omega)
theorem all_ok {l : List Int} (h : l.all okI = true) : ∀ x ∈ l, okI x = true := fun x hx => List.all_eq_true.1 h x hx
theorem add_none (a : Addr) : a.add 0 = a := by unfold Addr.add; split <;> simp_all
theorem two_cells {w : World} {v : Value} {x y : Int} (h : Slc w v (vals .i64 [x, y])) : ∃ (a : Addr) (cap : Nat), v = .slice (some a) 2 cap ∧ w.cell? (a.add 0) = some (.int .i64 x) ∧ w.cell? a = some (.int .i64 x) ∧ w.cell? ⟨a.block, a.off + 1, none⟩ = some (.int .i64 y) := by
  obtain ⟨A, cap, rfl, hm, hc⟩ := h.ints
  obtain ⟨a, rfl, _, hc0⟩ := hc 0 (by simp)
  obtain ⟨a1, ha1, _, hc1⟩ := hc 1 (by simp)
  cases ha1
  exact ⟨a, cap, rfl, hc0, by rw [add_none] at hc0; exact hc0, by unfold Addr.add at hc1; rw [if_neg (by decide)] at hc1; exact hc1⟩
def minS : ByteArray := ⟨#[45, 57, 50, 50, 51, 51, 55, 50, 48, 51, 54, 56, 53, 52, 55, 55, 53, 56, 48, 56]⟩
theorem min_text : strOf (Lib.itoa (-9223372036854775808)) = minS := by decide +kernel
theorem awake5_any (w : World) (ht : Laid5 w) : Calls Tryd.prog 21 #[] w fun e w' => e = .returned (.bool true) ∧ Below w.heap.size w w' := by
  have hS : ∀ w : World, Calls Tryd.prog 22 #[.slice (some ⟨w.heap.size, 0, none⟩) 3 3] (w.alloc (.cells #[.int .i64 9223372036854775807, .int .i64 1, .int .i64 (-1)] 2)) fun e w' => e = .returned (.tuple #[.int .i64 0, .int .i64 16]) ∧ Below w.heap.size w w' := fun w => by
    have h := sum_any _ [9223372036854775807, 1, -1] _ (lit5 w [9223372036854775807, 1, -1] 3 rfl (by decide)) (all_ok (by decide)) (by decide)
    rw [show sumN [9223372036854775807, 1, -1] = 0 by decide, show runE [9223372036854775807, 1, -1] = 16 by decide] at h
    exact h.mono fun _ _ ⟨h1, h2⟩ => ⟨h1, bstep ((Below.refl _ w).alloc (Nat.le_refl _) _) h2⟩
  have hC : ∀ w : World, Calls Tryd.prog 30 #[.int .i64 7, .int .i64 2] w fun e w' => e = .returned (.tuple #[.int .i64 4, .int .i64 0]) ∧ w = w' := fun w => ceil_any 7 2 w
  have hA1 := fun w => addsN 9223372036854775807 1 9223372036854775808 (by decide) (by decide) (by decide) (by decide) w
  have hA2 := fun w => addsY 9223372036854775807 (-9223372036854775808) (-1) (by decide) (by decide) (by decide) (by decide) w
  have hM1 := fun w => mulsY 4294967296 (-2147483648) (-9223372036854775808) (by decide) (by decide) (by decide) (by decide) w
  have hI := fun w ht => intsY ⟨#[48, 55]⟩ 0 3 (by decide) (by decide) (by decide) w ht
  have hT := fun w ht => text5_any (-9223372036854775808) (by decide) w ht
  rw [min_text] at hT
  unfold minS at hT
  go_enter Tryd.func21, Tryd.ntmps21
  go_wp2_with (first
    | (go_at_call 22; with_reducible refine (hS _).mono ?_; rintro e w1 ⟨rfl, hb1⟩; have ht1 := ht.below hb1)
    | (go_at_call 30; with_reducible refine (hC _).mono ?_; rintro e w' ⟨rfl, rfl⟩)
    | (go_at_call 52; with_reducible refine (hA1 _).mono ?_; rintro e w' ⟨rfl, rfl⟩)
    | (go_at_call 52; with_reducible refine (hA2 _).mono ?_; rintro e w' ⟨rfl, rfl⟩)
    | (go_at_call 41; with_reducible refine (hM1 _).mono ?_; rintro e w' ⟨rfl, rfl⟩)
    | (go_at_call 42; with_reducible refine (hI _ ht1).mono ?_; rintro e w2 ⟨rfl, hb2⟩; have ht2 := ht1.below hb2)
    | (go_at_call 38; with_reducible refine (hT _ ht2).mono ?_; rintro e w3 ⟨rfl, hb3⟩))
  go_ret
  exact ⟨rfl, bstep (bstep hb1 hb2) hb3⟩
set_option maxRecDepth 100000 in
set_option maxHeartbeats 2000000 in
theorem known5_any (w : World) (ht : Laid5 w) : Calls Tryd.prog 7 #[] w fun e w' => e = .returned (.bool true) ∧ Below w.heap.size w w' := by
  have hS : ∀ w : World, Calls Tryd.prog 22 #[.slice none 0 0] w fun e w' => e = .returned (.tuple #[.int .i64 0, .int .i64 0]) ∧ Below w.heap.size w w' := fun w =>
    sum_any _ [] _ (Slc.nil w) (all_ok (by decide)) (by decide)
  have hR : ∀ w : World, Calls Tryd.prog 24 #[.slice (some ⟨w.heap.size, 0, none⟩) 3 3] (w.alloc (.cells #[.int .i64 1, .int .i64 2, .int .i64 9223372036854775807] 2)) fun e w' => ∃ v, e = .returned (.tuple #[v, .int .i64 16]) ∧ Slc w' v (vals .i64 [1, 3]) ∧ Below w.heap.size w w' := fun w => by
    have h := sumRunning_any _ [1, 2, 9223372036854775807] _ (lit5 w [1, 2, 9223372036854775807] 3 rfl (by decide)) (all_ok (by decide)) (by decide)
    rw [show runI [1, 2, 9223372036854775807] = [1, 3] by decide, show runE [1, 2, 9223372036854775807] = 16 by decide] at h
    exact h.mono fun _ _ ⟨v, h1, h2, h3⟩ => ⟨v, h1, h2, bstep ((Below.refl _ w).alloc (Nat.le_refl _) _) h3⟩
  have hP0 : ∀ w : World, Calls Tryd.prog 17 #[.int .i64 (-9223372036854775808)] w fun e w' => e = .returned (.tuple #[.int .i64 0, .int .i64 16]) ∧ w = w' := fun w => neg_any (-9223372036854775808) (by decide) w
  have hP1 : ∀ w : World, Calls Tryd.prog 26 #[.int .u64 1099511627776] w fun e w' => e = .returned (.tuple #[.int .u64 0, .int .i64 6]) ∧ w = w' := fun w => sumNext_any 1099511627776 (by decide) w
  have hP2 : ∀ w : World, Calls Tryd.prog 26 #[.int .u64 4] w fun e w' => e = .returned (.tuple #[.int .u64 5, .int .i64 0]) ∧ w = w' := fun w => sumNext_any 4 (by decide) w
  have hP3 : ∀ w : World, Calls Tryd.prog 28 #[.int .u64 1099511627776, .int .u64 0] w fun e w' => e = .returned (.tuple #[.int .u64 1099511627776, .int .i64 0]) ∧ w = w' := fun w => sumPlus_any 1099511627776 0 (by decide) (by decide) w
  have hP4 : ∀ w : World, Calls Tryd.prog 28 #[.int .u64 1099511627776, .int .u64 1] w fun e w' => e = .returned (.tuple #[.int .u64 0, .int .i64 6]) ∧ w = w' := fun w => sumPlus_any 1099511627776 1 (by decide) (by decide) w
  have hP5 : ∀ w : World, Calls Tryd.prog 30 #[.int .i64 0, .int .i64 9] w fun e w' => e = .returned (.tuple #[.int .i64 0, .int .i64 0]) ∧ w = w' := fun w => ceil_any 0 9 w
  have hP6 : ∀ w : World, Calls Tryd.prog 30 #[.int .i64 1, .int .i64 0] w fun e w' => e = .returned (.tuple #[.int .i64 0, .int .i64 2]) ∧ w = w' := fun w => ceil_any 1 0 w
  have hP7 : ∀ w : World, Calls Tryd.prog 32 #[.int .i64 8, .int .i64 8, .int .i64 50] w fun e w' => e = .returned (.tuple #[.int .i64 50, .int .i64 0]) ∧ w = w' := fun w => most_any 8 8 50 w
  have hP8 : ∀ w : World, Calls Tryd.prog 32 #[.int .i64 6, .int .i64 8, .int .i64 50] w fun e w' => e = .returned (.tuple #[.int .i64 48, .int .i64 0]) ∧ w = w' := fun w => most_any 6 8 50 w
  have hP9 : ∀ w : World, Calls Tryd.prog 19 #[.int .i64 5, .int .i64 65] w fun e w' => e = .returned (.tuple #[.int .i64 0, .bool false, .int .i64 2]) ∧ w = w' := fun w => cut_any 5 65 w
  have hQ0 := fun w => subsN 0 (-9223372036854775808) 9223372036854775808 (by decide) (by decide) (by decide) (by decide) w
  have hQ1 := fun w => subsY (-1) (-9223372036854775808) 9223372036854775807 (by decide) (by decide) (by decide) (by decide) w
  have hQ2 := fun w => mulsN (-9223372036854775808) (-1) 9223372036854775808 (by decide) (by decide) (by decide) (by decide) w
  have hI0 := fun w ht => intsY ⟨#[45, 57, 50, 50, 51, 51, 55, 50, 48, 51, 54, 56, 53, 52, 55, 55, 53, 56, 48, 56]⟩ (-9223372036854775808) 0 (by decide) (by decide) (by decide) w ht
  have hI1 := fun w ht => intsY ⟨#[57, 50, 50, 51, 51, 55, 50, 48, 51, 54, 56, 53, 52, 55, 55, 53, 56, 48, 56]⟩ 0 2 (by decide) (by decide) (by decide) w ht
  have hI2 := fun w ht => intsY ⟨#[45, 48]⟩ 0 3 (by decide) (by decide) (by decide) w ht
  have hI3 := fun w ht => intsY ⟨#[43, 49]⟩ 0 3 (by decide) (by decide) (by decide) w ht
  have hI4 := fun w ht => intsY ⟨#[]⟩ 0 3 (by decide) (by decide) (by decide) w ht
  have hN0 : ∀ w : World, Laid5 w → Calls Tryd.prog 43 #[.string ⟨#[54, 51]⟩, .int .u64 63, .int .u64 63, .int .i64 0] w fun e w' => e = .returned (.bool true) ∧ Below w.heap.size w w' := fun w ht => natsY ⟨#[54, 51]⟩ 63 63 0 (by decide) (by decide) (by decide) (by decide) w ht
  have hN1 : ∀ w : World, Laid5 w → Calls Tryd.prog 43 #[.string ⟨#[54, 52]⟩, .int .u64 63, .int .u64 0, .int .i64 2] w fun e w' => e = .returned (.bool true) ∧ Below w.heap.size w w' := fun w ht => natsY ⟨#[54, 52]⟩ 63 0 2 (by decide) (by decide) (by decide) (by decide) w ht
  have hN2 : ∀ w : World, Laid5 w → Calls Tryd.prog 43 #[.string ⟨#[49, 56, 52, 52, 54, 55, 52, 52, 48, 55, 51, 55, 48, 57, 53, 53, 49, 54, 49, 53]⟩, .int .u64 18446744073709551615, .int .u64 18446744073709551615, .int .i64 0] w fun e w' => e = .returned (.bool true) ∧ Below w.heap.size w w' := fun w ht => natsY ⟨#[49, 56, 52, 52, 54, 55, 52, 52, 48, 55, 51, 55, 48, 57, 53, 53, 49, 54, 49, 53]⟩ 18446744073709551615 18446744073709551615 0 (by decide) (by decide) (by decide) (by decide) w ht
  have hN3 : ∀ w : World, Laid5 w → Calls Tryd.prog 43 #[.string ⟨#[45, 49]⟩, .int .u64 9, .int .u64 0, .int .i64 3] w fun e w' => e = .returned (.bool true) ∧ Below w.heap.size w w' := fun w ht => natsY ⟨#[45, 49]⟩ 9 0 3 (by decide) (by decide) (by decide) (by decide) w ht
  have hK0 := fun w => cutsY 255 8 (-1) false (by decide) (by decide) (by decide) w
  have hK1 := fun w => cutsY (-1) 1 (-1) true (by decide) (by decide) (by decide) w
  have hK2 := fun w => cutsY 128 9 128 true (by decide) (by decide) (by decide) w
  go_enter Tryd.func7, Tryd.ntmps7
  go_wp2_with (first
    | (go_at_call 22; with_reducible refine (hS _).mono ?_; rintro e w1 ⟨rfl, hb1⟩; have ht1 := ht.below hb1)
    | (go_at_call 24; with_reducible refine (hR _).mono ?_; rintro e w2 ⟨v, rfl, hs, hb2⟩; have ht2 := ht1.below hb2; obtain ⟨a, cap, rfl, hc0, hc0b, hc1⟩ := two_cells hs; clear hs)
    | (go_at_call 17; with_reducible refine (hP0 _).mono ?_; rintro e w' ⟨rfl, rfl⟩)
    | (go_at_call 26; with_reducible refine (hP1 _).mono ?_; rintro e w' ⟨rfl, rfl⟩)
    | (go_at_call 26; with_reducible refine (hP2 _).mono ?_; rintro e w' ⟨rfl, rfl⟩)
    | (go_at_call 28; with_reducible refine (hP3 _).mono ?_; rintro e w' ⟨rfl, rfl⟩)
    | (go_at_call 28; with_reducible refine (hP4 _).mono ?_; rintro e w' ⟨rfl, rfl⟩)
    | (go_at_call 30; with_reducible refine (hP5 _).mono ?_; rintro e w' ⟨rfl, rfl⟩)
    | (go_at_call 30; with_reducible refine (hP6 _).mono ?_; rintro e w' ⟨rfl, rfl⟩)
    | (go_at_call 32; with_reducible refine (hP7 _).mono ?_; rintro e w' ⟨rfl, rfl⟩)
    | (go_at_call 32; with_reducible refine (hP8 _).mono ?_; rintro e w' ⟨rfl, rfl⟩)
    | (go_at_call 19; with_reducible refine (hP9 _).mono ?_; rintro e w' ⟨rfl, rfl⟩)
    | (go_at_call 40; with_reducible refine (hQ0 _).mono ?_; rintro e w' ⟨rfl, rfl⟩)
    | (go_at_call 40; with_reducible refine (hQ1 _).mono ?_; rintro e w' ⟨rfl, rfl⟩)
    | (go_at_call 41; with_reducible refine (hQ2 _).mono ?_; rintro e w' ⟨rfl, rfl⟩)
    | (go_at_call 42; with_reducible refine (hI0 _ ht2).mono ?_; rintro e w3 ⟨rfl, hb3⟩; have ht3 := ht2.below hb3)
    | (go_at_call 42; with_reducible refine (hI1 _ ht3).mono ?_; rintro e w4 ⟨rfl, hb4⟩; have ht4 := ht3.below hb4)
    | (go_at_call 42; with_reducible refine (hI2 _ ht4).mono ?_; rintro e w5 ⟨rfl, hb5⟩; have ht5 := ht4.below hb5)
    | (go_at_call 42; with_reducible refine (hI3 _ ht5).mono ?_; rintro e w6 ⟨rfl, hb6⟩; have ht6 := ht5.below hb6)
    | (go_at_call 42; with_reducible refine (hI4 _ ht6).mono ?_; rintro e w7 ⟨rfl, hb7⟩; have ht7 := ht6.below hb7)
    | (go_at_call 43; with_reducible refine (hN0 _ ht7).mono ?_; rintro e w8 ⟨rfl, hb8⟩; have ht8 := ht7.below hb8)
    | (go_at_call 43; with_reducible refine (hN1 _ ht8).mono ?_; rintro e w9 ⟨rfl, hb9⟩; have ht9 := ht8.below hb9)
    | (go_at_call 43; with_reducible refine (hN2 _ ht9).mono ?_; rintro e w10 ⟨rfl, hb10⟩; have ht10 := ht9.below hb10)
    | (go_at_call 43; with_reducible refine (hN3 _ ht10).mono ?_; rintro e w11 ⟨rfl, hb11⟩; have ht11 := ht10.below hb11)
    | (go_at_call 44; with_reducible refine (hK0 _).mono ?_; rintro e w' ⟨rfl, rfl⟩)
    | (go_at_call 44; with_reducible refine (hK1 _).mono ?_; rintro e w' ⟨rfl, rfl⟩)
    | (go_at_call 44; with_reducible refine (hK2 _).mono ?_; rintro e w' ⟨rfl, rfl⟩)
    | (go_at_call 21; with_reducible refine (awake5_any _ ht11).mono ?_; rintro e w12 ⟨rfl, hb12⟩))
  go_ret
  exact ⟨rfl, bstep (bstep (bstep (bstep (bstep (bstep (bstep (bstep (bstep (bstep (bstep (hb1) hb2) hb3) hb4) hb5) hb6) hb7) hb8) hb9) hb10) hb11) hb12⟩
end Go.Proofs.YtlembnpplnbagaaDoor
