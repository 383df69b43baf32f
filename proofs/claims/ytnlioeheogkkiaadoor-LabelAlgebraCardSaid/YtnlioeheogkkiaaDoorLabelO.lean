/- Walk: LabelAlgebra, at labels given as numbers. -/
import Derived.Test.YtnlioeheogkkiaaDoorLabelN
namespace Go.Proofs.YtnlioeheogkkiaaDoor
open Go.RowKit Go.Shelf
open Lb

theorem join_3 (x y z : Nat) (w : World) (hx : x < 18446744073709551616) (hy : y < 18446744073709551616) (hz : z < 18446744073709551616) :
    Calls Tryd.prog 31 #[.slice (some ⟨w.heap.size, 0, none⟩) 3 3] (w.alloc (.cells #[.int .u64 (x : Int), .int .u64 (y : Int), .int .u64 (z : Int)] 22)) fun e w' => e = .returned (.int .u64 ((x ||| y ||| z : Nat) : Int)) ∧ Below w.heap.size w w' := by
  refine (join_any _ [(x : Int), (y : Int), (z : Int)] _ (Slc.lit w (vals .u64 [(x : Int), (y : Int), (z : Int)]) 22 3 rfl (by decide))).mono fun e w' hh => ⟨?_, hh.2 ▸ (Below.refl _ _).alloc (Nat.le_refl _) _⟩
  rw [hh.1, joinI_three hx hy hz]
theorem join_4 (x y z u : Nat) (w : World) (hx : x < 18446744073709551616) (hy : y < 18446744073709551616) (hz : z < 18446744073709551616) (hu : u < 18446744073709551616) :
    Calls Tryd.prog 31 #[.slice (some ⟨w.heap.size, 0, none⟩) 4 4] (w.alloc (.cells #[.int .u64 (x : Int), .int .u64 (y : Int), .int .u64 (z : Int), .int .u64 (u : Int)] 22)) fun e w' => e = .returned (.int .u64 ((x ||| y ||| z ||| u : Nat) : Int)) ∧ Below w.heap.size w w' := by
  refine (join_any _ [(x : Int), (y : Int), (z : Int), (u : Int)] _ (Slc.lit w (vals .u64 [(x : Int), (y : Int), (z : Int), (u : Int)]) 22 4 rfl (by decide))).mono fun e w' hh => ⟨?_, hh.2 ▸ (Below.refl _ _).alloc (Nat.le_refl _) _⟩
  rw [hh.1, joinI_four hx hy hz hu]
theorem meet_3 (x y z : Nat) (w : World) (hx : x < 18446744073709551616) (hy : y < 18446744073709551616) (hz : z < 18446744073709551616) :
    Calls Tryd.prog 33 #[.slice (some ⟨w.heap.size, 0, none⟩) 3 3] (w.alloc (.cells #[.int .u64 (x : Int), .int .u64 (y : Int), .int .u64 (z : Int)] 22)) fun e w' => e = .returned (.int .u64 ((x &&& y &&& z : Nat) : Int)) ∧ Below w.heap.size w w' := by
  refine (meet_any _ [(x : Int), (y : Int), (z : Int)] _ (Slc.lit w (vals .u64 [(x : Int), (y : Int), (z : Int)]) 22 3 rfl (by decide))).mono fun e w' hh => ⟨?_, hh.2 ▸ (Below.refl _ _).alloc (Nat.le_refl _) _⟩
  rw [hh.1, meetI_three hx hy hz]
theorem meet_4 (x y z u : Nat) (w : World) (hx : x < 18446744073709551616) (hy : y < 18446744073709551616) (hz : z < 18446744073709551616) (hu : u < 18446744073709551616) :
    Calls Tryd.prog 33 #[.slice (some ⟨w.heap.size, 0, none⟩) 4 4] (w.alloc (.cells #[.int .u64 (x : Int), .int .u64 (y : Int), .int .u64 (z : Int), .int .u64 (u : Int)] 22)) fun e w' => e = .returned (.int .u64 ((x &&& y &&& z &&& u : Nat) : Int)) ∧ Below w.heap.size w w' := by
  refine (meet_any _ [(x : Int), (y : Int), (z : Int), (u : Int)] _ (Slc.lit w (vals .u64 [(x : Int), (y : Int), (z : Int), (u : Int)]) 22 4 rfl (by decide))).mono fun e w' hh => ⟨?_, hh.2 ▸ (Below.refl _ _).alloc (Nat.le_refl _) _⟩
  rw [hh.1, meetI_four hx hy hz hu]
theorem without_n (x y : Nat) (w : World) (hx : x < 18446744073709551616) (hy : y < 18446744073709551616) : Calls Tryd.prog 27 #[.int .u64 (x : Int), .int .u64 (y : Int)] w fun e w' => e = .returned (.int .u64 ((dif x y : Nat) : Int)) ∧ w = w' := by
  refine (without_any x y w).mono fun e w' hh => ⟨?_, hh.2⟩
  rw [hh.1, andNot_nat x y hx hy]
  rfl

theorem or_four (a b c : Nat) : c ||| a ||| b ||| a = a ||| b ||| c := bit_ext fun i => by
  simp only [Nat.testBit_or]
  cases a.testBit i <;> cases b.testBit i <;> cases c.testBit i <;> rfl
theorem and_four (a b c : Nat) : c &&& a &&& b &&& a = a &&& b &&& c := bit_ext fun i => by
  simp only [Nat.testBit_and]
  cases a.testBit i <;> cases b.testBit i <;> cases c.testBit i <;> rfl
theorem or_absorb (a b : Nat) : a ||| (a &&& b) = a := bit_ext fun i => by
  simp only [Nat.testBit_or, Nat.testBit_and]
  cases a.testBit i <;> cases b.testBit i <;> rfl
theorem and_absorb (a b : Nat) : a &&& (a ||| b) = a := bit_ext fun i => by
  simp only [Nat.testBit_or, Nat.testBit_and]
  cases a.testBit i <;> cases b.testBit i <;> rfl
theorem dif_below {a b : Nat} (ha : a < 18446744073709551616) (hb : b < 18446744073709551616) : isB (dif a b) a = true :=
  (isB_iff (dif_lt ha) ha).2 fun i hi => by rw [dif_bit ha hb, Bool.and_eq_true] at hi; exact hi.1
theorem dif_meet {a b : Nat} (ha : a < 18446744073709551616) (hb : b < 18446744073709551616) : dif a b &&& b = 0 := bit_ext fun i => by
  rw [Nat.testBit_and, dif_bit ha hb, Nat.zero_testBit]
  cases a.testBit i <;> cases b.testBit i <;> rfl
theorem dif_join {a b : Nat} (ha : a < 18446744073709551616) (hb : b < 18446744073709551616) : dif a b ||| (a &&& b) = a := bit_ext fun i => by
  rw [Nat.testBit_or, dif_bit ha hb, Nat.testBit_and]
  cases a.testBit i <;> cases b.testBit i <;> rfl

set_option maxRecDepth 100000 in
set_option maxHeartbeats 4000000 in
theorem algebra_any (a b c : Nat) (w : World) (ha : a < 18446744073709551616) (hb : b < 18446744073709551616) (hc : c < 18446744073709551616) (hT : Tabs w) :
    Calls Tryd.prog 8 #[.int .u64 (a : Int), .int .u64 (b : Int), .int .u64 (c : Int)] w fun e w' => e = .returned (.bool true) ∧ Below w.heap.size w w' := by
  have e1 := Lib.hid (or_four a b c)
  have e2 := Lib.hid (and_four a b c)
  have e3 := Lib.hid (or_absorb a b)
  have e4 := Lib.hid (and_absorb a b)
  have e5 := Lib.hid (dif_below ha hb)
  have e6 := Lib.hid (dif_meet ha hb)
  have e7 := Lib.hid (dif_join ha hb)
  have lo := Lib.hid (or_lt ha hb)
  have la : Hid (a &&& b < 18446744073709551616) := Lib.hid (and_lt ha)
  have ld := Lib.hid (dif_lt (b := b) ha)
  go_enter Tryd.func8, Tryd.ntmps8
  go_wp2_with fail
  refine (known_any _ hT).mono ?_
  rintro e w1 ⟨rfl, hB1⟩
  go_wp2_with fail
  refine (join_3 a b c _ ha hb hc).mono ?_
  rintro e w2 ⟨rfl, hb2⟩
  have hB2 := below_step hB1 hb2
  clear hB1 hb2 hT
  go_wp2_with fail
  refine (join_4 c a b a _ hc ha hb ha).mono ?_
  rintro e w3 ⟨rfl, hb3⟩
  have hB3 := below_step hB2 hb3
  clear hB2 hb3
  rw [e1.out]
  obtain ⟨j3, hj3⟩ : ∃ j3, j3 = a ||| b ||| c := ⟨_, rfl⟩
  rw [← hj3]
  have HJ3 := Lib.hid hj3
  clear hj3
  go_wp2_with fail
  refine (join_2 a b _ ha hb).mono ?_
  rintro e w4 ⟨rfl, hb4⟩
  have hB4 := below_step hB3 hb4
  clear hB3 hb4
  go_wp2_with fail
  refine (join_2 (a ||| b) c _ lo.out hc).mono ?_
  rintro e w5 ⟨rfl, hb5⟩
  have hB5 := below_step hB4 hb5
  clear hB4 hb5
  rw [← HJ3.out]
  go_wp2_with fail
  refine (join_3 a b c _ ha hb hc).mono ?_
  rintro e w6 ⟨rfl, hb6⟩
  have hB6 := below_step hB5 hb6
  clear hB5 hb6
  rw [← HJ3.out]
  go_wp2_with fail
  refine (meet_2 a b _ ha hb).mono ?_
  rintro e w7 ⟨rfl, hb7⟩
  have hB7 := below_step hB6 hb7
  clear hB6 hb7
  go_wp2_with fail
  refine (join_2 a (a &&& b) _ ha la.out).mono ?_
  rintro e w8 ⟨rfl, hb8⟩
  have hB8 := below_step hB7 hb8
  clear hB7 hb8
  rw [e3.out]
  go_wp2_with fail
  refine (meet_3 a b c _ ha hb hc).mono ?_
  rintro e w9 ⟨rfl, hb9⟩
  have hB9 := below_step hB8 hb9
  clear hB8 hb9
  go_wp2_with fail
  refine (meet_4 c a b a _ hc ha hb ha).mono ?_
  rintro e w10 ⟨rfl, hb10⟩
  have hB10 := below_step hB9 hb10
  clear hB9 hb10
  rw [e2.out]
  obtain ⟨m3, hm3⟩ : ∃ m3, m3 = a &&& b &&& c := ⟨_, rfl⟩
  rw [← hm3]
  have HM3 := Lib.hid hm3
  clear hm3
  go_wp2_with fail
  refine (meet_2 a b _ ha hb).mono ?_
  rintro e w11 ⟨rfl, hb11⟩
  have hB11 := below_step hB10 hb11
  clear hB10 hb11
  go_wp2_with fail
  refine (meet_2 (a &&& b) c _ la.out hc).mono ?_
  rintro e w12 ⟨rfl, hb12⟩
  have hB12 := below_step hB11 hb12
  clear hB11 hb12
  rw [← HM3.out]
  go_wp2_with fail
  refine (meet_3 a b c _ ha hb hc).mono ?_
  rintro e w13 ⟨rfl, hb13⟩
  have hB13 := below_step hB12 hb13
  clear hB12 hb13
  rw [← HM3.out]
  go_wp2_with fail
  refine (join_2 a b _ ha hb).mono ?_
  rintro e w14 ⟨rfl, hb14⟩
  have hB14 := below_step hB13 hb14
  clear hB13 hb14
  go_wp2_with fail
  refine (meet_2 a (a ||| b) _ ha lo.out).mono ?_
  rintro e w15 ⟨rfl, hb15⟩
  have hB15 := below_step hB14 hb15
  clear hB14 hb15
  rw [e4.out]
  go_wp2_with fail
  refine (without_n a b _ ha hb).mono ?_
  rintro e w' ⟨rfl, rfl⟩
  go_wp2_with fail
  refine (below_b (dif a b) a true _ e5.out).mono ?_
  rintro e w' ⟨rfl, rfl⟩
  go_wp2_with fail
  refine (meet_2 (dif a b) b _ ld.out hb).mono ?_
  rintro e w16 ⟨rfl, hb16⟩
  have hB16 := below_step hB15 hb16
  clear hB15 hb16
  rw [e6.out]
  go_wp2_with fail
  refine (meet_2 a b _ ha hb).mono ?_
  rintro e w17 ⟨rfl, hb17⟩
  have hB17 := below_step hB16 hb17
  clear hB16 hb17
  go_wp2_with fail
  refine (join_2 (dif a b) (a &&& b) _ ld.out la.out).mono ?_
  rintro e w18 ⟨rfl, hb18⟩
  have hB18 := below_step hB17 hb18
  clear hB17 hb18
  rw [e7.out]
  go_wp2
  go_ret
  exact ⟨rfl, hB18⟩
end Go.Proofs.YtnlioeheogkkiaaDoor
