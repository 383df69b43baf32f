/- Walk: LabelOrder, at labels given as numbers. -/
import Derived.Test.YtnlioeheogkkiaaDoorLabelM
import Derived.Test.YtnlioeheogkkiaaDoorLabelAlg
import Derived.Deep.DeepCutAuto
namespace Go.Proofs.YtnlioeheogkkiaaDoor
open Go.RowKit Go.Shelf
open Lb

theorem lit2 (w : World) (x y : Int) : Slc (w.alloc (.cells #[.int .u64 x, .int .u64 y] 22)) (.slice (some ⟨w.heap.size, 0, none⟩) 2 2) (vals .u64 [x, y]) := Slc.lit w (vals .u64 [x, y]) 22 2 rfl (by decide)
theorem join_2 (x y : Nat) (w : World) (hx : x < 18446744073709551616) (hy : y < 18446744073709551616) :
    Calls Tryd.prog 31 #[.slice (some ⟨w.heap.size, 0, none⟩) 2 2] (w.alloc (.cells #[.int .u64 (x : Int), .int .u64 (y : Int)] 22)) fun e w' => e = .returned (.int .u64 ((x ||| y : Nat) : Int)) ∧ Below w.heap.size w w' := by
  refine (join_any _ [(x : Int), (y : Int)] _ (lit2 w x y)).mono fun e w' hh => ⟨?_, hh.2 ▸ (Below.refl _ _).alloc (Nat.le_refl _) _⟩
  rw [hh.1, joinI_two hx hy]
theorem meet_2 (x y : Nat) (w : World) (hx : x < 18446744073709551616) (hy : y < 18446744073709551616) :
    Calls Tryd.prog 33 #[.slice (some ⟨w.heap.size, 0, none⟩) 2 2] (w.alloc (.cells #[.int .u64 (x : Int), .int .u64 (y : Int)] 22)) fun e w' => e = .returned (.int .u64 ((x &&& y : Nat) : Int)) ∧ Below w.heap.size w w' := by
  refine (meet_any _ [(x : Int), (y : Int)] _ (lit2 w x y)).mono fun e w' hh => ⟨?_, hh.2 ▸ (Below.refl _ _).alloc (Nat.le_refl _) _⟩
  rw [hh.1, meetI_two hx hy]

/-- Whether x is at most y, by itself: a walk does not look behind this name. -/
def isB (x y : Nat) : Bool := belowI (x : Int) (y : Int)
theorem isB_iff {x y : Nat} (hx : x < 18446744073709551616) (hy : y < 18446744073709551616) : isB x y = true ↔ sub x y := belowI_nat hx hy
theorem below_b (x y : Nat) (b : Bool) (w : World) (h : isB x y = b) :
    Calls Tryd.prog 23 #[.int .u64 (x : Int), .int .u64 (y : Int)] w fun e w' => e = .returned (.bool b) ∧ w = w' := by
  subst h
  exact below_any x y w

theorem isB_refl {x : Nat} (hx : x < 18446744073709551616) : isB x x = true := (isB_iff hx hx).2 fun _ h => h
theorem isB_anti {x y : Nat} (hx : x < 18446744073709551616) (hy : y < 18446744073709551616) (h : isB x y = true) (k : isB y x = true) : x = y :=
  bit_ext fun i => by
    have h1 := (isB_iff hx hy).1 h i
    have h2 := (isB_iff hy hx).1 k i
    cases hi : x.testBit i <;> cases hj : y.testBit i <;> simp_all
theorem isB_trans {x y z : Nat} (hx : x < 18446744073709551616) (hy : y < 18446744073709551616) (hz : z < 18446744073709551616) (h : isB x y = true) (k : isB y z = true) : isB x z = true :=
  (isB_iff hx hz).2 fun i hi => (isB_iff hy hz).1 k i ((isB_iff hx hy).1 h i hi)
theorem isB_or {x y z : Nat} (hx : x < 18446744073709551616) (hy : y < 18446744073709551616) (hz : z < 18446744073709551616) : isB (x ||| y) z = (isB x z && isB y z) := by
  rw [Bool.eq_iff_iff, Bool.and_eq_true, isB_iff (or_lt hx hy) hz, isB_iff hx hz, isB_iff hy hz]
  constructor
  · intro h
    exact ⟨fun i hi => h i (by rw [Nat.testBit_or, hi]; rfl), fun i hi => h i (by rw [Nat.testBit_or, hi, Bool.or_true])⟩
  · rintro ⟨h1, h2⟩ i hi
    rw [Nat.testBit_or, Bool.or_eq_true] at hi
    exact hi.elim (h1 i) (h2 i)
theorem isB_and {x y z : Nat} (hx : x < 18446744073709551616) (hy : y < 18446744073709551616) (hz : z < 18446744073709551616) : isB z (x &&& y) = (isB z x && isB z y) := by
  rw [Bool.eq_iff_iff, Bool.and_eq_true, isB_iff hz (and_lt hx), isB_iff hz hx, isB_iff hz hy]
  constructor
  · intro h
    exact ⟨fun i hi => by have := h i hi; rw [Nat.testBit_and, Bool.and_eq_true] at this; exact this.1, fun i hi => by have := h i hi; rw [Nat.testBit_and, Bool.and_eq_true] at this; exact this.2⟩
  · rintro ⟨h1, h2⟩ i hi
    rw [Nat.testBit_and, h1 i hi, h2 i hi]; rfl
theorem isB_join {x y : Nat} (hx : x < 18446744073709551616) (hy : y < 18446744073709551616) : isB x y = (((x ||| y : Nat) : Int) == (y : Int)) := by
  rw [Bool.eq_iff_iff, isB_iff hx hy, beq_iff_eq, Int.natCast_inj]
  constructor
  · intro h
    exact bit_ext fun i => by
      rw [Nat.testBit_or]
      cases hi : x.testBit i
      · rfl
      · rw [h i hi]; rfl
  · intro h i hi
    rw [← h, Nat.testBit_or, hi]; rfl
theorem isB_meet {x y : Nat} (hx : x < 18446744073709551616) (hy : y < 18446744073709551616) : isB x y = (((x &&& y : Nat) : Int) == (x : Int)) := by
  rw [Bool.eq_iff_iff, isB_iff hx hy, beq_iff_eq, Int.natCast_inj]
  constructor
  · intro h
    exact bit_ext fun i => by
      rw [Nat.testBit_and]
      cases hi : x.testBit i
      · rfl
      · rw [h i hi]; rfl
  · intro h i hi
    rw [← h, Nat.testBit_and, Bool.and_eq_true] at hi
    exact hi.2

set_option maxRecDepth 100000 in
set_option maxHeartbeats 4000000 in
theorem order_any (a b c : Nat) (w : World) (ha : a < 18446744073709551616) (hb : b < 18446744073709551616) (hc : c < 18446744073709551616) (hT : Tabs w) :
    Calls Tryd.prog 7 #[.int .u64 (a : Int), .int .u64 (b : Int), .int .u64 (c : Int)] w fun e w' => e = .returned (.bool true) ∧ Below w.heap.size w w' := by
  have haa := Lib.hid (isB_refl ha)
  have haj := Lib.hid (show isB a (a ||| b) = true from (isB_iff ha (or_lt ha hb)).2 fun i hi => by rw [Nat.testBit_or, hi]; rfl)
  have hbj := Lib.hid (show isB b (a ||| b) = true from (isB_iff hb (or_lt ha hb)).2 fun i hi => by rw [Nat.testBit_or, hi, Bool.or_true])
  have hma := Lib.hid (show isB (a &&& b) a = true from (isB_iff (and_lt ha) ha).2 fun i hi => by rw [Nat.testBit_and, Bool.and_eq_true] at hi; exact hi.1)
  have hmb := Lib.hid (show isB (a &&& b) b = true from (isB_iff (and_lt ha) hb).2 fun i hi => by rw [Nat.testBit_and, Bool.and_eq_true] at hi; exact hi.2)
  have hjc := Lib.hid (isB_or ha hb hc)
  have hcm := Lib.hid (isB_and ha hb hc)
  have hab := Lib.hid (isB_join ha hb)
  have hba := Lib.hid (isB_meet ha hb)
  have hanti := Lib.hid (isB_anti ha hb)
  have htr := Lib.hid (isB_trans ha hb hc)
  go_enter Tryd.func7, Tryd.ntmps7
  go_wp2_with fail
  refine (known_any _ hT).mono ?_
  rintro e w1 ⟨rfl, hB1⟩
  go_wp2_with fail
  refine (join_2 a b _ ha hb).mono ?_
  rintro e w2 ⟨rfl, hb2⟩
  have hB2 := below_step hB1 hb2
  go_wp2_with fail
  refine (meet_2 a b _ ha hb).mono ?_
  rintro e w3 ⟨rfl, hb3⟩
  have hB3 := below_step hB2 hb3
  clear hb2 hb3 hB1 hB2 hT
  obtain ⟨j, hj⟩ : ∃ j, j = a ||| b := ⟨_, rfl⟩
  obtain ⟨m, hm⟩ : ∃ m, m = a &&& b := ⟨_, rfl⟩
  rw [← hj] at haj hbj hjc hab ⊢
  rw [← hm] at hma hmb hcm hba ⊢
  clear hj hm
  go_upto_region 3 with (fail)
  go_cut [55] (fun s55 wx => s55 = .bool false ∧ w3 = wx)
  case first =>
    cases e1 : isB a b
    · have E1 := Lib.hid e1
      clear e1
      go_wp2_with (first | (go_at_call 23; with_reducible refine (below_b a a true _ haa.out).mono ?_; rintro e w' ⟨rfl, rfl⟩) | (go_at_call 23; with_reducible refine (below_b a b false _ E1.out).mono ?_; rintro e w' ⟨rfl, rfl⟩))
      go_meet
      exact ⟨rfl, rfl⟩
    · have E1 := Lib.hid e1
      have hne : isB b a = true → ((a : Int) != (b : Int)) = false := fun h => by rw [hanti.out e1 h]; simp
      have ht := Lib.hid (fun h => htr.out e1 h)
      have Hne := Lib.hid hne
      clear e1 hne
      cases e2 : isB b a
      · have E2 := Lib.hid e2
        clear e2
        cases e3 : isB b c
        · have E3 := Lib.hid e3
          clear e3
          go_wp2_with (first | (go_at_call 23; with_reducible refine (below_b a a true _ haa.out).mono ?_; rintro e w' ⟨rfl, rfl⟩) | (go_at_call 23; with_reducible refine (below_b a b true _ E1.out).mono ?_; rintro e w' ⟨rfl, rfl⟩) | (go_at_call 23; with_reducible refine (below_b b a false _ E2.out).mono ?_; rintro e w' ⟨rfl, rfl⟩) | (go_at_call 23; with_reducible refine (below_b b c false _ E3.out).mono ?_; rintro e w' ⟨rfl, rfl⟩))
          go_meet
          exact ⟨rfl, rfl⟩
        · have E3 := Lib.hid e3
          have E4 := Lib.hid (ht.out e3)
          clear e3
          go_wp2_with (first | (go_at_call 23; with_reducible refine (below_b a a true _ haa.out).mono ?_; rintro e w' ⟨rfl, rfl⟩) | (go_at_call 23; with_reducible refine (below_b a b true _ E1.out).mono ?_; rintro e w' ⟨rfl, rfl⟩) | (go_at_call 23; with_reducible refine (below_b b a false _ E2.out).mono ?_; rintro e w' ⟨rfl, rfl⟩) | (go_at_call 23; with_reducible refine (below_b b c true _ E3.out).mono ?_; rintro e w' ⟨rfl, rfl⟩) | (go_at_call 23; with_reducible refine (below_b a c true _ E4.out).mono ?_; rintro e w' ⟨rfl, rfl⟩))
          go_meet
          exact ⟨rfl, rfl⟩
      · have E2 := Lib.hid e2
        have hne := Hne.out e2
        clear e2
        cases e3 : isB b c
        · have E3 := Lib.hid e3
          clear e3
          go_wp2_with (first | (go_at_call 23; with_reducible refine (below_b a a true _ haa.out).mono ?_; rintro e w' ⟨rfl, rfl⟩) | (go_at_call 23; with_reducible refine (below_b a b true _ E1.out).mono ?_; rintro e w' ⟨rfl, rfl⟩) | (go_at_call 23; with_reducible refine (below_b b a true _ E2.out).mono ?_; rintro e w' ⟨rfl, rfl⟩) | (go_at_call 23; with_reducible refine (below_b b c false _ E3.out).mono ?_; rintro e w' ⟨rfl, rfl⟩))
          go_meet
          exact ⟨rfl, rfl⟩
        · have E3 := Lib.hid e3
          have E4 := Lib.hid (ht.out e3)
          clear e3
          go_wp2_with (first | (go_at_call 23; with_reducible refine (below_b a a true _ haa.out).mono ?_; rintro e w' ⟨rfl, rfl⟩) | (go_at_call 23; with_reducible refine (below_b a b true _ E1.out).mono ?_; rintro e w' ⟨rfl, rfl⟩) | (go_at_call 23; with_reducible refine (below_b b a true _ E2.out).mono ?_; rintro e w' ⟨rfl, rfl⟩) | (go_at_call 23; with_reducible refine (below_b b c true _ E3.out).mono ?_; rintro e w' ⟨rfl, rfl⟩) | (go_at_call 23; with_reducible refine (below_b a c true _ E4.out).mono ?_; rintro e w' ⟨rfl, rfl⟩))
          go_meet
          exact ⟨rfl, rfl⟩
  case rest =>
    obtain ⟨rfl, rfl⟩ := hcut
    go_upto_region 7 with (first | (go_at_call 23; with_reducible refine (below_b a j true _ haj.out).mono ?_; rintro e w' ⟨rfl, rfl⟩) | (go_at_call 23; with_reducible refine (below_b b j true _ hbj.out).mono ?_; rintro e w' ⟨rfl, rfl⟩) | (go_at_call 23; with_reducible refine (below_b m a true _ hma.out).mono ?_; rintro e w' ⟨rfl, rfl⟩) | (go_at_call 23; with_reducible refine (below_b m b true _ hmb.out).mono ?_; rintro e w' ⟨rfl, rfl⟩))
    go_cut [10] (fun s10 wx => s10 = .bool true ∧ w3 = wx)
    case first =>
      cases e1 : isB a c
      · have E0 := Lib.hid (show isB j c = false by rw [hjc.out, e1]; rfl)
        have E1 := Lib.hid e1
        clear e1
        go_wp2_with (first | (go_at_call 23; with_reducible refine (below_b j c false _ E0.out).mono ?_; rintro e w' ⟨rfl, rfl⟩) | (go_at_call 23; with_reducible refine (below_b a c false _ E1.out).mono ?_; rintro e w' ⟨rfl, rfl⟩))
        go_meet
        exact ⟨rfl, rfl⟩
      · cases e2 : isB b c
        · have E0 := Lib.hid (show isB j c = false by rw [hjc.out, e1, e2]; rfl)
          have E1 := Lib.hid e1
          have E2 := Lib.hid e2
          clear e1 e2
          go_wp2_with (first | (go_at_call 23; with_reducible refine (below_b j c false _ E0.out).mono ?_; rintro e w' ⟨rfl, rfl⟩) | (go_at_call 23; with_reducible refine (below_b a c true _ E1.out).mono ?_; rintro e w' ⟨rfl, rfl⟩) | (go_at_call 23; with_reducible refine (below_b b c false _ E2.out).mono ?_; rintro e w' ⟨rfl, rfl⟩))
          go_meet
          exact ⟨rfl, rfl⟩
        · have E0 := Lib.hid (show isB j c = true by rw [hjc.out, e1, e2]; rfl)
          have E1 := Lib.hid e1
          have E2 := Lib.hid e2
          clear e1 e2
          go_wp2_with (first | (go_at_call 23; with_reducible refine (below_b j c true _ E0.out).mono ?_; rintro e w' ⟨rfl, rfl⟩) | (go_at_call 23; with_reducible refine (below_b a c true _ E1.out).mono ?_; rintro e w' ⟨rfl, rfl⟩) | (go_at_call 23; with_reducible refine (below_b b c true _ E2.out).mono ?_; rintro e w' ⟨rfl, rfl⟩))
          go_meet
          exact ⟨rfl, rfl⟩
    case rest =>
    obtain ⟨rfl, rfl⟩ := hcut
    go_upto_region 8 with (fail)
    go_cut [11] (fun s11 wx => s11 = .bool true ∧ w3 = wx)
    case first =>
      cases e1 : isB c a
      · have E0 := Lib.hid (show isB c m = false by rw [hcm.out, e1]; rfl)
        have E1 := Lib.hid e1
        clear e1
        go_wp2_with (first | (go_at_call 23; with_reducible refine (below_b c m false _ E0.out).mono ?_; rintro e w' ⟨rfl, rfl⟩) | (go_at_call 23; with_reducible refine (below_b c a false _ E1.out).mono ?_; rintro e w' ⟨rfl, rfl⟩))
        go_meet
        exact ⟨rfl, rfl⟩
      · cases e2 : isB c b
        · have E0 := Lib.hid (show isB c m = false by rw [hcm.out, e1, e2]; rfl)
          have E1 := Lib.hid e1
          have E2 := Lib.hid e2
          clear e1 e2
          go_wp2_with (first | (go_at_call 23; with_reducible refine (below_b c m false _ E0.out).mono ?_; rintro e w' ⟨rfl, rfl⟩) | (go_at_call 23; with_reducible refine (below_b c a true _ E1.out).mono ?_; rintro e w' ⟨rfl, rfl⟩) | (go_at_call 23; with_reducible refine (below_b c b false _ E2.out).mono ?_; rintro e w' ⟨rfl, rfl⟩))
          go_meet
          exact ⟨rfl, rfl⟩
        · have E0 := Lib.hid (show isB c m = true by rw [hcm.out, e1, e2]; rfl)
          have E1 := Lib.hid e1
          have E2 := Lib.hid e2
          clear e1 e2
          go_wp2_with (first | (go_at_call 23; with_reducible refine (below_b c m true _ E0.out).mono ?_; rintro e w' ⟨rfl, rfl⟩) | (go_at_call 23; with_reducible refine (below_b c a true _ E1.out).mono ?_; rintro e w' ⟨rfl, rfl⟩) | (go_at_call 23; with_reducible refine (below_b c b true _ E2.out).mono ?_; rintro e w' ⟨rfl, rfl⟩))
          go_meet
          exact ⟨rfl, rfl⟩
    case rest =>
    obtain ⟨rfl, rfl⟩ := hcut
    cases e1 : isB a b
    all_goals
      have h1 := hab.out.symm.trans e1
      have h2 := hba.out.symm.trans e1
      have E1 := Lib.hid e1
      clear e1
      go_wp2_with (first | (go_at_call 23; with_reducible refine (below_b a b true _ E1.out).mono ?_; rintro e w' ⟨rfl, rfl⟩) | (go_at_call 23; with_reducible refine (below_b a b false _ E1.out).mono ?_; rintro e w' ⟨rfl, rfl⟩))
      go_ret
      exact ⟨rfl, hB3⟩
end Go.Proofs.YtnlioeheogkkiaaDoor
