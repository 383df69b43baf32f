/- Walks: products with a limit: the program's and the reference's. -/
import Derived.Test.YtlembnpplnbagaaDoorSumG
namespace Go.Proofs.YtlembnpplnbagaaDoor
open Go.RowKit Go.Shelf
open Sm

def mostB (a b m : Int) : Bool := btw 0 a && btw 0 b && btw 0 m
def mostN (a b m : Int) : Int := if mostB a b m = true then (if a * b ≤ m then a * b else m) else 0
def mostE (a b m : Int) : Int := if mostB a b m = true then 0 else 2
theorem most_no {a b m : Int} (h : mostB a b m = false) : mostN a b m = 0 ∧ mostE a b m = 2 := by unfold mostN mostE; rw [h]; exact ⟨rfl, rfl⟩
theorem most_less {a b m : Int} (h : mostB a b m = true) (hl : a * b ≤ m) : mostN a b m = a * b ∧ mostE a b m = 0 := by unfold mostN mostE; rw [h, if_pos rfl, if_pos rfl, if_pos hl]; exact ⟨rfl, rfl⟩
theorem most_more {a b m : Int} (h : mostB a b m = true) (hl : ¬ a * b ≤ m) : mostN a b m = m ∧ mostE a b m = 0 := by unfold mostN mostE; rw [h, if_pos rfl, if_pos rfl, if_neg hl]; exact ⟨rfl, rfl⟩
theorem most_any (a b m : Int) (w : World) : Calls Tryd.prog 32 #[.int .i64 a, .int .i64 b, .int .i64 m] w fun e w' => e = .returned (.tuple #[.int .i64 (mostN a b m), .int .i64 (mostE a b m)]) ∧ w = w' := by
  cases h1 : btw 0 a
  · have c1 := fun w => isBetween_is 0 a false h1 w
    obtain ⟨e1, e2⟩ := most_no (a := a) (b := b) (m := m) (by unfold mostB; rw [h1]; rfl)
    rw [e1, e2]
    clear e1 e2 h1
    go_enter Tryd.func32, Tryd.ntmps32
    go_wp2_with (go_at_call 55; with_reducible refine (c1 _).mono ?_; rintro e w' ⟨rfl, rfl⟩)
    go_ret2
    exact ⟨rfl, rfl⟩
  · have c1 := fun w => isBetween_is 0 a true h1 w
    cases h2 : btw 0 b
    · have c2 := fun w => isBetween_is 0 b false h2 w
      obtain ⟨e1, e2⟩ := most_no (a := a) (b := b) (m := m) (by unfold mostB; rw [h1, h2]; rfl)
      rw [e1, e2]
      clear e1 e2 h1 h2
      go_enter Tryd.func32, Tryd.ntmps32
      go_wp2_with (first | (go_at_call 55; with_reducible refine (c1 _).mono ?_; rintro e w' ⟨rfl, rfl⟩) | (go_at_call 55; with_reducible refine (c2 _).mono ?_; rintro e w' ⟨rfl, rfl⟩))
      go_ret2
      exact ⟨rfl, rfl⟩
    · have c2 := fun w => isBetween_is 0 b true h2 w
      cases h3 : btw 0 m
      · have c3 := fun w => isBetween_is 0 m false h3 w
        obtain ⟨e1, e2⟩ := most_no (a := a) (b := b) (m := m) (by unfold mostB; rw [h1, h2, h3]; rfl)
        rw [e1, e2]
        clear e1 e2 h1 h2 h3
        go_enter Tryd.func32, Tryd.ntmps32
        go_wp2_with (first | (go_at_call 55; with_reducible refine (c1 _).mono ?_; rintro e w' ⟨rfl, rfl⟩) | (go_at_call 55; with_reducible refine (c2 _).mono ?_; rintro e w' ⟨rfl, rfl⟩) | (go_at_call 55; with_reducible refine (c3 _).mono ?_; rintro e w' ⟨rfl, rfl⟩))
        go_ret2
        exact ⟨rfl, rfl⟩
      · have c3 := fun w => isBetween_is 0 m true h3 w
        obtain ⟨a0, a1⟩ := btw_iff.1 h1
        obtain ⟨b0, b1⟩ := btw_iff.1 h2
        obtain ⟨m0, m1⟩ := btw_iff.1 h3
        have hB : mostB a b m = true := by unfold mostB; rw [h1, h2, h3]; rfl
        obtain ⟨x, rfl⟩ := Int.eq_ofNat_of_zero_le a0
        obtain ⟨y, rfl⟩ := Int.eq_ofNat_of_zero_le b0
        have hm := fun w => Tryd.bits_Mul64 x y (by omega) (by omega) w
        have hxy : (x : Int) * (y : Int) = ((x * y : Nat) : Int) := (Int.natCast_mul x y).symm
        obtain ⟨p, hp⟩ : ∃ p, p = x * y := ⟨_, rfl⟩
        rw [← hp] at hm hxy
        have wx : IntKind.u64.wrap (x : Int) = (x : Int) := IntWalk.u64_in _ ⟨by omega, by omega⟩
        have wy : IntKind.u64.wrap (y : Int) = (y : Int) := IntWalk.u64_in _ ⟨by omega, by omega⟩
        have wm : IntKind.u64.wrap m = m := IntWalk.u64_in _ ⟨by omega, by omega⟩
        by_cases hl : (x : Int) * (y : Int) ≤ m
        · obtain ⟨e1, e2⟩ := most_less hB hl
          rw [e1, e2, hxy]
          rw [hxy] at hl
          have z1 : p / 18446744073709551616 = 0 := by omega
          have z2 : p % 18446744073709551616 = p := by omega
          rw [z1, z2] at hm
          clear e1 e2 h1 h2 h3 hB hp hxy z1 z2
          go_enter Tryd.func32, Tryd.ntmps32
          go_wp2_with (first | (go_at_call 49; refine (hm _).mono ?_; rintro e w' ⟨rfl, rfl⟩) | (go_at_call 55; with_reducible refine (c1 _).mono ?_; rintro e w' ⟨rfl, rfl⟩) | (go_at_call 55; with_reducible refine (c2 _).mono ?_; rintro e w' ⟨rfl, rfl⟩) | (go_at_call 55; with_reducible refine (c3 _).mono ?_; rintro e w' ⟨rfl, rfl⟩))
          go_ret2
          exact ⟨rfl, rfl⟩
        · obtain ⟨e1, e2⟩ := most_more hB hl
          rw [e1, e2]
          rw [hxy] at hl
          obtain ⟨hi, hhi⟩ : ∃ h : Nat, h = p / 18446744073709551616 := ⟨_, rfl⟩
          obtain ⟨lo, hlo⟩ : ∃ h : Nat, h = p % 18446744073709551616 := ⟨_, rfl⟩
          rw [← hhi, ← hlo] at hm
          by_cases h0 : hi = 0
          · have hlm : m < (lo : Int) := by omega
            subst h0
            clear e1 e2 h1 h2 h3 hB hp hxy hl hlo hhi
            go_enter Tryd.func32, Tryd.ntmps32
            go_wp2_with (first | (go_at_call 49; refine (hm _).mono ?_; rintro e w' ⟨rfl, rfl⟩) | (go_at_call 55; with_reducible refine (c1 _).mono ?_; rintro e w' ⟨rfl, rfl⟩) | (go_at_call 55; with_reducible refine (c2 _).mono ?_; rintro e w' ⟨rfl, rfl⟩) | (go_at_call 55; with_reducible refine (c3 _).mono ?_; rintro e w' ⟨rfl, rfl⟩))
            go_ret2
            exact ⟨rfl, rfl⟩
          · have h0' : ((hi : Int) == 0) = false := by rw [beq_eq_false_iff_ne]; omega
            have h0'' : ¬ ((hi : Int) = 0) := by omega
            clear e1 e2 h1 h2 h3 hB hp hxy hl hlo hhi
            go_enter Tryd.func32, Tryd.ntmps32
            go_wp2_with (first | (go_at_call 49; refine (hm _).mono ?_; rintro e w' ⟨rfl, rfl⟩) | (go_at_call 55; with_reducible refine (c1 _).mono ?_; rintro e w' ⟨rfl, rfl⟩) | (go_at_call 55; with_reducible refine (c2 _).mono ?_; rintro e w' ⟨rfl, rfl⟩) | (go_at_call 55; with_reducible refine (c3 _).mono ?_; rintro e w' ⟨rfl, rfl⟩))
            go_ret2
            exact ⟨rfl, rfl⟩
theorem refMost_any (a b m : Int) (w : World) : Calls Tryd.prog 33 #[.int .i64 a, .int .i64 b, .int .i64 m] w fun e w' => e = .returned (.tuple #[.int .i64 (mostN a b m), .int .i64 (mostE a b m)]) ∧ w = w' := by
  cases h1 : btw 0 a
  · have c1 := fun w => refCount_is a false h1 w
    obtain ⟨e1, e2⟩ := most_no (a := a) (b := b) (m := m) (by unfold mostB; rw [h1]; rfl)
    rw [e1, e2]
    clear e1 e2 h1
    go_enter Tryd.func33, Tryd.ntmps33
    go_wp2_with (go_at_call 56; with_reducible refine (c1 _).mono ?_; rintro e w' ⟨rfl, rfl⟩)
    go_ret2
    exact ⟨rfl, rfl⟩
  · have c1 := fun w => refCount_is a true h1 w
    cases h2 : btw 0 b
    · have c2 := fun w => refCount_is b false h2 w
      obtain ⟨e1, e2⟩ := most_no (a := a) (b := b) (m := m) (by unfold mostB; rw [h1, h2]; rfl)
      rw [e1, e2]
      clear e1 e2 h1 h2
      go_enter Tryd.func33, Tryd.ntmps33
      go_wp2_with (first | (go_at_call 56; with_reducible refine (c1 _).mono ?_; rintro e w' ⟨rfl, rfl⟩) | (go_at_call 56; with_reducible refine (c2 _).mono ?_; rintro e w' ⟨rfl, rfl⟩))
      go_ret2
      exact ⟨rfl, rfl⟩
    · have c2 := fun w => refCount_is b true h2 w
      cases h3 : btw 0 m
      · have c3 := fun w => refCount_is m false h3 w
        obtain ⟨e1, e2⟩ := most_no (a := a) (b := b) (m := m) (by unfold mostB; rw [h1, h2, h3]; rfl)
        rw [e1, e2]
        clear e1 e2 h1 h2 h3
        go_enter Tryd.func33, Tryd.ntmps33
        go_wp2_with (first | (go_at_call 56; with_reducible refine (c1 _).mono ?_; rintro e w' ⟨rfl, rfl⟩) | (go_at_call 56; with_reducible refine (c2 _).mono ?_; rintro e w' ⟨rfl, rfl⟩) | (go_at_call 56; with_reducible refine (c3 _).mono ?_; rintro e w' ⟨rfl, rfl⟩))
        go_ret2
        exact ⟨rfl, rfl⟩
      · have c3 := fun w => refCount_is m true h3 w
        obtain ⟨a0, a1⟩ := btw_iff.1 h1
        obtain ⟨b0, b1⟩ := btw_iff.1 h2
        obtain ⟨m0, m1⟩ := btw_iff.1 h3
        have hB : mostB a b m = true := by unfold mostB; rw [h1, h2, h3]; rfl
        clear h1 h2 h3
        by_cases ha : a = 0
        · subst ha
          obtain ⟨e1, e2⟩ := most_less hB (by omega)
          rw [e1, e2, Int.zero_mul]
          clear e1 e2 hB
          by_cases hm0 : m = 0
          · subst hm0
            go_enter Tryd.func33, Tryd.ntmps33
            go_wp2_with (first | (go_at_call 56; with_reducible refine (c1 _).mono ?_; rintro e w' ⟨rfl, rfl⟩) | (go_at_call 56; with_reducible refine (c2 _).mono ?_; rintro e w' ⟨rfl, rfl⟩) | (go_at_call 56; with_reducible refine (c3 _).mono ?_; rintro e w' ⟨rfl, rfl⟩))
            go_ret2
            exact ⟨rfl, rfl⟩
          · have hmp : min (0 : Int) m = 0 := by omega
            go_enter Tryd.func33, Tryd.ntmps33
            go_wp2_with (first | (go_at_call 56; with_reducible refine (c1 _).mono ?_; rintro e w' ⟨rfl, rfl⟩) | (go_at_call 56; with_reducible refine (c2 _).mono ?_; rintro e w' ⟨rfl, rfl⟩) | (go_at_call 56; with_reducible refine (c3 _).mono ?_; rintro e w' ⟨rfl, rfl⟩))
            go_ret2
            exact ⟨rfl, rfl⟩
        · have ha1 : 1 ≤ a := by omega
          have ha2 : (a == 0) = false := by rw [beq_eq_false_iff_ne]; exact ha
          have hd1 : a * (m / a) ≤ m := Int.mul_ediv_self_le (by omega)
          have hd2 : m < a * (m / a + 1) := by have := Int.lt_mul_ediv_self_add (x := m) (k := a) (by omega); rw [Int.mul_add, Int.mul_one]; exact this
          obtain ⟨q, hq⟩ : ∃ q, q = m / a := ⟨_, rfl⟩
          rw [← hq] at hd1 hd2
          have hq0 : 0 ≤ q := by rw [hq]; exact Int.ediv_nonneg m0 (by omega)
          have hqm : q ≤ m := by rw [hq]; exact Int.ediv_le_self _ m0
          replace hq := hq.symm
          by_cases hl : b ≤ q
          · have hle : a * b ≤ m := Int.le_trans (Int.mul_le_mul_of_nonneg_left hl a0) hd1
            have hge : 0 ≤ a * b := Int.mul_nonneg a0 b0
            obtain ⟨e1, e2⟩ := most_less hB hle
            rw [e1, e2]
            have hw : IntKind.i64.wrap (a * b) = a * b := IntWalk.i64_in _ ⟨by omega, by omega⟩
            obtain ⟨p, hp⟩ : ∃ p, p = a * b := ⟨_, rfl⟩
            rw [← hp] at hle hge hw ⊢
            replace hp := hp.symm
            have hl' : ¬ q < b := by omega
            have hpm : ¬ m < p := by omega
            clear e1 e2 hB hd1 hd2 ha
            by_cases hpe : p = m
            · subst hpe
              go_enter Tryd.func33, Tryd.ntmps33
              go_wp2_with (first | (go_at_call 56; with_reducible refine (c1 _).mono ?_; rintro e w' ⟨rfl, rfl⟩) | (go_at_call 56; with_reducible refine (c2 _).mono ?_; rintro e w' ⟨rfl, rfl⟩) | (go_at_call 56; with_reducible refine (c3 _).mono ?_; rintro e w' ⟨rfl, rfl⟩))
              go_ret2
              exact ⟨rfl, rfl⟩
            · have hlt : min p m = p := by omega
              clear hpe hpm
              go_enter Tryd.func33, Tryd.ntmps33
              go_wp2_with (first | (go_at_call 56; with_reducible refine (c1 _).mono ?_; rintro e w' ⟨rfl, rfl⟩) | (go_at_call 56; with_reducible refine (c2 _).mono ?_; rintro e w' ⟨rfl, rfl⟩) | (go_at_call 56; with_reducible refine (c3 _).mono ?_; rintro e w' ⟨rfl, rfl⟩))
              go_ret2
              exact ⟨rfl, rfl⟩
          · have hle : ¬ a * b ≤ m := by
              have : a * (q + 1) ≤ a * b := Int.mul_le_mul_of_nonneg_left (by omega) a0
              omega
            obtain ⟨e1, e2⟩ := most_more hB hle
            rw [e1, e2]
            have hl' : q < b := by omega
            clear e1 e2 hB hd1 hd2 ha hle hl
            go_enter Tryd.func33, Tryd.ntmps33
            go_wp2_with (first | (go_at_call 56; with_reducible refine (c1 _).mono ?_; rintro e w' ⟨rfl, rfl⟩) | (go_at_call 56; with_reducible refine (c2 _).mono ?_; rintro e w' ⟨rfl, rfl⟩) | (go_at_call 56; with_reducible refine (c3 _).mono ?_; rintro e w' ⟨rfl, rfl⟩))
            go_ret2
            exact ⟨rfl, rfl⟩
end Go.Proofs.YtlembnpplnbagaaDoor
