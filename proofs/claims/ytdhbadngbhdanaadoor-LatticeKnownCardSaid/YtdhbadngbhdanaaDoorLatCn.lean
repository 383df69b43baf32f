/- How many categories a label has, as a number; and by the program's shifts. -/
import Derived.Test.YtdhbadngbhdanaaDoorLatSpec
import Derived.Test.YtdhbadngbhdanaaDoorTz
import Derived.Test.YtdhbadngbhdanaaDoorShelf
import Derived.Test.YtdhbadngbhdanaaDoorShelfSort
import Derived.Outline
import Derived.WalkKit
namespace Go.Proofs.YtdhbadngbhdanaaDoor.Lt
open Go.RowKit Go.Shelf

/-- The ones of a number. -/
def pc (n : Nat) : Nat := if h : n = 0 then 0 else n % 2 + pc (n / 2)
termination_by n
decreasing_by omega
theorem pc_zero : pc 0 = 0 := by rw [pc]; simp
theorem pc_eq (n : Nat) : pc n = n % 2 + pc (n / 2) := by
  by_cases h : n = 0
  · subst h; simp [pc_zero]
  · rw [pc, dif_neg h]
theorem pc_le : ∀ n, pc n ≤ n := by
  intro n
  induction n using Nat.strongRecOn with
  | ind n ih =>
    rw [pc_eq]
    by_cases h : n = 0
    · subst h; simp [pc_zero]
    · have := ih (n / 2) (by omega)
      omega
theorem leB_half {a b : Nat} (h : leB a b = true) : leB (a / 2) (b / 2) = true ∧ a % 2 ≤ b % 2 := by
  rw [leB_iff] at h
  constructor
  · rw [leB_iff]
    intro i hi
    rw [Nat.testBit_div_two] at hi ⊢
    exact h _ hi
  · have := h 0
    simp only [Nat.testBit_zero, decide_eq_true_eq] at this
    by_cases h1 : a % 2 = 1
    · rw [this h1]; omega
    · omega
theorem pc_mono : ∀ (b a : Nat), leB a b = true → pc a ≤ pc b ∧ (pc a = pc b → a = b) := by
  intro b
  induction b using Nat.strongRecOn with
  | ind b ih =>
    intro a h
    by_cases hb : b = 0
    · have := leB_le h
      obtain rfl : a = 0 := by omega
      exact ⟨by rw [hb]; exact Nat.le_refl _, fun _ => hb.symm⟩
    · obtain ⟨h1, h2⟩ := leB_half h
      obtain ⟨h3, h4⟩ := ih (b / 2) (by omega) (a / 2) h1
      rw [pc_eq a, pc_eq b]
      refine ⟨by omega, fun e => ?_⟩
      have := h4 (by omega)
      omega
theorem pc_lt {a b : Nat} (h : ltB a b = true) : pc a < pc b := by
  obtain ⟨h1, h2⟩ := ltB_iff.1 h
  obtain ⟨h3, h4⟩ := pc_mono b a h2
  have : pc a ≠ pc b := fun e => h1 (h4 e)
  omega
theorem pc_twice (n : Nat) : ∀ k, pc (2 ^ k * n) = pc n := by
  intro k
  induction k with
  | zero => simp
  | succ k ih =>
    rw [pc_eq, show 2 ^ (k + 1) * n = 2 * (2 ^ k * n) by rw [Nat.pow_succ]; rw [Nat.mul_comm (2 ^ k) 2, Nat.mul_assoc]]
    rw [Nat.mul_mod_right, Nat.mul_div_cancel_left _ (by decide), ih, Nat.zero_add]
theorem pc_shift {n : Nat} (h0 : n ≠ 0) (h : n < 18446744073709551616) : pc n = 1 + pc (n >>> (Lib.ctz 64 n + 1)) ∧ Lib.ctz 64 n < 64 ∧ n >>> (Lib.ctz 64 n + 1) < n := by
  have hctz : Lib.ctz 64 n = Lib.ctzFrom 64 n := by unfold Lib.ctz; rw [if_neg h0]
  obtain ⟨m, hm, hk⟩ := Lib.ctzFrom_spec 64 n (by omega) h
  rw [hctz]
  generalize Lib.ctzFrom 64 n = k at hm hk ⊢
  have hs : n >>> (k + 1) = m := by
    rw [Nat.shiftRight_eq_div_pow, hm, Nat.pow_succ, Nat.mul_div_mul_left _ _ (Nat.two_pow_pos k)]
    omega
  rw [hs]
  refine ⟨?_, hk, ?_⟩
  · rw [hm, pc_twice, pc_eq]
    have : (2 * m + 1) / 2 = m := by omega
    rw [this]
    omega
  · rw [hm]
    have : 2 * m + 1 ≤ 2 ^ k * (2 * m + 1) := Nat.le_mul_of_pos_left _ (Nat.two_pow_pos k)
    omega
theorem pc_small {n : Nat} (h : n < 18446744073709551616) : pc n ≤ 64 := by
  have : ∀ (k n : Nat), n < 2 ^ k → pc n ≤ k := by
    intro k
    induction k with
    | zero => intro n hn; obtain rfl : n = 0 := by simpa using hn
              rw [pc_zero]; exact Nat.le_refl _
    | succ k ih =>
      intro n hn
      rw [pc_eq]
      have := ih (n / 2) (by rw [Nat.pow_succ] at hn; omega)
      omega
  exact this 64 n h

set_option maxHeartbeats 1000000 in
theorem count_any (x : Nat) (hx : x < 18446744073709551616) (w : World) (hT : TabAt 0 Lib.deBruijn64tab w) :
    Calls Tryd.prog 42 #[.int .u64 (x : Int)] w fun e w' => e = .returned (.int .i64 (pc x : Int)) ∧ w' = w := by
  have HT := Lib.hid hT
  clear hT
  go_enter Tryd.func42, Tryd.ntmps42
  go_wp2
  go_loop [0, 3] (fun v n => ∃ (q k : Nat), v = .int .u64 (q : Int) ∧ n = .int .i64 (k : Int) ∧ q < 18446744073709551616 ∧ k ≤ 64 ∧ Hid (pc x = k + pc q)) (fun v _ => (intOf v).toNat)
  case atStart => exact ⟨x, 0, rfl, rfl, hx, by decide, (show pc x = 0 + pc x by omega)⟩
  case round =>
    obtain ⟨q, k, rfl, rfl, hq, hk, hpc⟩ := hrel
    by_cases h0 : q = 0
    · subst h0
      go_wp2
      go_ret
      exact ⟨by rw [hpc.out, pc_zero]; rfl, rfl⟩
    · obtain ⟨h1, h2, h3⟩ := pc_shift h0 hq
      have hle := pc_small hx
      have hk' : k + 1 ≤ 64 := by have := hpc.out; omega
      have c1 : ((q : Int) != 0) = true := by simp; omega
      obtain ⟨t, ht⟩ : ∃ t, t = Lib.ctz 64 q := ⟨_, rfl⟩
      rw [← ht] at h1 h2 h3
      have H1 := Lib.hid h1
      have H3 := Lib.hid h3
      have hsh := Lib.hid (show (q : Int) / 2 ^ (t + 1) = ((q >>> (t + 1) : Nat) : Int) by rw [Nat.shiftRight_eq_div_pow]; simp)
      have hz := fun w hT => tz64_any q hq w (fun _ => hT)
      rw [← ht] at hz
      clear h1 h3 ht hle
      go_wp2_with (go_at_call 50; refine (hz _ HT.out).mono ?_; rintro e w' ⟨rfl, rfl⟩)
      go_round
      case rel => exact ⟨q >>> (t + 1), k + 1, by rw [hsh.out], by go_num, by have := H3.out; omega, hk', (show pc x = k + 1 + pc (q >>> (t + 1)) by have := hpc.out; have := H1.out; omega)⟩
      case measure => rw [hsh.out]; simp only [intOf, Int.toNat_natCast]; exact H3.out

/-- Labels as the sort's elements. -/
abbrev Lab := { n : Nat // n < 18446744073709551616 }
instance : Inhabited Lab := ⟨⟨0, by decide⟩⟩
def encL (x : Lab) : Value := .int .u64 (x.1 : Int)
def cfL (x y : Lab) : Int := Lib.compareInt (pc x.1 : Int) (pc y.1 : Int)
theorem byCount1_any (x y : Lab) (w : World) (hT : TabAt 0 Lib.deBruijn64tab w) :
    Calls Tryd.prog 40 #[encL x, encL y] w fun e w' => e = .returned (.int .i64 (cfL x y)) ∧ w' = w := by
  obtain ⟨x, hx⟩ := x
  obtain ⟨y, hy⟩ := y
  have h1 := count_any x hx w hT
  have h2 := count_any y hy w hT
  have hc := Tryd.cmp_Compare_int (pc x : Int) (pc y : Int) w
  obtain ⟨r, hr⟩ : ∃ r, r = Lib.compareInt (pc x : Int) (pc y : Int) := ⟨_, rfl⟩
  rw [← hr] at hc
  show Calls _ _ #[.int .u64 (x : Int), .int .u64 (y : Int)] w fun e w' => e = .returned (.int .i64 (Lib.compareInt (pc x : Int) (pc y : Int))) ∧ w' = w
  rw [← hr]
  obtain ⟨p, hp⟩ : ∃ p, p = pc x := ⟨_, rfl⟩
  obtain ⟨q, hq⟩ : ∃ q, q = pc y := ⟨_, rfl⟩
  rw [← hp] at h1 hc
  rw [← hq] at h2 hc
  clear hr hp hq hT
  go_enter Tryd.func40, Tryd.ntmps40
  go_wp2_with (first | (go_at_call 41; with_reducible refine hc.mono ?_; rintro e w' ⟨rfl, rfl⟩) | (go_at_call 42; with_reducible refine h1.mono ?_; rintro e w' ⟨rfl, rfl⟩) | (go_at_call 42; with_reducible refine h2.mono ?_; rintro e w' ⟨rfl, rfl⟩))
  go_ret
  exact ⟨rfl, rfl⟩
theorem ltOfL (x y : Lab) : ltOf cfL x y = decide (pc x.1 < pc y.1) := by
  unfold ltOf cfL Lib.compareInt
  by_cases h1 : (pc x.1 : Int) < (pc y.1 : Int)
  · have : pc x.1 < pc y.1 := by omega
    simp [h1, this]
  · have h1' : ¬ pc x.1 < pc y.1 := by omega
    by_cases h2 : (pc y.1 : Int) < (pc x.1 : Int) <;> simp [h1, h1', h2]
open Go.Sort in
theorem swoL : SWO (ltOf cfL) where
  irrefl x := by rw [ltOfL]; simp
  trans x y z h1 h2 := by rw [ltOfL] at *; simp at *; omega
  ntrans x y z h1 h2 := by rw [ltOfL] at *; simp at *; omega
end Go.Proofs.YtdhbadngbhdanaaDoor.Lt
