/- Walks: the program's bytes of words: printed, plain, blank, digits. -/
import Derived.Test.YtkmkhegekonbmaaDoorRowJ
namespace Go.Proofs.YtkmkhegekonbmaaDoor
open Go.RowKit
open Rw6

/-- What stands for itself between quotation marks. -/
def selfB (b : UInt8) : Bool := printB b && b != 34 && b != 92
theorem selfB_iff {b : UInt8} : selfB b = true ↔ printB b = true ∧ ¬ (b.toNat : Int) = 34 ∧ ¬ (b.toNat : Int) = 92 := by
  unfold selfB
  rw [Bool.and_eq_true, Bool.and_eq_true, bne_iff_ne, bne_iff_ne]
  rw [show (34 : UInt8) = UInt8.ofNat 34 from rfl, show (92 : UInt8) = UInt8.ofNat 92 from rfl]
  rw [u8_ne (by decide), u8_ne (by decide), and_assoc]
  rfl
theorem plain_self {b : UInt8} : plainB b = true ↔ selfB b = true ∧ ¬ (b.toNat : Int) = 32 := by
  rw [plainB_iff, selfB_iff]
  constructor
  · rintro ⟨h1, h2, h3, h4⟩; exact ⟨⟨h1, h3, h4⟩, h2⟩
  · rintro ⟨⟨h1, h3, h4⟩, h2⟩; exact ⟨h1, h2, h3, h4⟩
theorem bool_not {p : Bool} {Q : Prop} (h : p = true ↔ Q) (hq : ¬ Q) : p = false := by
  cases hp : p with
  | false => rfl
  | true => exact absurd (h.1 hp) hq
theorem isPrinted_any (b : UInt8) (w : World) :
    Calls Tryd.prog 57 #[.int .u8 (b.toNat : Int)] w fun e w' => e = .returned (.bool (printB b)) ∧ w = w' := by
  have hi := printB_iff (b := b)
  obtain ⟨p, hp⟩ : ∃ p, p = printB b := ⟨_, rfl⟩
  rw [← hp] at hi ⊢
  obtain ⟨c, hc⟩ : ∃ c : Int, c = (b.toNat : Int) := ⟨_, rfl⟩
  rw [← hc]
  have hj : p = true ↔ 32 ≤ c ∧ c ≤ 126 := by rw [hi]; omega
  clear hi hp hc
  by_cases h1 : 32 ≤ c
  · by_cases h2 : c ≤ 126
    · have := hj.2 ⟨h1, h2⟩
      subst this
      clear hj
      go_enter Tryd.func57, Tryd.ntmps57
      go_wp2
      go_ret
      exact ⟨rfl, rfl⟩
    · have := bool_not hj (fun h => h2 h.2)
      subst this
      clear hj
      go_enter Tryd.func57, Tryd.ntmps57
      go_wp2
      go_ret
      exact ⟨rfl, rfl⟩
  · have := bool_not hj (fun h => h1 h.1)
    subst this
    clear hj
    go_enter Tryd.func57, Tryd.ntmps57
    go_wp2
    go_ret
    exact ⟨rfl, rfl⟩
theorem isPlain_any (b : UInt8) (w : World) :
    Calls Tryd.prog 51 #[.int .u8 (b.toNat : Int)] w fun e w' => e = .returned (.bool (selfB b)) ∧ w = w' := by
  have hP := fun w => isPrinted_any b w
  have hi := selfB_iff (b := b)
  obtain ⟨p, hp⟩ : ∃ p, p = selfB b := ⟨_, rfl⟩
  obtain ⟨q, hq⟩ : ∃ q, q = printB b := ⟨_, rfl⟩
  rw [← hp, ← hq] at hi
  rw [← hp]
  rw [← hq] at hP
  obtain ⟨c, hc⟩ : ∃ c : Int, c = (b.toNat : Int) := ⟨_, rfl⟩
  rw [← hc] at hP hi ⊢
  clear hp hq hc
  cases q with
  | false =>
    have := bool_not hi (fun h => by cases h.1)
    subst this
    clear hi
    go_enter Tryd.func51, Tryd.ntmps51
    go_wp2_with (go_at_call 57; refine (hP _).mono ?_; rintro e w' ⟨rfl, rfl⟩)
    go_ret
    exact ⟨rfl, rfl⟩
  | true =>
    by_cases h1 : c = 34
    · have := bool_not hi (fun h => h.2.1 h1)
      subst this
      subst h1
      clear hi
      go_enter Tryd.func51, Tryd.ntmps51
      go_wp2_with (go_at_call 57; refine (hP _).mono ?_; rintro e w' ⟨rfl, rfl⟩)
      go_ret
      exact ⟨rfl, rfl⟩
    · by_cases h2 : c = 92
      · have := bool_not hi (fun h => h.2.2 h2)
        subst this
        subst h2
        clear hi
        go_enter Tryd.func51, Tryd.ntmps51
        go_wp2_with (go_at_call 57; refine (hP _).mono ?_; rintro e w' ⟨rfl, rfl⟩)
        go_ret
        exact ⟨rfl, rfl⟩
      · have := hi.2 ⟨rfl, h1, h2⟩
        subst this
        clear hi
        go_enter Tryd.func51, Tryd.ntmps51
        go_wp2_with (go_at_call 57; refine (hP _).mono ?_; rintro e w' ⟨rfl, rfl⟩)
        go_ret
        exact ⟨ret_bool (by simp [h1, h2]), rfl⟩
theorem blankB_iff {b : UInt8} : blankB b = true ↔ (b.toNat : Int) = 32 ∨ (b.toNat : Int) = 9 := by
  unfold blankB
  rw [Bool.or_eq_true, beq_iff_eq, beq_iff_eq, show (32 : UInt8) = UInt8.ofNat 32 from rfl, show (9 : UInt8) = UInt8.ofNat 9 from rfl]
  have h1 := u8_ne (b := b) (k := 32) (by decide)
  have h2 := u8_ne (b := b) (k := 9) (by decide)
  rw [Decidable.not_iff_not] at h1 h2
  rw [h1, h2]
  rfl
theorem isBlank_any (b : UInt8) (w : World) :
    Calls Tryd.prog 70 #[.int .u8 (b.toNat : Int)] w fun e w' => e = .returned (.bool (blankB b)) ∧ w = w' := by
  have hi := blankB_iff (b := b)
  obtain ⟨p, hp⟩ : ∃ p, p = blankB b := ⟨_, rfl⟩
  rw [← hp] at hi ⊢
  obtain ⟨c, hc⟩ : ∃ c : Int, c = (b.toNat : Int) := ⟨_, rfl⟩
  rw [← hc] at hi ⊢
  clear hp hc
  by_cases h1 : c = 32
  · have := hi.2 (.inl h1)
    subst this
    subst h1
    clear hi
    go_enter Tryd.func70, Tryd.ntmps70
    go_wp2
    go_ret
    exact ⟨rfl, rfl⟩
  · by_cases h2 : c = 9
    · have := hi.2 (.inr h2)
      subst this
      subst h2
      clear hi
      go_enter Tryd.func70, Tryd.ntmps70
      go_wp2
      go_ret
      exact ⟨rfl, rfl⟩
    · have := bool_not hi (fun h => h.elim h1 h2)
      subst this
      clear hi
      go_enter Tryd.func70, Tryd.ntmps70
      go_wp2
      go_ret
      exact ⟨ret_bool (by simp [h1, h2]), rfl⟩
/-- The value of a hexadecimal digit, or 16. -/
def digV (b : UInt8) : Nat := match hexV b with | some n => n | none => 16
theorem digV_is (b : UInt8) : (digV b : Int) =
    if 48 ≤ (b.toNat : Int) ∧ (b.toNat : Int) ≤ 57 then (b.toNat : Int) - 48
    else if 97 ≤ (b.toNat : Int) ∧ (b.toNat : Int) ≤ 102 then (b.toNat : Int) - 97 + 10
    else if 65 ≤ (b.toNat : Int) ∧ (b.toNat : Int) ≤ 70 then (b.toNat : Int) - 65 + 10 else 16 := by
  unfold digV hexV
  by_cases h1 : 48 ≤ b.toNat ∧ b.toNat ≤ 57
  · have e1 : 48 ≤ (b.toNat : Int) ∧ (b.toNat : Int) ≤ 57 := by omega
    rw [if_pos h1, if_pos e1]; simp only; omega
  · have e1 : ¬ (48 ≤ (b.toNat : Int) ∧ (b.toNat : Int) ≤ 57) := by omega
    rw [if_neg h1, if_neg e1]
    by_cases h2 : 97 ≤ b.toNat ∧ b.toNat ≤ 102
    · have e2 : 97 ≤ (b.toNat : Int) ∧ (b.toNat : Int) ≤ 102 := by omega
      rw [if_pos h2, if_pos e2]; simp only; omega
    · have e2 : ¬ (97 ≤ (b.toNat : Int) ∧ (b.toNat : Int) ≤ 102) := by omega
      rw [if_neg h2, if_neg e2]
      by_cases h3 : 65 ≤ b.toNat ∧ b.toNat ≤ 70
      · have e3 : 65 ≤ (b.toNat : Int) ∧ (b.toNat : Int) ≤ 70 := by omega
        rw [if_pos h3, if_pos e3]; simp only; omega
      · have e3 : ¬ (65 ≤ (b.toNat : Int) ∧ (b.toNat : Int) ≤ 70) := by omega
        rw [if_neg h3, if_neg e3]; rfl
theorem digit_any (b : UInt8) (w : World) :
    Calls Tryd.prog 58 #[.int .u8 (b.toNat : Int)] w fun e w' => e = .returned (.int .u8 (digV b : Int)) ∧ w = w' := by
  rw [digV_is]
  have hb : b.toNat < 256 := UInt8.toNat_lt b
  obtain ⟨c, hc⟩ : ∃ c : Int, c = (b.toNat : Int) := ⟨_, rfl⟩
  rw [← hc]
  have l1 : 0 ≤ c := by omega
  have l2 : c ≤ 255 := by omega
  clear hc hb
  by_cases h1 : 48 ≤ c ∧ c ≤ 57
  · rw [if_pos h1]
    obtain ⟨g1, g2⟩ := h1
    go_enter Tryd.func58, Tryd.ntmps58
    go_wp2
    go_ret
    exact ⟨rfl, rfl⟩
  · rw [if_neg h1]
    have k1 : ¬ 48 ≤ c ∨ ¬ c ≤ 57 := by omega
    clear h1
    by_cases h2 : 97 ≤ c ∧ c ≤ 102
    · rw [if_pos h2]
      obtain ⟨g1, g2⟩ := h2
      have g3 : 48 ≤ c := by omega
      have g4 : ¬ c ≤ 57 := by omega
      clear k1
      go_enter Tryd.func58, Tryd.ntmps58
      go_wp2
      go_ret
      exact ⟨rfl, rfl⟩
    · rw [if_neg h2]
      by_cases h3 : 65 ≤ c ∧ c ≤ 70
      · rw [if_pos h3]
        obtain ⟨g1, g2⟩ := h3
        have g3 : 48 ≤ c := by omega
        have g4 : ¬ c ≤ 57 := by omega
        have g5 : ¬ 97 ≤ c := by omega
        clear k1 h2
        go_enter Tryd.func58, Tryd.ntmps58
        go_wp2
        go_ret
        exact ⟨rfl, rfl⟩
      · rw [if_neg h3]
        go_enter Tryd.func58, Tryd.ntmps58
        go_wp2
        all_goals
          first
          | omega
          | (go_ret; exact ⟨rfl, rfl⟩)
end Go.Proofs.YtkmkhegekonbmaaDoor
