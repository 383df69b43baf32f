/- Walks: tests of a byte, the program's and the document's own. -/
import Derived.Test.YtmdlndmibodimaaDoorProg
import Derived.Test.YtmdlndmibodimaaDoorTokSpec
import Derived.Test.YtmdlndmibodimaaDoorBlk
import Derived.Outline
namespace Go.Proofs.YtmdlndmibodimaaDoor
open Go.RowKit
open Tk7

theorem bool_not {p : Bool} {Q : Prop} (h : p = true ↔ Q) (hq : ¬ Q) : p = false := by
  cases hp : p with
  | false => rfl
  | true => exact absurd (h.1 hp) hq
theorem u8_is {b : UInt8} {n : Nat} (hn : n < 256) : b = UInt8.ofNat n ↔ (b.toNat : Int) = n := by
  constructor
  · rintro rfl
    rw [UInt8.toNat_ofNat', Nat.mod_eq_of_lt hn]
  · intro h
    apply UInt8.toNat_inj.1
    rw [UInt8.toNat_ofNat', Nat.mod_eq_of_lt hn]
    omega
theorem beq_is {b : UInt8} (n : Nat) (hn : n < 256) : (b == UInt8.ofNat n) = true ↔ (b.toNat : Int) = n := by rw [beq_iff_eq, u8_is hn]
theorem blankB_iff {b : UInt8} : blankB b = true ↔ (b.toNat : Int) = 9 ∨ (b.toNat : Int) = 10 ∨ (b.toNat : Int) = 13 ∨ (b.toNat : Int) = 32 := by
  have h := @beq_is b
  unfold blankB
  rw [Bool.or_eq_true, Bool.or_eq_true, Bool.or_eq_true, show (9 : UInt8) = UInt8.ofNat 9 from rfl, show (10 : UInt8) = UInt8.ofNat 10 from rfl, show (13 : UInt8) = UInt8.ofNat 13 from rfl, show (32 : UInt8) = UInt8.ofNat 32 from rfl, h 9 (by decide), h 10 (by decide), h 13 (by decide), h 32 (by decide)]
  constructor
  · rintro (((h | h) | h) | h)
    · exact .inl h
    · exact .inr (.inl h)
    · exact .inr (.inr (.inl h))
    · exact .inr (.inr (.inr h))
  · rintro (h | h | h | h)
    · exact .inl (.inl (.inl h))
    · exact .inl (.inl (.inr h))
    · exact .inl (.inr h)
    · exact .inr h
theorem byte_lt (b : UInt8) : (b.toNat : Int) < 256 ∧ 0 ≤ (b.toNat : Int) := by have := b.toNat_lt; omega
theorem smallB_iff {b : UInt8} : smallB b = true ↔ 97 ≤ (b.toNat : Int) ∧ (b.toNat : Int) ≤ 122 := by
  unfold smallB
  rw [Bool.and_eq_true, decide_eq_true_eq, decide_eq_true_eq]
  omega
theorem largeB_iff {b : UInt8} : largeB b = true ↔ 65 ≤ (b.toNat : Int) ∧ (b.toNat : Int) ≤ 90 := by
  unfold largeB
  rw [Bool.and_eq_true, decide_eq_true_eq, decide_eq_true_eq]
  omega
theorem digB_iff {b : UInt8} : digB b = true ↔ 48 ≤ (b.toNat : Int) ∧ (b.toNat : Int) ≤ 57 := by
  unfold digB
  rw [Bool.and_eq_true, decide_eq_true_eq, decide_eq_true_eq]
  omega
theorem isSmall_any (b : UInt8) (w : World) :
    Calls Tryd.prog 47 #[.int .u8 (b.toNat : Int)] w fun e w' => e = .returned (.bool (smallB b)) ∧ w = w' := by
  have hj := smallB_iff (b := b)
  obtain ⟨p, hp⟩ : ∃ p, p = smallB b := ⟨_, rfl⟩
  rw [← hp] at hj ⊢
  obtain ⟨c, hc⟩ : ∃ c : Int, c = (b.toNat : Int) := ⟨_, rfl⟩
  rw [← hc] at hj ⊢
  clear hp hc
  by_cases h1 : 97 ≤ c
  · by_cases h2 : c ≤ 122
    · have := hj.2 ⟨h1, h2⟩
      subst this
      clear hj
      go_enter Tryd.func47, Tryd.ntmps47
      go_wp2
      go_ret
      exact ⟨rfl, rfl⟩
    · have := bool_not hj (fun h => h2 h.2)
      subst this
      clear hj
      go_enter Tryd.func47, Tryd.ntmps47
      go_wp2
      go_ret
      exact ⟨rfl, rfl⟩
  · have := bool_not hj (fun h => h1 h.1)
    subst this
    clear hj
    go_enter Tryd.func47, Tryd.ntmps47
    go_wp2
    go_ret
    exact ⟨rfl, rfl⟩
theorem isDigit_any (b : UInt8) (w : World) :
    Calls Tryd.prog 48 #[.int .u8 (b.toNat : Int)] w fun e w' => e = .returned (.bool (digB b)) ∧ w = w' := by
  have hj := digB_iff (b := b)
  obtain ⟨p, hp⟩ : ∃ p, p = digB b := ⟨_, rfl⟩
  rw [← hp] at hj ⊢
  obtain ⟨c, hc⟩ : ∃ c : Int, c = (b.toNat : Int) := ⟨_, rfl⟩
  rw [← hc] at hj ⊢
  clear hp hc
  by_cases h1 : 48 ≤ c
  · by_cases h2 : c ≤ 57
    · have := hj.2 ⟨h1, h2⟩
      subst this
      clear hj
      go_enter Tryd.func48, Tryd.ntmps48
      go_wp2
      go_ret
      exact ⟨rfl, rfl⟩
    · have := bool_not hj (fun h => h2 h.2)
      subst this
      clear hj
      go_enter Tryd.func48, Tryd.ntmps48
      go_wp2
      go_ret
      exact ⟨rfl, rfl⟩
  · have := bool_not hj (fun h => h1 h.1)
    subst this
    clear hj
    go_enter Tryd.func48, Tryd.ntmps48
    go_wp2
    go_ret
    exact ⟨rfl, rfl⟩
theorem isBlank_any (b : UInt8) (w : World) :
    Calls Tryd.prog 45 #[.int .u8 (b.toNat : Int)] w fun e w' => e = .returned (.bool (blankB b)) ∧ w = w' := by
  have hj := blankB_iff (b := b)
  obtain ⟨p, hp⟩ : ∃ p, p = blankB b := ⟨_, rfl⟩
  rw [← hp] at hj ⊢
  obtain ⟨c, hc⟩ : ∃ c : Int, c = (b.toNat : Int) := ⟨_, rfl⟩
  rw [← hc] at hj ⊢
  clear hp hc
  by_cases h9 : c = 9
  · subst h9
    have := hj.2 (.inl rfl)
    subst this
    clear hj
    go_enter Tryd.func45, Tryd.ntmps45
    go_wp2
    go_ret
    exact ⟨rfl, rfl⟩
  by_cases h10 : c = 10
  · subst h10
    have := hj.2 (.inr (.inl rfl))
    subst this
    clear hj
    go_enter Tryd.func45, Tryd.ntmps45
    go_wp2
    go_ret
    exact ⟨rfl, rfl⟩
  by_cases h13 : c = 13
  · subst h13
    have := hj.2 (.inr (.inr (.inl rfl)))
    subst this
    clear hj
    go_enter Tryd.func45, Tryd.ntmps45
    go_wp2
    go_ret
    exact ⟨rfl, rfl⟩
  by_cases h32 : c = 32
  · subst h32
    have := hj.2 (.inr (.inr (.inr rfl)))
    subst this
    clear hj
    go_enter Tryd.func45, Tryd.ntmps45
    go_wp2
    go_ret
    exact ⟨rfl, rfl⟩
  have := bool_not hj (fun h => h.elim h9 (fun h => h.elim h10 (fun h => h.elim h13 h32)))
  subst this
  have b9 : (c == 9) = false := by rw [beq_eq_false_iff_ne]; exact h9
  have b10 : (c == 10) = false := by rw [beq_eq_false_iff_ne]; exact h10
  have b13 : (c == 13) = false := by rw [beq_eq_false_iff_ne]; exact h13
  have b32 : (c == 32) = false := by rw [beq_eq_false_iff_ne]; exact h32
  clear hj
  go_enter Tryd.func45, Tryd.ntmps45
  go_wp2
  go_ret
  exact ⟨rfl, rfl⟩
theorem rsmall_any (b : UInt8) (w : World) :
    Calls Tryd.prog 56 #[.int .u8 (b.toNat : Int)] w fun e w' => e = .returned (.bool (smallB b)) ∧ w = w' := by
  have hj := smallB_iff (b := b)
  obtain ⟨p, hp⟩ : ∃ p, p = smallB b := ⟨_, rfl⟩
  rw [← hp] at hj ⊢
  obtain ⟨c, hc⟩ : ∃ c : Int, c = (b.toNat : Int) := ⟨_, rfl⟩
  rw [← hc] at hj ⊢
  clear hp hc
  by_cases h1 : 97 ≤ c
  · by_cases h2 : c ≤ 122
    · have := hj.2 ⟨h1, h2⟩
      subst this
      clear hj
      go_enter Tryd.func56, Tryd.ntmps56
      go_wp2
      go_ret
      exact ⟨rfl, rfl⟩
    · have := bool_not hj (fun h => h2 h.2)
      subst this
      clear hj
      go_enter Tryd.func56, Tryd.ntmps56
      go_wp2
      go_ret
      exact ⟨rfl, rfl⟩
  · have := bool_not hj (fun h => h1 h.1)
    subst this
    clear hj
    go_enter Tryd.func56, Tryd.ntmps56
    go_wp2
    go_ret
    exact ⟨rfl, rfl⟩
theorem rlarge_any (b : UInt8) (w : World) :
    Calls Tryd.prog 57 #[.int .u8 (b.toNat : Int)] w fun e w' => e = .returned (.bool (largeB b)) ∧ w = w' := by
  have hj := largeB_iff (b := b)
  obtain ⟨p, hp⟩ : ∃ p, p = largeB b := ⟨_, rfl⟩
  rw [← hp] at hj ⊢
  obtain ⟨c, hc⟩ : ∃ c : Int, c = (b.toNat : Int) := ⟨_, rfl⟩
  rw [← hc] at hj ⊢
  clear hp hc
  by_cases h1 : 65 ≤ c
  · by_cases h2 : c ≤ 90
    · have := hj.2 ⟨h1, h2⟩
      subst this
      clear hj
      go_enter Tryd.func57, Tryd.ntmps57
      go_wp2
      go_ret
      exact ⟨rfl, rfl⟩
    · have := bool_not hj (fun h => h2 h.2)
      subst this
      clear hj
      go_enter Tryd.func57, Tryd.ntmps57
      go_wp2
      go_ret
      exact ⟨rfl, rfl⟩
  · have := bool_not hj (fun h => h1 h.1)
    subst this
    clear hj
    go_enter Tryd.func57, Tryd.ntmps57
    go_wp2
    go_ret
    exact ⟨rfl, rfl⟩
theorem rdigit_any (b : UInt8) (w : World) :
    Calls Tryd.prog 68 #[.int .u8 (b.toNat : Int)] w fun e w' => e = .returned (.bool (digB b)) ∧ w = w' := by
  have hj := digB_iff (b := b)
  obtain ⟨p, hp⟩ : ∃ p, p = digB b := ⟨_, rfl⟩
  rw [← hp] at hj ⊢
  obtain ⟨c, hc⟩ : ∃ c : Int, c = (b.toNat : Int) := ⟨_, rfl⟩
  rw [← hc] at hj ⊢
  clear hp hc
  by_cases h1 : 48 ≤ c
  · by_cases h2 : c ≤ 57
    · have := hj.2 ⟨h1, h2⟩
      subst this
      clear hj
      go_enter Tryd.func68, Tryd.ntmps68
      go_wp2
      go_ret
      exact ⟨rfl, rfl⟩
    · have := bool_not hj (fun h => h2 h.2)
      subst this
      clear hj
      go_enter Tryd.func68, Tryd.ntmps68
      go_wp2
      go_ret
      exact ⟨rfl, rfl⟩
  · have := bool_not hj (fun h => h1 h.1)
    subst this
    clear hj
    go_enter Tryd.func68, Tryd.ntmps68
    go_wp2
    go_ret
    exact ⟨rfl, rfl⟩
theorem rblank_any (b : UInt8) (w : World) :
    Calls Tryd.prog 37 #[.int .u8 (b.toNat : Int)] w fun e w' => e = .returned (.bool (blankB b)) ∧ w = w' := by
  have hj := blankB_iff (b := b)
  obtain ⟨p, hp⟩ : ∃ p, p = blankB b := ⟨_, rfl⟩
  rw [← hp] at hj ⊢
  obtain ⟨c, hc⟩ : ∃ c : Int, c = (b.toNat : Int) := ⟨_, rfl⟩
  rw [← hc] at hj ⊢
  clear hp hc
  by_cases h9 : c = 9
  · subst h9
    have := hj.2 (.inl rfl)
    subst this
    clear hj
    go_enter Tryd.func37, Tryd.ntmps37
    go_wp2
    go_ret
    exact ⟨rfl, rfl⟩
  by_cases h10 : c = 10
  · subst h10
    have := hj.2 (.inr (.inl rfl))
    subst this
    clear hj
    go_enter Tryd.func37, Tryd.ntmps37
    go_wp2
    go_ret
    exact ⟨rfl, rfl⟩
  by_cases h13 : c = 13
  · subst h13
    have := hj.2 (.inr (.inr (.inl rfl)))
    subst this
    clear hj
    go_enter Tryd.func37, Tryd.ntmps37
    go_wp2
    go_ret
    exact ⟨rfl, rfl⟩
  by_cases h32 : c = 32
  · subst h32
    have := hj.2 (.inr (.inr (.inr rfl)))
    subst this
    clear hj
    go_enter Tryd.func37, Tryd.ntmps37
    go_wp2
    go_ret
    exact ⟨rfl, rfl⟩
  have := bool_not hj (fun h => h.elim h9 (fun h => h.elim h10 (fun h => h.elim h13 h32)))
  subst this
  have b9 : (c == 9) = false := by rw [beq_eq_false_iff_ne]; exact h9
  have b10 : (c == 10) = false := by rw [beq_eq_false_iff_ne]; exact h10
  have b13 : (c == 13) = false := by rw [beq_eq_false_iff_ne]; exact h13
  have b32 : (c == 32) = false := by rw [beq_eq_false_iff_ne]; exact h32
  clear hj
  go_enter Tryd.func37, Tryd.ntmps37
  go_wp2
  go_ret
  exact ⟨rfl, rfl⟩
end Go.Proofs.YtmdlndmibodimaaDoor
