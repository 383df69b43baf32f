/- Walks: the reference's bytes of words, and bare words. -/
import Derived.Test.YtkmkhegekonbmaaDoorProg
import Derived.Test.YtkmkhegekonbmaaDoorRowNum
import Derived.Test.YtkmkhegekonbmaaDoorBlk
import Derived.Outline
import Derived.Handy
import Derived.Deep.LoopGhost
import Derived.Deep.QuietTactic
import Derived.BigQuiet
import Derived.WalkSmall
import Derived.WalkMore
import Derived.IntWalk
import Derived.Lib.Hide
namespace Go.Proofs.YtkmkhegekonbmaaDoor
open Go.RowKit
open Rw6

theorem byte_at (s : ByteArray) (k : Nat) (h : k < s.size) : s.data.toList.take (k + 1) = s.data.toList.take k ++ [s[k]'h] := bytes_take s k h
theorem toL (s : ByteArray) : s.toList = s.data.toList := by rw [ByteArray.toList_eq]
theorem strEmpty {s : ByteArray} (h : s.toList ≠ []) : s.toList.isEmpty = false := by
  cases e : s.toList with
  | nil => exact absurd e h
  | cons _ _ => rfl
theorem strOf_size (l : List UInt8) : (strOf l).size = l.length := by simp [strOf, ByteArray.size]
theorem strOf_dat (l : List UInt8) : (strOf l).data.toList = l := by simp [strOf]
theorem str_is {s : ByteArray} {l : List UInt8} (h : s.data.toList = l) : s = strOf l := by
  cases s with
  | mk d => unfold strOf; congr; rw [← h]

theorem printB_iff {b : UInt8} : printB b = true ↔ 32 ≤ b.toNat ∧ b.toNat ≤ 126 := by simp [printB]
theorem refPrint_any (b : UInt8) (w : World) :
    Calls Tryd.prog 40 #[.int .u8 (b.toNat : Int)] w fun e w' => e = .returned (.bool (printB b)) ∧ w = w' := by
  obtain ⟨p, hp⟩ : ∃ p, p = printB b := ⟨_, rfl⟩
  rw [← hp]
  have hi := printB_iff (b := b)
  rw [← hp] at hi
  obtain ⟨c, hc⟩ : ∃ c : Int, c = (b.toNat : Int) := ⟨_, rfl⟩
  rw [← hc]
  have hj : p = true ↔ 32 ≤ c ∧ c ≤ 126 := by rw [hi]; omega
  clear hi hp hc
  by_cases h1 : 32 ≤ c
  · by_cases h2 : c ≤ 126
    · have := hj.2 ⟨h1, h2⟩
      subst this
      clear hj
      go_enter Tryd.func40, Tryd.ntmps40
      go_wp2
      go_ret
      exact ⟨rfl, rfl⟩
    · have : p = false := by
        cases hq : p with
        | false => rfl
        | true => exact absurd (hj.1 hq).2 h2
      subst this
      clear hj
      go_enter Tryd.func40, Tryd.ntmps40
      go_wp2
      go_ret
      exact ⟨rfl, rfl⟩
  · have : p = false := by
      cases hq : p with
      | false => rfl
      | true => exact absurd (hj.1 hq).1 h1
    subst this
    clear hj
    go_enter Tryd.func40, Tryd.ntmps40
    go_wp2
    go_ret
    exact ⟨rfl, rfl⟩
theorem u8_ne {b : UInt8} {k : Nat} (h : k < 256) : b ≠ UInt8.ofNat k ↔ ¬ (b.toNat : Int) = k := by
  constructor
  · intro hb e
    apply hb
    apply UInt8.toNat_inj.1
    rw [UInt8.toNat_ofNat']
    omega
  · intro hb e
    apply hb
    rw [e, UInt8.toNat_ofNat']
    omega
theorem plainB_iff {b : UInt8} : plainB b = true ↔ printB b = true ∧ ¬ (b.toNat : Int) = 32 ∧ ¬ (b.toNat : Int) = 34 ∧ ¬ (b.toNat : Int) = 92 := by
  unfold plainB
  rw [Bool.and_eq_true, Bool.and_eq_true, Bool.and_eq_true, bne_iff_ne, bne_iff_ne, bne_iff_ne]
  rw [show (32 : UInt8) = UInt8.ofNat 32 from rfl, show (34 : UInt8) = UInt8.ofNat 34 from rfl, show (92 : UInt8) = UInt8.ofNat 92 from rfl]
  rw [u8_ne (by decide), u8_ne (by decide), u8_ne (by decide)]
  constructor
  · rintro ⟨⟨⟨h1, h2⟩, h3⟩, h4⟩; exact ⟨h1, h2, h3, h4⟩
  · rintro ⟨h1, h2, h3, h4⟩; exact ⟨⟨⟨h1, h2⟩, h3⟩, h4⟩
theorem refPlain_any (b : UInt8) (w : World) :
    Calls Tryd.prog 56 #[.int .u8 (b.toNat : Int)] w fun e w' => e = .returned (.bool (plainB b)) ∧ w = w' := by
  have hP := fun w => refPrint_any b w
  have hi := plainB_iff (b := b)
  obtain ⟨p, hp⟩ : ∃ p, p = plainB b := ⟨_, rfl⟩
  obtain ⟨q, hq⟩ : ∃ q, q = printB b := ⟨_, rfl⟩
  rw [← hp, ← hq] at hi
  rw [← hp]
  rw [← hq] at hP
  obtain ⟨c, hc⟩ : ∃ c : Int, c = (b.toNat : Int) := ⟨_, rfl⟩
  rw [← hc] at hP hi ⊢
  clear hp hq hc
  by_cases h1 : c = 32
  · have : p = false := by
      cases hz : p with
      | false => rfl
      | true => exact absurd h1 (hi.1 hz).2.1
    subst this
    subst h1
    clear hi
    cases q
    all_goals
      go_enter Tryd.func56, Tryd.ntmps56
      go_wp2_with (go_at_call 40; refine (hP _).mono ?_; rintro e w' ⟨rfl, rfl⟩)
      go_ret
      exact ⟨rfl, rfl⟩
  · by_cases h2 : c = 34
    · have : p = false := by
        cases hz : p with
        | false => rfl
        | true => exact absurd h2 (hi.1 hz).2.2.1
      subst this
      subst h2
      clear hi
      cases q
      all_goals
        go_enter Tryd.func56, Tryd.ntmps56
        go_wp2_with (go_at_call 40; refine (hP _).mono ?_; rintro e w' ⟨rfl, rfl⟩)
        go_ret
        exact ⟨rfl, rfl⟩
    · by_cases h3 : c = 92
      · have : p = false := by
          cases hz : p with
          | false => rfl
          | true => exact absurd h3 (hi.1 hz).2.2.2
        subst this
        subst h3
        clear hi
        cases q
        all_goals
          go_enter Tryd.func56, Tryd.ntmps56
          go_wp2_with (go_at_call 40; refine (hP _).mono ?_; rintro e w' ⟨rfl, rfl⟩)
          go_ret
          exact ⟨rfl, rfl⟩
      · have : p = q := Bool.eq_iff_iff.2 ⟨fun h => (hi.1 h).1, fun h => hi.2 ⟨h, h1, h2, h3⟩⟩
        subst this
        clear hi
        cases p
        all_goals
          go_enter Tryd.func56, Tryd.ntmps56
          go_wp2_with (go_at_call 40; refine (hP _).mono ?_; rintro e w' ⟨rfl, rfl⟩)
          go_ret
          exact ⟨ret_bool (by simp [h1, h2, h3]), rfl⟩
end Go.Proofs.YtkmkhegekonbmaaDoor
