/- What Parse answers, in closed form: of readers as data. Nothing here speaks of the program. -/
import Derived.Test.YtcmdndgaggbhoaaGreatDoorEventM
namespace Go.Proofs.YtcmdndgaggbhoaaGreatDoor.Ev
open Go.RowKit
open Wr

theorem openR (s : ByteArray) (a : Nat) (e f : Nat) (ha : a ≤ s.size) (h : e = 0 ∧ f = 0 ∨ 1 ≤ e ∧ e ≤ 23 ∧ f ≤ s.size) : Rd.opened ⟨s, a, e, f⟩ = ⟨a, s.size, e, f, s⟩ := by
  unfold Rd.opened
  rw [if_pos (Go.Proofs.YtcmdndgaggbhoaaGreatDoor.soundI.2 ⟨by omega, by omega, by omega⟩)]
  rfl
theorem uintOk (s : ByteArray) (a n : Nat) (hn : isSz n = true) (h : a + n ≤ s.size) : uintR ⟨s, a, 0, 0⟩ n = (⟨s, (a + n : Nat), 0, 0⟩, numOf (s.extract a (a + n)).data.toList) := by
  unfold uintR
  have ho := openR s a 0 0 (by omega) (.inl ⟨rfl, rfl⟩)
  rw [show ((0 : Nat) : Int) = 0 from rfl] at ho
  rw [ho]
  have ht : (Sp.take ⟨a, s.size, 0, 0, s⟩ n) = (⟨(a + n : Nat), s.size, 0, 0, s⟩, s.extract a (a + n)) := by
    unfold Sp.take Sp.claim
    rw [if_neg (fun h => h rfl), if_neg (by show ¬ (s.size : Int) - a < n; omega)]
    rfl
  unfold Sp.field
  rw [if_pos hn, ht]
  rfl
theorem uintShort (s : ByteArray) (a n : Nat) (hn : isSz n = true) (ha : a ≤ s.size) (h : s.size < a + n) : uintR ⟨s, a, 0, 0⟩ n = (⟨s, a, 5, a⟩, 0) := by
  unfold uintR
  have ho := openR s a 0 0 ha (.inl ⟨rfl, rfl⟩)
  rw [show ((0 : Nat) : Int) = 0 from rfl] at ho
  rw [ho]
  have ht : (Sp.take ⟨a, s.size, 0, 0, s⟩ n) = (⟨a, s.size, 5, a, s⟩, ⟨#[]⟩) := by
    unfold Sp.take Sp.claim Sp.failAt
    rw [if_neg (fun h => h rfl), if_pos (by show (s.size : Int) - a < n; omega)]
    rfl
  unfold Sp.field
  rw [if_pos hn, ht]
  rfl
theorem uintBad (s : ByteArray) (a n e f : Nat) (hn : isSz n = true) (ha : a ≤ s.size) (h1 : 1 ≤ e) (h2 : e ≤ 23) (h3 : f ≤ s.size) : uintR ⟨s, a, e, f⟩ n = (⟨s, a, e, f⟩, 0) := by
  unfold uintR
  rw [openR s a e f ha (.inr ⟨h1, h2, h3⟩)]
  have ht : (Sp.take ⟨a, s.size, e, f, s⟩ n) = (⟨a, s.size, e, f, s⟩, ⟨#[]⟩) := by
    unfold Sp.take Sp.claim
    rw [if_pos (by show (e : Int) ≠ 0; omega)]
    rfl
  unfold Sp.field
  rw [if_pos hn, ht]
  rfl
theorem failOk (s : ByteArray) (a at_ : Nat) (ha : a ≤ s.size) (h : at_ ≤ s.size) : failR ⟨s, a, 0, 0⟩ 11 at_ = ⟨s, a, 11, at_⟩ := by
  unfold failR
  have ho := openR s a 0 0 ha (.inl ⟨rfl, rfl⟩)
  rw [show ((0 : Nat) : Int) = 0 from rfl] at ho
  rw [ho, show (if isErr 11 = true then (11 : Int) else 3) = 11 by decide]
  have : min (max (at_ : Int) 0) (s.size : Int) = at_ := by omega
  show (Sp.failAt _ _ (min (max (at_ : Int) 0) (s.size : Int))).given = _
  rw [this]
  rfl
theorem failBad (s : ByteArray) (a at_ e f : Nat) (ha : a ≤ s.size) (h1 : 1 ≤ e) (h2 : e ≤ 23) (h3 : f ≤ s.size) : failR ⟨s, a, e, f⟩ 11 at_ = ⟨s, a, e, f⟩ := by
  unfold failR
  rw [openR s a e f ha (.inr ⟨h1, h2, h3⟩)]
  unfold Sp.failAt
  rw [if_neg (by show ¬ (e : Int) = 0; omega)]
  rfl
theorem endOk (s : ByteArray) (a : Nat) (ha : a ≤ s.size) : ((endR ⟨s, a, 0, 0⟩).e, (endR ⟨s, a, 0, 0⟩).a) = if a < s.size then ((4 : Int), (a : Int)) else (0, 0) := by
  unfold endR
  have ho := openR s a 0 0 ha (.inl ⟨rfl, rfl⟩)
  rw [show ((0 : Nat) : Int) = 0 from rfl] at ho
  rw [ho]
  by_cases h : a < s.size
  · rw [if_pos (show (a : Int) < s.size by omega), if_pos h]; rfl
  · rw [if_neg (show ¬ (a : Int) < s.size by omega), if_neg h]
theorem endBad (s : ByteArray) (a e f : Nat) (ha : a ≤ s.size) (h1 : 1 ≤ e) (h2 : e ≤ 23) (h3 : f ≤ s.size) : ((endR ⟨s, a, e, f⟩).e, (endR ⟨s, a, e, f⟩).a) = ((e : Int), (f : Int)) := by
  unfold endR
  rw [openR s a e f ha (.inr ⟨h1, h2, h3⟩)]
  unfold Sp.failAt
  rw [if_neg (show ¬ (e : Int) = 0 by omega)]
  split <;> rfl
end Go.Proofs.YtcmdndgaggbhoaaGreatDoor.Ev
