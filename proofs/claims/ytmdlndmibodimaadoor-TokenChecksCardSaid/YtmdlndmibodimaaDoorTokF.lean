/- Walks: the program's reader goes behind one token. -/
import Derived.Test.YtmdlndmibodimaaDoorTokE
import Derived.Deep.RegionHeld3
namespace Go.Proofs.YtmdlndmibodimaaDoor
open Go.RowKit
open Tk7

theorem prefix1 (a b : UInt8) (r : List UInt8) : [a].isPrefixOf (b :: r) = (a == b) := by
  cases r <;> simp [List.isPrefixOf]
theorem prefix2 (a c b : UInt8) (r : List UInt8) : [a, c].isPrefixOf (b :: r) = (a == b && r.head? == some c) := by
  cases r with
  | nil => simp [List.isPrefixOf]
  | cons d r =>
    simp only [List.isPrefixOf, Bool.and_true, List.head?_cons]
    have : (c == d) = (some d == some c) := by
      by_cases h : c = d
      · subst h; simp
      · have h2 : ¬ d = c := fun e => h e.symm
        rw [beq_eq_false_iff_ne.2 h]
        symm
        rw [beq_eq_false_iff_ne]
        exact fun e => h2 (Option.some.inj e)
    rw [this]
def findQ (b : UInt8) (q : Bool) : List UInt8 := ((([33, 61], 33 == b && q) :: ([60, 61], 60 == b && q) :: ([62, 61], 62 == b && q) :: ([61], 61 == b) :: ([60], 60 == b) :: ([62], 62 == b) :: ([59], 59 == b) :: ([124], 124 == b) :: ([123], 123 == b) :: ([125], 125 == b) :: ([44], 44 == b) :: ([40], 40 == b) :: ([41], 41 == b) :: ([91], 91 == b) :: ([93], 93 == b) :: ([64], 64 == b) :: ([58], 58 == b) :: [] : List (List UInt8 × Bool)).find? (·.2)).elim [] (·.1)
theorem find_map (L : List (List UInt8)) (p : List UInt8 → Bool) : (L.find? p).getD [] = ((L.map fun c => (c, p c)).find? (·.2)).elim [] (·.1) := by
  induction L with
  | nil => rfl
  | cons c L ih =>
    rw [List.find?_cons, List.map_cons, List.find?_cons]
    cases p c with
    | true => rfl
    | false => exact ih
theorem first_find (b : UInt8) (r : List UInt8) : firstS signsL (b :: r) = findQ b (r.head? == some 61) := by
  unfold firstS
  rw [find_map]
  unfold signsL findQ
  simp only [List.map_cons, List.map_nil, prefix1, prefix2]
def takeQ (b : UInt8) (q : Bool) : List UInt8 := if twoB b && q then [b, 61] else if oneB b then [b] else []
theorem find_take : ∀ b : Fin 256, ∀ q : Bool, findQ (UInt8.ofNat b.val) q = takeQ (UInt8.ofNat b.val) q := by decide +kernel
theorem find_take' (b : UInt8) (q : Bool) : findQ b q = takeQ b q := by
  have := find_take ⟨b.toNat, b.toNat_lt⟩ q
  simpa using this
/-- The first sign with which l begins is its longest one. -/
theorem first_sign (l : List UInt8) : firstS signsL l = l.take (signG l) := by
  cases l with
  | nil => decide
  | cons b r =>
    rw [first_find, find_take']
    have hs : signG (b :: r) = if twoB b && r.head? == some 61 then 2 else if oneB b then 1 else 0 := rfl
    rw [hs]
    unfold takeQ
    by_cases h : (twoB b && r.head? == some 61) = true
    · rw [if_pos h, if_pos h]
      cases r with
      | nil => simp at h
      | cons c r =>
        have : c = 61 := by simp at h; exact h.2
        subst this
        rfl
    · rw [if_neg h, if_neg h]
      split <;> rfl
theorem sign_le (l : List UInt8) : signG l ≤ l.length := by
  unfold signG
  cases l with
  | nil => simp
  | cons b r =>
    simp only
    split
    · rename_i h
      cases r with
      | nil => simp at h
      | cons c r => simp
    · split <;> simp
/-- The kind that the reader tells. -/
def kindR (l : List UInt8) : Nat := if (begG l).2 = 0 then 0 else (begG l).1
/-- What going behind a token gives. -/
def PassP (w : World) (R : Nat) (s : ByteArray) (k : Nat) (e : Ending) (w' : World) : Prop :=
  ∃ k' : Nat, e = .returned (.int .i64 (kindR (restAt s k) : Int)) ∧ Only R w w' ∧ Cur w' R s k' k ∧ k' ≤ s.size ∧ k ≤ k' ∧ (kindR (restAt s k) ≠ 0 → k' = k + (begG (restAt s k)).2)
theorem kindB_1 {b : UInt8} (h : smallB b = true) : kindB b = 1 := by unfold kindB; rw [if_pos h]
theorem kindB_2 {b : UInt8} (h0 : smallB b = false) (h : largeB b = true) : kindB b = 2 := by unfold kindB; rw [if_neg (by rw [h0]; decide), if_pos h]
theorem kindB_3 {b : UInt8} (h0 : smallB b = false) (h1 : largeB b = false) (h : digB b = true) : kindB b = 3 := by unfold kindB; rw [if_neg (by rw [h0]; decide), if_neg (by rw [h1]; decide), if_pos h]
theorem kindB_5 {b : UInt8} (h0 : smallB b = false) (h1 : largeB b = false) (h2 : digB b = false) (h : (b == 45) = true) : kindB b = 5 := by unfold kindB; rw [if_neg (by rw [h0]; decide), if_neg (by rw [h1]; decide), if_neg (by rw [h2]; decide), if_pos h]
theorem kindB_4 {b : UInt8} (h0 : smallB b = false) (h1 : largeB b = false) (h2 : digB b = false) (h : (b == 45) = false) : kindB b = 4 := by unfold kindB; rw [if_neg (by rw [h0]; decide), if_neg (by rw [h1]; decide), if_neg (by rw [h2]; decide), if_neg (by rw [h]; decide)]
theorem beg_1 {b : UInt8} {r : List UInt8} (h : smallB b = true) : begG (b :: r) = (1, (r.takeWhile smallB).length + 1) := by unfold begG; simp only; rw [if_pos h]
theorem beg_2 {b : UInt8} {r : List UInt8} (h0 : smallB b = false) (h : largeB b = true) : begG (b :: r) = (2, 1) := by unfold begG; simp only; rw [if_neg (by rw [h0]; decide), if_pos h]
theorem beg_3 {b : UInt8} {r : List UInt8} (h0 : smallB b = false) (h1 : largeB b = false) (h : (digB b || b == 45) = true) : begG (b :: r) = (3, numG b r) := by unfold begG; simp only; rw [if_neg (by rw [h0]; decide), if_neg (by rw [h1]; decide), if_pos h]
theorem beg_4 {b : UInt8} {r : List UInt8} (h0 : smallB b = false) (h1 : largeB b = false) (h : (digB b || b == 45) = false) : begG (b :: r) = (4, signG (b :: r)) := by unfold begG; simp only; rw [if_neg (by rw [h0]; decide), if_neg (by rw [h1]; decide), if_neg (by rw [h]; decide)]
theorem dig_not45 {b : UInt8} (h : digB b = true) : (b == 45) = false := by
  rw [beq_eq_false_iff_ne]
  rintro rfl
  revert h
  decide
theorem num_dig {b : UInt8} {r : List UInt8} (h : digB b = true) : numG b r = if isNumG (b :: r.takeWhile digB) then (r.takeWhile digB).length + 1 else 0 := by
  have e : isNumG (b :: r.takeWhile digB) = rightD false (b :: r.takeWhile digB) := by
    unfold isNumG rightD
    rw [strip_cons, if_neg (by rw [dig_not45 h]; decide)]
    simp
  unfold numG
  rw [if_neg (by rw [dig_not45 h]; decide), e]
theorem num_min {r : List UInt8} : numG 45 r = if isNumG (45 :: r.takeWhile digB) then (r.takeWhile digB).length + 1 else 0 := by
  have e : isNumG (45 :: r.takeWhile digB) = rightD true (r.takeWhile digB) := by
    unfold isNumG rightD
    rw [strip_cons, if_pos (by decide)]
    simp
  unfold numG
  rw [if_pos (by decide), e]
theorem kindR_of {l : List UInt8} {kd n : Nat} (h : begG l = (kd, n)) : kindR l = if n = 0 then 0 else kd := by unfold kindR; rw [h]
end Go.Proofs.YtmdlndmibodimaaDoor
