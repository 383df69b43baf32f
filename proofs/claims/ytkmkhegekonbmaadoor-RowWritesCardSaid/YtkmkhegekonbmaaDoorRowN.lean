/- A line, letter by letter: what the program's reader takes one after the other. Nothing here speaks of the program. -/
import Derived.Test.YtkmkhegekonbmaaDoorRowM
namespace Go.Proofs.YtkmkhegekonbmaaDoor
open Go.RowKit
open Rw6

/-- The next letter of a quoted word, and what follows it. -/
def letG (l : List UInt8) : Option (UInt8 × List UInt8) :=
  match l with
  | [] => none
  | b :: r =>
    if b = 92 then
      match r with
      | [] => none
      | c :: r2 => if c = 34 ∨ c = 92 then some (c, r2) else if c = 120 then (match r2 with | x :: y :: r3 => (match pairV x y with | some d => some (d, r3) | none => none) | _ => none) else none
    else if selfB b = true then some (b, r) else none
theorem quotG_nil : quotG [] = none := by rw [quotG.eq_def]
theorem quotG_end (r : List UInt8) : quotG (34 :: r) = some ([], r) := by rw [quotG.eq_def]; rfl
theorem quotG_let {b : UInt8} {r : List UInt8} (h : b ≠ 34) : quotG (b :: r) = match letG (b :: r) with | some (d, r2) => front d (quotG r2) | none => none := by
  rw [quotG.eq_def]
  simp only [letG]
  rw [if_neg h]
  by_cases h2 : b = 92
  · rw [if_pos h2, if_pos h2]
    cases r with
    | nil => rfl
    | cons c r2 =>
      simp only
      by_cases h3 : c = 34 ∨ c = 92
      · rw [if_pos h3, if_pos h3]
      · rw [if_neg h3, if_neg h3]
        by_cases h4 : c = 120
        · rw [if_pos h4, if_pos h4]
          match r2 with
          | [] => rfl
          | [x] => rfl
          | x :: y :: r3 =>
            simp only
            cases pairV x y <;> rfl
        · rw [if_neg h4, if_neg h4]
  · rw [if_neg h2, if_neg h2]
    have e : selfB b = printB b := by
      unfold selfB
      have e1 : (b != 34) = true := bne_iff_ne.2 h
      have e2 : (b != 92) = true := bne_iff_ne.2 h2
      rw [e1, e2, Bool.and_true, Bool.and_true]
    rw [e]
    by_cases hp : printB b = true
    · rw [if_pos hp, if_pos hp]
    · rw [if_neg hp, if_neg hp]
theorem letG_len {l : List UInt8} {d : UInt8} {r : List UInt8} (h : letG l = some (d, r)) : r.length < l.length := by
  unfold letG at h
  cases l with
  | nil => cases h
  | cons b l =>
    simp only at h
    split at h
    · cases l with
      | nil => cases h
      | cons c r2 =>
        simp only at h
        split at h
        · cases h; simp only [List.length_cons]; omega
        · split at h
          · match r2, h with
            | x :: y :: r3, h =>
              simp only at h
              split at h
              · cases h; simp only [List.length_cons]; omega
              · cases h
          · cases h
    · split at h
      · cases h; simp only [List.length_cons]; omega
      · cases h
theorem digV_hex (b : UInt8) : hexV b = if digV b = 16 then none else some (digV b) := by
  unfold digV
  cases h : hexV b with
  | none => rfl
  | some n =>
    have : n < 16 := by
      unfold hexV at h
      split at h
      · cases h; omega
      · split at h
        · cases h; omega
        · split at h
          · cases h; omega
          · cases h
    simp only
    rw [if_neg (by omega)]
theorem digV_le (b : UInt8) : digV b ≤ 16 := by
  have := digV_hex b
  unfold digV at this ⊢
  cases h : hexV b with
  | none => exact Nat.le_refl _
  | some n =>
    rw [h] at this
    simp only at this ⊢
    split at this
    · cases this
    · unfold hexV at h
      split at h
      · cases h; omega
      · split at h
        · cases h; omega
        · split at h
          · cases h; omega
          · cases h
theorem pairV_dig (x y : UInt8) : pairV x y = if digV x = 16 ∨ digV y = 16 then none else some (UInt8.ofNat (16 * digV x + digV y)) := by
  unfold pairV
  rw [digV_hex x, digV_hex y]
  by_cases h1 : digV x = 16
  · rw [if_pos h1, if_pos (Or.inl h1)]
  · by_cases h2 : digV y = 16
    · rw [if_neg h1, if_pos h2, if_pos (Or.inr h2)]
    · rw [if_neg h1, if_neg h2, if_neg (fun h => h.elim h1 h2)]
theorem digV_stop : digV 10 = 16 := by decide
/-- The byte at which a cursor stands: a line feed behind the line. -/
def nextB (l : List UInt8) : UInt8 := match l with | [] => 10 | b :: _ => b
theorem nextI_B (l : List UInt8) : nextI l = ((nextB l).toNat : Int) := by cases l <;> rfl
/-- Behind an x: the two digits that stand there, if they do. -/
theorem hex_let (l : List UInt8) : (match l with | x :: y :: r3 => (match pairV x y with | some d => some (d, r3) | none => none) | _ => (none : Option (UInt8 × List UInt8))) =
    if digV (nextB l) = 16 ∨ digV (nextB (l.drop 1)) = 16 then none else some (UInt8.ofNat (16 * digV (nextB l) + digV (nextB (l.drop 1))), l.drop 2) := by
  match l with
  | [] => exact (if_pos (Or.inl digV_stop)).symm
  | [x] => exact (if_pos (Or.inr digV_stop)).symm
  | x :: y :: r3 =>
    simp only [nextB, List.drop_succ_cons, List.drop_zero]
    rw [pairV_dig]
    by_cases h : digV x = 16 ∨ digV y = 16
    · rw [if_pos h, if_pos h]
    · rw [if_neg h, if_neg h]
theorem rest_drop (s : ByteArray) (k n : Nat) : (restAt s k).drop n = restAt s (k + n) := by unfold restAt; rw [List.drop_drop]
theorem rest_step (s : ByteArray) (k : Nat) : restAt s (stepK s k) = (restAt s k).drop 1 := by
  unfold stepK
  by_cases h : k < s.size
  · rw [if_pos h, rest_drop]
  · rw [if_neg h, rest_nil (by omega)]; rfl
theorem stepK_le {s : ByteArray} {k : Nat} (h : k ≤ s.size) : stepK s k ≤ s.size := by
  unfold stepK
  by_cases h2 : k < s.size
  · rw [if_pos h2]; omega
  · rw [if_neg h2]; exact h
theorem stepK_ge (s : ByteArray) (k : Nat) : k ≤ stepK s k := by
  unfold stepK
  by_cases h2 : k < s.size
  · rw [if_pos h2]; omega
  · rw [if_neg h2]; exact Nat.le_refl _
theorem restAt_len (s : ByteArray) (k : Nat) : (restAt s k).length = s.size - k := by unfold restAt; rw [List.length_drop, bytes_size]
/-- Up to the next blank, and from there on. -/
def wordL (l : List UInt8) : List UInt8 := l.takeWhile fun b => !blankB b
def pastL (l : List UInt8) : List UInt8 := l.dropWhile fun b => !blankB b
theorem plain_not_blank {b : UInt8} (h : plainB b = true) : blankB b = false := by
  cases hb : blankB b with
  | false => rfl
  | true =>
    rcases blankB_iff.1 hb with e | e
    · exact absurd e (plainB_iff.1 h).2.1
    · have := printB_iff.1 (plainB_iff.1 h).1
      omega
theorem word_plain (l : List UInt8) (h : (wordL l).all plainB = true) : l.takeWhile plainB = wordL l ∧ l.dropWhile plainB = pastL l ∧ endB (pastL l) = true := by
  induction l with
  | nil => exact ⟨rfl, rfl, rfl⟩
  | cons b r ih =>
    unfold wordL at h
    unfold wordL pastL
    rw [List.takeWhile_cons] at h
    rw [List.takeWhile_cons, List.takeWhile_cons, List.dropWhile_cons, List.dropWhile_cons]
    cases hb : blankB b with
    | true =>
      have hp : plainB b = false := by
        cases e : plainB b with
        | false => rfl
        | true => rw [plain_not_blank e] at hb; cases hb
      rw [hp]
      simp [endB, hb]
    | false =>
      rw [hb] at h
      simp only [Bool.not_false, if_true, List.all_cons, Bool.and_eq_true] at h
      rw [h.1]
      obtain ⟨i1, i2, i3⟩ := ih h.2
      simp only [Bool.not_false, if_true]
      exact ⟨by rw [i1]; rfl, i2, i3⟩
theorem word_not_plain (l : List UInt8) (h : (wordL l).all plainB = false) : endB (l.dropWhile plainB) = false := by
  induction l with
  | nil => cases h
  | cons b r ih =>
    unfold wordL at h
    rw [List.takeWhile_cons] at h
    rw [List.dropWhile_cons]
    cases hb : blankB b with
    | true => rw [hb] at h; cases h
    | false =>
      rw [hb] at h
      simp only [Bool.not_false, if_true, List.all_cons] at h
      cases hp : plainB b with
      | true =>
        rw [hp, Bool.true_and] at h
        simp only [if_true]
        exact ih h
      | false => simp [endB, hb]
/-- A word that is not quoted: what the program reads is what the grammar has. -/
theorem oneG_bare {b : UInt8} {r : List UInt8} (h34 : b ≠ 34) (h35 : b ≠ 35) (hb : blankB b = false) :
    oneG (b :: r) = if bareB (wordL (b :: r)) = true then some ((false, wordL (b :: r)), pastL (b :: r)) else none := by
  unfold oneG
  simp only
  rw [if_neg h34]
  have hw : wordL (b :: r) = b :: wordL r := by unfold wordL; rw [List.takeWhile_cons, hb]; rfl
  have hbare : bareB (wordL (b :: r)) = (wordL (b :: r)).all plainB := by
    rw [hw]
    unfold bareB
    have e : ((b :: wordL r).head? != some 35) = true := by rw [List.head?_cons, bne_iff_ne]; exact fun e => h35 (Option.some.inj e)
    rw [e]
    rfl
  rw [hbare]
  cases ha : (wordL (b :: r)).all plainB with
  | true =>
    obtain ⟨e1, e2, e3⟩ := word_plain _ ha
    rw [e1, e2, if_pos ⟨by rw [hw]; simp, e3⟩, if_pos rfl]
  | false =>
    have := word_not_plain _ ha
    rw [if_neg (by rw [this]; exact fun h => by cases h.2), if_neg (by decide)]
theorem oneG_quoted (r : List UInt8) : oneG (34 :: r) = match quotG r with | some (t, r2) => if endB r2 = true then some ((true, t), r2) else none | none => none := by
  unfold oneG
  simp only
  rw [if_pos trivial]
  cases quotG r <;> rfl
/-- Whether there is no word any more. -/
def doneB (l : List UInt8) : Bool := match l with | [] => true | b :: _ => b == 35
theorem lineG_done {l : List UInt8} (h : doneB l = true) (hb : ∀ b r, l = b :: r → blankB b = false) (a : Nat) : lineG l a = .ok [] := by
  cases l with
  | nil => exact lineG_nil a
  | cons b r =>
    rw [lineG_cons, hb b r rfl, if_neg (by decide), if_pos (by simpa [doneB] using h)]
theorem lineG_word {l : List UInt8} (h : doneB l = false) (hb : ∀ b r, l = b :: r → blankB b = false) (a : Nat) : lineG l a = match oneG l with
    | none => .error a
    | some (w, r2) => match lineG r2 (a + (l.length - r2.length)) with
      | .ok ws => .ok ((w.1, w.2, a) :: ws)
      | .error e => .error e := by
  cases l with
  | nil => cases h
  | cons b r =>
    rw [lineG_cons, hb b r rfl, if_neg (by decide), if_neg (by simpa [doneB] using h)]
    cases oneG (b :: r) with
    | none => rfl
    | some p => rfl
theorem lineG_blank {b : UInt8} {r : List UInt8} (h : blankB b = true) (a : Nat) : lineG (b :: r) a = lineG r (a + 1) := by rw [lineG_cons, if_pos h]
end Go.Proofs.YtkmkhegekonbmaaDoor
