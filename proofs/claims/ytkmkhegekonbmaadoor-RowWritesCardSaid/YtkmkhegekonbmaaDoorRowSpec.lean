/- Texts of rows, as lists of bytes: words, lines, rows; how they are written. Nothing here speaks of the program. -/
import Derived.Test.YtkmkhegekonbmaaDoorWords
namespace Go.Proofs.YtkmkhegekonbmaaDoor.Rw6

def blankB (b : UInt8) : Bool := b == 32 || b == 9
def printB (b : UInt8) : Bool := decide (32 ≤ b.toNat) && decide (b.toNat ≤ 126)
def plainB (b : UInt8) : Bool := printB b && b != 32 && b != 34 && b != 92
def bareB (l : List UInt8) : Bool := !l.isEmpty && l.head? != some 35 && l.all plainB
/-- The value of a hexadecimal digit. -/
def hexV (b : UInt8) : Option Nat :=
  if 48 ≤ b.toNat ∧ b.toNat ≤ 57 then some (b.toNat - 48)
  else if 97 ≤ b.toNat ∧ b.toNat ≤ 102 then some (b.toNat - 87)
  else if 65 ≤ b.toNat ∧ b.toNat ≤ 70 then some (b.toNat - 55) else none
def pairV (x y : UInt8) : Option UInt8 :=
  match hexV x, hexV y with
  | some a, some b => some (UInt8.ofNat (16 * a + b))
  | _, _ => none
/-- Puts a byte in front of a word's text. -/
def front (c : UInt8) (r : Option (List UInt8 × List UInt8)) : Option (List UInt8 × List UInt8) := r.map fun p => (c :: p.1, p.2)
/-- Behind a quotation mark: the word's text, and what follows the next such mark. -/
def quotG (l : List UInt8) : Option (List UInt8 × List UInt8) :=
  match l with
  | [] => none
  | b :: r =>
    if b = 34 then some ([], r)
    else if b = 92 then
      match r with
      | [] => none
      | c :: r2 =>
        if c = 34 ∨ c = 92 then front c (quotG r2)
        else if c = 120 then
          match r2 with
          | x :: y :: r3 =>
            match pairV x y with
            | some d => front d (quotG r3)
            | none => none
          | _ => none
        else none
    else if printB b = true then front b (quotG r) else none

/-- A word: whether it is quoted, its text, and its offset. -/
abbrev W := Bool × List UInt8 × Nat
/-- What may follow a word: nothing, or a blank. -/
def endB (r : List UInt8) : Bool := match r with | [] => true | b :: _ => blankB b
/-- The word with which s begins, and what follows it. -/
def oneG (s : List UInt8) : Option ((Bool × List UInt8) × List UInt8) :=
  match s with
  | [] => none
  | b :: r =>
    if b = 34 then
      match quotG r with
      | some (t, r2) => if endB r2 = true then some ((true, t), r2) else none
      | none => none
    else
      if s.takeWhile plainB ≠ [] ∧ endB (s.dropWhile plainB) = true then some ((false, s.takeWhile plainB), s.dropWhile plainB) else none
theorem front_some {c : UInt8} {o : Option (List UInt8 × List UInt8)} {p : List UInt8 × List UInt8} (h : front c o = some p) : ∃ t, o = some (t, p.2) ∧ p.1 = c :: t := by
  unfold front at h
  cases o with
  | none => cases h
  | some q => cases h; exact ⟨q.1, rfl, rfl⟩
theorem quotG_len (l : List UInt8) : ∀ t r, quotG l = some (t, r) → r.length < l.length := by
  induction hn : l.length using Nat.strongRecOn generalizing l with
  | ind n ih =>
    intro t r h
    rw [quotG.eq_def] at h
    cases l with
    | nil => cases h
    | cons b s =>
      simp only at h
      simp only [List.length_cons] at hn ⊢
      split at h
      · cases h; omega
      · split at h
        · cases s with
          | nil => cases h
          | cons c s2 =>
            simp only at h
            simp only [List.length_cons] at hn
            split at h
            · obtain ⟨t', h', _⟩ := front_some h
              have := ih s2.length (by omega) s2 rfl _ _ h'
              simp only at this
              omega
            · split at h
              · cases s2 with
                | nil => cases h
                | cons x s3 =>
                  cases s3 with
                  | nil => cases h
                  | cons y s4 =>
                    simp only at h
                    simp only [List.length_cons] at hn
                    split at h
                    · obtain ⟨t', h', _⟩ := front_some h
                      have := ih s4.length (by omega) s4 rfl _ _ h'
                      simp only at this
                      omega
                    · cases h
              · cases h
        · split at h
          · obtain ⟨t', h', _⟩ := front_some h
            have := ih s.length (by omega) s rfl _ _ h'
            simp only at this
            omega
          · cases h
theorem oneG_len {s : List UInt8} {w : Bool × List UInt8} {r : List UInt8} (h : oneG s = some (w, r)) : r.length < s.length := by
  unfold oneG at h
  cases s with
  | nil => cases h
  | cons b s =>
    simp only at h
    split at h
    · split at h
      · rename_i t r2 hq
        split at h
        · cases h
          have := quotG_len _ _ _ hq
          simp only [List.length_cons]
          omega
        · cases h
      · cases h
    · split at h
      · rename_i hc
        cases h
        have h1 := List.takeWhile_append_dropWhile (p := plainB) (l := b :: s)
        have h2 := congrArg List.length h1
        rw [List.length_append] at h2
        have h3 : 0 < ((b :: s).takeWhile plainB).length := List.length_pos_iff.2 hc.1
        omega
      · cases h
/-- The words of a line that begins at an offset; or the offset of the first that is none. -/
def lineG (s : List UInt8) (at_ : Nat) : Except Nat (List W) :=
  match s with
  | [] => .ok []
  | b :: r =>
    if blankB b = true then lineG r (at_ + 1)
    else if b = 35 then .ok []
    else
      match _h : oneG (b :: r) with
      | none => .error at_
      | some (w, r2) =>
        match lineG r2 (at_ + ((b :: r).length - r2.length)) with
        | .ok ws => .ok ((w.1, w.2, at_) :: ws)
        | .error e => .error e
termination_by s.length
decreasing_by
  · simp
  · exact oneG_len _h

/-- The same, step by step up to n of them: for what is to be computed. -/
def lineF : Nat → List UInt8 → Nat → Except Nat (List W)
  | _, [], _ => .ok []
  | 0, _ :: _, _ => .ok []
  | n + 1, b :: r, at_ =>
    if blankB b = true then lineF n r (at_ + 1)
    else if b = 35 then .ok []
    else
      match oneG (b :: r) with
      | none => .error at_
      | some (w, r2) =>
        match lineF n r2 (at_ + ((b :: r).length - r2.length)) with
        | .ok ws => .ok ((w.1, w.2, at_) :: ws)
        | .error e => .error e
theorem lineG_nil (a : Nat) : lineG [] a = .ok [] := by rw [lineG.eq_def]
theorem lineG_cons (b : UInt8) (r : List UInt8) (a : Nat) : lineG (b :: r) a =
    if blankB b = true then lineG r (a + 1)
    else if b = 35 then .ok []
    else
      match oneG (b :: r) with
      | none => .error a
      | some (w, r2) =>
        match lineG r2 (a + ((b :: r).length - r2.length)) with
        | .ok ws => .ok ((w.1, w.2, a) :: ws)
        | .error e => .error e := by
  rw [lineG.eq_def]
  simp only
  split
  · rfl
  · split
    · rfl
    · cases h : oneG (b :: r) with
      | none => rfl
      | some p => rfl
theorem lineF_eq : ∀ (n : Nat) (s : List UInt8) (a : Nat), s.length ≤ n → lineF n s a = lineG s a := by
  intro n
  induction n with
  | zero =>
    intro s a h
    obtain rfl := List.eq_nil_of_length_eq_zero (Nat.le_zero.1 h)
    rw [lineG_nil]; rfl
  | succ n ih =>
    intro s a h
    cases s with
    | nil => rw [lineG_nil]; rfl
    | cons b r =>
      simp only [List.length_cons] at h
      rw [lineG_cons]
      unfold lineF
      rw [ih r _ (by omega)]
      split
      · rfl
      · split
        · rfl
        · cases h1 : oneG (b :: r) with
          | none => rfl
          | some p =>
            have := oneG_len (w := p.1) (r := p.2) h1
            simp only [List.length_cons] at this
            simp only
            rw [ih p.2 _ (by omega)]

/-- The lines of a text, without their line feeds. -/
def linesOf : List UInt8 → List (List UInt8)
  | [] => []
  | b :: r => if b = 10 then [] :: linesOf r else match linesOf r with | [] => [[b]] | x :: xs => (b :: x) :: xs
/-- The rows of lines, the first of which begins at an offset; or the first fault: error, and offset. -/
def rowsG : List (List UInt8) → Nat → Except (Int × Nat) (List (Nat × List W))
  | [], _ => .ok []
  | l :: ls, at_ =>
    if 1000 < l.length then .error (4, at_)
    else
      match lineG l at_ with
      | .error e => .error (3, e)
      | .ok ws =>
        match rowsG ls (at_ + l.length + 1) with
        | .error e => .error e
        | .ok rs => .ok (if ws = [] then rs else (at_, ws) :: rs)
def readG (t : List UInt8) : Except (Int × Nat) (List (Nat × List W)) := if 20000 < t.length then .error (4, 20000) else rowsG (linesOf t) 0

/-- Two hexadecimal digits, in lower case. -/
def hexD (n : Nat) : UInt8 := if n < 10 then UInt8.ofNat (48 + n) else UInt8.ofNat (87 + n)
def escB (b : UInt8) : List UInt8 := if b = 34 ∨ b = 92 then [92, b] else if printB b = true then [b] else [92, 120, hexD (b.toNat / 16), hexD (b.toNat % 16)]
def escL (l : List UInt8) : List UInt8 := l.flatMap escB
/-- A word as it is written. -/
def wordW (q : Bool) (t : List UInt8) : List UInt8 := if q = true then 34 :: (escL t ++ [34]) else t
/-- A word that can be written so. -/
def okW (q : Bool) (t : List UInt8) : Bool := q || bareB t
/-- A row's words with one space between two of them. -/
def rowW : List W → List UInt8
  | [] => []
  | [w] => wordW w.1 w.2.1
  | w :: w2 :: ws => wordW w.1 w.2.1 ++ 32 :: rowW (w2 :: ws)
def textW (rs : List (Nat × List W)) : List UInt8 := rs.flatMap fun r => rowW r.2 ++ [10]
/-- Words without their offsets. -/
def bare (ws : List W) : List (Bool × List UInt8) := ws.map fun w => (w.1, w.2.1)
def bares (rs : List (Nat × List W)) : List (List (Bool × List UInt8)) := rs.map fun r => bare r.2
end Go.Proofs.YtkmkhegekonbmaaDoor.Rw6
