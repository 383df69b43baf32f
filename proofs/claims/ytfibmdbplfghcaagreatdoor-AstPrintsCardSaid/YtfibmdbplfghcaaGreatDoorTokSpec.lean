/- Tokens, as lists of bytes: where one begins and ends, all tokens of a text. Nothing here speaks of the program. -/
import Derived.Test.YtfibmdbplfghcaaGreatDoorWords
namespace Go.Proofs.YtfibmdbplfghcaaGreatDoor.Tk7

def blankB (b : UInt8) : Bool := b == 9 || b == 10 || b == 13 || b == 32
def smallB (b : UInt8) : Bool := decide (97 ≤ b.toNat) && decide (b.toNat ≤ 122)
def largeB (b : UInt8) : Bool := decide (65 ≤ b.toNat) && decide (b.toNat ≤ 90)
def digB (b : UInt8) : Bool := decide (48 ≤ b.toNat) && decide (b.toNat ≤ 57)
/-- The signs of one byte. -/
def oneB (b : UInt8) : Bool := b == 61 || b == 60 || b == 62 || b == 59 || b == 124 || b == 123 || b == 125 || b == 44 || b == 40 || b == 41 || b == 91 || b == 93 || b == 64 || b == 58
/-- The bytes that begin a sign of two bytes, which = ends. -/
def twoB (b : UInt8) : Bool := b == 33 || b == 60 || b == 62
/-- How many bytes the longest sign has with which l begins. -/
def signG : List UInt8 → Nat
  | [] => 0
  | b :: r => if twoB b && r.head? == some 61 then 2 else if oneB b then 1 else 0
/-- Digits that are written as said; m tells that a minus sign stands before them. -/
def rightD (m : Bool) (d : List UInt8) : Bool := !d.isEmpty && (d.head? != some 48 || (d == [48] && !m))
/-- The digits behind a minus sign, if there is one. -/
def numG (b : UInt8) (r : List UInt8) : Nat :=
  if b == 45 then (if rightD true (r.takeWhile digB) then (r.takeWhile digB).length + 1 else 0)
  else (if rightD false (b :: r.takeWhile digB) then (r.takeWhile digB).length + 1 else 0)
/-- The kind and the number of bytes of the token with which l begins; no bytes if there is none. -/
def begG : List UInt8 → Nat × Nat
  | [] => (0, 0)
  | b :: r =>
    if smallB b then (1, (r.takeWhile smallB).length + 1)
    else if largeB b then (2, 1)
    else if digB b || b == 45 then (3, numG b r)
    else (4, signG (b :: r))
theorem begG_le (l : List UInt8) : (begG l).2 ≤ l.length := by
  cases l with
  | nil => simp [begG]
  | cons b r =>
    have h1 : ∀ p : UInt8 → Bool, (r.takeWhile p).length ≤ r.length := fun p => (List.takeWhile_sublist p).length_le
    simp only [begG]
    split
    · simp; exact h1 _
    · split
      · simp
      · split
        · unfold numG
          have := h1 digB
          split <;> split <;> simp <;> omega
        · unfold signG
          cases r with
          | nil => simp; split <;> omega
          | cons c r =>
            simp
            split
            · omega
            · split <;> omega
/-- A token: its kind, its text and its offset. -/
abbrev T := Nat × List UInt8 × Nat
/-- The error and its place, or the kind, the place and the number of bytes of the next token behind the offset k, where l stands. -/
def nextG (l : List UInt8) (k : Nat) : Except (Int × Nat) (Nat × Nat × Nat) :=
  match l.dropWhile blankB with
  | [] => .error (5, k + l.length)
  | b :: r =>
    if (begG (b :: r)).2 = 0 then .error (3, k + (l.length - (b :: r).length))
    else .ok ((begG (b :: r)).1, k + (l.length - (b :: r).length), (begG (b :: r)).2)
/-- A token in front of what follows. -/
def glue (t : T) : Except (Int × Nat) (List T) → Except (Int × Nat) (List T)
  | .ok ts => .ok (t :: ts)
  | .error e => .error e
def toksF : Nat → List UInt8 → Nat → Except (Int × Nat) (List T)
  | 0, _, _ => .ok []
  | f + 1, l, k =>
    match l.dropWhile blankB with
    | [] => .ok []
    | b :: r =>
      if (begG (b :: r)).2 = 0 then .error (3, k + (l.length - (b :: r).length))
      else glue ((begG (b :: r)).1, (b :: r).take (begG (b :: r)).2, k + (l.length - (b :: r).length))
        (toksF f ((b :: r).drop (begG (b :: r)).2) (k + (l.length - (b :: r).length) + (begG (b :: r)).2))
theorem drop_len (l : List UInt8) : (l.dropWhile blankB).length ≤ l.length := (List.dropWhile_sublist blankB).length_le
theorem toksF_fuel (f : Nat) : ∀ g l k, l.length < f → l.length < g → toksF f l k = toksF g l k := by
  induction f with
  | zero => intro g l k h; omega
  | succ f ih =>
    intro g l k hf hg
    cases g with
    | zero => omega
    | succ g =>
      simp only [toksF]
      cases hd : l.dropWhile blankB with
      | nil => rfl
      | cons b r =>
        have h1 := drop_len l
        rw [hd] at h1
        simp only
        split
        · rfl
        · rename_i hn
          have h2 := begG_le (b :: r)
          rw [ih g _ _ (by rw [List.length_drop]; omega) (by rw [List.length_drop]; omega)]
/-- The tokens of l, which stands at the offset k, or the first fault. -/
def toksG (l : List UInt8) (k : Nat) : Except (Int × Nat) (List T) := toksF (l.length + 1) l k
theorem toksG_eq (l : List UInt8) (k : Nat) : toksG l k = match l.dropWhile blankB with
    | [] => .ok []
    | b :: r =>
      if (begG (b :: r)).2 = 0 then .error (3, k + (l.length - (b :: r).length))
      else glue ((begG (b :: r)).1, (b :: r).take (begG (b :: r)).2, k + (l.length - (b :: r).length))
        (toksG ((b :: r).drop (begG (b :: r)).2) (k + (l.length - (b :: r).length) + (begG (b :: r)).2)) := by
  show toksF (l.length + 1) l k = _
  simp only [toksF]
  cases hd : l.dropWhile blankB with
  | nil => rfl
  | cons b r =>
    have h1 := drop_len l
    rw [hd] at h1
    simp only
    split
    · rfl
    · rename_i hn
      have h2 := begG_le (b :: r)
      unfold toksG
      rw [toksF_fuel l.length ((List.drop (begG (b :: r)).2 (b :: r)).length + 1) _ _ (by rw [List.length_drop]; omega) (by omega)]
end Go.Proofs.YtfibmdbplfghcaaGreatDoor.Tk7
