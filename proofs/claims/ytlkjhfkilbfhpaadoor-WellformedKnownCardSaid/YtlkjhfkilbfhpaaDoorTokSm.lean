/- Tokens as lists of bytes. -/
import Derived.Test.YtlkjhfkilbfhpaaDoorWd
namespace Go.Proofs.YtlkjhfkilbfhpaaDoor.Tk7

def blankB (b : UInt8) : Bool := b == 9 || b == 10 || b == 13 || b == 32
def smallB (b : UInt8) : Bool := decide (97 ≤ b.toNat) && decide (b.toNat ≤ 122)
def largeB (b : UInt8) : Bool := decide (65 ≤ b.toNat) && decide (b.toNat ≤ 90)
def digB (b : UInt8) : Bool := decide (48 ≤ b.toNat) && decide (b.toNat ≤ 57)
/-- The signs of one byte. -/
def oneB (b : UInt8) : Bool := b == 61 || b == 60 || b == 62 || b == 59 || b == 124 || b == 123 || b == 125 || b == 44 || b == 40 || b == 41 || b == 91 || b == 93 || b == 64 || b == 58
/-- The bytes that begin a sign of two bytes, which = ends. -/
def twoB (b : UInt8) : Bool := b == 33 || b == 60 || b == 62
/-- How many bytes the longest sign has with which l begins. -/
def signG : List UInt8 → Nat
  | [] => 0
  | b :: r => if twoB b && r.head? == some 61 then 2 else if oneB b then 1 else 0
/-- Digits that are written as said; m tells that a minus sign stands before them. -/
def rightD (m : Bool) (d : List UInt8) : Bool := !d.isEmpty && (d.head? != some 48 || (d == [48] && !m))
/-- The digits behind a minus sign, if there is one. -/
def numG (b : UInt8) (r : List UInt8) : Nat :=
  if b == 45 then (if rightD true (r.takeWhile digB) then (r.takeWhile digB).length + 1 else 0)
  else (if rightD false (b :: r.takeWhile digB) then (r.takeWhile digB).length + 1 else 0)
/-- The kind and the number of bytes of the token with which l begins; no bytes if there is none. -/
def begG : List UInt8 → Nat × Nat
  | [] => (0, 0)
  | b :: r =>
    if smallB b then (1, (r.takeWhile smallB).length + 1)
    else if largeB b then (2, 1)
    else if digB b || b == 45 then (3, numG b r)
    else (4, signG (b :: r))
theorem begG_le (l : List UInt8) : (begG l).2 ≤ l.length := by
  cases l with
  | nil => simp [begG]
  | cons b r =>
    have h1 : ∀ p : UInt8 → Bool, (r.takeWhile p).length ≤ r.length := fun p => (List.takeWhile_sublist p).length_le
    simp only [begG]
    split
    · simp; exact h1 _
    · split
      · simp
      · split
        · unfold numG
          have := h1 digB
          split <;> split <;> simp <;> omega
        · unfold signG
          cases r with
          | nil => simp; split <;> omega
          | cons c r =>
            simp
            split
            · omega
            · split <;> omega
/-- A token: its kind, its text and its offset. -/
abbrev T := Nat × List UInt8 × Nat
/-- The error and its place, or the kind, the place and the number of bytes of the next token behind the offset k, where l stands. -/
def nextG (l : List UInt8) (k : Nat) : Except (Int × Nat) (Nat × Nat × Nat) :=
  match l.dropWhile blankB with
  | [] => .error (5, k + l.length)
  | b :: r =>
    if (begG (b :: r)).2 = 0 then .error (3, k + (l.length - (b :: r).length))
    else .ok ((begG (b :: r)).1, k + (l.length - (b :: r).length), (begG (b :: r)).2)
/-- A token in front of what follows. -/
def glue (t : T) : Except (Int × Nat) (List T) → Except (Int × Nat) (List T)
  | .ok ts => .ok (t :: ts)
  | .error e => .error e
def toksF : Nat → List UInt8 → Nat → Except (Int × Nat) (List T)
  | 0, _, _ => .ok []
  | f + 1, l, k =>
    match l.dropWhile blankB with
    | [] => .ok []
    | b :: r =>
      if (begG (b :: r)).2 = 0 then .error (3, k + (l.length - (b :: r).length))
      else glue ((begG (b :: r)).1, (b :: r).take (begG (b :: r)).2, k + (l.length - (b :: r).length))
        (toksF f ((b :: r).drop (begG (b :: r)).2) (k + (l.length - (b :: r).length) + (begG (b :: r)).2))
theorem drop_len (l : List UInt8) : (l.dropWhile blankB).length ≤ l.length := (List.dropWhile_sublist blankB).length_le
/-- The tokens of l, which stands at the offset k, or the first fault. -/
def toksG (l : List UInt8) (k : Nat) : Except (Int × Nat) (List T) := toksF (l.length + 1) l k
end Go.Proofs.YtlkjhfkilbfhpaaDoor.Tk7
namespace Go.Proofs.YtlkjhfkilbfhpaaDoor.Tk7

theorem blank_not {b : UInt8} (h : blankB b = true) : smallB b = false ∧ largeB b = false ∧ digB b = false ∧ (b == 45) = false ∧ oneB b = false ∧ twoB b = false ∧ (b == 61) = false := by
  have : b = 9 ∨ b = 10 ∨ b = 13 ∨ b = 32 := by simpa [blankB, or_assoc] using h
  rcases this with rfl | rfl | rfl | rfl <;> decide
theorem takeWhile_take (p : UInt8 → Bool) (r : List UInt8) : r.take (r.takeWhile p).length = r.takeWhile p := by
  induction r with
  | nil => rfl
  | cons c r ih =>
    rw [List.takeWhile_cons]
    split
    · simp [ih]
    · rfl
/-- The bytes t are a token of this kind. -/
def isTok (kd : Nat) (t : List UInt8) : Bool := begG t == (kd, t.length) && !t.isEmpty
theorem isTok_iff {kd : Nat} {t : List UInt8} : isTok kd t = true ↔ begG t = (kd, t.length) ∧ t ≠ [] := by
  cases t <;> simp [isTok]
theorem isTok_front {kd : Nat} {b : UInt8} {r : List UInt8} (h : isTok kd (b :: r) = true) : blankB b = false := by
  cases hb : blankB b with
  | false => rfl
  | true =>
    obtain ⟨h1, h2, h3, h4, h5, h6, _⟩ := blank_not hb
    rw [isTok_iff] at h
    have := congrArg Prod.snd h.1
    simp only [begG, h1, h2, h3, h4, signG, h5, h6] at this
    simp at this
theorem dropWhile_split (l : List UInt8) : ∃ g, l = g ++ l.dropWhile blankB ∧ (∀ b ∈ g, blankB b = true) ∧ g.length = l.length - (l.dropWhile blankB).length := by
  refine ⟨l.takeWhile blankB, List.takeWhile_append_dropWhile.symm, fun b hb => ?_, ?_⟩
  · have := List.all_takeWhile (l := l) (p := blankB)
    exact List.all_eq_true.1 this b hb
  · have := congrArg List.length (List.takeWhile_append_dropWhile (p := blankB) (l := l))
    rw [List.length_append] at this
    omega
/-- The tokens of one text and those of another behind it. -/
def both : Except (Int × Nat) (List T) → Except (Int × Nat) (List T) → Except (Int × Nat) (List T)
  | .error e, _ => .error e
  | .ok _, .error e => .error e
  | .ok l, .ok m => .ok (l ++ m)
end Go.Proofs.YtlkjhfkilbfhpaaDoor.Tk7
