/- What the program's iterator over the tokens of a text hands out, as a list. Nothing here speaks of the program. -/
import Derived.Test.YtmdlndmibodimaaDoorTokI
namespace Go.Proofs.YtmdlndmibodimaaDoor
open Go.RowKit
open Tk7

/-- What is handed out from the place k on. -/
def seqX (l : List UInt8) : Nat → Nat → List NX
  | 0, _ => []
  | f + 1, k => if (nextX l (k : Int)).er = 5 then [] else if (nextX l (k : Int)).er = 0 then nextX l (k : Int) :: seqX l f (nextX l (k : Int)).nx else [nextX l (k : Int)]
def okX (t : T) : NX := ⟨t.1, t.2.1, t.2.2, t.2.2 + t.2.1.length, 0, 0⟩
def badX (e : Int × Nat) : NX := ⟨0, [], 0, 0, e.1, e.2⟩
theorem nextX_nat {l : List UInt8} {k : Nat} (hk : k ≤ l.length) : nextX l (k : Int) = match nextG (l.drop k) k with
    | .error e => badX e
    | .ok (kd, p, n) => ⟨kd, (l.drop p).take n, p, p + n, 0, 0⟩ := by
  unfold nextX
  rw [if_neg (by omega), Int.toNat_natCast]
  cases nextG (l.drop k) k with
  | error e => rfl
  | ok x => rfl
/-- The next token, read off the rest of the text. -/
theorem next_cases {l : List UInt8} {k : Nat} (hk : k ≤ l.length) :
    (toksG (l.drop k) k = .ok [] ∧ nextX l (k : Int) = badX (5, l.length)) ∨
    (∃ p, toksG (l.drop k) k = .error (3, p) ∧ nextX l (k : Int) = badX (3, p)) ∨
    (∃ t : T, toksG (l.drop k) k = glue t (toksG (l.drop (t.2.2 + t.2.1.length)) (t.2.2 + t.2.1.length)) ∧ nextX l (k : Int) = okX t ∧ k < t.2.2 + t.2.1.length ∧ t.2.2 + t.2.1.length ≤ l.length) := by
  rw [nextX_nat hk, toksG_eq]
  unfold nextG
  have h1 := drop_len (l.drop k)
  have hl : (l.drop k).length = l.length - k := List.length_drop
  have hdd : (l.drop k).dropWhile blankB = l.drop (k + ((l.drop k).takeWhile blankB).length) := by rw [drop_while, List.drop_drop]
  have htl : ((l.drop k).takeWhile blankB).length = (l.drop k).length - ((l.drop k).dropWhile blankB).length := by
    have := congrArg List.length (List.takeWhile_append_dropWhile (p := blankB) (l := l.drop k))
    rw [List.length_append] at this
    omega
  cases hd : (l.drop k).dropWhile blankB with
  | nil =>
    left
    refine ⟨rfl, ?_⟩
    simp only
    rw [hl, show k + (l.length - k) = l.length by omega]
  | cons b r =>
    rw [hd] at h1 hdd htl
    right
    simp only
    by_cases hz : (begG (b :: r)).2 = 0
    · left
      rw [if_pos hz, if_pos hz]
      exact ⟨_, rfl, rfl⟩
    · right
      rw [if_neg hz, if_neg hz]
      have hle := begG_le (b :: r)
      have e1 : k + ((l.drop k).length - (b :: r).length) = k + ((l.drop k).takeWhile blankB).length := by rw [htl]
      rw [e1]
      obtain ⟨p, hp⟩ : ∃ p, p = k + ((l.drop k).takeWhile blankB).length := ⟨_, rfl⟩
      rw [← hp] at hdd ⊢
      have hlen : ((b :: r).take (begG (b :: r)).2).length = (begG (b :: r)).2 := by rw [List.length_take]; exact Nat.min_eq_left hle
      have hpl : (b :: r).length = l.length - p := by rw [hdd, List.length_drop]
      refine ⟨((begG (b :: r)).1, (b :: r).take (begG (b :: r)).2, p), ?_, ?_, ?_, ?_⟩
      · simp only
        rw [hlen, hdd, List.drop_drop]
      · simp only
        unfold okX
        simp only
        rw [hlen, hdd]
      · show k < p + ((b :: r).take (begG (b :: r)).2).length
        rw [hlen]; omega
      · show p + ((b :: r).take (begG (b :: r)).2).length ≤ l.length
        rw [hlen]
        simp only [List.length_cons] at hpl hle h1
        omega
/-- What is handed out, against the tokens. -/
theorem seq_toks (l : List UInt8) : ∀ (f k : Nat), k ≤ l.length → l.length - k < f →
    (∃ ts : List T, toksG (l.drop k) k = .ok ts ∧ seqX l f k = ts.map okX) ∨ (∃ (e : Int × Nat) (ts : List T), toksG (l.drop k) k = .error e ∧ e.1 = 3 ∧ seqX l f k = ts.map okX ++ [badX e]) := by
  intro f
  induction f with
  | zero => intro k _ h; omega
  | succ f ih =>
    intro k hk hf
    rcases next_cases hk with ⟨h1, h2⟩ | ⟨p, h1, h2⟩ | ⟨t, h1, h2, h3, h4⟩
    · left
      refine ⟨[], h1, ?_⟩
      unfold seqX
      rw [h2, if_pos (by rfl)]
      rfl
    · right
      refine ⟨_, [], h1, rfl, ?_⟩
      unfold seqX
      rw [h2, if_neg (by show ¬ (3 : Int) = 5; decide), if_neg (by show ¬ (3 : Int) = 0; decide)]
      rfl
    · have hs : seqX l (f + 1) k = okX t :: seqX l f (t.2.2 + t.2.1.length) := by
        rw [seqX, h2, if_neg (by show ¬ (0 : Int) = 5; decide), if_pos (by rfl)]
        rfl
      rw [hs, h1]
      rcases ih _ h4 (by omega) with ⟨ts, h5, h6⟩ | ⟨e, ts, h5, h6, h7⟩
      · left
        exact ⟨t :: ts, by rw [h5]; rfl, by rw [h6]; rfl⟩
      · right
        exact ⟨e, t :: ts, by rw [h5]; rfl, h6, by rw [h7]; rfl⟩
/-- All that is handed out of a text. -/
def seqA (l : List UInt8) : List NX := seqX l (l.length + 1) 0
theorem seqX_len (l : List UInt8) : ∀ (f k : Nat), (seqX l f k).length ≤ f := by
  intro f
  induction f with
  | zero => intro k; exact Nat.le_refl _
  | succ f ih =>
    intro k
    unfold seqX
    split
    · simp
    · split
      · have := ih (nextX l (k : Int)).nx
        simp only [List.length_cons]; omega
      · simp
end Go.Proofs.YtmdlndmibodimaaDoor
