/- A text, piece by piece, each piece with the line feed behind it: the same rows. Nothing here speaks of the program. -/
import Derived.Test.YtkmkhegekonbmaaDoorRowMath
namespace Go.Proofs.YtkmkhegekonbmaaDoor.Rw6

/-- The pieces of a text, each but the last one with its line feed. -/
def pcs : List UInt8 → List (List UInt8)
  | [] => [[]]
  | b :: r => if b = 10 then [10] :: pcs r else match pcs r with | [] => [[b]] | x :: xs => (b :: x) :: xs
theorem pcs_flat {l : List UInt8} (h : (10 : UInt8) ∉ l) : pcs l = [l] := by
  induction l with
  | nil => rfl
  | cons b r ih =>
    have hb : b ≠ 10 := fun e => h (by rw [e]; simp)
    unfold pcs
    rw [if_neg hb, ih (fun e => h (by simp [e]))]
theorem pcs_line (p r : List UInt8) (h : (10 : UInt8) ∉ p) : pcs (p ++ 10 :: r) = (p ++ [10]) :: pcs r := by
  induction p with
  | nil =>
    show pcs (10 :: r) = [10] :: pcs r
    rw [pcs.eq_def]
    simp
  | cons b p ih =>
    have hb : b ≠ 10 := fun e => h (by rw [e]; simp)
    show pcs (b :: (p ++ 10 :: r)) = _
    rw [pcs.eq_def]
    simp only
    rw [if_neg hb, ih (fun e => h (by simp [e]))]
    rfl
/-- A piece without its line feed. -/
def chop (p : List UInt8) : List UInt8 := if p.getLast? = some 10 then p.dropLast else p
theorem chop_line {p : List UInt8} : chop (p ++ [10]) = p := by
  unfold chop
  simp
theorem chop_flat {p : List UInt8} (h : (10 : UInt8) ∉ p) : chop p = p := by
  unfold chop
  rw [if_neg]
  intro e
  exact h (List.mem_of_mem_getLast? e)
/-- The rows of pieces, the first of which begins at an offset; or the first fault. -/
def rowsP : List (List UInt8) → Nat → Except (Int × Nat) (List (Nat × List W))
  | [], _ => .ok []
  | p :: ps, at_ =>
    if 1000 < (chop p).length then .error (4, at_)
    else
      match lineG (chop p) at_ with
      | .error e => .error (3, e)
      | .ok ws =>
        match rowsP ps (at_ + p.length) with
        | .error e => .error e
        | .ok rs => .ok (if ws = [] then rs else (at_, ws) :: rs)
theorem split10 (t : List UInt8) : (10 : UInt8) ∉ t ∨ ∃ p r, t = p ++ 10 :: r ∧ (10 : UInt8) ∉ p := by
  induction t with
  | nil => left; simp
  | cons b t ih =>
    by_cases hb : b = 10
    · exact .inr ⟨[], t, by rw [hb]; rfl, by simp⟩
    · rcases ih with h | ⟨p, r, rfl, hp⟩
      · left; intro hm
        rcases List.mem_cons.1 hm with e | e
        · exact hb e.symm
        · exact h e
      · exact .inr ⟨b :: p, r, rfl, fun hm => by
          rcases List.mem_cons.1 hm with e | e
          · exact hb e.symm
          · exact hp e⟩
theorem rowsP_rowsG (t : List UInt8) : ∀ a, rowsP (pcs t) a = rowsG (linesOf t) a := by
  induction hn : t.length using Nat.strongRecOn generalizing t with
  | ind n ih =>
    intro a
    rcases split10 t with h | ⟨p, r, rfl, hp⟩
    · rw [pcs_flat h]
      by_cases ht : t = []
      · subst ht
        unfold rowsP
        rw [chop_flat h]
        simp [lineG_nil, rowsP, linesOf, rowsG]
      · rw [linesOf_last t h ht]
        unfold rowsP rowsG
        rw [chop_flat h]
        rfl
    · rw [pcs_line p r hp, linesOf_line p r hp]
      unfold rowsP rowsG
      rw [chop_line]
      have e : a + (p ++ [10]).length = a + p.length + 1 := by rw [List.length_append]; rfl
      rw [e, ih r.length (by rw [← hn, List.length_append]; simp only [List.length_cons]; omega) r rfl]
      rfl
/-- What stands at the pieces' places. -/
theorem pcs_sum (t : List UInt8) : ((pcs t).map List.length).sum = t.length := by
  induction hn : t.length using Nat.strongRecOn generalizing t with
  | ind n ih =>
    rcases split10 t with h | ⟨p, r, rfl, hp⟩
    · rw [pcs_flat h]; simpa using hn
    · rw [pcs_line p r hp, List.map_cons, List.sum_cons, ih r.length (by rw [← hn, List.length_append]; simp only [List.length_cons]; omega) r rfl, ← hn]
      simp only [List.length_append, List.length_cons, List.length_nil]; omega
theorem pcs_chop (t : List UInt8) : ∀ p ∈ pcs t, (10 : UInt8) ∉ chop p := by
  induction hn : t.length using Nat.strongRecOn generalizing t with
  | ind n ih =>
    rcases split10 t with h | ⟨p, r, rfl, hp⟩
    · rw [pcs_flat h]
      intro q hq
      obtain rfl := List.mem_singleton.1 hq
      rw [chop_flat h]
      exact h
    · rw [pcs_line p r hp]
      intro q hq
      rcases List.mem_cons.1 hq with rfl | hq
      · rw [chop_line]; exact hp
      · exact ih r.length (by rw [← hn, List.length_append]; simp only [List.length_cons]; omega) r rfl q hq
theorem chop_len (p : List UInt8) : (chop p).length ≤ p.length := by
  unfold chop
  split
  · rw [List.length_dropLast]; omega
  · exact Nat.le_refl _
theorem pcs_len (t : List UInt8) : (pcs t).length ≤ t.length + 1 := by
  induction hn : t.length using Nat.strongRecOn generalizing t with
  | ind n ih =>
    rcases split10 t with h | ⟨p, r, rfl, hp⟩
    · rw [pcs_flat h]; simp
    · rw [pcs_line p r hp, List.length_cons]
      have := ih r.length (by rw [← hn, List.length_append]; simp only [List.length_cons]; omega) r rfl
      rw [← hn, List.length_append, List.length_cons]
      omega
end Go.Proofs.YtkmkhegekonbmaaDoor.Rw6
