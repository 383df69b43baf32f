/- Walks: the document's own value of a number. -/
import Derived.Test.YtmdlndmibodimaaDoorTokCk
import Derived.Test.YtmdlndmibodimaaDoorTokNm
namespace Go.Proofs.YtmdlndmibodimaaDoor
open Go.RowKit
open Tk7

/-- What the digits give: the number and whether it is one of 64 bits. -/
def valR (l : List UInt8) : Int × Bool :=
  if 9223372036854775808 < Sm.decN 0 (Sm.restL l) then (0, false)
  else if Sm.minB l = true then (-(Sm.decN 0 (Sm.restL l) : Int), true) else (IntKind.i64.wrap (Sm.decN 0 (Sm.restL l) : Int), decide (Sm.decN 0 (Sm.restL l) < 9223372036854775808))
theorem val_num {l : List UInt8} (x : Int) (p : Bool) (h : valR l = (x, p)) :
    (Sm.okI (Sm.valV l) = true → p = true ∧ x = Sm.valV l) ∧ (Sm.okI (Sm.valV l) = false → p = false) := by
  unfold valR at h
  unfold Sm.valV
  generalize Sm.decN 0 (Sm.restL l) = n at h ⊢
  constructor
  · intro ho
    rw [Sm.okI_iff] at ho
    by_cases h1 : 9223372036854775808 < n
    · exfalso
      split at ho <;> omega
    · rw [if_neg h1] at h
      by_cases h2 : Sm.minB l = true
      · rw [if_pos h2] at h ho ⊢
        cases h
        exact ⟨rfl, rfl⟩
      · rw [if_neg h2] at h ho ⊢
        have h3 : n < 9223372036854775808 := by omega
        rw [decide_eq_true h3] at h
        have h4 : IntKind.i64.wrap (n : Int) = (n : Int) := IntWalk.i64_in _ ⟨by omega, by omega⟩
        rw [h4] at h
        cases h
        exact ⟨rfl, rfl⟩
  · intro ho
    rw [Sm.okI_not] at ho
    by_cases h1 : 9223372036854775808 < n
    · rw [if_pos h1] at h; cases h; rfl
    · rw [if_neg h1] at h
      by_cases h2 : Sm.minB l = true
      · rw [if_pos h2] at ho; exfalso; omega
      · rw [if_neg h2] at h ho
        have h3 : ¬ n < 9223372036854775808 := by omega
        rw [decide_eq_false h3] at h
        cases h
        rfl
theorem dec_take (r : List UInt8) (j : Nat) (hj : j < r.length) : Sm.decN 0 (r.take (j + 1)) = 10 * Sm.decN 0 (r.take j) + ((r[j]'hj).toNat - 48) := by
  rw [take_snoc _ _ hj, Sm.decN_snoc]
theorem dec_mono (r : List UInt8) (j : Nat) : Sm.decN 0 (r.take j) ≤ Sm.decN 0 r := by
  conv => rhs; rw [← List.take_append_drop j r]
  unfold Sm.decN
  rw [List.foldl_append]
  exact Sm.decN_ge _ _
end Go.Proofs.YtmdlndmibodimaaDoor
