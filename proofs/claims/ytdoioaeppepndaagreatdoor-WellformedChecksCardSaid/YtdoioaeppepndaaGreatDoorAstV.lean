/- Walk: whether a pattern has few nodes. -/
import Derived.Test.YtdoioaeppepndaaGreatDoorAstSm
import Derived.Test.YtdoioaeppepndaaGreatDoorProg
import Derived.Outline
import Derived.Deep.LoopGhost
import Derived.BigQuiet
import Derived.Handy
namespace Go.Proofs.YtdoioaeppepndaaGreatDoor.A8
mutual
/-- How many nodes are left. -/
def fewN : Int → Int → Nd → Int
  | left, d, .mk _ _ _ a ks => if left - 1 < 0 ∨ 210 < d ∨ 20 < a.cs.length ∨ 30 < a.nm.length then -1 else fewL (left - 1) (d + 1) ks
def fewL : Int → Int → List Nd → Int
  | left, _, [] => left
  | left, d, n :: ns => if left < 0 then left else fewL (fewN left d n) d ns
end
theorem fewL_neg {left d : Int} (h : left < 0) (ns : List Nd) : fewL left d ns = left := by
  cases ns with
  | nil => rfl
  | cons n ns => rw [fewL, if_pos h]
theorem fewN_le (n : Nd) : ∀ left d : Int, 0 ≤ left → fewN left d n ≤ left ∧ -1 ≤ fewN left d n := by
  refine Nd.ind (P := fun n => ∀ left d : Int, 0 ≤ left → fewN left d n ≤ left ∧ -1 ≤ fewN left d n) (fun k mn mx a ks ih => ?_) n
  intro left d h0
  rw [fewN]
  split
  · omega
  · rename_i hc
    have hl : ∀ (l : List Nd), (∀ t ∈ l, ∀ left d : Int, 0 ≤ left → fewN left d t ≤ left ∧ -1 ≤ fewN left d t) → ∀ L d : Int, -1 ≤ L → fewL L d l ≤ L ∧ -1 ≤ fewL L d l := fun l => by
      induction l with
      | nil => intro _ L d h; rw [fewL]; omega
      | cons t ts iht =>
        intro hl L d h
        rw [fewL]
        split
        · omega
        · have h1 := hl t (by simp) L d (by omega)
          have h2 := iht (fun u hu => hl u (by simp [hu])) (fewN L d t) d h1.2
          omega
    have := hl ks ih (left - 1) (d + 1) (by omega)
    omega
end Go.Proofs.YtdoioaeppepndaaGreatDoor.A8
namespace Go.Proofs.YtdoioaeppepndaaGreatDoor
open Go.RowKit
open A8
end Go.Proofs.YtdoioaeppepndaaGreatDoor
