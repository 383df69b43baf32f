/- Walks: Of of package label, and the functions of its reference that make no slices. -/
import Derived.Test.YtdhbadngbhdanaaDoorLabelA
namespace Go.Proofs.YtdhbadngbhdanaaDoor
open Go.RowKit
open Lb

theorem ofI_bad {l : List Int} {k : Nat} (h : k < l.length) (hc : isCat l[k] = false) : ofI l = (0, 2) := by
  unfold ofI
  rw [if_neg]
  intro ha
  have := List.all_eq_true.1 ha l[k] (List.getElem_mem h)
  rw [hc] at this
  cases this
theorem ofI_good {l : List Int} (h : l.all isCat = true) : ofI l = (orAll l, 0) := by unfold ofI; rw [if_pos h]
theorem all_take_succ {l : List Int} {k : Nat} (h : k < l.length) (ha : (l.take k).all isCat = true) (hc : isCat l[k] = true) : (l.take (k + 1)).all isCat = true := by
  rw [take_snoc l k h, List.all_append, ha]; simp [hc]
theorem isCat_iff {c : Int} : isCat c = true ↔ 0 ≤ c ∧ c ≤ 63 := by simp [isCat]

end Go.Proofs.YtdhbadngbhdanaaDoor
