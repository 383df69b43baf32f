/- What each tied row of this seat gives and asks: the listed table. -/
import Derived.Test.YtdhbadngbhdanaaDoorCards
import Derived.Test.YtdhbadngbhdanaaDoorTie
import Derived.Test.YtdhbadngbhdanaaDoorRow
import Derived.Shelf.Spec.TrailingZeros
import Derived.Deep.DeepHandedRow
import Derived.Lib.LaidTab
import Derived.Stop.LaidErr
import Derived.Lay
namespace Go.Proofs.YtdhbadngbhdanaaDoor
open Go.ChangeShapes Go.WideShapes Go.ChangeAt Go.RowKit Go.Shelf

theorem gTab64 : Tryd.prog.globalNamed "math/bits.deBruijn64tab" = some 0 := by kernel_rfl
theorem gTab64Type : (Tryd.prog.globals[0]?).map (·.type) = some 77 := by kernel_rfl
theorem cellsTab64 : Tryd.prog.cellsOf 77 = 64 := by kernel_rfl
theorem cellsByte : Tryd.prog.cellsOf 5 = 1 := by kernel_rfl

/-- The list of every row of this seat. -/
def seatLaid : List (String × DataW Unit) := [("math/bits.deBruijn64tab", Rows.laid_math_bits_deBruijn64tab)]

theorem tabs_of_laid {W : World} (h : laidMetH Tryd.prog seatLaid W) : 0 < W.heap.size ∧ TabAt 0 Lib.deBruijn64tab W := by
  have h0 : laidMet Tryd.prog seatLaid W := h
  have ht : Lib.TabIs Tryd.prog W "math/bits.deBruijn64tab" .u8 (Lib.deBruijn64tab.map fun (n : Nat) => (n : Int)) :=
    Lib.tabIs_of_head (rest := []) gTab64 gTab64Type Tryd.underlying77 Tryd.underlying5 cellsByte cellsTab64 h0
  have hc : TabAt 0 Lib.deBruijn64tab W := fun j hj => by
    have := ht.cell gTab64 j (by simpa using hj)
    rw [this]
    have e : (Lib.deBruijn64tab.map fun (n : Nat) => (n : Int)).getD j 0 = ((Lib.deBruijn64tab.getD j 0 : Nat) : Int) := by
      simp [List.getD, hj]
    rw [e]
  exact ⟨cell_lt (hc 0 (by decide)), hc⟩
end Go.Proofs.YtdhbadngbhdanaaDoor
