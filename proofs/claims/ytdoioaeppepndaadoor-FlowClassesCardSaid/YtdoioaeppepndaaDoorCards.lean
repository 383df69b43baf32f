/-
  DERIVED. GIVEN WITH THE SEED: THE CARDS: each row of YtdoioaeppepndaaDoorRows.lean that lists a variable, with what it lists TIED to the program's text (the seventh form; the later family's looks); each row that meets fmt, with fmt's text TOLD by the authors' own Lean function (tested against real Go, not proved from fmt's source: count such statements apart). THE CARD IS WHAT COUNTS. Prove the row's statement (the work); the ties are given (YtdoioaeppepndaaDoorTie.lean); close each card by the builder's one call (the guide's Derived/Test/ToyasCard.lean, 'card_holds'). Laid BY PROGRAM, IN A SANDBOX (cutbox-door.mjs). By AI agents, Wed Nov 11 2026. No macro, syntax, notation, axiom, sorry.
-/
import Derived.Test.YtdoioaeppepndaaDoorRows
import GoSem.ClaimSeven
namespace Go.Proofs.YtdoioaeppepndaaDoor
namespace Rows

/-- THE TIED CARD OF 'partywalllaw11.FlowClasses'. -/
def flowClassesCard : Claim7 := { stood := { row := flowClassesRow, standIns := [], harness := (true, "2cd7e67b483af8fc55ac379e2998a556ae406cc65c09522d6daead4b62a3f162"), looks := false }, kinds := [], alts := [], laidByText := true, laidKinds := [.data], laidTests := true, laidLooks := .later }
def FlowClassesCardSaid : Prop := Claim7.holds Tryd.pinned (.plain (OpenSpec.ofChange flowClassesSpec)) flowClassesCard

/-- THE TIED CARD OF 'partywalllaw11.FlowLeast'. -/
def flowLeastCard : Claim7 := { stood := { row := flowLeastRow, standIns := [], harness := (true, "2cd7e67b483af8fc55ac379e2998a556ae406cc65c09522d6daead4b62a3f162"), looks := false }, kinds := [], alts := [], laidByText := true, laidKinds := [.data], laidTests := true, laidLooks := .later }
def FlowLeastCardSaid : Prop := Claim7.holds Tryd.pinned (.plain (OpenSpec.ofChange flowLeastSpec)) flowLeastCard

/-- THE SECOND FORM's CARD OF 'partywalllaw11.FlowClasses'. -/
def flowClassesUptoCard : Claim7 := { stood := { row := flowClassesUptoRow, standIns := [], harness := (true, "2cd7e67b483af8fc55ac379e2998a556ae406cc65c09522d6daead4b62a3f162"), looks := false }, kinds := [], alts := [], laidByText := true, laidKinds := [.data], laidTests := true, laidLooks := .later }
def FlowClassesUptoCardSaid : Prop := Claim7.holds Tryd.pinned (.plain (OpenSpec.upto flowClassesSpec)) flowClassesUptoCard

/-- THE SECOND FORM's CARD OF 'partywalllaw11.FlowLeast'. -/
def flowLeastUptoCard : Claim7 := { stood := { row := flowLeastUptoRow, standIns := [], harness := (true, "2cd7e67b483af8fc55ac379e2998a556ae406cc65c09522d6daead4b62a3f162"), looks := false }, kinds := [], alts := [], laidByText := true, laidKinds := [.data], laidTests := true, laidLooks := .later }
def FlowLeastUptoCardSaid : Prop := Claim7.holds Tryd.pinned (.plain (OpenSpec.upto flowLeastSpec)) flowLeastUptoCard
end Rows
end Go.Proofs.YtdoioaeppepndaaDoor
