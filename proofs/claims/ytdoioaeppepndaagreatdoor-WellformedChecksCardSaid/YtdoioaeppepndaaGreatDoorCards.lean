/-
  DERIVED. GIVEN WITH THE SEED: THE CARDS: each row of YtdoioaeppepndaaGreatDoorRows.lean that lists a variable, with what it lists TIED to the program's text (the seventh form; the later family's looks); each row that meets fmt, with fmt's text TOLD by the authors' own Lean function (tested against real Go, not proved from fmt's source: count such statements apart). THE CARD IS WHAT COUNTS. Prove the row's statement (the work); the ties are given (YtdoioaeppepndaaGreatDoorTie.lean); close each card by the builder's one call (the guide's Derived/Test/ToyasCard.lean, 'card_holds'). Laid BY PROGRAM, IN A SANDBOX (cutbox-door.mjs). By AI agents, Wed Nov 11 2026. No macro, syntax, notation, axiom, sorry.
-/
import Derived.Test.YtdoioaeppepndaaGreatDoorRows
import GoSem.ClaimSeven
namespace Go.Proofs.YtdoioaeppepndaaGreatDoor
namespace Rows

/-- THE TIED CARD OF 'partywalllaw11.FlowKnown'. -/
def flowKnownCard : Claim7 := { stood := { row := flowKnownRow, standIns := [], harness := (true, "6345017a6a2d1900c1e7129921e0d649c4bde32da396269411c0f4e4b3eac288"), looks := false }, kinds := [], alts := [], laidByText := true, laidKinds := [.data], laidTests := true, laidLooks := .later }
def FlowKnownCardSaid : Prop := Claim7.holds Tryz.pinned (.plain (OpenSpec.ofChange flowKnownSpec)) flowKnownCard

/-- THE TIED CARD OF 'partywalllaw11.FlowQueries'. -/
def flowQueriesCard : Claim7 := { stood := { row := flowQueriesRow, standIns := [], harness := (true, "6345017a6a2d1900c1e7129921e0d649c4bde32da396269411c0f4e4b3eac288"), looks := false }, kinds := [], alts := [], laidByText := true, laidKinds := [.data], laidTests := true, laidLooks := .later }
def FlowQueriesCardSaid : Prop := Claim7.holds Tryz.pinned (.plain (OpenSpec.ofChange flowQueriesSpec)) flowQueriesCard

/-- THE TIED CARD OF 'partywalllaw11.FlowRestricts'. -/
def flowRestrictsCard : Claim7 := { stood := { row := flowRestrictsRow, standIns := [], harness := (true, "6345017a6a2d1900c1e7129921e0d649c4bde32da396269411c0f4e4b3eac288"), looks := false }, kinds := [], alts := [], laidByText := true, laidKinds := [.data], laidTests := true, laidLooks := .later }
def FlowRestrictsCardSaid : Prop := Claim7.holds Tryz.pinned (.plain (OpenSpec.ofChange flowRestrictsSpec)) flowRestrictsCard

/-- THE TIED CARD OF 'partywalllaw11.FlowSees'. -/
def flowSeesCard : Claim7 := { stood := { row := flowSeesRow, standIns := [], harness := (true, "6345017a6a2d1900c1e7129921e0d649c4bde32da396269411c0f4e4b3eac288"), looks := false }, kinds := [], alts := [], laidByText := true, laidKinds := [.data], laidTests := true, laidLooks := .later }
def FlowSeesCardSaid : Prop := Claim7.holds Tryz.pinned (.plain (OpenSpec.ofChange flowSeesSpec)) flowSeesCard

/-- THE TIED CARD OF 'partywalllaw10.WellformedChecks'. -/
def wellformedChecksCard : Claim7 := { stood := { row := wellformedChecksRow, standIns := [], harness := (true, "6345017a6a2d1900c1e7129921e0d649c4bde32da396269411c0f4e4b3eac288"), looks := false }, kinds := [], alts := [], laidByText := true, laidKinds := [.data], laidTests := true, laidLooks := .later }
def WellformedChecksCardSaid : Prop := Claim7.holds Tryz.pinned (.plain (OpenSpec.ofChange wellformedChecksSpec)) wellformedChecksCard

/-- THE SECOND FORM's CARD OF 'partywalllaw11.FlowKnown'. -/
def flowKnownUptoCard : Claim7 := { stood := { row := flowKnownUptoRow, standIns := [], harness := (true, "6345017a6a2d1900c1e7129921e0d649c4bde32da396269411c0f4e4b3eac288"), looks := false }, kinds := [], alts := [], laidByText := true, laidKinds := [.data], laidTests := true, laidLooks := .later }
def FlowKnownUptoCardSaid : Prop := Claim7.holds Tryz.pinned (.plain (OpenSpec.upto flowKnownSpec)) flowKnownUptoCard

/-- THE SECOND FORM's CARD OF 'partywalllaw11.FlowQueries'. -/
def flowQueriesUptoCard : Claim7 := { stood := { row := flowQueriesUptoRow, standIns := [], harness := (true, "6345017a6a2d1900c1e7129921e0d649c4bde32da396269411c0f4e4b3eac288"), looks := false }, kinds := [], alts := [], laidByText := true, laidKinds := [.data], laidTests := true, laidLooks := .later }
def FlowQueriesUptoCardSaid : Prop := Claim7.holds Tryz.pinned (.plain (OpenSpec.upto flowQueriesSpec)) flowQueriesUptoCard

/-- THE SECOND FORM's CARD OF 'partywalllaw11.FlowRestricts'. -/
def flowRestrictsUptoCard : Claim7 := { stood := { row := flowRestrictsUptoRow, standIns := [], harness := (true, "6345017a6a2d1900c1e7129921e0d649c4bde32da396269411c0f4e4b3eac288"), looks := false }, kinds := [], alts := [], laidByText := true, laidKinds := [.data], laidTests := true, laidLooks := .later }
def FlowRestrictsUptoCardSaid : Prop := Claim7.holds Tryz.pinned (.plain (OpenSpec.upto flowRestrictsSpec)) flowRestrictsUptoCard

/-- THE SECOND FORM's CARD OF 'partywalllaw11.FlowSees'. -/
def flowSeesUptoCard : Claim7 := { stood := { row := flowSeesUptoRow, standIns := [], harness := (true, "6345017a6a2d1900c1e7129921e0d649c4bde32da396269411c0f4e4b3eac288"), looks := false }, kinds := [], alts := [], laidByText := true, laidKinds := [.data], laidTests := true, laidLooks := .later }
def FlowSeesUptoCardSaid : Prop := Claim7.holds Tryz.pinned (.plain (OpenSpec.upto flowSeesSpec)) flowSeesUptoCard

/-- THE SECOND FORM's CARD OF 'partywalllaw10.WellformedChecks'. -/
def wellformedChecksUptoCard : Claim7 := { stood := { row := wellformedChecksUptoRow, standIns := [], harness := (true, "6345017a6a2d1900c1e7129921e0d649c4bde32da396269411c0f4e4b3eac288"), looks := false }, kinds := [], alts := [], laidByText := true, laidKinds := [.data], laidTests := true, laidLooks := .later }
def WellformedChecksUptoCardSaid : Prop := Claim7.holds Tryz.pinned (.plain (OpenSpec.upto wellformedChecksSpec)) wellformedChecksUptoCard
end Rows
end Go.Proofs.YtdoioaeppepndaaGreatDoor
