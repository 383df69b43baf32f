/-
  DERIVED. GIVEN WITH THE SEED: THE CARDS: each row of YthiacfmedcfcjaaDoorRows.lean that lists a variable, with what it lists TIED to the program's text (the seventh form; the later family's looks); each row that meets fmt, with fmt's text TOLD by the authors' own Lean function (tested against real Go, not proved from fmt's source: count such statements apart). THE CARD IS WHAT COUNTS. Prove the row's statement (the work); the ties are given (YthiacfmedcfcjaaDoorTie.lean); close each card by the builder's one call (the guide's Derived/Test/ToyasCard.lean, 'card_holds'). Laid BY PROGRAM, IN A SANDBOX (cutbox-door.mjs). By AI agents, Wed Nov 11 2026. No macro, syntax, notation, axiom, sorry.
-/
import Derived.Test.YthiacfmedcfcjaaDoorRows
import GoSem.ClaimSeven
namespace Go.Proofs.YthiacfmedcfcjaaDoor
namespace Rows

/-- THE TIED CARD OF 'partywalllaw10.WellformedKnown'. -/
def wellformedKnownCard : Claim7 := { stood := { row := wellformedKnownRow, standIns := [], harness := (true, "68fe7be63ce5037e5727757b24e6be2008f36d02c2378a173a1137923cd6581c"), looks := false }, kinds := [], alts := [], laidByText := true, laidKinds := [.data], laidTests := true, laidLooks := .later }
def WellformedKnownCardSaid : Prop := Claim7.holds Tryd.pinned (.plain (OpenSpec.ofChange wellformedKnownSpec)) wellformedKnownCard

/-- THE TIED CARD OF 'partywalllaw10.WellformedParts'. -/
def wellformedPartsCard : Claim7 := { stood := { row := wellformedPartsRow, standIns := [], harness := (true, "68fe7be63ce5037e5727757b24e6be2008f36d02c2378a173a1137923cd6581c"), looks := false }, kinds := [], alts := [], laidByText := true, laidKinds := [.data], laidTests := true, laidLooks := .later }
def WellformedPartsCardSaid : Prop := Claim7.holds Tryd.pinned (.plain (OpenSpec.ofChange wellformedPartsSpec)) wellformedPartsCard

/-- THE TIED CARD OF 'partywalllaw10.WellformedFew'. -/
def wellformedFewCard : Claim7 := { stood := { row := wellformedFewRow, standIns := [], harness := (true, "68fe7be63ce5037e5727757b24e6be2008f36d02c2378a173a1137923cd6581c"), looks := false }, kinds := [], alts := [], laidByText := true, laidKinds := [.data], laidTests := true, laidLooks := .later }
def WellformedFewCardSaid : Prop := Claim7.holds Tryd.pinned (.plain (OpenSpec.ofChange wellformedFewSpec)) wellformedFewCard

/-- THE SECOND FORM's CARD OF 'partywalllaw10.WellformedKnown'. -/
def wellformedKnownUptoCard : Claim7 := { stood := { row := wellformedKnownUptoRow, standIns := [], harness := (true, "68fe7be63ce5037e5727757b24e6be2008f36d02c2378a173a1137923cd6581c"), looks := false }, kinds := [], alts := [], laidByText := true, laidKinds := [.data], laidTests := true, laidLooks := .later }
def WellformedKnownUptoCardSaid : Prop := Claim7.holds Tryd.pinned (.plain (OpenSpec.upto wellformedKnownSpec)) wellformedKnownUptoCard

/-- THE SECOND FORM's CARD OF 'partywalllaw10.WellformedParts'. -/
def wellformedPartsUptoCard : Claim7 := { stood := { row := wellformedPartsUptoRow, standIns := [], harness := (true, "68fe7be63ce5037e5727757b24e6be2008f36d02c2378a173a1137923cd6581c"), looks := false }, kinds := [], alts := [], laidByText := true, laidKinds := [.data], laidTests := true, laidLooks := .later }
def WellformedPartsUptoCardSaid : Prop := Claim7.holds Tryd.pinned (.plain (OpenSpec.upto wellformedPartsSpec)) wellformedPartsUptoCard

/-- THE SECOND FORM's CARD OF 'partywalllaw10.WellformedFew'. -/
def wellformedFewUptoCard : Claim7 := { stood := { row := wellformedFewUptoRow, standIns := [], harness := (true, "68fe7be63ce5037e5727757b24e6be2008f36d02c2378a173a1137923cd6581c"), looks := false }, kinds := [], alts := [], laidByText := true, laidKinds := [.data], laidTests := true, laidLooks := .later }
def WellformedFewUptoCardSaid : Prop := Claim7.holds Tryd.pinned (.plain (OpenSpec.upto wellformedFewSpec)) wellformedFewUptoCard
end Rows
end Go.Proofs.YthiacfmedcfcjaaDoor
