/-
  DERIVED. GIVEN WITH THE SEED: THE CARDS: each row of YtdhbadngbhdanaaDoorRows.lean that lists a variable, with what it lists TIED to the program's text (the seventh form; the later family's looks); each row that meets fmt, with fmt's text TOLD by the authors' own Lean function (tested against real Go, not proved from fmt's source: count such statements apart). THE CARD IS WHAT COUNTS. Prove the row's statement (the work); the ties are given (YtdhbadngbhdanaaDoorTie.lean); close each card by the builder's one call (the guide's Derived/Test/ToyasCard.lean, 'card_holds'). Laid BY PROGRAM, IN A SANDBOX (cutbox-door.mjs). By AI agents, Wed Nov 11 2026. No macro, syntax, notation, axiom, sorry.
-/
import Derived.Test.YtdhbadngbhdanaaDoorRows
import GoSem.ClaimSeven
namespace Go.Proofs.YtdhbadngbhdanaaDoor
namespace Rows

/-- THE TIED CARD OF 'partywalllaw04.LatticeOrders'. -/
def latticeOrdersCard : Claim7 := { stood := { row := latticeOrdersRow, standIns := [], harness := (true, "9b2a976b23cc036a853c04ad8f8b71f2b94c3bb4fd0979653e418e3c06704a6a"), looks := false }, kinds := [], alts := [], laidByText := true, laidKinds := [.data], laidTests := true, laidLooks := .later }
def LatticeOrdersCardSaid : Prop := Claim7.holds Tryd.pinned (.plain (OpenSpec.ofChange latticeOrdersSpec)) latticeOrdersCard

/-- THE TIED CARD OF 'partywalllaw04.LatticeKnown'. -/
def latticeKnownCard : Claim7 := { stood := { row := latticeKnownRow, standIns := [], harness := (true, "9b2a976b23cc036a853c04ad8f8b71f2b94c3bb4fd0979653e418e3c06704a6a"), looks := false }, kinds := [], alts := [], laidByText := true, laidKinds := [.data], laidTests := true, laidLooks := .later }
def LatticeKnownCardSaid : Prop := Claim7.holds Tryd.pinned (.plain (OpenSpec.ofChange latticeKnownSpec)) latticeKnownCard

/-- THE TIED CARD OF 'partywalllaw04.LatticeEnds'. -/
def latticeEndsCard : Claim7 := { stood := { row := latticeEndsRow, standIns := [], harness := (true, "9b2a976b23cc036a853c04ad8f8b71f2b94c3bb4fd0979653e418e3c06704a6a"), looks := false }, kinds := [], alts := [], laidByText := true, laidKinds := [.data], laidTests := true, laidLooks := .later }
def LatticeEndsCardSaid : Prop := Claim7.holds Tryd.pinned (.plain (OpenSpec.ofChange latticeEndsSpec)) latticeEndsCard

/-- THE SECOND FORM's CARD OF 'partywalllaw04.LatticeOrders'. -/
def latticeOrdersUptoCard : Claim7 := { stood := { row := latticeOrdersUptoRow, standIns := [], harness := (true, "9b2a976b23cc036a853c04ad8f8b71f2b94c3bb4fd0979653e418e3c06704a6a"), looks := false }, kinds := [], alts := [], laidByText := true, laidKinds := [.data], laidTests := true, laidLooks := .later }
def LatticeOrdersUptoCardSaid : Prop := Claim7.holds Tryd.pinned (.plain (OpenSpec.upto latticeOrdersSpec)) latticeOrdersUptoCard

/-- THE SECOND FORM's CARD OF 'partywalllaw04.LatticeKnown'. -/
def latticeKnownUptoCard : Claim7 := { stood := { row := latticeKnownUptoRow, standIns := [], harness := (true, "9b2a976b23cc036a853c04ad8f8b71f2b94c3bb4fd0979653e418e3c06704a6a"), looks := false }, kinds := [], alts := [], laidByText := true, laidKinds := [.data], laidTests := true, laidLooks := .later }
def LatticeKnownUptoCardSaid : Prop := Claim7.holds Tryd.pinned (.plain (OpenSpec.upto latticeKnownSpec)) latticeKnownUptoCard

/-- THE SECOND FORM's CARD OF 'partywalllaw04.LatticeEnds'. -/
def latticeEndsUptoCard : Claim7 := { stood := { row := latticeEndsUptoRow, standIns := [], harness := (true, "9b2a976b23cc036a853c04ad8f8b71f2b94c3bb4fd0979653e418e3c06704a6a"), looks := false }, kinds := [], alts := [], laidByText := true, laidKinds := [.data], laidTests := true, laidLooks := .later }
def LatticeEndsUptoCardSaid : Prop := Claim7.holds Tryd.pinned (.plain (OpenSpec.upto latticeEndsSpec)) latticeEndsUptoCard
end Rows
end Go.Proofs.YtdhbadngbhdanaaDoor
