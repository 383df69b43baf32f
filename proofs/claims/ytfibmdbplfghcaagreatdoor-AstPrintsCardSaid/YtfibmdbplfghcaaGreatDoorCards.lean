/-
  DERIVED. GIVEN WITH THE SEED: THE CARDS: each row of YtfibmdbplfghcaaGreatDoorRows.lean that lists a variable, with what it lists TIED to the program's text (the seventh form; the later family's looks); each row that meets fmt, with fmt's text TOLD by the authors' own Lean function (tested against real Go, not proved from fmt's source: count such statements apart). THE CARD IS WHAT COUNTS. Prove the row's statement (the work); the ties are given (YtfibmdbplfghcaaGreatDoorTie.lean); close each card by the builder's one call (the guide's Derived/Test/ToyasCard.lean, 'card_holds'). Laid BY PROGRAM, IN A SANDBOX (cutbox-door.mjs). By AI agents, Wed Nov 11 2026. No macro, syntax, notation, axiom, sorry.
-/
import Derived.Test.YtfibmdbplfghcaaGreatDoorRows
import GoSem.ClaimSeven
namespace Go.Proofs.YtfibmdbplfghcaaGreatDoor
namespace Rows

/-- THE TIED CARD OF 'partywalllaw08.AstPrints'. -/
def astPrintsCard : Claim7 := { stood := { row := astPrintsRow, standIns := [], harness := (true, "3da4c9fe6ab1d866b963ffe8f1b77f371ff3b14cbe0365bca0f77ff7b2e6c797"), looks := false }, kinds := [], alts := [], laidByText := true, laidKinds := [.data, .data, .data, .data, .data, .data], laidTests := true, laidLooks := .later }
def AstPrintsCardSaid : Prop := Claim7.holds Tryz.pinned (.plain (OpenSpec.ofChange astPrintsSpec)) astPrintsCard

/-- THE TIED CARD OF 'partywalllaw08.AstParts'. -/
def astPartsCard : Claim7 := { stood := { row := astPartsRow, standIns := [], harness := (true, "3da4c9fe6ab1d866b963ffe8f1b77f371ff3b14cbe0365bca0f77ff7b2e6c797"), looks := false }, kinds := [], alts := [], laidByText := true, laidKinds := [.data, .data, .data, .data, .data, .data], laidTests := true, laidLooks := .later }
def AstPartsCardSaid : Prop := Claim7.holds Tryz.pinned (.plain (OpenSpec.ofChange astPartsSpec)) astPartsCard

/-- THE TIED CARD OF 'partywalllaw08.AstSame'. -/
def astSameCard : Claim7 := { stood := { row := astSameRow, standIns := [], harness := (true, "3da4c9fe6ab1d866b963ffe8f1b77f371ff3b14cbe0365bca0f77ff7b2e6c797"), looks := false }, kinds := [], alts := [], laidByText := true, laidKinds := [.data, .data, .data, .data, .data, .data], laidTests := true, laidLooks := .later }
def AstSameCardSaid : Prop := Claim7.holds Tryz.pinned (.plain (OpenSpec.ofChange astSameSpec)) astSameCard

/-- THE TIED CARD OF 'partywalllaw08.AstTexts'. -/
def astTextsCard : Claim7 := { stood := { row := astTextsRow, standIns := [], harness := (true, "3da4c9fe6ab1d866b963ffe8f1b77f371ff3b14cbe0365bca0f77ff7b2e6c797"), looks := false }, kinds := [], alts := [], laidByText := true, laidKinds := [.data, .data, .data, .data, .data, .data], laidTests := true, laidLooks := .later }
def AstTextsCardSaid : Prop := Claim7.holds Tryz.pinned (.plain (OpenSpec.ofChange astTextsSpec)) astTextsCard

/-- THE TIED CARD OF 'partywalllaw08.AstKids'. -/
def astKidsCard : Claim7 := { stood := { row := astKidsRow, standIns := [], harness := (true, "3da4c9fe6ab1d866b963ffe8f1b77f371ff3b14cbe0365bca0f77ff7b2e6c797"), looks := false }, kinds := [], alts := [], laidByText := true, laidKinds := [.data, .data, .data, .data, .data, .data], laidTests := true, laidLooks := .later }
def AstKidsCardSaid : Prop := Claim7.holds Tryz.pinned (.plain (OpenSpec.ofChange astKidsSpec)) astKidsCard

/-- THE SECOND FORM's CARD OF 'partywalllaw08.AstPrints'. -/
def astPrintsUptoCard : Claim7 := { stood := { row := astPrintsUptoRow, standIns := [], harness := (true, "3da4c9fe6ab1d866b963ffe8f1b77f371ff3b14cbe0365bca0f77ff7b2e6c797"), looks := false }, kinds := [], alts := [], laidByText := true, laidKinds := [.data, .data, .data, .data, .data, .data], laidTests := true, laidLooks := .later }
def AstPrintsUptoCardSaid : Prop := Claim7.holds Tryz.pinned (.plain (OpenSpec.upto astPrintsSpec)) astPrintsUptoCard

/-- THE SECOND FORM's CARD OF 'partywalllaw08.AstParts'. -/
def astPartsUptoCard : Claim7 := { stood := { row := astPartsUptoRow, standIns := [], harness := (true, "3da4c9fe6ab1d866b963ffe8f1b77f371ff3b14cbe0365bca0f77ff7b2e6c797"), looks := false }, kinds := [], alts := [], laidByText := true, laidKinds := [.data, .data, .data, .data, .data, .data], laidTests := true, laidLooks := .later }
def AstPartsUptoCardSaid : Prop := Claim7.holds Tryz.pinned (.plain (OpenSpec.upto astPartsSpec)) astPartsUptoCard

/-- THE SECOND FORM's CARD OF 'partywalllaw08.AstSame'. -/
def astSameUptoCard : Claim7 := { stood := { row := astSameUptoRow, standIns := [], harness := (true, "3da4c9fe6ab1d866b963ffe8f1b77f371ff3b14cbe0365bca0f77ff7b2e6c797"), looks := false }, kinds := [], alts := [], laidByText := true, laidKinds := [.data, .data, .data, .data, .data, .data], laidTests := true, laidLooks := .later }
def AstSameUptoCardSaid : Prop := Claim7.holds Tryz.pinned (.plain (OpenSpec.upto astSameSpec)) astSameUptoCard

/-- THE SECOND FORM's CARD OF 'partywalllaw08.AstTexts'. -/
def astTextsUptoCard : Claim7 := { stood := { row := astTextsUptoRow, standIns := [], harness := (true, "3da4c9fe6ab1d866b963ffe8f1b77f371ff3b14cbe0365bca0f77ff7b2e6c797"), looks := false }, kinds := [], alts := [], laidByText := true, laidKinds := [.data, .data, .data, .data, .data, .data], laidTests := true, laidLooks := .later }
def AstTextsUptoCardSaid : Prop := Claim7.holds Tryz.pinned (.plain (OpenSpec.upto astTextsSpec)) astTextsUptoCard

/-- THE SECOND FORM's CARD OF 'partywalllaw08.AstKids'. -/
def astKidsUptoCard : Claim7 := { stood := { row := astKidsUptoRow, standIns := [], harness := (true, "3da4c9fe6ab1d866b963ffe8f1b77f371ff3b14cbe0365bca0f77ff7b2e6c797"), looks := false }, kinds := [], alts := [], laidByText := true, laidKinds := [.data, .data, .data, .data, .data, .data], laidTests := true, laidLooks := .later }
def AstKidsUptoCardSaid : Prop := Claim7.holds Tryz.pinned (.plain (OpenSpec.upto astKidsSpec)) astKidsUptoCard
end Rows
end Go.Proofs.YtfibmdbplfghcaaGreatDoor
