/-
  DERIVED. GIVEN WITH THE SEED: THE CARDS: each row of YtlembnpplnbagaaDoorRows.lean that lists a variable, with what it lists TIED to the program's text (the seventh form; the later family's looks); each row that meets fmt, with fmt's text TOLD by the authors' own Lean function (tested against real Go, not proved from fmt's source: count such statements apart). THE CARD IS WHAT COUNTS. Prove the row's statement (the work); the ties are given (YtlembnpplnbagaaDoorTie.lean); close each card by the builder's one call (the guide's Derived/Test/ToyasCard.lean, 'card_holds'). Laid BY PROGRAM, IN A SANDBOX (cutbox-door.mjs). By AI agents, Wed Nov 11 2026. No macro, syntax, notation, axiom, sorry.
-/
import Derived.Test.YtlembnpplnbagaaDoorRows
import GoSem.ClaimSeven
namespace Go.Proofs.YtlembnpplnbagaaDoor
namespace Rows

/-- THE TIED CARD OF 'partywalllaw05.SumsTwo'. -/
def sumsTwoCard : Claim7 := { stood := { row := sumsTwoRow, standIns := [], harness := (true, "80390936231ba03f31183b264023190f733290392d6e0dfda9d5fe412d7c974e"), looks := true }, kinds := [], alts := [], laidByText := true, laidKinds := [.data, .data, .data, .data, .sentinel, .sentinel, .pinned], laidTests := true, laidLooks := .later }
def SumsTwoCardSaid : Prop := Claim7.holds Tryd.pinned (.plain (OpenSpec.ofChange sumsTwoSpec)) sumsTwoCard

/-- THE TIED CARD OF 'partywalllaw05.SumsLists'. -/
def sumsListsCard : Claim7 := { stood := { row := sumsListsRow, standIns := [], harness := (true, "80390936231ba03f31183b264023190f733290392d6e0dfda9d5fe412d7c974e"), looks := true }, kinds := [], alts := [], laidByText := true, laidKinds := [.data, .data, .data, .data, .sentinel, .sentinel, .pinned], laidTests := true, laidLooks := .later }
def SumsListsCardSaid : Prop := Claim7.holds Tryd.pinned (.plain (OpenSpec.ofChange sumsListsSpec)) sumsListsCard

/-- THE TIED CARD OF 'partywalllaw05.SumsCounts'. -/
def sumsCountsCard : Claim7 := { stood := { row := sumsCountsRow, standIns := [], harness := (true, "80390936231ba03f31183b264023190f733290392d6e0dfda9d5fe412d7c974e"), looks := true }, kinds := [], alts := [], laidByText := true, laidKinds := [.data, .data, .data, .data, .sentinel, .sentinel, .pinned], laidTests := true, laidLooks := .later }
def SumsCountsCardSaid : Prop := Claim7.holds Tryd.pinned (.plain (OpenSpec.ofChange sumsCountsSpec)) sumsCountsCard

/-- THE TIED CARD OF 'partywalllaw05.SumsTexts'. -/
def sumsTextsCard : Claim7 := { stood := { row := sumsTextsRow, standIns := [], harness := (true, "80390936231ba03f31183b264023190f733290392d6e0dfda9d5fe412d7c974e"), looks := true }, kinds := [], alts := [], laidByText := true, laidKinds := [.data, .data, .data, .data, .sentinel, .sentinel, .pinned], laidTests := true, laidLooks := .later }
def SumsTextsCardSaid : Prop := Claim7.holds Tryd.pinned (.plain (OpenSpec.ofChange sumsTextsSpec)) sumsTextsCard

/-- THE TIED CARD OF 'partywalllaw05.SumsKnown'. -/
def sumsKnownCard : Claim7 := { stood := { row := sumsKnownRow, standIns := [], harness := (true, "80390936231ba03f31183b264023190f733290392d6e0dfda9d5fe412d7c974e"), looks := true }, kinds := [], alts := [], laidByText := true, laidKinds := [.data, .data, .data, .data, .sentinel, .sentinel, .pinned], laidTests := true, laidLooks := .later }
def SumsKnownCardSaid : Prop := Claim7.holds Tryd.pinned (.plain (OpenSpec.ofChange sumsKnownSpec)) sumsKnownCard

/-- THE TIED CARD OF 'partywalllaw05.SumsUndo'. -/
def sumsUndoCard : Claim7 := { stood := { row := sumsUndoRow, standIns := [], harness := (true, "80390936231ba03f31183b264023190f733290392d6e0dfda9d5fe412d7c974e"), looks := true }, kinds := [], alts := [], laidByText := true, laidKinds := [.data, .data, .data, .data, .sentinel, .sentinel, .pinned], laidTests := true, laidLooks := .later }
def SumsUndoCardSaid : Prop := Claim7.holds Tryd.pinned (.plain (OpenSpec.ofChange sumsUndoSpec)) sumsUndoCard

/-- THE TIED CARD OF 'partywalllaw05.SumsPrefix'. -/
def sumsPrefixCard : Claim7 := { stood := { row := sumsPrefixRow, standIns := [], harness := (true, "80390936231ba03f31183b264023190f733290392d6e0dfda9d5fe412d7c974e"), looks := true }, kinds := [], alts := [], laidByText := true, laidKinds := [.data, .data, .data, .data, .sentinel, .sentinel, .pinned], laidTests := true, laidLooks := .later }
def SumsPrefixCardSaid : Prop := Claim7.holds Tryd.pinned (.plain (OpenSpec.ofChange sumsPrefixSpec)) sumsPrefixCard

/-- THE TIED CARD OF 'partywalllaw05.SumsBack'. -/
def sumsBackCard : Claim7 := { stood := { row := sumsBackRow, standIns := [], harness := (true, "80390936231ba03f31183b264023190f733290392d6e0dfda9d5fe412d7c974e"), looks := true }, kinds := [], alts := [], laidByText := true, laidKinds := [.data, .data, .data, .data, .sentinel, .sentinel, .pinned], laidTests := true, laidLooks := .later }
def SumsBackCardSaid : Prop := Claim7.holds Tryd.pinned (.plain (OpenSpec.ofChange sumsBackSpec)) sumsBackCard

/-- THE SECOND FORM's CARD OF 'partywalllaw05.SumsTwo'. -/
def sumsTwoUptoCard : Claim7 := { stood := { row := sumsTwoUptoRow, standIns := [], harness := (true, "80390936231ba03f31183b264023190f733290392d6e0dfda9d5fe412d7c974e"), looks := true }, kinds := [], alts := [], laidByText := true, laidKinds := [.data, .data, .data, .data, .sentinel, .sentinel, .pinned], laidTests := true, laidLooks := .later }
def SumsTwoUptoCardSaid : Prop := Claim7.holds Tryd.pinned (.plain (OpenSpec.upto sumsTwoSpec)) sumsTwoUptoCard

/-- THE SECOND FORM's CARD OF 'partywalllaw05.SumsLists'. -/
def sumsListsUptoCard : Claim7 := { stood := { row := sumsListsUptoRow, standIns := [], harness := (true, "80390936231ba03f31183b264023190f733290392d6e0dfda9d5fe412d7c974e"), looks := true }, kinds := [], alts := [], laidByText := true, laidKinds := [.data, .data, .data, .data, .sentinel, .sentinel, .pinned], laidTests := true, laidLooks := .later }
def SumsListsUptoCardSaid : Prop := Claim7.holds Tryd.pinned (.plain (OpenSpec.upto sumsListsSpec)) sumsListsUptoCard

/-- THE SECOND FORM's CARD OF 'partywalllaw05.SumsCounts'. -/
def sumsCountsUptoCard : Claim7 := { stood := { row := sumsCountsUptoRow, standIns := [], harness := (true, "80390936231ba03f31183b264023190f733290392d6e0dfda9d5fe412d7c974e"), looks := true }, kinds := [], alts := [], laidByText := true, laidKinds := [.data, .data, .data, .data, .sentinel, .sentinel, .pinned], laidTests := true, laidLooks := .later }
def SumsCountsUptoCardSaid : Prop := Claim7.holds Tryd.pinned (.plain (OpenSpec.upto sumsCountsSpec)) sumsCountsUptoCard

/-- THE SECOND FORM's CARD OF 'partywalllaw05.SumsTexts'. -/
def sumsTextsUptoCard : Claim7 := { stood := { row := sumsTextsUptoRow, standIns := [], harness := (true, "80390936231ba03f31183b264023190f733290392d6e0dfda9d5fe412d7c974e"), looks := true }, kinds := [], alts := [], laidByText := true, laidKinds := [.data, .data, .data, .data, .sentinel, .sentinel, .pinned], laidTests := true, laidLooks := .later }
def SumsTextsUptoCardSaid : Prop := Claim7.holds Tryd.pinned (.plain (OpenSpec.upto sumsTextsSpec)) sumsTextsUptoCard

/-- THE SECOND FORM's CARD OF 'partywalllaw05.SumsKnown'. -/
def sumsKnownUptoCard : Claim7 := { stood := { row := sumsKnownUptoRow, standIns := [], harness := (true, "80390936231ba03f31183b264023190f733290392d6e0dfda9d5fe412d7c974e"), looks := true }, kinds := [], alts := [], laidByText := true, laidKinds := [.data, .data, .data, .data, .sentinel, .sentinel, .pinned], laidTests := true, laidLooks := .later }
def SumsKnownUptoCardSaid : Prop := Claim7.holds Tryd.pinned (.plain (OpenSpec.upto sumsKnownSpec)) sumsKnownUptoCard

/-- THE SECOND FORM's CARD OF 'partywalllaw05.SumsUndo'. -/
def sumsUndoUptoCard : Claim7 := { stood := { row := sumsUndoUptoRow, standIns := [], harness := (true, "80390936231ba03f31183b264023190f733290392d6e0dfda9d5fe412d7c974e"), looks := true }, kinds := [], alts := [], laidByText := true, laidKinds := [.data, .data, .data, .data, .sentinel, .sentinel, .pinned], laidTests := true, laidLooks := .later }
def SumsUndoUptoCardSaid : Prop := Claim7.holds Tryd.pinned (.plain (OpenSpec.upto sumsUndoSpec)) sumsUndoUptoCard

/-- THE SECOND FORM's CARD OF 'partywalllaw05.SumsPrefix'. -/
def sumsPrefixUptoCard : Claim7 := { stood := { row := sumsPrefixUptoRow, standIns := [], harness := (true, "80390936231ba03f31183b264023190f733290392d6e0dfda9d5fe412d7c974e"), looks := true }, kinds := [], alts := [], laidByText := true, laidKinds := [.data, .data, .data, .data, .sentinel, .sentinel, .pinned], laidTests := true, laidLooks := .later }
def SumsPrefixUptoCardSaid : Prop := Claim7.holds Tryd.pinned (.plain (OpenSpec.upto sumsPrefixSpec)) sumsPrefixUptoCard

/-- THE SECOND FORM's CARD OF 'partywalllaw05.SumsBack'. -/
def sumsBackUptoCard : Claim7 := { stood := { row := sumsBackUptoRow, standIns := [], harness := (true, "80390936231ba03f31183b264023190f733290392d6e0dfda9d5fe412d7c974e"), looks := true }, kinds := [], alts := [], laidByText := true, laidKinds := [.data, .data, .data, .data, .sentinel, .sentinel, .pinned], laidTests := true, laidLooks := .later }
def SumsBackUptoCardSaid : Prop := Claim7.holds Tryd.pinned (.plain (OpenSpec.upto sumsBackSpec)) sumsBackUptoCard
end Rows
end Go.Proofs.YtlembnpplnbagaaDoor
