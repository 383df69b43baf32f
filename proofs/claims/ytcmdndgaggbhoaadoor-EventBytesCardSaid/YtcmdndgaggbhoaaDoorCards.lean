/-
  DERIVED. GIVEN WITH THE SEED: THE CARDS: each row of YtcmdndgaggbhoaaDoorRows.lean that lists a variable, with what it lists TIED to the program's text (the seventh form; the later family's looks); each row that meets fmt, with fmt's text TOLD by the authors' own Lean function (tested against real Go, not proved from fmt's source: count such statements apart). THE CARD IS WHAT COUNTS. Prove the row's statement (the work); the ties are given (YtcmdndgaggbhoaaDoorTie.lean); close each card by the builder's one call (the guide's Derived/Test/ToyasCard.lean, 'card_holds'). Laid BY PROGRAM, IN A SANDBOX (cutbox-door.mjs). By AI agents, Wed Nov 11 2026. No macro, syntax, notation, axiom, sorry.
-/
import Derived.Test.YtcmdndgaggbhoaaDoorRows
import GoSem.ClaimSeven
namespace Go.Proofs.YtcmdndgaggbhoaaDoor
namespace Rows

/-- THE TIED CARD OF 'partywalllaw03.EventBytes'. -/
def eventBytesCard : Claim7 := { stood := { row := eventBytesRow, standIns := [], harness := (true, "719420f1a8bf2e344b73afdc7856a3d5377eb448fe3ef409ee70f354e103274d"), looks := false }, kinds := [], alts := [], laidByText := true, laidKinds := [.data, .data, .data], laidTests := true, laidLooks := .later }
def EventBytesCardSaid : Prop := Claim7.holds Tryd.pinned (.plain (OpenSpec.ofChange eventBytesSpec)) eventBytesCard

/-- THE TIED CARD OF 'partywalllaw03.EventStores'. -/
def eventStoresCard : Claim7 := { stood := { row := eventStoresRow, standIns := [], harness := (true, "719420f1a8bf2e344b73afdc7856a3d5377eb448fe3ef409ee70f354e103274d"), looks := false }, kinds := [], alts := [], laidByText := true, laidKinds := [.data, .data, .data], laidTests := true, laidLooks := .later }
def EventStoresCardSaid : Prop := Claim7.holds Tryd.pinned (.plain (OpenSpec.ofChange eventStoresSpec)) eventStoresCard

/-- THE TIED CARD OF 'partywalllaw03.EventApart'. -/
def eventApartCard : Claim7 := { stood := { row := eventApartRow, standIns := [], harness := (true, "719420f1a8bf2e344b73afdc7856a3d5377eb448fe3ef409ee70f354e103274d"), looks := false }, kinds := [], alts := [], laidByText := true, laidKinds := [.data, .data, .data], laidTests := true, laidLooks := .later }
def EventApartCardSaid : Prop := Claim7.holds Tryd.pinned (.plain (OpenSpec.ofChange eventApartSpec)) eventApartCard

/-- THE TIED CARD OF 'partywalllaw03.EventOrder'. -/
def eventOrderCard : Claim7 := { stood := { row := eventOrderRow, standIns := [], harness := (true, "719420f1a8bf2e344b73afdc7856a3d5377eb448fe3ef409ee70f354e103274d"), looks := false }, kinds := [], alts := [], laidByText := true, laidKinds := [.data, .data, .data], laidTests := true, laidLooks := .later }
def EventOrderCardSaid : Prop := Claim7.holds Tryd.pinned (.plain (OpenSpec.ofChange eventOrderSpec)) eventOrderCard

/-- THE SECOND FORM's CARD OF 'partywalllaw03.EventBytes'. -/
def eventBytesUptoCard : Claim7 := { stood := { row := eventBytesUptoRow, standIns := [], harness := (true, "719420f1a8bf2e344b73afdc7856a3d5377eb448fe3ef409ee70f354e103274d"), looks := false }, kinds := [], alts := [], laidByText := true, laidKinds := [.data, .data, .data], laidTests := true, laidLooks := .later }
def EventBytesUptoCardSaid : Prop := Claim7.holds Tryd.pinned (.plain (OpenSpec.upto eventBytesSpec)) eventBytesUptoCard

/-- THE SECOND FORM's CARD OF 'partywalllaw03.EventStores'. -/
def eventStoresUptoCard : Claim7 := { stood := { row := eventStoresUptoRow, standIns := [], harness := (true, "719420f1a8bf2e344b73afdc7856a3d5377eb448fe3ef409ee70f354e103274d"), looks := false }, kinds := [], alts := [], laidByText := true, laidKinds := [.data, .data, .data], laidTests := true, laidLooks := .later }
def EventStoresUptoCardSaid : Prop := Claim7.holds Tryd.pinned (.plain (OpenSpec.upto eventStoresSpec)) eventStoresUptoCard

/-- THE SECOND FORM's CARD OF 'partywalllaw03.EventApart'. -/
def eventApartUptoCard : Claim7 := { stood := { row := eventApartUptoRow, standIns := [], harness := (true, "719420f1a8bf2e344b73afdc7856a3d5377eb448fe3ef409ee70f354e103274d"), looks := false }, kinds := [], alts := [], laidByText := true, laidKinds := [.data, .data, .data], laidTests := true, laidLooks := .later }
def EventApartUptoCardSaid : Prop := Claim7.holds Tryd.pinned (.plain (OpenSpec.upto eventApartSpec)) eventApartUptoCard

/-- THE SECOND FORM's CARD OF 'partywalllaw03.EventOrder'. -/
def eventOrderUptoCard : Claim7 := { stood := { row := eventOrderUptoRow, standIns := [], harness := (true, "719420f1a8bf2e344b73afdc7856a3d5377eb448fe3ef409ee70f354e103274d"), looks := false }, kinds := [], alts := [], laidByText := true, laidKinds := [.data, .data, .data], laidTests := true, laidLooks := .later }
def EventOrderUptoCardSaid : Prop := Claim7.holds Tryd.pinned (.plain (OpenSpec.upto eventOrderSpec)) eventOrderUptoCard
end Rows
end Go.Proofs.YtcmdndgaggbhoaaDoor
