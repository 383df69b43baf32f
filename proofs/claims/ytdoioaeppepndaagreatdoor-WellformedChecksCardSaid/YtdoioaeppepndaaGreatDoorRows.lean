/-
  NARROWER THAN 'FOR EVERY INPUT', by the rows' own cells (each row's printed sentence says how): FlowKnown: laid · FlowQueries: loops, laid · FlowRestricts: laid · FlowSees: laid · WellformedChecks: loops, laid.
  DERIVED. THE GIVEN ROWS OF THIS SEAT. 5 by the template 'for every input the law returns true; each argument reads behind the call as it read before'; 0 by the template 'total and deterministic' (their statements: YtdoioaeppepndaaGreatDoorTotals.lean).
  GIVEN WITH THE SEED: the statements are not yours to turn. If you find one false, say at which input.
  Laid BY PROGRAM, IN A SANDBOX (cutbox-rows.mjs): the forced cells as the released guide's own fill.sh prints them over the translation b5b3c76517e14d86… (all of the seat's roots in one cut). By AI agents, Wed Nov 11 2026. No macro, syntax, notation, axiom, sorry.
-/
import Derived.Test.YtdoioaeppepndaaGreatDoorChecked
import GoSem.Claim
import GoSem.ClaimJoined
import GoSem.ClaimMapViews
import Derived.JoinedTies
import Derived.KernelRfl
namespace Go.Proofs.YtdoioaeppepndaaGreatDoor
/- THE CELL 'sum', in the pinned program and in every row, IS THE sha256 OF THE DUMP (.gsa) THAT YtdoioaeppepndaaGreatDoorProg.lean LOADS. Nothing in Lean hashes anything: it is a label: what it is worth is what the hold of that sum in a sandbox is worth. -/
noncomputable def Tryz.pinned : Pinned := { name := "ytdoioaeppepndaagreatdoor", sum := "b5b3c76517e14d866bc552b9deb1b7fff5d4b0549f8dca0593a83d6a9d4ebd67", checked := Tryz.checked }
namespace Rows
def none {H : Type} : Left H := { results := [], args := [] }

/- WHAT THE LISTED PACKAGE-LEVEL VARIABLES READ AS WHEN THE CALL BEGINS. Each datum BY PROGRAM (the guide's laid-datum.mjs) off the statement by which the dump's own 'gosem.cut.vars' lays the variable. In a bare row this is a premise. The card (YtdoioaeppepndaaGreatDoorCards.lean) ties it to the program's text. -/
def laid_partywall_token_signs {H : Type} : DataW H := .agg [.lit (.string [33, 61]), .lit (.string [60, 61]), .lit (.string [62, 61]), .lit (.string [61]), .lit (.string [60]), .lit (.string [62]), .lit (.string [59]), .lit (.string [124]), .lit (.string [123]), .lit (.string [125]), .lit (.string [44]), .lit (.string [40]), .lit (.string [41]), .lit (.string [91]), .lit (.string [93]), .lit (.string [64]), .lit (.string [58])]

/-- 'partywalllaw11.FlowKnown': WHATEVER THE INPUT: true; the input reads as it did. -/
def flowKnownSpec : ChangeSpec := { name := "flowKnown", fn := fun _ => fun
  | [] => { results := [.lit (.bool true)], args := [] }
  | _ => none }
def flowKnownRow : OpenClaim := { program := "ytdoioaeppepndaagreatdoor", sum := "b5b3c76517e14d866bc552b9deb1b7fff5d4b0549f8dca0593a83d6a9d4ebd67", func := "partywall/partywalllaw11.FlowKnown", spec := "flowKnown", unfollowed := true, recurses := true, named := ["partywall/token.signs"], apart := false, laid := [("partywall/token.signs", laid_partywall_token_signs)] }
def FlowKnownSaid : Prop := flowKnownRow.holds Tryz.pinned (OpenSpec.ofChange flowKnownSpec)

/-- ITS FALSE NEIGHBOUR: 'it returns false'. Refute it at one input. -/
def flowKnownWrong : ChangeSpec := { name := "flowKnown", fn := fun _ => fun
  | [] => { results := [.lit (.bool false)], args := [] }
  | _ => none }
def FlowKnownWrongFalsely : Prop := flowKnownRow.holds Tryz.pinned (OpenSpec.ofChange flowKnownWrong)

/-- 'partywalllaw11.FlowQueries': WHATEVER THE INPUT: true; the input reads as it did. -/
def flowQueriesSpec : ChangeSpec := { name := "flowQueries", fn := fun _ => fun
  | [d1, d2, d3] => { results := [.lit (.bool true)], args := [d1, d2, d3] }
  | _ => none }
def flowQueriesRow : OpenClaim := { program := "ytdoioaeppepndaagreatdoor", sum := "b5b3c76517e14d866bc552b9deb1b7fff5d4b0549f8dca0593a83d6a9d4ebd67", func := "partywall/partywalllaw11.FlowQueries", spec := "flowQueries", unfollowed := true, recurses := true, named := ["partywall/token.signs"], loops := true, apart := false, laid := [("partywall/token.signs", laid_partywall_token_signs)] }
def FlowQueriesSaid : Prop := flowQueriesRow.holds Tryz.pinned (OpenSpec.ofChange flowQueriesSpec)

/-- ITS FALSE NEIGHBOUR: 'it returns false'. Refute it at one input. -/
def flowQueriesWrong : ChangeSpec := { name := "flowQueries", fn := fun _ => fun
  | [d1, d2, d3] => { results := [.lit (.bool false)], args := [d1, d2, d3] }
  | _ => none }
def FlowQueriesWrongFalsely : Prop := flowQueriesRow.holds Tryz.pinned (OpenSpec.ofChange flowQueriesWrong)

/-- 'partywalllaw11.FlowRestricts': WHATEVER THE INPUT: true; the input reads as it did. -/
def flowRestrictsSpec : ChangeSpec := { name := "flowRestricts", fn := fun _ => fun
  | [d1, d2, d3] => { results := [.lit (.bool true)], args := [d1, d2, d3] }
  | _ => none }
def flowRestrictsRow : OpenClaim := { program := "ytdoioaeppepndaagreatdoor", sum := "b5b3c76517e14d866bc552b9deb1b7fff5d4b0549f8dca0593a83d6a9d4ebd67", func := "partywall/partywalllaw11.FlowRestricts", spec := "flowRestricts", unfollowed := true, recurses := true, named := ["partywall/token.signs"], apart := false, laid := [("partywall/token.signs", laid_partywall_token_signs)] }
def FlowRestrictsSaid : Prop := flowRestrictsRow.holds Tryz.pinned (OpenSpec.ofChange flowRestrictsSpec)

/-- ITS FALSE NEIGHBOUR: 'it returns false'. Refute it at one input. -/
def flowRestrictsWrong : ChangeSpec := { name := "flowRestricts", fn := fun _ => fun
  | [d1, d2, d3] => { results := [.lit (.bool false)], args := [d1, d2, d3] }
  | _ => none }
def FlowRestrictsWrongFalsely : Prop := flowRestrictsRow.holds Tryz.pinned (OpenSpec.ofChange flowRestrictsWrong)

/-- 'partywalllaw11.FlowSees': WHATEVER THE INPUT: true; the input reads as it did. -/
def flowSeesSpec : ChangeSpec := { name := "flowSees", fn := fun _ => fun
  | [d1, d2, d3, d4, d5, d6] => { results := [.lit (.bool true)], args := [d1, d2, d3, d4, d5, d6] }
  | _ => none }
def flowSeesRow : OpenClaim := { program := "ytdoioaeppepndaagreatdoor", sum := "b5b3c76517e14d866bc552b9deb1b7fff5d4b0549f8dca0593a83d6a9d4ebd67", func := "partywall/partywalllaw11.FlowSees", spec := "flowSees", unfollowed := true, recurses := true, named := ["partywall/token.signs"], apart := false, laid := [("partywall/token.signs", laid_partywall_token_signs)] }
def FlowSeesSaid : Prop := flowSeesRow.holds Tryz.pinned (OpenSpec.ofChange flowSeesSpec)

/-- ITS FALSE NEIGHBOUR: 'it returns false'. Refute it at one input. -/
def flowSeesWrong : ChangeSpec := { name := "flowSees", fn := fun _ => fun
  | [d1, d2, d3, d4, d5, d6] => { results := [.lit (.bool false)], args := [d1, d2, d3, d4, d5, d6] }
  | _ => none }
def FlowSeesWrongFalsely : Prop := flowSeesRow.holds Tryz.pinned (OpenSpec.ofChange flowSeesWrong)

/-- 'partywalllaw10.WellformedChecks': WHATEVER THE INPUT: true; the input reads as it did. -/
def wellformedChecksSpec : ChangeSpec := { name := "wellformedChecks", fn := fun _ => fun
  | [d1, d2] => { results := [.lit (.bool true)], args := [d1, d2] }
  | _ => none }
def wellformedChecksRow : OpenClaim := { program := "ytdoioaeppepndaagreatdoor", sum := "b5b3c76517e14d866bc552b9deb1b7fff5d4b0549f8dca0593a83d6a9d4ebd67", func := "partywall/partywalllaw10.WellformedChecks", spec := "wellformedChecks", unfollowed := true, recurses := true, named := ["partywall/token.signs"], loops := true, apart := false, laid := [("partywall/token.signs", laid_partywall_token_signs)] }
def WellformedChecksSaid : Prop := wellformedChecksRow.holds Tryz.pinned (OpenSpec.ofChange wellformedChecksSpec)

/-- ITS FALSE NEIGHBOUR: 'it returns false'. Refute it at one input. -/
def wellformedChecksWrong : ChangeSpec := { name := "wellformedChecks", fn := fun _ => fun
  | [d1, d2] => { results := [.lit (.bool false)], args := [d1, d2] }
  | _ => none }
def WellformedChecksWrongFalsely : Prop := wellformedChecksRow.holds Tryz.pinned (OpenSpec.ofChange wellformedChecksWrong)

/- THE SECOND FORM. 'bulk': how many values and letters a reading holds, each counted each time it is reached (what is shared counts as often as it is met; a slice's spare places count too). A statement '..UptoSaid' is the law's where the arguments, and the package variables that the reading takes, are together of bulk at most 1048576: NARROWER than '..Said'. Prove '..Said' where nothing that the law and all that it calls make is longer than what came in: it says more and counts as full. Else prove '..UptoSaid'. A law counts once. -/
mutual
def uptoBulk {H : Type} : DataW H → Nat
  | .lit (.string bytes) => bytes.length + 1
  | .lit _ => 1
  | .nil => 1
  | .ptr d => uptoBulk d + 1
  | .slice elems spare => uptoBulkAll elems + uptoBulkAll spare + 1
  | .agg parts => uptoBulkAll parts + 1
  | .iface _ d => uptoBulk d + 1
  | .map entries => uptoBulkEntries entries + 1
  | .held _ => 1
def uptoBulkAll {H : Type} : List (DataW H) → Nat
  | [] => 0
  | d :: r => uptoBulk d + uptoBulkAll r
def uptoBulkEntries {H : Type} : List (Lit × DataW H) → Nat
  | [] => 0
  | x :: r => uptoBulkEntry x + uptoBulkEntries r
def uptoBulkEntry {H : Type} : Lit × DataW H → Nat
  | (.string bytes, d) => bytes.length + uptoBulk d + 1
  | (_, d) => uptoBulk d + 1
 end
def uptoSmall : (H : Type) → List (DataW H) → Bool := fun _ ds => decide (uptoBulkAll ds ≤ 1048576)
def OpenSpec.upto (s : _root_.Go.ChangeSpec) : _root_.Go.OpenSpec := { _root_.Go.OpenSpec.ofChange s with cond := some uptoSmall }

/-- 'partywalllaw11.FlowKnown', WHERE WHAT IT READS IS OF BULK AT MOST 1048576: true; the input reads as it did. -/
def flowKnownUptoRow : OpenClaim := { program := "ytdoioaeppepndaagreatdoor", sum := "b5b3c76517e14d866bc552b9deb1b7fff5d4b0549f8dca0593a83d6a9d4ebd67", func := "partywall/partywalllaw11.FlowKnown", spec := "flowKnown", unfollowed := true, recurses := true, named := ["partywall/token.signs"], apart := false, laid := [("partywall/token.signs", laid_partywall_token_signs)], narrowed := true }
def FlowKnownUptoSaid : Prop := flowKnownUptoRow.holds Tryz.pinned (OpenSpec.upto flowKnownSpec)

/-- 'partywalllaw11.FlowQueries', WHERE WHAT IT READS IS OF BULK AT MOST 1048576: true; the input reads as it did. -/
def flowQueriesUptoRow : OpenClaim := { program := "ytdoioaeppepndaagreatdoor", sum := "b5b3c76517e14d866bc552b9deb1b7fff5d4b0549f8dca0593a83d6a9d4ebd67", func := "partywall/partywalllaw11.FlowQueries", spec := "flowQueries", unfollowed := true, recurses := true, named := ["partywall/token.signs"], loops := true, apart := false, laid := [("partywall/token.signs", laid_partywall_token_signs)], narrowed := true }
def FlowQueriesUptoSaid : Prop := flowQueriesUptoRow.holds Tryz.pinned (OpenSpec.upto flowQueriesSpec)

/-- 'partywalllaw11.FlowRestricts', WHERE WHAT IT READS IS OF BULK AT MOST 1048576: true; the input reads as it did. -/
def flowRestrictsUptoRow : OpenClaim := { program := "ytdoioaeppepndaagreatdoor", sum := "b5b3c76517e14d866bc552b9deb1b7fff5d4b0549f8dca0593a83d6a9d4ebd67", func := "partywall/partywalllaw11.FlowRestricts", spec := "flowRestricts", unfollowed := true, recurses := true, named := ["partywall/token.signs"], apart := false, laid := [("partywall/token.signs", laid_partywall_token_signs)], narrowed := true }
def FlowRestrictsUptoSaid : Prop := flowRestrictsUptoRow.holds Tryz.pinned (OpenSpec.upto flowRestrictsSpec)

/-- 'partywalllaw11.FlowSees', WHERE WHAT IT READS IS OF BULK AT MOST 1048576: true; the input reads as it did. -/
def flowSeesUptoRow : OpenClaim := { program := "ytdoioaeppepndaagreatdoor", sum := "b5b3c76517e14d866bc552b9deb1b7fff5d4b0549f8dca0593a83d6a9d4ebd67", func := "partywall/partywalllaw11.FlowSees", spec := "flowSees", unfollowed := true, recurses := true, named := ["partywall/token.signs"], apart := false, laid := [("partywall/token.signs", laid_partywall_token_signs)], narrowed := true }
def FlowSeesUptoSaid : Prop := flowSeesUptoRow.holds Tryz.pinned (OpenSpec.upto flowSeesSpec)

/-- 'partywalllaw10.WellformedChecks', WHERE WHAT IT READS IS OF BULK AT MOST 1048576: true; the input reads as it did. -/
def wellformedChecksUptoRow : OpenClaim := { program := "ytdoioaeppepndaagreatdoor", sum := "b5b3c76517e14d866bc552b9deb1b7fff5d4b0549f8dca0593a83d6a9d4ebd67", func := "partywall/partywalllaw10.WellformedChecks", spec := "wellformedChecks", unfollowed := true, recurses := true, named := ["partywall/token.signs"], loops := true, apart := false, laid := [("partywall/token.signs", laid_partywall_token_signs)], narrowed := true }
def WellformedChecksUptoSaid : Prop := wellformedChecksUptoRow.holds Tryz.pinned (OpenSpec.upto wellformedChecksSpec)

end Rows
end Go.Proofs.YtdoioaeppepndaaGreatDoor
