/-
  NARROWER THAN 'FOR EVERY INPUT', by the rows' own cells (each row's printed sentence says how): WellformedKnown: laid · WellformedParts: laid · WellformedFew: laid.
  DERIVED. THE GIVEN ROWS OF THIS SEAT. 3 by the template 'for every input the law returns true; each argument reads behind the call as it read before'; 0 by the template 'total and deterministic' (their statements: YthiacfmedcfcjaaDoorTotals.lean).
  GIVEN WITH THE SEED: the statements are not yours to turn. If you find one false, say at which input.
  Laid BY PROGRAM, IN A SANDBOX (cutbox-rows.mjs): the forced cells as the released guide's own fill.sh prints them over the translation d056cd8782ba4466… (all of the seat's roots in one cut). By AI agents, Wed Nov 11 2026. No macro, syntax, notation, axiom, sorry.
-/
import Derived.Test.YthiacfmedcfcjaaDoorChecked
import GoSem.Claim
import GoSem.ClaimJoined
import GoSem.ClaimMapViews
import Derived.JoinedTies
import Derived.KernelRfl
namespace Go.Proofs.YthiacfmedcfcjaaDoor
/- THE CELL 'sum', in the pinned program and in every row, IS THE sha256 OF THE DUMP (.gsa) THAT YthiacfmedcfcjaaDoorProg.lean LOADS. Nothing in Lean hashes anything: it is a label: what it is worth is what the hold of that sum in a sandbox is worth. -/
noncomputable def Tryd.pinned : Pinned := { name := "ythiacfmedcfcjaadoor", sum := "d056cd8782ba4466b628028c02be2018db5a2d556a5557a8cd6bf1996c9f605d", checked := Tryd.checked }
namespace Rows
def none {H : Type} : Left H := { results := [], args := [] }

/- WHAT THE LISTED PACKAGE-LEVEL VARIABLES READ AS WHEN THE CALL BEGINS. Each datum BY PROGRAM (the guide's laid-datum.mjs) off the statement by which the dump's own 'gosem.cut.vars' lays the variable. In a bare row this is a premise. The card (YthiacfmedcfcjaaDoorCards.lean) ties it to the program's text. -/
def laid_partywall_token_signs {H : Type} : DataW H := .agg [.lit (.string [33, 61]), .lit (.string [60, 61]), .lit (.string [62, 61]), .lit (.string [61]), .lit (.string [60]), .lit (.string [62]), .lit (.string [59]), .lit (.string [124]), .lit (.string [123]), .lit (.string [125]), .lit (.string [44]), .lit (.string [40]), .lit (.string [41]), .lit (.string [91]), .lit (.string [93]), .lit (.string [64]), .lit (.string [58])]

/-- 'partywalllaw10.WellformedKnown': WHATEVER THE INPUT: true; the input reads as it did. -/
def wellformedKnownSpec : ChangeSpec := { name := "wellformedKnown", fn := fun _ => fun
  | [] => { results := [.lit (.bool true)], args := [] }
  | _ => none }
def wellformedKnownRow : OpenClaim := { program := "ythiacfmedcfcjaadoor", sum := "d056cd8782ba4466b628028c02be2018db5a2d556a5557a8cd6bf1996c9f605d", func := "partywall/partywalllaw10.WellformedKnown", spec := "wellformedKnown", unfollowed := true, recurses := true, named := ["partywall/token.signs"], apart := false, laid := [("partywall/token.signs", laid_partywall_token_signs)] }
def WellformedKnownSaid : Prop := wellformedKnownRow.holds Tryd.pinned (OpenSpec.ofChange wellformedKnownSpec)

/-- ITS FALSE NEIGHBOUR: 'it returns false'. Refute it at one input. -/
def wellformedKnownWrong : ChangeSpec := { name := "wellformedKnown", fn := fun _ => fun
  | [] => { results := [.lit (.bool false)], args := [] }
  | _ => none }
def WellformedKnownWrongFalsely : Prop := wellformedKnownRow.holds Tryd.pinned (OpenSpec.ofChange wellformedKnownWrong)

/-- 'partywalllaw10.WellformedParts': WHATEVER THE INPUT: true; the input reads as it did. -/
def wellformedPartsSpec : ChangeSpec := { name := "wellformedParts", fn := fun _ => fun
  | [d1, d2] => { results := [.lit (.bool true)], args := [d1, d2] }
  | _ => none }
def wellformedPartsRow : OpenClaim := { program := "ythiacfmedcfcjaadoor", sum := "d056cd8782ba4466b628028c02be2018db5a2d556a5557a8cd6bf1996c9f605d", func := "partywall/partywalllaw10.WellformedParts", spec := "wellformedParts", unfollowed := true, recurses := true, named := ["partywall/token.signs"], apart := false, laid := [("partywall/token.signs", laid_partywall_token_signs)] }
def WellformedPartsSaid : Prop := wellformedPartsRow.holds Tryd.pinned (OpenSpec.ofChange wellformedPartsSpec)

/-- ITS FALSE NEIGHBOUR: 'it returns false'. Refute it at one input. -/
def wellformedPartsWrong : ChangeSpec := { name := "wellformedParts", fn := fun _ => fun
  | [d1, d2] => { results := [.lit (.bool false)], args := [d1, d2] }
  | _ => none }
def WellformedPartsWrongFalsely : Prop := wellformedPartsRow.holds Tryd.pinned (OpenSpec.ofChange wellformedPartsWrong)

/-- 'partywalllaw10.WellformedFew': WHATEVER THE INPUT: true; the input reads as it did. -/
def wellformedFewSpec : ChangeSpec := { name := "wellformedFew", fn := fun _ => fun
  | [d1, d2] => { results := [.lit (.bool true)], args := [d1, d2] }
  | _ => none }
def wellformedFewRow : OpenClaim := { program := "ythiacfmedcfcjaadoor", sum := "d056cd8782ba4466b628028c02be2018db5a2d556a5557a8cd6bf1996c9f605d", func := "partywall/partywalllaw10.WellformedFew", spec := "wellformedFew", unfollowed := true, recurses := true, named := ["partywall/token.signs"], apart := false, laid := [("partywall/token.signs", laid_partywall_token_signs)] }
def WellformedFewSaid : Prop := wellformedFewRow.holds Tryd.pinned (OpenSpec.ofChange wellformedFewSpec)

/-- ITS FALSE NEIGHBOUR: 'it returns false'. Refute it at one input. -/
def wellformedFewWrong : ChangeSpec := { name := "wellformedFew", fn := fun _ => fun
  | [d1, d2] => { results := [.lit (.bool false)], args := [d1, d2] }
  | _ => none }
def WellformedFewWrongFalsely : Prop := wellformedFewRow.holds Tryd.pinned (OpenSpec.ofChange wellformedFewWrong)

/- THE SECOND FORM. 'bulk': how many values and letters a reading holds, each counted each time it is reached (what is shared counts as often as it is met; a slice's spare places count too). A statement '..UptoSaid' is the law's where the arguments, and the package variables that the reading takes, are together of bulk at most 1048576: NARROWER than '..Said'. Prove '..Said' where nothing that the law and all that it calls make is longer than what came in: it says more and counts as full. Else prove '..UptoSaid'. A law counts once. -/
mutual
def uptoBulk {H : Type} : DataW H → Nat
  | .lit (.string bytes) => bytes.length + 1
  | .lit _ => 1
  | .nil => 1
  | .ptr d => uptoBulk d + 1
  | .slice elems spare => uptoBulkAll elems + uptoBulkAll spare + 1
  | .agg parts => uptoBulkAll parts + 1
  | .iface _ d => uptoBulk d + 1
  | .map entries => uptoBulkEntries entries + 1
  | .held _ => 1
def uptoBulkAll {H : Type} : List (DataW H) → Nat
  | [] => 0
  | d :: r => uptoBulk d + uptoBulkAll r
def uptoBulkEntries {H : Type} : List (Lit × DataW H) → Nat
  | [] => 0
  | x :: r => uptoBulkEntry x + uptoBulkEntries r
def uptoBulkEntry {H : Type} : Lit × DataW H → Nat
  | (.string bytes, d) => bytes.length + uptoBulk d + 1
  | (_, d) => uptoBulk d + 1
 end
def uptoSmall : (H : Type) → List (DataW H) → Bool := fun _ ds => decide (uptoBulkAll ds ≤ 1048576)
def OpenSpec.upto (s : _root_.Go.ChangeSpec) : _root_.Go.OpenSpec := { _root_.Go.OpenSpec.ofChange s with cond := some uptoSmall }

/-- 'partywalllaw10.WellformedKnown', WHERE WHAT IT READS IS OF BULK AT MOST 1048576: true; the input reads as it did. -/
def wellformedKnownUptoRow : OpenClaim := { program := "ythiacfmedcfcjaadoor", sum := "d056cd8782ba4466b628028c02be2018db5a2d556a5557a8cd6bf1996c9f605d", func := "partywall/partywalllaw10.WellformedKnown", spec := "wellformedKnown", unfollowed := true, recurses := true, named := ["partywall/token.signs"], apart := false, laid := [("partywall/token.signs", laid_partywall_token_signs)], narrowed := true }
def WellformedKnownUptoSaid : Prop := wellformedKnownUptoRow.holds Tryd.pinned (OpenSpec.upto wellformedKnownSpec)

/-- 'partywalllaw10.WellformedParts', WHERE WHAT IT READS IS OF BULK AT MOST 1048576: true; the input reads as it did. -/
def wellformedPartsUptoRow : OpenClaim := { program := "ythiacfmedcfcjaadoor", sum := "d056cd8782ba4466b628028c02be2018db5a2d556a5557a8cd6bf1996c9f605d", func := "partywall/partywalllaw10.WellformedParts", spec := "wellformedParts", unfollowed := true, recurses := true, named := ["partywall/token.signs"], apart := false, laid := [("partywall/token.signs", laid_partywall_token_signs)], narrowed := true }
def WellformedPartsUptoSaid : Prop := wellformedPartsUptoRow.holds Tryd.pinned (OpenSpec.upto wellformedPartsSpec)

/-- 'partywalllaw10.WellformedFew', WHERE WHAT IT READS IS OF BULK AT MOST 1048576: true; the input reads as it did. -/
def wellformedFewUptoRow : OpenClaim := { program := "ythiacfmedcfcjaadoor", sum := "d056cd8782ba4466b628028c02be2018db5a2d556a5557a8cd6bf1996c9f605d", func := "partywall/partywalllaw10.WellformedFew", spec := "wellformedFew", unfollowed := true, recurses := true, named := ["partywall/token.signs"], apart := false, laid := [("partywall/token.signs", laid_partywall_token_signs)], narrowed := true }
def WellformedFewUptoSaid : Prop := wellformedFewUptoRow.holds Tryd.pinned (OpenSpec.upto wellformedFewSpec)

end Rows
end Go.Proofs.YthiacfmedcfcjaaDoor
