/-
  NARROWER THAN 'FOR EVERY INPUT', by the rows' own cells (each row's printed sentence says how): FlowClasses: laid · FlowLeast: laid.
  DERIVED. THE GIVEN ROWS OF THIS SEAT. 2 by the template 'for every input the law returns true; each argument reads behind the call as it read before'; 0 by the template 'total and deterministic' (their statements: YtdoioaeppepndaaDoorTotals.lean).
  GIVEN WITH THE SEED: the statements are not yours to turn. If you find one false, say at which input.
  Laid BY PROGRAM, IN A SANDBOX (cutbox-rows.mjs): the forced cells as the released guide's own fill.sh prints them over the translation 84c19c1dbaa80a57… (all of the seat's roots in one cut). By AI agents, Wed Nov 11 2026. No macro, syntax, notation, axiom, sorry.
-/
import Derived.Test.YtdoioaeppepndaaDoorChecked
import GoSem.Claim
import GoSem.ClaimJoined
import GoSem.ClaimMapViews
import Derived.JoinedTies
import Derived.KernelRfl
namespace Go.Proofs.YtdoioaeppepndaaDoor
/- THE CELL 'sum', in the pinned program and in every row, IS THE sha256 OF THE DUMP (.gsa) THAT YtdoioaeppepndaaDoorProg.lean LOADS. Nothing in Lean hashes anything: it is a label: what it is worth is what the hold of that sum in a sandbox is worth. -/
noncomputable def Tryd.pinned : Pinned := { name := "ytdoioaeppepndaadoor", sum := "84c19c1dbaa80a5726bba138c32472cbf6691e4dd30f5b84ffaf65e9ba093eee", checked := Tryd.checked }
namespace Rows
def none {H : Type} : Left H := { results := [], args := [] }

/- WHAT THE LISTED PACKAGE-LEVEL VARIABLES READ AS WHEN THE CALL BEGINS. Each datum BY PROGRAM (the guide's laid-datum.mjs) off the statement by which the dump's own 'gosem.cut.vars' lays the variable. In a bare row this is a premise. The card (YtdoioaeppepndaaDoorCards.lean) ties it to the program's text. -/
def laid_partywall_token_signs {H : Type} : DataW H := .agg [.lit (.string [33, 61]), .lit (.string [60, 61]), .lit (.string [62, 61]), .lit (.string [61]), .lit (.string [60]), .lit (.string [62]), .lit (.string [59]), .lit (.string [124]), .lit (.string [123]), .lit (.string [125]), .lit (.string [44]), .lit (.string [40]), .lit (.string [41]), .lit (.string [91]), .lit (.string [93]), .lit (.string [64]), .lit (.string [58])]

/-- 'partywalllaw11.FlowClasses': WHATEVER THE INPUT: true; the input reads as it did. -/
def flowClassesSpec : ChangeSpec := { name := "flowClasses", fn := fun _ => fun
  | [d1, d2, d3] => { results := [.lit (.bool true)], args := [d1, d2, d3] }
  | _ => none }
def flowClassesRow : OpenClaim := { program := "ytdoioaeppepndaadoor", sum := "84c19c1dbaa80a5726bba138c32472cbf6691e4dd30f5b84ffaf65e9ba093eee", func := "partywall/partywalllaw11.FlowClasses", spec := "flowClasses", unfollowed := true, recurses := true, named := ["partywall/token.signs"], apart := false, laid := [("partywall/token.signs", laid_partywall_token_signs)] }
def FlowClassesSaid : Prop := flowClassesRow.holds Tryd.pinned (OpenSpec.ofChange flowClassesSpec)

/-- ITS FALSE NEIGHBOUR: 'it returns false'. Refute it at one input. -/
def flowClassesWrong : ChangeSpec := { name := "flowClasses", fn := fun _ => fun
  | [d1, d2, d3] => { results := [.lit (.bool false)], args := [d1, d2, d3] }
  | _ => none }
def FlowClassesWrongFalsely : Prop := flowClassesRow.holds Tryd.pinned (OpenSpec.ofChange flowClassesWrong)

/-- 'partywalllaw11.FlowLeast': WHATEVER THE INPUT: true; the input reads as it did. -/
def flowLeastSpec : ChangeSpec := { name := "flowLeast", fn := fun _ => fun
  | [d1, d2, d3] => { results := [.lit (.bool true)], args := [d1, d2, d3] }
  | _ => none }
def flowLeastRow : OpenClaim := { program := "ytdoioaeppepndaadoor", sum := "84c19c1dbaa80a5726bba138c32472cbf6691e4dd30f5b84ffaf65e9ba093eee", func := "partywall/partywalllaw11.FlowLeast", spec := "flowLeast", unfollowed := true, recurses := true, named := ["partywall/token.signs"], apart := false, laid := [("partywall/token.signs", laid_partywall_token_signs)] }
def FlowLeastSaid : Prop := flowLeastRow.holds Tryd.pinned (OpenSpec.ofChange flowLeastSpec)

/-- ITS FALSE NEIGHBOUR: 'it returns false'. Refute it at one input. -/
def flowLeastWrong : ChangeSpec := { name := "flowLeast", fn := fun _ => fun
  | [d1, d2, d3] => { results := [.lit (.bool false)], args := [d1, d2, d3] }
  | _ => none }
def FlowLeastWrongFalsely : Prop := flowLeastRow.holds Tryd.pinned (OpenSpec.ofChange flowLeastWrong)

/- THE SECOND FORM. 'bulk': how many values and letters a reading holds, each counted each time it is reached (what is shared counts as often as it is met; a slice's spare places count too). A statement '..UptoSaid' is the law's where the arguments, and the package variables that the reading takes, are together of bulk at most 1048576: NARROWER than '..Said'. Prove '..Said' where nothing that the law and all that it calls make is longer than what came in: it says more and counts as full. Else prove '..UptoSaid'. A law counts once. -/
mutual
def uptoBulk {H : Type} : DataW H → Nat
  | .lit (.string bytes) => bytes.length + 1
  | .lit _ => 1
  | .nil => 1
  | .ptr d => uptoBulk d + 1
  | .slice elems spare => uptoBulkAll elems + uptoBulkAll spare + 1
  | .agg parts => uptoBulkAll parts + 1
  | .iface _ d => uptoBulk d + 1
  | .map entries => uptoBulkEntries entries + 1
  | .held _ => 1
def uptoBulkAll {H : Type} : List (DataW H) → Nat
  | [] => 0
  | d :: r => uptoBulk d + uptoBulkAll r
def uptoBulkEntries {H : Type} : List (Lit × DataW H) → Nat
  | [] => 0
  | x :: r => uptoBulkEntry x + uptoBulkEntries r
def uptoBulkEntry {H : Type} : Lit × DataW H → Nat
  | (.string bytes, d) => bytes.length + uptoBulk d + 1
  | (_, d) => uptoBulk d + 1
 end
def uptoSmall : (H : Type) → List (DataW H) → Bool := fun _ ds => decide (uptoBulkAll ds ≤ 1048576)
def OpenSpec.upto (s : _root_.Go.ChangeSpec) : _root_.Go.OpenSpec := { _root_.Go.OpenSpec.ofChange s with cond := some uptoSmall }

/-- 'partywalllaw11.FlowClasses', WHERE WHAT IT READS IS OF BULK AT MOST 1048576: true; the input reads as it did. -/
def flowClassesUptoRow : OpenClaim := { program := "ytdoioaeppepndaadoor", sum := "84c19c1dbaa80a5726bba138c32472cbf6691e4dd30f5b84ffaf65e9ba093eee", func := "partywall/partywalllaw11.FlowClasses", spec := "flowClasses", unfollowed := true, recurses := true, named := ["partywall/token.signs"], apart := false, laid := [("partywall/token.signs", laid_partywall_token_signs)], narrowed := true }
def FlowClassesUptoSaid : Prop := flowClassesUptoRow.holds Tryd.pinned (OpenSpec.upto flowClassesSpec)

/-- 'partywalllaw11.FlowLeast', WHERE WHAT IT READS IS OF BULK AT MOST 1048576: true; the input reads as it did. -/
def flowLeastUptoRow : OpenClaim := { program := "ytdoioaeppepndaadoor", sum := "84c19c1dbaa80a5726bba138c32472cbf6691e4dd30f5b84ffaf65e9ba093eee", func := "partywall/partywalllaw11.FlowLeast", spec := "flowLeast", unfollowed := true, recurses := true, named := ["partywall/token.signs"], apart := false, laid := [("partywall/token.signs", laid_partywall_token_signs)], narrowed := true }
def FlowLeastUptoSaid : Prop := flowLeastUptoRow.holds Tryd.pinned (OpenSpec.upto flowLeastSpec)

end Rows
end Go.Proofs.YtdoioaeppepndaaDoor
