/- Queries as data: what is sound, texts, atoms, nodes, depths. Nothing here speaks of the program. -/
import Derived.Test.YtfibmdbplfghcaaGreatDoorWords
import Derived.Test.YtfibmdbplfghcaaGreatDoorTokSpec
import Derived.Test.YtfibmdbplfghcaaGreatDoorLabelMath
import Derived.Lib.ItoaNum
import Derived.Lib.Join
namespace Go.Proofs.YtfibmdbplfghcaaGreatDoor.A8
open Go.Proofs.YtfibmdbplfghcaaGreatDoor.Tk7 Go.Proofs.YtfibmdbplfghcaaGreatDoor.Lb

/-- A condition, an atom, a node, an aggregate, a condition on one, a query. -/
structure Cn where
  op : Int
  va : Int
deriving DecidableEq
structure At where
  kd : Int
  bd : Bool
  bn : Int
  cs : List Cn
  nm : List UInt8
deriving DecidableEq
inductive Nd where
  | mk (k mn mx : Int) (a : At) (ks : List Nd)
structure Ag where
  fn : Int
  nm : List UInt8
deriving DecidableEq
structure Hv where
  ag : Ag
  cn : Cn
deriving DecidableEq
structure Qu where
  p : Nd
  wi : Int
  hv : List Hv
  em : List Ag

theorem Nd.ind {P : Nd → Prop} (h : ∀ k mn mx a ks, (∀ t ∈ ks, P t) → P (.mk k mn mx a ks)) : ∀ t, P t
  | .mk k mn mx a ks => h k mn mx a ks fun t _ => Nd.ind h t
termination_by t => SizeOf.sizeOf t
decreasing_by
  have := List.sizeOf_lt_of_mem ‹t ∈ ks›
  simp only [Nd.mk.sizeOf_spec]
  omega

/-- The words of the language. -/
def wordsA : List (List UInt8) := [[119, 105, 116, 104, 105, 110], [104, 97, 118, 105, 110, 103], [97, 110, 100], [101, 109, 105, 116], [110, 111, 116], [99, 111, 117, 110, 116], [115, 117, 109], [109, 105, 110], [109, 97, 120], [102, 105, 114, 115, 116], [108, 97, 115, 116]]
/-- Whether this is a name. -/
def nameB (s : List UInt8) : Bool := decide (1 ≤ s.length) && decide (s.length ≤ 8) && s.all smallB && !wordsA.contains s
def condB (c : Cn) : Bool := decide (1 ≤ c.op) && decide (c.op ≤ 6)
def atomB (a : At) : Bool := (decide (0 ≤ a.kd) && decide (a.kd ≤ 25)) && (a.bd || decide (a.bn = 0)) && a.cs.all condB && (a.nm.isEmpty || nameB a.nm)
def zeroB (a : At) : Bool := decide (a.kd = 0) && !a.bd && decide (a.bn = 0) && a.nm.isEmpty && a.cs.isEmpty
/-- Whether a node is sound if its kids are. -/
def nodeB (k mn mx : Int) (a : At) (n : Nat) : Bool :=
  if k = 1 then atomB a && (decide (0 ≤ mn) && decide (mn ≤ 99)) && (decide (0 ≤ mx) && decide (mx ≤ 99)) && decide (n = 0)
  else if k = 2 then atomB a && (decide (mn = 0) && decide (mx = 0)) && decide (n = 0)
  else if k = 3 ∨ k = 4 then zeroB a && (decide (mn = 0) && decide (mx = 0)) && decide (2 ≤ n)
  else false
mutual
def soundN : Nat → Nd → Bool
  | d, .mk k mn mx a ks => decide (d ≤ 200) && nodeB k mn mx a ks.length && soundL (d + 1) ks
def soundL : Nat → List Nd → Bool
  | _, [] => true
  | d, n :: ns => soundN d n && soundL d ns
end
theorem soundL_all (d : Nat) (ks : List Nd) : soundL d ks = ks.all (soundN d) := by
  induction ks with
  | nil => rfl
  | cons n ns ih => rw [soundL, ih, List.all_cons]
def soundE (n : Nd) : Int := if soundN 1 n = true then 0 else 3
def aggB (a : Ag) : Bool := (decide (1 ≤ a.fn) && decide (a.fn ≤ 6)) && nameB a.nm
def haveB (h : Hv) : Bool := aggB h.ag && condB h.cn
def checkB (q : Qu) : Bool := soundN 1 q.p && decide (q.wi ≤ 99999) && q.hv.all haveB && q.em.all aggB
def checkE (q : Qu) : Int := if checkB q = true then 0 else 3

/-! Texts -/
/-- Lists with something between them. -/
def sepL (s : List UInt8) : List (List UInt8) → List UInt8
  | [] => []
  | [x] => x
  | x :: y :: r => x ++ s ++ sepL s (y :: r)
def listT (bef : List UInt8) (l : List (List UInt8)) (btw aft : List UInt8) : List UInt8 := if l.isEmpty then [] else bef ++ sepL btw l ++ aft
def opsA : List (List UInt8) := [[], [61], [33, 61], [60], [60, 61], [62], [62, 61]]
def funsA : List (List UInt8) := [[], [99, 111, 117, 110, 116], [115, 117, 109], [109, 105, 110], [109, 97, 120], [102, 105, 114, 115, 116], [108, 97, 115, 116]]
def condT (c : Cn) : List UInt8 := opsA.getD c.op.toNat [] ++ Lib.itoa c.va
def labelT (x : Int) : List UInt8 := [123] ++ Lib.join ((cats x.toNat).map Lib.decDigits) [44] ++ [125]
def atomT (a : At) : List UInt8 :=
  [UInt8.ofNat (65 + a.kd.toNat)] ++ (if a.bd = true then 64 :: labelT a.bn else []) ++ listT [91] (a.cs.map condT) [44] [93] ++ (if a.nm.isEmpty = true then [] else 58 :: a.nm)
def timesT (mn mx : Int) : List UInt8 := if mn = 1 ∧ mx = 1 then [] else [123] ++ (Lib.itoa mn ++ [44] ++ Lib.itoa mx) ++ [125]
def Nd.kind : Nd → Int | .mk k _ _ _ _ => k
/-- A kid, in parentheses or not. -/
def wrapT (k : Int) (kk : Int) (t : List UInt8) : List UInt8 := if kk = 4 ∨ kk = k then [40] ++ t ++ [41] else t
mutual
def textN : Nd → List UInt8
  | .mk k mn mx a ks =>
    if k = 1 then atomT a ++ timesT mn mx
    else if k = 2 then [110, 111, 116, 32] ++ atomT a
    else if k = 3 then sepL [32, 59, 32] (textL k ks)
    else if k = 4 then sepL [32, 124, 32] (textL k ks)
    else []
def textL : Int → List Nd → List (List UInt8)
  | _, [] => []
  | k, n :: ns => wrapT k n.kind (textN n) :: textL k ns
end
theorem textL_map (k : Int) (ks : List Nd) : textL k ks = ks.map fun n => wrapT k n.kind (textN n) := by
  induction ks with
  | nil => rfl
  | cons n ns ih => rw [textL, ih, List.map_cons]
def aggT (a : Ag) : List UInt8 := funsA.getD a.fn.toNat [] ++ [40] ++ a.nm ++ [41]
def haveT (h : Hv) : List UInt8 := aggT h.ag ++ [32] ++ condT h.cn
def queryT (q : Qu) : List UInt8 :=
  textN q.p ++ [32, 119, 105, 116, 104, 105, 110, 32] ++ Lib.itoa q.wi ++ listT [32, 104, 97, 118, 105, 110, 103, 32] (q.hv.map haveT) [32, 97, 110, 100, 32] [] ++ listT [32, 101, 109, 105, 116, 32] (q.em.map aggT) [44, 32] []
/-- A text, or the error. -/
def patternS (n : Nd) : List UInt8 := if soundN 1 n = true ∧ (textN n).length ≤ 400 then textN n else []
def patternE (n : Nd) : Int := if soundN 1 n = true then (if (textN n).length ≤ 400 then 0 else 4) else 3
def printS (q : Qu) : List UInt8 := if checkB q = true ∧ (queryT q).length ≤ 400 then queryT q else []
def printE (q : Qu) : Int := if checkB q = true then (if (queryT q).length ≤ 400 then 0 else 4) else 3

/-! Parts -/
mutual
def nodesN : Nd → Nat
  | .mk _ _ _ _ ks => 1 + nodesL ks
def nodesL : List Nd → Nat
  | [] => 0
  | n :: ns => nodesN n + nodesL ns
end
mutual
def depthN : Nd → Nat
  | .mk _ _ _ _ ks => 1 + depthL ks
def depthL : List Nd → Nat
  | [] => 0
  | n :: ns => max (depthN n) (depthL ns)
end
mutual
/-- The nodes of a node, each before its kids. -/
def subsN : Nd → List Nd
  | .mk k mn mx a ks => .mk k mn mx a ks :: subsL ks
def subsL : List Nd → List Nd
  | [] => []
  | n :: ns => subsN n ++ subsL ns
end
def Nd.kids : Nd → List Nd | .mk _ _ _ _ ks => ks
def Nd.atom : Nd → At | .mk _ _ _ a _ => a
/-- The nodes without kids. -/
def leavesN (n : Nd) : List Nd := (subsN n).filter fun t => t.kids.isEmpty
end Go.Proofs.YtfibmdbplfghcaaGreatDoor.A8
