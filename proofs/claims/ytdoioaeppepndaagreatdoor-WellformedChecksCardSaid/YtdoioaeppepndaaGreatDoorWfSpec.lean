/- Which queries are well-formed, their names, those that are used: as data. Nothing here speaks of the program. -/
import Derived.Test.YtdoioaeppepndaaGreatDoorAstSm
namespace Go.Proofs.YtdoioaeppepndaaGreatDoor.W10
open A8

def isNotB (n : Nd) : Bool := decide (n.kind = 2)
def wideB (n : Nd) : Bool := decide (8 < n.kids.length) || decide (4 < n.atom.cs.length)
def leafB (n : Nd) : Bool := n.kids.isEmpty
/-- Too many nodes of a kind, or too much in one. -/
def roomL (l : List Nd) : Bool := l.any wideB || decide (12 < (l.filter leafB).length)
def fullB (q : Qu) : Bool := decide (4 < q.hv.length) || decide (4 < q.em.length) || roomL (subsN q.p)
/-- The numbers of times of a node stand right. -/
def timesB : Nd → Bool
  | .mk k mn mx _ _ => !decide (k = 1) || (decide (1 ≤ mn) && decide (mn ≤ mx) && decide (mx ≤ 6))
def rangeB (q : Qu) : Bool := decide (q.wi ≤ 10000) && (leavesN q.p).all timesB
def otherB (l : List Nd) : Bool := l.any fun n => !isNotB n
/-- The negated kids of a node, from a number on, stand right. -/
def standL (k : Int) (all : List Nd) (i : Nat) : Bool := match all[i]? with
  | none => true
  | some n => !isNotB n || (decide (k = 3) && otherB (all.take i) && otherB (all.drop (i + 1)))
def standsN : Nd → Bool
  | .mk k _ _ _ ks => (List.range ks.length).all (standL k ks)
def notsB (p : Nd) : Bool := !isNotB p && (subsN p).all standsN
/-- No name (that is not empty) stands twice. -/
def onceL : List (List UInt8) → Bool
  | [] => true
  | s :: r => (s.isEmpty || !r.contains s) && onceL r
def leafNames (p : Nd) : List (List UInt8) := (leavesN p).map fun n => n.atom.nm
def hasNm (n : Nd) : Bool := !n.atom.nm.isEmpty
def isNmd (n : Nd) : Bool := !isNotB n && hasNm n
/-- The names of a pattern, in order. -/
def namesN (p : Nd) : List (List UInt8) := ((leavesN p).filter isNmd).map fun n => n.atom.nm
/-- The names that are used. -/
def useL (q : Qu) : List (List UInt8) := q.hv.map (fun h => h.ag.nm) ++ q.em.map (fun a => a.nm)
def bareB (p : Nd) : Bool := (leavesN p).all fun n => !(isNotB n && hasNm n)
def knownB (q : Qu) : Bool := (useL q).all fun s => (namesN q.p).contains s
/-- The first error. -/
def wfE (q : Qu) : Int :=
  if checkB q = false then 3
  else if fullB q = true then 6
  else if 6 < depthN q.p then 22
  else if rangeB q = false then 2
  else if notsB q.p = false then 9
  else if onceL (leafNames q.p) = false then 8
  else if bareB q.p = false ∨ knownB q = false then 12
  else 0
def plainQ (p : Nd) : Qu := ⟨p, 0, [], []⟩
/-- Each once, where it stands first. -/
def firsts : List (List UInt8) → List (List UInt8) → List (List UInt8)
  | _, [] => []
  | seen, s :: r => if seen.contains s = true then firsts seen r else s :: firsts (seen ++ [s]) r
/-- The number of the first of these. -/
def findN (s : List UInt8) : List (List UInt8) → Nat → Int
  | [], _ => 0
  | x :: r, i => if x = s then (i : Int) else findN s r (i + 1)
def namedE (q : Qu) (s : List UInt8) : Int := if wfE q = 0 then (if (namesN q.p).contains s = true then 0 else 12) else wfE q
def namedI (q : Qu) (s : List UInt8) : Int := if namedE q s = 0 then findN s (leafNames q.p) 0 else 0
def namesL (q : Qu) : List (List UInt8) := if wfE q = 0 then namesN q.p else []
def usesL (q : Qu) : List (List UInt8) := if wfE q = 0 then firsts [] (useL q) else []
def roomA (q : Qu) : Int := if wfE q = 0 then ((leavesN q.p).length : Int) else 0
def roomD (q : Qu) : Int := if wfE q = 0 then (depthN q.p : Int) else 0
end Go.Proofs.YtdoioaeppepndaaGreatDoor.W10
