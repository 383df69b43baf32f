/- The writer: a strings.Builder inside of a struct of the program's own. Walks: its methods. -/
import Derived.Test.YtdoioaeppepndaaGreatDoorProg
import Derived.Test.YtdoioaeppepndaaGreatDoorAstSm
import Derived.Outline
import Derived.Handy
import Derived.Lib.OthersKept
import Derived.Lib.AppendStr
import Derived.Lib.OwnKind
import Derived.Lib.UnsafeStr
import Derived.Shelf.RegionOpenPlain
import Derived.Shelf.RegionOpen
import Derived.Laws.Externs
namespace Go.Proofs.YtdoioaeppepndaaGreatDoor
open Go.RowKit
open A8

/-- What is kept by a writer's work: all below n0, and all blocks that are neither the writer's nor rows of bytes. -/
def Kept (n0 b : Nat) (w w' : World) : Prop := Below n0 w w' ∧ Lib.OthersKept 5 (some b) w w'
theorem Kept.refl (n0 b : Nat) (w : World) : Kept n0 b w w := ⟨Below.refl _ _, Lib.OthersKept.refl _ _ _⟩
theorem Kept.trans {n0 b : Nat} {w1 w2 w3 : World} (h : Kept n0 b w1 w2) (k : Kept n0 b w2 w3) : Kept n0 b w1 w3 := ⟨h.1.trans k.1, h.2.trans k.2⟩
theorem Kept.of {n0 b : Nat} {w w' : World} (h : Below w.heap.size w w') (hn : n0 ≤ w.heap.size) : Kept n0 b w w' :=
  ⟨h.mono hn, fun k _ ho _ _ => (h.block k (Array.getElem?_eq_some_iff.1 ho).1).trans ho⟩
theorem Kept.alloc {n0 b : Nat} {w w1 : World} (h : Kept n0 b w w1) (hn : n0 ≤ w.heap.size) (o : Obj) : Kept n0 b w (w1.alloc o) :=
  h.trans (Kept.of (A8.b1 _ o) (Nat.le_trans hn h.1.size))
theorem Kept.later {n0 b : Nat} {w w1 w2 : World} (h : Kept n0 b w w1) (hn : n0 ≤ w.heap.size) (hb : Below w1.heap.size w1 w2) : Kept n0 b w w2 :=
  h.trans (Kept.of hb (Nat.le_trans hn h.1.size))
theorem Kept.size {n0 b : Nat} {w w1 : World} (h : Kept n0 b w w1) : w.heap.size ≤ w1.heap.size := h.1.size
/-- A block of the call's own, with its type. -/
def Bx (w : World) (c : Nat) (t : TypeId) (us : List Value) : Prop := w.heap[c]? = some (.cells us.toArray t (0, 0))
theorem Bx.new (w : World) (us : List Value) (t : TypeId) : Bx (w.alloc (.cells us.toArray t)) w.heap.size t us := World.alloc_heap_new w _
theorem Bx.lt {w : World} {c : Nat} {t : TypeId} {us : List Value} (h : Bx w c t us) : c < w.heap.size := (Array.getElem?_eq_some_iff.1 h).1
theorem Bx.kept {n0 b : Nat} {w w' : World} {c : Nat} {t : TypeId} {us : List Value} (h : Bx w c t us) (hk : Kept n0 b w w') (hc : c ≠ b) (ht : t ≠ 5) : Bx w' c t us :=
  hk.2 c _ h (fun e => hc (by cases e; rfl)) (fun cs fz e => ht (by cases e; rfl))
theorem Bx.later {w w' : World} {c : Nat} {t : TypeId} {us : List Value} (h : Bx w c t us) (hb : Below w.heap.size w w') : Bx w' c t us := (hb.block c h.lt).trans h
theorem Bx.blk {w : World} {c : Nat} {t : TypeId} {us : List Value} (h : Bx w c t us) : Blk w c us := by
  refine ⟨h.lt, fun i v hv => ?_, fun i v _ => ?_⟩
  · rw [cell_of_row _ _ i us.toArray t (0, 0) h]; simpa using hv
  · exact Lib.frozen_of_heap h i
theorem at_later {n0 b : Nat} {T e : TypeId} {p : Value} {bs : List Value} {w w' : World} (h : Lib.BuilderAt T e n0 b p bs w) (hb : Below w.heap.size w w') : Lib.BuilderAt T e n0 b p bs w' := by
  obtain ⟨h1, v, h2, h3, h4⟩ := h
  exact ⟨h1, v, (hb.block b (Array.getElem?_eq_some_iff.1 h2).1).trans h2, own_later h3 hb, h4⟩
theorem infoByte8 : (Tryz.prog.info? 5).map (fun i => (i.zero, i.size, i.bytes)) = some (some (.int .u8 0), 1, 1) := by kernel_rfl
theorem Kept.set {n0 b : Nat} {w w1 : World} (h : Kept n0 b w w1) (hb : n0 ≤ b) (i : Nat) (v : Value) : Kept n0 b w (w1.setCell ⟨b, i, none⟩ v) :=
  ⟨h.1.setCell (p := ⟨b, i, none⟩) hb _, h.2.setCell ⟨b, i, none⟩ rfl _⟩
theorem strCells8 (l : List UInt8) : Lib.strCells (strOf l) = bvals l := by
  unfold Lib.strCells bvals strOf
  simp
theorem strSize8 (l : List UInt8) : (strOf l).size = l.length := by simp [strOf, ByteArray.size]
theorem bvalsApp8 (a b : List UInt8) : bvals (a ++ b) = bvals a ++ bvals b := by simp [bvals]
end Go.Proofs.YtdoioaeppepndaaGreatDoor
