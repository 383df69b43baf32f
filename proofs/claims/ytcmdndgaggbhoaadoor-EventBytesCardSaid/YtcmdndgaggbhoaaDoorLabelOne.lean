/- Package label, first part: bytes, reading. -/
import Derived.Test.YtcmdndgaggbhoaaDoorWords
import Derived.Test.YtcmdndgaggbhoaaDoorLabelNil
import Derived.Deep.QuietTactic
import Derived.BigQuiet
import Derived.Deep.Draws
import Derived.Laws.AppendOwnNone
import Derived.Deep.LoopGhost
import Derived.WalkMore
import Derived.Laws.OwnMore
import Derived.Handy
import Derived.RegionTactic
import Derived.ChangeAlike
namespace Go.Proofs.YtcmdndgaggbhoaaDoor
open Go.RowKit
open Lb

/-- The first k categories are no witness against 'a is at most b'. -/
def noneBelow (a b : Int) (k : Nat) : Prop := ∀ j : Nat, j < k → (hasI a j && !hasI b j) = false
theorem refBelowI_true {a b : Int} (h : noneBelow a b 64) : refBelowI a b = true := by
  unfold refBelowI upto64
  rw [List.all_eq_true]
  intro c hc
  obtain ⟨j, hj, rfl⟩ := List.mem_map.1 hc
  rw [h j (by simpa using hj)]
  rfl
theorem refBelowI_false {a b : Int} {k : Nat} (hk : k < 64) (h : hasI a k = true) (h' : hasI b k = false) : refBelowI a b = false := by
  unfold refBelowI upto64
  rw [List.all_eq_false]
  exact ⟨(k : Int), List.mem_map.2 ⟨k, by simpa using hk, rfl⟩, by simp [h, h']⟩

end Go.Proofs.YtcmdndgaggbhoaaDoor
namespace Go.Proofs.YtcmdndgaggbhoaaDoor
open Go.RowKit
open Lb

theorem infoByte : (Tryd.prog.info? 5).map (fun i => (i.zero, i.size, i.bytes)) = some (some (.int .u8 0), 1, 1) := by kernel_rfl

end Go.Proofs.YtcmdndgaggbhoaaDoor
namespace Go.Proofs.YtcmdndgaggbhoaaDoor
open Go.RowKit
open Lb

end Go.Proofs.YtcmdndgaggbhoaaDoor
namespace Go.Proofs.YtcmdndgaggbhoaaDoor
open Go.RowKit
open Lb

end Go.Proofs.YtcmdndgaggbhoaaDoor
namespace Go.Proofs.YtcmdndgaggbhoaaDoor
open Go.RowKit
open Lb

theorem numI_at (s : ByteArray) (a : Nat) (h : (numI s a).2.2.1 = 0) : (digs s a).length ≠ 0 ∧ decOf (digs s a) ≤ 63 ∧ (numI s a).1 = decOf (digs s a) ∧ (numI s a).2.1 = (a : Int) + (digs s a).length := by
  unfold numI at h ⊢
  split at h
  · simp at h
  · split at h
    · simp at h
    · split at h
      · simp at h
      · rename_i h1 h2 h3
        rw [if_neg h1, if_neg h2, if_neg h3]
        exact ⟨h1, by omega, rfl, rfl⟩

end Go.Proofs.YtcmdndgaggbhoaaDoor
namespace Go.Proofs.YtcmdndgaggbhoaaDoor
open Go.RowKit
open Lb

end Go.Proofs.YtcmdndgaggbhoaaDoor
