/- Walks: the document's own function that tells which labels are below one. -/
import Derived.Test.YtlembnpplnbagaaLatA
import Derived.Deep.LoopGhost
import Derived.WalkMore
import Derived.Laws.OwnMore
namespace Go.Proofs.Ytlembnpplnbagaa.Lt
open Go.RowKit

theorem infoInt4 : (Try.prog.info? 3).map (fun i => (i.zero, i.size, i.bytes)) = some (some (.int .i64 0), 1, 8) := by kernel_rfl
/-- The numbers, up to k, of the labels that .. -/
def preN (l : List Nat) (p : Nat → Bool) (k : Nat) : List Int := ((List.range k).filter fun i => p (l.getD i 0)).map fun (i : Nat) => (i : Int)
theorem preN_all (l : List Nat) (p : Nat → Bool) : preN l p l.length = (numsOf l p).map fun (i : Nat) => (i : Int) := rfl
theorem getD_at {l : List Nat} {k : Nat} (h : k < l.length) : l.getD k 0 = l[k] := by
  rw [List.getD_eq_getElem?_getD, List.getElem?_eq_getElem h]; rfl
theorem preN_yes {l : List Nat} {p : Nat → Bool} {k : Nat} (h : k < l.length) (hp : p l[k] = true) : preN l p (k + 1) = preN l p k ++ [(k : Int)] := by
  unfold preN
  rw [List.range_succ, List.filter_append, List.map_append]
  congr 1
  rw [List.filter_cons, getD_at h, if_pos hp]
  rfl
theorem preN_no {l : List Nat} {p : Nat → Bool} {k : Nat} (h : k < l.length) (hp : p l[k] = false) : preN l p (k + 1) = preN l p k := by
  unfold preN
  rw [List.range_succ, List.filter_append, List.map_append]
  have : (List.filter (fun i => p (l.getD i 0)) [k]) = [] := by rw [List.filter_cons, getD_at h, if_neg (by rw [hp]; decide)]; rfl
  rw [this]
  simp
theorem preN_len (l : List Nat) (p : Nat → Bool) (k : Nat) : (preN l p k).length ≤ k := by
  unfold preN
  rw [List.length_map]
  have := List.length_filter_le (fun i => p (l.getD i 0)) (List.range k)
  rw [List.length_range] at this
  exact this
/-- Two results, the first of them a slice of these values. -/
def Out2 (w : World) (us : List Value) (c : Int) (e : Ending) (w' : World) : Prop := ∃ v, e = .returned (.tuple #[v, .int .i64 c]) ∧ Slc w' v us ∧ Below w.heap.size w w'
def belowR (l : List Nat) (t : Nat) : List Nat × Int := if 64 < l.length then ([], 6) else (numsOf l fun x => leB x t, 0)
def nv (l : List Nat) : List Value := vals .i64 (l.map fun (i : Nat) => (i : Int))
end Go.Proofs.Ytlembnpplnbagaa.Lt
