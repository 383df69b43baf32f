/- The library's sort at []uint64: contracts one after another, where new blocks may lie behind. -/
import Derived.Sort.Walk13a
import Derived.Test.YtlembnpplnbagaaSrtC
import Derived.Test.YtlembnpplnbagaaSrtE
import Derived.Test.YtlembnpplnbagaaSrtF
import Derived.Test.YtlembnpplnbagaaSrtH
import Derived.Test.YtlembnpplnbagaaSrtJ
namespace Go.Proofs.Ytlembnpplnbagaa.Lt
open Go.RowKit Go.Sort

section
variable {w0 w w' : World} {b o : Nat} {d0 d d' : Array Int}
theorem Rg.start (h : Holds (Value.int .u64) w0 b o d) : Rg w0 b o d w0 := (Rw.start h).grown
theorem Rg.holds (h : Rg w0 b o d w) (hH : Holds (Value.int .u64) w0 b o d0) (hs : d.size = d0.size) (hb : b < w0.heap.size) : Holds (Value.int .u64) w b o d ∧ b < w.heap.size := by
  obtain ⟨n, os, rfl⟩ := h
  have hz := heap_row w0 n b o d
  refine ⟨holds_grow _ _ _ _ _ _ (by rw [hz]; exact hb) (holds_putRow _ _ _ _ d0 d (holds_ahead _ _ n _ _ _ hH) hs), ?_⟩
  rw [size_grow, hz]
  omega
theorem Rg.rw (h : Rg w0 b o d w) (hb : b < w0.heap.size) (hs : d'.size = d.size) (h' : Rw w b o d' w') : Rg w0 b o d' w' := by
  obtain ⟨n, os, rfl⟩ := h
  obtain ⟨m, rfl⟩ := h'
  exact ⟨n + m, os, grow_step _ _ _ _ _ _ _ _ _ hb hs⟩
theorem Rg.rg (h : Rg w0 b o d w) (hb : b < w0.heap.size) (hs : d'.size = d.size) (h' : Rg w b o d' w') : Rg w0 b o d' w' := by
  obtain ⟨n, os, rfl⟩ := h
  obtain ⟨m, os', rfl⟩ := h'
  exact ⟨n + m, os ++ os', grow_step_grow _ _ _ _ _ _ _ _ _ _ hb hs⟩
theorem Rg.same (h : Rg w0 b o d w) (hH : Holds (Value.int .u64) w0 b o d0) (hs : d.size = d0.size) (hb : b < w0.heap.size) (h' : ∃ n os, w' = grow (Sort.ahead w n) os) : Rg w0 b o d w' := by
  obtain ⟨n, os, rfl⟩ := h'
  refine h.rg hb rfl ⟨n, os, ?_⟩
  rw [putRow_self _ _ _ _ _ (holds_ahead _ _ n _ _ _ (h.holds hH hs hb).1)]
theorem Rg.drew (h : Rg w0 b o d w) (q : Nat) : Rg w0 b o d (w.drewN q) := by
  obtain ⟨n, os, rfl⟩ := h
  refine ⟨n + q, os, ?_⟩
  show grow ((putRow (Value.int .u64) (Sort.ahead w0 n) b o d).drewN q) os = _
  rw [putRow_drewN]
end
end Go.Proofs.Ytlembnpplnbagaa.Lt
