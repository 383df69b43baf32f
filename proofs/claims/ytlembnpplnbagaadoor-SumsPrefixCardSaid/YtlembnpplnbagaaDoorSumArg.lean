/- A list of numbers that came in as an argument. -/
import Derived.Test.YtlembnpplnbagaaDoorSumRow
namespace Go.Proofs.YtlembnpplnbagaaDoor.Sm
open Go.ChangeShapes Go.WideShapes Go.ChangeAt Go.RowKit

theorem ci64s : Tryd.prog.cellsOf 2 = 1 := by kernel_rfl
/-- A slice has room for what it holds. -/
def Cap5 (v : Value) : Prop := ∃ (A : Option Addr) (n cap : Nat), v = .slice A n cap ∧ n ≤ cap
set_option maxRecDepth 100000 in
theorem open_nums {H : Type} {enc : TypeId × Value → H} {W : World} {base b0 : Nat} {r : Reach} {v : Value} {d : DataW H} {ps : List MemPlace}
    (hval : Value.okWide Tryd.prog W r base 30 v) (h : DataW.Trod enc Tryd.prog W b0 (fun _ => true) true 30 v d ps) : ∃ l : List Int, Slc W v (vals .i64 l) ∧ (∀ x ∈ l, okI x = true) ∧ Cap5 v := by
  obtain ⟨A, n, cap, rfl⟩ := okWide_slice Tryd.underlying30 hval
  obtain ⟨fuel, hf⟩ := h
  rcases open_ints Tryd.underlying30 Tryd.underlying2 ci64s hf with ⟨hcs, hx⟩ | ⟨a, n', cap', zs, hcs, _, hl, hm, hz, hx, hcell, hwz⟩
  · have e : Value.slice A n cap = .slice none 0 0 := by simpa [Value.cells] using hcs
    rw [e]
    exact ⟨[], Slc.nil W, fun x hx => (by cases hx), ⟨_, _, _, rfl, Nat.le_refl _⟩⟩
  · have e : Value.slice A n cap = .slice (some a) n' cap' := by simpa [Value.cells] using hcs
    rw [e]
    rw [if_pos rfl] at hz
    have hlen : (vals .i64 (zs.take n')).length = n' := by simp [vals]; omega
    refine ⟨zs.take n', ?_, fun x hx => okI_iff.2 (bounds_i64 (hwz x (List.mem_of_mem_take hx))), ⟨_, _, _, rfl, by omega⟩⟩
    refine ⟨some a, cap', by rw [hlen], by rw [hlen]; omega, (fun h => by cases h), fun i hi => ?_⟩
    rw [hlen] at hi
    have hc := hcell i (by omega)
    have hcell' : W.cell? (a.add i) = some (vals .i64 (zs.take n'))[i] := by
      rw [hc, vals_get]
      simp [List.getD, show i < zs.length by omega]
    exact ⟨a, rfl, by rw [← add_block a i]; exact World.block_lt_of_cell? W _ hc, hcell'⟩
end Go.Proofs.YtlembnpplnbagaaDoor.Sm
