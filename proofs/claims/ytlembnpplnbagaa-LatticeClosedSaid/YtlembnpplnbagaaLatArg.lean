/- A family that came in as an argument, as a list of labels. -/
import Derived.Test.YtlembnpplnbagaaRow
import Derived.Test.YtlembnpplnbagaaLatE
namespace Go.Proofs.Ytlembnpplnbagaa.Lt
open Go.ChangeShapes Go.WideShapes Go.ChangeAt Go.RowKit

theorem cu64s : Try.prog.cellsOf 23 = 1 := by kernel_rfl
theorem nats_of : ∀ l : List Int, (∀ x ∈ l, (Lit.int .u64 x).wf = true) → ∃ m : List Nat, l = m.map (fun (x : Nat) => (x : Int)) ∧ U64 m := by
  intro l
  induction l with
  | nil => intro _; exact ⟨[], rfl, fun x hx => by cases hx⟩
  | cons x l ih =>
    intro h
    obtain ⟨m, hm, hu⟩ := ih (fun y hy => h y (by simp [hy]))
    obtain ⟨h0, h1⟩ := bounds_u64 (h x (by simp))
    obtain ⟨k, rfl⟩ := Int.eq_ofNat_of_zero_le h0
    refine ⟨k :: m, by rw [hm]; rfl, fun y hy => ?_⟩
    rcases List.mem_cons.1 hy with rfl | hy
    · omega
    · exact hu y hy
set_option maxRecDepth 100000 in
theorem open_labels {H : Type} {enc : TypeId × Value → H} {W : World} {base b0 : Nat} {r : Reach} {v : Value} {d : DataW H} {ps : List MemPlace}
    (hval : Value.okWide Try.prog W r base 22 v) (h : DataW.Trod enc Try.prog W b0 (fun _ => true) true 22 v d ps) : ∃ l : List Nat, Slc W v (lv l) ∧ U64 l ∧ Cap v := by
  obtain ⟨A, n, cap, rfl⟩ := okWide_slice Try.underlying22 hval
  obtain ⟨fuel, hf⟩ := h
  rcases open_ints Try.underlying22 Try.underlying23 cu64s hf with ⟨hcs, hx⟩ | ⟨a, n', cap', zs, hcs, _, hl, hm, hz, hx, hcell, hwz⟩
  · have e : Value.slice A n cap = .slice none 0 0 := by simpa [Value.cells] using hcs
    rw [e]
    exact ⟨[], Slc.nil W, fun x hx => (by cases hx), ⟨_, _, _, rfl, Nat.le_refl _⟩⟩
  · have e : Value.slice A n cap = .slice (some a) n' cap' := by simpa [Value.cells] using hcs
    rw [e]
    rw [if_pos rfl] at hz
    obtain ⟨m, hm2, hu⟩ := nats_of (zs.take n') (fun x hx => hwz x (List.mem_of_mem_take hx))
    have hlv : lv m = vals .u64 (zs.take n') := by rw [hm2]; simp [lv, vals]
    have hlen : (vals .u64 (zs.take n')).length = n' := by simp [vals]; omega
    refine ⟨m, ?_, hu, ⟨_, _, _, rfl, by omega⟩⟩
    rw [hlv]
    refine ⟨some a, cap', by rw [hlen], by rw [hlen]; omega, (fun h => by cases h), fun i hi => ?_⟩
    rw [hlen] at hi
    have hc := hcell i (by omega)
    have hcell' : W.cell? (a.add i) = some (vals .u64 (zs.take n'))[i] := by
      rw [hc, vals_get]
      simp [List.getD, show i < zs.length by omega]
    exact ⟨a, rfl, by rw [← add_block a i]; exact cell_lt hc, hcell'⟩
end Go.Proofs.Ytlembnpplnbagaa.Lt
