/- Arguments opened: a word, a slice of strings, a slice of integers. -/
import Derived.Test.YtkmkhegekonbmaaDoorRowRow
namespace Go.Proofs.YtkmkhegekonbmaaDoor.Rw6
open Go.ChangeShapes Go.WideShapes Go.ChangeAt Go.RowKit
open Go.ChangeMaps (open_string shut_string)

theorem cell_lt {w : World} {a : Addr} {v : Value} (h : w.cell? a = some v) : a.block < w.heap.size := by
  rcases Nat.lt_or_ge a.block w.heap.size with hlt | hge
  · exact hlt
  · unfold World.cell? at h
    rw [Array.getElem?_eq_none hge] at h
    simp at h

theorem cWord : Tryd.prog.cellsOf 31 = 3 := by kernel_rfl
theorem cBool : Tryd.prog.cellsOf 4 = 1 := by kernel_rfl
theorem cStrs : Tryd.prog.cellsOf 9 = 1 := by kernel_rfl
theorem cInt : Tryd.prog.cellsOf 3 = 1 := by kernel_rfl
set_option maxRecDepth 100000 in
/-- A word that came in. -/
theorem open_word {H : Type} {enc : TypeId × Value → H} {W : World} {base b0 : Nat} {r : Reach} {v : Value} {d : DataW H} {ps : List MemPlace}
    (hval : Value.okWide Tryd.prog W r base 31 v) (h : DataW.Trod enc Tryd.prog W b0 (fun _ => true) true 31 v d ps) : ∃ (q : Bool) (s : ByteArray) (a : Int), v = .agg #[.bool q, .string s, .int .i64 a] := by
  obtain ⟨cs, rfl, hsz⟩ := okWide_struct Tryd.underlying31 hval
  rw [cWord] at hsz
  obtain ⟨l⟩ := cs
  match l, hsz with
  | [c0, c1, c2], _ =>
    obtain ⟨fuel, hf⟩ := h
    obtain ⟨xs, n, _, hx, _, hlen, hg⟩ := DataW.trod_struct Tryd.underlying31 hf
    match xs, hlen with
    | [y0, y1, y2], _ =>
      have g0 : DataW.trod enc Tryd.prog W b0 (fun _ => true) true n 4 (([c0, c1, c2].drop 0).take (Tryd.prog.cellsOf 4)) = some y0 := hg 0 _ rfl
      have g1 : DataW.trod enc Tryd.prog W b0 (fun _ => true) true n 9 (([c0, c1, c2].drop 1).take (Tryd.prog.cellsOf 9)) = some y1 := hg 1 _ rfl
      have g2 : DataW.trod enc Tryd.prog W b0 (fun _ => true) true n 3 (([c0, c1, c2].drop 2).take (Tryd.prog.cellsOf 3)) = some y2 := hg 2 _ rfl
      rw [cBool] at g0
      rw [cStrs] at g1
      rw [cInt] at g2
      obtain ⟨q, e0, _⟩ := DataW.trod_bool Tryd.underlying4 g0
      obtain ⟨s, e1, _, hs⟩ := DataW.trod_string Tryd.underlying9 g1
      obtain ⟨a, e2, _, _⟩ := DataW.trod_int Tryd.underlying3 g2
      have e0' : c0 = .bool q := List.head_eq_of_cons_eq e0
      have e1' : c1 = .string s := List.head_eq_of_cons_eq e1
      have e2' : c2 = .int .i64 a := List.head_eq_of_cons_eq e2
      exact ⟨q, s, a, by rw [e0', e1', e2']⟩
set_option maxRecDepth 100000 in
/-- A slice of strings that came in, as a list. -/
theorem open_strs {H : Type} {enc : TypeId × Value → H} {W : World} {base b0 : Nat} {r : Reach} {v : Value} {d : DataW H} {ps : List MemPlace}
    (hval : Value.okWide Tryd.prog W r base 33 v) (h : DataW.Trod enc Tryd.prog W b0 (fun _ => true) true 33 v d ps) : ∃ l : List ByteArray, Slc W v (l.map Value.string) ∧ ∀ x ∈ l, x.size ≤ maxLen := by
  obtain ⟨A, n, cap, rfl⟩ := okWide_slice Tryd.underlying33 hval
  obtain ⟨fuel, hf⟩ := h
  rcases Go.ChangeShapes.open_strings Tryd.underlying33 Tryd.underlying9 cStrs hf with ⟨hcs, hx⟩ | ⟨a, n', cap', ss, hcs, _, hl, hm, hz, hx, hcell, hwz⟩
  · have e : Value.slice A n cap = .slice none 0 0 := by simpa [Value.cells] using hcs
    rw [e]
    exact ⟨[], Slc.nil W, fun x hx => by cases hx⟩
  · have e : Value.slice A n cap = .slice (some a) n' cap' := by simpa [Value.cells] using hcs
    rw [e]
    rw [if_pos rfl] at hz
    have hlen : ((ss.take n').map Value.string).length = n' := by simp; omega
    refine ⟨ss.take n', ⟨some a, cap', by rw [hlen], by rw [hlen]; omega, (fun h => by cases h), fun i hi => ?_⟩, fun x hx => hwz x (List.mem_of_mem_take hx)⟩
    rw [hlen] at hi
    have hc := hcell i (by omega)
    have hcell' : W.cell? (a.add i) = some ((ss.take n').map Value.string)[i] := by
      rw [hc]
      simp [List.getD, show i < ss.length by omega]
    exact ⟨a, rfl, by rw [← add_block a i]; exact cell_lt hc, hcell'⟩
set_option maxRecDepth 100000 in
/-- A slice of integers that came in, as a list. -/
theorem open_slc {H : Type} {enc : TypeId × Value → H} {W : World} {base b0 : Nat} {r : Reach} {v : Value} {d : DataW H} {ps : List MemPlace}
    (hval : Value.okWide Tryd.prog W r base 55 v) (h : DataW.Trod enc Tryd.prog W b0 (fun _ => true) true 55 v d ps) : ∃ l : List Int, Slc W v (vals .i64 l) := by
  obtain ⟨A, n, cap, rfl⟩ := okWide_slice Tryd.underlying55 hval
  obtain ⟨fuel, hf⟩ := h
  rcases open_ints Tryd.underlying55 Tryd.underlying3 cInt hf with ⟨hcs, hx⟩ | ⟨a, n', cap', zs, hcs, _, hl, hm, hz, hx, hcell, hwz⟩
  · have e : Value.slice A n cap = .slice none 0 0 := by simpa [Value.cells] using hcs
    rw [e]
    exact ⟨[], Slc.nil W⟩
  · have e : Value.slice A n cap = .slice (some a) n' cap' := by simpa [Value.cells] using hcs
    rw [e]
    rw [if_pos rfl] at hz
    have hlen : (vals .i64 (zs.take n')).length = n' := by simp [vals]; omega
    refine ⟨zs.take n', some a, cap', by rw [hlen], by rw [hlen]; omega, (fun h => by cases h), fun i hi => ?_⟩
    rw [hlen] at hi
    have hc := hcell i (by omega)
    have hcell' : W.cell? (a.add i) = some (vals .i64 (zs.take n'))[i] := by
      rw [hc, vals_get]
      simp [List.getD, show i < zs.length by omega]
    exact ⟨a, rfl, by rw [← add_block a i]; exact cell_lt hc, hcell'⟩
end Go.Proofs.YtkmkhegekonbmaaDoor.Rw6
