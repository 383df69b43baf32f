/- Arguments opened: a slice of tokens, a slice of integers. -/
import Derived.Test.YtdoioaeppepndaaDoorTokRow
namespace Go.Proofs.YtdoioaeppepndaaDoor
open Go.ChangeShapes Go.WideShapes Go.ChangeAt Go.RowKit
open Go.ChangeMaps (open_string shut_string)
open Tk7

theorem cellLt {w : World} {a : Addr} {v : Value} (h : w.cell? a = some v) : a.block < w.heap.size := by
  rcases Nat.lt_or_ge a.block w.heap.size with hlt | hge
  · exact hlt
  · unfold World.cell? at h
    rw [Array.getElem?_eq_none hge] at h
    simp at h
theorem kTok : Tryd.prog.cellsOf 127 = 3 := by kernel_rfl
theorem kInt : Tryd.prog.cellsOf 3 = 1 := by kernel_rfl
/-- What there is for each place, as one list. -/
theorem listed {α : Type} (Q : Nat → α → Prop) (n : Nat) (h : ∀ i, i < n → ∃ x, Q i x) : ∃ l : List α, l.length = n ∧ ∀ (i : Nat) (hi : i < l.length), Q i l[i] := by
  induction n with
  | zero => exact ⟨[], rfl, fun i hi => by simp at hi⟩
  | succ n ih =>
    obtain ⟨l, h1, h2⟩ := ih fun i hi => h i (by omega)
    obtain ⟨x, hx⟩ := h n (by omega)
    refine ⟨l ++ [x], by simp [h1], fun i hi => ?_⟩
    rw [List.length_append, List.length_singleton] at hi
    by_cases hl : i < l.length
    · rw [List.getElem_append_left hl]; exact h2 i hl
    · obtain rfl : i = n := by omega
      rw [List.getElem_append_right (by omega)]
      simpa using hx
/-- A slice's cells, element by element. -/
theorem sl_of {α : Type} {w : World} {sz : Nat} {a : Addr} {cap : Nat} {l : List α} (f : α → List Value) (hf : ∀ x, (f x).length = sz) (hsz : 0 < sz) (hc : l.length ≤ cap) (hm : l.length ≤ maxLen)
    (h : ∀ (k : Nat) (hk : k < l.length) (j : Nat) (u : Value), (f l[k])[j]? = some u → w.cell? (a.add (k * sz + j)) = some u) : Sl w sz l.length (.slice (some a) l.length cap) (l.flatMap f) := by
  have hlen : ∀ l : List α, (l.flatMap f).length = l.length * sz := by
    intro l
    induction l with
    | nil => simp
    | cons x xs ih => rw [List.flatMap_cons, List.length_append, ih, hf, List.length_cons, Nat.succ_mul]; omega
  refine ⟨hlen l, hm, some a, cap, rfl, hc, (fun e => by cases e), fun i u hu => ?_⟩
  have hi := (List.getElem?_eq_some_iff.1 hu).1
  rw [hlen] at hi
  have hk : i / sz < l.length := Nat.div_lt_of_lt_mul (by rw [Nat.mul_comm]; exact hi)
  have hj : i % sz < sz := Nat.mod_lt _ hsz
  have he : i / sz * sz + i % sz = i := by rw [Nat.mul_comm]; exact Nat.div_add_mod i sz
  have hg := flat_get hf l (i / sz) hk (i % sz) hj
  rw [he, hu] at hg
  have hcell := h (i / sz) hk (i % sz) u hg.symm
  rw [he] at hcell
  exact ⟨a, rfl, by rw [← add_block a i]; exact cellLt hcell, hcell⟩
theorem datLen (s : ByteArray) : s.data.toList.length = s.size := rfl
section
variable {H : Type} {enc : TypeId × Value → H} {W : World} {b0 : Nat}
set_option maxRecDepth 100000 in
theorem cells_tok {fuel : Nat} {cs : List Value} {x : DataW H × List MemPlace} (h : DataW.trod enc Tryd.prog W b0 (fun _ => true) true fuel 127 cs = some x) : ∃ y : TK, cs = kcell y ∧ y.2.1.length ≤ maxLen ∧ (-9223372036854775808 ≤ y.1 ∧ y.1 ≤ 9223372036854775807) ∧ (-9223372036854775808 ≤ y.2.2 ∧ y.2.2 ≤ 9223372036854775807) := by
  obtain ⟨xs, n, _, hx, hl, hlen, hg⟩ := DataW.trod_struct Tryd.underlying127 h
  rw [kTok] at hl
  match cs, hl with
  | [c0, c1, c2], _ =>
    match xs, hlen with
    | [y0, y1, y2], _ =>
      have g0 : DataW.trod enc Tryd.prog W b0 (fun _ => true) true n 3 (([c0, c1, c2].drop 0).take (Tryd.prog.cellsOf 3)) = some y0 := hg 0 _ rfl
      have g1 : DataW.trod enc Tryd.prog W b0 (fun _ => true) true n 9 (([c0, c1, c2].drop 1).take (Tryd.prog.cellsOf 9)) = some y1 := hg 1 _ rfl
      have g2 : DataW.trod enc Tryd.prog W b0 (fun _ => true) true n 3 (([c0, c1, c2].drop 2).take (Tryd.prog.cellsOf 3)) = some y2 := hg 2 _ rfl
      rw [kInt] at g0 g2
      rw [cellsStr] at g1
      obtain ⟨q, e0, _, hq⟩ := DataW.trod_int Tryd.underlying3 g0
      obtain ⟨s, e1, _, hs⟩ := DataW.trod_string Tryd.underlying9 g1
      obtain ⟨a, e2, _, ha⟩ := DataW.trod_int Tryd.underlying3 g2
      have e0' : c0 = .int .i64 q := List.head_eq_of_cons_eq e0
      have e1' : c1 = .string s := List.head_eq_of_cons_eq e1
      have e2' : c2 = .int .i64 a := List.head_eq_of_cons_eq e2
      obtain ⟨q1, q2⟩ := bounds_i64 hq
      obtain ⟨a1, a2⟩ := bounds_i64 ha
      refine ⟨(q, s.data.toList, a), ?_, ?_, by constructor <;> (show _ ≤ _; omega), by constructor <;> (show _ ≤ _; omega)⟩
      · have hs' : strOf s.data.toList = s := (str_is rfl).symm
        unfold kcell
        rw [e0', e1', e2']
        simp only [hs']
      · show s.data.toList.length ≤ maxLen
        rw [datLen]; exact hs
end
set_option maxRecDepth 100000 in
/-- A slice of integers that came in, as a list. -/
theorem open_slc {H : Type} {enc : TypeId × Value → H} {W : World} {base b0 : Nat} {r : Reach} {v : Value} {d : DataW H} {ps : List MemPlace}
    (hval : Value.okWide Tryd.prog W r base 28 v) (h : DataW.Trod enc Tryd.prog W b0 (fun _ => true) true 28 v d ps) : ∃ l : List Int, Slc W v (vals .i64 l) := by
  obtain ⟨A, n, cap, rfl⟩ := okWide_slice Tryd.underlying28 hval
  obtain ⟨fuel, hf⟩ := h
  rcases open_ints Tryd.underlying28 Tryd.underlying3 kInt hf with ⟨hcs, hx⟩ | ⟨a, n', cap', zs, hcs, _, hl, hm, hz, hx, hcell, hwz⟩
  · have e : Value.slice A n cap = .slice none 0 0 := by simpa [Value.cells] using hcs
    rw [e]
    exact ⟨[], Slc.nil W⟩
  · have e : Value.slice A n cap = .slice (some a) n' cap' := by simpa [Value.cells] using hcs
    rw [e]
    rw [if_pos rfl] at hz
    have hlen : (vals .i64 (zs.take n')).length = n' := by simp [vals]; omega
    refine ⟨zs.take n', some a, cap', by rw [hlen], by rw [hlen]; omega, (fun h => by cases h), fun i hi => ?_⟩
    rw [hlen] at hi
    have hc := hcell i (by omega)
    have hcell' : W.cell? (a.add i) = some (vals .i64 (zs.take n'))[i] := by
      rw [hc, vals_get]
      simp [List.getD, show i < zs.length by omega]
    exact ⟨a, rfl, by rw [← add_block a i]; exact cellLt hc, hcell'⟩
end Go.Proofs.YtdoioaeppepndaaDoor
