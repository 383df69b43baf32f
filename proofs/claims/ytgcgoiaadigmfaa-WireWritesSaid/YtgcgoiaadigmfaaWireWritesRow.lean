/- WireWrites returns true for all writers, numbers and lists of strings, in every world; nothing that lay before is turned. No condition. -/
import Derived.Test.YtgcgoiaadigmfaaRow
import Derived.Test.YtgcgoiaadigmfaaWireZ
namespace Go.Proofs.Ytgcgoiaadigmfaa.wireWrites
open Go.ChangeShapes Go.WideShapes Go.ChangeAt Go.RowKit
open Go.ChangeMaps (open_string shut_string)

theorem cWt : Try.prog.cellsOf 43 = 3 := by kernel_rfl
theorem cStr : Try.prog.cellsOf 9 = 1 := by kernel_rfl
theorem cInt : Try.prog.cellsOf 3 = 1 := by kernel_rfl
theorem cErr : Try.prog.cellsOf 22 = 1 := by kernel_rfl
set_option maxRecDepth 100000 in
/-- A writer that came in. -/
theorem open_wt {H : Type} {enc : TypeId × Value → H} {W : World} {base b0 : Nat} {r : Reach} {v : Value} {d : DataW H} {ps : List MemPlace}
    (hval : Value.okWide Try.prog W r base 43 v) (h : DataW.Trod enc Try.prog W b0 (fun _ => true) true 43 v d ps) : ∃ x : Wr.Wt, v = x.val ∧ x.s.size ≤ maxLen := by
  obtain ⟨cs, rfl, hsz⟩ := okWide_struct Try.underlying43 hval
  rw [cWt] at hsz
  obtain ⟨l⟩ := cs
  match l, hsz with
  | [c0, c1, c2], _ =>
    obtain ⟨fuel, hf⟩ := h
    obtain ⟨xs, n, _, hx, _, hlen, hg⟩ := DataW.trod_struct Try.underlying43 hf
    match xs, hlen with
    | [y0, y1, y2], _ =>
      have g0 : DataW.trod enc Try.prog W b0 (fun _ => true) true n 9 (([c0, c1, c2].drop 0).take (Try.prog.cellsOf 9)) = some y0 := hg 0 _ rfl
      have g1 : DataW.trod enc Try.prog W b0 (fun _ => true) true n 3 (([c0, c1, c2].drop 1).take (Try.prog.cellsOf 3)) = some y1 := hg 1 _ rfl
      have g2 : DataW.trod enc Try.prog W b0 (fun _ => true) true n 22 (([c0, c1, c2].drop 2).take (Try.prog.cellsOf 22)) = some y2 := hg 2 _ rfl
      rw [cStr] at g0
      rw [cInt] at g1
      rw [cErr] at g2
      obtain ⟨s, e0, _, hs⟩ := DataW.trod_string Try.underlying9 g0
      obtain ⟨a, e1, _, _⟩ := DataW.trod_int Try.underlying3 g1
      obtain ⟨e, e2, _, _⟩ := DataW.trod_int Try.underlying22 g2
      have e0' : c0 = .string s := List.head_eq_of_cons_eq e0
      have e1' : c1 = .int .i64 a := List.head_eq_of_cons_eq e1
      have e2' : c2 = .int .i64 e := List.head_eq_of_cons_eq e2
      exact ⟨⟨s, a, e⟩, by rw [e0', e1', e2']; rfl, hs⟩

theorem cStrs : Try.prog.cellsOf 9 = 1 := by kernel_rfl
set_option maxRecDepth 100000 in
/-- A slice of strings that came in, as a list. -/
theorem open_strs {H : Type} {enc : TypeId × Value → H} {W : World} {base b0 : Nat} {r : Reach} {v : Value} {d : DataW H} {ps : List MemPlace}
    (hval : Value.okWide Try.prog W r base 44 v) (h : DataW.Trod enc Try.prog W b0 (fun _ => true) true 44 v d ps) : ∃ l : List ByteArray, Slc W v (l.map Value.string) ∧ ∀ x ∈ l, x.size ≤ maxLen := by
  obtain ⟨A, n, cap, rfl⟩ := okWide_slice Try.underlying44 hval
  obtain ⟨fuel, hf⟩ := h
  rcases Go.ChangeShapes.open_strings Try.underlying44 Try.underlying9 cStrs hf with ⟨hcs, hx⟩ | ⟨a, n', cap', ss, hcs, _, hl, hm, hz, hx, hcell, hwz⟩
  · have e : Value.slice A n cap = .slice none 0 0 := by simpa [Value.cells] using hcs
    rw [e]
    exact ⟨[], Slc.nil W, fun x hx => by cases hx⟩
  · have e : Value.slice A n cap = .slice (some a) n' cap' := by simpa [Value.cells] using hcs
    rw [e]
    rw [if_pos rfl] at hz
    have hlen : ((ss.take n').map Value.string).length = n' := by simp; omega
    refine ⟨ss.take n', ⟨some a, cap', by rw [hlen], by rw [hlen]; omega, (fun h => by cases h), fun i hi => ?_⟩, fun x hx => hwz x (List.mem_of_mem_take hx)⟩
    rw [hlen] at hi
    have hc := hcell i (by omega)
    have hcell' : W.cell? (a.add i) = some ((ss.take n').map Value.string)[i] := by
      rw [hc]
      simp [List.getD, show i < ss.length by omega]
    exact ⟨a, rfl, by rw [← add_block a i]; exact cell_lt hc, hcell'⟩

set_option maxRecDepth 100000 in
theorem lifted (os : Os) (started : os.Started) (H : Type) (enc : TypeId × Value → H) :
    ReturnsInHanded {} Try.checked os 4 .any (Rows.wireWritesSpec.pre6 enc Try.prog Try.f4 Rows.wireWritesRow.domain false) (Rows.wireWritesSpec.post enc Try.prog Try.f4 false true false false) := by
  refine returnsInHanded_of_change (C := Try.checked) own started (by kernel_rfl) Try.func4
    (ChangeSpec.witness6 (enc := enc) (C := Try.checked) false ⟨#[], #[.agg #[.string ⟨#[]⟩, .int .i64 0, .int .i64 0], .int .i64 0, .int .u64 0, .slice none 0 0], []⟩ 8 (by kernel_rfl) (by kernel_rfl) (by kernel_rfl) (by kernel_rfl)) ?_
  intro W base args ds gs before hval0 hW _ _
  have hval : ∀ (j : Nat) t v, Try.f4.params[j]? = some t → args[j]? = some v → Value.okWide Try.prog W .any base t v := hval0
  have hW' := hW
  have hlt := hW.lt
  obtain ⟨p, q, hA0, hV, rfl, hfz, hnd⟩ := hW
  have hA : DataW.TrodAll enc Try.prog W 0 (fun _ => true) true Try.f4.params.toList args.toList ds p := hA0
  rw [Try.params4] at hA hval
  obtain ⟨v0, vs0, d0, ds0, p0, q0, hargs, rfl, rfl, h0, r0⟩ := trodAll_cons hA
  obtain ⟨v1, vs1, d1, ds1, p1, q1, rfl, rfl, rfl, h1, r1⟩ := trodAll_cons r0
  obtain ⟨v2, vs2, d2, ds2, p2, q2, rfl, rfl, rfl, h2, r2⟩ := trodAll_cons r1
  obtain ⟨v3, vs3, d3, ds3, p3, q3, rfl, rfl, rfl, h3, r3⟩ := trodAll_cons r2
  obtain ⟨rfl, rfl, rfl⟩ := trodAll_nil r3
  obtain rfl : args = #[v0, v1, v2, v3] := by cases args; simp_all
  obtain ⟨rfl, rfl⟩ := trodVars_none hV
  have hv0 := hval 0 43 v0 rfl rfl
  have hv1 := hval 1 3 v1 rfl rfl
  have hv2 := hval 2 30 v2 rfl rfl
  have hv3 := hval 3 44 v3 rfl rfl
  have hl0 : ∀ x ∈ p0 ++ (p1 ++ (p2 ++ (p3 ++ ([])))), x.block < W.heap.size := fun x hx => hlt x (List.mem_append_left _ hx)
  have hl1 : ∀ x ∈ p1 ++ (p2 ++ (p3 ++ ([]))), x.block < W.heap.size := fun x hx => hl0 x (List.mem_append_right _ hx)
  have hl2 : ∀ x ∈ p2 ++ (p3 ++ ([])), x.block < W.heap.size := fun x hx => hl1 x (List.mem_append_right _ hx)
  have hl3 : ∀ x ∈ p3 ++ ([]), x.block < W.heap.size := fun x hx => hl2 x (List.mem_append_right _ hx)
  clear hA0 hval0
  obtain ⟨x, rfl, hs⟩ := open_wt hv0 h0
  unfold maxLen at hs
  obtain ⟨k, e1, -, -, w1⟩ := open_int Try.underlying3 hv1 h1
  subst e1
  obtain ⟨n, e2, -, -, w2⟩ := open_int Try.underlying30 hv2 h2
  subst e2
  obtain ⟨n_0, n_1⟩ := bounds_u64 w2
  obtain ⟨nN, rfl⟩ := Int.eq_ofNat_of_zero_le n_0
  obtain ⟨l, hs3, hwf⟩ := open_strs hv3 h3
  refine (writes_any x k nN v3 l W (by omega) (by omega) hs3).mono fun e W' ⟨he, hb⟩ => ?_
  subst he
  exact ⟨_, rfl, end_below (pa := p0 ++ (p1 ++ (p2 ++ (p3 ++ ([]))))) (pv := []) hW' hb rfl (fun sp hsp => (stays_cons laidOut (by kernel_rfl) (of_decide_eq_true (by kernel_rfl)) h0 (fun x hx => hb.same (hl0 x hx)) (fun x hx => hsp x (List.mem_append_left _ hx)) (stays_cons laidOut (by kernel_rfl) (of_decide_eq_true (by kernel_rfl)) h1 (fun x hx => hb.same (hl1 x hx)) (fun x hx => hsp x (List.mem_append_left _ (List.mem_append_right _ hx))) (stays_cons laidOut (by kernel_rfl) (of_decide_eq_true (by kernel_rfl)) h2 (fun x hx => hb.same (hl2 x hx)) (fun x hx => hsp x (List.mem_append_left _ (List.mem_append_right _ (List.mem_append_right _ hx)))) (stays_cons laidOut (by kernel_rfl) (of_decide_eq_true (by kernel_rfl)) h3 (fun x hx => hb.same (hl3 x hx)) (fun x hx => hsp x (List.mem_append_left _ (List.mem_append_right _ (List.mem_append_right _ (List.mem_append_right _ hx))))) stays_nil))))) (fun _ _ => rfl) (fun _ _ _ => trodAll_mk1 (shut_bool Try.underlying4 _)) (ok_one (by kernel_rfl) rfl (okWide_bool_mk Try.underlying4 _))⟩

theorem proved : Rows.WireWritesSaid :=
  OpenClaim.holds_of_wide 4 Try.f4 rfl rfl rfl rfl rfl rfl rfl ⟨rfl, rfl, rfl, rfl, rfl⟩ rfl rfl rfl rfl rfl (by kernel_rfl) Try.func4 (by kernel_rfl)
    (of_decide_eq_true (by kernel_rfl)) (by unfold Func.isWrapper; first | (rw [if_pos (by decide +kernel)]; kernel_rfl) | (rw [if_neg (by decide +kernel)]; exact ⟨rfl, rfl⟩))
    (fun os started H enc _ => lifted os started H enc)
#print axioms proved
end Go.Proofs.Ytgcgoiaadigmfaa.wireWrites
