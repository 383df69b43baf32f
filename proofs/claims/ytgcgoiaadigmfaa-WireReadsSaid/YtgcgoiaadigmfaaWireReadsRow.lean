/- WireReads returns true for all readers and all that may be asked, in every world; nothing that lay before is turned. No condition. -/
import Derived.Test.YtgcgoiaadigmfaaRow
import Derived.Test.YtgcgoiaadigmfaaWireW
namespace Go.Proofs.Ytgcgoiaadigmfaa.wireReads
open Go.ChangeShapes Go.WideShapes Go.ChangeAt Go.RowKit
open Go.ChangeMaps (open_string shut_string)

theorem cRd : Try.prog.cellsOf 26 = 4 := by kernel_rfl
theorem cAsk : Try.prog.cellsOf 28 = 4 := by kernel_rfl
theorem cStr : Try.prog.cellsOf 9 = 1 := by kernel_rfl
theorem cInt : Try.prog.cellsOf 3 = 1 := by kernel_rfl
theorem cErr : Try.prog.cellsOf 22 = 1 := by kernel_rfl
theorem cFault : Try.prog.cellsOf 24 = 2 := by kernel_rfl
set_option maxRecDepth 100000 in
/-- A reader that came in. -/
theorem open_rd {H : Type} {enc : TypeId × Value → H} {W : World} {base b0 : Nat} {r : Reach} {v : Value} {d : DataW H} {ps : List MemPlace}
    (hval : Value.okWide Try.prog W r base 26 v) (h : DataW.Trod enc Try.prog W b0 (fun _ => true) true 26 v d ps) : ∃ x : Wr.Rd, v = x.val ∧ x.s.size ≤ maxLen := by
  obtain ⟨cs, rfl, hsz⟩ := okWide_struct Try.underlying26 hval
  rw [cRd] at hsz
  obtain ⟨l⟩ := cs
  match l, hsz with
  | [c0, c1, c2, c3], _ =>
    obtain ⟨fuel, hf⟩ := h
    obtain ⟨xs, n, _, hx, _, hlen, hg⟩ := DataW.trod_struct Try.underlying26 hf
    match xs, hlen with
    | [y0, y1, y2], _ =>
      have g0 : DataW.trod enc Try.prog W b0 (fun _ => true) true n 9 (([c0, c1, c2, c3].drop 0).take (Try.prog.cellsOf 9)) = some y0 := hg 0 _ rfl
      have g1 : DataW.trod enc Try.prog W b0 (fun _ => true) true n 3 (([c0, c1, c2, c3].drop 1).take (Try.prog.cellsOf 3)) = some y1 := hg 1 _ rfl
      have g2 : DataW.trod enc Try.prog W b0 (fun _ => true) true n 24 (([c0, c1, c2, c3].drop 2).take (Try.prog.cellsOf 24)) = some y2 := hg 2 _ rfl
      rw [cStr] at g0
      rw [cInt] at g1
      rw [cFault] at g2
      obtain ⟨s, e0, _, hs⟩ := DataW.trod_string Try.underlying9 g0
      obtain ⟨a, e1, _, _⟩ := DataW.trod_int Try.underlying3 g1
      obtain ⟨zs, m, _, _, _, hlen2, hg2⟩ := DataW.trod_struct Try.underlying24 g2
      match zs, hlen2 with
      | [z0, z1], _ =>
        have k0 : DataW.trod enc Try.prog W b0 (fun _ => true) true m 22 ((([c0, c1, c2, c3].drop 2).take 2).drop 0 |>.take (Try.prog.cellsOf 22)) = some z0 := hg2 0 _ rfl
        have k1 : DataW.trod enc Try.prog W b0 (fun _ => true) true m 3 ((([c0, c1, c2, c3].drop 2).take 2).drop 1 |>.take (Try.prog.cellsOf 3)) = some z1 := hg2 1 _ rfl
        rw [cErr] at k0
        rw [cInt] at k1
        obtain ⟨e, e2, _, _⟩ := DataW.trod_int Try.underlying22 k0
        obtain ⟨f, e3, _, _⟩ := DataW.trod_int Try.underlying3 k1
        have e0' : c0 = .string s := List.head_eq_of_cons_eq e0
        have e1' : c1 = .int .i64 a := List.head_eq_of_cons_eq e1
        have e2' : c2 = .int .i64 e := List.head_eq_of_cons_eq e2
        have e3' : c3 = .int .i64 f := List.head_eq_of_cons_eq e3
        exact ⟨⟨s, a, e, f⟩, by rw [e0', e1', e2', e3']; rfl, hs⟩
set_option maxRecDepth 100000 in
/-- What is asked. -/
theorem open_ask {H : Type} {enc : TypeId × Value → H} {W : World} {base b0 : Nat} {r : Reach} {v : Value} {d : DataW H} {ps : List MemPlace}
    (hval : Value.okWide Try.prog W r base 28 v) (h : DataW.Trod enc Try.prog W b0 (fun _ => true) true 28 v d ps) :
    ∃ (n : Int) (s : ByteArray) (e a : Int), v = .agg #[.int .i64 n, .string s, .int .i64 e, .int .i64 a] ∧ s.size ≤ maxLen ∧ (Lit.int .i64 n).wf = true := by
  obtain ⟨cs, rfl, hsz⟩ := okWide_struct Try.underlying28 hval
  rw [cAsk] at hsz
  obtain ⟨l⟩ := cs
  match l, hsz with
  | [c0, c1, c2, c3], _ =>
    obtain ⟨fuel, hf⟩ := h
    obtain ⟨xs, n, _, hx, _, hlen, hg⟩ := DataW.trod_struct Try.underlying28 hf
    match xs, hlen with
    | [y0, y1, y2, y3], _ =>
      have g0 : DataW.trod enc Try.prog W b0 (fun _ => true) true n 3 (([c0, c1, c2, c3].drop 0).take (Try.prog.cellsOf 3)) = some y0 := hg 0 _ rfl
      have g1 : DataW.trod enc Try.prog W b0 (fun _ => true) true n 9 (([c0, c1, c2, c3].drop 1).take (Try.prog.cellsOf 9)) = some y1 := hg 1 _ rfl
      have g2 : DataW.trod enc Try.prog W b0 (fun _ => true) true n 22 (([c0, c1, c2, c3].drop 2).take (Try.prog.cellsOf 22)) = some y2 := hg 2 _ rfl
      have g3 : DataW.trod enc Try.prog W b0 (fun _ => true) true n 3 (([c0, c1, c2, c3].drop 3).take (Try.prog.cellsOf 3)) = some y3 := hg 3 _ rfl
      rw [cInt] at g0 g3
      rw [cStr] at g1
      rw [cErr] at g2
      obtain ⟨q, e0, _, hq⟩ := DataW.trod_int Try.underlying3 g0
      obtain ⟨s, e1, _, hs⟩ := DataW.trod_string Try.underlying9 g1
      obtain ⟨e, e2, _, _⟩ := DataW.trod_int Try.underlying22 g2
      obtain ⟨a, e3, _, _⟩ := DataW.trod_int Try.underlying3 g3
      have e0' : c0 = .int .i64 q := List.head_eq_of_cons_eq e0
      have e1' : c1 = .string s := List.head_eq_of_cons_eq e1
      have e2' : c2 = .int .i64 e := List.head_eq_of_cons_eq e2
      have e3' : c3 = .int .i64 a := List.head_eq_of_cons_eq e3
      exact ⟨q, s, e, a, by rw [e0', e1', e2', e3'], hs, hq⟩

set_option maxRecDepth 100000 in
theorem lifted (os : Os) (started : os.Started) (H : Type) (enc : TypeId × Value → H) :
    ReturnsInHanded {} Try.checked os 3 .any (Rows.wireReadsSpec.pre6 enc Try.prog Try.f3 Rows.wireReadsRow.domain false) (Rows.wireReadsSpec.post enc Try.prog Try.f3 false true false false) := by
  refine returnsInHanded_of_change (C := Try.checked) own started (by kernel_rfl) Try.func3
    (ChangeSpec.witness6 (enc := enc) (C := Try.checked) false ⟨#[], #[.agg #[.string ⟨#[]⟩, .int .i64 0, .int .i64 0, .int .i64 0], .agg #[.int .i64 0, .string ⟨#[]⟩, .int .i64 0, .int .i64 0]], []⟩ 8 (by kernel_rfl) (by kernel_rfl) (by kernel_rfl) (by kernel_rfl)) ?_
  intro W base args ds gs before hval0 hW _ _
  have hval : ∀ (j : Nat) t v, Try.f3.params[j]? = some t → args[j]? = some v → Value.okWide Try.prog W .any base t v := hval0
  have hW' := hW
  have hlt := hW.lt
  obtain ⟨p, q, hA0, hV, rfl, hfz, hnd⟩ := hW
  have hA : DataW.TrodAll enc Try.prog W 0 (fun _ => true) true Try.f3.params.toList args.toList ds p := hA0
  rw [Try.params3] at hA hval
  obtain ⟨v0, vs0, d0, ds0, p0, q0, hargs, rfl, rfl, h0, r0⟩ := trodAll_cons hA
  obtain ⟨v1, vs1, d1, ds1, p1, q1, rfl, rfl, rfl, h1, r1⟩ := trodAll_cons r0
  obtain ⟨rfl, rfl, rfl⟩ := trodAll_nil r1
  obtain rfl : args = #[v0, v1] := by cases args; simp_all
  obtain ⟨rfl, rfl⟩ := trodVars_none hV
  have hv0 := hval 0 26 v0 rfl rfl
  have hv1 := hval 1 28 v1 rfl rfl
  have hl0 : ∀ x ∈ p0 ++ (p1 ++ ([])), x.block < W.heap.size := fun x hx => hlt x (List.mem_append_left _ hx)
  have hl1 : ∀ x ∈ p1 ++ ([]), x.block < W.heap.size := fun x hx => hl0 x (List.mem_append_right _ hx)
  clear hA0 hval0
  obtain ⟨x, rfl, hs⟩ := open_rd hv0 h0
  obtain ⟨n, s2, xe, xa, rfl, hs2, hn⟩ := open_ask hv1 h1
  unfold maxLen at hs hs2
  refine (reads_any x n xe xa s2 W (by omega) (by omega) (by have := bounds_i64 hn; omega)).mono fun e W' ⟨he, hb⟩ => ?_
  subst he
  exact ⟨_, rfl, end_below (pa := p0 ++ (p1 ++ ([]))) (pv := []) hW' hb rfl (fun sp hsp => (stays_cons laidOut (by kernel_rfl) (of_decide_eq_true (by kernel_rfl)) h0 (fun x hx => hb.same (hl0 x hx)) (fun x hx => hsp x (List.mem_append_left _ hx)) (stays_cons laidOut (by kernel_rfl) (of_decide_eq_true (by kernel_rfl)) h1 (fun x hx => hb.same (hl1 x hx)) (fun x hx => hsp x (List.mem_append_left _ (List.mem_append_right _ hx))) stays_nil))) (fun _ _ => rfl) (fun _ _ _ => trodAll_mk1 (shut_bool Try.underlying4 _)) (ok_one (by kernel_rfl) rfl (okWide_bool_mk Try.underlying4 _))⟩

theorem proved : Rows.WireReadsSaid :=
  OpenClaim.holds_of_wide 3 Try.f3 rfl rfl rfl rfl rfl rfl rfl ⟨rfl, rfl, rfl, rfl, rfl⟩ rfl rfl rfl rfl rfl (by kernel_rfl) Try.func3 (by kernel_rfl)
    (of_decide_eq_true (by kernel_rfl)) (by unfold Func.isWrapper; first | (rw [if_pos (by decide +kernel)]; kernel_rfl) | (rw [if_neg (by decide +kernel)]; exact ⟨rfl, rfl⟩))
    (fun os started H enc _ => lifted os started H enc)
#print axioms proved
end Go.Proofs.Ytgcgoiaadigmfaa.wireReads
