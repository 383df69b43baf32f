/- Arguments opened: queries and atoms that came in (ast/XAstArg upon the one listed variable). -/
import Derived.Test.YtdoioaeppepndaaGreatDoorTokRA
import Derived.Test.YtdoioaeppepndaaGreatDoorAstThr
namespace Go.Proofs.YtdoioaeppepndaaGreatDoor.Wf11
open Go.ChangeShapes Go.WideShapes Go.ChangeAt Go.RowKit
open Go.ChangeMaps (open_string shut_string)
open A8

theorem cell_lt8 {w : World} {a : Addr} {v : Value} (h : w.cell? a = some v) : a.block < w.heap.size := World.block_lt_of_cell? w _ h
theorem kNode : Tryz.prog.cellsOf 31 = 9 := by kernel_rfl
theorem kAtom : Tryz.prog.cellsOf 28 = 5 := by kernel_rfl
theorem kCond : Tryz.prog.cellsOf 94 = 2 := by kernel_rfl
theorem kAgg : Tryz.prog.cellsOf 92 = 2 := by kernel_rfl
theorem kHave : Tryz.prog.cellsOf 96 = 4 := by kernel_rfl
theorem kQuery : Tryz.prog.cellsOf 35 = 12 := by kernel_rfl
theorem kInt : Tryz.prog.cellsOf 3 = 1 := by kernel_rfl
theorem kI64 : Tryz.prog.cellsOf 2 = 1 := by kernel_rfl
theorem kU64 : Tryz.prog.cellsOf 22 = 1 := by kernel_rfl
theorem kBool : Tryz.prog.cellsOf 4 = 1 := by kernel_rfl
theorem kStr : Tryz.prog.cellsOf 9 = 1 := by kernel_rfl
theorem kConds : Tryz.prog.cellsOf 26 = 1 := by kernel_rfl
theorem kNodes : Tryz.prog.cellsOf 29 = 1 := by kernel_rfl
theorem kHaves : Tryz.prog.cellsOf 32 = 1 := by kernel_rfl
theorem kAggs : Tryz.prog.cellsOf 33 = 1 := by kernel_rfl
/-- What there is for each place, as one list. -/
theorem listed {α : Type} (Q : Nat → α → Prop) (n : Nat) (h : ∀ i, i < n → ∃ x, Q i x) : ∃ l : List α, l.length = n ∧ ∀ (i : Nat) (hi : i < l.length), Q i l[i] := by
  induction n with
  | zero => exact ⟨[], rfl, fun i hi => by simp at hi⟩
  | succ n ih =>
    obtain ⟨l, h1, h2⟩ := ih fun i hi => h i (by omega)
    obtain ⟨x, hx⟩ := h n (by omega)
    refine ⟨l ++ [x], by simp [h1], fun i hi => ?_⟩
    rw [List.length_append, List.length_singleton] at hi
    by_cases hl : i < l.length
    · rw [List.getElem_append_left hl]; exact h2 i hl
    · obtain rfl : i = n := by omega
      rw [List.getElem_append_right (by omega)]
      simpa using hx
/-- A slice's cells, element by element. -/
theorem sl_of {α : Type} {w : World} {sz : Nat} {a : Addr} {cap : Nat} {l : List α} (f : α → List Value) (hf : ∀ x, (f x).length = sz) (hsz : 0 < sz) (hc : l.length ≤ cap) (hm : l.length ≤ maxLen)
    (h : ∀ (k : Nat) (hk : k < l.length) (j : Nat) (u : Value), (f l[k])[j]? = some u → w.cell? (a.add (k * sz + j)) = some u) : Sl w sz l.length (.slice (some a) l.length cap) (l.flatMap f) := by
  have hlen : ∀ l : List α, (l.flatMap f).length = l.length * sz := by
    intro l
    induction l with
    | nil => simp
    | cons x xs ih => rw [List.flatMap_cons, List.length_append, ih, hf, List.length_cons, Nat.succ_mul]; omega
  refine ⟨hlen l, hm, some a, cap, rfl, hc, (fun e => by cases e), fun i u hu => ?_⟩
  have hi := (List.getElem?_eq_some_iff.1 hu).1
  rw [hlen] at hi
  have hk : i / sz < l.length := Nat.div_lt_of_lt_mul (by rw [Nat.mul_comm]; exact hi)
  have hj : i % sz < sz := Nat.mod_lt _ hsz
  have he : i / sz * sz + i % sz = i := by rw [Nat.mul_comm]; exact Nat.div_add_mod i sz
  have hg := flat_get hf l (i / sz) hk (i % sz) hj
  rw [he, hu] at hg
  have hcell := h (i / sz) hk (i % sz) u hg.symm
  rw [he] at hcell
  exact ⟨a, rfl, by rw [← add_block a i]; exact cell_lt8 hcell, hcell⟩
section
variable {H : Type} {enc : TypeId × Value → H} {W : World} {b0 : Nat}
/-- A slice that came in: its elements one by one, read with less fuel. -/
theorem slice_els {P : Program} {t e : TypeId} {fuel : Nat} {cs : List Value} {x : DataW H × List MemPlace} (ht : P.underlying t = some (.slice e)) (h : DataW.trod enc P W b0 (fun _ => true) true fuel t cs = some x) :
    cs = [.slice none 0 0] ∨ ∃ (a : Addr) (len cap n : Nat), fuel = n + 1 ∧ cs = [.slice (some a) len cap] ∧ len ≤ cap ∧ cap ≤ maxLen ∧
      ∀ i, i < len → ∃ cs' y, W.cells? b0 (a.add (i * P.cellsOf e)) (P.cellsOf e) = some cs' ∧ DataW.trod enc P W b0 (fun _ => true) true n e cs' = some y := by
  rcases DataW.trod_slice ht h with ⟨h0, _⟩ | ⟨a, len, cap, elems, rest, n, hn, hcs, _, _, hl, hm, hlen, hel, _, _⟩
  · exact .inl h0
  · refine .inr ⟨a, len, cap, n, hn, hcs, hl, hm, fun i hi => ?_⟩
    have key := hel i hi
    rw [List.getElem?_eq_getElem (by omega)] at key
    obtain ⟨cs', h1, h2⟩ := Option.bind_eq_some_iff.1 key
    exact ⟨cs', _, h1, h2⟩
/-- .. as a list, each element of which is known. -/
theorem slice_list {P : Program} {t e : TypeId} {fuel : Nat} {v : Value} {x : DataW H × List MemPlace} {α : Type} (f : α → List Value) (sz : Nat) (hf : ∀ x, (f x).length = sz) (hsz : 0 < sz) (hk : P.cellsOf e = sz) (Q : α → Prop)
    (ht : P.underlying t = some (.slice e)) (h : DataW.trod enc P W b0 (fun _ => true) true fuel t [v] = some x)
    (he : ∀ n cs y, n < fuel → DataW.trod enc P W b0 (fun _ => true) true n e cs = some y → ∃ z : α, cs = f z ∧ Q z) : ∃ l : List α, Sl W sz l.length v (l.flatMap f) ∧ ∀ z ∈ l, Q z := by
  rcases slice_els ht h with hcs | ⟨a, len, cap, n, hn, hcs, hl, hm, hi⟩
  · have e : v = .slice none 0 0 := List.head_eq_of_cons_eq hcs
    rw [e]
    exact ⟨[], Sl.nil W sz, fun y hy => by cases hy⟩
  · have e : v = .slice (some a) len cap := List.head_eq_of_cons_eq hcs
    rw [hk] at hi
    obtain ⟨ws, hwl, hw⟩ := listed (fun i (y : α) => (∀ (j : Nat) (u : Value), (f y)[j]? = some u → W.cell? (a.add (i * sz + j)) = some u) ∧ Q y) len (fun i hil => by
      obtain ⟨cs', y', hc, ht'⟩ := hi i hil
      obtain ⟨y, rfl, hy⟩ := he n cs' y' (by omega) ht'
      obtain ⟨_, _, hat⟩ := World.cells?_some hc
      refine ⟨y, fun j u hu => ?_, hy⟩
      have hj : j < sz := by
        have := (List.getElem?_eq_some_iff.1 hu).1
        rw [hf] at this
        exact this
      rw [← Go.Deep.add_add, hat j hj, hu])
    refine ⟨ws, ?_, fun y hy => ?_⟩
    · rw [e, ← hwl]
      exact sl_of f hf hsz (by omega) (by omega) fun k hk j u hu => (hw k hk).1 j u hu
    · obtain ⟨k, hk, rfl⟩ := List.getElem_of_mem hy
      exact (hw k hk).2
set_option maxRecDepth 100000 in
theorem open_cond {fuel : Nat} {cs : List Value} {x : DataW H × List MemPlace} (h : DataW.trod enc Tryz.prog W b0 (fun _ => true) true fuel 94 cs = some x) : ∃ z : Cn, cs = cnC z ∧ okC z := by
  obtain ⟨xs, n, hfu, hx, hl, hlen, hg⟩ := DataW.trod_struct Tryz.underlying94 h
  rw [kCond] at hl
  match cs, hl with
  | [c0, c1], _ =>
    match xs, hlen with
    | [y0, y1], _ =>
      have g0 : DataW.trod enc Tryz.prog W b0 (fun _ => true) true n 3 (([c0, c1].drop 0).take (Tryz.prog.cellsOf 3)) = some y0 := hg 0 _ rfl
      rw [kInt] at g0
      have g1 : DataW.trod enc Tryz.prog W b0 (fun _ => true) true n 2 (([c0, c1].drop 1).take (Tryz.prog.cellsOf 2)) = some y1 := hg 1 _ rfl
      rw [kI64] at g1
      obtain ⟨op, e0, _, w0⟩ := DataW.trod_int Tryz.underlying3 g0
      have f0 : c0 = .int .i64 op := List.head_eq_of_cons_eq e0
      obtain ⟨va, e1, _, w1⟩ := DataW.trod_int Tryz.underlying2 g1
      have f1 : c1 = .int .i64 va := List.head_eq_of_cons_eq e1
      exact ⟨⟨op, va⟩, by rw [f0, f1]; rfl, bounds_i64 w0, bounds_i64 w1⟩
set_option maxRecDepth 100000 in
theorem open_agg {fuel : Nat} {cs : List Value} {x : DataW H × List MemPlace} (h : DataW.trod enc Tryz.prog W b0 (fun _ => true) true fuel 92 cs = some x) : ∃ z : Ag, cs = agC z ∧ okV z.fn := by
  obtain ⟨xs, n, hfu, hx, hl, hlen, hg⟩ := DataW.trod_struct Tryz.underlying92 h
  rw [kAgg] at hl
  match cs, hl with
  | [c0, c1], _ =>
    match xs, hlen with
    | [y0, y1], _ =>
      have g0 : DataW.trod enc Tryz.prog W b0 (fun _ => true) true n 3 (([c0, c1].drop 0).take (Tryz.prog.cellsOf 3)) = some y0 := hg 0 _ rfl
      rw [kInt] at g0
      have g1 : DataW.trod enc Tryz.prog W b0 (fun _ => true) true n 9 (([c0, c1].drop 1).take (Tryz.prog.cellsOf 9)) = some y1 := hg 1 _ rfl
      rw [kStr] at g1
      obtain ⟨fn, e0, _, w0⟩ := DataW.trod_int Tryz.underlying3 g0
      have f0 : c0 = .int .i64 fn := List.head_eq_of_cons_eq e0
      obtain ⟨s, e1, _, w1⟩ := DataW.trod_string Tryz.underlying9 g1
      have f1 : c1 = .string s := List.head_eq_of_cons_eq e1
      have hs : strOf s.data.toList = s := (str_is rfl).symm
      exact ⟨⟨fn, s.data.toList⟩, by rw [f0, f1]; simp only [agC, hs], bounds_i64 w0⟩
set_option maxRecDepth 100000 in
theorem open_have {fuel : Nat} {cs : List Value} {x : DataW H × List MemPlace} (h : DataW.trod enc Tryz.prog W b0 (fun _ => true) true fuel 96 cs = some x) : ∃ z : Hv, cs = hvC z ∧ (okC z.cn ∧ okV z.ag.fn) := by
  obtain ⟨xs, n, hfu, hx, hl, hlen, hg⟩ := DataW.trod_struct Tryz.underlying96 h
  rw [kHave] at hl
  match cs, hl with
  | [c0, c1, c2, c3], _ =>
    match xs, hlen with
    | [y0, y1], _ =>
      have g0 : DataW.trod enc Tryz.prog W b0 (fun _ => true) true n 92 (([c0, c1, c2, c3].drop 0).take (Tryz.prog.cellsOf 92)) = some y0 := hg 0 _ rfl
      rw [kAgg] at g0
      have g1 : DataW.trod enc Tryz.prog W b0 (fun _ => true) true n 94 (([c0, c1, c2, c3].drop 2).take (Tryz.prog.cellsOf 94)) = some y1 := hg 1 _ rfl
      rw [kCond] at g1
      obtain ⟨z0, e0, h0⟩ := open_agg (cs := [c0, c1]) g0
      obtain ⟨z1, e1, h1⟩ := open_cond (cs := [c2, c3]) g1
      refine ⟨⟨z0, z1⟩, ?_, h1, h0⟩
      show [c0, c1] ++ [c2, c3] = _
      rw [e0, e1]
      rfl
set_option maxRecDepth 100000 in
theorem open_atom {fuel : Nat} {cs : List Value} {x : DataW H × List MemPlace} (h : DataW.trod enc Tryz.prog W b0 (fun _ => true) true fuel 28 cs = some x) : ∃ z : GA, cs = gaC z ∧ OneA W z := by
  obtain ⟨xs, n, hfu, hx, hl, hlen, hg⟩ := DataW.trod_struct Tryz.underlying28 h
  rw [kAtom] at hl
  match cs, hl with
  | [c0, c1, c2, c3, c4], _ =>
    match xs, hlen with
    | [y0, y1, y2, y3, y4], _ =>
      have g0 : DataW.trod enc Tryz.prog W b0 (fun _ => true) true n 3 (([c0, c1, c2, c3, c4].drop 0).take (Tryz.prog.cellsOf 3)) = some y0 := hg 0 _ rfl
      rw [kInt] at g0
      have g1 : DataW.trod enc Tryz.prog W b0 (fun _ => true) true n 4 (([c0, c1, c2, c3, c4].drop 1).take (Tryz.prog.cellsOf 4)) = some y1 := hg 1 _ rfl
      rw [kBool] at g1
      have g2 : DataW.trod enc Tryz.prog W b0 (fun _ => true) true n 22 (([c0, c1, c2, c3, c4].drop 2).take (Tryz.prog.cellsOf 22)) = some y2 := hg 2 _ rfl
      rw [kU64] at g2
      have g3 : DataW.trod enc Tryz.prog W b0 (fun _ => true) true n 26 (([c0, c1, c2, c3, c4].drop 3).take (Tryz.prog.cellsOf 26)) = some y3 := hg 3 _ rfl
      rw [kConds] at g3
      have g4 : DataW.trod enc Tryz.prog W b0 (fun _ => true) true n 9 (([c0, c1, c2, c3, c4].drop 4).take (Tryz.prog.cellsOf 9)) = some y4 := hg 4 _ rfl
      rw [kStr] at g4
      obtain ⟨kd, e0, _, w0⟩ := DataW.trod_int Tryz.underlying3 g0
      have f0 : c0 = .int .i64 kd := List.head_eq_of_cons_eq e0
      obtain ⟨bd, e1, _⟩ := DataW.trod_bool Tryz.underlying4 g1
      have f1 : c1 = .bool bd := List.head_eq_of_cons_eq e1
      obtain ⟨bn, e2, _, w2⟩ := DataW.trod_int Tryz.underlying22 g2
      have f2 : c2 = .int .u64 bn := List.head_eq_of_cons_eq e2
      obtain ⟨l, h3, hq⟩ := slice_list (v := c3) cnC 2 cnC_len (by decide) kCond okC Tryz.underlying26 g3 (fun n cs y _ h => open_cond h)
      obtain ⟨s, e4, _, w4⟩ := DataW.trod_string Tryz.underlying9 g4
      have f4 : c4 = .string s := List.head_eq_of_cons_eq e4
      have hs : strOf s.data.toList = s := (str_is rfl).symm
      have hb := bounds_u64 w2
      refine ⟨⟨⟨kd, bd, bn, l, s.data.toList⟩, c3⟩, ?_, ⟨bounds_i64 w0, ⟨hb.1, by have := hb.2; simp only; omega⟩, hq, ?_⟩, h3⟩
      · rw [f0, f1, f2, f4]
        simp only [gaC, hs]
      · exact w4
theorem trw_mk {k mn mx : Int} {g : GA} {sk : Value} {ks : List Tr} (h0 : okV k ∧ okV mn ∧ okV mx) (h1 : OneA W g) (h2 : Sl W 9 ks.length sk (ks.flatMap Tr.row)) (h3 : ∀ t ∈ ks, TrW W t) : TrW W (.mk k mn mx g sk ks) := by
  intro t ht
  simp only [subsT, subsTL_flat, List.mem_cons, List.mem_flatMap] at ht
  rcases ht with rfl | ⟨u, hu, ht⟩
  · exact ⟨h0, h1, h2⟩
  · exact h3 u hu t ht
set_option maxRecDepth 100000 in
theorem open_node : ∀ (fuel : Nat) (cs : List Value) (x : DataW H × List MemPlace), DataW.trod enc Tryz.prog W b0 (fun _ => true) true fuel 31 cs = some x → ∃ T : Tr, cs = T.row ∧ TrW W T := by
  intro fuel
  induction fuel using Nat.strongRecOn with
  | ind fuel ih =>
  intro cs x h
  obtain ⟨xs, n, hfu, hx, hl, hlen, hg⟩ := DataW.trod_struct Tryz.underlying31 h
  rw [kNode] at hl
  match cs, hl with
  | [c0, c1, c2, c3, c4, c5, c6, c7, c8], _ =>
    match xs, hlen with
    | [y0, y1, y2, y3, y4], _ =>
      have g0 : DataW.trod enc Tryz.prog W b0 (fun _ => true) true n 3 (([c0, c1, c2, c3, c4, c5, c6, c7, c8].drop 0).take (Tryz.prog.cellsOf 3)) = some y0 := hg 0 _ rfl
      rw [kInt] at g0
      have g1 : DataW.trod enc Tryz.prog W b0 (fun _ => true) true n 3 (([c0, c1, c2, c3, c4, c5, c6, c7, c8].drop 1).take (Tryz.prog.cellsOf 3)) = some y1 := hg 1 _ rfl
      rw [kInt] at g1
      have g2 : DataW.trod enc Tryz.prog W b0 (fun _ => true) true n 3 (([c0, c1, c2, c3, c4, c5, c6, c7, c8].drop 2).take (Tryz.prog.cellsOf 3)) = some y2 := hg 2 _ rfl
      rw [kInt] at g2
      have g3 : DataW.trod enc Tryz.prog W b0 (fun _ => true) true n 28 (([c0, c1, c2, c3, c4, c5, c6, c7, c8].drop 3).take (Tryz.prog.cellsOf 28)) = some y3 := hg 3 _ rfl
      rw [kAtom] at g3
      have g4 : DataW.trod enc Tryz.prog W b0 (fun _ => true) true n 29 (([c0, c1, c2, c3, c4, c5, c6, c7, c8].drop 8).take (Tryz.prog.cellsOf 29)) = some y4 := hg 4 _ rfl
      rw [kNodes] at g4
      obtain ⟨k, e0, _, w0⟩ := DataW.trod_int Tryz.underlying3 g0
      have f0 : c0 = .int .i64 k := List.head_eq_of_cons_eq e0
      obtain ⟨mn, e1, _, w1⟩ := DataW.trod_int Tryz.underlying3 g1
      have f1 : c1 = .int .i64 mn := List.head_eq_of_cons_eq e1
      obtain ⟨mx, e2, _, w2⟩ := DataW.trod_int Tryz.underlying3 g2
      have f2 : c2 = .int .i64 mx := List.head_eq_of_cons_eq e2
      obtain ⟨g, e3, h3⟩ := open_atom (cs := [c3, c4, c5, c6, c7]) g3
      obtain ⟨ks, h4, hq⟩ := slice_list (v := c8) Tr.row 9 row_len (by decide) kNode (TrW W) Tryz.underlying29 g4 (fun m cs y hm h => ih m (by omega) cs y h)
      refine ⟨.mk k mn mx g c8 ks, ?_, trw_mk ⟨bounds_i64 w0, bounds_i64 w1, bounds_i64 w2⟩ h3 h4 hq⟩
      show [c0, c1, c2] ++ [c3, c4, c5, c6, c7] ++ [c8] = _
      rw [f0, f1, f2, e3]
      rfl
set_option maxRecDepth 100000 in
/-- A node that came in. -/
theorem open_nd {r : Reach} {base : Nat} {v : Value} {d : DataW H} {ps : List MemPlace} (hval : Value.okWide Tryz.prog W r base 31 v) (h : DataW.Trod enc Tryz.prog W b0 (fun _ => true) true 31 v d ps) :
    ∃ T : Tr, v = .agg T.row.toArray ∧ TrW W T := by
  obtain ⟨cs, rfl, hsz⟩ := okWide_struct Tryz.underlying31 hval
  obtain ⟨fuel, hf⟩ := h
  obtain ⟨T, h1, h2⟩ := open_node fuel _ _ hf
  refine ⟨T, ?_, h2⟩
  have h3 : cs.toList = T.row := h1
  rw [← h3]
set_option maxRecDepth 100000 in
theorem open_query {fuel : Nat} {cs : List Value} {x : DataW H × List MemPlace} (h : DataW.trod enc Tryz.prog W b0 (fun _ => true) true fuel 35 cs = some x) : ∃ q : GQ, cs = q.row ∧ QW W q := by
  obtain ⟨xs, n, hfu, hx, hl, hlen, hg⟩ := DataW.trod_struct Tryz.underlying35 h
  rw [kQuery] at hl
  match cs, hl with
  | [c0, c1, c2, c3, c4, c5, c6, c7, c8, c9, c10, c11], _ =>
    match xs, hlen with
    | [y0, y1, y2, y3], _ =>
      have g0 : DataW.trod enc Tryz.prog W b0 (fun _ => true) true n 31 (([c0, c1, c2, c3, c4, c5, c6, c7, c8, c9, c10, c11].drop 0).take (Tryz.prog.cellsOf 31)) = some y0 := hg 0 _ rfl
      rw [kNode] at g0
      have g1 : DataW.trod enc Tryz.prog W b0 (fun _ => true) true n 22 (([c0, c1, c2, c3, c4, c5, c6, c7, c8, c9, c10, c11].drop 9).take (Tryz.prog.cellsOf 22)) = some y1 := hg 1 _ rfl
      rw [kU64] at g1
      have g2 : DataW.trod enc Tryz.prog W b0 (fun _ => true) true n 32 (([c0, c1, c2, c3, c4, c5, c6, c7, c8, c9, c10, c11].drop 10).take (Tryz.prog.cellsOf 32)) = some y2 := hg 2 _ rfl
      rw [kHaves] at g2
      have g3 : DataW.trod enc Tryz.prog W b0 (fun _ => true) true n 33 (([c0, c1, c2, c3, c4, c5, c6, c7, c8, c9, c10, c11].drop 11).take (Tryz.prog.cellsOf 33)) = some y3 := hg 3 _ rfl
      rw [kAggs] at g3
      obtain ⟨T, e0, h0⟩ := open_node n [c0, c1, c2, c3, c4, c5, c6, c7, c8] _ g0
      obtain ⟨wi, e1, _, w1⟩ := DataW.trod_int Tryz.underlying22 g1
      have f1 : c9 = .int .u64 wi := List.head_eq_of_cons_eq e1
      obtain ⟨hv, h2, hq2⟩ := slice_list (v := c10) hvC 4 hvC_len (by decide) kHave (fun z : Hv => okC z.cn ∧ okV z.ag.fn) Tryz.underlying32 g2 (fun n cs y _ h => open_have h)
      obtain ⟨em, h3, hq3⟩ := slice_list (v := c11) agC 2 agC_len (by decide) kAgg (fun z : Ag => okV z.fn) Tryz.underlying33 g3 (fun n cs y _ h => open_agg h)
      have hb := bounds_u64 w1
      refine ⟨⟨T, wi, c10, hv, c11, em⟩, ?_, ⟨h0, ⟨hb.1, by have := hb.2; simp only; omega⟩, h2, h3, hq2, hq3⟩⟩
      show [c0, c1, c2, c3, c4, c5, c6, c7, c8] ++ [c9, c10, c11] = _
      rw [e0, f1]
      rfl
set_option maxRecDepth 100000 in
/-- A query that came in. -/
theorem open_qu {r : Reach} {base : Nat} {v : Value} {d : DataW H} {ps : List MemPlace} (hval : Value.okWide Tryz.prog W r base 35 v) (h : DataW.Trod enc Tryz.prog W b0 (fun _ => true) true 35 v d ps) :
    ∃ q : GQ, v = .agg q.row.toArray ∧ QW W q := by
  obtain ⟨cs, rfl, hsz⟩ := okWide_struct Tryz.underlying35 hval
  obtain ⟨fuel, hf⟩ := h
  obtain ⟨q, h1, h2⟩ := open_query hf
  refine ⟨q, ?_, h2⟩
  have h3 : cs.toList = q.row := h1
  rw [← h3]
set_option maxRecDepth 100000 in
/-- An atom that came in. -/
theorem open_at {r : Reach} {base : Nat} {v : Value} {d : DataW H} {ps : List MemPlace} (hval : Value.okWide Tryz.prog W r base 28 v) (h : DataW.Trod enc Tryz.prog W b0 (fun _ => true) true 28 v d ps) :
    ∃ g : GA, v = .agg (gaC g).toArray ∧ OneA W g := by
  obtain ⟨cs, rfl, hsz⟩ := okWide_struct Tryz.underlying28 hval
  obtain ⟨fuel, hf⟩ := h
  obtain ⟨q, h1, h2⟩ := open_atom hf
  refine ⟨q, ?_, h2⟩
  have h3 : cs.toList = gaC q := h1
  rw [← h3]
end
end Go.Proofs.YtdoioaeppepndaaGreatDoor.Wf11
