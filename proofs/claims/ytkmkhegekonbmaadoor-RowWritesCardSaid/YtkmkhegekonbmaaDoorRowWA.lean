/- An argument opened: a slice of rows. -/
import Derived.Test.YtkmkhegekonbmaaDoorRowRow
namespace Go.Proofs.YtkmkhegekonbmaaDoor.Rw6
open Go.ChangeShapes Go.WideShapes Go.ChangeAt Go.RowKit
open Go.ChangeMaps (open_string shut_string)

theorem cellLt {w : World} {a : Addr} {v : Value} (h : w.cell? a = some v) : a.block < w.heap.size := by
  rcases Nat.lt_or_ge a.block w.heap.size with hlt | hge
  · exact hlt
  · unfold World.cell? at h
    rw [Array.getElem?_eq_none hge] at h
    simp at h
theorem kWord : Tryd.prog.cellsOf 31 = 3 := by kernel_rfl
theorem kRow : Tryd.prog.cellsOf 43 = 2 := by kernel_rfl
theorem kBool : Tryd.prog.cellsOf 4 = 1 := by kernel_rfl
theorem kStr : Tryd.prog.cellsOf 9 = 1 := by kernel_rfl
theorem kInt : Tryd.prog.cellsOf 3 = 1 := by kernel_rfl
theorem kWords : Tryd.prog.cellsOf 41 = 1 := by kernel_rfl
/-- What there is for each place, as one list. -/
theorem listed {α : Type} (Q : Nat → α → Prop) (n : Nat) (h : ∀ i, i < n → ∃ x, Q i x) : ∃ l : List α, l.length = n ∧ ∀ (i : Nat) (hi : i < l.length), Q i l[i] := by
  induction n with
  | zero => exact ⟨[], rfl, fun i hi => by simp at hi⟩
  | succ n ih =>
    obtain ⟨l, h1, h2⟩ := ih fun i hi => h i (by omega)
    obtain ⟨x, hx⟩ := h n (by omega)
    refine ⟨l ++ [x], by simp [h1], fun i hi => ?_⟩
    rw [List.length_append, List.length_singleton] at hi
    by_cases hl : i < l.length
    · rw [List.getElem_append_left hl]; exact h2 i hl
    · obtain rfl : i = n := by omega
      rw [List.getElem_append_right (by omega)]
      simpa using hx
/-- A slice's cells, element by element. -/
theorem sl_of {α : Type} {w : World} {sz : Nat} {a : Addr} {cap : Nat} {l : List α} (f : α → List Value) (hf : ∀ x, (f x).length = sz) (hsz : 0 < sz) (hc : l.length ≤ cap) (hm : l.length ≤ maxLen)
    (h : ∀ (k : Nat) (hk : k < l.length) (j : Nat) (u : Value), (f l[k])[j]? = some u → w.cell? (a.add (k * sz + j)) = some u) : Sl w sz l.length (.slice (some a) l.length cap) (l.flatMap f) := by
  have hlen : ∀ l : List α, (l.flatMap f).length = l.length * sz := by
    intro l
    induction l with
    | nil => simp
    | cons x xs ih => rw [List.flatMap_cons, List.length_append, ih, hf, List.length_cons, Nat.succ_mul]; omega
  refine ⟨hlen l, hm, some a, cap, rfl, hc, (fun e => by cases e), fun i u hu => ?_⟩
  have hi := (List.getElem?_eq_some_iff.1 hu).1
  rw [hlen] at hi
  have hk : i / sz < l.length := Nat.div_lt_of_lt_mul (by rw [Nat.mul_comm]; exact hi)
  have hj : i % sz < sz := Nat.mod_lt _ hsz
  have he : i / sz * sz + i % sz = i := by rw [Nat.mul_comm]; exact Nat.div_add_mod i sz
  have hg := flat_get hf l (i / sz) hk (i % sz) hj
  rw [he, hu] at hg
  have hcell := h (i / sz) hk (i % sz) u hg.symm
  rw [he] at hcell
  exact ⟨a, rfl, by rw [← add_block a i]; exact cellLt hcell, hcell⟩
theorem datLen (s : ByteArray) : s.data.toList.length = s.size := rfl
section
variable {H : Type} {enc : TypeId × Value → H} {W : World} {b0 : Nat}
set_option maxRecDepth 100000 in
theorem cells_word {fuel : Nat} {cs : List Value} {x : DataW H × List MemPlace} (h : DataW.trod enc Tryd.prog W b0 (fun _ => true) true fuel 31 cs = some x) : ∃ y : Wd, cs = wcell y ∧ y.2.1.length ≤ maxLen := by
  obtain ⟨xs, n, _, hx, hl, hlen, hg⟩ := DataW.trod_struct Tryd.underlying31 h
  rw [kWord] at hl
  match cs, hl with
  | [c0, c1, c2], _ =>
    match xs, hlen with
    | [y0, y1, y2], _ =>
      have g0 : DataW.trod enc Tryd.prog W b0 (fun _ => true) true n 4 (([c0, c1, c2].drop 0).take (Tryd.prog.cellsOf 4)) = some y0 := hg 0 _ rfl
      have g1 : DataW.trod enc Tryd.prog W b0 (fun _ => true) true n 9 (([c0, c1, c2].drop 1).take (Tryd.prog.cellsOf 9)) = some y1 := hg 1 _ rfl
      have g2 : DataW.trod enc Tryd.prog W b0 (fun _ => true) true n 3 (([c0, c1, c2].drop 2).take (Tryd.prog.cellsOf 3)) = some y2 := hg 2 _ rfl
      rw [kBool] at g0
      rw [kStr] at g1
      rw [kInt] at g2
      obtain ⟨q, e0, _⟩ := DataW.trod_bool Tryd.underlying4 g0
      obtain ⟨s, e1, _, hs⟩ := DataW.trod_string Tryd.underlying9 g1
      obtain ⟨a, e2, _, _⟩ := DataW.trod_int Tryd.underlying3 g2
      have e0' : c0 = .bool q := List.head_eq_of_cons_eq e0
      have e1' : c1 = .string s := List.head_eq_of_cons_eq e1
      have e2' : c2 = .int .i64 a := List.head_eq_of_cons_eq e2
      refine ⟨(q, s.data.toList, a), ?_, ?_⟩
      · have hs' : strOf s.data.toList = s := (str_is rfl).symm
        unfold wcell
        rw [e0', e1', e2']
        simp only [hs']
      · show s.data.toList.length ≤ maxLen
        rw [datLen]; exact hs
theorem open_words {fuel : Nat} {v : Value} {x : DataW H × List MemPlace} (h : DataW.trod enc Tryd.prog W b0 (fun _ => true) true fuel 41 [v] = some x) : ∃ ws : List Wd, WSl W v ws ∧ ∀ y ∈ ws, y.2.1.length ≤ maxLen := by
  rcases Go.Deep.open_slice Tryd.underlying41 h with ⟨hcs, _⟩ | ⟨a, len, cap, m, n, D, Pl, hcs, _, hl, hm, hmm, _, hi⟩
  · have e : v = .slice none 0 0 := List.head_eq_of_cons_eq hcs
    rw [e]
    exact ⟨[], Sl.nil W 3, fun y hy => by cases hy⟩
  · have e : v = .slice (some a) len cap := List.head_eq_of_cons_eq hcs
    rw [if_pos rfl] at hmm
    subst hmm
    rw [kWord] at hi
    obtain ⟨ws, hwl, hw⟩ := listed (fun i (y : Wd) => (∀ (j : Nat) (u : Value), (wcell y)[j]? = some u → W.cell? (a.add (i * 3 + j)) = some u) ∧ y.2.1.length ≤ maxLen) len (fun i hil => by
      obtain ⟨cs', hc, ht⟩ := hi i (by omega)
      obtain ⟨y, rfl, hy⟩ := cells_word ht
      obtain ⟨_, _, hat⟩ := World.cells?_some hc
      refine ⟨y, fun j u hu => ?_, hy⟩
      have hj : j < 3 := (List.getElem?_eq_some_iff.1 hu).1
      rw [← Go.Deep.add_add, hat j hj, hu])
    refine ⟨ws, ?_, fun y hy => ?_⟩
    · rw [e, ← hwl]
      exact sl_of wcell (fun _ => rfl) (by decide) (by omega) (by omega) fun k hk j u hu => (hw k hk).1 j u hu
    · obtain ⟨k, hk, rfl⟩ := List.getElem_of_mem hy
      exact (hw k hk).2
set_option maxRecDepth 100000 in
/-- A slice of rows that came in, as a list. -/
theorem open_rows {r : Reach} {base : Nat} {v : Value} {d : DataW H} {ps : List MemPlace} (hval : Value.okWide Tryd.prog W r base 22 v) (h : DataW.Trod enc Tryd.prog W b0 (fun _ => true) true 22 v d ps) :
    ∃ rs : List (Int × List Wd), RSl W v rs ∧ ∀ r ∈ rs, ∀ y ∈ r.2, y.2.1.length ≤ maxLen := by
  obtain ⟨A, ln, cp, rfl⟩ := okWide_slice Tryd.underlying22 hval
  obtain ⟨fuel, hf⟩ := h
  rcases Go.Deep.open_slice Tryd.underlying22 hf with ⟨hcs, _⟩ | ⟨a, len, cap, m, n, D, Pl, hcs, _, hl, hm, hmm, _, hi⟩
  · have e : Value.slice A ln cp = .slice none 0 0 := by simpa [Value.cells] using hcs
    rw [e]
    exact ⟨[], ⟨[], rfl, Sl.nil W 2, fun i u r h => by simp at h⟩, fun r hr => by cases hr⟩
  · have e : Value.slice A ln cp = .slice (some a) len cap := by simpa [Value.cells] using hcs
    rw [if_pos rfl] at hmm
    subst hmm
    rw [kRow] at hi
    obtain ⟨ps, hpl, hp⟩ := listed (fun i (p : (Int × List Wd) × Value) => (∀ (j : Nat) (u : Value), (rcell (p.1.1, p.2))[j]? = some u → W.cell? (a.add (i * 2 + j)) = some u) ∧ WSl W p.2 p.1.2 ∧ ∀ y ∈ p.1.2, y.2.1.length ≤ maxLen) len (fun i hil => by
      obtain ⟨cs', hc, ht⟩ := hi i (by omega)
      obtain ⟨xs, n', _, hx, hl', hlen, hg⟩ := DataW.trod_struct Tryd.underlying43 ht
      rw [kRow] at hl'
      obtain ⟨_, _, hat⟩ := World.cells?_some hc
      match cs', hl' with
      | [c0, c1], _ =>
        match xs, hlen with
        | [y0, y1], _ =>
          have g0 : DataW.trod enc Tryd.prog W b0 (fun _ => true) true n' 3 (([c0, c1].drop 0).take (Tryd.prog.cellsOf 3)) = some y0 := hg 0 _ rfl
          have g1 : DataW.trod enc Tryd.prog W b0 (fun _ => true) true n' 41 (([c0, c1].drop 1).take (Tryd.prog.cellsOf 41)) = some y1 := hg 1 _ rfl
          rw [kInt] at g0
          rw [kWords] at g1
          obtain ⟨q, e0, _, _⟩ := DataW.trod_int Tryd.underlying3 g0
          have e0' : c0 = .int .i64 q := List.head_eq_of_cons_eq e0
          obtain ⟨ws, hw, hy⟩ := open_words (v := c1) g1
          refine ⟨((q, ws), c1), fun j u hu => ?_, hw, hy⟩
          have hj : j < 2 := (List.getElem?_eq_some_iff.1 hu).1
          rw [← Go.Deep.add_add, hat j hj, e0', ← hu]
          rfl)
    have hr : (ps.map (·.1)).length = ps.length := List.length_map _
    have hz : rcells (((ps.map (·.1)).map (·.1)).zip (ps.map (·.2))) = ps.flatMap fun p => rcell (p.1.1, p.2) := by
      have hzz : ∀ ps : List ((Int × List Wd) × Value), (((ps.map (·.1)).map (·.1)).zip (ps.map (·.2))) = ps.map fun p => (p.1.1, p.2) := by
        intro ps
        induction ps with
        | nil => rfl
        | cons p ps ih => simp only [List.map_cons, List.zip_cons_cons, ih]
      unfold rcells
      rw [hzz, List.flatMap_map]
    refine ⟨ps.map (·.1), ⟨ps.map (·.2), by rw [List.length_map, List.length_map], ?_, fun i u r hu hr => ?_⟩, fun r hr y hy => ?_⟩
    · rw [hz, hr, e, ← hpl]
      exact sl_of (fun p : (Int × List Wd) × Value => rcell (p.1.1, p.2)) (fun _ => rfl) (by decide) (by omega) (by omega) fun k hk j u hu => (hp k hk).1 j u hu
    · rw [List.getElem?_map] at hu hr
      obtain ⟨p, h1, rfl⟩ := Option.map_eq_some_iff.1 hu
      obtain ⟨p', h2, rfl⟩ := Option.map_eq_some_iff.1 hr
      rw [h1] at h2
      cases h2
      obtain ⟨hk, rfl⟩ := List.getElem?_eq_some_iff.1 h1
      exact (hp i hk).2.1
    · obtain ⟨p, hpm, rfl⟩ := List.mem_map.1 hr
      obtain ⟨k, hk, rfl⟩ := List.getElem_of_mem hpm
      exact (hp k hk).2.2 y hy
end
end Go.Proofs.YtkmkhegekonbmaaDoor.Rw6
