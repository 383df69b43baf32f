/- Rows in memory: slices of words (three cells each) and of rows (two cells each). Nothing here speaks of the program. -/
import Derived.Test.YtkmkhegekonbmaaDoorRowMath
import Derived.Test.YtkmkhegekonbmaaDoorBlk
import Derived.Deep.AppendLies
namespace Go.Proofs.YtkmkhegekonbmaaDoor
open Go.RowKit
open Rw6

/-- A word: whether it is quoted, its text, and its offset. -/
abbrev Wd := Bool × List UInt8 × Int
def wcell (x : Wd) : List Value := [.bool x.1, .string (strOf x.2.1), .int .i64 x.2.2]
def wcells (ws : List Wd) : List Value := ws.flatMap wcell
theorem wcells_len (ws : List Wd) : (wcells ws).length = ws.length * 3 := by
  induction ws with
  | nil => rfl
  | cons x xs ih => show (wcell x ++ wcells xs).length = _; rw [List.length_append, ih, List.length_cons]; show 3 + _ = _; omega
theorem wcells_snoc (ws : List Wd) (x : Wd) : wcells (ws ++ [x]) = wcells ws ++ wcell x := by unfold wcells; simp
theorem wcells_app (a b : List Wd) : wcells (a ++ b) = wcells a ++ wcells b := by unfold wcells; simp
theorem flat_get {α : Type} {f : α → List Value} {n : Nat} (hf : ∀ x, (f x).length = n) : ∀ (l : List α) (k : Nat) (h : k < l.length) (j : Nat), j < n → (l.flatMap f)[k * n + j]? = (f l[k])[j]? := by
  intro l
  induction l with
  | nil => intro k h; simp at h
  | cons x xs ih =>
    intro k h j hj
    rw [List.flatMap_cons]
    cases k with
    | zero =>
      rw [Nat.zero_mul, Nat.zero_add, List.getElem?_append_left (by rw [hf]; exact hj)]
      rfl
    | succ k =>
      rw [List.getElem?_append_right (by rw [hf, Nat.succ_mul]; omega), hf, List.getElem_cons_succ, ← ih k (by simpa using h) j hj]
      congr 1
      rw [Nat.succ_mul]
      omega
theorem wcells_get {ws : List Wd} {k : Nat} (h : k < ws.length) : (wcells ws)[k * 3]? = some (.bool ws[k].1) ∧ (wcells ws)[k * 3 + 1]? = some (.string (strOf ws[k].2.1)) ∧ (wcells ws)[k * 3 + 2]? = some (.int .i64 ws[k].2.2) :=
  ⟨flat_get (f := wcell) (n := 3) (fun _ => rfl) ws k h 0 (by decide), flat_get (f := wcell) (n := 3) (fun _ => rfl) ws k h 1 (by decide), flat_get (f := wcell) (n := 3) (fun _ => rfl) ws k h 2 (by decide)⟩
/-- A row's two cells. -/
def rcell (p : Int × Value) : List Value := [.int .i64 p.1, p.2]
def rcells (ps : List (Int × Value)) : List Value := ps.flatMap rcell
theorem rcells_len (ps : List (Int × Value)) : (rcells ps).length = ps.length * 2 := by
  induction ps with
  | nil => rfl
  | cons x xs ih => show (rcell x ++ rcells xs).length = _; rw [List.length_append, ih, List.length_cons]; show 2 + _ = _; omega
theorem rcells_snoc (ps : List (Int × Value)) (x : Int × Value) : rcells (ps ++ [x]) = rcells ps ++ rcell x := by unfold rcells; simp
theorem rcells_app (a b : List (Int × Value)) : rcells (a ++ b) = rcells a ++ rcells b := by unfold rcells; simp
theorem rcells_get {ps : List (Int × Value)} {k : Nat} (h : k < ps.length) : (rcells ps)[k * 2]? = some (.int .i64 ps[k].1) ∧ (rcells ps)[k * 2 + 1]? = some ps[k].2 :=
  ⟨flat_get (f := rcell) (n := 2) (fun _ => rfl) ps k h 0 (by decide), flat_get (f := rcell) (n := 2) (fun _ => rfl) ps k h 1 (by decide)⟩

/-- The slice v of n elements of sz cells each holds the cells us. -/
def Sl (w : World) (sz n : Nat) (v : Value) (us : List Value) : Prop :=
  us.length = n * sz ∧ n ≤ maxLen ∧ ∃ (A : Option Addr) (cap : Nat), v = .slice A n cap ∧ n ≤ cap ∧ (A = none → cap = 0) ∧ ∀ (i : Nat) (u : Value), us[i]? = some u → ∃ a, A = some a ∧ a.block < w.heap.size ∧ w.cell? (a.add i) = some u
theorem Sl.later {w w' : World} {sz n : Nat} {v : Value} {us : List Value} (h : Sl w sz n v us) (hb : Below w.heap.size w w') : Sl w' sz n v us := by
  obtain ⟨h1, h2, A, cap, h3, h4, h5, h6⟩ := h
  refine ⟨h1, h2, A, cap, h3, h4, h5, fun i u hu => ?_⟩
  obtain ⟨a, ha, hlt, hc⟩ := h6 i u hu
  exact ⟨a, ha, Nat.lt_of_lt_of_le hlt hb.size, (hb.cell (p := a.add i) (by rw [add_block]; exact hlt)).trans hc⟩
theorem Sl.nil (w : World) (sz : Nat) : Sl w sz 0 (.slice none 0 0) [] := ⟨by simp, by unfold maxLen; omega, none, 0, rfl, Nat.le_refl _, fun _ => rfl, fun i u h => by simp at h⟩
theorem Sl.of_own {w : World} {base sz n : Nat} {e : TypeId} {v : Value} {us : List Value} (h : w.ownsRow base e sz v n us) : Sl w sz n v us := by
  have hl := h.1
  have hlt := h.lt
  have hcell := fun g => h.cells (g := g)
  rcases h.2 with ⟨rfl, rfl⟩ | ⟨g, cap, cur, rfl, _, _, h1, h2, _⟩
  · obtain rfl : us = [] := List.eq_nil_of_length_eq_zero (by simpa using hl)
    exact Sl.nil w sz
  · refine ⟨hl, Nat.le_trans h1 h2, some ⟨g, 0, none⟩, cap, rfl, h1, (fun h => by cases h), fun i u hu => ⟨_, rfl, (hlt g rfl).2, hcell g rfl i u hu⟩⟩
/-- The slice v holds these words. -/
def WSl (w : World) (v : Value) (ws : List Wd) : Prop := Sl w 3 ws.length v (wcells ws)
theorem WSl.later {w w' : World} {v : Value} {ws : List Wd} (h : WSl w v ws) (hb : Below w.heap.size w w') : WSl w' v ws := Sl.later h hb
/-- The slice v holds these rows. -/
def RSl (w : World) (v : Value) (rs : List (Int × List Wd)) : Prop :=
  ∃ vs : List Value, vs.length = rs.length ∧ Sl w 2 rs.length v (rcells ((rs.map (·.1)).zip vs)) ∧ ∀ (i : Nat) (u : Value) (r : Int × List Wd), vs[i]? = some u → rs[i]? = some r → WSl w u r.2
theorem RSl.later {w w' : World} {v : Value} {rs : List (Int × List Wd)} (h : RSl w v rs) (hb : Below w.heap.size w w') : RSl w' v rs := by
  obtain ⟨vs, h1, h2, h3⟩ := h
  exact ⟨vs, h1, h2.later hb, fun i u r hu hr => (h3 i u r hu hr).later hb⟩
/-- What a slice of words gives a walk. -/
theorem WSl.at_ {w : World} {v : Value} {ws : List Wd} (h : WSl w v ws) : ∃ (A : Option Addr) (cap : Nat), v = .slice A ws.length cap ∧ ws.length ≤ cap ∧ ws.length ≤ 9223372036854775807 ∧ (A = none → cap = 0) ∧
    ∀ (k : Nat) (hk : k < ws.length), ∃ a, A = some a ∧ a.block < w.heap.size ∧ w.cell? (a.add (k * 3)) = some (.bool ws[k].1) ∧ w.cell? (a.add (k * 3 + 1)) = some (.string (strOf ws[k].2.1)) ∧ w.cell? (a.add (k * 3 + 2)) = some (.int .i64 ws[k].2.2) := by
  obtain ⟨h1, h2, A, cap, h3, h4, h5, h6⟩ := h
  refine ⟨A, cap, h3, h4, by unfold maxLen at h2; exact h2, h5, fun k hk => ?_⟩
  obtain ⟨g0, g1, g2⟩ := wcells_get hk
  obtain ⟨a, rfl, hlt, hc0⟩ := h6 _ _ g0
  obtain ⟨a', e1, _, hc1⟩ := h6 _ _ g1
  cases e1
  obtain ⟨a', e2, _, hc2⟩ := h6 _ _ g2
  cases e2
  exact ⟨a, rfl, hlt, hc0, hc1, hc2⟩
/-- What a slice of rows gives a walk. -/
theorem RSl.at_ {w : World} {v : Value} {rs : List (Int × List Wd)} (h : RSl w v rs) : ∃ (A : Option Addr) (cap : Nat), v = .slice A rs.length cap ∧ rs.length ≤ cap ∧ rs.length ≤ 9223372036854775807 ∧ (A = none → cap = 0) ∧
    ∀ (k : Nat) (hk : k < rs.length), ∃ a u, A = some a ∧ a.block < w.heap.size ∧ w.cell? (a.add (k * 2)) = some (.int .i64 rs[k].1) ∧ w.cell? (a.add (k * 2 + 1)) = some u ∧ WSl w u rs[k].2 := by
  obtain ⟨vs, h1, ⟨_, h2, A, cap, h3, h4, h5, h6⟩, h7⟩ := h
  refine ⟨A, cap, h3, h4, by unfold maxLen at h2; exact h2, h5, fun k hk => ?_⟩
  have hz : k < ((rs.map (·.1)).zip vs).length := by rw [List.length_zip, List.length_map]; omega
  obtain ⟨g0, g1⟩ := rcells_get hz
  obtain ⟨a, rfl, hlt, hc0⟩ := h6 _ _ g0
  obtain ⟨a', e1, _, hc1⟩ := h6 _ _ g1
  cases e1
  simp only [List.getElem_zip, List.getElem_map] at hc0 hc1
  exact ⟨a, _, rfl, hlt, hc0, hc1, h7 k _ _ (List.getElem?_eq_getElem (by omega)) (List.getElem?_eq_getElem hk)⟩
theorem own_block_ne {w : World} {b1 b2 s1 s2 n1 n2 : Nat} {e1 e2 : TypeId} {v1 v2 : Value} {x1 x2 : List Value} (h1 : w.ownsRow b1 e1 s1 v1 n1 x1) (h2 : w.ownsRow b2 e2 s2 v2 n2 x2) (hne : e1 ≠ e2) : v1.ownBlock = none ∨ v1.ownBlock ≠ v2.ownBlock := by
  rcases h1.2 with ⟨rfl, _⟩ | ⟨g1, c1, cur1, rfl, _, hh1, _⟩
  · exact .inl rfl
  · refine .inr fun e => ?_
    rcases h2.2 with ⟨rfl, _⟩ | ⟨g2, c2, cur2, rfl, _, hh2, _⟩
    · cases e
    · have : g1 = g2 := by simpa [Value.ownBlock] using e
      subst this
      rw [hh1] at hh2
      injection hh2 with hh2
      injection hh2 with _ ht
      exact hne ht
end Go.Proofs.YtkmkhegekonbmaaDoor
