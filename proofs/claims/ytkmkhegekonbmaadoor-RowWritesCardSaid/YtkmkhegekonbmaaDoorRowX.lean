/- Walks: the program's reader of texts. -/
import Derived.Test.YtkmkhegekonbmaaDoorRowW
namespace Go.Proofs.YtkmkhegekonbmaaDoor
open Go.RowKit Go.Shelf
open Rw6
attribute [local go_sem] Oper.semAt_some

theorem split_any (s : ByteArray) (w : World) :
    Calls Tryd.prog 48 #[.string s, .string ⟨#[10]⟩] w fun e w' => e = .returned (.func (.func 67) #[] #[.pointer (some ⟨w.heap.size + 1, 0, none⟩), .pointer (some ⟨w.heap.size, 0, none⟩), .pointer (some ⟨w.heap.size + 2, 0, none⟩)]) ∧
      w' = ((w.alloc (.cells #[.string s] 9)).alloc (.cells #[.string ⟨#[10]⟩] 9)).alloc (.cells #[.int .i64 1] 3) := by
  have hsp : ∀ w : World, Calls Tryd.prog 60 #[.string s, .string ⟨#[10]⟩, .int .i64 1] w fun e w' => e = .returned (.func (.func 67) #[] #[.pointer (some ⟨w.heap.size + 1, 0, none⟩), .pointer (some ⟨w.heap.size, 0, none⟩), .pointer (some ⟨w.heap.size + 2, 0, none⟩)]) ∧
      w' = ((w.alloc (.cells #[.string s] 9)).alloc (.cells #[.string ⟨#[10]⟩] 9)).alloc (.cells #[.int .i64 1] 3) := fun w => by
    go_enter Tryd.func60, Tryd.ntmps60
    go_wp2
    go_ret
    exact ⟨rfl, rfl⟩
  go_enter Tryd.func48, Tryd.ntmps48
  go_wp2_with fail
  refine (hsp _).mono ?_
  rintro e w1 ⟨rfl, rfl⟩
  go_wp2
  go_ret
  exact ⟨rfl, rfl⟩
/-- A row of the call's own is kept where what turns is no cells, or lies below it. -/
theorem own_far {W W' : World} {base sz n : Nat} {e : TypeId} {v : Value} {xs : List Value} {row : Option Nat} (h : W.ownsRow base e sz v n xs) (hg : W.grownBy W' row) (hr : ∀ j, row = some j → j < base ∨ ∃ o : Obj, W.heap[j]? = some o ∧ o.isCells = false) : W'.ownsRow base e sz v n xs := by
  refine h.kept hg ?_
  rcases h.2 with ⟨rfl, _⟩ | ⟨g, cap, cur, rfl, hb, hh, _⟩
  · exact .inl rfl
  · refine .inr fun e => ?_
    rcases hr g (by rw [← e]; rfl) with h1 | ⟨o, ho, hc⟩
    · omega
    · rw [hh] at ho; cases ho; cases hc
theorem own_cells {W : World} {base sz n : Nat} {e : TypeId} {v : Value} {xs : List Value} (h : W.ownsRow base e sz v n xs) : ∀ (j : Nat) (o : Obj), v.ownBlock = some j → W.heap[j]? = some o → o.isCells = true := by
  intro j o hj ho
  rcases h.2 with ⟨rfl, _⟩ | ⟨g, cap, cur, rfl, hb, hh, _⟩
  · cases hj
  · have : g = j := by simpa [Value.ownBlock] using hj
    subst this
    rw [hh] at ho
    cases ho
    rfl
/-- The slice v holds these rows, in memory of the call's own from base on. -/
def Rown (W : World) (base : Nat) (rs : List (Nat × List Rw6.W)) (v : Value) : Prop :=
  ∃ vs : List Value, vs.length = rs.length ∧ W.ownsRow base 43 2 v rs.length (rcells ((rs.map fun r => (r.1 : Int)).zip vs)) ∧
    ∀ (i : Nat) (u : Value) (r : Nat × List Rw6.W), vs[i]? = some u → rs[i]? = some r → W.ownsRow base 31 3 u r.2.length (wcells (r.2.map wdOf))
theorem Rown.nil (W : World) (base : Nat) : Rown W base [] (.slice none 0 0) := ⟨[], rfl, World.ownsRow_nil _ _ _ _, fun i u r h => by simp at h⟩
theorem Rown.far {W W' : World} {base : Nat} {rs : List (Nat × List Rw6.W)} {v : Value} {row : Option Nat} (h : Rown W base rs v) (hg : W.grownBy W' row) (hr : ∀ j, row = some j → j < base ∨ ∃ o : Obj, W.heap[j]? = some o ∧ o.isCells = false) : Rown W' base rs v := by
  obtain ⟨vs, h1, h2, h3⟩ := h
  exact ⟨vs, h1, own_far h2 hg hr, fun i u r hu hr' => own_far (h3 i u r hu hr') hg hr⟩
theorem Rown.form {W : World} {base : Nat} {rs : List (Nat × List Rw6.W)} {v : Value} (h : Rown W base rs v) : ∃ A c, v = .slice A rs.length c := by
  obtain ⟨vs, h1, h2, h3⟩ := h
  exact own_form h2
theorem zip_snoc {α β : Type} (a : List α) (b : List β) (x : α) (y : β) (h : a.length = b.length) : (a ++ [x]).zip (b ++ [y]) = a.zip b ++ [(x, y)] := by
  rw [List.zip_append h]; rfl
/-- One row more. -/
theorem Rown.snoc {W W1 : World} {base a : Nat} {ws : List Rw6.W} {rs : List (Nat × List Rw6.W)} {v u v1 : Value} (vs : List Value) (hl : vs.length = rs.length)
    (h2 : W.ownsRow base 43 2 v rs.length (rcells ((rs.map fun r => (r.1 : Int)).zip vs)))
    (h3 : ∀ (i : Nat) (u : Value) (r : Nat × List Rw6.W), vs[i]? = some u → rs[i]? = some r → W.ownsRow base 31 3 u r.2.length (wcells (r.2.map wdOf)))
    (hu : W.ownsRow base 31 3 u ws.length (wcells (ws.map wdOf)))
    (h1 : W1.ownsRow base 43 2 v1 (rs.length + 1) (rcells ((rs.map fun r => (r.1 : Int)).zip vs) ++ rcell ((a : Int), u))) (hg : W.grownBy W1 v.ownBlock) : Rown W1 base (rs ++ [(a, ws)]) v1 := by
  have keep : ∀ {u : Value} {n : Nat} {xs : List Value}, W.ownsRow base 31 3 u n xs → W1.ownsRow base 31 3 u n xs := fun h => h.kept hg (own_block_ne h h2 (by decide))
  refine ⟨vs ++ [u], by rw [List.length_append, List.length_append, hl]; rfl, ?_, fun i x r hx hr => ?_⟩
  · rw [List.map_append, List.map_cons, List.map_nil, zip_snoc _ _ _ _ (by rw [List.length_map, hl]), rcells_snoc, List.length_append]
    exact h1
  · rw [List.getElem?_append] at hx hr
    rw [hl] at hx
    by_cases hi : i < rs.length
    · rw [if_pos hi] at hx hr
      exact keep (h3 i x r hx hr)
    · rw [if_neg hi] at hx hr
      have hi0 : i - rs.length = 0 := by
        have := (List.getElem?_eq_some_iff.1 hr).1
        simp at this
        omega
      rw [hi0] at hx hr
      cases hx
      cases hr
      exact keep hu
/-- Puts rows in front. -/
def glueR (rs : List (Nat × List Rw6.W)) (o : Except (Int × Nat) (List (Nat × List Rw6.W))) : Except (Int × Nat) (List (Nat × List Rw6.W)) := match o with | .ok l => .ok (rs ++ l) | .error e => .error e
theorem glueR_nil (o : Except (Int × Nat) (List (Nat × List Rw6.W))) : glueR [] o = o := by cases o <;> rfl
/-- What stands while a text is read. -/
structure RI (w : World) (t : List UInt8) (dn rest : List (List UInt8)) (frm : Nat) (rs : List (Nat × List Rw6.W)) (v : Value) (W : World) : Prop where
  pcs_ : pcs t = dn ++ rest
  sum_ : frm + (rest.map List.length).sum = t.length
  rows : rowsP (pcs t) 0 = glueR rs (rowsP rest frm)
  out : Blk W w.heap.size [.slice none 0 0]
  flt : Blk W (w.heap.size + 1) [.int .i64 0, .int .i64 0]
  row : Blk W (w.heap.size + 2) [v]
  frm_ : Blk W (w.heap.size + 3) [.int .i64 (frm : Int)]
  own : Rown W (w.heap.size + 7) rs v
  bel : Below w.heap.size w W
  big : w.heap.size + 7 ≤ W.heap.size
  cnt : rs.length ≤ dn.length
theorem blk_noncells {W W' : World} {b : Nat} {us : List Value} {row : Option Nat} (hne : us ≠ []) (h : Blk W b us) (hg : W.grownBy W' row) (hr : ∀ j, row = some j → ∃ o : Obj, W.heap[j]? = some o ∧ o.isCells = false) : Blk W' b us := by
  refine h.grown hg fun e => ?_
  obtain ⟨o, ho, hc⟩ := hr b e.symm
  cases us with
  | nil => exact hne rfl
  | cons u us =>
    obtain ⟨o', ho', hc'⟩ := cells_of_cell (h.cell 0 u rfl)
    rw [ho] at ho'
    cases ho'
    rw [hc] at hc'
    cases hc'
theorem RI.grown {w W W' : World} {t : List UInt8} {dn rest : List (List UInt8)} {frm : Nat} {rs : List (Nat × List Rw6.W)} {v : Value} {row : Option Nat} (h : RI w t dn rest frm rs v W) (hg : W.grownBy W' row)
    (hr : ∀ j, row = some j → w.heap.size + 7 ≤ j ∧ ∃ o : Obj, W.heap[j]? = some o ∧ o.isCells = false) : RI w t dn rest frm rs v W' :=
  ⟨h.pcs_, h.sum_, h.rows, blk_noncells (by simp) h.out hg fun j e => (hr j e).2, blk_noncells (by simp) h.flt hg fun j e => (hr j e).2, blk_noncells (by simp) h.row hg fun j e => (hr j e).2, blk_noncells (by simp) h.frm_ hg fun j e => (hr j e).2,
   h.own.far hg fun j e => .inr (hr j e).2, h.bel.grown hg h.bel.size fun j e => by have := (hr j e).1; omega, Nat.le_trans h.big hg.size, h.cnt⟩
theorem Rown.set {W : World} {base : Nat} {rs : List (Nat × List Rw6.W)} {v : Value} (h : Rown W base rs v) {b : Nat} (hb : b < base) (i : Nat) (u : Value) : Rown (W.setCell ⟨b, i, none⟩ u) base rs v :=
  h.far (grown_setb W b i u) fun j e => .inl (by cases e; exact hb)
theorem RI.blind {w W : World} {t : List UInt8} {dn rest : List (List UInt8)} {frm : Nat} {rs : List (Nat × List Rw6.W)} {v : Value} (h : RI w t dn rest frm rs v W) (u : Value) : RI w t dn rest frm rs v (W.setCell ⟨w.heap.size + 4, 0, none⟩ u) :=
  ⟨h.pcs_, h.sum_, h.rows, h.out.other (by simp) _, h.flt.other (by simp) _, h.row.other (by simp) _, h.frm_.other (by simp) _, h.own.set (by omega) _ _, h.bel.setCell (p := ⟨w.heap.size + 4, 0, none⟩) (by simp) _, by simpa [World.setCell] using h.big, h.cnt⟩
end Go.Proofs.YtkmkhegekonbmaaDoor
