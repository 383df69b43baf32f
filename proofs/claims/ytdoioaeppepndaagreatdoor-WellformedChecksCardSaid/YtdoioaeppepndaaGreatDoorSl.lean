/- Words, more: slices of elements of many cells; rows of the call's own; what turns leave alone. Nothing here speaks of the program. -/
import Derived.Test.YtdoioaeppepndaaGreatDoorBlk
import Derived.Deep.AppendLies
import Derived.RangeFuncCalls
namespace Go.Proofs.YtdoioaeppepndaaGreatDoor
open Go.RowKit

theorem flat_get {α : Type} {f : α → List Value} {n : Nat} (hf : ∀ x, (f x).length = n) : ∀ (l : List α) (k : Nat) (h : k < l.length) (j : Nat), j < n → (l.flatMap f)[k * n + j]? = (f l[k])[j]? := by
  intro l
  induction l with
  | nil => intro k h; simp at h
  | cons x xs ih =>
    intro k h j hj
    rw [List.flatMap_cons]
    cases k with
    | zero =>
      rw [Nat.zero_mul, Nat.zero_add, List.getElem?_append_left (by rw [hf]; exact hj)]
      rfl
    | succ k =>
      rw [List.getElem?_append_right (by rw [hf, Nat.succ_mul]; omega), hf, List.getElem_cons_succ, ← ih k (by simpa using h) j hj]
      congr 1
      rw [Nat.succ_mul]
      omega
/-- The slice v of n elements of sz cells each holds the cells us. -/
def Sl (w : World) (sz n : Nat) (v : Value) (us : List Value) : Prop :=
  us.length = n * sz ∧ n ≤ maxLen ∧ ∃ (A : Option Addr) (cap : Nat), v = .slice A n cap ∧ n ≤ cap ∧ (A = none → cap = 0) ∧ ∀ (i : Nat) (u : Value), us[i]? = some u → ∃ a, A = some a ∧ a.block < w.heap.size ∧ w.cell? (a.add i) = some u
theorem Sl.later {w w' : World} {sz n : Nat} {v : Value} {us : List Value} (h : Sl w sz n v us) (hb : Below w.heap.size w w') : Sl w' sz n v us := by
  obtain ⟨h1, h2, A, cap, h3, h4, h5, h6⟩ := h
  refine ⟨h1, h2, A, cap, h3, h4, h5, fun i u hu => ?_⟩
  obtain ⟨a, ha, hlt, hc⟩ := h6 i u hu
  exact ⟨a, ha, Nat.lt_of_lt_of_le hlt hb.size, (hb.cell (p := a.add i) (by rw [add_block]; exact hlt)).trans hc⟩
theorem Sl.nil (w : World) (sz : Nat) : Sl w sz 0 (.slice none 0 0) [] := ⟨by simp, by unfold maxLen; omega, none, 0, rfl, Nat.le_refl _, fun _ => rfl, fun i u h => by simp at h⟩
theorem Sl.of_own {w : World} {base sz n : Nat} {e : TypeId} {v : Value} {us : List Value} (h : w.ownsRow base e sz v n us) : Sl w sz n v us := by
  have hl := h.1
  have hlt := h.lt
  have hcell := fun g => h.cells (g := g)
  rcases h.2 with ⟨rfl, rfl⟩ | ⟨g, cap, cur, rfl, _, _, h1, h2, _⟩
  · obtain rfl : us = [] := List.eq_nil_of_length_eq_zero (by simpa using hl)
    exact Sl.nil w sz
  · refine ⟨hl, Nat.le_trans h1 h2, some ⟨g, 0, none⟩, cap, rfl, h1, (fun h => by cases h), fun i u hu => ⟨_, rfl, (hlt g rfl).2, hcell g rfl i u hu⟩⟩
theorem blk_cells {w : World} {b : Nat} {us : List Value} (h : Blk w b us) : ∀ (j : Nat) (u : Value), us[j]? = some u → w.cell? ((⟨b, 0, none⟩ : Addr).add j) = some u := fun j u hu => by
  have e : (⟨b, 0, none⟩ : Addr).add j = ⟨b, j, none⟩ := by unfold Addr.add; split <;> simp_all
  rw [e]
  exact h.cell j u hu
/-- A slice literal: a block of the call's own. -/
theorem Sl.lit {w : World} {b : Nat} {us : List Value} (h : Blk w b us) (sz n : Nat) (hl : us.length = n * sz) (hm : n ≤ 1000000) : Sl w sz n (.slice (some ⟨b, 0, none⟩) n n) us :=
  ⟨hl, by unfold maxLen; omega, some ⟨b, 0, none⟩, n, rfl, Nat.le_refl _, (fun h => by cases h), fun i u hu => ⟨_, rfl, h.lt, blk_cells h i u hu⟩⟩
theorem own_mono {w : World} {base base' sz n : Nat} {e : TypeId} {v : Value} {xs : List Value} (h : w.ownsRow base e sz v n xs) (hb : base' ≤ base) : w.ownsRow base' e sz v n xs := by
  refine ⟨h.1, ?_⟩
  rcases h.2 with ⟨h1, h2⟩ | ⟨g, cap, cur, h1, h2, h3⟩
  · exact .inl ⟨h1, h2⟩
  · exact .inr ⟨g, cap, cur, h1, Nat.le_trans hb h2, h3⟩
theorem own_form {w : World} {base sz n : Nat} {e : TypeId} {v : Value} {xs : List Value} (h : w.ownsRow base e sz v n xs) : ∃ A c, v = .slice A n c := by
  rcases h.2 with ⟨h1, h2⟩ | ⟨g, cap, cur, h1, h2, h3⟩
  · exact ⟨none, 0, by rw [h1, h2]⟩
  · exact ⟨_, cap, h1⟩
theorem grown_setb (w : World) (b i : Nat) (u : Value) : w.grownBy (w.setCell ⟨b, i, none⟩ u) (some b) :=
  ⟨rfl, rfl, rfl, by simp [World.setCell], fun k _ hne => Below.heap_setCell _ _ _ _ (fun e => hne (by rw [e]))⟩
theorem own_set {w : World} {base sz n : Nat} {e : TypeId} {v : Value} {us : List Value} (h : w.ownsRow base e sz v n us) {b : Nat} (hb : b < base) (i : Nat) (u : Value) : (w.setCell ⟨b, i, none⟩ u).ownsRow base e sz v n us :=
  h.kept (grown_setb w b i u) (.inr fun e => by have := (h.lt _ e).1; omega)
theorem grown_below (w w' : World) (h : Below w.heap.size w w') : w.grownBy w' none := ⟨h.os, h.tape, h.output, h.size, fun k hk _ => h.block k hk⟩
theorem own_later {w w' : World} {base sz n : Nat} {e : TypeId} {v : Value} {us : List Value} (h : w.ownsRow base e sz v n us) (hb : Below w.heap.size w w') : w'.ownsRow base e sz v n us := by
  refine h.kept (grown_below _ _ hb) ?_
  rcases h.2 with ⟨rfl, _⟩ | ⟨g, cap, cur, rfl, _⟩
  · exact .inl rfl
  · exact .inr (by intro e; cases e)
theorem Blk.grown {w w' : World} {b : Nat} {us : List Value} {row : Option Nat} (h : Blk w b us) (hg : w.grownBy w' row) (hne : some b ≠ row) : Blk w' b us :=
  ⟨Nat.lt_of_lt_of_le h.lt hg.size, fun i v hv => (hg.cell_far ⟨b, i, none⟩ h.lt hne).trans (h.cell i v hv), fun i v hv => (hg.frozen_far ⟨b, i, none⟩ h.lt hne).trans (h.fr i v hv)⟩
/-- A row of the call's own is kept where what turns is no cells, or lies below it. -/
theorem own_far {W W' : World} {base sz n : Nat} {e : TypeId} {v : Value} {xs : List Value} {row : Option Nat} (h : W.ownsRow base e sz v n xs) (hg : W.grownBy W' row) (hr : ∀ j, row = some j → j < base ∨ ∃ o : Obj, W.heap[j]? = some o ∧ o.isCells = false) : W'.ownsRow base e sz v n xs := by
  refine h.kept hg ?_
  rcases h.2 with ⟨rfl, _⟩ | ⟨g, cap, cur, rfl, hb, hh, _⟩
  · exact .inl rfl
  · refine .inr fun e => ?_
    rcases hr g (by rw [← e]; rfl) with h1 | ⟨o, ho, hc⟩
    · omega
    · rw [hh] at ho; cases ho; cases hc
theorem own_cells {W : World} {base sz n : Nat} {e : TypeId} {v : Value} {xs : List Value} (h : W.ownsRow base e sz v n xs) : ∀ (j : Nat) (o : Obj), v.ownBlock = some j → W.heap[j]? = some o → o.isCells = true := by
  intro j o hj ho
  rcases h.2 with ⟨rfl, _⟩ | ⟨g, cap, cur, rfl, hb, hh, _⟩
  · cases hj
  · have : g = j := by simpa [Value.ownBlock] using hj
    subst this
    rw [hh] at ho
    cases ho
    rfl
theorem cells_of_cell {W : World} {b i : Nat} {v : Value} (h : W.cell? ⟨b, i, none⟩ = some v) : ∃ o : Obj, W.heap[b]? = some o ∧ o.isCells = true := by
  cases hh : W.heap[b]? with
  | none => simp [World.cell?, hh] at h
  | some o =>
    refine ⟨o, rfl, ?_⟩
    cases o <;> simp_all [World.cell?, Obj.isCells]
theorem blk_noncells {W W' : World} {b : Nat} {us : List Value} {row : Option Nat} (hne : us ≠ []) (h : Blk W b us) (hg : W.grownBy W' row) (hr : ∀ j, row = some j → ∃ o : Obj, W.heap[j]? = some o ∧ o.isCells = false) : Blk W' b us := by
  refine h.grown hg fun e => ?_
  obtain ⟨o, ho, hc⟩ := hr b e.symm
  cases us with
  | nil => exact hne rfl
  | cons u us =>
    obtain ⟨o', ho', hc'⟩ := cells_of_cell (h.cell 0 u rfl)
    rw [ho] at ho'
    cases ho'
    rw [hc] at hc'
    cases hc'
theorem blk_put {W : World} {b D : Nat} {us : List Value} {o o' : Obj} (hne : us ≠ []) (h : Blk W b us) (hK : W.heap[D]? = some o) (ho : o.isCells = false) : Blk (W.putObj D o') b us :=
  blk_noncells hne h (grownBy_putObj' W D o') fun j e => by cases e; exact ⟨o, hK, ho⟩
theorem below_put {w W : World} {D : Nat} {o o' : Obj} (hB : Below w.heap.size w W) (_hK : W.heap[D]? = some o) (hD : w.heap.size ≤ D) : Below w.heap.size w (W.putObj D o') :=
  hB.grown (grownBy_putObj' W D o') hB.size fun k e => by cases e; exact hD
theorem own_put {W : World} {base D sz n : Nat} {e : TypeId} {v : Value} {xs : List Value} {o o' : Obj} (h : W.ownsRow base e sz v n xs) (hK : W.heap[D]? = some o) (ho : o.isCells = false) : (W.putObj D o').ownsRow base e sz v n xs :=
  own_far h (grownBy_putObj' W D o') fun j e => .inr (by cases e; exact ⟨o, hK, ho⟩)
theorem own_block_ne {w : World} {b1 b2 s1 s2 n1 n2 : Nat} {e1 e2 : TypeId} {v1 v2 : Value} {x1 x2 : List Value} (h1 : w.ownsRow b1 e1 s1 v1 n1 x1) (h2 : w.ownsRow b2 e2 s2 v2 n2 x2) (hne : e1 ≠ e2) : v1.ownBlock = none ∨ v1.ownBlock ≠ v2.ownBlock := by
  rcases h1.2 with ⟨rfl, _⟩ | ⟨g1, c1, cur1, rfl, _, hh1, _⟩
  · exact .inl rfl
  · refine .inr fun e => ?_
    rcases h2.2 with ⟨rfl, _⟩ | ⟨g2, c2, cur2, rfl, _, hh2, _⟩
    · cases e
    · have : g1 = g2 := by simpa [Value.ownBlock] using e
      subst this
      rw [hh1] at hh2
      injection hh2 with hh2
      injection hh2 with _ ht
      exact hne ht
end Go.Proofs.YtdoioaeppepndaaGreatDoor
