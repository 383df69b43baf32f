/- Walk: the program's iterator over a node and all nodes in it, that ranges over itself. -/
import Derived.Test.YtdoioaeppepndaaGreatDoorProg
import Derived.Test.YtdoioaeppepndaaGreatDoorAstSm
import Derived.Test.YtdoioaeppepndaaGreatDoorAstW
import Derived.Test.YtdoioaeppepndaaGreatDoorRg
import Derived.Test.YtdoioaeppepndaaGreatDoorWfSpec
import Derived.Deep.LoopGhost
namespace Go.Proofs.YtdoioaeppepndaaGreatDoor
open Go.RowKit Go.Shelf
open A8 W10
attribute [local go_sem] Oper.semAt_some

/-- Boxes that nobody turns: of nodes, of queries, of what takes the values. -/
def KT : List TypeId := [31, 35, 106, 161, 159, 160]
/-- What a yield's mark is. -/
def markD (D : Nat) : Deferred := { target := .collected D, args := #[] }
theorem bx_keep {W W' : World} {b m B : Nat} {t u : TypeId} {us : List Value} (h : Bx W b u us) (hk : KeepW KT t m B W W') (hu : u ∈ KT) : Bx W' b u us := hk.same _ _ h (.inr (.inl ⟨_, _, _, rfl, hu⟩))
theorem bx_keepT {W W' : World} {b m B : Nat} {t : TypeId} {us : List Value} (h : Bx W b t us) (hk : KeepW KT t m B W W') (hB : B ≤ b) : Bx W' b t us := hk.same _ _ h (.inr (.inr ⟨hB, .inr ⟨_, _, rfl⟩⟩))
theorem bx_turn {W W' : World} {b B : Nat} {t u : TypeId} {us : List Value} (h : Bx W b u us) (hk : Turn t B W W') (hB : b < B ∨ u ≠ t) : Bx W' b u us := hk.same _ _ h (hB.imp id fun hu => ⟨_, _, _, rfl, hu⟩)
theorem sameb_keep {w0 W W' : World} {B : Nat} {t : TypeId} (h : SameB w0.heap.size w0 W) (hk : KeepW KT t w0.heap.size B W W') : SameB w0.heap.size w0 W' :=
  ⟨Nat.le_trans h.1 hk.size, fun k hlt => by
    have e := h.2 k hlt
    rw [Array.getElem?_eq_getElem hlt] at e
    rw [hk.same k _ e (.inl hlt), Array.getElem?_eq_getElem hlt]⟩
theorem sameb_turn {w0 W W' : World} {B : Nat} {t : TypeId} (h : SameB w0.heap.size w0 W) (hk : Turn t B W W') (hB : w0.heap.size ≤ B) : SameB w0.heap.size w0 W' :=
  ⟨Nat.le_trans h.1 hk.size, fun k hlt => by
    have e := h.2 k hlt
    rw [Array.getElem?_eq_getElem hlt] at e
    rw [hk.same k _ e (.inl (by omega)), Array.getElem?_eq_getElem hlt]⟩
theorem bx_noncells {W W' : World} {b : Nat} {u : TypeId} {us : List Value} {row : Option Nat} (h : Bx W b u us) (hg : W.grownBy W' row) (hr : ∀ j, row = some j → ∃ o : Obj, W.heap[j]? = some o ∧ o.isCells = false) : Bx W' b u us := by
  refine (hg.block b h.lt fun e => ?_).trans h
  obtain ⟨o, ho, hc⟩ := hr b e.symm
  rw [h] at ho
  cases ho
  cases hc
theorem isNot_any (T : Tr) (w : World) : Calls Tryz.prog 118 #[.agg T.row.toArray] w fun e w' => e = .returned (.bool (isNotB T.nd)) ∧ Below w.heap.size w w' := by
  obtain ⟨k, mn, mx, g, sk, ks⟩ := T
  have hk2 : isNotB (Tr.nd (.mk k mn mx g sk ks)) = (k == 2) := by rw [nd_mk]; rfl
  rw [hk2]
  clear hk2
  simp only [Tr.row]
  go_enter Tryz.func118, Tryz.ntmps118
  go_wp2
  go_ret
  exact ⟨rfl, b1 _ _⟩
/-- What makes the iterator. -/
theorem wnodes_any (T : Tr) (w : World) :
    Calls Tryz.prog 122 #[.agg T.row.toArray] w fun e w' => e = .returned (.func (.func 136) #[] #[.pointer (some ⟨w.heap.size, 0, none⟩)]) ∧ w' = w.alloc (.cells T.row.toArray 31) := by
  obtain ⟨k, mn, mx, g, sk, ks⟩ := T
  simp only [Tr.row]
  go_enter Tryz.func122, Tryz.ntmps122
  go_wp2
  go_ret
  exact ⟨rfl, rfl⟩
theorem wleaves_any (T : Tr) (w : World) :
    Calls Tryz.prog 90 #[.agg T.row.toArray] w fun e w' => e = .returned (.func (.func 121) #[] #[.pointer (some ⟨w.heap.size, 0, none⟩)]) ∧ w' = w.alloc (.cells T.row.toArray 31) := by
  obtain ⟨k, mn, mx, g, sk, ks⟩ := T
  simp only [Tr.row]
  go_enter Tryz.func90, Tryz.ntmps90
  go_wp2
  go_ret
  exact ⟨rfl, rfl⟩
theorem wnames_any (T : Tr) (w : World) :
    Calls Tryz.prog 84 #[.agg T.row.toArray] w fun e w' => e = .returned (.func (.func 117) #[] #[.pointer (some ⟨w.heap.size, 0, none⟩)]) ∧ w' = w.alloc (.cells T.row.toArray 31) := by
  obtain ⟨k, mn, mx, g, sk, ks⟩ := T
  simp only [Tr.row]
  go_enter Tryz.func84, Tryz.ntmps84
  go_wp2
  go_ret
  exact ⟨rfl, rfl⟩
end Go.Proofs.YtdoioaeppepndaaGreatDoor
