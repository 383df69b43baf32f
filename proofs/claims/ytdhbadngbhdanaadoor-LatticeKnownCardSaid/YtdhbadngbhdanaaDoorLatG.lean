/- Walk: how the document puts a label into an ascending list. -/
import Derived.Test.YtdhbadngbhdanaaDoorLatF
namespace Go.Proofs.YtdhbadngbhdanaaDoor.Lt
open Go.RowKit

/-- Nil, or a slice at a plain address with room for its length. -/
def Slk (w : World) (v : Value) (us : List Value) : Prop := (v = .slice none 0 0 ∧ us = []) ∨ Sln w v us
theorem plain_add (b o i : Nat) : (⟨b, o, none⟩ : Addr).add i = ⟨b, o + i, none⟩ := by unfold Addr.add; split <;> simp_all
theorem sln_of_own {w : World} {base n : Nat} {e : TypeId} {v : Value} {us : List Value} (h : w.ownsRow base e 1 v n us) (hne : v ≠ .slice none 0 0) : Sln w v us := by
  have hl : us.length = n := by have := h.1; omega
  have h2 := h.2
  rcases h2 with ⟨hv, _⟩ | ⟨g, cap, cur, hv, _, hgb, hnc, hcm, _⟩
  · exact absurd hv hne
  · subst hv
    refine ⟨g, 0, cap, by rw [hl], by omega, by omega, (Array.getElem?_eq_some_iff.1 hgb).1, fun i u hu => ?_⟩
    have hx := h.cells (g := g) rfl i u hu
    rw [Nat.zero_add]
    rw [plain_add, Nat.zero_add] at hx
    exact hx
end Go.Proofs.YtdhbadngbhdanaaDoor.Lt
