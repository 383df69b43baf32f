/- What is the same. -/
import Derived.Test.YtdoioaeppepndaaGreatDoorAstOne
import Derived.Test.YtdoioaeppepndaaGreatDoorAstThr
import Derived.Deep.RegionWith
namespace Go.Proofs.YtdoioaeppepndaaGreatDoor.A8
mutual
def Nd.dec : (x y : Nd) → Decidable (x = y)
  | .mk k mn mx a ks, .mk k' mn' mx' a' ks' =>
    match Nd.decL ks ks' with
    | .isTrue h => if h2 : k = k' ∧ mn = mn' ∧ mx = mx' ∧ a = a' then .isTrue (by rw [h, h2.1, h2.2.1, h2.2.2.1, h2.2.2.2]) else .isFalse (fun e => h2 (by cases e; exact ⟨rfl, rfl, rfl, rfl⟩))
    | .isFalse h => .isFalse (fun e => h (by cases e; rfl))
def Nd.decL : (x y : List Nd) → Decidable (x = y)
  | [], [] => .isTrue rfl
  | [], _ :: _ => .isFalse (fun e => by cases e)
  | _ :: _, [] => .isFalse (fun e => by cases e)
  | a :: r, b :: s =>
    match Nd.dec a b with
    | .isTrue h => match Nd.decL r s with
      | .isTrue h2 => .isTrue (by rw [h, h2])
      | .isFalse h2 => .isFalse (fun e => h2 (by cases e; rfl))
    | .isFalse h => .isFalse (fun e => h (by cases e; rfl))
end
instance : DecidableEq Nd := Nd.dec
/-- Whether two queries are equal. -/
def sameQ (a b : Qu) : Bool := decide (a.p = b.p) && decide (a.wi = b.wi) && decide (a.hv = b.hv) && decide (a.em = b.em)
theorem sameQ_iff (a b : Qu) : sameQ a b = true ↔ a = b := by
  obtain ⟨p, w, h, e⟩ := a
  obtain ⟨p', w', h', e'⟩ := b
  simp only [sameQ, Bool.and_eq_true, decide_eq_true_eq, Qu.mk.injEq, and_assoc]
theorem sameQ_refl (a : Qu) : sameQ a a = true := (sameQ_iff a a).2 rfl
theorem sameQ_symm (a b : Qu) : sameQ b a = sameQ a b := by
  rw [Bool.eq_iff_iff, sameQ_iff, sameQ_iff]
  exact eq_comm
end Go.Proofs.YtdoioaeppepndaaGreatDoor.A8
namespace Go.Proofs.YtdoioaeppepndaaGreatDoor
open Go.RowKit
open A8 Tk7

end Go.Proofs.YtdoioaeppepndaaGreatDoor
