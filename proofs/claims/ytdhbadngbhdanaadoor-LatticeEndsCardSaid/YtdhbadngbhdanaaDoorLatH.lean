/- Walk: the document's own closure of a family. -/
import Derived.Test.YtdhbadngbhdanaaDoorLatG
import Derived.Test.YtdhbadngbhdanaaDoorHeld
import Derived.Deep.RegionHeld3
namespace Go.Proofs.YtdhbadngbhdanaaDoor.Lt
open Go.RowKit

def clStep (out : List Nat) (x : Nat) : List Nat := out.foldl (fun o b => ins o (b ||| x)) (ins out x)
def clGo : List Nat → List Nat → Option (List Nat)
  | out, [] => some out
  | out, x :: l => if 256 < (clStep out x).length then none else clGo (clStep out x) l
def closureR (l : List Nat) : List Nat × Int := if 64 < l.length then ([], 6) else match clGo [] l with | none => ([], 6) | some o => (o, 0)
theorem ins_len (l : List Nat) (x : Nat) : (ins l x).length ≤ l.length + 1 := by
  induction l with
  | nil => exact Nat.le_refl _
  | cons y l ih =>
    unfold ins
    split
    · simpa using ih
    · split
      · simp
      · simp
theorem ins_u64 {l : List Nat} {x : Nat} (h : U64 l) (hx : x < 18446744073709551616) : U64 (ins l x) := by
  induction l with
  | nil => intro z hz; obtain rfl := List.mem_singleton.1 hz; exact hx
  | cons y l ih =>
    have ih2 := ih (fun z hz => h z (by simp [hz]))
    unfold ins
    split
    · intro z hz
      rcases List.mem_cons.1 hz with e | e
      · rw [e]; exact h y (by simp)
      · exact ih2 z e
    · split
      · exact h
      · intro z hz
        rcases List.mem_cons.1 hz with e | e
        · rw [e]; exact hx
        · exact h z e
theorem slc_of_slk {w : World} {v : Value} {us : List Value} (h : Slk w v us) : Slc w v us := by
  rcases h with ⟨rfl, rfl⟩ | ⟨b, o, cap, rfl, h1, h2, h3, h4⟩
  · exact Slc.nil w
  · refine ⟨some ⟨b, o, none⟩, cap, rfl, h2, (fun h => by cases h), fun i hi => ⟨_, rfl, h3, ?_⟩⟩
    rw [plain_add]
    exact h4 i _ (List.getElem?_eq_getElem hi)
theorem Slk_later {w w' : World} {v : Value} {us : List Value} (h : Slk w v us) (hb : Below w.heap.size w w') : Slk w' v us := by
  rcases h with h | h
  · exact .inl h
  · exact .inr (h.later hb)
theorem Slk_drew (w : World) (v : Value) (us : List Value) : Slk w.drew v us = Slk w v us := rfl
theorem heldP {P : Program} {f : FuncId} {args : Array Value} {us : List Value} {W wx : World} {a0 a1 : Addr} {c0 c1 v : Value} {vs : List Value} (hc : ∀ w, Slk w v vs → Calls P f args w fun e w' => ∃ v', e = .returned v' ∧ Slk w' v' us ∧ Below w.heap.size w w')
    (h0 : wx.cell? a0 = some c0) (h1 : wx.cell? a1 = some c1) (hs : Slk wx v vs) (hb : Below W.heap.size W wx) :
    Calls P f args wx fun e w' => ∃ v', e = .returned v' ∧ Slk w' v' us ∧ w'.cell? a0 = some c0 ∧ w'.cell? a1 = some c1 ∧ Slk w' v vs ∧ Below W.heap.size W w' :=
  (hc wx hs).mono fun _ w' ⟨v', he, h2, hh⟩ =>
    have hl : ∀ {p : Addr} {v : Value}, wx.cell? p = some v → w'.cell? p = some v := fun {_ _} h => (hh.cell (World.block_lt_of_cell? wx _ h)).trans h
    ⟨v', he, h2, hl h0, hl h1, Slk_later hs hh, bstep hb hh⟩
attribute [local go_sem] Slk_drew below_drew_eq
attribute [local simp] Slk_drew below_drew_eq
def Out3 (w : World) (us : List Value) (c : Int) (e : Ending) (w' : World) : Prop := ∃ v, e = .returned (.tuple #[v, .int .i64 c]) ∧ Slk w' v us ∧ Below w.heap.size w w'
theorem Out3.of {w : World} {us : List Value} {c : Int} {e : Ending} {w' : World} (v : Value) (h1 : e = .returned (.tuple #[v, .int .i64 c])) (h2 : Slk w' v us) (h3 : Below w.heap.size w w') : Out3 w us c e w' := ⟨v, h1, h2, h3⟩
end Go.Proofs.YtdhbadngbhdanaaDoor.Lt
