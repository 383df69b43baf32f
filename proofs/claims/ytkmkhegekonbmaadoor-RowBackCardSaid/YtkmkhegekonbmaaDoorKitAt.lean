/- Walk: At of the kit. -/
import Derived.Test.YtkmkhegekonbmaaDoorProg
import Derived.Test.YtkmkhegekonbmaaDoorBlk
import Derived.Outline
namespace Go.Proofs.YtkmkhegekonbmaaDoor
open Go.RowKit

/-- A number of a list by its place; 0 where there is none. -/
def atI (l : List Int) (i : Nat) : Int := if h : i < l.length then l[i] else 0
theorem at_any (v : Value) (l : List Int) (w : World) (hv : Slc w v (vals .i64 l)) (i : Nat) :
    Calls Tryd.prog 53 #[v, .int .i64 i] w fun e w' => e = .returned (.int .i64 (atI l i)) ∧ w = w' := by
  obtain ⟨A, cap, rfl, hm, hc⟩ := hv.ints
  by_cases h : i < l.length
  · obtain ⟨a, rfl, _, hcell⟩ := hc i h
    have hx := Lib.hid (show atI l i = l[i] by unfold atI; rw [dif_pos h])
    clear hc hv
    go_enter Tryd.func53, Tryd.ntmps53
    go_wp2
    go_ret
    exact ⟨by rw [hx.out]; rfl, rfl⟩
  · have hx := Lib.hid (show atI l i = 0 by unfold atI; rw [dif_neg h])
    clear hc hv
    go_enter Tryd.func53, Tryd.ntmps53
    go_wp2
    go_ret
    exact ⟨by rw [hx.out]; rfl, rfl⟩
end Go.Proofs.YtkmkhegekonbmaaDoor
