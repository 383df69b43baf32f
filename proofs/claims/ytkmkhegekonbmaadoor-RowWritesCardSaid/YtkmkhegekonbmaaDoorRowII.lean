/- Walk: SameRows of the kit, of two lists of rows that are the same. -/
import Derived.Test.YtkmkhegekonbmaaDoorRowHH
import Derived.Outline
import Derived.Deep.LoopGhost
import Derived.Deep.QuietTactic
import Derived.BigQuiet
namespace Go.Proofs.YtkmkhegekonbmaaDoor
open Go.RowKit
open Rw6

set_option maxRecDepth 100000 in
set_option maxHeartbeats 4000000 in
theorem sameRows_same (u v : Value) (rs : List (Int × List Wd)) (w : World) (hu : RSl w u rs) (hv : RSl w v rs) :
    Calls Tryd.prog 14 #[u, v] w fun e w' => e = .returned (.bool true) ∧ ∃ n, w' = w.drewN n := by
  obtain ⟨A, cap, rfl, hcap, hmax, _, hc⟩ := hu.at_
  obtain ⟨A', cap', rfl, hcap', _, _, hc'⟩ := hv.at_
  have HC := Lib.hid hc
  have HC' := Lib.hid hc'
  clear hc hc' hu hv
  go_enter Tryd.func14, Tryd.ntmps14
  go_wp2
  go_loopw [5] (fun i wr => ∃ k n : Nat, k ≤ rs.length ∧ i = .int .i64 (k : Int) ∧ wr = w.drewN n) (fun i _ => rs.length - (intOf i).toNat)
  case atStart => exact ⟨0, 0, by omega, rfl, rfl⟩
  case round =>
    obtain ⟨k, n, hk, rfl, rfl⟩ := hrel
    by_cases hlt : k < rs.length
    · obtain ⟨a, u, rfl, _, c0, c1, hu⟩ := HC.out k hlt
      obtain ⟨a', u', rfl, _, c0', c1', hu'⟩ := HC'.out k hlt
      obtain ⟨ws, hws⟩ : ∃ x, x = rs[k].2 := ⟨_, rfl⟩
      obtain ⟨at_, hat⟩ : ∃ x, x = rs[k].1 := ⟨_, rfl⟩
      rw [← hws] at hu hu'
      rw [← hat] at c0 c0'
      clear hws hat
      obtain ⟨A2, cap2, rfl, hcp, hm2, _, he⟩ := hu.at_
      obtain ⟨A2', cap2', rfl, hcp', _, _, he'⟩ := hu'.at_
      rw [← add_at _ _ _ (by decide)] at c1 c1'
      have HE := Lib.hid he
      have HE' := Lib.hid he'
      have hi : (k : Int) < (rs.length : Int) := by omega
      have hb0 : (at_ != at_) = false := by simp
      have hb1 : ((ws.length : Int) != (ws.length : Int)) = false := by simp
      clear hu hu' he he'
      go_wp2
      go_quiet (fail)
      go_wp2
      go_loopw [6] (fun j wr => ∃ q m : Nat, q ≤ ws.length ∧ j = .int .i64 (q : Int) ∧ wr = w.drewN m) (fun j _ => ws.length - (intOf j).toNat)
      case atStart => exact ⟨0, _, by omega, rfl, World.drewN_drewN _ _ _⟩
      case round =>
        obtain ⟨q, m, hq, rfl, rfl⟩ := hrel
        by_cases hlt2 : q < ws.length
        · obtain ⟨b, rfl, _, d0, d1, d2⟩ := HE.out q hlt2
          obtain ⟨b', rfl, _, d0', d1', d2'⟩ := HE'.out q hlt2
          rw [← add_at _ _ _ (by decide)] at d1 d1' d2 d2'
          obtain ⟨x, hx⟩ : ∃ x, x = ws[q] := ⟨_, rfl⟩
          rw [← hx] at d0 d1 d2 d0' d1' d2'
          have hi2 : (q : Int) < (ws.length : Int) := by omega
          clear hx HE HE' HC HC'
          go_wp2
          go_quiet (fail)
          go_wp2
          exact ⟨⟨q + 1, _, by omega, by go_num, rfl⟩, by simp [intOf]; omega⟩
        · have hi2 : ¬ (q : Int) < (ws.length : Int) := by omega
          clear HE HE' HC HC'
          go_wp2
          go_roundw
          case rel => exact ⟨k + 1, _, by omega, by go_num, rfl⟩
          case measure => simp [intOf]; omega
    · go_wp2
      go_ret
      exact ⟨rfl, _, rfl⟩
end Go.Proofs.YtkmkhegekonbmaaDoor
