/- Walk: SameTexts of the kit, of two lists that are the same. -/
import Derived.Test.YtdoioaeppepndaaGreatDoorProg
import Derived.Test.YtdoioaeppepndaaGreatDoorBlk
import Derived.Outline
import Derived.Deep.LoopGhost
import Derived.Deep.QuietTactic
import Derived.BigQuiet
namespace Go.Proofs.YtdoioaeppepndaaGreatDoor
open Go.RowKit

theorem sameTexts_same (u v : Value) (l : List ByteArray) (w : World) (hu : Slc w u (l.map Value.string)) (hv : Slc w v (l.map Value.string)) :
    Calls Tryz.prog 38 #[u, v] w fun e w' => e = .returned (.bool true) ∧ ∃ n, w' = w.drewN n := by
  have hlen := hu.len
  simp only [List.length_map] at hlen
  obtain ⟨A, cap, rfl, _, _, hc⟩ := hu
  obtain ⟨A', cap', rfl, _, _, hc'⟩ := hv
  have hll : (l.map Value.string).length = l.length := by simp
  rw [hll]
  have HC := Lib.hid hc
  have HC' := Lib.hid hc'
  clear hc hc' hll
  go_enter Tryz.func38, Tryz.ntmps38
  go_wp2
  go_loopw [5] (fun i wr => ∃ k n : Nat, k ≤ l.length ∧ i = .int .i64 k ∧ wr = w.drewN n) (fun i _ => l.length - (intOf i).toNat)
  case atStart => exact ⟨0, 0, by omega, rfl, rfl⟩
  case round =>
    obtain ⟨k, n, hk, rfl, rfl⟩ := hrel
    by_cases hlt : k < l.length
    · obtain ⟨a, rfl, _, hcell⟩ := HC.out k (by simpa using hlt)
      obtain ⟨a', rfl, _, hcell'⟩ := HC'.out k (by simpa using hlt)
      rw [List.getElem_map] at hcell hcell'
      obtain ⟨x, hx⟩ : ∃ x, x = l[k] := ⟨_, rfl⟩
      rw [← hx] at hcell hcell'
      clear hx
      have hi : (k : Int) < (l.length : Int) := by omega
      go_wp2
      go_quiet (fail)
      go_wp2
      go_roundw
      case rel => exact ⟨k + 1, _, by omega, by go_num, rfl⟩
      case measure => simp [intOf]; omega
    · go_wp2
      go_ret
      exact ⟨rfl, _, rfl⟩
end Go.Proofs.YtdoioaeppepndaaGreatDoor
