/- Walks: the functions of package label that compute with words, and those of its reference. -/
import Derived.Test.YtlembnpplnbagaaProg
import Derived.Test.YtlembnpplnbagaaWords
import Derived.Test.YtlembnpplnbagaaLabelSpec
import Derived.Outline
namespace Go.Proofs.Ytlembnpplnbagaa
open Go.RowKit
open Lb

theorem without_any (a b : Int) (w : World) :
    Calls Try.prog 31 #[.int .u64 a, .int .u64 b] w fun e w' => e = .returned (.int .u64 (bits .andNot .u64 a b)) ∧ w = w' := by
  go_enter Try.func31, Try.ntmps31
  go_wp2
  go_ret
  exact ⟨rfl, rfl⟩
theorem below_any (a b : Int) (w : World) :
    Calls Try.prog 25 #[.int .u64 a, .int .u64 b] w fun e w' => e = .returned (.bool (belowI a b)) ∧ w = w' := by
  go_enter Try.func25, Try.ntmps25
  go_wp2
  go_ret
  exact ⟨rfl, rfl⟩
theorem join_any (v : Value) (l : List Int) (w : World) (h : Slc w v (vals .u64 l)) :
    Calls Try.prog 29 #[v] w fun e w' => e = .returned (.int .u64 (joinI l)) ∧ w = w' := by
  obtain ⟨A, cap, rfl, hm, hc⟩ := h.ints
  clear h
  go_enter Try.func29, Try.ntmps29
  go_wp2
  go_loop [3, 8] (fun t i => ∃ k : Nat, k ≤ l.length ∧ i = .int .i64 k ∧ t = .int .u64 (joinI (l.take k))) (fun _ i => l.length - (intOf i).toNat)
  case atStart => exact ⟨0, Nat.zero_le _, rfl, rfl⟩
  case round =>
    obtain ⟨k, hk, rfl, rfl⟩ := hrel
    by_cases hlt : k < l.length
    · obtain ⟨a, rfl, _, hcell⟩ := hc k hlt
      have hj := Lib.hid (joinI_snoc (l.take k) l[k])
      have ht := Lib.hid (take_snoc l k hlt)
      go_wp2
      go_round
      case rel => exact ⟨k + 1, by omega, by go_num, by rw [ht.out, hj.out]⟩
      case measure => simp [intOf]; omega
    · go_wp2
      go_ret
      exact ⟨by rw [List.take_of_length_le (by omega)]; rfl, rfl⟩
theorem meet_any (v : Value) (l : List Int) (w : World) (h : Slc w v (vals .u64 l)) :
    Calls Try.prog 30 #[v] w fun e w' => e = .returned (.int .u64 (meetI l)) ∧ w = w' := by
  obtain ⟨A, cap, rfl, hm, hc⟩ := h.ints
  clear h
  go_enter Try.func30, Try.ntmps30
  go_wp2
  go_loop [3, 8] (fun t i => ∃ k : Nat, k ≤ l.length ∧ i = .int .i64 k ∧ t = .int .u64 (meetI (l.take k))) (fun _ i => l.length - (intOf i).toNat)
  case atStart => exact ⟨0, Nat.zero_le _, rfl, rfl⟩
  case round =>
    obtain ⟨k, hk, rfl, rfl⟩ := hrel
    by_cases hlt : k < l.length
    · obtain ⟨a, rfl, _, hcell⟩ := hc k hlt
      have hj := Lib.hid (meetI_snoc (l.take k) l[k])
      have ht := Lib.hid (take_snoc l k hlt)
      go_wp2
      go_round
      case rel => exact ⟨k + 1, by omega, by go_num, by rw [ht.out, hj.out]⟩
      case measure => simp [intOf]; omega
    · go_wp2
      go_ret
      exact ⟨by rw [List.take_of_length_le (by omega)]; rfl, rfl⟩
end Go.Proofs.Ytlembnpplnbagaa
