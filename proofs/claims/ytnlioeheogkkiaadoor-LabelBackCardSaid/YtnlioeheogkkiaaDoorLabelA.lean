/- Walks: the functions of package label that compute with words, and those of its reference. -/
import Derived.Test.YtnlioeheogkkiaaDoorProg
import Derived.Test.YtnlioeheogkkiaaDoorWords
import Derived.Test.YtnlioeheogkkiaaDoorLabelSpec
import Derived.Outline
namespace Go.Proofs.YtnlioeheogkkiaaDoor
open Go.RowKit
open Lb

theorem without_any (a b : Int) (w : World) :
    Calls Tryd.prog 27 #[.int .u64 a, .int .u64 b] w fun e w' => e = .returned (.int .u64 (bits .andNot .u64 a b)) ∧ w = w' := by
  go_enter Tryd.func27, Tryd.ntmps27
  go_wp2
  go_ret
  exact ⟨rfl, rfl⟩
theorem below_any (a b : Int) (w : World) :
    Calls Tryd.prog 23 #[.int .u64 a, .int .u64 b] w fun e w' => e = .returned (.bool (belowI a b)) ∧ w = w' := by
  go_enter Tryd.func23, Tryd.ntmps23
  go_wp2
  go_ret
  exact ⟨rfl, rfl⟩
theorem comparable_any (a b : Int) (w : World) :
    Calls Tryd.prog 25 #[.int .u64 a, .int .u64 b] w fun e w' => e = .returned (.bool (belowI a b || belowI b a)) ∧ w = w' := by
  cases h1 : belowI a b <;> have H1 := Lib.hid h1 <;> clear h1
  all_goals
    go_enter Tryd.func25, Tryd.ntmps25
    go_wp2_with (go_at_call 23; refine (below_any _ _ _).mono ?_; rintro e w' ⟨rfl, rfl⟩; try rw [H1.out])
    go_ret
    exact ⟨by first | rfl | simp, rfl⟩
theorem isCategory_any (c : Int) (w : World) :
    Calls Tryd.prog 44 #[.int .i64 c] w fun e w' => e = .returned (.bool (isCat c)) ∧ w = w' := by
  by_cases h : 0 ≤ c
  all_goals
    go_enter Tryd.func44, Tryd.ntmps44
    go_wp2
    go_ret
    exact ⟨ret_bool (by simp [isCat]; try omega), rfl⟩
theorem join_any (v : Value) (l : List Int) (w : World) (h : Slc w v (vals .u64 l)) :
    Calls Tryd.prog 31 #[v] w fun e w' => e = .returned (.int .u64 (joinI l)) ∧ w = w' := by
  obtain ⟨A, cap, rfl, hm, hc⟩ := h.ints
  clear h
  go_enter Tryd.func31, Tryd.ntmps31
  go_wp2
  go_loop [3, 8] (fun t i => ∃ k : Nat, k ≤ l.length ∧ i = .int .i64 k ∧ t = .int .u64 (joinI (l.take k))) (fun _ i => l.length - (intOf i).toNat)
  case atStart => exact ⟨0, Nat.zero_le _, rfl, rfl⟩
  case round =>
    obtain ⟨k, hk, rfl, rfl⟩ := hrel
    by_cases hlt : k < l.length
    · obtain ⟨a, rfl, _, hcell⟩ := hc k hlt
      have hj := Lib.hid (joinI_snoc (l.take k) l[k])
      have ht := Lib.hid (take_snoc l k hlt)
      go_wp2
      go_round
      case rel => exact ⟨k + 1, by omega, by go_num, by rw [ht.out, hj.out]⟩
      case measure => simp [intOf]; omega
    · go_wp2
      go_ret
      exact ⟨by rw [List.take_of_length_le (by omega)]; rfl, rfl⟩
theorem meet_any (v : Value) (l : List Int) (w : World) (h : Slc w v (vals .u64 l)) :
    Calls Tryd.prog 33 #[v] w fun e w' => e = .returned (.int .u64 (meetI l)) ∧ w = w' := by
  obtain ⟨A, cap, rfl, hm, hc⟩ := h.ints
  clear h
  go_enter Tryd.func33, Tryd.ntmps33
  go_wp2
  go_loop [3, 8] (fun t i => ∃ k : Nat, k ≤ l.length ∧ i = .int .i64 k ∧ t = .int .u64 (meetI (l.take k))) (fun _ i => l.length - (intOf i).toNat)
  case atStart => exact ⟨0, Nat.zero_le _, rfl, rfl⟩
  case round =>
    obtain ⟨k, hk, rfl, rfl⟩ := hrel
    by_cases hlt : k < l.length
    · obtain ⟨a, rfl, _, hcell⟩ := hc k hlt
      have hj := Lib.hid (meetI_snoc (l.take k) l[k])
      have ht := Lib.hid (take_snoc l k hlt)
      go_wp2
      go_round
      case rel => exact ⟨k + 1, by omega, by go_num, by rw [ht.out, hj.out]⟩
      case measure => simp [intOf]; omega
    · go_wp2
      go_ret
      exact ⟨by rw [List.take_of_length_le (by omega)]; rfl, rfl⟩
theorem has_any (l c : Int) (w : World) :
    Calls Tryd.prog 14 #[.int .u64 l, .int .i64 c] w fun e w' => e = .returned (if isCat c then .tuple #[.bool (hasI l c), .int .i64 0] else .tuple #[.bool false, .int .i64 2]) ∧ w = w' := by
  cases hc : isCat c
  · go_enter Tryd.func14, Tryd.ntmps14
    go_wp2_with (go_at_call 44; refine (isCategory_any _ _).mono ?_; rintro e w' ⟨rfl, rfl⟩)
    go_ret2
    exact ⟨rfl, rfl⟩
  · have h0 : 0 ≤ c := by simp [isCat] at hc; omega
    have h1 : c ≤ 63 := by simp [isCat] at hc; omega
    go_enter Tryd.func14, Tryd.ntmps14
    go_wp2_with (go_at_call 44; refine (isCategory_any _ _).mono ?_; rintro e w' ⟨rfl, rfl⟩)
    go_ret2
    exact ⟨rfl, rfl⟩
end Go.Proofs.YtnlioeheogkkiaaDoor
