/- Walks: Of of package label, and the functions of its reference that make no slices. -/
import Derived.Test.YtnlioeheogkkiaaDoorLabelA
namespace Go.Proofs.YtnlioeheogkkiaaDoor
open Go.RowKit
open Lb

theorem ofI_bad {l : List Int} {k : Nat} (h : k < l.length) (hc : isCat l[k] = false) : ofI l = (0, 2) := by
  unfold ofI
  rw [if_neg]
  intro ha
  have := List.all_eq_true.1 ha l[k] (List.getElem_mem h)
  rw [hc] at this
  cases this
theorem ofI_good {l : List Int} (h : l.all isCat = true) : ofI l = (orAll l, 0) := by unfold ofI; rw [if_pos h]
theorem all_take_succ {l : List Int} {k : Nat} (h : k < l.length) (ha : (l.take k).all isCat = true) (hc : isCat l[k] = true) : (l.take (k + 1)).all isCat = true := by
  rw [take_snoc l k h, List.all_append, ha]; simp [hc]
theorem isCat_iff {c : Int} : isCat c = true ↔ 0 ≤ c ∧ c ≤ 63 := by simp [isCat]

theorem of_any (v : Value) (l : List Int) (w : World) (h : Slc w v (vals .i64 l)) :
    Calls Tryd.prog 12 #[v] w fun e w' => e = .returned (.tuple #[.int .u64 (ofI l).1, .int .i64 (ofI l).2]) ∧ w = w' := by
  obtain ⟨A, cap, rfl, hm, hc⟩ := h.ints
  clear h
  go_enter Tryd.func12, Tryd.ntmps12
  go_wp2
  go_loop [4, 9] (fun t i => ∃ k : Nat, k ≤ l.length ∧ (l.take k).all isCat = true ∧ i = .int .i64 k ∧ t = .int .u64 (orAll (l.take k))) (fun _ i => l.length - (intOf i).toNat)
  case atStart => exact ⟨0, Nat.zero_le _, rfl, rfl, rfl⟩
  case round =>
    obtain ⟨k, hk, hall, rfl, rfl⟩ := hrel
    have hall' := Lib.hid hall
    clear hall
    by_cases hlt : k < l.length
    · obtain ⟨a, rfl, _, hcell⟩ := hc k hlt
      clear hc
      by_cases hcat : isCat l[k] = true
      · have h0 := (isCat_iff.1 hcat).1
        have h1 := (isCat_iff.1 hcat).2
        have hj := Lib.hid (orAll_snoc (l.take k) l[k])
        have ht := Lib.hid (take_snoc l k hlt)
        have hn := Lib.hid (all_take_succ hlt hall'.out hcat)
        go_wp2_with (go_at_call 44; refine (isCategory_any _ _).mono ?_; rintro e w' ⟨rfl, rfl⟩)
        go_round
        case rel => exact ⟨k + 1, by omega, hn.out, by go_num, by rw [ht.out, hj.out]; rfl⟩
        case measure => simp [intOf]; omega
      · have hcat' : isCat l[k] = false := by simpa using hcat
        have hb := Lib.hid (ofI_bad hlt hcat')
        go_wp2_with (go_at_call 44; refine (isCategory_any _ _).mono ?_; rintro e w' ⟨rfl, rfl⟩)
        go_ret2
        exact ⟨by rw [hb.out]; rfl, rfl⟩
    · rw [List.take_of_length_le (by omega)] at hall'
      have hg := Lib.hid (ofI_good hall'.out)
      go_wp2
      go_ret2
      exact ⟨by rw [hg.out, List.take_of_length_le (by omega)]; rfl, rfl⟩
theorem refOf_any (v : Value) (l : List Int) (w : World) (h : Slc w v (vals .i64 l)) :
    Calls Tryd.prog 13 #[v] w fun e w' => e = .returned (.tuple #[.int .u64 (ofI l).1, .int .i64 (ofI l).2]) ∧ w = w' := by
  obtain ⟨A, cap, rfl, hm, hc⟩ := h.ints
  clear h
  go_enter Tryd.func13, Tryd.ntmps13
  go_wp2
  go_loop [4, 5] (fun t i => ∃ k : Nat, k ≤ l.length ∧ (l.take k).all isCat = true ∧ i = .int .i64 k ∧ t = .int .u64 (orAll (l.take k))) (fun _ i => l.length - (intOf i).toNat)
  case atStart => exact ⟨0, Nat.zero_le _, rfl, rfl, rfl⟩
  case round =>
    obtain ⟨k, hk, hall, rfl, rfl⟩ := hrel
    have hall' := Lib.hid hall
    clear hall
    by_cases hlt : k < l.length
    · obtain ⟨a, rfl, _, hcell⟩ := hc k hlt
      clear hc
      by_cases hcat : isCat l[k] = true
      · have h0 := (isCat_iff.1 hcat).1
        have h1 := (isCat_iff.1 hcat).2
        have hj := Lib.hid (orAll_snoc (l.take k) l[k])
        have ht := Lib.hid (take_snoc l k hlt)
        have hn := Lib.hid (all_take_succ hlt hall'.out hcat)
        clear hcat
        go_wp2
        go_round
        case rel => exact ⟨k + 1, by omega, hn.out, by go_num, by rw [ht.out, hj.out]; rfl⟩
        case measure => simp [intOf]; omega
      · have hcat' : isCat l[k] = false := by simpa using hcat
        have hb := Lib.hid (ofI_bad hlt hcat')
        have hneg : ¬ (0 ≤ l[k] ∧ l[k] ≤ 63) := fun h => hcat (isCat_iff.2 h)
        clear hcat hcat'
        by_cases h0 : 0 ≤ l[k]
        · have h1 : ¬ l[k] ≤ 63 := fun h => hneg ⟨h0, h⟩
          clear hneg
          go_wp2
          go_ret2
          exact ⟨by rw [hb.out]; rfl, rfl⟩
        · clear hneg
          go_wp2
          go_ret2
          exact ⟨by rw [hb.out]; rfl, rfl⟩
    · rw [List.take_of_length_le (by omega)] at hall'
      have hg := Lib.hid (ofI_good hall'.out)
      go_wp2
      go_ret2
      exact ⟨by rw [hg.out, List.take_of_length_le (by omega)]; rfl, rfl⟩
theorem refIn_any (l c : Int) (w : World) (h0 : 0 ≤ c) (h1 : c ≤ 63) :
    Calls Tryd.prog 45 #[.int .u64 l, .int .i64 c] w fun e w' => e = .returned (.bool (hasI l c)) ∧ w = w' := by
  go_enter Tryd.func45, Tryd.ntmps45
  go_wp2
  go_ret
  exact ⟨rfl, rfl⟩
theorem refHas_any (l c : Int) (w : World) :
    Calls Tryd.prog 15 #[.int .u64 l, .int .i64 c] w fun e w' => e = .returned (if isCat c then .tuple #[.bool (hasI l c), .int .i64 0] else .tuple #[.bool false, .int .i64 2]) ∧ w = w' := by
  cases hc : isCat c
  · have hneg : ¬ (0 ≤ c ∧ c ≤ 63) := fun h => by rw [isCat_iff.2 h] at hc; cases hc
    by_cases h0 : 0 ≤ c
    · have h1 : ¬ c ≤ 63 := fun h => hneg ⟨h0, h⟩
      clear hneg hc
      go_enter Tryd.func15, Tryd.ntmps15
      go_wp2
      go_ret2
      exact ⟨rfl, rfl⟩
    · clear hneg hc
      go_enter Tryd.func15, Tryd.ntmps15
      go_wp2
      go_ret2
      exact ⟨rfl, rfl⟩
  · have h0 := (isCat_iff.1 hc).1
    have h1 := (isCat_iff.1 hc).2
    clear hc
    go_enter Tryd.func15, Tryd.ntmps15
    go_wp2_with (go_at_call 45; refine (refIn_any _ _ _ h0 h1).mono ?_; rintro e w' ⟨rfl, rfl⟩)
    go_ret2
    exact ⟨rfl, rfl⟩
theorem refWithout_any (a b : Int) (w : World) :
    Calls Tryd.prog 28 #[.int .u64 a, .int .u64 b] w fun e w' => e = .returned (.int .u64 (bits .andNot .u64 a b)) ∧ w = w' := by
  go_enter Tryd.func28, Tryd.ntmps28
  go_wp2
  go_ret
  exact ⟨rfl, rfl⟩
theorem refJoin_any (v : Value) (l : List Int) (w : World) (h : Slc w v (vals .u64 l)) :
    Calls Tryd.prog 32 #[v] w fun e w' => e = .returned (.int .u64 (joinI l)) ∧ w = w' := by
  obtain ⟨A, cap, rfl, hm, hc⟩ := h.ints
  clear h
  go_enter Tryd.func32, Tryd.ntmps32
  go_wp2
  go_loop [3, 4] (fun t i => ∃ k : Nat, k ≤ l.length ∧ i = .int .i64 k ∧ t = .int .u64 (joinI (l.take k))) (fun _ i => l.length - (intOf i).toNat)
  case atStart => exact ⟨0, Nat.zero_le _, rfl, rfl⟩
  case round =>
    obtain ⟨k, hk, rfl, rfl⟩ := hrel
    by_cases hlt : k < l.length
    · obtain ⟨a, rfl, _, hcell⟩ := hc k hlt
      have hj := Lib.hid (joinI_snoc (l.take k) l[k])
      have ht := Lib.hid (take_snoc l k hlt)
      go_wp2
      go_round
      case rel => exact ⟨k + 1, by omega, by go_num, by rw [ht.out, hj.out]⟩
      case measure => simp [intOf]; omega
    · go_wp2
      go_ret
      exact ⟨by rw [List.take_of_length_le (by omega)]; rfl, rfl⟩
theorem refMeet_any (v : Value) (l : List Int) (w : World) (h : Slc w v (vals .u64 l)) :
    Calls Tryd.prog 34 #[v] w fun e w' => e = .returned (.int .u64 (meetI l)) ∧ w = w' := by
  obtain ⟨A, cap, rfl, hm, hc⟩ := h.ints
  clear h
  go_enter Tryd.func34, Tryd.ntmps34
  go_wp2
  go_loop [3, 4] (fun t i => ∃ k : Nat, k ≤ l.length ∧ i = .int .i64 k ∧ t = .int .u64 (meetI (l.take k))) (fun _ i => l.length - (intOf i).toNat)
  case atStart => exact ⟨0, Nat.zero_le _, rfl, rfl⟩
  case round =>
    obtain ⟨k, hk, rfl, rfl⟩ := hrel
    by_cases hlt : k < l.length
    · obtain ⟨a, rfl, _, hcell⟩ := hc k hlt
      have hj := Lib.hid (meetI_snoc (l.take k) l[k])
      have ht := Lib.hid (take_snoc l k hlt)
      go_wp2
      go_round
      case rel => exact ⟨k + 1, by omega, by go_num, by rw [ht.out, hj.out]⟩
      case measure => simp [intOf]; omega
    · go_wp2
      go_ret
      exact ⟨by rw [List.take_of_length_le (by omega)]; rfl, rfl⟩
end Go.Proofs.YtnlioeheogkkiaaDoor
