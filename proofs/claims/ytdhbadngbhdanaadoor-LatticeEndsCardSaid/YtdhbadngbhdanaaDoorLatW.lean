/- The program's maximal and minimal labels of a family. -/
import Derived.Test.YtdhbadngbhdanaaDoorLatT
import Derived.Test.YtdhbadngbhdanaaDoorLatD
import Derived.Deep.LoopGhost
import Derived.WalkMore
namespace Go.Proofs.YtdhbadngbhdanaaDoor.Lt
open Go.RowKit
open Lb

theorem less_two (a b : Nat) (ha : a < 18446744073709551616) (hb : b < 18446744073709551616) (w : World) :
    Calls Tryd.prog 31 #[.int .u64 (a : Int), .int .u64 (b : Int)] w fun e w' => e = .returned (.bool (ltB a b)) ∧ w = w' := by
  by_cases h : a = b
  · have e1 : ltB a b = false := by unfold ltB; rw [h]; simp
    rw [e1]
    have c1 : ((a : Int) != (b : Int)) = false := by simp; omega
    clear e1 h
    go_enter Tryd.func31, Tryd.ntmps31
    go_wp2
    go_ret
    exact ⟨rfl, rfl⟩
  · obtain ⟨c, hc⟩ : ∃ c, c = leB a b := ⟨_, rfl⟩
    have e1 : ltB a b = c := by unfold ltB; rw [hc]; simp [h]
    have hA := fun w => below_is a b ha hb hc.symm w
    rw [e1]
    have c1 : ((a : Int) != (b : Int)) = true := by simp; omega
    clear e1 h hc
    go_enter Tryd.func31, Tryd.ntmps31
    go_wp2_with (go_at_call 26; refine (hA _).mono ?_; rintro e w' ⟨rfl, rfl⟩)
    go_ret
    exact ⟨rfl, rfl⟩
theorem less_is (a b : Nat) (ha : a < 18446744073709551616) (hb : b < 18446744073709551616) {c : Bool} (hc : ltB a b = c) (w : World) :
    Calls Tryd.prog 31 #[.int .u64 (a : Int), .int .u64 (b : Int)] w fun e w' => e = .returned (.bool c) ∧ w = w' := hc ▸ less_two a b ha hb w
theorem greater_is (a b : Nat) (ha : a < 18446744073709551616) (hb : b < 18446744073709551616) {c : Bool} (hc : ltB b a = c) (w : World) :
    Calls Tryd.prog 30 #[.int .u64 (a : Int), .int .u64 (b : Int)] w fun e w' => e = .returned (.bool c) ∧ w = w' := by
  have hA := fun w => less_is b a hb ha hc w
  clear hc
  go_enter Tryd.func30, Tryd.ntmps30
  go_wp2_with (go_at_call 31; refine (hA _).mono ?_; rintro e w' ⟨rfl, rfl⟩)
  go_ret
  exact ⟨rfl, rfl⟩
set_option maxRecDepth 100000 in
set_option maxHeartbeats 4000000 in
theorem unbeaten_greater {w : World} {v : Value} {l : List Nat} (h : Slc w v (lv l)) (hu : U64 l) (hl64 : l.length ≤ 64) :
    Calls Tryd.prog 29 #[.func (.func 30) #[] #[], v] w (OutSlc w (nv (numsOf l fun x => maxB l x))) := by
  obtain ⟨A, cap, rfl, hm, hc⟩ := nats h
  obtain ⟨i0, hi, hz0, hz1, hz2⟩ := info_parts infoInt4
  have HC := Lib.hid hc
  have HU := Lib.hid hu
  clear h hc hu
  go_enter Tryd.func29, Tryd.ntmps29
  go_wp2
  go_step3
  go_wp2
  go_step3
  go_wp2
  go_loopg [5, 12] l.length (fun g1 v i wr => ∃ k : Nat, k ≤ l.length ∧ g1 = l.length - k ∧ i = .int .i64 k ∧ Hid (Own1 w.heap.size 3 w (vals .i64 (preN l (fun x => maxB l x) k)) v wr))
  case atStart => exact ⟨0, by omega, by omega, rfl, Own1.nil _⟩
  case round =>
    obtain ⟨k, hk, hg1, rfl, hown⟩ := hrel
    by_cases hlt : k < l.length
    · obtain ⟨a, rfl, hab, hcell0⟩ := HC.out k hlt
      have hle := preN_len l (fun x => maxB l x) k
      have HLE := Lib.hid hle
      have hcell : wr.cell? (a.add k) = some (.int .u64 (l[k] : Int)) := (hown.out.2.1.cell (p := a.add k) (by rw [add_block]; exact hab)).trans hcell0
      have hx := HU.out _ (List.getElem_mem hlt)
      obtain ⟨x, hxe⟩ : ∃ x, x = l[k] := ⟨_, rfl⟩
      rw [← hxe] at hcell hx
      have HX := Lib.hid hxe
      have hno := Lib.hid (show maxB l x = false → preN l (fun x => maxB l x) (k + 1) = preN l (fun x => maxB l x) k from fun e => preN_no (p := fun x => maxB l x) hlt (by rw [← hxe]; exact e))
      have hyes := Lib.hid (show maxB l x = true → preN l (fun x => maxB l x) (k + 1) = preN l (fun x => maxB l x) k ++ [(k : Int)] from fun e => preN_yes (p := fun x => maxB l x) hlt (by rw [← hxe]; exact e))
      clear hcell0 hxe hle
      go_wp2
      go_loopg [19] l.length (fun g2 i wr2 => ∃ m : Nat, m ≤ l.length ∧ g2 = l.length - m ∧ i = .int .i64 (m : Int) ∧ wr2 = wr ∧ Hid ((l.take m).all (fun y => !ltB x y) = true))
      case atStart => exact ⟨0, Nat.zero_le _, by omega, rfl, rfl, rfl⟩
      case round =>
        obtain ⟨m, hms, hg2, rfl, hwr, hin⟩ := hrel
        subst hwr
        by_cases hlm : m < l.length
        · obtain ⟨a', e', hab', hcell0'⟩ := HC.out m hlm
          obtain rfl := Option.some.inj e'
          have hcell' : wr.cell? (a.add m) = some (.int .u64 (l[m] : Int)) := (hown.out.2.1.cell (p := a.add m) (by rw [add_block]; exact hab')).trans hcell0'
          have hy := HU.out _ (List.getElem_mem hlm)
          obtain ⟨y, hye⟩ : ∃ y, y = l[m] := ⟨_, rfl⟩
          rw [← hye] at hcell' hy
          have HY := Lib.hid hye
          clear hcell0' hye
          cases hb : ltB x y
          · have hA := fun w => greater_is y x hy hx hb w
            have hn := Lib.hid (show (l.take (m + 1)).all (fun y => !ltB x y) = true by rw [take_snoc l m hlm, List.all_append, hin.out]; simp [← HY.out, hb])
            clear hb
            go_wp2_with (go_at_call 30; refine (hA _).mono ?_; rintro e w' ⟨rfl, rfl⟩)
            go_roundg (l.length - (m + 1))
            case measure => omega
            case rel => exact ⟨m + 1, by omega, rfl, by go_num, rfl, hn.out⟩
          · have hA := fun w => greater_is y x hy hx hb w
            have hn := Lib.hid (hno.out (by unfold maxB; rw [List.all_eq_false]; exact ⟨y, by rw [HY.out]; exact List.getElem_mem hlm, by simp [hb]⟩))
            clear hb
            go_wp2_with (go_at_call 30; refine (hA _).mono ?_; rintro e w' ⟨rfl, rfl⟩)
            go_roundg (l.length - (k + 1))
            case measure => omega
            case rel => exact ⟨k + 1, by omega, rfl, by go_num, by rw [hn.out]; exact hown⟩
        · have hall := hin.out
          rw [List.take_of_length_le (by omega)] at hall
          have hn := Lib.hid (hyes.out (by unfold maxB; exact hall))
          clear hall
          go_wp2_with (at_builtin; refine wpList_append_own _ rfl _ _ 26 rfl w.heap.size 3 i0 (.int .i64 0) 1 8 Tryd.underlying26 hi hz0 hz1 hz2 rfl (by decide) _ _ _ rfl (hown.out.1.alloc _) ⟨wr.heap.size, 0, none⟩ 1 1 [.int .i64 (k : Int)] rfl rfl (cell_one_new _ _ _) (by simp [Value.oneCell']) (by have := HLE.out; rw [vals_length]; unfold maxLen; omega) (by have := HLE.out; rw [vals_length]; omega) (by have := hown.out.2.2; simp; omega) ?_; intro v' w1 hown' hgrow _)
          have hown1 := hown.out.snoc hown' hgrow
          clear hown hown' hgrow
          go_wp2
          go_roundg (l.length - (k + 1))
          case measure => omega
          case rel => exact ⟨k + 1, by omega, rfl, by go_num, by rw [hn.out, vals_snoc]; exact hown1⟩
    · obtain rfl : k = l.length := by omega
      go_wp2
      (try rw [Exit.noGoto_ret])
      go_ret
      exact ⟨_, rfl, by unfold nv; rw [← preN_all]; exact hown.out.slc, hown.out.2.1⟩
theorem maximal_all {w : World} {v : Value} {l : List Nat} (h : Slc w v (lv l)) (hu : U64 l) :
    Calls Tryd.prog 11 #[v] w (Out2 w (nv (maxR l).1) (maxR l).2) := by
  unfold maxR
  by_cases hl : 64 < l.length
  · rw [if_pos hl]
    have hF := isFamily_is h (c := false) (decide_eq_false (by omega))
    obtain ⟨A, cap, rfl, hm, hc⟩ := nats h
    clear h hc hl
    go_enter Tryd.func11, Tryd.ntmps11
    go_wp2_with fail
    refine hF.mono ?_
    rintro e w' ⟨rfl, rfl⟩
    go_wp2
    go_returns
    exact ⟨_, rfl, Slc.nil _, Below.refl _ _⟩
  · rw [if_neg hl]
    have hF := isFamily_is h (c := true) (decide_eq_true (by omega))
    have hB := unbeaten_greater h hu (by omega)
    obtain ⟨A, cap, rfl, hm, hc⟩ := nats h
    clear h hc hl
    go_enter Tryd.func11, Tryd.ntmps11
    go_wp2_with fail
    refine hF.mono ?_
    rintro e w' ⟨rfl, rfl⟩
    go_wp2_with fail
    refine hB.mono ?_
    rintro e w1 ⟨v1, rfl, hv, hb⟩
    go_wp2
    go_returns
    exact ⟨_, rfl, hv, hb⟩
set_option maxRecDepth 100000 in
set_option maxHeartbeats 4000000 in
theorem unbeaten_less {w : World} {v : Value} {l : List Nat} (h : Slc w v (lv l)) (hu : U64 l) (hl64 : l.length ≤ 64) :
    Calls Tryd.prog 29 #[.func (.func 31) #[] #[], v] w (OutSlc w (nv (numsOf l fun x => minB l x))) := by
  obtain ⟨A, cap, rfl, hm, hc⟩ := nats h
  obtain ⟨i0, hi, hz0, hz1, hz2⟩ := info_parts infoInt4
  have HC := Lib.hid hc
  have HU := Lib.hid hu
  clear h hc hu
  go_enter Tryd.func29, Tryd.ntmps29
  go_wp2
  go_step3
  go_wp2
  go_step3
  go_wp2
  go_loopg [5, 12] l.length (fun g1 v i wr => ∃ k : Nat, k ≤ l.length ∧ g1 = l.length - k ∧ i = .int .i64 k ∧ Hid (Own1 w.heap.size 3 w (vals .i64 (preN l (fun x => minB l x) k)) v wr))
  case atStart => exact ⟨0, by omega, by omega, rfl, Own1.nil _⟩
  case round =>
    obtain ⟨k, hk, hg1, rfl, hown⟩ := hrel
    by_cases hlt : k < l.length
    · obtain ⟨a, rfl, hab, hcell0⟩ := HC.out k hlt
      have hle := preN_len l (fun x => minB l x) k
      have HLE := Lib.hid hle
      have hcell : wr.cell? (a.add k) = some (.int .u64 (l[k] : Int)) := (hown.out.2.1.cell (p := a.add k) (by rw [add_block]; exact hab)).trans hcell0
      have hx := HU.out _ (List.getElem_mem hlt)
      obtain ⟨x, hxe⟩ : ∃ x, x = l[k] := ⟨_, rfl⟩
      rw [← hxe] at hcell hx
      have HX := Lib.hid hxe
      have hno := Lib.hid (show minB l x = false → preN l (fun x => minB l x) (k + 1) = preN l (fun x => minB l x) k from fun e => preN_no (p := fun x => minB l x) hlt (by rw [← hxe]; exact e))
      have hyes := Lib.hid (show minB l x = true → preN l (fun x => minB l x) (k + 1) = preN l (fun x => minB l x) k ++ [(k : Int)] from fun e => preN_yes (p := fun x => minB l x) hlt (by rw [← hxe]; exact e))
      clear hcell0 hxe hle
      go_wp2
      go_loopg [19] l.length (fun g2 i wr2 => ∃ m : Nat, m ≤ l.length ∧ g2 = l.length - m ∧ i = .int .i64 (m : Int) ∧ wr2 = wr ∧ Hid ((l.take m).all (fun y => !ltB y x) = true))
      case atStart => exact ⟨0, Nat.zero_le _, by omega, rfl, rfl, rfl⟩
      case round =>
        obtain ⟨m, hms, hg2, rfl, hwr, hin⟩ := hrel
        subst hwr
        by_cases hlm : m < l.length
        · obtain ⟨a', e', hab', hcell0'⟩ := HC.out m hlm
          obtain rfl := Option.some.inj e'
          have hcell' : wr.cell? (a.add m) = some (.int .u64 (l[m] : Int)) := (hown.out.2.1.cell (p := a.add m) (by rw [add_block]; exact hab')).trans hcell0'
          have hy := HU.out _ (List.getElem_mem hlm)
          obtain ⟨y, hye⟩ : ∃ y, y = l[m] := ⟨_, rfl⟩
          rw [← hye] at hcell' hy
          have HY := Lib.hid hye
          clear hcell0' hye
          cases hb : ltB y x
          · have hA := fun w => less_is y x hy hx hb w
            have hn := Lib.hid (show (l.take (m + 1)).all (fun y => !ltB y x) = true by rw [take_snoc l m hlm, List.all_append, hin.out]; simp [← HY.out, hb])
            clear hb
            go_wp2_with (go_at_call 31; refine (hA _).mono ?_; rintro e w' ⟨rfl, rfl⟩)
            go_roundg (l.length - (m + 1))
            case measure => omega
            case rel => exact ⟨m + 1, by omega, rfl, by go_num, rfl, hn.out⟩
          · have hA := fun w => less_is y x hy hx hb w
            have hn := Lib.hid (hno.out (by unfold minB; rw [List.all_eq_false]; exact ⟨y, by rw [HY.out]; exact List.getElem_mem hlm, by simp [hb]⟩))
            clear hb
            go_wp2_with (go_at_call 31; refine (hA _).mono ?_; rintro e w' ⟨rfl, rfl⟩)
            go_roundg (l.length - (k + 1))
            case measure => omega
            case rel => exact ⟨k + 1, by omega, rfl, by go_num, by rw [hn.out]; exact hown⟩
        · have hall := hin.out
          rw [List.take_of_length_le (by omega)] at hall
          have hn := Lib.hid (hyes.out (by unfold minB; exact hall))
          clear hall
          go_wp2_with (at_builtin; refine wpList_append_own _ rfl _ _ 26 rfl w.heap.size 3 i0 (.int .i64 0) 1 8 Tryd.underlying26 hi hz0 hz1 hz2 rfl (by decide) _ _ _ rfl (hown.out.1.alloc _) ⟨wr.heap.size, 0, none⟩ 1 1 [.int .i64 (k : Int)] rfl rfl (cell_one_new _ _ _) (by simp [Value.oneCell']) (by have := HLE.out; rw [vals_length]; unfold maxLen; omega) (by have := HLE.out; rw [vals_length]; omega) (by have := hown.out.2.2; simp; omega) ?_; intro v' w1 hown' hgrow _)
          have hown1 := hown.out.snoc hown' hgrow
          clear hown hown' hgrow
          go_wp2
          go_roundg (l.length - (k + 1))
          case measure => omega
          case rel => exact ⟨k + 1, by omega, rfl, by go_num, by rw [hn.out, vals_snoc]; exact hown1⟩
    · obtain rfl : k = l.length := by omega
      go_wp2
      (try rw [Exit.noGoto_ret])
      go_ret
      exact ⟨_, rfl, by unfold nv; rw [← preN_all]; exact hown.out.slc, hown.out.2.1⟩
theorem minimal_all {w : World} {v : Value} {l : List Nat} (h : Slc w v (lv l)) (hu : U64 l) :
    Calls Tryd.prog 13 #[v] w (Out2 w (nv (minR l).1) (minR l).2) := by
  unfold minR
  by_cases hl : 64 < l.length
  · rw [if_pos hl]
    have hF := isFamily_is h (c := false) (decide_eq_false (by omega))
    obtain ⟨A, cap, rfl, hm, hc⟩ := nats h
    clear h hc hl
    go_enter Tryd.func13, Tryd.ntmps13
    go_wp2_with fail
    refine hF.mono ?_
    rintro e w' ⟨rfl, rfl⟩
    go_wp2
    go_returns
    exact ⟨_, rfl, Slc.nil _, Below.refl _ _⟩
  · rw [if_neg hl]
    have hF := isFamily_is h (c := true) (decide_eq_true (by omega))
    have hB := unbeaten_less h hu (by omega)
    obtain ⟨A, cap, rfl, hm, hc⟩ := nats h
    clear h hc hl
    go_enter Tryd.func13, Tryd.ntmps13
    go_wp2_with fail
    refine hF.mono ?_
    rintro e w' ⟨rfl, rfl⟩
    go_wp2_with fail
    refine hB.mono ?_
    rintro e w1 ⟨v1, rfl, hv, hb⟩
    go_wp2
    go_returns
    exact ⟨_, rfl, hv, hb⟩
end Go.Proofs.YtdhbadngbhdanaaDoor.Lt
