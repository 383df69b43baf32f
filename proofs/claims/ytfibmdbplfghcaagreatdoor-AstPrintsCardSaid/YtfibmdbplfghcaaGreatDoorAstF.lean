/- Walks: aggregates, and conditions on them, that are all sound. Made by program (wip/tools/gen_astC.py). -/
import Derived.Test.YtfibmdbplfghcaaGreatDoorAstE
namespace Go.Proofs.YtfibmdbplfghcaaGreatDoor
open Go.RowKit
open A8

set_option maxRecDepth 100000 in
set_option maxHeartbeats 2000000 in
theorem areAllAgg1_any (x : Ag) (b : Nat) (w : World) (hG : SG w) (hB : Blk w b [.func (.func 45) #[] #[]]) :
    Calls Tryz.prog 87 #[.agg (agC x).toArray, .pointer (some ⟨b, 0, none⟩)] w fun e w' => e = .returned (.bool (!aggB x)) ∧ Below w.heap.size w w' := by
  have hq := fun w => isAgg_any x w
  obtain ⟨q, hqq⟩ : ∃ q, q = aggB x := ⟨_, rfl⟩
  rw [← hqq] at hq ⊢
  have hB2 := hB.alloc (.cells (agC x).toArray 57)
  have c0 := hB2.cell 0 _ rfl
  simp only [agC] at hq c0 ⊢
  have hG2 := hG.later (b1 w (.cells (agC x).toArray 57))
  simp only [agC] at hG2
  clear hqq hB hB2
  go_enter Tryz.func87, Tryz.ntmps87
  go_wp2_with (go_at_call 45; refine (hq _ hG2).mono ?_; rintro e w2 ⟨rfl, hb2⟩)
  go_ret
  exact ⟨rfl, bstep (b1 _ _) hb2⟩
set_option maxRecDepth 100000 in
set_option maxHeartbeats 4000000 in
theorem indexFuncAgg_any (v : Value) (l : List Ag) (b : Nat) (w : World) (hG : SG w) (hv : Sl w 2 l.length v (l.flatMap agC)) (hB : Blk w b [.func (.func 45) #[] #[]]) :
    Calls Tryz.prog 110 #[v, .func (.func 87) #[] #[.pointer (some ⟨b, 0, none⟩)]] w fun e w' => ∃ j : Int, e = .returned (.int .i64 j) ∧ decide (0 ≤ j) = !l.all aggB ∧ Below w.heap.size w w' := by
  obtain ⟨A, cap, rfl, hm, hc⟩ := sl_els (by decide) agC_len hv
  have HC := Lib.hid hc
  have HB := Lib.hid hB
  have HG := Lib.hid hG
  clear hc hv hB hG
  go_enter Tryz.func110, Tryz.ntmps110
  go_wp2
  go_loopg [5, 8] l.length (fun g tv iv wr => ∃ k : Nat, k ≤ l.length ∧ g = l.length - k ∧ iv = .int .i64 (k : Int) ∧ Hid (Below w.heap.size w wr) ∧ Hid (l.all aggB = (l.drop k).all aggB))
  case atStart => exact ⟨0, Nat.zero_le _, rfl, rfl, Lib.hid (Below.refl _ _), Lib.hid rfl⟩
  case round =>
    obtain ⟨k, hk, hg, rfl, hb, hS⟩ := hrel
    by_cases hlt : k < l.length
    · obtain ⟨a, rfl, ha, E⟩ := HC.out k hlt
      have hst : (l.drop k).all aggB = (aggB l[k] && (l.drop (k + 1)).all aggB) := by
        rw [List.drop_eq_getElem_cons hlt, List.all_cons]
      rw [hst] at hS
      have hq := fun w hB hG => areAllAgg1_any l[k] b w hG hB
      obtain ⟨x, hx⟩ : ∃ x, x = l[k] := ⟨_, rfl⟩
      rw [← hx] at E hS hq
      obtain ⟨q, hqq⟩ : ∃ q, q = aggB x := ⟨_, rfl⟩
      rw [← hqq] at hS hq
      replace E := E.same (SameB.of hb.out)
      have hBr := HB.out.later hb.out
      have hGr := HG.out.later hb.out
      clear hx hqq hst HC
      have c0 := E.at0 _ rfl
      have c1 := E.at1 1 _ (by decide) rfl
      simp only [agC] at hq
      have h1 : (k : Int) < (l.length : Int) := by omega
      have hwk : IntKind.i64.wrap ((k : Int) + 1) = (k : Int) + 1 := IntWalk.i64_in _ ⟨by omega, by omega⟩
      clear E
      cases q with
      | true =>
        have HS2 := Lib.hid (show l.all aggB = (l.drop (k + 1)).all aggB by rw [hS.out, Bool.true_and])
        clear hS
        go_wp2_with (go_at_call 87; refine (hq _ hBr hGr).mono ?_; rintro e w2 ⟨rfl, hb2⟩)
        go_roundg (l.length - (k + 1))
        case rel => exact ⟨k + 1, by omega, rfl, by go_num, Lib.hid (bstep hb.out hb2), HS2⟩
        case measure => omega
      | false =>
        have HS2 := Lib.hid (show decide (0 ≤ (k : Int)) = !l.all aggB by rw [hS.out, Bool.false_and, Bool.not_false, decide_eq_true_iff]; omega)
        clear hS
        go_wp2_with (go_at_call 87; refine (hq _ hBr hGr).mono ?_; rintro e w2 ⟨rfl, hb2⟩)
        go_ret
        exact ⟨_, rfl, HS2.out, bstep hb.out hb2⟩
    · have e1 := Lib.hid (show decide (0 ≤ (-1 : Int)) = !l.all aggB by rw [hS.out, List.drop_eq_nil_of_le (by omega)]; rfl)
      have hi : ¬ (k : Int) < (l.length : Int) := by omega
      clear HC hS
      go_wp2
      go_ret
      exact ⟨_, rfl, e1.out, hb.out⟩
set_option maxRecDepth 100000 in
set_option maxHeartbeats 2000000 in
theorem containsFuncAgg_any (v : Value) (l : List Ag) (b : Nat) (w : World) (hG : SG w) (hv : Sl w 2 l.length v (l.flatMap agC)) (hB : Blk w b [.func (.func 45) #[] #[]]) :
    Calls Tryz.prog 86 #[v, .func (.func 87) #[] #[.pointer (some ⟨b, 0, none⟩)]] w fun e w' => e = .returned (.bool (!l.all aggB)) ∧ Below w.heap.size w w' := by
  have hq := indexFuncAgg_any v l b w hG hv hB
  clear hv hB
  obtain ⟨q, hqq⟩ : ∃ q, q = l.all aggB := ⟨_, rfl⟩
  rw [← hqq] at hq ⊢
  clear hqq
  go_enter Tryz.func86, Tryz.ntmps86
  go_wp2_with (go_at_call 110; refine hq.mono ?_; rintro e w2 ⟨j, rfl, hj, hb2⟩)
  go_ret
  exact ⟨rfl, hb2⟩
set_option maxRecDepth 100000 in
set_option maxHeartbeats 2000000 in
theorem areAllAgg_any (v : Value) (l : List Ag) (w : World) (hG : SG w) (hv : Sl w 2 l.length v (l.flatMap agC)) :
    Calls Tryz.prog 44 #[v, .func (.func 45) #[] #[]] w fun e w' => e = .returned (.bool (l.all aggB)) ∧ Below w.heap.size w w' := by
  obtain ⟨W, hW⟩ : ∃ W, W = w.alloc (.cells #[.func (.func 45) #[] #[]] 80) := ⟨_, rfl⟩
  have hb1 := b1 w (.cells #[.func (.func 45) #[] #[]] 80)
  have hB := Blk.new w [.func (.func 45) #[] #[]] 80
  rw [← hW] at hb1
  have hB2 : Blk W w.heap.size [.func (.func 45) #[] #[]] := hW ▸ hB
  have hq := containsFuncAgg_any v l w.heap.size W (hG.later hb1) (hv.later hb1) hB2
  obtain ⟨q, hqq⟩ : ∃ q, q = l.all aggB := ⟨_, rfl⟩
  rw [← hqq] at hq ⊢
  clear hqq hv hB hB2
  go_enter Tryz.func44, Tryz.ntmps44
  go_wp2_with fail
  rw [← hW]
  go_wp2_with (go_at_call 86; refine hq.mono ?_; rintro e w2 ⟨rfl, hb2⟩)
  go_ret
  exact ⟨rfl, bstep hb1 hb2⟩
set_option maxRecDepth 100000 in
set_option maxHeartbeats 2000000 in
theorem areAllHave1_any (x : Hv) (b : Nat) (w : World) (hG : SG w) (hB : Blk w b [.func (.func 43) #[] #[]]) :
    Calls Tryz.prog 84 #[.agg (hvC x).toArray, .pointer (some ⟨b, 0, none⟩)] w fun e w' => e = .returned (.bool (!haveB x)) ∧ Below w.heap.size w w' := by
  have hq := fun w => isHave_any x w
  obtain ⟨q, hqq⟩ : ∃ q, q = haveB x := ⟨_, rfl⟩
  rw [← hqq] at hq ⊢
  have hB2 := hB.alloc (.cells (hvC x).toArray 61)
  have c0 := hB2.cell 0 _ rfl
  simp only [hvC] at hq c0 ⊢
  have hG2 := hG.later (b1 w (.cells (hvC x).toArray 61))
  simp only [hvC] at hG2
  clear hqq hB hB2
  go_enter Tryz.func84, Tryz.ntmps84
  go_wp2_with (go_at_call 43; refine (hq _ hG2).mono ?_; rintro e w2 ⟨rfl, hb2⟩)
  go_ret
  exact ⟨rfl, bstep (b1 _ _) hb2⟩
set_option maxRecDepth 100000 in
set_option maxHeartbeats 4000000 in
theorem indexFuncHave_any (v : Value) (l : List Hv) (b : Nat) (w : World) (hG : SG w) (hv : Sl w 4 l.length v (l.flatMap hvC)) (hB : Blk w b [.func (.func 43) #[] #[]]) :
    Calls Tryz.prog 109 #[v, .func (.func 84) #[] #[.pointer (some ⟨b, 0, none⟩)]] w fun e w' => ∃ j : Int, e = .returned (.int .i64 j) ∧ decide (0 ≤ j) = !l.all haveB ∧ Below w.heap.size w w' := by
  obtain ⟨A, cap, rfl, hm, hc⟩ := sl_els (by decide) hvC_len hv
  have HC := Lib.hid hc
  have HB := Lib.hid hB
  have HG := Lib.hid hG
  clear hc hv hB hG
  go_enter Tryz.func109, Tryz.ntmps109
  go_wp2
  go_loopg [5, 8] l.length (fun g tv iv wr => ∃ k : Nat, k ≤ l.length ∧ g = l.length - k ∧ iv = .int .i64 (k : Int) ∧ Hid (Below w.heap.size w wr) ∧ Hid (l.all haveB = (l.drop k).all haveB))
  case atStart => exact ⟨0, Nat.zero_le _, rfl, rfl, Lib.hid (Below.refl _ _), Lib.hid rfl⟩
  case round =>
    obtain ⟨k, hk, hg, rfl, hb, hS⟩ := hrel
    by_cases hlt : k < l.length
    · obtain ⟨a, rfl, ha, E⟩ := HC.out k hlt
      have hst : (l.drop k).all haveB = (haveB l[k] && (l.drop (k + 1)).all haveB) := by
        rw [List.drop_eq_getElem_cons hlt, List.all_cons]
      rw [hst] at hS
      have hq := fun w hB hG => areAllHave1_any l[k] b w hG hB
      obtain ⟨x, hx⟩ : ∃ x, x = l[k] := ⟨_, rfl⟩
      rw [← hx] at E hS hq
      obtain ⟨q, hqq⟩ : ∃ q, q = haveB x := ⟨_, rfl⟩
      rw [← hqq] at hS hq
      replace E := E.same (SameB.of hb.out)
      have hBr := HB.out.later hb.out
      have hGr := HG.out.later hb.out
      clear hx hqq hst HC
      have c0 := E.at0 _ rfl
      have c1 := E.at1 1 _ (by decide) rfl
      have c2 := E.at1 2 _ (by decide) rfl
      have c3 := E.at1 3 _ (by decide) rfl
      simp only [hvC] at hq
      have h1 : (k : Int) < (l.length : Int) := by omega
      have hwk : IntKind.i64.wrap ((k : Int) + 1) = (k : Int) + 1 := IntWalk.i64_in _ ⟨by omega, by omega⟩
      clear E
      cases q with
      | true =>
        have HS2 := Lib.hid (show l.all haveB = (l.drop (k + 1)).all haveB by rw [hS.out, Bool.true_and])
        clear hS
        go_wp2_with (go_at_call 84; refine (hq _ hBr hGr).mono ?_; rintro e w2 ⟨rfl, hb2⟩)
        go_roundg (l.length - (k + 1))
        case rel => exact ⟨k + 1, by omega, rfl, by go_num, Lib.hid (bstep hb.out hb2), HS2⟩
        case measure => omega
      | false =>
        have HS2 := Lib.hid (show decide (0 ≤ (k : Int)) = !l.all haveB by rw [hS.out, Bool.false_and, Bool.not_false, decide_eq_true_iff]; omega)
        clear hS
        go_wp2_with (go_at_call 84; refine (hq _ hBr hGr).mono ?_; rintro e w2 ⟨rfl, hb2⟩)
        go_ret
        exact ⟨_, rfl, HS2.out, bstep hb.out hb2⟩
    · have e1 := Lib.hid (show decide (0 ≤ (-1 : Int)) = !l.all haveB by rw [hS.out, List.drop_eq_nil_of_le (by omega)]; rfl)
      have hi : ¬ (k : Int) < (l.length : Int) := by omega
      clear HC hS
      go_wp2
      go_ret
      exact ⟨_, rfl, e1.out, hb.out⟩
set_option maxRecDepth 100000 in
set_option maxHeartbeats 2000000 in
theorem containsFuncHave_any (v : Value) (l : List Hv) (b : Nat) (w : World) (hG : SG w) (hv : Sl w 4 l.length v (l.flatMap hvC)) (hB : Blk w b [.func (.func 43) #[] #[]]) :
    Calls Tryz.prog 83 #[v, .func (.func 84) #[] #[.pointer (some ⟨b, 0, none⟩)]] w fun e w' => e = .returned (.bool (!l.all haveB)) ∧ Below w.heap.size w w' := by
  have hq := indexFuncHave_any v l b w hG hv hB
  clear hv hB
  obtain ⟨q, hqq⟩ : ∃ q, q = l.all haveB := ⟨_, rfl⟩
  rw [← hqq] at hq ⊢
  clear hqq
  go_enter Tryz.func83, Tryz.ntmps83
  go_wp2_with (go_at_call 109; refine hq.mono ?_; rintro e w2 ⟨j, rfl, hj, hb2⟩)
  go_ret
  exact ⟨rfl, hb2⟩
set_option maxRecDepth 100000 in
set_option maxHeartbeats 2000000 in
theorem areAllHave_any (v : Value) (l : List Hv) (w : World) (hG : SG w) (hv : Sl w 4 l.length v (l.flatMap hvC)) :
    Calls Tryz.prog 42 #[v, .func (.func 43) #[] #[]] w fun e w' => e = .returned (.bool (l.all haveB)) ∧ Below w.heap.size w w' := by
  obtain ⟨W, hW⟩ : ∃ W, W = w.alloc (.cells #[.func (.func 43) #[] #[]] 78) := ⟨_, rfl⟩
  have hb1 := b1 w (.cells #[.func (.func 43) #[] #[]] 78)
  have hB := Blk.new w [.func (.func 43) #[] #[]] 78
  rw [← hW] at hb1
  have hB2 : Blk W w.heap.size [.func (.func 43) #[] #[]] := hW ▸ hB
  have hq := containsFuncHave_any v l w.heap.size W (hG.later hb1) (hv.later hb1) hB2
  obtain ⟨q, hqq⟩ : ∃ q, q = l.all haveB := ⟨_, rfl⟩
  rw [← hqq] at hq ⊢
  clear hqq hv hB hB2
  go_enter Tryz.func42, Tryz.ntmps42
  go_wp2_with fail
  rw [← hW]
  go_wp2_with (go_at_call 83; refine hq.mono ?_; rintro e w2 ⟨rfl, hb2⟩)
  go_ret
  exact ⟨rfl, bstep hb1 hb2⟩
end Go.Proofs.YtfibmdbplfghcaaGreatDoor
