/- The program's joins, covers, and what is below a label. -/
import Derived.Test.YtlembnpplnbagaaLatR
namespace Go.Proofs.Ytlembnpplnbagaa.Lt
open Go.RowKit
open Lb

theorem belowI_nat {a b : Nat} (ha : a < 18446744073709551616) (hb : b < 18446744073709551616) : belowI (a : Int) (b : Int) = leB a b := by
  unfold belowI
  rw [u64_andNot_nat a b ha hb]
  cases h : leB a b
  · rw [beq_eq_false_iff_ne]
    intro e
    have := (dif_zero ha hb).1 (by omega)
    rw [h] at this
    cases this
  · rw [beq_iff_eq, (dif_zero ha hb).2 h]
    rfl
theorem below_two (a b : Nat) (ha : a < 18446744073709551616) (hb : b < 18446744073709551616) (w : World) :
    Calls Try.prog 25 #[.int .u64 (a : Int), .int .u64 (b : Int)] w fun e w' => e = .returned (.bool (leB a b)) ∧ w = w' := by
  have h := below_any (a : Int) (b : Int) w
  rw [belowI_nat ha hb] at h
  exact h
theorem below_is (a b : Nat) (ha : a < 18446744073709551616) (hb : b < 18446744073709551616) {c : Bool} (hc : leB a b = c) (w : World) :
    Calls Try.prog 25 #[.int .u64 (a : Int), .int .u64 (b : Int)] w fun e w' => e = .returned (.bool c) ∧ w = w' := hc ▸ below_two a b ha hb w

def foldOr (a : Nat) (l : List Nat) : Nat := l.foldl (· ||| ·) a
theorem foldOr_snoc {a k : Nat} {l : List Nat} (h : k < l.length) : foldOr a (l.take (k + 1)) = foldOr a (l.take k) ||| l[k] := by
  unfold foldOr
  rw [take_snoc l k h, List.foldl_append]
  rfl
theorem foldOr_lt {a : Nat} : ∀ {l : List Nat}, U64 l → a < 18446744073709551616 → foldOr a l < 18446744073709551616 := by
  intro l
  induction l generalizing a with
  | nil => intro _ h; exact h
  | cons x l ih => intro hl ha; exact ih (fun z hz => hl z (by simp [hz])) (or_lt ha (hl x (by simp)))
theorem foldJoin_any {w : World} {v : Value} {l : List Nat} (a : Nat) (h : Slc w v (lv l)) (hu : U64 l) (ha : a < 18446744073709551616) :
    Calls Try.prog 21 #[.int .u64 (a : Int), v, .func (.func 22) #[] #[]] w fun e w' => e = .returned (.int .u64 (foldOr a l : Int)) ∧ Below w.heap.size w w' := by
  obtain ⟨A, cap, rfl, hm, hc⟩ := nats h
  have HC := Lib.hid hc
  have HU := Lib.hid hu
  clear h hc hu
  go_enter Try.func21, Try.ntmps21
  go_wp2
  go_loopw [0, 11] (fun t i wr => ∃ k : Nat, k ≤ l.length ∧ i = .int .i64 (k : Int) ∧ t = .int .u64 (foldOr a (l.take k) : Int) ∧ Below w.heap.size w wr) (fun _ i _ => l.length - (intOf i).toNat)
  case atStart => exact ⟨0, Nat.zero_le _, rfl, rfl, Below.refl _ _⟩
  case round =>
    obtain ⟨k, hk, rfl, rfl, hB⟩ := hrel
    by_cases hlt : k < l.length
    · obtain ⟨p, rfl, hpb, hcell⟩ := HC.out k hlt
      have hcell2 := (hB.cell (p := p.add k) (by rw [add_block]; exact hpb)).trans hcell
      have hn := Lib.hid (foldOr_snoc (a := a) hlt)
      obtain ⟨q, hq⟩ : ∃ q, q = foldOr a (l.take k) := ⟨_, rfl⟩
      have hql : q < 18446744073709551616 := hq ▸ foldOr_lt (HU.out.take k) ha
      have hJ := fun w => join_two q l[k] hql (HU.out _ (List.getElem_mem hlt)) w
      have HQ := Lib.hid hq
      rw [← hq]
      clear hq hcell
      go_wp2_with (go_at_call 22; refine (hJ _).mono ?_; rintro e w' ⟨rfl, rfl⟩)
      go_roundw
      case rel => exact ⟨k + 1, by omega, by go_num, by rw [hn.out, ← HQ.out], bstep hB ((Below.refl _ _).alloc (Nat.le_refl _) _)⟩
      case measure => simp [intOf]; omega
    · rw [List.take_of_length_le (by omega)]
      go_wp2
      go_ret
      exact ⟨rfl, hB⟩
theorem join_all {w : World} {v : Value} {l : List Nat} (h : Slc w v (lv l)) (hu : U64 l) :
    Calls Try.prog 8 #[v] w fun e w' => e = .returned (.tuple #[.int .u64 ((joinR l).1 : Int), .int .i64 (joinR l).2]) ∧ Below w.heap.size w w' := by
  unfold joinR
  by_cases hl : 64 < l.length
  · rw [if_pos hl]
    have hF := isFamily_is h (c := false) (decide_eq_false (by omega))
    obtain ⟨A, cap, rfl, hm, hc⟩ := nats h
    clear h hc hl
    go_enter Try.func8, Try.ntmps8
    go_wp2_with fail
    refine hF.mono ?_
    rintro e w' ⟨rfl, rfl⟩
    go_wp2
    go_returns
    exact ⟨rfl, Below.refl _ _⟩
  · rw [if_neg hl]
    have hF := isFamily_is h (c := true) (decide_eq_true (by omega))
    have hJ := foldJoin_any 0 h hu (by decide)
    obtain ⟨q, hq⟩ : ∃ q, q = jn l := ⟨_, rfl⟩
    have hq' : foldOr 0 l = q := hq ▸ rfl
    rw [hq'] at hJ
    rw [← hq]
    obtain ⟨A, cap, rfl, hm, hc⟩ := nats h
    clear h hc hl hq hq'
    go_enter Try.func8, Try.ntmps8
    go_wp2_with fail
    refine hF.mono ?_
    rintro e w' ⟨rfl, rfl⟩
    go_wp2_with fail
    refine hJ.mono ?_
    rintro e w1 ⟨rfl, hb⟩
    go_wp2
    go_returns
    exact ⟨rfl, hb⟩

set_option maxRecDepth 100000 in
set_option maxHeartbeats 4000000 in
theorem below_all {w : World} {v : Value} {l : List Nat} (t : Nat) (h : Slc w v (lv l)) (hu : U64 l) (ht : t < 18446744073709551616) :
    Calls Try.prog 17 #[v, .int .u64 (t : Int)] w (Out2 w (nv (belowR l t).1) (belowR l t).2) := by
  unfold belowR
  by_cases hl : 64 < l.length
  · rw [if_pos hl]
    have hF := isFamily_is h (c := false) (decide_eq_false (by omega))
    obtain ⟨A, cap, rfl, hm, hc⟩ := nats h
    clear h hc hl
    go_enter Try.func17, Try.ntmps17
    go_wp2_with fail
    refine hF.mono ?_
    rintro e w' ⟨rfl, rfl⟩
    go_wp2
    go_returns
    exact ⟨_, rfl, Slc.nil _, Below.refl _ _⟩
  · rw [if_neg hl]
    have hF := isFamily_is h (c := true) (decide_eq_true (by omega))
    have hl64 : l.length ≤ 64 := by omega
    obtain ⟨A, cap, rfl, hm, hc⟩ := nats h
    obtain ⟨i0, hi, hz0, hz1, hz2⟩ := info_parts infoInt4
    clear h hl
    go_enter Try.func17, Try.ntmps17
    go_wp2_with fail
    refine hF.mono ?_
    rintro e w' ⟨rfl, rfl⟩
    go_wp2
    go_loopw [6, 14] (fun v i wr => ∃ k : Nat, k ≤ l.length ∧ i = .int .i64 k ∧ Own1 w.heap.size 3 w (vals .i64 (preN l (fun x => leB x t) k)) v wr) (fun _ i _ => l.length - (intOf i).toNat)
    case atStart => exact ⟨0, by omega, rfl, Own1.nil _⟩
    case round =>
      obtain ⟨k, hk, rfl, hown⟩ := hrel
      by_cases hlt : k < l.length
      · obtain ⟨a, rfl, hab, hcell⟩ := hc k hlt
        have hle := preN_len l (fun x => leB x t) k
        have hcell2 : wr.cell? (a.add k) = some (.int .u64 (l[k] : Int)) := (hown.2.1.cell (p := a.add k) (by rw [add_block]; exact hab)).trans hcell
        clear hc hcell
        cases hb : leB l[k] t
        · have hA := fun w => below_is l[k] t (hu _ (List.getElem_mem hlt)) ht hb w
          have hn := Lib.hid (preN_no (p := fun x => leB x t) hlt hb)
          go_wp2_with (go_at_call 25; refine (hA _).mono ?_; rintro e w' ⟨rfl, rfl⟩)
          go_roundw
          case rel => exact ⟨k + 1, by omega, by go_num, by rw [hn.out]; exact hown⟩
          case measure => simp [intOf]; omega
        · have hA := fun w => below_is l[k] t (hu _ (List.getElem_mem hlt)) ht hb w
          have hn := Lib.hid (preN_yes (p := fun x => leB x t) hlt hb)
          go_wp2_with (first | (go_at_call 25; refine (hA _).mono ?_; rintro e w' ⟨rfl, rfl⟩) | (at_builtin; refine wpList_append_own _ rfl _ _ 34 rfl w.heap.size 3 i0 (.int .i64 0) 1 8 Try.underlying34 hi hz0 hz1 hz2 rfl (by decide) _ _ _ rfl (hown.1.alloc _) ⟨wr.heap.size, 0, none⟩ 1 1 [.int .i64 (k : Int)] rfl rfl (cell_one_new _ _ _) (by simp [Value.oneCell']) (by rw [vals_length]; unfold maxLen; omega) (by rw [vals_length]; omega) (by have := hown.2.2; simp; omega) ?_; intro v' w1 hown' hgrow _))
          have hown1 := hown.snoc hown' hgrow
          clear hown hown' hgrow
          go_wp2
          go_roundw
          case rel => exact ⟨k + 1, by omega, by go_num, by rw [hn.out, vals_snoc]; exact hown1⟩
          case measure => simp [intOf]; omega
      · obtain rfl : k = l.length := by omega
        go_wp2
        go_returns
        exact ⟨_, rfl, by unfold nv; rw [← preN_all]; exact hown.slc, hown.2.1⟩
end Go.Proofs.Ytlembnpplnbagaa.Lt
