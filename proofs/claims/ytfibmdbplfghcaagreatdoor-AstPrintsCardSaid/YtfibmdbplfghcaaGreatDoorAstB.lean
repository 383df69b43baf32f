/- Walks: the program's comparing of lists. Made by program (wip/tools/gen_astB.py). -/
import Derived.Test.YtfibmdbplfghcaaGreatDoorAstA
import Derived.Deep.RegionWith
namespace Go.Proofs.YtfibmdbplfghcaaGreatDoor
open Go.RowKit
open A8

set_option maxRecDepth 100000 in
set_option maxHeartbeats 4000000 in
theorem sameListCond_any (u v : Value) (xs ys : List Cn) (w : World) (hu : Sl w 2 xs.length u (xs.flatMap cnC)) (hv : Sl w 2 ys.length v (ys.flatMap cnC)) :
    Calls Tryz.prog 112 #[u, v, .func (.func 113) #[] #[]] w fun e w' => e = .returned (.bool (decide (xs = ys))) ∧ Below w.heap.size w w' := by
  obtain ⟨A, cap, rfl, hm, hc⟩ := sl_els (by decide) cnC_len hu
  obtain ⟨A', cap', rfl, hm', hc'⟩ := sl_els (by decide) cnC_len hv
  have HC := Lib.hid hc
  have HC' := Lib.hid hc'
  clear hc hc' hu hv
  by_cases hlen : xs.length = ys.length
  · have hne : ((xs.length : Int) != (ys.length : Int)) = false := by simp [hlen]
    have HL := Lib.hid hlen
    clear hlen
    go_enter Tryz.func112, Tryz.ntmps112
    go_wp2
    go_loopg [15] xs.length (fun g iv wr => ∃ k : Nat, k ≤ xs.length ∧ g = xs.length - k ∧ iv = .int .i64 (k : Int) ∧ Hid (Below w.heap.size w wr) ∧ Hid (decide (xs = ys) = decide (xs.drop k = ys.drop k)))
    case atStart => exact ⟨0, Nat.zero_le _, rfl, rfl, Lib.hid (Below.refl _ _), Lib.hid rfl⟩
    case round =>
      obtain ⟨k, hk, hg, rfl, hB, hS⟩ := hrel
      by_cases hlt : k < xs.length
      · have hlt2 : k < ys.length := by rw [← HL.out]; exact hlt
        obtain ⟨a, rfl, ha, E⟩ := HC.out k hlt
        obtain ⟨a', rfl, ha', E'⟩ := HC'.out k hlt2
        have hst : decide (xs.drop k = ys.drop k) = (decide (xs[k] = ys[k]) && decide (xs.drop (k + 1) = ys.drop (k + 1))) := by
          rw [List.drop_eq_getElem_cons hlt, List.drop_eq_getElem_cons hlt2]
          simp only [List.cons.injEq, Bool.decide_and]
        have hq := fun w => equalCond_any xs[k] ys[k] w
        obtain ⟨x, hx⟩ : ∃ x, x = xs[k] := ⟨_, rfl⟩
        obtain ⟨y, hy⟩ : ∃ y, y = ys[k] := ⟨_, rfl⟩
        rw [← hx] at E hst hq
        rw [← hy] at E' hst hq
        obtain ⟨q, hqq⟩ : ∃ q, q = decide (x = y) := ⟨_, rfl⟩
        rw [← hqq] at hst hq
        rw [hst] at hS
        replace E := (E.same (SameB.of hB.out)).later (Below.refl _ _).drew
        replace E' := (E'.same (SameB.of hB.out)).later (Below.refl _ _).drew
        clear hx hy hqq hst
        have c0 := E.at0 _ rfl
        have d0 := E'.at0 _ rfl
        have c1 := E.at1 1 _ (by decide) rfl
        have d1 := E'.at1 1 _ (by decide) rfl
        simp only [cnC] at hq
        have h1 : (k : Int) < (xs.length : Int) := by omega
        have h2 : (k : Int) < (ys.length : Int) := by omega
        have hwk : IntKind.i64.wrap ((k : Int) + 1) = (k : Int) + 1 := IntWalk.i64_in _ ⟨by omega, by omega⟩
        clear E E' HC HC'
        have HB2 := fun (w2 : World) (hb2 : Below wr.drew.heap.size wr.drew w2) => bstep hB.out.drew hb2
        cases q with
        | true =>
          have HS2 := Lib.hid (show decide (xs = ys) = decide (xs.drop (k + 1) = ys.drop (k + 1)) by rw [hS.out, Bool.true_and])
          clear hS
          go_wp2
          go_region_with (go_at_call 113; refine (hq _).mono ?_; rintro e w2 ⟨rfl, hb2⟩)
          all_goals
            go_wp2
            go_roundg (xs.length - (k + 1))
            case rel => exact ⟨k + 1, by omega, rfl, by go_num, Lib.hid (HB2 _ hb2), HS2⟩
            case measure => omega
        | false =>
          have HS2 := Lib.hid (show decide (xs = ys) = false by rw [hS.out, Bool.false_and])
          clear hS
          go_wp2
          go_region_with (go_at_call 113; refine (hq _).mono ?_; rintro e w2 ⟨rfl, hb2⟩)
          all_goals
            go_wp2
            go_ret
            exact ⟨by rw [HS2.out]; rfl, HB2 _ hb2⟩
      · have e1 := Lib.hid (show decide (xs = ys) = true by rw [hS.out, List.drop_eq_nil_of_le (by omega), List.drop_eq_nil_of_le (by have := HL.out; omega)]; rfl)
        have hi : ¬ (k : Int) < (xs.length : Int) := by omega
        clear HC HC' hS
        go_wp2
        go_ret
        exact ⟨by rw [e1.out]; rfl, hB.out⟩
  · have hne : ((xs.length : Int) != (ys.length : Int)) = true := by simp; omega
    have e1 := Lib.hid (show decide (xs = ys) = false by rw [decide_eq_false_iff_not]; exact fun e => hlen (by rw [e]))
    go_enter Tryz.func112, Tryz.ntmps112
    go_wp2
    go_ret
    exact ⟨by rw [e1.out]; rfl, Below.refl _ _⟩
set_option maxRecDepth 100000 in
set_option maxHeartbeats 4000000 in
theorem sameListAgg_any (u v : Value) (xs ys : List Ag) (w : World) (hu : Sl w 2 xs.length u (xs.flatMap agC)) (hv : Sl w 2 ys.length v (ys.flatMap agC)) :
    Calls Tryz.prog 65 #[u, v, .func (.func 66) #[] #[]] w fun e w' => e = .returned (.bool (decide (xs = ys))) ∧ Below w.heap.size w w' := by
  obtain ⟨A, cap, rfl, hm, hc⟩ := sl_els (by decide) agC_len hu
  obtain ⟨A', cap', rfl, hm', hc'⟩ := sl_els (by decide) agC_len hv
  have HC := Lib.hid hc
  have HC' := Lib.hid hc'
  clear hc hc' hu hv
  by_cases hlen : xs.length = ys.length
  · have hne : ((xs.length : Int) != (ys.length : Int)) = false := by simp [hlen]
    have HL := Lib.hid hlen
    clear hlen
    go_enter Tryz.func65, Tryz.ntmps65
    go_wp2
    go_loopg [15] xs.length (fun g iv wr => ∃ k : Nat, k ≤ xs.length ∧ g = xs.length - k ∧ iv = .int .i64 (k : Int) ∧ Hid (Below w.heap.size w wr) ∧ Hid (decide (xs = ys) = decide (xs.drop k = ys.drop k)))
    case atStart => exact ⟨0, Nat.zero_le _, rfl, rfl, Lib.hid (Below.refl _ _), Lib.hid rfl⟩
    case round =>
      obtain ⟨k, hk, hg, rfl, hB, hS⟩ := hrel
      by_cases hlt : k < xs.length
      · have hlt2 : k < ys.length := by rw [← HL.out]; exact hlt
        obtain ⟨a, rfl, ha, E⟩ := HC.out k hlt
        obtain ⟨a', rfl, ha', E'⟩ := HC'.out k hlt2
        have hst : decide (xs.drop k = ys.drop k) = (decide (xs[k] = ys[k]) && decide (xs.drop (k + 1) = ys.drop (k + 1))) := by
          rw [List.drop_eq_getElem_cons hlt, List.drop_eq_getElem_cons hlt2]
          simp only [List.cons.injEq, Bool.decide_and]
        have hq := fun w => equalAgg_any xs[k] ys[k] w
        obtain ⟨x, hx⟩ : ∃ x, x = xs[k] := ⟨_, rfl⟩
        obtain ⟨y, hy⟩ : ∃ y, y = ys[k] := ⟨_, rfl⟩
        rw [← hx] at E hst hq
        rw [← hy] at E' hst hq
        obtain ⟨q, hqq⟩ : ∃ q, q = decide (x = y) := ⟨_, rfl⟩
        rw [← hqq] at hst hq
        rw [hst] at hS
        replace E := (E.same (SameB.of hB.out)).later (Below.refl _ _).drew
        replace E' := (E'.same (SameB.of hB.out)).later (Below.refl _ _).drew
        clear hx hy hqq hst
        have c0 := E.at0 _ rfl
        have d0 := E'.at0 _ rfl
        have c1 := E.at1 1 _ (by decide) rfl
        have d1 := E'.at1 1 _ (by decide) rfl
        simp only [agC] at hq
        have h1 : (k : Int) < (xs.length : Int) := by omega
        have h2 : (k : Int) < (ys.length : Int) := by omega
        have hwk : IntKind.i64.wrap ((k : Int) + 1) = (k : Int) + 1 := IntWalk.i64_in _ ⟨by omega, by omega⟩
        clear E E' HC HC'
        have HB2 := fun (w2 : World) (hb2 : Below wr.drew.heap.size wr.drew w2) => bstep hB.out.drew hb2
        cases q with
        | true =>
          have HS2 := Lib.hid (show decide (xs = ys) = decide (xs.drop (k + 1) = ys.drop (k + 1)) by rw [hS.out, Bool.true_and])
          clear hS
          go_wp2
          go_region_with (go_at_call 66; refine (hq _).mono ?_; rintro e w2 ⟨rfl, hb2⟩)
          all_goals
            go_wp2
            go_roundg (xs.length - (k + 1))
            case rel => exact ⟨k + 1, by omega, rfl, by go_num, Lib.hid (HB2 _ hb2), HS2⟩
            case measure => omega
        | false =>
          have HS2 := Lib.hid (show decide (xs = ys) = false by rw [hS.out, Bool.false_and])
          clear hS
          go_wp2
          go_region_with (go_at_call 66; refine (hq _).mono ?_; rintro e w2 ⟨rfl, hb2⟩)
          all_goals
            go_wp2
            go_ret
            exact ⟨by rw [HS2.out]; rfl, HB2 _ hb2⟩
      · have e1 := Lib.hid (show decide (xs = ys) = true by rw [hS.out, List.drop_eq_nil_of_le (by omega), List.drop_eq_nil_of_le (by have := HL.out; omega)]; rfl)
        have hi : ¬ (k : Int) < (xs.length : Int) := by omega
        clear HC HC' hS
        go_wp2
        go_ret
        exact ⟨by rw [e1.out]; rfl, hB.out⟩
  · have hne : ((xs.length : Int) != (ys.length : Int)) = true := by simp; omega
    have e1 := Lib.hid (show decide (xs = ys) = false by rw [decide_eq_false_iff_not]; exact fun e => hlen (by rw [e]))
    go_enter Tryz.func65, Tryz.ntmps65
    go_wp2
    go_ret
    exact ⟨by rw [e1.out]; rfl, Below.refl _ _⟩
set_option maxRecDepth 100000 in
set_option maxHeartbeats 4000000 in
theorem sameListHave_any (u v : Value) (xs ys : List Hv) (w : World) (hu : Sl w 4 xs.length u (xs.flatMap hvC)) (hv : Sl w 4 ys.length v (ys.flatMap hvC)) :
    Calls Tryz.prog 63 #[u, v, .func (.func 64) #[] #[]] w fun e w' => e = .returned (.bool (decide (xs = ys))) ∧ Below w.heap.size w w' := by
  obtain ⟨A, cap, rfl, hm, hc⟩ := sl_els (by decide) hvC_len hu
  obtain ⟨A', cap', rfl, hm', hc'⟩ := sl_els (by decide) hvC_len hv
  have HC := Lib.hid hc
  have HC' := Lib.hid hc'
  clear hc hc' hu hv
  by_cases hlen : xs.length = ys.length
  · have hne : ((xs.length : Int) != (ys.length : Int)) = false := by simp [hlen]
    have HL := Lib.hid hlen
    clear hlen
    go_enter Tryz.func63, Tryz.ntmps63
    go_wp2
    go_loopg [15] xs.length (fun g iv wr => ∃ k : Nat, k ≤ xs.length ∧ g = xs.length - k ∧ iv = .int .i64 (k : Int) ∧ Hid (Below w.heap.size w wr) ∧ Hid (decide (xs = ys) = decide (xs.drop k = ys.drop k)))
    case atStart => exact ⟨0, Nat.zero_le _, rfl, rfl, Lib.hid (Below.refl _ _), Lib.hid rfl⟩
    case round =>
      obtain ⟨k, hk, hg, rfl, hB, hS⟩ := hrel
      by_cases hlt : k < xs.length
      · have hlt2 : k < ys.length := by rw [← HL.out]; exact hlt
        obtain ⟨a, rfl, ha, E⟩ := HC.out k hlt
        obtain ⟨a', rfl, ha', E'⟩ := HC'.out k hlt2
        have hst : decide (xs.drop k = ys.drop k) = (decide (xs[k] = ys[k]) && decide (xs.drop (k + 1) = ys.drop (k + 1))) := by
          rw [List.drop_eq_getElem_cons hlt, List.drop_eq_getElem_cons hlt2]
          simp only [List.cons.injEq, Bool.decide_and]
        have hq := fun w => equalHave_any xs[k] ys[k] w
        obtain ⟨x, hx⟩ : ∃ x, x = xs[k] := ⟨_, rfl⟩
        obtain ⟨y, hy⟩ : ∃ y, y = ys[k] := ⟨_, rfl⟩
        rw [← hx] at E hst hq
        rw [← hy] at E' hst hq
        obtain ⟨q, hqq⟩ : ∃ q, q = decide (x = y) := ⟨_, rfl⟩
        rw [← hqq] at hst hq
        rw [hst] at hS
        replace E := (E.same (SameB.of hB.out)).later (Below.refl _ _).drew
        replace E' := (E'.same (SameB.of hB.out)).later (Below.refl _ _).drew
        clear hx hy hqq hst
        have c0 := E.at0 _ rfl
        have d0 := E'.at0 _ rfl
        have c1 := E.at1 1 _ (by decide) rfl
        have d1 := E'.at1 1 _ (by decide) rfl
        have c2 := E.at1 2 _ (by decide) rfl
        have d2 := E'.at1 2 _ (by decide) rfl
        have c3 := E.at1 3 _ (by decide) rfl
        have d3 := E'.at1 3 _ (by decide) rfl
        simp only [hvC] at hq
        have h1 : (k : Int) < (xs.length : Int) := by omega
        have h2 : (k : Int) < (ys.length : Int) := by omega
        have hwk : IntKind.i64.wrap ((k : Int) + 1) = (k : Int) + 1 := IntWalk.i64_in _ ⟨by omega, by omega⟩
        clear E E' HC HC'
        have HB2 := fun (w2 : World) (hb2 : Below wr.drew.heap.size wr.drew w2) => bstep hB.out.drew hb2
        cases q with
        | true =>
          have HS2 := Lib.hid (show decide (xs = ys) = decide (xs.drop (k + 1) = ys.drop (k + 1)) by rw [hS.out, Bool.true_and])
          clear hS
          go_wp2
          go_region_with (go_at_call 64; refine (hq _).mono ?_; rintro e w2 ⟨rfl, hb2⟩)
          all_goals
            go_wp2
            go_roundg (xs.length - (k + 1))
            case rel => exact ⟨k + 1, by omega, rfl, by go_num, Lib.hid (HB2 _ hb2), HS2⟩
            case measure => omega
        | false =>
          have HS2 := Lib.hid (show decide (xs = ys) = false by rw [hS.out, Bool.false_and])
          clear hS
          go_wp2
          go_region_with (go_at_call 64; refine (hq _).mono ?_; rintro e w2 ⟨rfl, hb2⟩)
          all_goals
            go_wp2
            go_ret
            exact ⟨by rw [HS2.out]; rfl, HB2 _ hb2⟩
      · have e1 := Lib.hid (show decide (xs = ys) = true by rw [hS.out, List.drop_eq_nil_of_le (by omega), List.drop_eq_nil_of_le (by have := HL.out; omega)]; rfl)
        have hi : ¬ (k : Int) < (xs.length : Int) := by omega
        clear HC HC' hS
        go_wp2
        go_ret
        exact ⟨by rw [e1.out]; rfl, hB.out⟩
  · have hne : ((xs.length : Int) != (ys.length : Int)) = true := by simp; omega
    have e1 := Lib.hid (show decide (xs = ys) = false by rw [decide_eq_false_iff_not]; exact fun e => hlen (by rw [e]))
    go_enter Tryz.func63, Tryz.ntmps63
    go_wp2
    go_ret
    exact ⟨by rw [e1.out]; rfl, Below.refl _ _⟩
end Go.Proofs.YtfibmdbplfghcaaGreatDoor
