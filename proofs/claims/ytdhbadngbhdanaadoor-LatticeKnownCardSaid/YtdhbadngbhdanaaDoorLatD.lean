/- Walks: the document's own functions that tell which labels are maximal, and which minimal. -/
import Derived.Test.YtdhbadngbhdanaaDoorLatC
import Derived.Deep.RegionHeld3
namespace Go.Proofs.YtdhbadngbhdanaaDoor.Lt
open Go.RowKit

/-- Nothing has turned but that the tape was drawn from. -/
def Dr (w w' : World) : Prop := ∃ n, w' = w.drewN n
theorem Dr.refl (w : World) : Dr w w := ⟨0, rfl⟩
theorem Dr.trans {w a b : World} (h : Dr w a) (k : Dr a b) : Dr w b := by
  obtain ⟨n, rfl⟩ := h
  obtain ⟨m, rfl⟩ := k
  exact ⟨n + m, World.drewN_drewN _ _ _⟩
theorem Dr.drew {w a : World} (h : Dr w a) : Dr w a.drew := h.trans ⟨1, rfl⟩
theorem Dr.cell {w a : World} (h : Dr w a) (p : Addr) : a.cell? p = w.cell? p := by
  obtain ⟨n, rfl⟩ := h
  rfl
theorem own1dr {B : Nat} {e : TypeId} {w wr w' : World} {us : List Value} {v : Value} (h : Own1 B e w us v wr) (hd : Dr wr w') : Own1 B e w us v w' := by
  obtain ⟨n, rfl⟩ := hd
  exact ⟨h.1, below_drewN h.2.1 n, h.2.2⟩
theorem heldD {P : Program} {f : FuncId} {args : Array Value} {v : Value} {W wx : World} {a0 a1 : Addr} {c0 c1 : Value} (hc : ∀ w, Calls P f args w fun e w' => e = .returned v ∧ w = w')
    (h0 : wx.cell? a0 = some c0) (h1 : wx.cell? a1 = some c1) (hd : Dr W wx) :
    Calls P f args wx fun e w' => e = .returned v ∧ w'.cell? a0 = some c0 ∧ w'.cell? a1 = some c1 ∧ Dr W w' :=
  (hc wx).mono fun _ _ ⟨he, hw⟩ => by subst hw; exact ⟨he, h0, h1, hd⟩
theorem ltB_same (x : Nat) : ltB x x = false := by simp [ltB]
theorem ltB_ne {x y : Nat} (h : x ≠ y) : ltB x y = leB x y := by simp [ltB, h]
theorem maxB_snoc (l : List Nat) (x y : Nat) : maxB (l ++ [y]) x = (maxB l x && !ltB x y) := by unfold maxB; rw [List.all_append]; simp
theorem minB_snoc (l : List Nat) (x y : Nat) : minB (l ++ [y]) x = (minB l x && !ltB y x) := by unfold minB; rw [List.all_append]; simp
def maxR (l : List Nat) : List Nat × Int := if 64 < l.length then ([], 6) else (numsOf l fun x => maxB l x, 0)
set_option maxRecDepth 100000 in
set_option maxHeartbeats 16000000 in
theorem refMaximal_any {w : World} {v : Value} {l : List Nat} (h : Slc w v (lv l)) (hu : U64 l) :
    Calls Tryd.prog 12 #[v] w (Out2 w (nv (maxR l).1) (maxR l).2) := by
  unfold maxR
  by_cases hl : 64 < l.length
  · rw [if_pos hl]
    have hF := family_is h (c := 6) (by unfold famE; rw [if_pos hl])
    obtain ⟨A, cap, rfl, hm, hc⟩ := nats h
    clear h hc hl
    go_enter Tryd.func12, Tryd.ntmps12
    go_wp2_with fail
    refine hF.mono ?_
    rintro e w' ⟨rfl, rfl⟩
    go_wp2
    go_returns
    exact ⟨_, rfl, Slc.nil _, Below.refl _ _⟩
  · rw [if_neg hl]
    have hF := family_is h (c := 0) (by unfold famE; rw [if_neg hl])
    have hl64 : l.length ≤ 64 := by omega
    obtain ⟨A, cap, rfl, hm, hc⟩ := nats h
    obtain ⟨i0, hi, hz0, hz1, hz2⟩ := info_parts infoInt4
    clear h hl
    go_enter Tryd.func12, Tryd.ntmps12
    go_wp2_with fail
    refine hF.mono ?_
    rintro e w' ⟨rfl, rfl⟩
    go_wp2
    go_loopw [5, 6] (fun v i wr => ∃ p : Nat, p ≤ l.length ∧ i = .int .i64 (p : Int) ∧ Own1 w.heap.size 3 w (vals .i64 (preN l (fun x => maxB l x) p)) v wr) (fun _ i _ => l.length - (intOf i).toNat)
    case atStart => exact ⟨0, by omega, rfl, Own1.nil _⟩
    case round =>
      obtain ⟨p, hp, rfl, hown⟩ := hrel
      obtain ⟨W0, hW0⟩ : ∃ W, W = wr := ⟨_, rfl⟩
      subst hW0
      by_cases hlt : p < l.length
      · obtain ⟨a, rfl, hab, hcp⟩ := hc p hlt
        have hle := preN_len l (fun x => maxB l x) p
        obtain ⟨x, hx⟩ : ∃ x, x = l[p] := ⟨_, rfl⟩
        have hxl : x < 18446744073709551616 := by rw [hx]; exact hu _ (List.getElem_mem hlt)
        rw [← hx] at hcp
        have HX := Lib.hid hx
        have hcp2 : W0.cell? (a.add p) = some (.int .u64 (x : Int)) := (hown.2.1.cell (p := a.add p) (by rw [add_block]; exact hab)).trans hcp
        have hcW : ∀ (q : Nat) (hq : q < l.length), W0.cell? (a.add q) = some (.int .u64 (l[q] : Int)) := fun q hq => by
          obtain ⟨a', e', hb', hc'⟩ := hc q hq
          obtain rfl := Option.some.inj e'
          exact (hown.2.1.cell (p := a.add q) (by rw [add_block]; exact hb')).trans hc'
        have HC := Lib.hid hcW
        have HO := Lib.hid hown
        have hp0 : (0 : Int) ≤ (p : Int) := by omega
        have hp1 : (p : Int) < (l.length : Int) := by omega
        clear hx hc hcW hcp hown
        go_wp2
        go_loopw [7, 8] (fun is k wr => ∃ q : Nat, q ≤ l.length ∧ k = .int .i64 (q : Int) ∧ is = .bool (maxB (l.take q) x) ∧ Dr W0 wr) (fun _ k _ => l.length - (intOf k).toNat)
        case atStart => exact ⟨0, by omega, rfl, rfl, Dr.refl _⟩
        case round =>
          obtain ⟨q, hq, rfl, his, hwr⟩ := hrel
          have HW := Lib.hid hwr
          have hd0 : Dr wr wr := Dr.refl wr
          by_cases hqt : q < l.length
          · have hcp3 : wr.cell? (a.add p) = some (.int .u64 (x : Int)) := (hwr.cell _).trans hcp2
            obtain ⟨y, hy⟩ : ∃ y, y = l[q] := ⟨_, rfl⟩
            have hyl : y < 18446744073709551616 := by rw [hy]; exact hu _ (List.getElem_mem hqt)
            have hcq3 : wr.cell? (a.add q) = some (.int .u64 (y : Int)) := by rw [hy]; exact (hwr.cell _).trans (HC.out q hqt)
            have hq0 : (0 : Int) ≤ (q : Int) := by omega
            have hq1 : (q : Int) < (l.length : Int) := by omega
            have hsn := maxB_snoc (l.take q) x y
            rw [hy, ← take_snoc l q hqt, ← hy] at hsn
            clear hy hwr hcp2
            cases hM : maxB (l.take q) x
            · rw [hM] at his hsn
              subst his
              have HN := Lib.hid (show maxB (l.take (q + 1)) x = false by rw [hsn]; rfl)
              clear hsn hM
              go_wp2_with fail
              refine wp_region_quiet_lit (by kernel_rfl) (by kernel_rfl) ?_
              with_reducible refine wpQuiet_step (fun K hK => ?_)
              go_simp
              with_reducible refine hK _ ?_
              clear hK K
              with_reducible refine wpQuiet_step (fun K hK => ?_)
              go_simp
              with_reducible refine hK _ ?_
              clear hK K
              with_reducible refine wpQuiet_skip ?_ ?_
              · kernel_rfl
              with_reducible refine wpQuiet_skip ?_ ?_
              · kernel_rfl
              with_reducible refine wpQuiet_skip ?_ ?_
              · kernel_rfl
              with_reducible refine wpQuiet_skip ?_ ?_
              · kernel_rfl
              with_reducible refine wpQuiet_skip ?_ ?_
              · kernel_rfl
              with_reducible refine wpQuiet_skip ?_ ?_
              · kernel_rfl
              with_reducible refine wpQuiet_skip ?_ ?_
              · kernel_rfl
              with_reducible refine wpQuiet_skip ?_ ?_
              · kernel_rfl
              with_reducible refine wpQuiet_skip ?_ ?_
              · kernel_rfl
              with_reducible refine wpQuiet_skip ?_ ?_
              · kernel_rfl
              with_reducible refine wpQuiet_skip ?_ ?_
              · kernel_rfl
              with_reducible refine wpQuiet_skip ?_ ?_
              · kernel_rfl
              with_reducible refine wpQuiet_skip ?_ ?_
              · kernel_rfl
              with_reducible refine wpQuiet_skip ?_ ?_
              · kernel_rfl
              with_reducible refine wpQuiet_skip ?_ ?_
              · kernel_rfl
              with_reducible refine wpQuiet_skip ?_ ?_
              · kernel_rfl
              with_reducible refine wpQuiet_skip ?_ ?_
              · kernel_rfl
              with_reducible refine wpQuiet_skip ?_ ?_
              · kernel_rfl
              with_reducible refine wpQuiet_skip ?_ ?_
              · kernel_rfl
              with_reducible refine wpQuiet_skip ?_ ?_
              · kernel_rfl
              with_reducible refine wpQuiet_skip ?_ ?_
              · kernel_rfl
              (try simp only [Act.put, List.setIfInBounds_toArray, List.set_cons_zero, List.set_cons_succ])
              with_reducible refine wpQuiet_step (fun K hK => ?_)
              go_simp
              with_reducible refine hK _ ?_
              clear hK K
              with_reducible refine wpQuiet_step (fun K hK => ?_)
              go_simp
              with_reducible refine hK _ ?_
              clear hK K
              refine wpQuiet_nil ?_
              intro _ hw'
              obtain ⟨nq, hw''⟩ := hw'
              subst hw''
              go_wp2
              go_roundw
              case rel => exact ⟨q + 1, by omega, by go_num, by rw [HN.out], HW.out.trans (⟨_, rfl⟩)⟩
              case measure => simp [intOf]; omega
            · rw [hM] at his hsn
              subst his
              by_cases hxy : x = y
              · subst hxy
                have HN := Lib.hid (show maxB (l.take (q + 1)) x = true by rw [hsn, ltB_same]; rfl)
                clear hsn hM
                go_wp2_with fail
                refine wp_region_quiet_lit (by kernel_rfl) (by kernel_rfl) ?_
                with_reducible refine wpQuiet_step (fun K hK => ?_)
                go_simp
                with_reducible refine hK _ ?_
                clear hK K
                with_reducible refine wpQuiet_step (fun K hK => ?_)
                go_simp
                with_reducible refine hK _ ?_
                clear hK K
                with_reducible refine wpQuiet_step (fun K hK => ?_)
                go_simp
                with_reducible refine hK _ ?_
                clear hK K
                with_reducible refine wpQuiet_step (fun K hK => ?_)
                go_simp
                with_reducible refine hK _ ?_
                clear hK K
                with_reducible refine wpQuiet_step (fun K hK => ?_)
                go_simp
                with_reducible refine hK _ ?_
                clear hK K
                with_reducible refine wpQuiet_step (fun K hK => ?_)
                go_simp
                with_reducible refine hK _ ?_
                clear hK K
                with_reducible refine wpQuiet_step (fun K hK => ?_)
                go_simp
                with_reducible refine hK _ ?_
                clear hK K
                with_reducible refine wpQuiet_step (fun K hK => ?_)
                go_simp
                with_reducible refine hK _ ?_
                clear hK K
                with_reducible refine wpQuiet_step (fun K hK => ?_)
                go_simp
                with_reducible refine hK _ ?_
                clear hK K
                with_reducible refine wpQuiet_step (fun K hK => ?_)
                go_simp
                with_reducible refine hK _ ?_
                clear hK K
                with_reducible refine wpQuiet_step (fun K hK => ?_)
                go_simp
                with_reducible refine hK _ ?_
                clear hK K
                with_reducible refine wpQuiet_step (fun K hK => ?_)
                go_simp
                with_reducible refine hK _ ?_
                clear hK K
                with_reducible refine wpQuiet_skip ?_ ?_
                · kernel_rfl
                with_reducible refine wpQuiet_skip ?_ ?_
                · kernel_rfl
                with_reducible refine wpQuiet_skip ?_ ?_
                · kernel_rfl
                with_reducible refine wpQuiet_skip ?_ ?_
                · kernel_rfl
                with_reducible refine wpQuiet_skip ?_ ?_
                · kernel_rfl
                with_reducible refine wpQuiet_skip ?_ ?_
                · kernel_rfl
                with_reducible refine wpQuiet_skip ?_ ?_
                · kernel_rfl
                with_reducible refine wpQuiet_skip ?_ ?_
                · kernel_rfl
                with_reducible refine wpQuiet_skip ?_ ?_
                · kernel_rfl
                (try simp only [Act.put, List.setIfInBounds_toArray, List.set_cons_zero, List.set_cons_succ])
                with_reducible refine wpQuiet_step (fun K hK => ?_)
                go_simp
                with_reducible refine hK _ ?_
                clear hK K
                with_reducible refine wpQuiet_step (fun K hK => ?_)
                go_simp
                with_reducible refine hK _ ?_
                clear hK K
                with_reducible refine wpQuiet_step (fun K hK => ?_)
                go_simp
                with_reducible refine hK _ ?_
                clear hK K
                with_reducible refine wpQuiet_step (fun K hK => ?_)
                go_simp
                with_reducible refine hK _ ?_
                clear hK K
                refine wpQuiet_nil ?_
                intro _ hw'
                obtain ⟨nq, hw''⟩ := hw'
                subst hw''
                go_wp2
                go_roundw
                case rel => exact ⟨q + 1, by omega, by go_num, by rw [HN.out], HW.out.trans (⟨_, rfl⟩)⟩
                case measure => simp [intOf]; omega
              · have hne : ((x : Int) == (y : Int)) = false := beq_eq_false_iff_ne.2 (by omega)
                have hne2 : ¬ (x : Int) = (y : Int) := by omega
                have hne3 : ((x : Int) != (y : Int)) = true := by rw [bne, hne]; rfl
                rw [ltB_ne hxy] at hsn
                cases hL : leB x y
                · have hA := fun w => atMost_any x y hxl hyl w
                  rw [hL] at hA hsn
                  have HN := Lib.hid (show maxB (l.take (q + 1)) x = true by rw [hsn]; rfl)
                  clear hsn hM hL
                  go_wp2_with fail
                  go_quiet ((go_at_call 28; with_reducible exact quiet_same (hA _)))
                  go_wp2
                  go_roundw
                  case rel => exact ⟨q + 1, by omega, by go_num, by rw [HN.out], HW.out.trans (⟨_, rfl⟩)⟩
                  case measure => simp [intOf]; omega
                · have hA := fun w => atMost_any x y hxl hyl w
                  rw [hL] at hA hsn
                  have HN := Lib.hid (show maxB (l.take (q + 1)) x = false by rw [hsn]; rfl)
                  clear hsn hM hL
                  go_wp2_with fail
                  go_quiet ((go_at_call 28; with_reducible exact quiet_same (hA _)))
                  go_wp2
                  go_roundw
                  case rel => exact ⟨q + 1, by omega, by go_num, by rw [HN.out], HW.out.trans (⟨_, rfl⟩)⟩
                  case measure => simp [intOf]; omega
          · obtain rfl : q = l.length := by omega
            rw [List.take_of_length_le (by omega)] at his
            have hown := own1dr HO.out hwr
            clear hwr
            cases hM : maxB l x
            · rw [hM] at his
              subst his
              have hn := Lib.hid (preN_no (p := fun x => maxB l x) hlt (by rw [← HX.out]; exact hM))
              clear hM
              go_wp2
              go_roundw
              case rel => exact ⟨p + 1, by omega, by go_num, by rw [hn.out]; exact hown⟩
              case measure => simp [intOf]; omega
            · rw [hM] at his
              subst his
              have hn := Lib.hid (preN_yes (p := fun x => maxB l x) hlt (by rw [← HX.out]; exact hM))
              clear hM
              go_wp2_with (at_builtin; refine wpList_append_own _ rfl _ _ 26 rfl w.heap.size 3 i0 (.int .i64 0) 1 8 Tryd.underlying26 hi hz0 hz1 hz2 rfl (by decide) _ _ _ rfl (hown.1.alloc _) ⟨wr.heap.size, 0, none⟩ 1 1 [.int .i64 (p : Int)] rfl rfl (cell_one_new _ _ _) (by simp [Value.oneCell']) (by rw [vals_length]; unfold maxLen; omega) (by rw [vals_length]; omega) (by have := hown.2.2; simp; omega) ?_; intro v' w1 hown' hgrow _)
              have hown1 := hown.snoc hown' hgrow
              clear hown hown' hgrow
              go_wp2
              go_roundw
              case rel => exact ⟨p + 1, by omega, by go_num, by rw [hn.out, vals_snoc]; exact hown1⟩
              case measure => simp [intOf]; omega
      · obtain rfl : p = l.length := by omega
        go_wp2
        go_returns
        exact ⟨_, rfl, by unfold nv; rw [← preN_all]; exact hown.slc, hown.2.1⟩
def minR (l : List Nat) : List Nat × Int := if 64 < l.length then ([], 6) else (numsOf l fun x => minB l x, 0)
set_option maxRecDepth 100000 in
set_option maxHeartbeats 16000000 in
theorem refMinimal_any {w : World} {v : Value} {l : List Nat} (h : Slc w v (lv l)) (hu : U64 l) :
    Calls Tryd.prog 14 #[v] w (Out2 w (nv (minR l).1) (minR l).2) := by
  unfold minR
  by_cases hl : 64 < l.length
  · rw [if_pos hl]
    have hF := family_is h (c := 6) (by unfold famE; rw [if_pos hl])
    obtain ⟨A, cap, rfl, hm, hc⟩ := nats h
    clear h hc hl
    go_enter Tryd.func14, Tryd.ntmps14
    go_wp2_with fail
    refine hF.mono ?_
    rintro e w' ⟨rfl, rfl⟩
    go_wp2
    go_returns
    exact ⟨_, rfl, Slc.nil _, Below.refl _ _⟩
  · rw [if_neg hl]
    have hF := family_is h (c := 0) (by unfold famE; rw [if_neg hl])
    have hl64 : l.length ≤ 64 := by omega
    obtain ⟨A, cap, rfl, hm, hc⟩ := nats h
    obtain ⟨i0, hi, hz0, hz1, hz2⟩ := info_parts infoInt4
    clear h hl
    go_enter Tryd.func14, Tryd.ntmps14
    go_wp2_with fail
    refine hF.mono ?_
    rintro e w' ⟨rfl, rfl⟩
    go_wp2
    go_loopw [5, 6] (fun v i wr => ∃ p : Nat, p ≤ l.length ∧ i = .int .i64 (p : Int) ∧ Own1 w.heap.size 3 w (vals .i64 (preN l (fun x => minB l x) p)) v wr) (fun _ i _ => l.length - (intOf i).toNat)
    case atStart => exact ⟨0, by omega, rfl, Own1.nil _⟩
    case round =>
      obtain ⟨p, hp, rfl, hown⟩ := hrel
      obtain ⟨W0, hW0⟩ : ∃ W, W = wr := ⟨_, rfl⟩
      subst hW0
      by_cases hlt : p < l.length
      · obtain ⟨a, rfl, hab, hcp⟩ := hc p hlt
        have hle := preN_len l (fun x => minB l x) p
        obtain ⟨x, hx⟩ : ∃ x, x = l[p] := ⟨_, rfl⟩
        have hxl : x < 18446744073709551616 := by rw [hx]; exact hu _ (List.getElem_mem hlt)
        rw [← hx] at hcp
        have HX := Lib.hid hx
        have hcp2 : W0.cell? (a.add p) = some (.int .u64 (x : Int)) := (hown.2.1.cell (p := a.add p) (by rw [add_block]; exact hab)).trans hcp
        have hcW : ∀ (q : Nat) (hq : q < l.length), W0.cell? (a.add q) = some (.int .u64 (l[q] : Int)) := fun q hq => by
          obtain ⟨a', e', hb', hc'⟩ := hc q hq
          obtain rfl := Option.some.inj e'
          exact (hown.2.1.cell (p := a.add q) (by rw [add_block]; exact hb')).trans hc'
        have HC := Lib.hid hcW
        have HO := Lib.hid hown
        have hp0 : (0 : Int) ≤ (p : Int) := by omega
        have hp1 : (p : Int) < (l.length : Int) := by omega
        clear hx hc hcW hcp hown
        go_wp2
        go_loopw [7, 8] (fun is k wr => ∃ q : Nat, q ≤ l.length ∧ k = .int .i64 (q : Int) ∧ is = .bool (minB (l.take q) x) ∧ Dr W0 wr) (fun _ k _ => l.length - (intOf k).toNat)
        case atStart => exact ⟨0, by omega, rfl, rfl, Dr.refl _⟩
        case round =>
          obtain ⟨q, hq, rfl, his, hwr⟩ := hrel
          have HW := Lib.hid hwr
          have hd0 : Dr wr wr := Dr.refl wr
          by_cases hqt : q < l.length
          · have hcp3 : wr.cell? (a.add p) = some (.int .u64 (x : Int)) := (hwr.cell _).trans hcp2
            obtain ⟨y, hy⟩ : ∃ y, y = l[q] := ⟨_, rfl⟩
            have hyl : y < 18446744073709551616 := by rw [hy]; exact hu _ (List.getElem_mem hqt)
            have hcq3 : wr.cell? (a.add q) = some (.int .u64 (y : Int)) := by rw [hy]; exact (hwr.cell _).trans (HC.out q hqt)
            have hq0 : (0 : Int) ≤ (q : Int) := by omega
            have hq1 : (q : Int) < (l.length : Int) := by omega
            have hsn := minB_snoc (l.take q) x y
            rw [hy, ← take_snoc l q hqt, ← hy] at hsn
            clear hy hwr hcp2
            cases hM : minB (l.take q) x
            · rw [hM] at his hsn
              subst his
              have HN := Lib.hid (show minB (l.take (q + 1)) x = false by rw [hsn]; rfl)
              clear hsn hM
              go_wp2_with fail
              refine wp_region_quiet_lit (by kernel_rfl) (by kernel_rfl) ?_
              with_reducible refine wpQuiet_step (fun K hK => ?_)
              go_simp
              with_reducible refine hK _ ?_
              clear hK K
              with_reducible refine wpQuiet_step (fun K hK => ?_)
              go_simp
              with_reducible refine hK _ ?_
              clear hK K
              with_reducible refine wpQuiet_skip ?_ ?_
              · kernel_rfl
              with_reducible refine wpQuiet_skip ?_ ?_
              · kernel_rfl
              with_reducible refine wpQuiet_skip ?_ ?_
              · kernel_rfl
              with_reducible refine wpQuiet_skip ?_ ?_
              · kernel_rfl
              with_reducible refine wpQuiet_skip ?_ ?_
              · kernel_rfl
              with_reducible refine wpQuiet_skip ?_ ?_
              · kernel_rfl
              with_reducible refine wpQuiet_skip ?_ ?_
              · kernel_rfl
              with_reducible refine wpQuiet_skip ?_ ?_
              · kernel_rfl
              with_reducible refine wpQuiet_skip ?_ ?_
              · kernel_rfl
              with_reducible refine wpQuiet_skip ?_ ?_
              · kernel_rfl
              with_reducible refine wpQuiet_skip ?_ ?_
              · kernel_rfl
              with_reducible refine wpQuiet_skip ?_ ?_
              · kernel_rfl
              with_reducible refine wpQuiet_skip ?_ ?_
              · kernel_rfl
              with_reducible refine wpQuiet_skip ?_ ?_
              · kernel_rfl
              with_reducible refine wpQuiet_skip ?_ ?_
              · kernel_rfl
              with_reducible refine wpQuiet_skip ?_ ?_
              · kernel_rfl
              with_reducible refine wpQuiet_skip ?_ ?_
              · kernel_rfl
              with_reducible refine wpQuiet_skip ?_ ?_
              · kernel_rfl
              with_reducible refine wpQuiet_skip ?_ ?_
              · kernel_rfl
              with_reducible refine wpQuiet_skip ?_ ?_
              · kernel_rfl
              with_reducible refine wpQuiet_skip ?_ ?_
              · kernel_rfl
              (try simp only [Act.put, List.setIfInBounds_toArray, List.set_cons_zero, List.set_cons_succ])
              with_reducible refine wpQuiet_step (fun K hK => ?_)
              go_simp
              with_reducible refine hK _ ?_
              clear hK K
              with_reducible refine wpQuiet_step (fun K hK => ?_)
              go_simp
              with_reducible refine hK _ ?_
              clear hK K
              refine wpQuiet_nil ?_
              intro _ hw'
              obtain ⟨nq, hw''⟩ := hw'
              subst hw''
              go_wp2
              go_roundw
              case rel => exact ⟨q + 1, by omega, by go_num, by rw [HN.out], HW.out.trans (⟨_, rfl⟩)⟩
              case measure => simp [intOf]; omega
            · rw [hM] at his hsn
              subst his
              by_cases hxy : x = y
              · subst hxy
                have HN := Lib.hid (show minB (l.take (q + 1)) x = true by rw [hsn, ltB_same]; rfl)
                clear hsn hM
                go_wp2_with fail
                refine wp_region_quiet_lit (by kernel_rfl) (by kernel_rfl) ?_
                with_reducible refine wpQuiet_step (fun K hK => ?_)
                go_simp
                with_reducible refine hK _ ?_
                clear hK K
                with_reducible refine wpQuiet_step (fun K hK => ?_)
                go_simp
                with_reducible refine hK _ ?_
                clear hK K
                with_reducible refine wpQuiet_step (fun K hK => ?_)
                go_simp
                with_reducible refine hK _ ?_
                clear hK K
                with_reducible refine wpQuiet_step (fun K hK => ?_)
                go_simp
                with_reducible refine hK _ ?_
                clear hK K
                with_reducible refine wpQuiet_step (fun K hK => ?_)
                go_simp
                with_reducible refine hK _ ?_
                clear hK K
                with_reducible refine wpQuiet_step (fun K hK => ?_)
                go_simp
                with_reducible refine hK _ ?_
                clear hK K
                with_reducible refine wpQuiet_step (fun K hK => ?_)
                go_simp
                with_reducible refine hK _ ?_
                clear hK K
                with_reducible refine wpQuiet_step (fun K hK => ?_)
                go_simp
                with_reducible refine hK _ ?_
                clear hK K
                with_reducible refine wpQuiet_step (fun K hK => ?_)
                go_simp
                with_reducible refine hK _ ?_
                clear hK K
                with_reducible refine wpQuiet_step (fun K hK => ?_)
                go_simp
                with_reducible refine hK _ ?_
                clear hK K
                with_reducible refine wpQuiet_step (fun K hK => ?_)
                go_simp
                with_reducible refine hK _ ?_
                clear hK K
                with_reducible refine wpQuiet_step (fun K hK => ?_)
                go_simp
                with_reducible refine hK _ ?_
                clear hK K
                with_reducible refine wpQuiet_skip ?_ ?_
                · kernel_rfl
                with_reducible refine wpQuiet_skip ?_ ?_
                · kernel_rfl
                with_reducible refine wpQuiet_skip ?_ ?_
                · kernel_rfl
                with_reducible refine wpQuiet_skip ?_ ?_
                · kernel_rfl
                with_reducible refine wpQuiet_skip ?_ ?_
                · kernel_rfl
                with_reducible refine wpQuiet_skip ?_ ?_
                · kernel_rfl
                with_reducible refine wpQuiet_skip ?_ ?_
                · kernel_rfl
                with_reducible refine wpQuiet_skip ?_ ?_
                · kernel_rfl
                with_reducible refine wpQuiet_skip ?_ ?_
                · kernel_rfl
                (try simp only [Act.put, List.setIfInBounds_toArray, List.set_cons_zero, List.set_cons_succ])
                with_reducible refine wpQuiet_step (fun K hK => ?_)
                go_simp
                with_reducible refine hK _ ?_
                clear hK K
                with_reducible refine wpQuiet_step (fun K hK => ?_)
                go_simp
                with_reducible refine hK _ ?_
                clear hK K
                with_reducible refine wpQuiet_step (fun K hK => ?_)
                go_simp
                with_reducible refine hK _ ?_
                clear hK K
                with_reducible refine wpQuiet_step (fun K hK => ?_)
                go_simp
                with_reducible refine hK _ ?_
                clear hK K
                refine wpQuiet_nil ?_
                intro _ hw'
                obtain ⟨nq, hw''⟩ := hw'
                subst hw''
                go_wp2
                go_roundw
                case rel => exact ⟨q + 1, by omega, by go_num, by rw [HN.out], HW.out.trans (⟨_, rfl⟩)⟩
                case measure => simp [intOf]; omega
              · have hne : ((x : Int) == (y : Int)) = false := beq_eq_false_iff_ne.2 (by omega)
                have hne2 : ¬ (x : Int) = (y : Int) := by omega
                have hne3 : ((x : Int) != (y : Int)) = true := by rw [bne, hne]; rfl
                rw [ltB_ne (fun e => hxy e.symm)] at hsn
                cases hL : leB y x
                · have hA := fun w => atMost_any y x hyl hxl w
                  rw [hL] at hA hsn
                  have HN := Lib.hid (show minB (l.take (q + 1)) x = true by rw [hsn]; rfl)
                  clear hsn hM hL
                  go_wp2_with fail
                  go_quiet ((go_at_call 28; with_reducible exact quiet_same (hA _)))
                  go_wp2
                  go_roundw
                  case rel => exact ⟨q + 1, by omega, by go_num, by rw [HN.out], HW.out.trans (⟨_, rfl⟩)⟩
                  case measure => simp [intOf]; omega
                · have hA := fun w => atMost_any y x hyl hxl w
                  rw [hL] at hA hsn
                  have HN := Lib.hid (show minB (l.take (q + 1)) x = false by rw [hsn]; rfl)
                  clear hsn hM hL
                  go_wp2_with fail
                  go_quiet ((go_at_call 28; with_reducible exact quiet_same (hA _)))
                  go_wp2
                  go_roundw
                  case rel => exact ⟨q + 1, by omega, by go_num, by rw [HN.out], HW.out.trans (⟨_, rfl⟩)⟩
                  case measure => simp [intOf]; omega
          · obtain rfl : q = l.length := by omega
            rw [List.take_of_length_le (by omega)] at his
            have hown := own1dr HO.out hwr
            clear hwr
            cases hM : minB l x
            · rw [hM] at his
              subst his
              have hn := Lib.hid (preN_no (p := fun x => minB l x) hlt (by rw [← HX.out]; exact hM))
              clear hM
              go_wp2
              go_roundw
              case rel => exact ⟨p + 1, by omega, by go_num, by rw [hn.out]; exact hown⟩
              case measure => simp [intOf]; omega
            · rw [hM] at his
              subst his
              have hn := Lib.hid (preN_yes (p := fun x => minB l x) hlt (by rw [← HX.out]; exact hM))
              clear hM
              go_wp2_with (at_builtin; refine wpList_append_own _ rfl _ _ 26 rfl w.heap.size 3 i0 (.int .i64 0) 1 8 Tryd.underlying26 hi hz0 hz1 hz2 rfl (by decide) _ _ _ rfl (hown.1.alloc _) ⟨wr.heap.size, 0, none⟩ 1 1 [.int .i64 (p : Int)] rfl rfl (cell_one_new _ _ _) (by simp [Value.oneCell']) (by rw [vals_length]; unfold maxLen; omega) (by rw [vals_length]; omega) (by have := hown.2.2; simp; omega) ?_; intro v' w1 hown' hgrow _)
              have hown1 := hown.snoc hown' hgrow
              clear hown hown' hgrow
              go_wp2
              go_roundw
              case rel => exact ⟨p + 1, by omega, by go_num, by rw [hn.out, vals_snoc]; exact hown1⟩
              case measure => simp [intOf]; omega
      · obtain rfl : p = l.length := by omega
        go_wp2
        go_returns
        exact ⟨_, rfl, by unfold nv; rw [← preN_all]; exact hown.slc, hown.2.1⟩
end Go.Proofs.YtdhbadngbhdanaaDoor.Lt
