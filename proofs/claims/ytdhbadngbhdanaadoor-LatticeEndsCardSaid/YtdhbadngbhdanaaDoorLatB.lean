/- Walks: the document's own function that asks whether a family is a chain. -/
import Derived.Test.YtdhbadngbhdanaaDoorLatA
import Derived.Deep.LoopGhost
import Derived.WalkMore
namespace Go.Proofs.YtdhbadngbhdanaaDoor.Lt
open Go.RowKit

theorem chain_of {l : List Nat} (h : ∀ (i k : Nat) (hi : i < l.length) (hk : k < i), (leB (l[i]'hi) (l[k]'(by omega)) || leB (l[k]'(by omega)) (l[i]'hi)) = true) : chainB l = true := by
  unfold chainB
  rw [List.all_eq_true]
  intro x hx
  rw [List.all_eq_true]
  intro y hy
  obtain ⟨i, hi, rfl⟩ := List.getElem_of_mem hx
  obtain ⟨k, hk, rfl⟩ := List.getElem_of_mem hy
  by_cases h1 : k < i
  · exact h i k hi h1
  · by_cases h2 : i < k
    · rw [Bool.or_comm]; exact h k i hk h2
    · obtain rfl : i = k := by omega
      rw [leB_refl]; rfl
theorem chain_not {l : List Nat} {i k : Nat} (hi : i < l.length) (hk : k < l.length) (h1 : leB l[i] l[k] = false) (h2 : leB l[k] l[i] = false) : chainB l = false := by
  cases h : chainB l
  · rfl
  · unfold chainB at h
    have := List.all_eq_true.1 (List.all_eq_true.1 h l[i] (List.getElem_mem hi)) l[k] (List.getElem_mem hk)
    rw [h1, h2] at this
    cases this
def chainR (l : List Nat) : Bool × Int := if 64 < l.length then (false, 6) else (chainB l, 0)
set_option maxHeartbeats 16000000 in
theorem refChain_any {w : World} {v : Value} {l : List Nat} (h : Slc w v (lv l)) (hu : U64 l) :
    Calls Tryd.prog 16 #[v] w fun e w' => e = .returned (.tuple #[.bool (chainR l).1, .int .i64 (chainR l).2]) ∧ ∃ n, w' = w.drewN n := by
  unfold chainR
  by_cases hl : 64 < l.length
  · rw [if_pos hl]
    have hF := family_is h (c := 6) (by unfold famE; rw [if_pos hl])
    obtain ⟨A, cap, rfl, hm, hc⟩ := nats h
    clear h hc hl
    go_enter Tryd.func16, Tryd.ntmps16
    go_wp2_with fail
    refine hF.mono ?_
    rintro e w' ⟨rfl, rfl⟩
    go_wp2
    go_returns
    exact ⟨rfl, 0, rfl⟩
  · rw [if_neg hl]
    have hF := family_is h (c := 0) (by unfold famE; rw [if_neg hl])
    obtain ⟨A, cap, rfl, hm, hc⟩ := nats h
    clear h hl
    go_enter Tryd.func16, Tryd.ntmps16
    go_wp2_with fail
    refine hF.mono ?_
    rintro e w' ⟨rfl, rfl⟩
    go_wp2
    go_loopw [5] (fun i wr => ∃ p n : Nat, p ≤ l.length ∧ i = .int .i64 (p : Int) ∧ wr = w.drewN n ∧ ∀ (i k : Nat) (hi : i < l.length) (hk : k < i), i < p → (leB (l[i]'hi) (l[k]'(by omega)) || leB (l[k]'(by omega)) (l[i]'hi)) = true) (fun i _ => l.length - (intOf i).toNat)
    case atStart => exact ⟨0, 0, Nat.zero_le _, rfl, rfl, fun _ _ _ _ h => by omega⟩
    case round =>
      obtain ⟨p, n, hp, rfl, rfl, hin⟩ := hrel
      have HI := Lib.hid hin
      clear hin
      by_cases hlt : p < l.length
      · obtain ⟨a, rfl, _, hcp⟩ := hc p hlt
        obtain ⟨x, hx⟩ : ∃ x, x = l[p] := ⟨_, rfl⟩
        have hxl : x < 18446744073709551616 := by rw [hx]; exact hu _ (List.getElem_mem hlt)
        rw [← hx] at hcp
        have HX := Lib.hid hx
        clear hx
        go_wp2
        go_loopw [6] (fun k wr => ∃ q m : Nat, q ≤ p ∧ k = .int .i64 (q : Int) ∧ wr = w.drewN m ∧ ∀ (k : Nat) (hk : k < l.length), k < q → (leB x (l[k]'hk) || leB (l[k]'hk) x) = true) (fun k _ => p - (intOf k).toNat)
        case atStart => exact ⟨0, n, Nat.zero_le _, rfl, rfl, fun _ _ h => by omega⟩
        case round =>
          obtain ⟨q, m, hq, rfl, hwr, hin⟩ := hrel
          have HW := Lib.hid hwr
          have hcp2 : wr.cell? (a.add p) = some (.int .u64 (x : Int)) := by rw [hwr]; exact hcp
          have HQ := Lib.hid hin
          clear hin
          by_cases hqp : q < p
          · obtain ⟨a', e', _, hcq⟩ := hc q (by omega)
            obtain rfl := Option.some.inj e'
            obtain ⟨y, hy⟩ : ∃ y, y = l[q] := ⟨_, rfl⟩
            have hyl : y < 18446744073709551616 := by rw [hy]; exact hu _ (List.getElem_mem (by omega))
            rw [← hy] at hcq
            have HY := Lib.hid hy
            have hcq2 : wr.cell? (a.add q) = some (.int .u64 (y : Int)) := by rw [hwr]; exact hcq
            clear hy hc hwr
            have hA1 := fun w => atMost_any x y hxl hyl w
            have hA2 := fun w => atMost_any y x hyl hxl w
            have b0 : (0 : Int) ≤ (p : Int) := by omega
            have b1 : (p : Int) < (l.length : Int) := by omega
            have b2 : (0 : Int) ≤ (q : Int) := by omega
            have b3 : (q : Int) < (l.length : Int) := by omega
            have b4 : (q : Int) < (p : Int) := by omega
            cases h1 : leB x y
            · rw [h1] at hA1
              cases h2 : leB y x
              · rw [h2] at hA2
                have HR := Lib.hid (show chainB l = false from chain_not (i := p) (k := q) hlt (by omega) (by rw [← HX.out, ← HY.out]; exact h1) (by rw [← HX.out, ← HY.out]; exact h2))
                clear h1 h2
                go_wp2_with fail
                go_quiet (first | (go_at_call 28; with_reducible exact quiet_same (hA1 _)) | (go_at_call 28; with_reducible exact quiet_same (hA2 _)))
                go_wp2
                go_returns
                exact ⟨by rw [HR.out]; rfl, _, by rw [HW.out, World.drewN_drewN]⟩
              · rw [h2] at hA2
                have HN := Lib.hid (show ∀ (k : Nat) (hk : k < l.length), k < q + 1 → (leB x (l[k]'hk) || leB (l[k]'hk) x) = true from fun k hk hkq => by
                  by_cases e : k < q
                  · exact HQ.out k hk e
                  · obtain rfl : k = q := by omega
                    rw [← HY.out, h1, h2]; rfl)
                clear h1 h2
                go_wp2_with fail
                go_quiet (first | (go_at_call 28; with_reducible exact quiet_same (hA1 _)) | (go_at_call 28; with_reducible exact quiet_same (hA2 _)))
                go_wp2
                go_roundw
                case rel => exact ⟨q + 1, _, by omega, by go_num, by rw [HW.out, World.drewN_drewN], HN.out⟩
                case measure => simp [intOf]; omega
            · rw [h1] at hA1
              have HN := Lib.hid (show ∀ (k : Nat) (hk : k < l.length), k < q + 1 → (leB x (l[k]'hk) || leB (l[k]'hk) x) = true from fun k hk hkq => by
                by_cases e : k < q
                · exact HQ.out k hk e
                · obtain rfl : k = q := by omega
                  rw [← HY.out, h1]; rfl)
              clear h1
              go_wp2_with fail
              refine wp_region_quiet_lit (by kernel_rfl) (by kernel_rfl) ?_
              with_reducible refine wpQuiet_step (fun K hK => ?_)
              go_simp
              with_reducible refine hK _ ?_
              clear hK K
              with_reducible refine wpQuiet_step (fun K hK => ?_)
              go_simp
              with_reducible refine hK _ ?_
              clear hK K
              with_reducible refine wpQuiet_step (fun K hK => ?_)
              go_simp
              with_reducible refine hK _ ?_
              clear hK K
              with_reducible refine wpQuiet_step (fun K hK => ?_)
              go_simp
              with_reducible refine hK _ ?_
              clear hK K
              with_reducible refine wpQuiet_step (fun K hK => ?_)
              go_simp
              with_reducible refine hK _ ?_
              clear hK K
              with_reducible refine wpQuiet_step (fun K hK => ?_)
              go_simp
              with_reducible refine hK _ ?_
              clear hK K
              with_reducible refine wpQuiet_step (fun K hK => ?_)
              go_simp
              with_reducible refine hK _ ?_
              clear hK K
              with_reducible refine wpQuiet_step (fun K hK => ?_)
              go_simp
              with_reducible refine hK _ ?_
              clear hK K
              with_reducible refine wpQuiet_step (fun K hK => ?_)
              go_simp
              apply Exists.intro
              refine ⟨fun _ => ?_, hK _ ?_⟩
              · go_at_call 28
                with_reducible exact quiet_same (hA1 _)
              clear hK K
              with_reducible refine wpQuiet_step (fun K hK => ?_)
              go_simp
              with_reducible refine hK _ ?_
              clear hK K
              with_reducible refine wpQuiet_step (fun K hK => ?_)
              go_simp
              with_reducible refine hK _ ?_
              clear hK K
              with_reducible refine wpQuiet_skip ?_ ?_
              · kernel_rfl
              with_reducible refine wpQuiet_skip ?_ ?_
              · kernel_rfl
              with_reducible refine wpQuiet_skip ?_ ?_
              · kernel_rfl
              with_reducible refine wpQuiet_skip ?_ ?_
              · kernel_rfl
              with_reducible refine wpQuiet_skip ?_ ?_
              · kernel_rfl
              with_reducible refine wpQuiet_skip ?_ ?_
              · kernel_rfl
              with_reducible refine wpQuiet_skip ?_ ?_
              · kernel_rfl
              with_reducible refine wpQuiet_skip ?_ ?_
              · kernel_rfl
              with_reducible refine wpQuiet_skip ?_ ?_
              · kernel_rfl
              with_reducible refine wpQuiet_skip ?_ ?_
              · kernel_rfl
              (try simp only [Act.put, List.setIfInBounds_toArray, List.set_cons_zero, List.set_cons_succ])
              with_reducible refine wpQuiet_step (fun K hK => ?_)
              go_simp
              with_reducible refine hK _ ?_
              clear hK K
              refine wpQuiet_nil ?_
              intro _ hw'
              obtain ⟨nq, hw''⟩ := hw'
              subst hw''
              go_wp2
              go_roundw
              case rel => exact ⟨q + 1, _, by omega, by go_num, by rw [HW.out, World.drewN_drewN], HN.out⟩
              case measure => simp [intOf]; omega
          · obtain rfl : q = p := by omega
            have HN := Lib.hid (show ∀ (i k : Nat) (hi : i < l.length) (hk : k < i), i < q + 1 → (leB (l[i]'hi) (l[k]'(by omega)) || leB (l[k]'(by omega)) (l[i]'hi)) = true from fun i k hi hk hiq => by
              by_cases e : i < q
              · exact HI.out i k hi hk e
              · obtain rfl : i = q := by omega
                have := HQ.out k (by omega) hk
                rw [HX.out] at this
                exact this)
            have b4 : ¬ (q : Int) < (q : Int) := by omega
            clear hwr
            go_wp2
            go_roundw
            case rel => exact ⟨q + 1, _, by omega, by go_num, by rw [HW.out], HN.out⟩
            case measure => simp [intOf]; omega
      · obtain rfl : p = l.length := by omega
        have HR := Lib.hid (show chainB l = true from chain_of fun i k hi hk => HI.out i k hi hk hi)
        go_wp2
        go_returns
        exact ⟨by rw [HR.out]; rfl, _, rfl⟩
end Go.Proofs.YtdhbadngbhdanaaDoor.Lt
