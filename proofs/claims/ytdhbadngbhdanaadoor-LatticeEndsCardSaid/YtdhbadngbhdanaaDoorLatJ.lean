/- Walk: the document's own height of a family. -/
import Derived.Test.YtdhbadngbhdanaaDoorLatD
import Derived.Test.YtdhbadngbhdanaaDoorLatI
import Derived.Deep.OwnRows
namespace Go.Proofs.YtdhbadngbhdanaaDoor.Lt
open Go.RowKit

theorem zero_cells (n : Nat) : madeCells #[.int .i64 0] n = (nv (List.replicate n 0)).toArray := by
  apply Array.ext
  · simp [madeCells, nv, vals]
  · intro i h1 h2
    simp [madeCells, nv, vals, Nat.mod_one]
theorem nv_get {H : List Nat} {i : Nat} (h : i < H.length) : (nv H)[i]? = some (.int .i64 (H.getD i 0 : Int)) := by
  unfold nv vals
  rw [List.getElem?_map, List.getElem?_map, List.getElem?_eq_getElem h, List.getD_eq_getElem?_getD, List.getElem?_eq_getElem h]
  rfl
theorem nv_set (H : List Nat) (i v : Nat) : (nv H).set i (.int .i64 (v : Int)) = nv (H.set i v) := by
  unfold nv vals
  rw [List.map_set, List.map_set]
theorem Blk_dr {w w' : World} {b : Nat} {us : List Value} (h : Blk w b us) (hd : Dr w w') : Blk w' b us := by
  obtain ⟨n, rfl⟩ := hd
  exact h.drewN n
theorem Dr_below {w w' : World} (hd : Dr w w') (B : Nat) : Below B w w' := by
  obtain ⟨n, rfl⟩ := hd
  exact below_drewN (Below.refl _ _) n
def heightR (l : List Nat) : Nat × Int := if 64 < l.length then (0, 6) else (heightL l, 0)
set_option maxRecDepth 100000 in
set_option maxHeartbeats 16000000 in
theorem refHeight_any {w : World} {v : Value} {l : List Nat} (h : Slc w v (lv l)) (hu : U64 l) :
    Calls Tryd.prog 18 #[v] w fun e w' => e = .returned (.tuple #[.int .i64 ((heightR l).1 : Int), .int .i64 (heightR l).2]) ∧ Below w.heap.size w w' := by
  unfold heightR
  by_cases hl : 64 < l.length
  · rw [if_pos hl]
    have hF := family_is h (c := 6) (by unfold famE; rw [if_pos hl])
    obtain ⟨A, cap, rfl, hm, hc⟩ := nats h
    clear h hc hl
    go_enter Tryd.func18, Tryd.ntmps18
    go_wp2_with fail
    refine hF.mono ?_
    rintro e w' ⟨rfl, rfl⟩
    go_wp2
    go_returns
    exact ⟨rfl, Below.refl _ _⟩
  · rw [if_neg hl]
    have hF := family_is h (c := 0) (by unfold famE; rw [if_neg hl])
    obtain ⟨A, cap, rfl, hm, hc⟩ := nats h
    have hmk : ∀ w, (Instr.makeSlice 26 (.int .i64 (l.length : Int)) (.int .i64 (l.length : Int))).run Tryd.prog w = .ok (.slice (some ⟨w.heap.size, 0, none⟩) l.length l.length) (w.alloc (.cells (nv (List.replicate l.length 0)).toArray 3)) := fun w => by
      rw [← zero_cells]
      exact run_make_row' 26 3 (.int .i64 0) 8 Tryd.underlying26 infoInt4 rfl .i64 .i64 l.length (by omega) (by omega) w
    have HC := Lib.hid hc
    clear h hl hc
    go_enter Tryd.func18, Tryd.ntmps18
    go_wp2_with fail
    refine hF.mono ?_
    rintro e w' ⟨rfl, rfl⟩
    go_wp2
    go_loopg [6, 7] (2 * roomL l + 1) (fun g o a wr => ∃ (H : List Nat) (on : Nat) (ab : Bool), o = .int .i64 (on : Int) ∧ a = .bool ab ∧ Inv l H on ∧ Blk wr w.heap.size (nv H) ∧ Below w.heap.size w wr ∧ g + 2 * H.sum = 2 * roomL l + (if ab = true then 1 else 0) ∧ (ab = false → ∀ i, i < l.length → Fix l H i))
    case atStart => exact ⟨List.replicate l.length 0, 0, true, rfl, rfl, inv_start l, Blk.is _ rfl, (Below.refl _ _).alloc (Nat.le_refl _) _, by rw [List.sum_replicate_nat]; simp, fun h => by cases h⟩
    case round =>
      obtain ⟨H, on, ab, rfl, rfl, hI, hK, hB, hg, hfx⟩ := hrel
      cases ab
      · have hx := Lib.hid (inv_exit hI (hfx rfl))
        clear hfx hI hg
        go_wp2
        go_returns
        exact ⟨by rw [hx.out]; rfl, hB⟩
      · have HG := Lib.hid hg
        clear hg hfx
        go_wp2
        go_loopw [6, 7, 8] (fun o a i wr => ∃ (p : Nat) (H' : List Nat) (on : Nat) (ab : Bool), p ≤ l.length ∧ i = .int .i64 (p : Int) ∧ o = .int .i64 (on : Int) ∧ a = .bool ab ∧ Inv l H' on ∧ Blk wr w.heap.size (nv H') ∧ Below w.heap.size w wr ∧ (ab = true → H.sum < H'.sum) ∧ (ab = false → H' = H ∧ ∀ j, j < p → Fix l H j) ∧ H.sum ≤ H'.sum) (fun _ _ i _ => l.length - (intOf i).toNat)
        case atStart => exact ⟨0, H, on, false, Nat.zero_le _, rfl, rfl, rfl, hI, hK, hB, (fun h => by cases h), (fun _ => ⟨rfl, fun _ h => by omega⟩), Nat.le_refl _⟩
        case round =>
          clear hI hK hB
          obtain ⟨p, H', on, ab, hp, rfl, rfl, rfl, hI, hK, hB, hs1, hs2, hs3⟩ := hrel
          have S1 := Lib.hid hs1
          have S2 := Lib.hid hs2
          have S3 := Lib.hid hs3
          clear hs1 hs2 hs3
          by_cases hlt : p < l.length
          · obtain ⟨a, rfl, hab, hcp0⟩ := HC.out p hlt
            have hcp : wr.cell? (a.add p) = some (.int .u64 (l[p] : Int)) := (hB.cell (p := a.add p) (by rw [add_block]; exact hab)).trans hcp0
            obtain ⟨x, hx⟩ : ∃ x, x = l[p] := ⟨_, rfl⟩
            have hxl : x < 18446744073709551616 := by rw [hx]; exact hu _ (List.getElem_mem hlt)
            have HXD := Lib.hid (show l.getD p 0 = x by rw [hx]; exact getD_at hlt)
            rw [← hx] at hcp
            clear hx hcp0
            have hp0 : (0 : Int) ≤ (p : Int) := by omega
            have hp1 : (p : Int) < (l.length : Int) := by omega
            obtain ⟨W0, hW0⟩ : ∃ W, W = wr := ⟨_, rfl⟩
            subst hW0
            have HI := Lib.hid hI
            have HK := Lib.hid hK
            have HB := Lib.hid hB
            clear hI hK hB
            go_wp2
            go_loopw [9, 10] (fun n k wr => ∃ q nn : Nat, q ≤ l.length ∧ k = .int .i64 (q : Int) ∧ n = .int .i64 (nn : Int) ∧ Dr W0 wr ∧ 1 ≤ nn ∧ nn ≤ hgt l x ∧ ∀ j, j < q → ltB (l.getD j 0) x = true → H'.getD j 0 + 1 ≤ nn) (fun _ k _ => l.length - (intOf k).toNat)
            case atStart => exact ⟨0, 1, Nat.zero_le _, rfl, rfl, Dr.refl _, Nat.le_refl _, hgt_pos l x, fun _ h => by omega⟩
            case round =>
              obtain ⟨q, nn, hq, rfl, rfl, hwr, hn1, hn2, hnl⟩ := hrel
              have HW := Lib.hid hwr
              have H1 := Lib.hid hn1
              have H2 := Lib.hid hn2
              have HNL := Lib.hid hnl
              clear hn1 hn2 hnl
              by_cases hqt : q < l.length
              · obtain ⟨a', e', hb', hcq0⟩ := HC.out q hqt
                obtain rfl := Option.some.inj e'
                have hcp3 : wr.cell? (a.add p) = some (.int .u64 (x : Int)) := (hwr.cell _).trans hcp
                obtain ⟨y, hy⟩ : ∃ y, y = l[q] := ⟨_, rfl⟩
                have hyl : y < 18446744073709551616 := by rw [hy]; exact hu _ (List.getElem_mem hqt)
                have hcq3 : wr.cell? (a.add q) = some (.int .u64 (y : Int)) := by rw [hy]; exact (hwr.cell _).trans ((HB.out.cell (p := a.add q) (by rw [add_block]; exact hb')).trans hcq0)
                have HYD := Lib.hid (show l.getD q 0 = y by rw [hy]; exact getD_at hqt)
                obtain ⟨g, hgd⟩ : ∃ g, g = H'.getD q 0 := ⟨_, rfl⟩
                have hcg : wr.cell? ⟨w.heap.size, q, none⟩ = some (.int .i64 (g : Int)) := by rw [hgd]; exact (hwr.cell _).trans (HK.out.cell q _ (nv_get (by rw [HI.out.len]; exact hqt)))
                have HGD := Lib.hid hgd
                have hq0 : (0 : Int) ≤ (q : Int) := by omega
                have hq1 : (q : Int) < (l.length : Int) := by omega
                have hstep : ltB y x = false → ∀ j, j < q + 1 → ltB (l.getD j 0) x = true → H'.getD j 0 + 1 ≤ nn := fun hf j hj hjl => by
                  by_cases e : j < q
                  · exact HNL.out j e hjl
                  · obtain rfl : j = q := by omega
                    rw [HYD.out, hf] at hjl
                    cases hjl
                clear hy hgd hwr hcq0
                by_cases hyx : y = x
                · have HN := Lib.hid (hstep (by rw [hyx]; exact ltB_same x))
                  subst hyx
                  clear hstep
                  go_wp2_with fail
                  refine wp_region_quiet_lit (by kernel_rfl) (by kernel_rfl) ?_
                  with_reducible refine wpQuiet_step (fun K hK => ?_)
                  go_simp
                  with_reducible refine hK _ ?_
                  clear hK K
                  with_reducible refine wpQuiet_step (fun K hK => ?_)
                  go_simp
                  with_reducible refine hK _ ?_
                  clear hK K
                  with_reducible refine wpQuiet_step (fun K hK => ?_)
                  go_simp
                  with_reducible refine hK _ ?_
                  clear hK K
                  with_reducible refine wpQuiet_step (fun K hK => ?_)
                  go_simp
                  with_reducible refine hK _ ?_
                  clear hK K
                  with_reducible refine wpQuiet_step (fun K hK => ?_)
                  go_simp
                  with_reducible refine hK _ ?_
                  clear hK K
                  with_reducible refine wpQuiet_step (fun K hK => ?_)
                  go_simp
                  with_reducible refine hK _ ?_
                  clear hK K
                  with_reducible refine wpQuiet_step (fun K hK => ?_)
                  go_simp
                  with_reducible refine hK _ ?_
                  clear hK K
                  with_reducible refine wpQuiet_step (fun K hK => ?_)
                  go_simp
                  with_reducible refine hK _ ?_
                  clear hK K
                  with_reducible refine wpQuiet_step (fun K hK => ?_)
                  go_simp
                  with_reducible refine hK _ ?_
                  clear hK K
                  with_reducible refine wpQuiet_step (fun K hK => ?_)
                  go_simp
                  with_reducible refine hK _ ?_
                  clear hK K
                  with_reducible refine wpQuiet_skip ?_ ?_
                  · kernel_rfl
                  with_reducible refine wpQuiet_skip ?_ ?_
                  · kernel_rfl
                  with_reducible refine wpQuiet_skip ?_ ?_
                  · kernel_rfl
                  with_reducible refine wpQuiet_skip ?_ ?_
                  · kernel_rfl
                  with_reducible refine wpQuiet_skip ?_ ?_
                  · kernel_rfl
                  with_reducible refine wpQuiet_skip ?_ ?_
                  · kernel_rfl
                  with_reducible refine wpQuiet_skip ?_ ?_
                  · kernel_rfl
                  with_reducible refine wpQuiet_skip ?_ ?_
                  · kernel_rfl
                  with_reducible refine wpQuiet_skip ?_ ?_
                  · kernel_rfl
                  (try simp only [Act.put, List.setIfInBounds_toArray, List.set_cons_zero, List.set_cons_succ])
                  with_reducible refine wpQuiet_step (fun K hK => ?_)
                  go_simp
                  with_reducible refine hK _ ?_
                  clear hK K
                  refine wpQuiet_nil ?_
                  intro _ hw'
                  obtain ⟨nq, hw''⟩ := hw'
                  subst hw''
                  go_wp2
                  go_roundw
                  case rel => exact ⟨q + 1, nn, by omega, by go_num, by rfl, HW.out.trans ⟨_, rfl⟩, H1.out, H2.out, HN.out⟩
                  case measure => simp [intOf]; omega
                · have hne : ((y : Int) == (x : Int)) = false := beq_eq_false_iff_ne.2 (by omega)
                  have hne2 : ¬ (y : Int) = (x : Int) := by omega
                  have hne3 : ((y : Int) != (x : Int)) = true := by rw [bne, hne]; rfl
                  have hA := fun w => atMost_any y x hyl hxl w
                  cases hL : leB y x
                  · rw [hL] at hA
                    have HN := Lib.hid (hstep (by rw [ltB_ne hyx]; exact hL))
                    clear hstep hL
                    go_wp2_with fail
                    go_quiet ((go_at_call 28; with_reducible exact quiet_same (hA _)))
                    go_wp2
                    go_roundw
                    case rel => exact ⟨q + 1, nn, by omega, by go_num, by rfl, HW.out.trans ⟨_, rfl⟩, H1.out, H2.out, HN.out⟩
                    case measure => simp [intOf]; omega
                  · rw [hL] at hA
                    have hraise : g + 1 ≤ hgt l x := by
                      have := raise_le HI.out hqt (i := p) (by rw [HYD.out, HXD.out, ltB_ne hyx]; exact hL)
                      rw [HXD.out, ← HGD.out] at this
                      exact this
                    have hg63 : hgt l x ≤ l.length := hgt_len (by rw [← HXD.out]; exact getD_mem hlt)
                    have hw1 : IntKind.i64.wrap ((g : Int) + 1) = (g : Int) + 1 := IntWalk.i64_in _ ⟨by omega, by omega⟩
                    clear hstep hL
                    have HN := Lib.hid (show ∀ j, j < q + 1 → ltB (l.getD j 0) x = true → H'.getD j 0 + 1 ≤ max nn (g + 1) from fun j hj hjl => by
                      by_cases e : j < q
                      · have := HNL.out j e hjl; omega
                      · obtain rfl : j = q := by omega
                        rw [← HGD.out]; omega)
                    have HR := Lib.hid hraise
                    clear hraise
                    go_wp2_with fail
                    go_quiet ((go_at_call 28; with_reducible exact quiet_same (hA _)))
                    go_wp2
                    go_roundw
                    case rel => exact ⟨q + 1, max nn (g + 1), by omega, by go_num, by congr 1; split <;> omega, HW.out.trans ⟨_, rfl⟩, by have := H1.out; omega, by have := H2.out; have := HR.out; omega, HN.out⟩
                    case measure => simp [intOf]; omega
              · obtain rfl : q = l.length := by omega
                have hKw := Blk_dr HK.out hwr
                have hBw := HB.out.trans (Dr_below hwr w.heap.size)
                have hpH : p < H'.length := by rw [HI.out.len]; exact hlt
                obtain ⟨c, hcd⟩ : ∃ c, c = H'.getD p 0 := ⟨_, rfl⟩
                have hcc := hKw.cell p _ (nv_get hpH)
                have hcf := hKw.fr p _ (nv_get hpH)
                rw [← hcd] at hcc
                have hlt0 := hKw.lt
                by_cases hcn : c < nn
                · have c1 : (c : Int) < (nn : Int) := by omega
                  have HS := Lib.hid (show H'.sum < (H'.set p nn).sum by have := sum_set (H := H') (v := nn) hpH; rw [← hcd] at this; omega)
                  have HKs := Lib.hid (show Blk (wr.setCell ⟨w.heap.size, p, none⟩ (.int .i64 (nn : Int))) w.heap.size (nv (H'.set p nn)) by rw [← nv_set]; exact hKw.set p _)
                  have HBs := Lib.hid (hBw.setCell (p := ⟨w.heap.size, p, none⟩) (Nat.le_refl _) (.int .i64 (nn : Int)))
                  have HIs := Lib.hid (inv_set HI.out hlt (v := nn) (by rw [HXD.out]; exact H2.out))
                  clear hcn hKw hBw hcd
                  go_wp2
                  go_roundw
                  case rel => exact ⟨p + 1, H'.set p nn, max on nn, true, by omega, by go_num, by congr 1; split <;> omega, rfl, HIs.out, HKs.out, HBs.out, (fun _ => by have := S3.out; have := HS.out; omega), (fun h => by cases h), by have := S3.out; have := HS.out; omega⟩
                  case measure => simp [intOf]; omega
                · have c1 : ¬ (c : Int) < (nn : Int) := by omega
                  have hco : c ≤ on := by rw [hcd]; exact HI.out.all p hlt
                  have HFX := Lib.hid (show ab = false → H' = H ∧ ∀ j, j < p + 1 → Fix l H j from fun hab' => by
                    obtain ⟨e, hf⟩ := S2.out hab'
                    refine ⟨e, fun j hj => ?_⟩
                    by_cases hjp : j < p
                    · exact hf j hjp
                    · obtain rfl : j = p := by omega
                      rw [← e]
                      refine ⟨by have := H1.out; rw [← hcd]; omega, fun k hk hkl => ?_⟩
                      rw [HXD.out] at hkl
                      have := HNL.out k hk hkl
                      rw [← hcd]
                      omega)
                  have HBw := Lib.hid hBw
                  have HKw := Lib.hid hKw
                  clear hcn hKw hBw hcd
                  go_wp2
                  go_roundw
                  case rel => exact ⟨p + 1, H', on, ab, by omega, by go_num, (by first | rfl | (congr 1; done) | (congr 1; split <;> omega)), rfl, HI.out, HKw.out, HBw.out, S1.out, HFX.out, S3.out⟩
                  case measure => simp [intOf]; omega
          · obtain rfl : p = l.length := by omega
            go_wp2
            go_roundg (2 * (roomL l - H'.sum) + (if ab = true then 1 else 0))
            case measure =>
              have h1 := HG.out
              have h2 := inv_sum hI
              have h3 := S3.out
              have h4 := S1.out
              rw [if_pos trivial] at h1
              cases ab
              · rw [if_neg (by decide)]; omega
              · rw [if_pos rfl]; have := h4 rfl; omega
            case rel =>
              have h2 := inv_sum hI
              exact ⟨H', on, ab, rfl, rfl, hI, hK, hB, by omega, fun h i hi => by obtain ⟨e, hf⟩ := S2.out h; rw [e]; exact hf i hi⟩
end Go.Proofs.YtdhbadngbhdanaaDoor.Lt
