/- The library's sort at []uint64: partition. -/
import Derived.Sort.WalkC4
import Derived.Test.YtlembnpplnbagaaSrtD
namespace Go.Proofs.Ytlembnpplnbagaa.Lt
open Go.RowKit Go.Sort

set_option maxRecDepth 100000 in
set_option maxHeartbeats 16000000 in
theorem partition_any (b o c x y p : Nat) (d : Array Int) (w : World) (hH : Holds (Value.int .u64) w b o d) (hxp : x ≤ p) (hpy : p < y) (hy : y ≤ d.size) (hz : d.size < 2305843009213693952) :
    Calls Try.prog 48 #[.slice (some ⟨b, o, none⟩) d.size c, .int .i64 (x : Int), .int .i64 (y : Int), .int .i64 (p : Int)] w fun e w' =>
      e = .returned (.tuple #[.int .i64 ((partition ltInt d x y p).1 : Int), .bool (partition ltInt d x y p).2.1]) ∧ Rw w b o (partition ltInt d x y p).2.2 w' := by
  have hxs : x < d.size := by omega
  have hps : p < d.size := by omega
  have zx : (x : Int) < (d.size : Int) := by omega
  have zp : (p : Int) < (d.size : Int) := by omega
  obtain ⟨G, hG, hcell, hfro⟩ := fam (Rw.start hH) hH rfl
  obtain ⟨v', hy'⟩ := cell?_setCell_some (w := w) (p := ⟨b, o + x, none⟩) (x := .int .u64 (G p)) (q := ⟨b, o + p, none⟩) (hcell p hps)
  have hsw := (Rw.start hH).swap 1 x p hxs hps
  rw [← hG, ← hG] at hsw
  obtain ⟨di, hdi⟩ : ∃ di, di = swp d x p := ⟨_, rfl⟩
  have hsi : di.size = d.size := by rw [hdi, size_swp]
  rw [← hdi] at hsw
  have HR := Lib.hid hsw
  obtain ⟨i, hi⟩ : ∃ i, i = x + 1 := ⟨_, rfl⟩
  obtain ⟨j, hj⟩ : ∃ j, j = y - 1 := ⟨_, rfl⟩
  have hxi : x < i := by omega
  have hij : i ≤ j + 1 := by omega
  have hjy : j < y := by omega
  have zi : (x : Int) + 1 = (i : Int) := by omega
  have zj : (y : Int) - 1 = (j : Int) := by omega
  have HI := Lib.hid hi
  have HJ := Lib.hid hj
  have HDI := Lib.hid hdi
  clear hG hsw hi hj hdi
  have wi : IntKind.i64.wrap (i : Int) = (i : Int) := IntWalk.i64_in _ ⟨by omega, by omega⟩
  have wj : IntKind.i64.wrap (j : Int) = (j : Int) := IntWalk.i64_in _ ⟨by omega, by omega⟩
  go_enter Try.func48, Try.ntmps48
  go_wp2
  go_region
  go_wp2
  clear hy' hcell hfro v' zi zj wi wj
  obtain ⟨G, hG⟩ : ∃ G : Nat → Int, ∀ t, G t = di[t]! := ⟨fun t => di[t]!, fun _ => rfl⟩
  have HG := Lib.hid hG
  clear hG
  go_loopw [10] (fun vi w1 => ∃ i1 : Nat, vi = .int .i64 (i1 : Int) ∧ i ≤ i1 ∧ i1 ≤ j + 1 ∧ Rw w b o di w1 ∧ Hid (scanUp (fun z => ltInt z di[x]!) di j i1 = scanUp (fun z => ltInt z di[x]!) di j i)) (fun vi _ => j + 1 - (intOf vi).toNat)
  case atStart => exact ⟨i, rfl, Nat.le_refl _, hij, HR.out, rfl⟩
  case round =>
    clear HR
    obtain ⟨i1, rfl, hi1, hi2, hR1, hS⟩ := hrel
    obtain ⟨hcell, hfro⟩ := cellsG HG.out hR1 hH hsi
    have HR1 := Lib.hid hR1
    clear hR1
    by_cases hle : i1 ≤ j
    · have z_le : (i1 : Int) ≤ (j : Int) := by omega
      have c_i1 : i1 < d.size := by omega
      have z_i1 : (i1 : Int) < (d.size : Int) := by omega
      cases hl : ltInt (G i1) (G x)
      · go_wp2
        go_quiet (first | (go_at_call 46; refine Calls.quiet_of_same (less_any _ _ _)))
        go_wp2
        have hi3 := Lib.hid ((scanUp_end (fun z => ltInt z di[x]!) di j i1 (Or.inr (by show ltInt di[i1]! di[x]! = false; rw [← HG.out, ← HG.out]; exact hl))).symm.trans hS.out)
        have HRd := Lib.hid (HR1.out.drew nq)
        clear hcell hfro HR1 hS
        go_loopw [11] (fun vj w2 => ∃ j1 : Nat, vj = .int .i64 (j1 : Int) ∧ j1 ≤ j ∧ i1 ≤ j1 + 1 ∧ Rw w b o di w2 ∧ Hid (scanDown (fun z => !ltInt z di[x]!) di i1 j1 = scanDown (fun z => !ltInt z di[x]!) di i1 j)) (fun vj _ => (intOf vj).toNat)
        case atStart => exact ⟨j, rfl, Nat.le_refl _, hi2, HRd.out, rfl⟩
        case round =>
          clear HRd
          obtain ⟨j1, rfl, hj1, hj2, hR2, hT⟩ := hrel
          obtain ⟨hcell, hfro⟩ := cellsG HG.out hR2 hH hsi
          have HR2 := Lib.hid hR2
          clear hR2
          by_cases hle2 : i1 ≤ j1
          · have z_le : (i1 : Int) ≤ (j1 : Int) := by omega
            have c_j1 : j1 < d.size := by omega
            have z_j1 : (j1 : Int) < (d.size : Int) := by omega
            cases hl2 : ltInt (G j1) (G x)
            · go_wp2
              go_quiet (first | (go_at_call 46; refine Calls.quiet_of_same (less_any _ _ _)))
              go_wp2
              go_roundw
              case rel => exact ⟨j1 - 1, by go_num, by omega, by omega, HR2.out.drew _, (scanDown_go (fun z => !ltInt z di[x]!) di i1 j1 hle2 (by omega) (by show (!ltInt di[j1]! di[x]!) = true; rw [← HG.out, ← HG.out, hl2]; rfl)).symm.trans hT.out⟩
              case measure => simp [intOf]; omega
            · go_wp2
              go_quiet (first | (go_at_call 46; refine Calls.quiet_of_same (less_any _ _ _)))
              go_wp2
              have hj3 := Lib.hid ((scanDown_end (fun z => !ltInt z di[x]!) di i1 j1 (Or.inr (by show (!ltInt di[j1]! di[x]!) = false; rw [← HG.out, ← HG.out, hl2]; rfl))).symm.trans hT.out)
              have HR3 := Lib.hid (HR2.out.drew nq)
              have hcell2 : ∀ t, t < d.size → (wr.drewN nq).cell? ⟨b, o + t, none⟩ = some (.int .u64 (G t)) := hcell
              have hfro2 : ∀ t, t < d.size → (wr.drewN nq).frozen? ⟨b, o + t, none⟩ = false := hfro
              generalize wr.drewN nq = W2 at HR3 hcell2 hfro2 ⊢
              clear hcell hfro HR2 hT
              have hlt3 := part_scans_lt ltInt x i j di (by omega) hi3.out hj3.out hle2
              have hne : ¬ i1 = j1 := by omega
              have hne2 : ¬ j1 = i1 := by omega
              have c_i1 : i1 < d.size := by omega
              have z_i1 : (i1 : Int) < (d.size : Int) := by omega
              go_wp2
              go_region
              all_goals go_wp2
              have hP := Lib.hid (part_first_go ltInt d x y p HI.out HJ.out HDI.out hi3.out hj3.out (by omega))
              have hR4 := HR3.out.swap 1 i1 j1 (by omega) (by omega)
              rw [← HG.out, ← HG.out] at hR4
              have HR4 := Lib.hid hR4
              clear hR4 hcell2 hfro2 HR3 hne hne2
              go_loopw [10, 11] (fun vi vj wr => ∃ (i' j' : Nat) (di' : Array Int), vi = .int .i64 (i' : Int) ∧ vj = .int .i64 (j' : Int) ∧ x < i' ∧ i' ≤ j' + 1 ∧ j' < y ∧ di'.size = d.size ∧ Rw w b o di' wr ∧ Hid (partLoop ltInt x i' j' di' = partLoop ltInt x (i1 + 1) (j1 - 1) (swp di i1 j1))) (fun vi vj _ => (intOf vj).toNat + 1 - (intOf vi).toNat)
              case atStart => exact ⟨i1 + 1, j1 - 1, swp di i1 j1, by go_num, by go_num, by omega, by omega, by omega, by rw [size_swp]; exact hsi, HR4.out, rfl⟩
              case round =>
                clear HR4 hlt3 z_i1 c_i1 hj3 hi3 c_j1 z_j1 z_le hl2 hle2 HG
                obtain ⟨i2, j2, di2, rfl, rfl, hxi2, hij2, hjy2, hsi2, hR2, hO⟩ := hrel
                clear hxi hij hjy hsi hi1 hi2 hle hl hj1 hj2
                revert hxi2 hij2 hjy2 hsi2 hR2 hO
                rename_i Gold _
                revert i2 j2 di2
                intro i j di hxi hij hjy hsi hR hO
                obtain ⟨G, hG⟩ : ∃ G : Nat → Int, ∀ t, G t = di[t]! := ⟨fun t => di[t]!, fun _ => rfl⟩
                have HG := Lib.hid hG
                have HR := Lib.hid hR
                clear hG hR
                go_wp2
                go_loopw [10] (fun vi w1 => ∃ i1 : Nat, vi = .int .i64 (i1 : Int) ∧ i ≤ i1 ∧ i1 ≤ j + 1 ∧ Rw w b o di w1 ∧ Hid (scanUp (fun z => ltInt z di[x]!) di j i1 = scanUp (fun z => ltInt z di[x]!) di j i)) (fun vi _ => j + 1 - (intOf vi).toNat)
                case atStart => exact ⟨i, rfl, Nat.le_refl _, hij, HR.out, rfl⟩
                case round =>
                  clear HR
                  obtain ⟨i1, rfl, hi1, hi2, hR1, hS⟩ := hrel
                  obtain ⟨hcell, hfro⟩ := cellsG HG.out hR1 hH hsi
                  have HR1 := Lib.hid hR1
                  clear hR1
                  by_cases hle : i1 ≤ j
                  · have z_le : (i1 : Int) ≤ (j : Int) := by omega
                    have c_i1 : i1 < d.size := by omega
                    have z_i1 : (i1 : Int) < (d.size : Int) := by omega
                    cases hl : ltInt (G i1) (G x)
                    · go_wp2
                      go_quiet (first | (go_at_call 46; refine Calls.quiet_of_same (less_any _ _ _)))
                      go_wp2
                      have hi3 := Lib.hid ((scanUp_end (fun z => ltInt z di[x]!) di j i1 (Or.inr (by show ltInt di[i1]! di[x]! = false; rw [← HG.out, ← HG.out]; exact hl))).symm.trans hS.out)
                      have HRd := Lib.hid (HR1.out.drew nq)
                      clear hcell hfro HR1 hS
                      go_loopw [11] (fun vj w2 => ∃ j1 : Nat, vj = .int .i64 (j1 : Int) ∧ j1 ≤ j ∧ i1 ≤ j1 + 1 ∧ Rw w b o di w2 ∧ Hid (scanDown (fun z => !ltInt z di[x]!) di i1 j1 = scanDown (fun z => !ltInt z di[x]!) di i1 j)) (fun vj _ => (intOf vj).toNat)
                      case atStart => exact ⟨j, rfl, Nat.le_refl _, hi2, HRd.out, rfl⟩
                      case round =>
                        clear HRd
                        obtain ⟨j1, rfl, hj1, hj2, hR2, hT⟩ := hrel
                        obtain ⟨hcell, hfro⟩ := cellsG HG.out hR2 hH hsi
                        have HR2 := Lib.hid hR2
                        clear hR2
                        by_cases hle2 : i1 ≤ j1
                        · have z_le : (i1 : Int) ≤ (j1 : Int) := by omega
                          have c_j1 : j1 < d.size := by omega
                          have z_j1 : (j1 : Int) < (d.size : Int) := by omega
                          cases hl2 : ltInt (G j1) (G x)
                          · go_wp2
                            go_quiet (first | (go_at_call 46; refine Calls.quiet_of_same (less_any _ _ _)))
                            go_wp2
                            go_roundw
                            case rel => exact ⟨j1 - 1, by go_num, by omega, by omega, HR2.out.drew _, (scanDown_go (fun z => !ltInt z di[x]!) di i1 j1 hle2 (by omega) (by show (!ltInt di[j1]! di[x]!) = true; rw [← HG.out, ← HG.out, hl2]; rfl)).symm.trans hT.out⟩
                            case measure => simp [intOf]; omega
                          · go_wp2
                            go_quiet (first | (go_at_call 46; refine Calls.quiet_of_same (less_any _ _ _)))
                            go_wp2
                            have hj3 := Lib.hid ((scanDown_end (fun z => !ltInt z di[x]!) di i1 j1 (Or.inr (by show (!ltInt di[j1]! di[x]!) = false; rw [← HG.out, ← HG.out, hl2]; rfl))).symm.trans hT.out)
                            have HR3 := Lib.hid (HR2.out.drew nq)
                            have hcell2 : ∀ t, t < d.size → (wr.drewN nq).cell? ⟨b, o + t, none⟩ = some (.int .u64 (G t)) := hcell
                            have hfro2 : ∀ t, t < d.size → (wr.drewN nq).frozen? ⟨b, o + t, none⟩ = false := hfro
                            generalize wr.drewN nq = W2 at HR3 hcell2 hfro2 ⊢
                            clear hcell hfro HR2 hT
                            have hlt3 := part_scans_lt ltInt x i j di (by omega) hi3.out hj3.out hle2
                            have hne : ¬ i1 = j1 := by omega
                            have hne2 : ¬ j1 = i1 := by omega
                            have c_i1 : i1 < d.size := by omega
                            have z_i1 : (i1 : Int) < (d.size : Int) := by omega
                            go_wp2
                            go_region
                            all_goals go_wp2
                            all_goals go_roundw
                            case rel =>
                              refine ⟨i1 + 1, j1 - 1, swp di i1 j1, by go_num, by go_num, by omega, by omega, by omega, by rw [size_swp]; exact hsi, ?_, ?_⟩
                              · rw [HG.out, HG.out]
                                exact HR3.out.swap _ i1 j1 (by omega) (by omega)
                              · show _ = _
                                rw [← hO.out]
                                exact (part_go ltInt x i j di hi3.out hj3.out (by omega)).symm
                            case measure => simp [intOf]; omega
                        · skip
                          have hj3 := Lib.hid ((scanDown_end (fun z => !ltInt z di[x]!) di i1 j1 (Or.inl hle2)).symm.trans hT.out)
                          have zn : ¬ (i1 : Int) ≤ (j1 : Int) := by omega
                          have c_j1 : j1 < d.size := by omega
                          have z_j1 : (j1 : Int) < (d.size : Int) := by omega
                          go_wp2
                          go_quiet (first | (go_at_call 46; refine Calls.quiet_of_same (less_any _ _ _)))
                          go_wp2_with fail
                          have HR3 := Lib.hid (HR2.out.drew nq)
                          have hcell2 : ∀ t, t < d.size → (wr.drewN nq).cell? ⟨b, o + t, none⟩ = some (.int .u64 (G t)) := hcell
                          have hfro2 : ∀ t, t < d.size → (wr.drewN nq).frozen? ⟨b, o + t, none⟩ = false := hfro
                          generalize wr.drewN nq = W2 at HR3 hcell2 hfro2 ⊢
                          clear hcell hfro HR2 hT
                          obtain ⟨v2, hy2⟩ := cell?_setCell_some (w := W2) (p := ⟨b, o + j1, none⟩) (x := .int .u64 (G x)) (q := ⟨b, o + x, none⟩) (hcell2 x hxs)
                          go_wp2
                          go_region
                          go_wp2
                          go_ret2
                          have e := part_break ltInt x i j di hi3.out hj3.out (by omega)
                          rw [hO.out] at e
                          rw [hP.out, e]
                          refine ⟨rfl, ?_⟩
                          rw [HG.out, HG.out]
                          exact HR3.out.swap _ j1 x (by omega) (by omega)
                    · go_wp2
                      go_quiet (first | (go_at_call 46; refine Calls.quiet_of_same (less_any _ _ _)))
                      go_wp2
                      go_roundw
                      case rel => exact ⟨i1 + 1, by go_num, by omega, by omega, HR1.out.drew _, (scanUp_go (fun z => ltInt z di[x]!) di j i1 hle (by show ltInt di[i1]! di[x]! = true; rw [← HG.out, ← HG.out]; exact hl)).symm.trans hS.out⟩
                      case measure => simp [intOf]; omega
                  · have z_le : ¬ (i1 : Int) ≤ (j : Int) := by omega
                    go_wp2
                    go_quiet (first | (go_at_call 46; refine Calls.quiet_of_same (less_any _ _ _)))
                    go_wp2
                    have hi3 := Lib.hid ((scanUp_end (fun z => ltInt z di[x]!) di j i1 (Or.inl hle)).symm.trans hS.out)
                    have HRd := Lib.hid (HR1.out.drew nq)
                    clear hcell hfro HR1 hS
                    go_loopw [11] (fun vj w2 => ∃ j1 : Nat, vj = .int .i64 (j1 : Int) ∧ j1 ≤ j ∧ i1 ≤ j1 + 1 ∧ Rw w b o di w2 ∧ Hid (scanDown (fun z => !ltInt z di[x]!) di i1 j1 = scanDown (fun z => !ltInt z di[x]!) di i1 j)) (fun vj _ => (intOf vj).toNat)
                    case atStart => exact ⟨j, rfl, Nat.le_refl _, hi2, HRd.out, rfl⟩
                    case round =>
                      clear HRd
                      obtain ⟨j1, rfl, hj1, hj2, hR2, hT⟩ := hrel
                      obtain ⟨hcell, hfro⟩ := cellsG HG.out hR2 hH hsi
                      have HR2 := Lib.hid hR2
                      clear hR2
                      by_cases hle2 : i1 ≤ j1
                      · exfalso; omega
                      · skip
                        have hj3 := Lib.hid ((scanDown_end (fun z => !ltInt z di[x]!) di i1 j1 (Or.inl hle2)).symm.trans hT.out)
                        have zn : ¬ (i1 : Int) ≤ (j1 : Int) := by omega
                        have c_j1 : j1 < d.size := by omega
                        have z_j1 : (j1 : Int) < (d.size : Int) := by omega
                        go_wp2
                        go_quiet (first | (go_at_call 46; refine Calls.quiet_of_same (less_any _ _ _)))
                        go_wp2_with fail
                        have HR3 := Lib.hid (HR2.out.drew nq)
                        have hcell2 : ∀ t, t < d.size → (wr.drewN nq).cell? ⟨b, o + t, none⟩ = some (.int .u64 (G t)) := hcell
                        have hfro2 : ∀ t, t < d.size → (wr.drewN nq).frozen? ⟨b, o + t, none⟩ = false := hfro
                        generalize wr.drewN nq = W2 at HR3 hcell2 hfro2 ⊢
                        clear hcell hfro HR2 hT
                        obtain ⟨v2, hy2⟩ := cell?_setCell_some (w := W2) (p := ⟨b, o + j1, none⟩) (x := .int .u64 (G x)) (q := ⟨b, o + x, none⟩) (hcell2 x hxs)
                        go_wp2
                        go_region
                        go_wp2
                        go_ret2
                        have e := part_break ltInt x i j di hi3.out hj3.out (by omega)
                        rw [hO.out] at e
                        rw [hP.out, e]
                        refine ⟨rfl, ?_⟩
                        rw [HG.out, HG.out]
                        exact HR3.out.swap _ j1 x (by omega) (by omega)
          · skip
            have hj3 := Lib.hid ((scanDown_end (fun z => !ltInt z di[x]!) di i1 j1 (Or.inl hle2)).symm.trans hT.out)
            have zn : ¬ (i1 : Int) ≤ (j1 : Int) := by omega
            have c_j1 : j1 < d.size := by omega
            have z_j1 : (j1 : Int) < (d.size : Int) := by omega
            go_wp2
            go_quiet (first | (go_at_call 46; refine Calls.quiet_of_same (less_any _ _ _)))
            go_wp2_with fail
            have HR3 := Lib.hid (HR2.out.drew nq)
            have hcell2 : ∀ t, t < d.size → (wr.drewN nq).cell? ⟨b, o + t, none⟩ = some (.int .u64 (G t)) := hcell
            have hfro2 : ∀ t, t < d.size → (wr.drewN nq).frozen? ⟨b, o + t, none⟩ = false := hfro
            generalize wr.drewN nq = W2 at HR3 hcell2 hfro2 ⊢
            clear hcell hfro HR2 hT
            obtain ⟨v2, hy2⟩ := cell?_setCell_some (w := W2) (p := ⟨b, o + j1, none⟩) (x := .int .u64 (G x)) (q := ⟨b, o + x, none⟩) (hcell2 x hxs)
            go_wp2
            go_region
            go_wp2
            go_ret2
            have e := part_first_break ltInt d x y p HI.out HJ.out HDI.out hi3.out hj3.out (by omega)
            rw [e]
            refine ⟨rfl, ?_⟩
            rw [HG.out, HG.out]
            exact HR3.out.swap _ j1 x (by omega) (by omega)
      · go_wp2
        go_quiet (first | (go_at_call 46; refine Calls.quiet_of_same (less_any _ _ _)))
        go_wp2
        go_roundw
        case rel => exact ⟨i1 + 1, by go_num, by omega, by omega, HR1.out.drew _, (scanUp_go (fun z => ltInt z di[x]!) di j i1 hle (by show ltInt di[i1]! di[x]! = true; rw [← HG.out, ← HG.out]; exact hl)).symm.trans hS.out⟩
        case measure => simp [intOf]; omega
    · have z_le : ¬ (i1 : Int) ≤ (j : Int) := by omega
      go_wp2
      go_quiet (first | (go_at_call 46; refine Calls.quiet_of_same (less_any _ _ _)))
      go_wp2
      have hi3 := Lib.hid ((scanUp_end (fun z => ltInt z di[x]!) di j i1 (Or.inl hle)).symm.trans hS.out)
      have HRd := Lib.hid (HR1.out.drew nq)
      clear hcell hfro HR1 hS
      go_loopw [11] (fun vj w2 => ∃ j1 : Nat, vj = .int .i64 (j1 : Int) ∧ j1 ≤ j ∧ i1 ≤ j1 + 1 ∧ Rw w b o di w2 ∧ Hid (scanDown (fun z => !ltInt z di[x]!) di i1 j1 = scanDown (fun z => !ltInt z di[x]!) di i1 j)) (fun vj _ => (intOf vj).toNat)
      case atStart => exact ⟨j, rfl, Nat.le_refl _, hi2, HRd.out, rfl⟩
      case round =>
        clear HRd
        obtain ⟨j1, rfl, hj1, hj2, hR2, hT⟩ := hrel
        obtain ⟨hcell, hfro⟩ := cellsG HG.out hR2 hH hsi
        have HR2 := Lib.hid hR2
        clear hR2
        by_cases hle2 : i1 ≤ j1
        · exfalso; omega
        · skip
          have hj3 := Lib.hid ((scanDown_end (fun z => !ltInt z di[x]!) di i1 j1 (Or.inl hle2)).symm.trans hT.out)
          have zn : ¬ (i1 : Int) ≤ (j1 : Int) := by omega
          have c_j1 : j1 < d.size := by omega
          have z_j1 : (j1 : Int) < (d.size : Int) := by omega
          go_wp2
          go_quiet (first | (go_at_call 46; refine Calls.quiet_of_same (less_any _ _ _)))
          go_wp2_with fail
          have HR3 := Lib.hid (HR2.out.drew nq)
          have hcell2 : ∀ t, t < d.size → (wr.drewN nq).cell? ⟨b, o + t, none⟩ = some (.int .u64 (G t)) := hcell
          have hfro2 : ∀ t, t < d.size → (wr.drewN nq).frozen? ⟨b, o + t, none⟩ = false := hfro
          generalize wr.drewN nq = W2 at HR3 hcell2 hfro2 ⊢
          clear hcell hfro HR2 hT
          obtain ⟨v2, hy2⟩ := cell?_setCell_some (w := W2) (p := ⟨b, o + j1, none⟩) (x := .int .u64 (G x)) (q := ⟨b, o + x, none⟩) (hcell2 x hxs)
          go_wp2
          go_region
          go_wp2
          go_ret2
          have e := part_first_break ltInt d x y p HI.out HJ.out HDI.out hi3.out hj3.out (by omega)
          rw [e]
          refine ⟨rfl, ?_⟩
          rw [HG.out, HG.out]
          exact HR3.out.swap _ j1 x (by omega) (by omega)
end Go.Proofs.Ytlembnpplnbagaa.Lt
