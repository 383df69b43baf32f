/- The library's sort at []uint64: partitionEqual. -/
import Derived.Sort.WalkC
import Derived.Test.YtlembnpplnbagaaSrtC
namespace Go.Proofs.Ytlembnpplnbagaa.Lt
open Go.RowKit Go.Sort

theorem cellsG {w0 w : World} {b o : Nat} {d0 d : Array Int} {G : Nat → Int} (hG : ∀ t, G t = d[t]!) (h : Rw w0 b o d w) (hH : Holds (Value.int .u64) w0 b o d0) (hs : d.size = d0.size) :
    (∀ t, t < d0.size → w.cell? ⟨b, o + t, none⟩ = some (.int .u64 (G t))) ∧ (∀ t, t < d0.size → w.frozen? ⟨b, o + t, none⟩ = false) :=
  ⟨fun t ht => by rw [hG]; exact (h.at hH hs t ht).1, fun t ht => (h.at hH hs t ht).2⟩

set_option maxRecDepth 100000 in
set_option maxHeartbeats 8000000 in
theorem partitionEqual_any (b o c x y p : Nat) (d : Array Int) (w : World) (hH : Holds (Value.int .u64) w b o d) (hxp : x ≤ p) (hpy : p < y) (hy : y ≤ d.size) (hz : d.size < 2305843009213693952) :
    Calls Try.prog 47 #[.slice (some ⟨b, o, none⟩) d.size c, .int .i64 (x : Int), .int .i64 (y : Int), .int .i64 (p : Int)] w fun e w' =>
      e = .returned (.int .i64 ((partitionEqual ltInt d x y p).1 : Int)) ∧ Rw w b o (partitionEqual ltInt d x y p).2 w' := by
  have hxs : x < d.size := by omega
  have hps : p < d.size := by omega
  have zx : (x : Int) < (d.size : Int) := by omega
  have zp : (p : Int) < (d.size : Int) := by omega
  obtain ⟨G, hG, hcell, hfro⟩ := fam (Rw.start hH) hH rfl
  obtain ⟨v', hy'⟩ := cell?_setCell_some (w := w) (p := ⟨b, o + x, none⟩) (x := .int .u64 (G p)) (q := ⟨b, o + p, none⟩) (hcell p hps)
  have hsw := (Rw.start hH).swap 1 x p hxs hps
  rw [← hG, ← hG] at hsw
  have HSW := Lib.hid hsw
  clear hG hsw
  go_enter Try.func47, Try.ntmps47
  go_wp2
  go_region
  go_wp2
  clear hy' hcell hfro v'
  go_loopw [9, 10] (fun vi vj wr => ∃ (i j : Nat) (di : Array Int), vi = .int .i64 (i : Int) ∧ vj = .int .i64 (j : Int) ∧ x < i ∧ i ≤ j + 1 ∧ j < y ∧ di.size = d.size ∧ Rw w b o di wr ∧ Hid (partEqLoop ltInt x i j di = partEqLoop ltInt x (x + 1) (y - 1) (swp d x p))) (fun vi vj _ => (intOf vj).toNat + 1 - (intOf vi).toNat)
  case atStart => exact ⟨x + 1, y - 1, swp d x p, by go_num, by go_num, by omega, by omega, by omega, size_swp _ _ _, HSW.out, rfl⟩
  case round =>
    clear HSW
    obtain ⟨i, j, di, rfl, rfl, hxi, hij, hjy, hsi, hR, hO⟩ := hrel
    obtain ⟨G, hG⟩ : ∃ G : Nat → Int, ∀ t, G t = di[t]! := ⟨fun t => di[t]!, fun _ => rfl⟩
    have HG := Lib.hid hG
    have HR := Lib.hid hR
    clear hG hR
    go_wp2
    go_loopw [9] (fun vi w1 => ∃ i1 : Nat, vi = .int .i64 (i1 : Int) ∧ i ≤ i1 ∧ i1 ≤ j + 1 ∧ Rw w b o di w1 ∧ Hid (scanUp (fun z => !ltInt di[x]! z) di j i1 = scanUp (fun z => !ltInt di[x]! z) di j i)) (fun vi _ => j + 1 - (intOf vi).toNat)
    case atStart => exact ⟨i, rfl, Nat.le_refl _, hij, HR.out, rfl⟩
    case round =>
      clear HR
      obtain ⟨i1, rfl, hi1, hi2, hR1, hS⟩ := hrel
      obtain ⟨hcell, hfro⟩ := cellsG HG.out hR1 hH hsi
      have HR1 := Lib.hid hR1
      clear hR1
      by_cases hle : i1 ≤ j
      · have z_le : (i1 : Int) ≤ (j : Int) := by omega
        have c_i1 : i1 < d.size := by omega
        have z_i1 : (i1 : Int) < (d.size : Int) := by omega
        cases hl : ltInt (G x) (G i1)
        · go_wp2
          go_quiet (first | (go_at_call 46; refine Calls.quiet_of_same (less_any _ _ _)))
          go_wp2
          go_roundw
          case rel => exact ⟨i1 + 1, by go_num, by omega, by omega, HR1.out.drew _, (scanUp_go (fun z => !ltInt di[x]! z) di j i1 hle (by show (!ltInt di[x]! di[i1]!) = true; rw [← HG.out, ← HG.out, hl]; rfl)).symm.trans hS.out⟩
          case measure => simp [intOf]; omega
        · go_wp2
          go_quiet (first | (go_at_call 46; refine Calls.quiet_of_same (less_any _ _ _)))
          go_wp2
          have hi3 := Lib.hid ((scanUp_end (fun z => !ltInt di[x]! z) di j i1 (Or.inr (by show (!ltInt di[x]! di[i1]!) = false; rw [← HG.out, ← HG.out, hl]; rfl))).symm.trans hS.out)
          have HRd := Lib.hid (HR1.out.drew nq)
          clear hcell hfro HR1 hS
          go_loopw [10] (fun vj w2 => ∃ j1 : Nat, vj = .int .i64 (j1 : Int) ∧ j1 ≤ j ∧ i1 ≤ j1 + 1 ∧ Rw w b o di w2 ∧ Hid (scanDown (fun z => ltInt di[x]! z) di i1 j1 = scanDown (fun z => ltInt di[x]! z) di i1 j)) (fun vj _ => (intOf vj).toNat)
          case atStart => exact ⟨j, rfl, Nat.le_refl _, hi2, HRd.out, rfl⟩
          case round =>
            clear HRd
            obtain ⟨j1, rfl, hj1, hj2, hR2, hT⟩ := hrel
            obtain ⟨hcell, hfro⟩ := cellsG HG.out hR2 hH hsi
            have HR2 := Lib.hid hR2
            clear hR2
            by_cases hle2 : i1 ≤ j1
            · have z_le : (i1 : Int) ≤ (j1 : Int) := by omega
              have c_j1 : j1 < d.size := by omega
              have z_j1 : (j1 : Int) < (d.size : Int) := by omega
              cases hl2 : ltInt (G x) (G j1)
              · go_wp2
                go_quiet (first | (go_at_call 46; refine Calls.quiet_of_same (less_any _ _ _)))
                go_wp2
                have hj3 := Lib.hid ((scanDown_end (fun z => ltInt di[x]! z) di i1 j1 (Or.inr (by show ltInt di[x]! di[j1]! = false; rw [← HG.out, ← HG.out]; exact hl2))).symm.trans hT.out)
                have HR3 := Lib.hid (HR2.out.drew nq)
                have hcell2 : ∀ t, t < d.size → (wr.drewN nq).cell? ⟨b, o + t, none⟩ = some (.int .u64 (G t)) := hcell
                have hfro2 : ∀ t, t < d.size → (wr.drewN nq).frozen? ⟨b, o + t, none⟩ = false := hfro
                generalize wr.drewN nq = W2 at HR3 hcell2 hfro2 ⊢
                clear hcell hfro HR2 hT
                have hlt3 := scans_lt ltInt x i j di (by omega) hi3.out hj3.out hle2
                have hne : ¬ i1 = j1 := by omega
                have hne2 : ¬ j1 = i1 := by omega
                have c_i1 : i1 < d.size := by omega
                have z_i1 : (i1 : Int) < (d.size : Int) := by omega
                go_wp2
                go_region
                all_goals go_wp2
                all_goals go_roundw
                case rel =>
                  refine ⟨i1 + 1, j1 - 1, swp di i1 j1, by go_num, by go_num, by omega, by omega, by omega, by rw [size_swp]; exact hsi, ?_, ?_⟩
                  · rw [HG.out, HG.out]
                    exact HR3.out.swap _ i1 j1 (by omega) (by omega)
                  · show _ = _
                    rw [← hO.out]
                    exact (partEq_go ltInt x i j di hi3.out hj3.out (by omega)).symm
                case measure => simp [intOf]; omega
              · go_wp2
                go_quiet (first | (go_at_call 46; refine Calls.quiet_of_same (less_any _ _ _)))
                go_wp2
                go_roundw
                case rel => exact ⟨j1 - 1, by go_num, by omega, by omega, HR2.out.drew _, (scanDown_go (fun z => ltInt di[x]! z) di i1 j1 hle2 (by omega) (by show ltInt di[x]! di[j1]! = true; rw [← HG.out, ← HG.out]; exact hl2)).symm.trans hT.out⟩
                case measure => simp [intOf]; omega
            · skip
              have hj3 := Lib.hid ((scanDown_end (fun z => ltInt di[x]! z) di i1 j1 (Or.inl hle2)).symm.trans hT.out)
              have zn : ¬ (i1 : Int) ≤ (j1 : Int) := by omega
              go_wp2
              go_quiet (first | (go_at_call 46; refine Calls.quiet_of_same (less_any _ _ _)))
              go_wp2
              go_ret
              have e := partEq_break ltInt x i j di hi3.out hj3.out (by omega)
              refine ⟨?_, ?_⟩
              · unfold partitionEqual; rw [← hO.out, e]; rfl
              · unfold partitionEqual; rw [← hO.out, e]; exact HR2.out.drew _
      · have z_le : ¬ (i1 : Int) ≤ (j : Int) := by omega
        go_wp2
        go_quiet (first | (go_at_call 46; refine Calls.quiet_of_same (less_any _ _ _)))
        go_wp2
        have hi3 := Lib.hid ((scanUp_end (fun z => !ltInt di[x]! z) di j i1 (Or.inl hle)).symm.trans hS.out)
        have HRd := Lib.hid (HR1.out.drew nq)
        clear hcell hfro HR1 hS
        go_loopw [10] (fun vj w2 => ∃ j1 : Nat, vj = .int .i64 (j1 : Int) ∧ j1 ≤ j ∧ i1 ≤ j1 + 1 ∧ Rw w b o di w2 ∧ Hid (scanDown (fun z => ltInt di[x]! z) di i1 j1 = scanDown (fun z => ltInt di[x]! z) di i1 j)) (fun vj _ => (intOf vj).toNat)
        case atStart => exact ⟨j, rfl, Nat.le_refl _, hi2, HRd.out, rfl⟩
        case round =>
          clear HRd
          obtain ⟨j1, rfl, hj1, hj2, hR2, hT⟩ := hrel
          obtain ⟨hcell, hfro⟩ := cellsG HG.out hR2 hH hsi
          have HR2 := Lib.hid hR2
          clear hR2
          by_cases hle2 : i1 ≤ j1
          · exfalso; omega
          · skip
            have hj3 := Lib.hid ((scanDown_end (fun z => ltInt di[x]! z) di i1 j1 (Or.inl hle2)).symm.trans hT.out)
            have zn : ¬ (i1 : Int) ≤ (j1 : Int) := by omega
            go_wp2
            go_quiet (first | (go_at_call 46; refine Calls.quiet_of_same (less_any _ _ _)))
            go_wp2
            go_ret
            have e := partEq_break ltInt x i j di hi3.out hj3.out (by omega)
            refine ⟨?_, ?_⟩
            · unfold partitionEqual; rw [← hO.out, e]; rfl
            · unfold partitionEqual; rw [← hO.out, e]; exact HR2.out.drew _
end Go.Proofs.Ytlembnpplnbagaa.Lt
