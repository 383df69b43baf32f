/- The library's sort at []uint64: siftDown. -/
import Derived.Test.YtlembnpplnbagaaSrtA
import Derived.Deep.DeepCutAuto
namespace Go.Proofs.Ytlembnpplnbagaa.Lt
open Go.RowKit Go.Sort

set_option maxRecDepth 100000 in
set_option maxHeartbeats 8000000 in
theorem siftDown_any (b o c lo h F : Nat) (d : Array Int) (w : World) (hH : Holds (Value.int .u64) w b o d) (hlo : lo ≤ h) (hF : F + h ≤ d.size) (hz : d.size < 2305843009213693952) :
    Calls Try.prog 51 #[.slice (some ⟨b, o, none⟩) d.size c, .int .i64 (lo : Int), .int .i64 (h : Int), .int .i64 (F : Int)] w fun e w' =>
      e = .returned (.tuple #[]) ∧ Rw w b o (siftDown ltInt h F lo d) w' := by
  go_enter Try.func51, Try.ntmps51
  go_wp2
  go_loopw [8] (fun vr wr => ∃ (r : Nat) (di : Array Int), vr = .int .i64 (r : Int) ∧ r ≤ h ∧ di.size = d.size ∧ Rw w b o di wr ∧ Hid (siftDown ltInt h F r di = siftDown ltInt h F lo d)) (fun vr _ => h - (intOf vr).toNat)
  case atStart => exact ⟨lo, d, rfl, hlo, rfl, Rw.start hH, rfl⟩
  case round =>
    obtain ⟨r, di, rfl, hr, hsi, hR, hO⟩ := hrel
    obtain ⟨ch, hch⟩ : ∃ ch, ch = 2 * r + 1 := ⟨_, rfl⟩
    go_upto_region 2 with (fail)
    rw [show 2 * (r : Int) + 1 = (ch : Int) by omega]
    by_cases hend : ch < h
    · obtain ⟨c1, hc1⟩ : ∃ c1, c1 = ch + 1 := ⟨_, rfl⟩
      obtain ⟨p, hp⟩ : ∃ p, p = F + ch := ⟨_, rfl⟩
      obtain ⟨p1, hp1⟩ : ∃ p1, p1 = F + c1 := ⟨_, rfl⟩
      obtain ⟨q, hq⟩ : ∃ q, q = F + r := ⟨_, rfl⟩
      have e2 : (ch : Int) + 1 = (c1 : Int) := by omega
      have e3 : (F : Int) + (ch : Int) = (p : Int) := by omega
      have e4 : (p : Int) + 1 = (p1 : Int) := by omega
      have e5 : (F : Int) + (c1 : Int) = (p1 : Int) := by omega
      have e6 : (F : Int) + (r : Int) = (q : Int) := by omega
      have w2 : IntKind.i64.wrap (c1 : Int) = (c1 : Int) := IntWalk.i64_in _ ⟨by omega, by omega⟩
      have w3 : IntKind.i64.wrap (p : Int) = (p : Int) := IntWalk.i64_in _ ⟨by omega, by omega⟩
      have w4 : IntKind.i64.wrap (p1 : Int) = (p1 : Int) := IntWalk.i64_in _ ⟨by omega, by omega⟩
      have w6 : IntKind.i64.wrap (q : Int) = (q : Int) := IntWalk.i64_in _ ⟨by omega, by omega⟩
      have z1 : (ch : Int) < (h : Int) := by omega
      have z0 : ¬ h ≤ ch := by omega
      have z2 : (p : Int) < (d.size : Int) := by omega
      have z3 : (q : Int) < (d.size : Int) := by omega
      obtain ⟨G, hG, hcell, hfro⟩ := fam hR hH hsi
      have HG := Lib.hid hG
      have HR := Lib.hid hR
      clear hR hG
      have gp : di[F + (2 * r + 1)]! = G p := by rw [HG.out, hp, hch]
      have gp1 : di[F + (2 * r + 2)]! = G p1 := by rw [HG.out, hp1, hc1, hch]
      have gq : di[F + r]! = G q := by rw [HG.out, hq]
      have GP := Lib.hid gp
      have GP1 := Lib.hid gp1
      have GQ := Lib.hid gq
      have sP : swp di (F + r) (F + (2 * r + 1)) = swp di q p := by rw [hq, hp, hch]
      have sP1 : swp di (F + r) (F + (2 * r + 2)) = swp di q p1 := by rw [hq, hp1, hc1, hch]
      have SP := Lib.hid sP
      have SP1 := Lib.hid sP1
      have rC : 2 * r + 1 = ch := by omega
      have rC1 : 2 * r + 2 = c1 := by omega
      have RC := Lib.hid rC
      have RC1 := Lib.hid rC1
      have hbig : r < ch ∧ ch < c1 ∧ c1 ≤ h ∧ q < d.size ∧ p < d.size ∧ (c1 < h → p1 < d.size) ∧ q < p ∧ q < p1 := ⟨by omega, by omega, by omega, by omega, by omega, fun _ => by omega, by omega, by omega⟩
      have HBIG := Lib.hid hbig
      clear gp gp1 gq sP sP1 rC rC1 hbig
      have hsd2 : ¬ c1 < h → 2 * r + 2 < h → False := fun h1 h2 => by omega
      have hsd3 : 2 * r + 1 < h := by omega
      have hsd4 : c1 < h → 2 * r + 2 < h := fun h1 => by omega
      have hp1s : c1 < h → (p1 : Int) < (d.size : Int) := fun _ => by omega
      have SD2 := Lib.hid hsd2
      have SD3 := Lib.hid hsd3
      have SD4 := Lib.hid hsd4
      have P1S := Lib.hid hp1s
      clear hch hc1 hp hp1 hq hsd2 hsd3 hsd4 hp1s
      by_cases hc : c1 < h
      · have z4 : (c1 : Int) < (h : Int) := by omega
        have z5 : (p1 : Int) < (d.size : Int) := P1S.out hc
        cases hl2 : ltInt (G p) (G p1)
        · go_wp2
          go_quiet (first | (go_at_call 46; refine Calls.quiet_of_same (less_any _ _ _)))
          have HR2 := Lib.hid (HR.out.drew nq)
          have hcell2 : ∀ t, t < d.size → (wr.drewN nq).cell? ⟨b, o + t, none⟩ = some (.int .u64 (G t)) := hcell
          have hfro2 : ∀ t, t < d.size → (wr.drewN nq).frozen? ⟨b, o + t, none⟩ = false := hfro
          generalize wr.drewN nq = W2 at HR2 hcell2 hfro2 ⊢
          clear hcell hfro HR
          cases hl3 : ltInt (G q) (G p)
          · have HS := Lib.hid (show siftDown ltInt h F r di = di from sd_left_stop ltInt di SD3.out (fun _ => by rw [GP.out, GP1.out]; exact hl2) (by rw [GQ.out, GP.out]; exact hl3))
            go_wp2
            go_quiet (first | (go_at_call 46; refine Calls.quiet_of_same (less_any _ _ _)))
            go_wp2
            (try simp only [Exit.inBlock, Exit.then])
            refine bodyPost_ret (results_none rfl _ _ _) rfl ?_
            exact ⟨rfl, by rw [← hO.out, HS.out]; exact HR2.out.drew _⟩
          · have HS := Lib.hid (show siftDown ltInt h F r di = siftDown ltInt h F ch (swp di q p) from (by rw [← SP.out, ← RC.out]; exact sd_left_go ltInt di SD3.out (fun _ => by rw [GP.out, GP1.out]; exact hl2) (by rw [GQ.out, GP.out]; exact hl3)))
            go_wp2
            go_quiet (first | (go_at_call 46; refine Calls.quiet_of_same (less_any _ _ _)))
            go_wp2
            have hne : ¬ q = p := by have := HBIG.out; omega
            have hne2 : ¬ p = q := by have := HBIG.out; omega
            have hne3 : q < p := by have := HBIG.out; omega
            go_region
            all_goals go_wp2
            go_roundw
            case rel =>
              refine ⟨ch, swp di q p, rfl, by have := HBIG.out; omega, by rw [size_swp]; exact hsi, ?_, ?_⟩
              · rw [HG.out, HG.out]
                exact HR2.out.swap _ q p (by have := HBIG.out; omega) (by have := HBIG.out; omega)
              · show _ = _
                rw [← hO.out, HS.out]
            case measure => have := HBIG.out; simp [intOf]; omega
        · go_wp2
          go_quiet (first | (go_at_call 46; refine Calls.quiet_of_same (less_any _ _ _)))
          have HR2 := Lib.hid (HR.out.drew nq)
          have hcell2 : ∀ t, t < d.size → (wr.drewN nq).cell? ⟨b, o + t, none⟩ = some (.int .u64 (G t)) := hcell
          have hfro2 : ∀ t, t < d.size → (wr.drewN nq).frozen? ⟨b, o + t, none⟩ = false := hfro
          generalize wr.drewN nq = W2 at HR2 hcell2 hfro2 ⊢
          clear hcell hfro HR
          cases hl3 : ltInt (G q) (G p1)
          · have HS := Lib.hid (show siftDown ltInt h F r di = di from sd_right_stop ltInt di (SD4.out hc) (by rw [GP.out, GP1.out]; exact hl2) (by rw [GQ.out, GP1.out]; exact hl3))
            go_wp2
            go_quiet (first | (go_at_call 46; refine Calls.quiet_of_same (less_any _ _ _)))
            go_wp2
            (try simp only [Exit.inBlock, Exit.then])
            refine bodyPost_ret (results_none rfl _ _ _) rfl ?_
            exact ⟨rfl, by rw [← hO.out, HS.out]; exact HR2.out.drew _⟩
          · have HS := Lib.hid (show siftDown ltInt h F r di = siftDown ltInt h F c1 (swp di q p1) from (by rw [← SP1.out, ← RC1.out]; exact sd_right_go ltInt di (SD4.out hc) (by rw [GP.out, GP1.out]; exact hl2) (by rw [GQ.out, GP1.out]; exact hl3)))
            go_wp2
            go_quiet (first | (go_at_call 46; refine Calls.quiet_of_same (less_any _ _ _)))
            go_wp2
            have hne : ¬ q = p1 := by have := HBIG.out; omega
            have hne2 : ¬ p1 = q := by have := HBIG.out; omega
            have hne3 : q < p1 := by have := HBIG.out; omega
            go_region
            all_goals go_wp2
            go_roundw
            case rel =>
              refine ⟨c1, swp di q p1, rfl, by have := HBIG.out; omega, by rw [size_swp]; exact hsi, ?_, ?_⟩
              · rw [HG.out, HG.out]
                exact HR2.out.swap _ q p1 (by have := HBIG.out; omega) (by have := HBIG.out; omega)
              · show _ = _
                rw [← hO.out, HS.out]
            case measure => have := HBIG.out; simp [intOf]; omega
      · have z4 : ¬ (c1 : Int) < (h : Int) := by omega
        go_wp2
        go_quiet (first | (go_at_call 46; refine Calls.quiet_of_same (less_any _ _ _)))
        have HR2 := Lib.hid (HR.out.drew nq)
        have hcell2 : ∀ t, t < d.size → (wr.drewN nq).cell? ⟨b, o + t, none⟩ = some (.int .u64 (G t)) := hcell
        have hfro2 : ∀ t, t < d.size → (wr.drewN nq).frozen? ⟨b, o + t, none⟩ = false := hfro
        generalize wr.drewN nq = W2 at HR2 hcell2 hfro2 ⊢
        clear hcell hfro HR
        cases hl3 : ltInt (G q) (G p)
        · have HS := Lib.hid (show siftDown ltInt h F r di = di from sd_left_stop ltInt di SD3.out (fun hh => (SD2.out hc hh).elim) (by rw [GQ.out, GP.out]; exact hl3))
          go_wp2
          go_quiet (first | (go_at_call 46; refine Calls.quiet_of_same (less_any _ _ _)))
          go_wp2
          (try simp only [Exit.inBlock, Exit.then])
          refine bodyPost_ret (results_none rfl _ _ _) rfl ?_
          exact ⟨rfl, by rw [← hO.out, HS.out]; exact HR2.out.drew _⟩
        · have HS := Lib.hid (show siftDown ltInt h F r di = siftDown ltInt h F ch (swp di q p) from (by rw [← SP.out, ← RC.out]; exact sd_left_go ltInt di SD3.out (fun hh => (SD2.out hc hh).elim) (by rw [GQ.out, GP.out]; exact hl3)))
          go_wp2
          go_quiet (first | (go_at_call 46; refine Calls.quiet_of_same (less_any _ _ _)))
          go_wp2
          have hne : ¬ q = p := by have := HBIG.out; omega
          have hne2 : ¬ p = q := by have := HBIG.out; omega
          have hne3 : q < p := by have := HBIG.out; omega
          go_region
          all_goals go_wp2
          go_roundw
          case rel =>
            refine ⟨ch, swp di q p, rfl, by have := HBIG.out; omega, by rw [size_swp]; exact hsi, ?_, ?_⟩
            · rw [HG.out, HG.out]
              exact HR2.out.swap _ q p (by have := HBIG.out; omega) (by have := HBIG.out; omega)
            · show _ = _
              rw [← hO.out, HS.out]
          case measure => have := HBIG.out; simp [intOf]; omega
    · have z1 : ¬ (ch : Int) < (h : Int) := by omega
      have z0 : h ≤ ch := by omega
      have HS := Lib.hid (show siftDown ltInt h F r di = di from sd_end ltInt di (by omega))
      clear hch
      go_wp2
      go_end0
      exact ⟨rfl, by rw [← hO.out, HS.out]; exact hR⟩
end Go.Proofs.Ytlembnpplnbagaa.Lt
