/- The library's sort at []uint64: partialInsertionSort. -/
import Derived.Sort.WalkA6
import Derived.Test.YtlembnpplnbagaaSrtD
namespace Go.Proofs.Ytlembnpplnbagaa.Lt
open Go.RowKit Go.Sort

set_option maxRecDepth 100000 in
set_option maxHeartbeats 32000000 in
theorem partial_any (b o c x y : Nat) (d : Array Int) (w : World) (hH : Holds (Value.int .u64) w b o d) (hxy : x < y) (hy : y ≤ d.size) (hz : d.size < 2305843009213693952) :
    Calls Try.prog 45 #[.slice (some ⟨b, o, none⟩) d.size c, .int .i64 (x : Int), .int .i64 (y : Int)] w fun e w' =>
      e = .returned (.bool (partialInsertionSort ltInt d x y).2) ∧ Rw w b o (partialInsertionSort ltInt d x y).1 w' := by
  obtain ⟨m0, hm0⟩ : ∃ m0, m0 = y - x := ⟨_, rfl⟩
  have zm0 : (y : Int) - (x : Int) = (m0 : Int) := by omega
  have wm0 : IntKind.i64.wrap (m0 : Int) = (m0 : Int) := IntWalk.i64_in _ ⟨by omega, by omega⟩
  have HM0 := Lib.hid hm0
  clear hm0
  go_enter Try.func45, Try.ntmps45
  go_wp2
  go_loopw [7, 8] (fun vi vs wr => ∃ (i s : Nat) (di : Array Int), vi = .int .i64 (i : Int) ∧ vs = .int .i64 (s : Int) ∧ s ≤ 5 ∧ x < i ∧ i ≤ y ∧ di.size = d.size ∧ Rw w b o di wr ∧ Hid (partialIns ltInt x y (5 - s) i di = partialIns ltInt x y 5 (x + 1) d)) (fun _ vs _ => 5 - (intOf vs).toNat)
  case atStart => exact ⟨x + 1, 0, d, by go_num, rfl, by omega, by omega, by omega, rfl, Rw.start hH, rfl⟩
  case round =>
    obtain ⟨i, s, di, rfl, rfl, hs5, hxi, hiy, hsi, hR, hO⟩ := hrel
    have HR := Lib.hid hR
    clear hR
    by_cases hs : s < 5
    · have zs : (s : Int) < 5 := by omega
      go_wp2
      go_loopw [7] (fun vi w1 => ∃ k : Nat, vi = .int .i64 (k : Int) ∧ i ≤ k ∧ k ≤ y ∧ Rw w b o di w1 ∧ Hid (scanSorted ltInt di y k = scanSorted ltInt di y i)) (fun vi _ => y - (intOf vi).toNat)
      case atStart => exact ⟨i, rfl, Nat.le_refl _, hiy, HR.out, rfl⟩
      case round =>
        clear HR
        obtain ⟨k, rfl, hik, hky, hR1, hS⟩ := hrel
        obtain ⟨G, hG⟩ : ∃ G : Nat → Int, ∀ t, G t = di[t]! := ⟨fun t => di[t]!, fun _ => rfl⟩
        obtain ⟨hcell, hfro⟩ := cellsG hG hR1 hH hsi
        have HG := Lib.hid hG
        have HRx := Lib.hid hR1
        clear hG hR1
        by_cases hk : k < y
        · obtain ⟨l, hl⟩ : ∃ l, l = k - 1 := ⟨_, rfl⟩
          have zl : (k : Int) - 1 = (l : Int) := by omega
          have wl : IntKind.i64.wrap (l : Int) = (l : Int) := IntWalk.i64_in _ ⟨by omega, by omega⟩
          have c_k : k < d.size := by omega
          have z_k : (k : Int) < (d.size : Int) := by omega
          have c_l : l < d.size := by omega
          have z_l : (l : Int) < (d.size : Int) := by omega
          have z_ky : (k : Int) < (y : Int) := by omega
          have n_kl : ¬ k = l := by omega
          have n_lk : ¬ l = k := by omega
          have z_ne : ¬ (k : Int) = (y : Int) := by omega
          have HL := Lib.hid hl
          clear hl
          cases hlt : ltInt (G k) (G l)
          · go_wp2
            go_quiet (first | (go_at_call 46; refine Calls.quiet_of_same (less_any _ _ _)))
            go_wp2
            go_roundw
            case rel => exact ⟨k + 1, by go_num, by omega, by omega, HRx.out.drew _, by show _ = _; rw [← hS.out, scanSorted_go ltInt di y k hk (by rw [← HL.out, ← HG.out, ← HG.out]; exact hlt)]⟩
            case measure => simp [intOf]; omega
          · have HK := Lib.hid (show scanSorted ltInt di y i = k from by rw [← hS.out, scanSorted_stop ltInt di y k (Or.inr (by rw [← HL.out, ← HG.out, ← HG.out]; exact hlt))])
            by_cases h50 : y - x < 50
            · have z50 : (m0 : Int) < 50 := by have := HM0.out; omega
              go_wp2
              go_quiet (first | (go_at_call 46; refine Calls.quiet_of_same (less_any _ _ _)))
              go_wp2
              go_ret
              have hv : partialInsertionSort ltInt d x y = (di, false) := by
                unfold partialInsertionSort
                rw [← hO.out, pi_short ltInt x y s i di hs (by rw [HK.out]; omega) h50]
              rw [hv]
              exact ⟨rfl, HRx.out.drew _⟩
            · have z50 : ¬ (m0 : Int) < 50 := by have := HM0.out; omega
              obtain ⟨m1, hm1⟩ : ∃ m1, m1 = k - x := ⟨_, rfl⟩
              obtain ⟨m2, hm2⟩ : ∃ m2, m2 = y - k := ⟨_, rfl⟩
              have zm1 : (k : Int) - (x : Int) = (m1 : Int) := by omega
              have zm2 : (y : Int) - (k : Int) = (m2 : Int) := by omega
              have wm1 : IntKind.i64.wrap (m1 : Int) = (m1 : Int) := IntWalk.i64_in _ ⟨by omega, by omega⟩
              have wm2 : IntKind.i64.wrap (m2 : Int) = (m2 : Int) := IntWalk.i64_in _ ⟨by omega, by omega⟩
              have HM1 := Lib.hid hm1
              have HM2 := Lib.hid hm2
              clear hm1 hm2
              go_wp2
              go_quiet (first | (go_at_call 46; refine Calls.quiet_of_same (less_any _ _ _)))
              go_wp2_with fail
              have HRn := Lib.hid (HRx.out.drew nq)
              have hcell2 : ∀ t, t < d.size → (wr.drewN nq).cell? ⟨b, o + t, none⟩ = some (.int .u64 (G t)) := hcell
              have hfro2 : ∀ t, t < d.size → (wr.drewN nq).frozen? ⟨b, o + t, none⟩ = false := hfro
              generalize wr.drewN nq = W2 at HRn hcell2 hfro2 ⊢
              clear hcell hfro
              clear HRx
              obtain ⟨e0, he0⟩ : ∃ e0, e0 = swp di k l := ⟨_, rfl⟩
              have hse : e0.size = d.size := by rw [he0, size_swp]; exact hsi
              have hR4 := HRn.out.swap 1 k l (by omega) (by omega)
              rw [← he0, ← HG.out, ← HG.out] at hR4
              have HR4 := Lib.hid hR4
              have HE0 := Lib.hid (show e0 = swp di k (k - 1) from by rw [he0, HL.out])
              clear he0 hR4
              by_cases ha : 2 ≤ k - x
              · have zA : 2 ≤ (m1 : Int) := by have := HM1.out; omega
                by_cases hb : 2 ≤ y - k
                · have zB : 2 ≤ (m2 : Int) := by have := HM2.out; omega
                  go_wp2
                  go_region
                  go_wp2
                  clear hcell2 hfro2 HRn
                  go_loopw [9] (fun vj w2 => ∃ (j1 : Nat) (dj : Array Int), vj = .int .i64 (j1 : Int) ∧ j1 ≤ l ∧ dj.size = d.size ∧ Rw w b o dj w2 ∧ Hid (shiftDown ltInt j1 dj = shiftDown ltInt l e0)) (fun vj _ => (intOf vj).toNat)
                  case atStart => exact ⟨l, e0, rfl, Nat.le_refl _, hse, HR4.out, rfl⟩
                  case round =>
                    clear HR4
                    obtain ⟨j1, dj, rfl, hjl1, hsj, hR3, hDn⟩ := hrel
                    obtain ⟨G, hG⟩ : ∃ G : Nat → Int, ∀ t, G t = dj[t]! := ⟨fun t => dj[t]!, fun _ => rfl⟩
                    obtain ⟨hcell, hfro⟩ := cellsG hG hR3 hH hsj
                    have HG := Lib.hid hG
                    have HRx := Lib.hid hR3
                    clear hG hR3
                    by_cases hj1 : 1 ≤ j1
                    · obtain ⟨q, hq⟩ : ∃ q, q = j1 - 1 := ⟨_, rfl⟩
                      have zq : (j1 : Int) - 1 = (q : Int) := by omega
                      have wq : IntKind.i64.wrap (q : Int) = (q : Int) := IntWalk.i64_in _ ⟨by omega, by omega⟩
                      have c_j : j1 < d.size := by omega
                      have z_j : (j1 : Int) < (d.size : Int) := by omega
                      have c_q : q < d.size := by omega
                      have z_q : (q : Int) < (d.size : Int) := by omega
                      have z_j1 : 1 ≤ (j1 : Int) := by omega
                      have n1 : ¬ j1 = q := by omega
                      have n2 : ¬ q = j1 := by omega
                      have HQ := Lib.hid hq
                      clear hq
                      cases hl2 : ltInt (G j1) (G q)
                      · go_wp2
                        go_quiet (first | (go_at_call 46; refine Calls.quiet_of_same (less_any _ _ _)))
                        go_wp2
                        have H1 := Lib.hid (show fixDown ltInt x k e0 = dj from by unfold fixDown; rw [if_pos (by omega), ← HL.out, ← hDn.out, shiftDown_stop ltInt j1 dj (Or.inr (by rw [← HQ.out, ← HG.out, ← HG.out]; exact hl2))])
                        have HRu := Lib.hid (HRx.out.drew nq)
                        (try clear HRx)
                        go_loopw [10] (fun vj w2 => ∃ (j2 : Nat) (du : Array Int), vj = .int .i64 (j2 : Int) ∧ k + 1 ≤ j2 ∧ j2 ≤ y ∧ du.size = d.size ∧ Rw w b o du w2 ∧ Hid (shiftUp ltInt y j2 du = shiftUp ltInt y (k + 1) dj)) (fun vj _ => y - (intOf vj).toNat)
                        case atStart => exact ⟨k + 1, dj, by go_num, Nat.le_refl _, by omega, hsj, HRu.out, rfl⟩
                        case round =>
                          clear HRu
                          obtain ⟨j2, du, rfl, hkj, hjy, hsu, hR3, hU⟩ := hrel
                          obtain ⟨G, hG⟩ : ∃ G : Nat → Int, ∀ t, G t = du[t]! := ⟨fun t => du[t]!, fun _ => rfl⟩
                          obtain ⟨hcell, hfro⟩ := cellsG hG hR3 hH hsu
                          have HG := Lib.hid hG
                          have HRx := Lib.hid hR3
                          clear hG hR3
                          by_cases hjl : j2 < y
                          · obtain ⟨q, hq⟩ : ∃ q, q = j2 - 1 := ⟨_, rfl⟩
                            have zq : (j2 : Int) - 1 = (q : Int) := by omega
                            have wq : IntKind.i64.wrap (q : Int) = (q : Int) := IntWalk.i64_in _ ⟨by omega, by omega⟩
                            have c_j : j2 < d.size := by omega
                            have z_j : (j2 : Int) < (d.size : Int) := by omega
                            have c_q : q < d.size := by omega
                            have z_q : (q : Int) < (d.size : Int) := by omega
                            have z_jy : (j2 : Int) < (y : Int) := by omega
                            have n1 : ¬ j2 = q := by omega
                            have n2 : ¬ q = j2 := by omega
                            have HQ := Lib.hid hq
                            clear hq
                            cases hl3 : ltInt (G j2) (G q)
                            · go_wp2
                              go_quiet (first | (go_at_call 46; refine Calls.quiet_of_same (less_any _ _ _)))
                              go_wp2
                              have H2 := Lib.hid (show fixUp ltInt y k dj = du from by unfold fixUp; rw [if_pos (by omega), ← hU.out, shiftUp_stop ltInt y j2 du (Or.inr (by rw [← HQ.out, ← HG.out, ← HG.out]; exact hl3))])
                              go_roundw
                              case rel =>
                                refine ⟨k, s + 1, du, rfl, by go_num, by omega, by omega, by omega, hsu, HRx.out.drew nq, ?_⟩
                                show _ = _
                                rw [← hO.out, pi_go ltInt x y s i k di hs HK.out (by omega) (by omega), ← HE0.out, H1.out, H2.out]
                              case measure => simp [intOf]; omega
                            · go_wp2
                              go_quiet (first | (go_at_call 46; refine Calls.quiet_of_same (less_any _ _ _)))
                              go_wp2_with fail
                              have HRn := Lib.hid (HRx.out.drew nq)
                              have hcell2 : ∀ t, t < d.size → (wr.drewN nq).cell? ⟨b, o + t, none⟩ = some (.int .u64 (G t)) := hcell
                              have hfro2 : ∀ t, t < d.size → (wr.drewN nq).frozen? ⟨b, o + t, none⟩ = false := hfro
                              generalize wr.drewN nq = W2 at HRn hcell2 hfro2 ⊢
                              clear hcell hfro
                              go_wp2
                              go_region
                              all_goals go_wp2
                              go_roundw
                              case rel =>
                                refine ⟨j2 + 1, swp du j2 q, by go_num, by omega, by omega, by rw [size_swp]; exact hsu, ?_, ?_⟩
                                · rw [HG.out, HG.out]
                                  exact HRn.out.swap _ j2 q (by omega) (by omega)
                                · show _ = _
                                  rw [← hU.out, shiftUp_go ltInt y j2 du hjl (by rw [← HQ.out, ← HG.out, ← HG.out]; exact hl3), ← HQ.out]
                              case measure => simp [intOf]; omega
                          · have z_jy : ¬ (j2 : Int) < (y : Int) := by omega
                            go_wp2
                            have H2 := Lib.hid (show fixUp ltInt y k dj = du from by unfold fixUp; rw [if_pos (by omega), ← hU.out, shiftUp_stop ltInt y j2 du (Or.inl hjl)])
                            go_roundw
                            case rel =>
                              refine ⟨k, s + 1, du, rfl, by go_num, by omega, by omega, by omega, hsu, HRx.out, ?_⟩
                              show _ = _
                              rw [← hO.out, pi_go ltInt x y s i k di hs HK.out (by omega) (by omega), ← HE0.out, H1.out, H2.out]
                            case measure => simp [intOf]; omega
                      · go_wp2
                        go_quiet (first | (go_at_call 46; refine Calls.quiet_of_same (less_any _ _ _)))
                        go_wp2_with fail
                        have HRn := Lib.hid (HRx.out.drew nq)
                        have hcell2 : ∀ t, t < d.size → (wr.drewN nq).cell? ⟨b, o + t, none⟩ = some (.int .u64 (G t)) := hcell
                        have hfro2 : ∀ t, t < d.size → (wr.drewN nq).frozen? ⟨b, o + t, none⟩ = false := hfro
                        generalize wr.drewN nq = W2 at HRn hcell2 hfro2 ⊢
                        clear hcell hfro
                        go_wp2
                        go_region
                        all_goals go_wp2
                        go_roundw
                        case rel =>
                          refine ⟨q, swp dj j1 q, rfl, by have := HQ.out; omega, by rw [size_swp]; exact hsj, ?_, ?_⟩
                          · rw [HG.out, HG.out]
                            exact HRn.out.swap _ j1 q (by omega) (by omega)
                          · show _ = _
                            rw [← hDn.out, shiftDown_go ltInt j1 dj hj1 (by rw [← HQ.out, ← HG.out, ← HG.out]; exact hl2), ← HQ.out]
                        case measure => have := HQ.out; simp [intOf]; omega
                    · have z_j1 : ¬ 1 ≤ (j1 : Int) := by omega
                      go_wp2
                      have H1 := Lib.hid (show fixDown ltInt x k e0 = dj from by unfold fixDown; rw [if_pos (by omega), ← HL.out, ← hDn.out, shiftDown_stop ltInt j1 dj (Or.inl (by omega))])
                      have HRu := Lib.hid (HRx.out)
                      (try clear HRx)
                      go_loopw [10] (fun vj w2 => ∃ (j2 : Nat) (du : Array Int), vj = .int .i64 (j2 : Int) ∧ k + 1 ≤ j2 ∧ j2 ≤ y ∧ du.size = d.size ∧ Rw w b o du w2 ∧ Hid (shiftUp ltInt y j2 du = shiftUp ltInt y (k + 1) dj)) (fun vj _ => y - (intOf vj).toNat)
                      case atStart => exact ⟨k + 1, dj, by go_num, Nat.le_refl _, by omega, hsj, HRu.out, rfl⟩
                      case round =>
                        clear HRu
                        obtain ⟨j2, du, rfl, hkj, hjy, hsu, hR3, hU⟩ := hrel
                        obtain ⟨G, hG⟩ : ∃ G : Nat → Int, ∀ t, G t = du[t]! := ⟨fun t => du[t]!, fun _ => rfl⟩
                        obtain ⟨hcell, hfro⟩ := cellsG hG hR3 hH hsu
                        have HG := Lib.hid hG
                        have HRx := Lib.hid hR3
                        clear hG hR3
                        by_cases hjl : j2 < y
                        · obtain ⟨q, hq⟩ : ∃ q, q = j2 - 1 := ⟨_, rfl⟩
                          have zq : (j2 : Int) - 1 = (q : Int) := by omega
                          have wq : IntKind.i64.wrap (q : Int) = (q : Int) := IntWalk.i64_in _ ⟨by omega, by omega⟩
                          have c_j : j2 < d.size := by omega
                          have z_j : (j2 : Int) < (d.size : Int) := by omega
                          have c_q : q < d.size := by omega
                          have z_q : (q : Int) < (d.size : Int) := by omega
                          have z_jy : (j2 : Int) < (y : Int) := by omega
                          have n1 : ¬ j2 = q := by omega
                          have n2 : ¬ q = j2 := by omega
                          have HQ := Lib.hid hq
                          clear hq
                          cases hl3 : ltInt (G j2) (G q)
                          · go_wp2
                            go_quiet (first | (go_at_call 46; refine Calls.quiet_of_same (less_any _ _ _)))
                            go_wp2
                            have H2 := Lib.hid (show fixUp ltInt y k dj = du from by unfold fixUp; rw [if_pos (by omega), ← hU.out, shiftUp_stop ltInt y j2 du (Or.inr (by rw [← HQ.out, ← HG.out, ← HG.out]; exact hl3))])
                            go_roundw
                            case rel =>
                              refine ⟨k, s + 1, du, rfl, by go_num, by omega, by omega, by omega, hsu, HRx.out.drew nq, ?_⟩
                              show _ = _
                              rw [← hO.out, pi_go ltInt x y s i k di hs HK.out (by omega) (by omega), ← HE0.out, H1.out, H2.out]
                            case measure => simp [intOf]; omega
                          · go_wp2
                            go_quiet (first | (go_at_call 46; refine Calls.quiet_of_same (less_any _ _ _)))
                            go_wp2_with fail
                            have HRn := Lib.hid (HRx.out.drew nq)
                            have hcell2 : ∀ t, t < d.size → (wr.drewN nq).cell? ⟨b, o + t, none⟩ = some (.int .u64 (G t)) := hcell
                            have hfro2 : ∀ t, t < d.size → (wr.drewN nq).frozen? ⟨b, o + t, none⟩ = false := hfro
                            generalize wr.drewN nq = W2 at HRn hcell2 hfro2 ⊢
                            clear hcell hfro
                            go_wp2
                            go_region
                            all_goals go_wp2
                            go_roundw
                            case rel =>
                              refine ⟨j2 + 1, swp du j2 q, by go_num, by omega, by omega, by rw [size_swp]; exact hsu, ?_, ?_⟩
                              · rw [HG.out, HG.out]
                                exact HRn.out.swap _ j2 q (by omega) (by omega)
                              · show _ = _
                                rw [← hU.out, shiftUp_go ltInt y j2 du hjl (by rw [← HQ.out, ← HG.out, ← HG.out]; exact hl3), ← HQ.out]
                            case measure => simp [intOf]; omega
                        · have z_jy : ¬ (j2 : Int) < (y : Int) := by omega
                          go_wp2
                          have H2 := Lib.hid (show fixUp ltInt y k dj = du from by unfold fixUp; rw [if_pos (by omega), ← hU.out, shiftUp_stop ltInt y j2 du (Or.inl hjl)])
                          go_roundw
                          case rel =>
                            refine ⟨k, s + 1, du, rfl, by go_num, by omega, by omega, by omega, hsu, HRx.out, ?_⟩
                            show _ = _
                            rw [← hO.out, pi_go ltInt x y s i k di hs HK.out (by omega) (by omega), ← HE0.out, H1.out, H2.out]
                          case measure => simp [intOf]; omega
                · have zB : ¬ 2 ≤ (m2 : Int) := by have := HM2.out; omega
                  go_wp2
                  go_region
                  go_wp2
                  clear hcell2 hfro2 HRn
                  go_loopw [9] (fun vj w2 => ∃ (j1 : Nat) (dj : Array Int), vj = .int .i64 (j1 : Int) ∧ j1 ≤ l ∧ dj.size = d.size ∧ Rw w b o dj w2 ∧ Hid (shiftDown ltInt j1 dj = shiftDown ltInt l e0)) (fun vj _ => (intOf vj).toNat)
                  case atStart => exact ⟨l, e0, rfl, Nat.le_refl _, hse, HR4.out, rfl⟩
                  case round =>
                    clear HR4
                    obtain ⟨j1, dj, rfl, hjl1, hsj, hR3, hDn⟩ := hrel
                    obtain ⟨G, hG⟩ : ∃ G : Nat → Int, ∀ t, G t = dj[t]! := ⟨fun t => dj[t]!, fun _ => rfl⟩
                    obtain ⟨hcell, hfro⟩ := cellsG hG hR3 hH hsj
                    have HG := Lib.hid hG
                    have HRx := Lib.hid hR3
                    clear hG hR3
                    by_cases hj1 : 1 ≤ j1
                    · obtain ⟨q, hq⟩ : ∃ q, q = j1 - 1 := ⟨_, rfl⟩
                      have zq : (j1 : Int) - 1 = (q : Int) := by omega
                      have wq : IntKind.i64.wrap (q : Int) = (q : Int) := IntWalk.i64_in _ ⟨by omega, by omega⟩
                      have c_j : j1 < d.size := by omega
                      have z_j : (j1 : Int) < (d.size : Int) := by omega
                      have c_q : q < d.size := by omega
                      have z_q : (q : Int) < (d.size : Int) := by omega
                      have z_j1 : 1 ≤ (j1 : Int) := by omega
                      have n1 : ¬ j1 = q := by omega
                      have n2 : ¬ q = j1 := by omega
                      have HQ := Lib.hid hq
                      clear hq
                      cases hl2 : ltInt (G j1) (G q)
                      · go_wp2
                        go_quiet (first | (go_at_call 46; refine Calls.quiet_of_same (less_any _ _ _)))
                        go_wp2
                        have H1 := Lib.hid (show fixDown ltInt x k e0 = dj from by unfold fixDown; rw [if_pos (by omega), ← HL.out, ← hDn.out, shiftDown_stop ltInt j1 dj (Or.inr (by rw [← HQ.out, ← HG.out, ← HG.out]; exact hl2))])
                        have H2 := Lib.hid (show fixUp ltInt y k dj = dj from by unfold fixUp; rw [if_neg (by omega)])
                        go_roundw
                        case rel =>
                          refine ⟨k, s + 1, dj, rfl, by go_num, by omega, by omega, by omega, hsj, HRx.out.drew nq, ?_⟩
                          show _ = _
                          rw [← hO.out, pi_go ltInt x y s i k di hs HK.out (by omega) (by omega), ← HE0.out, H1.out, H2.out]
                        case measure => simp [intOf]; omega
                      · go_wp2
                        go_quiet (first | (go_at_call 46; refine Calls.quiet_of_same (less_any _ _ _)))
                        go_wp2_with fail
                        have HRn := Lib.hid (HRx.out.drew nq)
                        have hcell2 : ∀ t, t < d.size → (wr.drewN nq).cell? ⟨b, o + t, none⟩ = some (.int .u64 (G t)) := hcell
                        have hfro2 : ∀ t, t < d.size → (wr.drewN nq).frozen? ⟨b, o + t, none⟩ = false := hfro
                        generalize wr.drewN nq = W2 at HRn hcell2 hfro2 ⊢
                        clear hcell hfro
                        go_wp2
                        go_region
                        all_goals go_wp2
                        go_roundw
                        case rel =>
                          refine ⟨q, swp dj j1 q, rfl, by have := HQ.out; omega, by rw [size_swp]; exact hsj, ?_, ?_⟩
                          · rw [HG.out, HG.out]
                            exact HRn.out.swap _ j1 q (by omega) (by omega)
                          · show _ = _
                            rw [← hDn.out, shiftDown_go ltInt j1 dj hj1 (by rw [← HQ.out, ← HG.out, ← HG.out]; exact hl2), ← HQ.out]
                        case measure => have := HQ.out; simp [intOf]; omega
                    · have z_j1 : ¬ 1 ≤ (j1 : Int) := by omega
                      go_wp2
                      have H1 := Lib.hid (show fixDown ltInt x k e0 = dj from by unfold fixDown; rw [if_pos (by omega), ← HL.out, ← hDn.out, shiftDown_stop ltInt j1 dj (Or.inl (by omega))])
                      have H2 := Lib.hid (show fixUp ltInt y k dj = dj from by unfold fixUp; rw [if_neg (by omega)])
                      go_roundw
                      case rel =>
                        refine ⟨k, s + 1, dj, rfl, by go_num, by omega, by omega, by omega, hsj, HRx.out, ?_⟩
                        show _ = _
                        rw [← hO.out, pi_go ltInt x y s i k di hs HK.out (by omega) (by omega), ← HE0.out, H1.out, H2.out]
                      case measure => simp [intOf]; omega
              · have zA : ¬ 2 ≤ (m1 : Int) := by have := HM1.out; omega
                by_cases hb : 2 ≤ y - k
                · have zB : 2 ≤ (m2 : Int) := by have := HM2.out; omega
                  go_wp2
                  go_region
                  go_wp2
                  clear hcell2 hfro2 HRn
                  have H1 := Lib.hid (show fixDown ltInt x k e0 = e0 from by unfold fixDown; rw [if_neg (by omega)])
                  have HRu := Lib.hid (HR4.out)
                  (try clear HRx)
                  go_loopw [10] (fun vj w2 => ∃ (j2 : Nat) (du : Array Int), vj = .int .i64 (j2 : Int) ∧ k + 1 ≤ j2 ∧ j2 ≤ y ∧ du.size = d.size ∧ Rw w b o du w2 ∧ Hid (shiftUp ltInt y j2 du = shiftUp ltInt y (k + 1) e0)) (fun vj _ => y - (intOf vj).toNat)
                  case atStart => exact ⟨k + 1, e0, by go_num, Nat.le_refl _, by omega, hse, HRu.out, rfl⟩
                  case round =>
                    clear HRu
                    obtain ⟨j2, du, rfl, hkj, hjy, hsu, hR3, hU⟩ := hrel
                    obtain ⟨G, hG⟩ : ∃ G : Nat → Int, ∀ t, G t = du[t]! := ⟨fun t => du[t]!, fun _ => rfl⟩
                    obtain ⟨hcell, hfro⟩ := cellsG hG hR3 hH hsu
                    have HG := Lib.hid hG
                    have HRx := Lib.hid hR3
                    clear hG hR3
                    by_cases hjl : j2 < y
                    · obtain ⟨q, hq⟩ : ∃ q, q = j2 - 1 := ⟨_, rfl⟩
                      have zq : (j2 : Int) - 1 = (q : Int) := by omega
                      have wq : IntKind.i64.wrap (q : Int) = (q : Int) := IntWalk.i64_in _ ⟨by omega, by omega⟩
                      have c_j : j2 < d.size := by omega
                      have z_j : (j2 : Int) < (d.size : Int) := by omega
                      have c_q : q < d.size := by omega
                      have z_q : (q : Int) < (d.size : Int) := by omega
                      have z_jy : (j2 : Int) < (y : Int) := by omega
                      have n1 : ¬ j2 = q := by omega
                      have n2 : ¬ q = j2 := by omega
                      have HQ := Lib.hid hq
                      clear hq
                      cases hl3 : ltInt (G j2) (G q)
                      · go_wp2
                        go_quiet (first | (go_at_call 46; refine Calls.quiet_of_same (less_any _ _ _)))
                        go_wp2
                        have H2 := Lib.hid (show fixUp ltInt y k e0 = du from by unfold fixUp; rw [if_pos (by omega), ← hU.out, shiftUp_stop ltInt y j2 du (Or.inr (by rw [← HQ.out, ← HG.out, ← HG.out]; exact hl3))])
                        go_roundw
                        case rel =>
                          refine ⟨k, s + 1, du, rfl, by go_num, by omega, by omega, by omega, hsu, HRx.out.drew nq, ?_⟩
                          show _ = _
                          rw [← hO.out, pi_go ltInt x y s i k di hs HK.out (by omega) (by omega), ← HE0.out, H1.out, H2.out]
                        case measure => simp [intOf]; omega
                      · go_wp2
                        go_quiet (first | (go_at_call 46; refine Calls.quiet_of_same (less_any _ _ _)))
                        go_wp2_with fail
                        have HRn := Lib.hid (HRx.out.drew nq)
                        have hcell2 : ∀ t, t < d.size → (wr.drewN nq).cell? ⟨b, o + t, none⟩ = some (.int .u64 (G t)) := hcell
                        have hfro2 : ∀ t, t < d.size → (wr.drewN nq).frozen? ⟨b, o + t, none⟩ = false := hfro
                        generalize wr.drewN nq = W2 at HRn hcell2 hfro2 ⊢
                        clear hcell hfro
                        go_wp2
                        go_region
                        all_goals go_wp2
                        go_roundw
                        case rel =>
                          refine ⟨j2 + 1, swp du j2 q, by go_num, by omega, by omega, by rw [size_swp]; exact hsu, ?_, ?_⟩
                          · rw [HG.out, HG.out]
                            exact HRn.out.swap _ j2 q (by omega) (by omega)
                          · show _ = _
                            rw [← hU.out, shiftUp_go ltInt y j2 du hjl (by rw [← HQ.out, ← HG.out, ← HG.out]; exact hl3), ← HQ.out]
                        case measure => simp [intOf]; omega
                    · have z_jy : ¬ (j2 : Int) < (y : Int) := by omega
                      go_wp2
                      have H2 := Lib.hid (show fixUp ltInt y k e0 = du from by unfold fixUp; rw [if_pos (by omega), ← hU.out, shiftUp_stop ltInt y j2 du (Or.inl hjl)])
                      go_roundw
                      case rel =>
                        refine ⟨k, s + 1, du, rfl, by go_num, by omega, by omega, by omega, hsu, HRx.out, ?_⟩
                        show _ = _
                        rw [← hO.out, pi_go ltInt x y s i k di hs HK.out (by omega) (by omega), ← HE0.out, H1.out, H2.out]
                      case measure => simp [intOf]; omega
                · exfalso; omega
        · have hke : k = y := by omega
          have z_ky : ¬ (k : Int) < (y : Int) := by omega
          have HK := Lib.hid (show scanSorted ltInt di y i = y from by rw [← hS.out, scanSorted_stop ltInt di y k (Or.inl hk), hke])
          have z_ke : ((k : Int) = (y : Int)) = True := by rw [hke]; simp
          clear hke
          go_wp2
          go_quiet (first | (go_at_call 46; refine Calls.quiet_of_same (less_any _ _ _)))
          go_wp2
          go_ret
          have hv : partialInsertionSort ltInt d x y = (di, true) := by
            unfold partialInsertionSort
            rw [← hO.out, pi_true ltInt x y s i di hs HK.out]
          rw [hv]
          exact ⟨rfl, HRx.out.drew _⟩
    · have hs' : s = 5 := by omega
      subst hs'
      go_wp2
      go_ret
      have hv : partialInsertionSort ltInt d x y = (di, false) := by
        unfold partialInsertionSort
        rw [← hO.out]
        exact pi_end ltInt x y i di
      rw [hv]
      exact ⟨rfl, HR.out⟩
end Go.Proofs.Ytlembnpplnbagaa.Lt
