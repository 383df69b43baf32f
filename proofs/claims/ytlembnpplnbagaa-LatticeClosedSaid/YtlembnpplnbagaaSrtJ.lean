/- The library's sort at []uint64: breakPatterns. -/
import Derived.Test.YtlembnpplnbagaaSrtI
namespace Go.Proofs.Ytlembnpplnbagaa.Lt
open Go.RowKit Go.Sort

theorem place_hi (x y m O n : Nat) (hm : m = y - x) (hy : y ≤ n) (hn : n < 2305843009213693952) (h : m ≤ O) (h2 : O < 2 * m) :
    ∃ q j : Nat, (O : Int) - (m : Int) = (q : Int) ∧ IntKind.i64.wrap (q : Int) = (q : Int) ∧ wrap64 (q : Int) = (q : Int) ∧ (x : Int) + (q : Int) = (j : Int) ∧ IntKind.i64.wrap (j : Int) = (j : Int) ∧ x ≤ j ∧ j < y ∧ j < n ∧ (j : Int) < (n : Int) :=
  ⟨O - m, x + (O - m), by omega, IntWalk.i64_in _ ⟨by omega, by omega⟩, IntWalk.wrap64_in _ ⟨by omega, by omega⟩, by omega, IntWalk.i64_in _ ⟨by omega, by omega⟩, by omega, by omega, by omega, by omega⟩
theorem place_lo (x y m O n : Nat) (hm : m = y - x) (hy : y ≤ n) (hn : n < 2305843009213693952) (h : ¬ m ≤ O) :
    ∃ j : Nat, (x : Int) + (O : Int) = (j : Int) ∧ IntKind.i64.wrap (j : Int) = (j : Int) ∧ x ≤ j ∧ j < y ∧ j < n ∧ (j : Int) < (n : Int) :=
  ⟨x + O, by omega, IntWalk.i64_in _ ⟨by omega, by omega⟩, by omega, by omega, by omega, by omega⟩
theorem meas (I i : Nat) (h : i ≤ I) : I + 1 - (i + 1) < I + 1 - i := by omega
theorem and_facts (R' M m : Nat) (hR' : R' < 18446744073709551616) (hM1 : 1 ≤ M) (hM2 : M ≤ 2 * m) (hm : m < 2305843009213693952) :
    ∃ M1 O : Nat, (M : Int) - 1 = (M1 : Int) ∧ IntKind.u64.wrap (M1 : Int) = (M1 : Int) ∧ bits .and .u64 (R' : Int) (M1 : Int) = (O : Int) ∧ wrap64 (O : Int) = (O : Int) ∧ O < 2 * m := by
  have hA : R' &&& (M - 1) ≤ M - 1 := Nat.and_le_right
  have hB := bits_and_u64_nat R' (M - 1) hR' (by omega)
  generalize R' &&& (M - 1) = O at hA hB
  refine ⟨M - 1, O, by omega, by rw [IntKind.wrap_u64]; omega, hB, IntWalk.wrap64_in _ ⟨by omega, by omega⟩, by omega⟩

set_option maxRecDepth 100000 in
set_option maxHeartbeats 8000000 in
theorem breakPatterns_any (b o c x y : Nat) (d : Array Int) (w : World) (hH : Holds (Value.int .u64) w b o d) (hb : b < w.heap.size) (hxy : x ≤ y) (hy : y ≤ d.size) (hz : d.size < 2305843009213693952) :
    Calls Try.prog 42 #[.slice (some ⟨b, o, none⟩) d.size c, .int .i64 (x : Int), .int .i64 (y : Int)] w fun e w' =>
      e = .returned (.tuple #[]) ∧ ∃ d', PermIn x y d d' ∧ Rg w b o d' w' := by
  obtain ⟨m, hm⟩ : ∃ m, m = y - x := ⟨_, rfl⟩
  have zm : (y : Int) - (x : Int) = (m : Int) := by omega
  have wm : IntKind.i64.wrap (m : Int) = (m : Int) := IntWalk.i64_in _ ⟨by omega, by omega⟩
  have wmu : IntKind.u64.wrap (m : Int) = (m : Int) := by rw [IntKind.wrap_u64]; omega
  have HM := Lib.hid hm
  have hmz : m < 2305843009213693952 := by omega
  by_cases h8 : 8 ≤ m
  · obtain ⟨k1, hk1⟩ : ∃ k1, k1 = m / 4 := ⟨_, rfl⟩
    obtain ⟨k2, hk2⟩ : ∃ k2, k2 = k1 * 2 := ⟨_, rfl⟩
    obtain ⟨J, hJ⟩ : ∃ J, J = x + k2 := ⟨_, rfl⟩
    obtain ⟨I0, hI0⟩ : ∃ I0, I0 = J - 1 := ⟨_, rfl⟩
    obtain ⟨I2, hI2⟩ : ∃ I2, I2 = J + 1 := ⟨_, rfl⟩
    have z8 : 8 ≤ (m : Int) := by omega
    have zk1 : (m : Int) / 4 = (k1 : Int) := by omega
    have zt1 : (m : Int).tdiv 4 = (k1 : Int) := by rw [Int.tdiv_eq_ediv_of_nonneg (by omega)]; omega
    have zk2 : (k1 : Int) * 2 = (k2 : Int) := by omega
    have zJ : (x : Int) + (k2 : Int) = (J : Int) := by omega
    have zI0 : (J : Int) - 1 = (I0 : Int) := by omega
    have zI2 : (J : Int) + 1 = (I2 : Int) := by omega
    have hlo : x ≤ I0 ∧ I0 ≤ I2 + 1 ∧ I2 < y := by omega
    have wk1 : IntKind.i64.wrap (k1 : Int) = (k1 : Int) := IntWalk.i64_in _ ⟨by omega, by omega⟩
    have wk2 : IntKind.i64.wrap (k2 : Int) = (k2 : Int) := IntWalk.i64_in _ ⟨by omega, by omega⟩
    have wJ : IntKind.i64.wrap (J : Int) = (J : Int) := IntWalk.i64_in _ ⟨by omega, by omega⟩
    have wI0 : IntKind.i64.wrap (I0 : Int) = (I0 : Int) := IntWalk.i64_in _ ⟨by omega, by omega⟩
    have wI2 : IntKind.i64.wrap (I2 : Int) = (I2 : Int) := IntWalk.i64_in _ ⟨by omega, by omega⟩
    have HB := Lib.hid (fun T => Bw.start hH m T)
    have HN := Lib.hid (fun w => nextPow_any m (by omega) (by omega) w)
    clear hm hk1 hk2 hJ hI0 hI2
    go_enter Try.func42, Try.ntmps42
    go_wp2_with (go_at_call 52; refine (HN.out _).mono ?_; rintro e w' ⟨M, rfl, hM1, hM2, rfl⟩)
    go_loopw [9] (fun vi wr => ∃ (i R : Nat) (di : Array Int), vi = .int .i64 (i : Int) ∧ I0 ≤ i ∧ i ≤ I2 + 1 ∧ di.size = d.size ∧ R < 18446744073709551616 ∧ Hid (PermIn x y d di) ∧ Bw w b o di R wr) (fun vi _ => I2 + 1 - (intOf vi).toNat)
    case atStart => exact ⟨I0, m, d, rfl, Nat.le_refl _, by omega, rfl, by omega, permIn_refl _ _ _, HB.out _⟩
    case round =>
      clear HB HN
      obtain ⟨i, R, di, rfl, hi0, hi2, hsi, hR, hP, hB⟩ := hrel
      by_cases hlt : i ≤ I2
      · have zi : (i : Int) ≤ (I2 : Int) := by omega
        have c_i : i < d.size := by omega
        have hxi : x ≤ i := by omega
        have hiy : i < y := by omega
        have z_i : (i : Int) < (d.size : Int) := by omega
        go_wp2_with fail
        clear zk1 zt1 zk2 zJ zI0 zI2 wk1 wk2 wJ wI0 wI2 wmu z8 zi hxy
        obtain ⟨R', hRR⟩ : ∃ R', R' = xorNextN R := ⟨_, rfl⟩
        have hR' : R' < 18446744073709551616 := by rw [hRR]; exact xorNextN_lt R hR
        have hnx := next_any w.heap.size 0 R hR wr hB.cell.1 hB.cell.2
        rw [← hRR] at hnx
        have HNX := Lib.hid hnx
        have HB := Lib.hid hB
        obtain ⟨G, hG⟩ : ∃ G : Nat → Int, ∀ t, G t = di[t]! := ⟨fun t => di[t]!, fun _ => rfl⟩
        have HG := Lib.hid hG
        clear hnx hB hG hRR
        obtain ⟨M1, O, zM1, wM1, eAnd, wOw, lO2⟩ := and_facts R' M m hR' hM1 hM2 hmz
        have hE : wrap64 (bits .and .u64 (R' : Int) ((M : Int) - 1)) = (O : Int) := by rw [zM1, eAnd, wOw]
        have HE := Lib.hid hE
        have HL2 := Lib.hid lO2
        clear eAnd wOw lO2 zM1 wM1 hE
        go_wp2_with (
          go_at_call 53
          refine HNX.out.mono ?_
          rintro e w1 ⟨rfl, hw1⟩
          have HB1 := Lib.hid (show Bw w b o di R' w1 from by rw [hw1]; exact HB.out.next R' 3)
          clear hw1 HB HNX)
        · rename_i hge1
          rw [HE.out] at hge1
          have hge : m ≤ O := by omega
          clear hge1
          simp only [HE.out]
          obtain ⟨q, j, zq, wq, wqw, zj, wj, hxj, hjy, c_j, z_j⟩ := place_hi x y m O d.size HM.out hy hz hge HL2.out
          simp only [zq, wqw]
          have hcell : ∀ t, t < d.size → w1.cell? ⟨b, o + t, none⟩ = some (.int .u64 (G t)) := fun t ht => by rw [HG.out]; exact (HB1.out.at hb hH hsi t ht).1
          have hfro : ∀ t, t < d.size → w1.frozen? ⟨b, o + t, none⟩ = false := fun t ht => (HB1.out.at hb hH hsi t ht).2
          obtain ⟨v2, hy2⟩ := cell?_setCell_some (w := w1) (p := ⟨b, o + i, none⟩) (x := .int .u64 (G j)) (q := ⟨b, o + j, none⟩) (hcell j c_j)
          go_region
          all_goals go_wp2
          all_goals go_roundw
          case rel =>
            refine ⟨i + 1, R', swp di i j, by go_num, Nat.le_succ_of_le hi0, Nat.succ_le_succ hlt, by rw [size_swp]; exact hsi, hR', ?_, ?_⟩
            · exact permIn_trans _ _ _ _ _ hP.out (swp_permIn di x y i j hxi hiy hxj hjy (by rw [hsi]; exact hy))
            · rw [HG.out, HG.out]
              exact HB1.out.swap hb _ i j (by rw [hsi]; exact c_i) (by rw [hsi]; exact c_j)
          case measure => simp [intOf]; (first | exact meas I2 i hlt | omega)
        · rename_i hge1
          rw [HE.out] at hge1
          have hge : ¬ m ≤ O := by omega
          clear hge1
          simp only [HE.out]
          obtain ⟨j, zj, wj, hxj, hjy, c_j, z_j⟩ := place_lo x y m O d.size HM.out hy hz hge
          have hcell : ∀ t, t < d.size → w1.cell? ⟨b, o + t, none⟩ = some (.int .u64 (G t)) := fun t ht => by rw [HG.out]; exact (HB1.out.at hb hH hsi t ht).1
          have hfro : ∀ t, t < d.size → w1.frozen? ⟨b, o + t, none⟩ = false := fun t ht => (HB1.out.at hb hH hsi t ht).2
          obtain ⟨v2, hy2⟩ := cell?_setCell_some (w := w1) (p := ⟨b, o + i, none⟩) (x := .int .u64 (G j)) (q := ⟨b, o + j, none⟩) (hcell j c_j)
          go_region
          all_goals go_wp2
          all_goals go_roundw
          case rel =>
            refine ⟨i + 1, R', swp di i j, by go_num, Nat.le_succ_of_le hi0, Nat.succ_le_succ hlt, by rw [size_swp]; exact hsi, hR', ?_, ?_⟩
            · exact permIn_trans _ _ _ _ _ hP.out (swp_permIn di x y i j hxi hiy hxj hjy (by rw [hsi]; exact hy))
            · rw [HG.out, HG.out]
              exact HB1.out.swap hb _ i j (by rw [hsi]; exact c_i) (by rw [hsi]; exact c_j)
          case measure => simp [intOf]; (first | exact meas I2 i hlt | omega)
      · have zi : ¬ (i : Int) ≤ (I2 : Int) := by omega
        go_wp2
        go_end0
        exact ⟨rfl, di, hP.out, hB.rg⟩
  · have z8 : ¬ 8 ≤ (m : Int) := by omega
    have HS := Lib.hid (Rw.start hH)
    clear hm hH
    go_enter Try.func42, Try.ntmps42
    go_wp2
    go_end0
    exact ⟨rfl, d, permIn_refl _ _ _, HS.out.grown⟩
end Go.Proofs.Ytlembnpplnbagaa.Lt
