/- The library's sort at []uint64: choosePivot: a place in the row, never mind which. -/
import Derived.Test.YtlembnpplnbagaaSrtG
namespace Go.Proofs.Ytlembnpplnbagaa.Lt
open Go.RowKit Go.Sort

theorem Cw.start (w : World) (t : TypeId) : Cw w 0 (w.alloc (.cells #[.int .i64 0] t)) := by
  refine ⟨0, #[.cells #[.int .i64 0] t], rfl, by rw [alloc_eq_grow]; rfl, fun j hj => ?_⟩
  obtain rfl : j = 0 := by simpa using hj
  simp

set_option maxRecDepth 100000 in
set_option maxHeartbeats 4000000 in
theorem choosePivot_any (b o c x y : Nat) (d : Array Int) (w : World) (hH : Holds (Value.int .u64) w b o d) (hb : b < w.heap.size) (hxy : x < y) (hy : y ≤ d.size) (hz : d.size < 2305843009213693952) :
    Calls Try.prog 43 #[.slice (some ⟨b, o, none⟩) d.size c, .int .i64 (x : Int), .int .i64 (y : Int)] w fun e w' =>
      ∃ p h : Nat, e = .returned (.tuple #[.int .i64 (p : Int), .int .i64 (h : Int)]) ∧ x ≤ p ∧ p < y ∧ h ≤ 2 ∧ ∃ n os, w' = grow (Sort.ahead w n) os := by
  obtain ⟨m, hm⟩ : ∃ m, m = y - x := ⟨_, rfl⟩
  obtain ⟨k1, hk1⟩ : ∃ k1, k1 = m / 4 := ⟨_, rfl⟩
  obtain ⟨k2, hk2⟩ : ∃ k2, k2 = k1 * 2 := ⟨_, rfl⟩
  obtain ⟨k3, hk3⟩ : ∃ k3, k3 = k1 * 3 := ⟨_, rfl⟩
  obtain ⟨I, hI⟩ : ∃ I, I = x + k1 := ⟨_, rfl⟩
  obtain ⟨J, hJ⟩ : ∃ J, J = x + k2 := ⟨_, rfl⟩
  obtain ⟨K, hK⟩ : ∃ K, K = x + k3 := ⟨_, rfl⟩
  have zm : (y : Int) - (x : Int) = (m : Int) := by omega
  have zk1 : (m : Int) / 4 = (k1 : Int) := by omega
  have zt1 : (m : Int).tdiv 4 = (k1 : Int) := by rw [Int.tdiv_eq_ediv_of_nonneg (by omega)]; omega
  have zk2 : (k1 : Int) * 2 = (k2 : Int) := by omega
  have zk3 : (k1 : Int) * 3 = (k3 : Int) := by omega
  have zI : (x : Int) + (k1 : Int) = (I : Int) := by omega
  have zJ : (x : Int) + (k2 : Int) = (J : Int) := by omega
  have zK : (x : Int) + (k3 : Int) = (K : Int) := by omega
  have bI : x ≤ I ∧ I < y ∧ (8 ≤ m → 1 ≤ I ∧ I + 1 < y ∧ x < I) := by omega
  have bJ : x ≤ J ∧ J < y ∧ (8 ≤ m → 1 ≤ J ∧ J + 1 < y ∧ x < J) := by omega
  have bK : x ≤ K ∧ K < y ∧ (8 ≤ m → 1 ≤ K ∧ K + 1 < y ∧ x < K) := by omega
  have wm : IntKind.i64.wrap (m : Int) = (m : Int) := IntWalk.i64_in _ ⟨by omega, by omega⟩
  have wk1 : IntKind.i64.wrap (k1 : Int) = (k1 : Int) := IntWalk.i64_in _ ⟨by omega, by omega⟩
  have wk2 : IntKind.i64.wrap (k2 : Int) = (k2 : Int) := IntWalk.i64_in _ ⟨by omega, by omega⟩
  have wk3 : IntKind.i64.wrap (k3 : Int) = (k3 : Int) := IntWalk.i64_in _ ⟨by omega, by omega⟩
  have wI : IntKind.i64.wrap (I : Int) = (I : Int) := IntWalk.i64_in _ ⟨by omega, by omega⟩
  have wJ : IntKind.i64.wrap (J : Int) = (J : Int) := IntWalk.i64_in _ ⟨by omega, by omega⟩
  have wK : IntKind.i64.wrap (K : Int) = (K : Int) := IntWalk.i64_in _ ⟨by omega, by omega⟩
  have HC := Lib.hid (Cw.start w 3)
  have HH := Lib.hid hH
  have BI := Lib.hid bI
  have BJ := Lib.hid bJ
  have BK := Lib.hid bK
  have hmm : m < 9223372036854775808 := by omega
  clear hm hk1 hk2 hk3 hI hJ hK hH bI bJ bK
  by_cases h8 : 8 ≤ m
  · have z8 : 8 ≤ (m : Int) := by omega
    have bI := BI.out.2.2 h8
    have bJ := BJ.out.2.2 h8
    have bK := BK.out.2.2 h8
    by_cases h50 : 50 ≤ m
    · have z50 : 50 ≤ (m : Int) := by omega
      go_enter Try.func43, Try.ntmps43
      go_wp2_with (go_at_call_has 54 (Value.int .i64 (I : Int)); with_reducible refine (medianAdjacent_any b o c I 0 d w _ HC.out HH.out hb (by omega) (by omega) hz (by omega)).mono ?_; rintro e w1 ⟨p1, S1, rfl, hp1, hq1, hS1, hC1⟩)
      go_wp2_with (go_at_call_has 54 (Value.int .i64 (J : Int)); with_reducible refine (medianAdjacent_any b o c J S1 d w w1 hC1 HH.out hb (by omega) (by omega) hz (by omega)).mono ?_; rintro e w2 ⟨p2, S2, rfl, hp2, hq2, hS2, hC2⟩)
      go_wp2_with (go_at_call_has 54 (Value.int .i64 (K : Int)); with_reducible refine (medianAdjacent_any b o c K S2 d w w2 hC2 HH.out hb (by omega) (by omega) hz (by omega)).mono ?_; rintro e w3 ⟨p3, S3, rfl, hp3, hq3, hS3, hC3⟩)
      go_wp2_with (go_at_call 55; with_reducible refine (median_any b o c p1 p2 p3 S3 d w w3 hC3 HH.out hb (by omega) (by omega) (by omega) (by omega)).mono ?_; rintro e w4 ⟨p, S4, rfl, hp, hS4, hC4⟩; have ce := hC4.cell.1)
      all_goals go_ret2
      all_goals first
        | exact ⟨p, 1, rfl, by omega, by omega, by omega, (hC4.drew _).grown⟩
        | exact ⟨p, 2, rfl, by omega, by omega, by omega, (hC4.drew _).grown⟩
        | exact ⟨p, 0, rfl, by omega, by omega, by omega, (hC4.drew _).grown⟩
        | exact ⟨p, 1, rfl, by omega, by omega, by omega, hC4.grown⟩
        | exact ⟨p, 2, rfl, by omega, by omega, by omega, hC4.grown⟩
        | exact ⟨p, 0, rfl, by omega, by omega, by omega, hC4.grown⟩
    · have z50 : ¬ 50 ≤ (m : Int) := by omega
      go_enter Try.func43, Try.ntmps43
      go_wp2_with (go_at_call 55; with_reducible refine (median_any b o c I J K 0 d w _ HC.out HH.out hb (by omega) (by omega) (by omega) (by omega)).mono ?_; rintro e w4 ⟨p, S4, rfl, hp, hS4, hC4⟩; have ce := hC4.cell.1)
      all_goals go_ret2
      all_goals first
        | exact ⟨p, 1, rfl, by omega, by omega, by omega, hC4.grown⟩
        | exact ⟨p, 2, rfl, by omega, by omega, by omega, hC4.grown⟩
        | exact ⟨p, 0, rfl, by omega, by omega, by omega, hC4.grown⟩
  · have z8 : ¬ 8 ≤ (m : Int) := by omega
    go_enter Try.func43, Try.ntmps43
    go_wp2
    all_goals go_ret2
    all_goals first
      | exact ⟨J, 1, rfl, BJ.out.1, BJ.out.2.1, by omega, HC.out.grown⟩
      | exact ⟨J, 0, rfl, BJ.out.1, BJ.out.2.1, by omega, HC.out.grown⟩
end Go.Proofs.Ytlembnpplnbagaa.Lt
