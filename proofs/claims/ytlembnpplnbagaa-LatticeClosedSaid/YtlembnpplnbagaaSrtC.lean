/- The library's sort at []uint64: heapSort. -/
import Derived.Test.YtlembnpplnbagaaSrtB
namespace Go.Proofs.Ytlembnpplnbagaa.Lt
open Go.RowKit Go.Sort

theorem Rw.trans {w0 w w' : World} {b o : Nat} {d d' : Array Int} (h : Rw w0 b o d w) (h' : Rw w b o d' w') (hs : d'.size = d.size) : Rw w0 b o d' w' := by
  obtain ⟨n, rfl⟩ := h
  obtain ⟨m, rfl⟩ := h'
  exact ⟨n + m, putRow_ahead_putRow _ w0 n m b o d d' hs⟩
theorem Rw.holds {w0 w : World} {b o : Nat} {d0 d : Array Int} (h : Rw w0 b o d w) (hH : Holds (Value.int .u64) w0 b o d0) (hs : d.size = d0.size) : Holds (Value.int .u64) w b o d :=
  fun t ht => h.at hH hs t (by omega)

set_option maxRecDepth 100000 in
set_option maxHeartbeats 4000000 in
theorem heapSort_any (b o c x y : Nat) (d : Array Int) (w : World) (hH : Holds (Value.int .u64) w b o d) (hxy : x ≤ y) (hy : y ≤ d.size) (hz : d.size < 2305843009213693952) :
    Calls Try.prog 41 #[.slice (some ⟨b, o, none⟩) d.size c, .int .i64 (x : Int), .int .i64 (y : Int)] w fun e w' =>
      e = .returned (.tuple #[]) ∧ Rw w b o (heapSort ltInt d x y) w' := by
  obtain ⟨m, hm⟩ : ∃ m, m = y - x := ⟨_, rfl⟩
  have em : (y : Int) - (x : Int) = (m : Int) := by omega
  have hmz : x + m ≤ d.size := by omega
  have e0 : (y : Int) - (x : Int) - 1 = (m : Int) - 1 := by omega
  obtain ⟨k0, hk0⟩ : ∃ k0, k0 = (m - 1) / 2 + 1 := ⟨_, rfl⟩
  have e1 : ((m : Int) - 1).tdiv 2 = (k0 : Int) - 1 := by
    have := half_start (a := x) (b := y) hxy
    rw [em, ← hm, ← hk0] at this
    exact this
  have hs0 : heapSort ltInt d x y = heapPop ltInt x m (heapBuild ltInt m x k0 d) := by rw [heapSort, ← hm, ← hk0]
  have hk0m : k0 ≤ m + 1 := by omega
  rw [hs0]
  have HK := Lib.hid hk0m
  have HM := Lib.hid hmz
  have w1 : IntKind.i64.wrap (m : Int) = (m : Int) := IntWalk.i64_in _ ⟨by omega, by omega⟩
  clear hs0 hm hk0 hk0m e0 hmz
  go_enter Try.func41, Try.ntmps41
  go_wp2
  go_loopw [9] (fun vi wr => ∃ (k : Nat) (di : Array Int), vi = .int .i64 ((k : Int) - 1) ∧ k ≤ k0 ∧ di.size = d.size ∧ Rw w b o di wr ∧ Hid (heapBuild ltInt m x k di = heapBuild ltInt m x k0 d)) (fun vi _ => (intOf vi + 1).toNat)
  case atStart => exact ⟨k0, d, by have h1 := HK.out; have h2 := HM.out; exact congrArg _ (IntWalk.wrap64_in _ ⟨by omega, by omega⟩), Nat.le_refl _, rfl, Rw.start hH, rfl⟩
  case round =>
    obtain ⟨k, di, rfl, hk, hsi, hR, hO⟩ := hrel
    cases k with
    | zero =>
      have hR' := hR
      clear hR
      have HR := Lib.hid hR'
      clear hR'
      rw [show ((0 : Nat) : Int) - 1 = -1 from rfl]
      go_wp2
      go_loopw [10] (fun vi wr => ∃ (k : Nat) (dj : Array Int), vi = .int .i64 ((k : Int) - 1) ∧ k ≤ m ∧ dj.size = d.size ∧ Rw w b o dj wr ∧ Hid (heapPop ltInt x k dj = heapPop ltInt x m di)) (fun vi _ => (intOf vi + 1).toNat)
      case atStart => exact ⟨m, di, by have h2 := HM.out; clear w1; first | rfl | go_num, Nat.le_refl _, hsi, HR.out, rfl⟩
      case round =>
        clear HR
        obtain ⟨j, dj, rfl, hj, hsj, hRj, hP⟩ := hrel
        cases j with
        | zero =>
          go_wp2
          go_end0
          exact ⟨rfl, by
            have h1 : di = heapBuild ltInt m x k0 d := hO.out
            have h2 : dj = heapPop ltInt x m di := hP.out
            rw [← h1, ← h2]; exact hRj⟩
        | succ j =>
          obtain ⟨G, hG, hcell, hfro⟩ := fam hRj hH hsj
          have HG := Lib.hid hG
          have HRjH := hRj
          have hjm : j < m := hj
          have hxs : x < d.size := by have := HM.out; omega
          obtain ⟨p, hp⟩ : ∃ p, p = x + j := ⟨_, rfl⟩
          have hps : p < d.size := by have := HM.out; omega
          have ep : (x : Int) + (j : Int) = (p : Int) := by omega
          have wp : IntKind.i64.wrap (p : Int) = (p : Int) := IntWalk.i64_in _ ⟨by omega, by omega⟩
          have HP := Lib.hid hp
          clear hRj hG
          have hsz := size_siftDown ltInt j x _ 0 (swp dj x p) (Nat.le_refl _)
          have hsp : (swp dj x p).size = d.size := by rw [size_swp]; exact hsj
          have hsw := HRjH.swap 1 x p (by rw [hsj]; exact hxs) (by rw [hsj]; exact hps)
          have hcall := siftDown_any b o c 0 j x (swp dj x p) _ (hsw.holds hH hsp) (Nat.zero_le _) (by rw [hsp]; have := HM.out; omega) (by rw [hsp]; omega)
          rw [hsp] at hcall
          have hsw2 : ∀ w', Rw _ b o _ w' → Rw w b o (siftDown ltInt j x 0 (swp dj x p)) w' := fun w' h => hsw.trans h hsz
          have hgo : heapPop ltInt x j (siftDown ltInt j x 0 (swp dj x p)) = heapPop ltInt x m di := by
            rw [← hP.out, HP.out]; rfl
          have hszd := hsz.trans hsp
          have wk : wrap64 ((j : Int) - 1) = (j : Int) - 1 := IntWalk.wrap64_in _ ⟨by omega, by omega⟩
          rw [← HG.out, ← HG.out] at hcall hsw2
          have HC := Lib.hid hcall
          have HW := Lib.hid hsw2
          have HGO := Lib.hid hgo
          have HZ := Lib.hid hszd
          have WK := Lib.hid wk
          clear hcall hsw2 hgo hszd wk hsz hsp hsw
          rcases Nat.eq_zero_or_pos j with hj0 | hj0
          · have hpx : p = x := by rw [hp, hj0]; rfl
            subst hpx
            subst hj0
            clear hp
            go_wp2_with fail
            go_region
            go_wp2_with (go_at_call 51; refine HC.out.mono ?_; rintro e w1 ⟨rfl, hr1⟩)
            go_roundw
            case measure => simp [intOf]
            case rel => exact ⟨0, _, by first | rfl | (congr 1), by omega, HZ.out, HW.out _ hr1, HGO.out⟩
          · have hne : ¬ x = p := by omega
            have hne2 : ¬ p = x := by omega
            clear hp
            go_wp2_with fail
            go_region
            go_wp2_with (go_at_call 51; refine HC.out.mono ?_; rintro e w1 ⟨rfl, hr1⟩)
            go_roundw
            case measure => have := WK.out; simp [intOf] <;> omega
            case rel =>
              have := WK.out
              exact ⟨j, _, by first | rfl | (congr 1; omega) | (congr 1), by omega, HZ.out, HW.out _ hr1, HGO.out⟩
    | succ k =>
      have hcall := siftDown_any b o c k m x di wr (hR.holds hH hsi) (by have := HK.out; omega) (by have := HM.out; omega) (by omega)
      rw [hsi] at hcall
      have HC := Lib.hid hcall
      have wk : wrap64 ((k : Int) - 1) = (k : Int) - 1 := by have h1 := HK.out; have h2 := HM.out; exact IntWalk.wrap64_in _ ⟨by omega, by omega⟩
      have WK := Lib.hid wk
      clear hcall wk
      go_wp2_with (go_at_call 51; refine HC.out.mono ?_; rintro e w1 ⟨rfl, hr1⟩)
      go_roundw
      case measure => have := WK.out; simp [intOf]; omega
      case rel =>
        have := WK.out
        have hsz := size_siftDown ltInt m x _ k di (Nat.le_refl _)
        exact ⟨k, siftDown ltInt m x k di, by first | rfl | (congr 1; omega) | (congr 1), by omega, hsz.trans hsi, hR.trans hr1 hsz, hO⟩
end Go.Proofs.Ytlembnpplnbagaa.Lt
