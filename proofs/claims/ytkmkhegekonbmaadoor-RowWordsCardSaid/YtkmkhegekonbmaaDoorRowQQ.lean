/- The law RowWords. -/
import Derived.Test.YtkmkhegekonbmaaDoorRowNN
import Derived.Test.YtkmkhegekonbmaaDoorRowPP
import Derived.Test.YtkmkhegekonbmaaDoorRowJ
namespace Go.Proofs.YtkmkhegekonbmaaDoor
open Go.RowKit
open Rw6

theorem rsl_cell (w : World) (ws : List Wd) (v : Value) (h : WSl w v ws) : RSl (w.alloc (.cells #[.int .i64 0, v] 43)) (.slice (some ⟨w.heap.size, 0, none⟩) 1 1) [(0, ws)] :=
  rsl_lit w [(0, ws)] [v] (by simp) rfl (fun i u r hu hr => by
    cases i with
    | zero => cases hu; cases hr; exact h
    | succ i => simp at hu)
set_option maxRecDepth 100000 in
set_option maxHeartbeats 8000000 in
theorem words_any (q : Bool) (s : ByteArray) (a : Int) (lo hi : Nat) (v : Value) (l : List ByteArray) (w : World) (hv : Slc w v (l.map Value.string)) :
    Calls Tryd.prog 4 #[.agg #[.bool q, .string s, .int .i64 a], .int .u64 (lo : Int), .int .u64 (hi : Int), v] w fun e w' => e = .returned (.bool true) ∧ Below w.heap.size w w' := by
  have hA := fun w => awake_any w
  have hV := hv
  obtain ⟨A, cap, rfl, _, _, hc⟩ := hv
  have hll : (l.map Value.string).length = l.length := by simp
  simp only [hll] at hV ⊢
  by_cases h3 : 300 < s.size
  · have h3' : (300 : Int) < (s.size : Int) := by omega
    clear hc hV
    go_enter Tryd.func4, Tryd.ntmps4
    go_wp2_with (go_at_call 10; with_reducible refine (hA _).mono ?_; rintro e wx ⟨rfl, hb⟩)
    go_ret
    exact ⟨rfl, bstep (below1 _ _) hb⟩
  have h3' : ¬ (300 : Int) < (s.size : Int) := by omega
  by_cases h20 : 20 < l.length
  · have h20' : (20 : Int) < (l.length : Int) := by omega
    clear hc hV
    go_enter Tryd.func4, Tryd.ntmps4
    go_wp2_with (go_at_call 10; with_reducible refine (hA _).mono ?_; rintro e wx ⟨rfl, hb⟩)
    go_ret
    exact ⟨rfl, bstep (below1 _ _) hb⟩
  have h20' : ¬ (20 : Int) < (l.length : Int) := by omega
  have HV0 := Lib.hid hV
  have HC := Lib.hid hc
  clear hc hV
  go_enter Tryd.func4, Tryd.ntmps4
  go_wp2
  go_loopw [9] (fun i wr => ∃ k : Nat, k ≤ l.length ∧ i = .int .i64 (k : Int) ∧ Hid (∀ s ∈ l.take k, s.size ≤ 60) ∧ wr = w.alloc (.cells #[.bool q, .string s, .int .i64 a] 31)) (fun i _ => l.length - (intOf i).toNat)
  case atStart => exact ⟨0, Nat.zero_le _, rfl, Lib.hid (by simp), rfl⟩
  case round =>
    obtain ⟨k, hk, rfl, hZ, rfl⟩ := hrel
    by_cases hlt : k < l.length
    · obtain ⟨b, rfl, hab, hcell⟩ := HC.out k (by simpa using hlt)
      rw [List.getElem_map] at hcell
      have hi' : (k : Int) < (l.length : Int) := by omega
      have hcl : (w.alloc (.cells #[.bool q, .string s, .int .i64 a] 31)).cell? (b.add k) = some (.string l[k]) := ((below1 w _).cell (p := b.add k) (by rw [add_block]; exact hab)).trans hcell
      have hsn := take_snoc l k hlt
      obtain ⟨x, hx⟩ : ∃ x, x = l[k] := ⟨_, rfl⟩
      rw [← hx] at hcl hsn hcell
      have HSN := Lib.hid hsn
      clear hsn hx
      by_cases h60 : 60 < x.size
      · have h60' : (60 : Int) < (x.size : Int) := by omega
        go_wp2_with (go_at_call 10; with_reducible refine (hA _).mono ?_; rintro e wx ⟨rfl, hb⟩)
        go_ret
        exact ⟨rfl, bstep (below1 _ _) hb⟩
      · have h60' : ¬ (60 : Int) < (x.size : Int) := by omega
        go_wp2
        go_roundw
        case rel => exact ⟨k + 1, by omega, by go_num, Lib.hid (by
          rw [HSN.out]
          intro y hy
          rcases List.mem_append.1 hy with hy | hy
          · exact hZ.out y hy
          · rw [List.mem_singleton.1 hy]; omega), by first | rfl | trivial⟩
        case measure => simp [intOf]; omega
    · obtain rfl : k = l.length := by omega
      have hi' : ¬ (l.length : Int) < (l.length : Int) := by omega
      have hZ1 := hZ.out
      rw [List.take_length] at hZ1
      have hsz : ∀ s ∈ l, s.size ≤ 100000 := fun s h => Nat.le_trans (hZ1 s h) (by decide)
      have hss : s.size ≤ 100000 := by omega
      have hl10 : l.length ≤ 1000 := by omega
      have hW := fun w => word_is q s a hss w
      have hW2 := fun w => refWord_any q s a hss w
      have hN := fun w => number_is q s a lo hi hss w
      have hN2 := fun w => refNumber_any q s a lo hi hss w
      have hS := fun w => signed_is q s a hss w
      have hS2 := fun w => refSigned_any q s a hss w
      have hI := fun w (h : Slc w (.slice A l.length cap) (l.map Value.string)) => which_is q s a _ l w h
      have hI2 := fun w (h : Slc w (.slice A l.length cap) (l.map Value.string)) => refWhich_any q s a _ l w h
      have hM := fun w (h : Slc w (.slice A l.length cap) (l.map Value.string)) => make_is _ l w h hl10 hsz
      have hM2 := fun w (h : Slc w (.slice A l.length cap) (l.map Value.string)) => refMake_any _ l w h hl10 hsz
      unfold wordV at hW hW2 hN hN2 hS hS2 hI hI2
      obtain ⟨X1, hX1⟩ : ∃ X, X = wordG q s.data.toList := ⟨_, rfl⟩
      obtain ⟨X2, hX2⟩ : ∃ X, X = numG q s.data.toList lo hi := ⟨_, rfl⟩
      obtain ⟨X3, hX3⟩ : ∃ X, X = sgnG q s.data.toList := ⟨_, rfl⟩
      obtain ⟨X4, hX4⟩ : ∃ X, X = whichG q s l := ⟨_, rfl⟩
      rw [← hX1] at hW hW2
      rw [← hX2] at hN hN2
      rw [← hX3] at hS hS2
      rw [← hX4] at hI hI2
      have HV := Lib.hid (HV0.out.below (below1 w (.cells #[.bool q, .string s, .int .i64 a] 31)))
      have HB := Lib.hid (below1 w (.cells #[.bool q, .string s, .int .i64 a] 31))
      have HK : Hid (Blk (w.alloc (.cells #[.bool q, .string s, .int .i64 a] 31)) w.heap.size [.bool q, .string s, .int .i64 a]) := Lib.hid (Blk.is _ rfl)
      clear hX1 hX2 hX3 hX4 HC hZ1 hsz hZ
      go_wp2_with (first
        | (go_at_call 15; refine (hW _).mono ?_; rintro e wx ⟨rfl, hb⟩; replace HK := Lib.hid (HK.out.later hb); replace HB := Lib.hid (bstep HB.out hb); replace HV := Lib.hid (HV.out.below hb); clear hb; have k0 := HK.out.cell 0 _ rfl; have k1 := HK.out.cell 1 _ rfl; have k2 := HK.out.cell 2 _ rfl)
        | (go_at_call 16; refine (hW2 _).mono ?_; rintro e wx ⟨rfl, hb⟩; replace HK := Lib.hid (HK.out.later hb); replace HB := Lib.hid (bstep HB.out hb); replace HV := Lib.hid (HV.out.below hb); clear hb; have k0 := HK.out.cell 0 _ rfl; have k1 := HK.out.cell 1 _ rfl; have k2 := HK.out.cell 2 _ rfl)
        | (go_at_call 17; refine (hN _).mono ?_; rintro e wx ⟨rfl, hb⟩; replace HK := Lib.hid (HK.out.later hb); replace HB := Lib.hid (bstep HB.out hb); replace HV := Lib.hid (HV.out.below hb); clear hb; have k0 := HK.out.cell 0 _ rfl; have k1 := HK.out.cell 1 _ rfl; have k2 := HK.out.cell 2 _ rfl)
        | (go_at_call 18; refine (hN2 _).mono ?_; rintro e wx ⟨rfl, hb⟩; replace HK := Lib.hid (HK.out.later hb); replace HB := Lib.hid (bstep HB.out hb); replace HV := Lib.hid (HV.out.below hb); clear hb; have k0 := HK.out.cell 0 _ rfl; have k1 := HK.out.cell 1 _ rfl; have k2 := HK.out.cell 2 _ rfl)
        | (go_at_call 19; refine (hI _ HV.out).mono ?_; rintro e wx ⟨rfl, hb⟩; replace HK := Lib.hid (HK.out.later hb); replace HB := Lib.hid (bstep HB.out hb); replace HV := Lib.hid (HV.out.below hb); clear hb; have k0 := HK.out.cell 0 _ rfl; have k1 := HK.out.cell 1 _ rfl; have k2 := HK.out.cell 2 _ rfl)
        | (go_at_call 20; refine (hI2 _ HV.out).mono ?_; rintro e wx ⟨rfl, hb⟩; replace HK := Lib.hid (HK.out.later hb); replace HB := Lib.hid (bstep HB.out hb); replace HV := Lib.hid (HV.out.below hb); clear hb; have k0 := HK.out.cell 0 _ rfl; have k1 := HK.out.cell 1 _ rfl; have k2 := HK.out.cell 2 _ rfl)
        | (go_at_call 21; refine (hS _).mono ?_; rintro e wx ⟨rfl, hb⟩; replace HK := Lib.hid (HK.out.later hb); replace HB := Lib.hid (bstep HB.out hb); replace HV := Lib.hid (HV.out.below hb); clear hb; have k0 := HK.out.cell 0 _ rfl; have k1 := HK.out.cell 1 _ rfl; have k2 := HK.out.cell 2 _ rfl)
        | (go_at_call 22; refine (hS2 _).mono ?_; rintro e wx ⟨rfl, hb⟩; replace HK := Lib.hid (HK.out.later hb); replace HB := Lib.hid (bstep HB.out hb); replace HV := Lib.hid (HV.out.below hb); clear hb; have k0 := HK.out.cell 0 _ rfl; have k1 := HK.out.cell 1 _ rfl; have k2 := HK.out.cell 2 _ rfl)
        | (go_at_call 23; refine (hM _ HV.out).mono ?_; rintro e wm ⟨Am, cm, rfl, hb, hm⟩; have HM := Lib.hid (own_wsl hm); clear hm; replace HK := Lib.hid (HK.out.later hb); replace HB := Lib.hid (bstep HB.out hb); replace HV := Lib.hid (HV.out.below hb); clear hb; have k0 := HK.out.cell 0 _ rfl; have k1 := HK.out.cell 1 _ rfl; have k2 := HK.out.cell 2 _ rfl)
        | (go_at_call 24; refine (hM2 _ HV.out).mono ?_; rintro e wn ⟨An, cn, rfl, hb, hn⟩; have HN := Lib.hid hn; clear hn; have HM2 := Lib.hid (HM.out.later hb); replace HK := Lib.hid (HK.out.later hb); replace HB := Lib.hid (bstep HB.out hb); replace HV := Lib.hid (HV.out.below hb); clear hb; have k0 := HK.out.cell 0 _ rfl; have k1 := HK.out.cell 1 _ rfl; have k2 := HK.out.cell 2 _ rfl)
        | (go_at_call 14; go_loud (have h1 := (rsl_cell ((wn.alloc (.cells #[.int .i64 0, .slice Am l.length cm] 43)).alloc (.cells #[.int .i64 0, .slice An l.length cn] 43)) _ _ (HM2.out.later (below2 wn (.cells #[.int .i64 0, .slice Am l.length cm] 43) (.cells #[.int .i64 0, .slice An l.length cn] 43)))).later (below1 _ (.cells #[.int .i64 0, .slice An l.length cn] 43)); have h2 := rsl_cell (((wn.alloc (.cells #[.int .i64 0, .slice Am l.length cm] 43)).alloc (.cells #[.int .i64 0, .slice An l.length cn] 43)).alloc (.cells #[.int .i64 0, .slice Am l.length cm] 43)) _ _ (HN.out.later (below3 wn (.cells #[.int .i64 0, .slice Am l.length cm] 43) (.cells #[.int .i64 0, .slice An l.length cn] 43) (.cells #[.int .i64 0, .slice Am l.length cm] 43))); simp only [World.size_alloc] at h1 h2; refine (sameRows_same _ _ [(0, l.map mkW)] _ h1 h2).mono ?_; rintro e wy ⟨rfl, n, rfl⟩; clear h1 h2))
        | (go_at_call 10; refine (awake_any _).mono ?_; rintro e wz ⟨rfl, hb⟩))
      go_ret
      exact ⟨rfl, bstep (below_drewN (bstep (bstep HB.out (below3 wn _ _ _)) (below1 _ _)) _) hb⟩
end Go.Proofs.YtkmkhegekonbmaaDoor
