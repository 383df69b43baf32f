/- Walks: Read of package label. -/
import Derived.Test.YtnlioeheogkkiaaDoorLabelG
import Derived.RegionTactic
import Derived.ChangeAlike
namespace Go.Proofs.YtnlioeheogkkiaaDoor
open Go.RowKit
open Lb

theorem numI_at (s : ByteArray) (a : Nat) (h : (numI s a).2.2.1 = 0) : (digs s a).length ≠ 0 ∧ decOf (digs s a) ≤ 63 ∧ (numI s a).1 = decOf (digs s a) ∧ (numI s a).2.1 = (a : Int) + (digs s a).length := by
  unfold numI at h ⊢
  split at h
  · simp at h
  · split at h
    · simp at h
    · split at h
      · simp at h
      · rename_i h1 h2 h3
        rw [if_neg h1, if_neg h2, if_neg h3]
        exact ⟨h1, by omega, rfl, rfl⟩

set_option maxHeartbeats 1000000 in
theorem read_any (s : ByteArray) (w : World) (hs : s.size ≤ 4611686018427387904) :
    Calls Tryd.prog 41 #[.string s] w fun e w' =>
      e = .returned (.tuple #[.int .u64 (readI s).1, .int .i64 (readI s).2.1, .agg #[.int .i64 (readI s).2.2.1, .int .i64 (readI s).2.2.2]]) ∧ Below w.heap.size w w' := by
  by_cases h0 : bt s 0 = 123
  · have hb0 : (bt s 0 != 123) = false := by simp [h0]
    by_cases h1 : bt s 1 = 125
    · have hb1 : (bt s 1 == 125) = true := by simp [h1]
      have hx := Lib.hid (show readI s = (0, 2, 0, 0) by unfold readI; rw [if_neg (by omega), if_pos h1])
      clear h0 h1
      go_enter Tryd.func41, Tryd.ntmps41
      go_wp2_with (go_at_call 52; refine (byteAt_any _ _ _ (by omega) (by omega)).mono ?_; rintro e w' ⟨rfl, rfl⟩)
      go_returns
      exact ⟨by rw [hx.out], (Below.refl _ _).alloc (Nat.le_refl _) _⟩
    · have hb1 : (bt s 1 == 125) = false := by simpa using h1
      have hx := Lib.hid (show readI s = readGo s (s.size + 1) 1 0 0 by unfold readI; rw [if_neg (by omega), if_neg h1])
      have hsz : 1 ≤ s.size := by
        rcases Nat.eq_zero_or_pos s.size with h | h
        · rw [bt_out (by omega)] at h0; omega
        · exact h
      clear h0 h1
      go_enter Tryd.func41, Tryd.ntmps41
      go_wp2_with (go_at_call 52; refine (byteAt_any _ _ _ (by omega) (by omega)).mono ?_; rintro e w' ⟨rfl, rfl⟩)
      go_loopw [2, 5, 6] (fun l p m wr => ∃ (fuel a least : Nat) (li : Int), l = .int .u64 li ∧ p = .int .i64 (a : Int) ∧ m = .int .i64 (least : Int) ∧ a ≤ s.size ∧ s.size < a + fuel ∧ least ≤ 64 ∧ readGo s fuel a least li = readI s ∧ Below (w.heap.size + 1) (w.alloc (.cells #[.int .i64 0, .int .i64 0] 45)) wr) (fun _ p _ _ => s.size + 1 - (intOf p).toNat)
      case atStart => exact ⟨s.size + 1, 1, 0, 0, rfl, rfl, rfl, hsz, by omega, by omega, hx.out.symm, Below.refl _ _⟩
      case round =>
        obtain ⟨fuel, a, least, li, rfl, rfl, rfl, ha, hfu, hl64, hgo, hbel⟩ := hrel
        obtain ⟨fuel, rfl⟩ : ∃ f, fuel = f + 1 := ⟨fuel - 1, by omega⟩
        have hsz0 := (cell2 hbel).2.2.2.2.1
        by_cases herr : (numI s a).2.2.1 = 0
        · obtain ⟨hn0, hd63, hnv, hne⟩ := numI_at s a herr
          have hN := Lib.hid (show numI s a = ((decOf (digs s a) : Int), (a : Int) + ((digs s a).length : Int), 0, 0) by
            have h4 : (numI s a).2.2.2 = 0 := by
              unfold numI at herr ⊢
              split
              · rename_i h; exact absurd h hn0
              · split
                · rename_i h1 h2; rw [if_neg h1, if_pos h2] at herr; simp at herr
                · split
                  · omega
                  · rfl
            exact Prod.ext hnv (Prod.ext hne (Prod.ext herr h4)))
          have hen := digs_size s a (by omega)
          have hE := Lib.hid (show (numI s a).2.2.1 = 0 from herr)
          clear hnv hne herr
          obtain ⟨d, hd⟩ : ∃ d, d = decOf (digs s a) := ⟨_, rfl⟩
          obtain ⟨n, hn⟩ : ∃ n, n = (digs s a).length := ⟨_, rfl⟩
          rw [← hd, ← hn] at hN
          rw [← hn] at hen hn0
          rw [← hd] at hd63
          have hstep : readI s = if d < least then (0, 0, 9, (a : Int)) else if bt s (a + n) = 125 then (bits .or .u64 li (bitOf d), (a : Int) + n + 1, 0, 0) else if bt s (a + n) = 44 then readGo s fuel (a + n + 1) (d + 1) (bits .or .u64 li (bitOf d)) else (0, 0, 3, (a : Int) + n) := by
            rw [← hgo, hd, hn]
            simp only [readGo]
            rw [if_neg (by rw [hE.out]; simp)]
          clear hd hn hgo hx hE
          by_cases hlt : d < least
          · have hy := Lib.hid (show readI s = (0, 0, 9, (a : Int)) by rw [hstep, if_pos hlt])
            clear hstep
            go_wp2_with (first | (go_at_call 53; refine (number_any _ _ _ hs ha).mono ?_; rintro e w1 ⟨rfl, hq⟩; have hq' := (cell2 (hbel.trans (hq.mono hsz0))); obtain ⟨hc0, hc1, hf0, hf1, hz1, hbl⟩ := hq'; clear hq; rw [hN.out]) | (go_at_call 52; refine (byteAt_any _ _ _ (by omega) (by omega)).mono ?_; rintro e w' ⟨rfl, rfl⟩))
            obtain ⟨r0, r1⟩ := cell2_read hc0 hc1 hz1 (.int .i64 9) (.int .i64 (a : Int)) (.cells #[.int .i64 0, .int .i64 0] 45)
            refine bodyPost_ret (by simp [results, Tryd.results41, go_sem, r0, r1]; try rfl) rfl ?_
            exact ⟨by rw [hy.out], (((hbl.setCell (p := ⟨w.heap.size, 0, none⟩) (Nat.le_refl _) _).setCell (p := ⟨w.heap.size, 1, none⟩) (Nat.le_refl _) _).alloc (by simp [World.setCell]; omega) _)⟩
          · rw [if_neg hlt] at hstep
            by_cases h125 : bt s (a + n) = 125
            · have hy := Lib.hid (show readI s = (bits .or .u64 li (bitOf d), (a : Int) + n + 1, 0, 0) by rw [hstep, if_pos h125])
              have hb125 : (bt s (a + n) == 125) = true := by simp [h125]
              clear hstep h125
              go_wp2_with (first | (go_at_call 53; refine (number_any _ _ _ hs ha).mono ?_; rintro e w1 ⟨rfl, hq⟩; have hq' := (cell2 (hbel.trans (hq.mono hsz0))); obtain ⟨hc0, hc1, hf0, hf1, hz1, hbl⟩ := hq'; clear hq; rw [hN.out]) | (go_at_call 52; refine (byteAt_any _ _ _ (by omega) (by omega)).mono ?_; rintro e w' ⟨rfl, rfl⟩))
              obtain ⟨r0, r1⟩ := cell2_read hc0 hc1 hz1 (.int .i64 0) (.int .i64 0) (.cells #[.int .i64 0, .int .i64 0] 45)
              refine bodyPost_ret (by simp [results, Tryd.results41, go_sem, r0, r1]; try rfl) rfl ?_
              exact ⟨by rw [hy.out]; rfl, (((hbl.setCell (p := ⟨w.heap.size, 0, none⟩) (Nat.le_refl _) _).setCell (p := ⟨w.heap.size, 1, none⟩) (Nat.le_refl _) _).alloc (by simp [World.setCell]; omega) _)⟩
            · rw [if_neg h125] at hstep
              have hb125 : (bt s (a + n) == 125) = false := by simpa using h125
              by_cases h44 : bt s (a + n) = 44
              · have hy := Lib.hid (show readGo s fuel (a + n + 1) (d + 1) (bits .or .u64 li (bitOf d)) = readI s by rw [hstep, if_pos h44])
                have hb44 : (bt s (a + n) == 44) = true := by simp [h44]
                have hin : a + n < s.size := by
                  rcases Nat.lt_or_ge (a + n) s.size with h | h
                  · exact h
                  · rw [bt_out (by omega)] at h44; omega
                clear hstep h125 h44
                go_wp2_with (first | (go_at_call 53; refine (number_any _ _ _ hs ha).mono ?_; rintro e w1 ⟨rfl, hq⟩; have hq' := (cell2 (hbel.trans (hq.mono hsz0))); have hbel1 := hbel.trans (hq.mono hsz0); obtain ⟨hc0, hc1, hf0, hf1, hz1, hbl⟩ := hq'; clear hq; rw [hN.out]) | (go_at_call 52; refine (byteAt_any _ _ _ (by omega) (by omega)).mono ?_; rintro e w' ⟨rfl, rfl⟩))
                go_roundw
                case rel => exact ⟨fuel, a + n + 1, d + 1, _, rfl, by go_num, by go_num, by omega, by omega, by omega, hy.out, hbel1.alloc (by omega) _⟩
                case measure => simp [intOf]; omega
              · have hy := Lib.hid (show readI s = (0, 0, 3, (a : Int) + n) by rw [hstep, if_neg h44])
                have hb44 : (bt s (a + n) == 44) = false := by simpa using h44
                clear hstep h125 h44
                go_wp2_with (first | (go_at_call 53; refine (number_any _ _ _ hs ha).mono ?_; rintro e w1 ⟨rfl, hq⟩; have hq' := (cell2 (hbel.trans (hq.mono hsz0))); obtain ⟨hc0, hc1, hf0, hf1, hz1, hbl⟩ := hq'; clear hq; rw [hN.out]) | (go_at_call 52; refine (byteAt_any _ _ _ (by omega) (by omega)).mono ?_; rintro e w' ⟨rfl, rfl⟩))
                obtain ⟨r0, r1⟩ := cell2_read hc0 hc1 hz1 (.int .i64 3) (.int .i64 ((a : Int) + (n : Int))) (.cells #[.int .i64 0, .int .i64 0] 45)
                refine bodyPost_ret (by simp [results, Tryd.results41, go_sem, r0, r1]; try rfl) rfl ?_
                exact ⟨by rw [hy.out], (((hbl.setCell (p := ⟨w.heap.size, 0, none⟩) (Nat.le_refl _) _).setCell (p := ⟨w.heap.size, 1, none⟩) (Nat.le_refl _) _).alloc (by simp [World.setCell]; omega) _)⟩
        · have hb2 : ((numI s a).2.2.1 != 0) = true := by simpa using herr
          have hy := Lib.hid (show readI s = (0, 0, (numI s a).2.2.1, (numI s a).2.2.2) by rw [← hgo]; simp only [readGo]; rw [if_pos herr])
          clear hx hgo herr
          go_wp2_with (first | (go_at_call 53; refine (number_any _ _ _ hs ha).mono ?_; rintro e w1 ⟨rfl, hq⟩; have hq' := (cell2 (hbel.trans (hq.mono hsz0))); obtain ⟨hc0, hc1, hf0, hf1, hz1, hbl⟩ := hq'; clear hq) | (go_at_call 52; refine (byteAt_any _ _ _ (by omega) (by omega)).mono ?_; rintro e w' ⟨rfl, rfl⟩))
          go_region
          all_goals go_wp2
          all_goals obtain ⟨r0, r1⟩ := cell2_read hc0 hc1 hz1 (.int .i64 (numI s a).2.2.1) (.int .i64 (numI s a).2.2.2) (.cells #[.int .i64 (numI s a).2.2.1, .int .i64 (numI s a).2.2.2] 45)
          all_goals refine bodyPost_ret (by simp [results, Tryd.results41, go_sem, r0, r1]; try rfl) rfl ?_
          all_goals exact ⟨by rw [hy.out], (((hbl.setCell (p := ⟨w.heap.size, 0, none⟩) (Nat.le_refl _) _).setCell (p := ⟨w.heap.size, 1, none⟩) (Nat.le_refl _) _).alloc (by simp [World.setCell]; omega) _).drew⟩
  · have hb0 : (bt s 0 != 123) = true := by simpa using h0
    have hx := Lib.hid (show readI s = (0, 0, 3, 0) by unfold readI; rw [if_pos h0])
    clear h0
    go_enter Tryd.func41, Tryd.ntmps41
    go_wp2_with (go_at_call 52; refine (byteAt_any _ _ _ (by omega) (by omega)).mono ?_; rintro e w' ⟨rfl, rfl⟩)
    go_returns
    exact ⟨by rw [hx.out], (Below.refl _ _).alloc (Nat.le_refl _) _⟩
end Go.Proofs.YtnlioeheogkkiaaDoor
