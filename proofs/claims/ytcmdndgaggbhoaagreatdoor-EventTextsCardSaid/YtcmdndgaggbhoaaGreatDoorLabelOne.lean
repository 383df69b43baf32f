/- Package label, first part: bytes, reading. -/
import Derived.Test.YtcmdndgaggbhoaaGreatDoorWords
import Derived.Test.YtcmdndgaggbhoaaGreatDoorLabelNil
import Derived.Deep.QuietTactic
import Derived.BigQuiet
import Derived.Deep.Draws
import Derived.Laws.AppendOwnNone
import Derived.Deep.LoopGhost
import Derived.WalkMore
import Derived.Laws.OwnMore
import Derived.Handy
import Derived.RegionTactic
import Derived.ChangeAlike
namespace Go.Proofs.YtcmdndgaggbhoaaGreatDoor
open Go.RowKit
open Lb

/-- The first k categories are no witness against 'a is at most b'. -/
def noneBelow (a b : Int) (k : Nat) : Prop := ∀ j : Nat, j < k → (hasI a j && !hasI b j) = false
theorem refBelowI_true {a b : Int} (h : noneBelow a b 64) : refBelowI a b = true := by
  unfold refBelowI upto64
  rw [List.all_eq_true]
  intro c hc
  obtain ⟨j, hj, rfl⟩ := List.mem_map.1 hc
  rw [h j (by simpa using hj)]
  rfl
theorem refBelowI_false {a b : Int} {k : Nat} (hk : k < 64) (h : hasI a k = true) (h' : hasI b k = false) : refBelowI a b = false := by
  unfold refBelowI upto64
  rw [List.all_eq_false]
  exact ⟨(k : Int), List.mem_map.2 ⟨k, by simpa using hk, rfl⟩, by simp [h, h']⟩

end Go.Proofs.YtcmdndgaggbhoaaGreatDoor
namespace Go.Proofs.YtcmdndgaggbhoaaGreatDoor
open Go.RowKit
open Lb

theorem infoByte : (Tryz.prog.info? 5).map (fun i => (i.zero, i.size, i.bytes)) = some (some (.int .u8 0), 1, 1) := by kernel_rfl

end Go.Proofs.YtcmdndgaggbhoaaGreatDoor
namespace Go.Proofs.YtcmdndgaggbhoaaGreatDoor
open Go.RowKit
open Lb

end Go.Proofs.YtcmdndgaggbhoaaGreatDoor
namespace Go.Proofs.YtcmdndgaggbhoaaGreatDoor
open Go.RowKit
open Lb

theorem byteAt_any (s : ByteArray) (a : Int) (w : World) (_hs : s.size ≤ 9223372036854775807) (h0 : 0 ≤ a) :
    Calls Tryz.prog 82 #[.string s, .int .i64 a] w fun e w' => e = .returned (.int .u8 (bt s a.toNat)) ∧ w = w' := by
  obtain ⟨i, rfl⟩ := Int.eq_ofNat_of_zero_le h0
  rw [Int.toNat_natCast]
  by_cases h : i < s.size
  · have hb := Lib.hid (bt_in h)
    go_enter Tryz.func82, Tryz.ntmps82
    go_wp2
    go_ret
    exact ⟨by rw [hb.out]; rfl, rfl⟩
  · have hb := Lib.hid (bt_out h)
    go_enter Tryz.func82, Tryz.ntmps82
    go_wp2
    go_ret
    exact ⟨by rw [hb.out]; rfl, rfl⟩
theorem isDigit_any (b : Int) (w : World) :
    Calls Tryz.prog 116 #[.int .u8 b] w fun e w' => e = .returned (.bool (isDig b)) ∧ w = w' := by
  by_cases h : 48 ≤ b
  all_goals
    go_enter Tryz.func116, Tryz.ntmps116
    go_wp2
    go_ret
    exact ⟨ret_bool (by simp [isDig]; try omega), rfl⟩

theorem number_any (s : ByteArray) (at_ : Nat) (w : World) (hs : s.size ≤ 4611686018427387904) (h0 : at_ ≤ s.size) :
    Calls Tryz.prog 83 #[.string s, .int .i64 at_] w fun e w' =>
      e = .returned (.tuple #[.int .i64 (numI s at_).1, .int .i64 (numI s at_).2.1, .agg #[.int .i64 (numI s at_).2.2.1, .int .i64 (numI s at_).2.2.2]]) ∧ Below w.heap.size w w' := by
  go_enter Tryz.func83, Tryz.ntmps83
  go_wp2
  go_loop [4, 5] (fun c e => ∃ j : Nat, j ≤ (digs s at_).length ∧ e = .int .i64 ((at_ + j : Nat) : Int) ∧ c = .int .i64 ((min 64 (decOf ((digs s at_).take j)) : Nat) : Int)) (fun _ e => at_ + (digs s at_).length - (intOf e).toNat)
  case atStart => exact ⟨0, Nat.zero_le _, rfl, rfl⟩
  case round =>
    obtain ⟨j, hj, rfl, rfl⟩ := hrel
    by_cases hlt : j < (digs s at_).length
    · obtain ⟨hin, hget, hd⟩ := digs_in hlt
      have hbi := bt_in hin
      have hlo : 48 ≤ s[at_ + j].toNat := by have := (isDig_iff.1 hd).1; omega
      have hhi : s[at_ + j].toNat ≤ 57 := by have := (isDig_iff.1 hd).2; omega
      have Hd := Lib.hid hd
      have Hbi := Lib.hid hbi
      have hv := Lib.hid (show decOf ((digs s at_).take (j + 1)) = 10 * decOf ((digs s at_).take j) + (s[at_ + j].toNat - 48) by rw [take_snoc _ j hlt, decOf_snoc, hget])
      clear hd hbi hget
      have hvv : 0 ≤ decOf ((digs s at_).take j) := Nat.zero_le _
      go_wp2_with (first | (go_at_call 82; refine (byteAt_any _ _ _ (by omega) (by omega)).mono ?_; rintro e w' ⟨rfl, rfl⟩) | (go_at_call 116; refine (isDigit_any _ _).mono ?_; rintro e w' ⟨rfl, rfl⟩; rw [Hd.out]))
      go_round
      case rel => exact ⟨j + 1, by omega, by first | go_num | (congr 1; omega), by rw [hv.out]; congr 1; split <;> omega⟩
      case measure => simp [intOf]; omega
    · obtain rfl : j = (digs s at_).length := by omega
      rw [List.take_length]
      have hd := Lib.hid (digs_end s at_)
      have hsz := digs_size s at_
      by_cases hA : (digs s at_).length = 0
      · have hx := Lib.hid (show numI s at_ = (0, 0, 3, (at_ : Int)) by unfold numI; rw [if_pos hA])
        have hL := Lib.hid hA
        rw [hA] at hd
        have he : (((at_ + (digs s at_).length : Nat) : Int) == (at_ : Int)) = true := by rw [hA, Nat.add_zero]; simp
        rw [hA, Nat.add_zero] at he ⊢
        rw [Nat.add_zero] at hd
        clear hA hsz
        go_wp2_with (first | (go_at_call 82; refine (byteAt_any _ _ _ (by omega) (by omega)).mono ?_; rintro e w' ⟨rfl, rfl⟩) | (go_at_call 116; refine (isDigit_any _ _).mono ?_; rintro e w' ⟨rfl, rfl⟩; rw [hd.out]))
        go_returns
        exact ⟨by rw [hx.out], (Below.refl _ _).alloc (Nat.le_refl _) _⟩
      · obtain ⟨hin, hget, _⟩ := digs_in (s := s) (at_ := at_) (j := 0) (by omega)
        rw [Nat.add_zero] at hin
        have hb := bt_in hin
        have hsz' := hsz (by omega)
        have he : (((at_ + (digs s at_).length : Nat) : Int) == (at_ : Int)) = false := by simp; omega
        have h0n := Lib.hid hA
        clear hA hsz hget
        have hcalls : True := trivial
        by_cases h48 : s[at_].toNat = 48
        · have hb48 : ((s[at_].toNat : Int) == 48) = true := by rw [h48]; rfl
          by_cases h1 : 1 < (digs s at_).length
          · have hx := Lib.hid (show numI s at_ = (0, 0, 3, (at_ : Int) + 1) by unfold numI; rw [if_neg h0n.out, if_pos ⟨by rw [hb, h48]; rfl, h1⟩])
            clear hb h48
            go_wp2_with (first | (go_at_call 82; refine (byteAt_any _ _ _ (by omega) (by omega)).mono ?_; rintro e w' ⟨rfl, rfl⟩) | (go_at_call 116; refine (isDigit_any _ _).mono ?_; rintro e w' ⟨rfl, rfl⟩; rw [hd.out]))
            go_returns
            exact ⟨by rw [hx.out], (Below.refl _ _).alloc (Nat.le_refl _) _⟩
          · by_cases hv : 63 < decOf (digs s at_)
            · have hx := Lib.hid (show numI s at_ = (0, 0, 2, (at_ : Int)) by unfold numI; rw [if_neg h0n.out, if_neg (fun h => h1 h.2), if_pos hv])
              have hmin : min 64 (decOf (digs s at_)) = 64 := by omega
              have hcat := Lib.hid (show isCat (64 : Int) = false by decide)
              rw [hmin]
              clear hb h48 hmin
              go_wp2_with (first | (go_at_call 82; refine (byteAt_any _ _ _ (by omega) (by omega)).mono ?_; rintro e w' ⟨rfl, rfl⟩) | (go_at_call 116; refine (isDigit_any _ _).mono ?_; rintro e w' ⟨rfl, rfl⟩; rw [hd.out]) | (go_at_call 117; refine (isCategory_any _ _).mono ?_; rintro e w' ⟨rfl, rfl⟩; rw [hcat.out]))
              go_returns
              exact ⟨by rw [hx.out], (Below.refl _ _).alloc (Nat.le_refl _) _⟩
            · have hx := Lib.hid (show numI s at_ = ((decOf (digs s at_) : Int), (at_ : Int) + ((digs s at_).length : Int), 0, 0) by unfold numI; rw [if_neg h0n.out, if_neg (fun h => h1 h.2), if_neg hv])
              have hmin : min 64 (decOf (digs s at_)) = decOf (digs s at_) := by omega
              have hcat := Lib.hid (show isCat (decOf (digs s at_) : Int) = true by rw [isCat_iff]; omega)
              rw [hmin]
              clear hb h48 hmin
              go_wp2_with (first | (go_at_call 82; refine (byteAt_any _ _ _ (by omega) (by omega)).mono ?_; rintro e w' ⟨rfl, rfl⟩) | (go_at_call 116; refine (isDigit_any _ _).mono ?_; rintro e w' ⟨rfl, rfl⟩; rw [hd.out]) | (go_at_call 117; refine (isCategory_any _ _).mono ?_; rintro e w' ⟨rfl, rfl⟩; rw [hcat.out]))
              go_returns
              exact ⟨by rw [hx.out], (Below.refl _ _).alloc (Nat.le_refl _) _⟩
        · have hb48 : ((s[at_].toNat : Int) == 48) = false := by simp; omega
          have hbt : bt s at_ ≠ 48 := by rw [hb]; omega
          by_cases hv : 63 < decOf (digs s at_)
          · have hx := Lib.hid (show numI s at_ = (0, 0, 2, (at_ : Int)) by unfold numI; rw [if_neg h0n.out, if_neg (fun h => hbt h.1), if_pos hv])
            have hmin : min 64 (decOf (digs s at_)) = 64 := by omega
            have hcat := Lib.hid (show isCat (64 : Int) = false by decide)
            rw [hmin]
            clear hb h48 hmin hbt
            go_wp2_with (first | (go_at_call 82; refine (byteAt_any _ _ _ (by omega) (by omega)).mono ?_; rintro e w' ⟨rfl, rfl⟩) | (go_at_call 116; refine (isDigit_any _ _).mono ?_; rintro e w' ⟨rfl, rfl⟩; rw [hd.out]) | (go_at_call 117; refine (isCategory_any _ _).mono ?_; rintro e w' ⟨rfl, rfl⟩; rw [hcat.out]))
            go_returns
            exact ⟨by rw [hx.out], (Below.refl _ _).alloc (Nat.le_refl _) _⟩
          · have hx := Lib.hid (show numI s at_ = ((decOf (digs s at_) : Int), (at_ : Int) + ((digs s at_).length : Int), 0, 0) by unfold numI; rw [if_neg h0n.out, if_neg (fun h => hbt h.1), if_neg hv])
            have hmin : min 64 (decOf (digs s at_)) = decOf (digs s at_) := by omega
            have hcat := Lib.hid (show isCat (decOf (digs s at_) : Int) = true by rw [isCat_iff]; omega)
            rw [hmin]
            clear hb h48 hmin hbt
            go_wp2_with (first | (go_at_call 82; refine (byteAt_any _ _ _ (by omega) (by omega)).mono ?_; rintro e w' ⟨rfl, rfl⟩) | (go_at_call 116; refine (isDigit_any _ _).mono ?_; rintro e w' ⟨rfl, rfl⟩; rw [hd.out]) | (go_at_call 117; refine (isCategory_any _ _).mono ?_; rintro e w' ⟨rfl, rfl⟩; rw [hcat.out]))
            go_returns
            exact ⟨by rw [hx.out], (Below.refl _ _).alloc (Nat.le_refl _) _⟩
end Go.Proofs.YtcmdndgaggbhoaaGreatDoor
namespace Go.Proofs.YtcmdndgaggbhoaaGreatDoor
open Go.RowKit
open Lb

theorem numI_at (s : ByteArray) (a : Nat) (h : (numI s a).2.2.1 = 0) : (digs s a).length ≠ 0 ∧ decOf (digs s a) ≤ 63 ∧ (numI s a).1 = decOf (digs s a) ∧ (numI s a).2.1 = (a : Int) + (digs s a).length := by
  unfold numI at h ⊢
  split at h
  · simp at h
  · split at h
    · simp at h
    · split at h
      · simp at h
      · rename_i h1 h2 h3
        rw [if_neg h1, if_neg h2, if_neg h3]
        exact ⟨h1, by omega, rfl, rfl⟩

set_option maxHeartbeats 1000000 in
theorem read_any (s : ByteArray) (w : World) (hs : s.size ≤ 4611686018427387904) :
    Calls Tryz.prog 58 #[.string s] w fun e w' =>
      e = .returned (.tuple #[.int .u64 (readI s).1, .int .i64 (readI s).2.1, .agg #[.int .i64 (readI s).2.2.1, .int .i64 (readI s).2.2.2]]) ∧ Below w.heap.size w w' := by
  by_cases h0 : bt s 0 = 123
  · have hb0 : (bt s 0 != 123) = false := by simp [h0]
    by_cases h1 : bt s 1 = 125
    · have hb1 : (bt s 1 == 125) = true := by simp [h1]
      have hx := Lib.hid (show readI s = (0, 2, 0, 0) by unfold readI; rw [if_neg (by omega), if_pos h1])
      clear h0 h1
      go_enter Tryz.func58, Tryz.ntmps58
      go_wp2_with (go_at_call 82; refine (byteAt_any _ _ _ (by omega) (by omega)).mono ?_; rintro e w' ⟨rfl, rfl⟩)
      go_returns
      exact ⟨by rw [hx.out], (Below.refl _ _).alloc (Nat.le_refl _) _⟩
    · have hb1 : (bt s 1 == 125) = false := by simpa using h1
      have hx := Lib.hid (show readI s = readGo s (s.size + 1) 1 0 0 by unfold readI; rw [if_neg (by omega), if_neg h1])
      have hsz : 1 ≤ s.size := by
        rcases Nat.eq_zero_or_pos s.size with h | h
        · rw [bt_out (by omega)] at h0; omega
        · exact h
      clear h0 h1
      go_enter Tryz.func58, Tryz.ntmps58
      go_wp2_with (go_at_call 82; refine (byteAt_any _ _ _ (by omega) (by omega)).mono ?_; rintro e w' ⟨rfl, rfl⟩)
      go_loopw [2, 5, 6] (fun l p m wr => ∃ (fuel a least : Nat) (li : Int), l = .int .u64 li ∧ p = .int .i64 (a : Int) ∧ m = .int .i64 (least : Int) ∧ a ≤ s.size ∧ s.size < a + fuel ∧ least ≤ 64 ∧ readGo s fuel a least li = readI s ∧ Below (w.heap.size + 1) (w.alloc (.cells #[.int .i64 0, .int .i64 0] 27)) wr) (fun _ p _ _ => s.size + 1 - (intOf p).toNat)
      case atStart => exact ⟨s.size + 1, 1, 0, 0, rfl, rfl, rfl, hsz, by omega, by omega, hx.out.symm, Below.refl _ _⟩
      case round =>
        obtain ⟨fuel, a, least, li, rfl, rfl, rfl, ha, hfu, hl64, hgo, hbel⟩ := hrel
        obtain ⟨fuel, rfl⟩ : ∃ f, fuel = f + 1 := ⟨fuel - 1, by omega⟩
        have hsz0 := (cell2 hbel).2.2.2.2.1
        by_cases herr : (numI s a).2.2.1 = 0
        · obtain ⟨hn0, hd63, hnv, hne⟩ := numI_at s a herr
          have hN := Lib.hid (show numI s a = ((decOf (digs s a) : Int), (a : Int) + ((digs s a).length : Int), 0, 0) by
            have h4 : (numI s a).2.2.2 = 0 := by
              unfold numI at herr ⊢
              split
              · rename_i h; exact absurd h hn0
              · split
                · rename_i h1 h2; rw [if_neg h1, if_pos h2] at herr; simp at herr
                · split
                  · omega
                  · rfl
            exact Prod.ext hnv (Prod.ext hne (Prod.ext herr h4)))
          have hen := digs_size s a (by omega)
          have hE := Lib.hid (show (numI s a).2.2.1 = 0 from herr)
          clear hnv hne herr
          obtain ⟨d, hd⟩ : ∃ d, d = decOf (digs s a) := ⟨_, rfl⟩
          obtain ⟨n, hn⟩ : ∃ n, n = (digs s a).length := ⟨_, rfl⟩
          rw [← hd, ← hn] at hN
          rw [← hn] at hen hn0
          rw [← hd] at hd63
          have hstep : readI s = if d < least then (0, 0, 9, (a : Int)) else if bt s (a + n) = 125 then (bits .or .u64 li (bitOf d), (a : Int) + n + 1, 0, 0) else if bt s (a + n) = 44 then readGo s fuel (a + n + 1) (d + 1) (bits .or .u64 li (bitOf d)) else (0, 0, 3, (a : Int) + n) := by
            rw [← hgo, hd, hn]
            simp only [readGo]
            rw [if_neg (by rw [hE.out]; simp)]
          clear hd hn hgo hx hE
          by_cases hlt : d < least
          · have hy := Lib.hid (show readI s = (0, 0, 9, (a : Int)) by rw [hstep, if_pos hlt])
            clear hstep
            go_wp2_with (first | (go_at_call 83; refine (number_any _ _ _ hs ha).mono ?_; rintro e w1 ⟨rfl, hq⟩; have hq' := (cell2 (hbel.trans (hq.mono hsz0))); obtain ⟨hc0, hc1, hf0, hf1, hz1, hbl⟩ := hq'; clear hq; rw [hN.out]) | (go_at_call 82; refine (byteAt_any _ _ _ (by omega) (by omega)).mono ?_; rintro e w' ⟨rfl, rfl⟩))
            obtain ⟨r0, r1⟩ := cell2_read hc0 hc1 hz1 (.int .i64 9) (.int .i64 (a : Int)) (.cells #[.int .i64 0, .int .i64 0] 27)
            refine bodyPost_ret (by simp [results, Tryz.results58, go_sem, r0, r1]; try rfl) rfl ?_
            exact ⟨by rw [hy.out], (((hbl.setCell (p := ⟨w.heap.size, 0, none⟩) (Nat.le_refl _) _).setCell (p := ⟨w.heap.size, 1, none⟩) (Nat.le_refl _) _).alloc (by simp [World.setCell]; omega) _)⟩
          · rw [if_neg hlt] at hstep
            by_cases h125 : bt s (a + n) = 125
            · have hy := Lib.hid (show readI s = (bits .or .u64 li (bitOf d), (a : Int) + n + 1, 0, 0) by rw [hstep, if_pos h125])
              have hb125 : (bt s (a + n) == 125) = true := by simp [h125]
              clear hstep h125
              go_wp2_with (first | (go_at_call 83; refine (number_any _ _ _ hs ha).mono ?_; rintro e w1 ⟨rfl, hq⟩; have hq' := (cell2 (hbel.trans (hq.mono hsz0))); obtain ⟨hc0, hc1, hf0, hf1, hz1, hbl⟩ := hq'; clear hq; rw [hN.out]) | (go_at_call 82; refine (byteAt_any _ _ _ (by omega) (by omega)).mono ?_; rintro e w' ⟨rfl, rfl⟩))
              obtain ⟨r0, r1⟩ := cell2_read hc0 hc1 hz1 (.int .i64 0) (.int .i64 0) (.cells #[.int .i64 0, .int .i64 0] 27)
              refine bodyPost_ret (by simp [results, Tryz.results58, go_sem, r0, r1]; try rfl) rfl ?_
              exact ⟨by rw [hy.out]; rfl, (((hbl.setCell (p := ⟨w.heap.size, 0, none⟩) (Nat.le_refl _) _).setCell (p := ⟨w.heap.size, 1, none⟩) (Nat.le_refl _) _).alloc (by simp [World.setCell]; omega) _)⟩
            · rw [if_neg h125] at hstep
              have hb125 : (bt s (a + n) == 125) = false := by simpa using h125
              by_cases h44 : bt s (a + n) = 44
              · have hy := Lib.hid (show readGo s fuel (a + n + 1) (d + 1) (bits .or .u64 li (bitOf d)) = readI s by rw [hstep, if_pos h44])
                have hb44 : (bt s (a + n) == 44) = true := by simp [h44]
                have hin : a + n < s.size := by
                  rcases Nat.lt_or_ge (a + n) s.size with h | h
                  · exact h
                  · rw [bt_out (by omega)] at h44; omega
                clear hstep h125 h44
                go_wp2_with (first | (go_at_call 83; refine (number_any _ _ _ hs ha).mono ?_; rintro e w1 ⟨rfl, hq⟩; have hq' := (cell2 (hbel.trans (hq.mono hsz0))); have hbel1 := hbel.trans (hq.mono hsz0); obtain ⟨hc0, hc1, hf0, hf1, hz1, hbl⟩ := hq'; clear hq; rw [hN.out]) | (go_at_call 82; refine (byteAt_any _ _ _ (by omega) (by omega)).mono ?_; rintro e w' ⟨rfl, rfl⟩))
                go_roundw
                case rel => exact ⟨fuel, a + n + 1, d + 1, _, rfl, by go_num, by go_num, by omega, by omega, by omega, hy.out, hbel1.alloc (by omega) _⟩
                case measure => simp [intOf]; omega
              · have hy := Lib.hid (show readI s = (0, 0, 3, (a : Int) + n) by rw [hstep, if_neg h44])
                have hb44 : (bt s (a + n) == 44) = false := by simpa using h44
                clear hstep h125 h44
                go_wp2_with (first | (go_at_call 83; refine (number_any _ _ _ hs ha).mono ?_; rintro e w1 ⟨rfl, hq⟩; have hq' := (cell2 (hbel.trans (hq.mono hsz0))); obtain ⟨hc0, hc1, hf0, hf1, hz1, hbl⟩ := hq'; clear hq; rw [hN.out]) | (go_at_call 82; refine (byteAt_any _ _ _ (by omega) (by omega)).mono ?_; rintro e w' ⟨rfl, rfl⟩))
                obtain ⟨r0, r1⟩ := cell2_read hc0 hc1 hz1 (.int .i64 3) (.int .i64 ((a : Int) + (n : Int))) (.cells #[.int .i64 0, .int .i64 0] 27)
                refine bodyPost_ret (by simp [results, Tryz.results58, go_sem, r0, r1]; try rfl) rfl ?_
                exact ⟨by rw [hy.out], (((hbl.setCell (p := ⟨w.heap.size, 0, none⟩) (Nat.le_refl _) _).setCell (p := ⟨w.heap.size, 1, none⟩) (Nat.le_refl _) _).alloc (by simp [World.setCell]; omega) _)⟩
        · have hb2 : ((numI s a).2.2.1 != 0) = true := by simpa using herr
          have hy := Lib.hid (show readI s = (0, 0, (numI s a).2.2.1, (numI s a).2.2.2) by rw [← hgo]; simp only [readGo]; rw [if_pos herr])
          clear hx hgo herr
          go_wp2_with (first | (go_at_call 83; refine (number_any _ _ _ hs ha).mono ?_; rintro e w1 ⟨rfl, hq⟩; have hq' := (cell2 (hbel.trans (hq.mono hsz0))); obtain ⟨hc0, hc1, hf0, hf1, hz1, hbl⟩ := hq'; clear hq) | (go_at_call 82; refine (byteAt_any _ _ _ (by omega) (by omega)).mono ?_; rintro e w' ⟨rfl, rfl⟩))
          go_region
          all_goals go_wp2
          all_goals obtain ⟨r0, r1⟩ := cell2_read hc0 hc1 hz1 (.int .i64 (numI s a).2.2.1) (.int .i64 (numI s a).2.2.2) (.cells #[.int .i64 (numI s a).2.2.1, .int .i64 (numI s a).2.2.2] 27)
          all_goals refine bodyPost_ret (by simp [results, Tryz.results58, go_sem, r0, r1]; try rfl) rfl ?_
          all_goals exact ⟨by rw [hy.out], (((hbl.setCell (p := ⟨w.heap.size, 0, none⟩) (Nat.le_refl _) _).setCell (p := ⟨w.heap.size, 1, none⟩) (Nat.le_refl _) _).alloc (by simp [World.setCell]; omega) _).drew⟩
  · have hb0 : (bt s 0 != 123) = true := by simpa using h0
    have hx := Lib.hid (show readI s = (0, 0, 3, 0) by unfold readI; rw [if_pos h0])
    clear h0
    go_enter Tryz.func58, Tryz.ntmps58
    go_wp2_with (go_at_call 82; refine (byteAt_any _ _ _ (by omega) (by omega)).mono ?_; rintro e w' ⟨rfl, rfl⟩)
    go_returns
    exact ⟨by rw [hx.out], (Below.refl _ _).alloc (Nat.le_refl _) _⟩
end Go.Proofs.YtcmdndgaggbhoaaGreatDoor
namespace Go.Proofs.YtcmdndgaggbhoaaGreatDoor
open Go.RowKit
open Lb

theorem parse_any (s : ByteArray) (w : World) (hs : s.size ≤ 4611686018427387904) :
    Calls Tryz.prog 30 #[.string s] w fun e w' =>
      e = .returned (.tuple #[.int .u64 (parseI s).1, .agg #[.int .i64 (parseI s).2.1, .int .i64 (parseI s).2.2]]) ∧ Below w.heap.size w w' := by
  by_cases herr : (readI s).2.2.1 = 0
  · have hb : ((readI s).2.2.1 != 0) = false := by simp [herr]
    by_cases hlt : (readI s).2.1 < (s.size : Int)
    · have hx := Lib.hid (show parseI s = (0, 4, (readI s).2.1) by unfold parseI; rw [if_neg (by omega), if_pos hlt])
      have hd : decide ((readI s).2.1 < (s.size : Int)) = true := by simpa using hlt
      clear herr
      go_enter Tryz.func30, Tryz.ntmps30
      go_wp2_with (go_at_call 58; refine (read_any s _ hs).mono ?_; rintro e w1 ⟨rfl, hq⟩; obtain ⟨hc0, hc1, hf0, hf1, hz1, hbl⟩ := cell2 (hq.mono (by simp)); clear hq)
      obtain ⟨r0, r1⟩ := cell2_read hc0 hc1 hz1 (.int .i64 4) (.int .i64 (readI s).2.1) (.cells #[.int .i64 (readI s).2.2.1, .int .i64 (readI s).2.2.2] 27)
      refine bodyPost_ret (by simp [results, Tryz.results30, go_sem, r0, r1]; try rfl) rfl ?_
      exact ⟨by rw [hx.out], (((hbl.setCell (p := ⟨w.heap.size, 0, none⟩) (Nat.le_refl _) _).setCell (p := ⟨w.heap.size, 1, none⟩) (Nat.le_refl _) _).alloc (by simp [World.setCell]; omega) _)⟩
    · have hx := Lib.hid (show parseI s = ((readI s).1, 0, 0) by unfold parseI; rw [if_neg (by omega), if_neg hlt])
      have hd : decide ((readI s).2.1 < (s.size : Int)) = false := by simpa using hlt
      clear herr
      go_enter Tryz.func30, Tryz.ntmps30
      go_wp2_with (go_at_call 58; refine (read_any s _ hs).mono ?_; rintro e w1 ⟨rfl, hq⟩; obtain ⟨hc0, hc1, hf0, hf1, hz1, hbl⟩ := cell2 (hq.mono (by simp)); clear hq)
      obtain ⟨r0, r1⟩ := cell2_read hc0 hc1 hz1 (.int .i64 0) (.int .i64 0) (.cells #[.int .i64 (readI s).2.2.1, .int .i64 (readI s).2.2.2] 27)
      refine bodyPost_ret (by simp [results, Tryz.results30, go_sem, r0, r1]; try rfl) rfl ?_
      exact ⟨by rw [hx.out]; try rfl, (((hbl.setCell (p := ⟨w.heap.size, 0, none⟩) (Nat.le_refl _) _).setCell (p := ⟨w.heap.size, 1, none⟩) (Nat.le_refl _) _).alloc (by simp [World.setCell]; omega) _)⟩
  · have hb : ((readI s).2.2.1 != 0) = true := by simpa using herr
    have hx := Lib.hid (show parseI s = (0, (readI s).2.2.1, (readI s).2.2.2) by unfold parseI; rw [if_pos herr])
    clear herr
    go_enter Tryz.func30, Tryz.ntmps30
    go_wp2_with (go_at_call 58; refine (read_any s _ hs).mono ?_; rintro e w1 ⟨rfl, hq⟩; obtain ⟨hc0, hc1, hf0, hf1, hz1, hbl⟩ := cell2 (hq.mono (by simp)); clear hq)
    go_region
    all_goals go_wp2
    all_goals obtain ⟨r0, r1⟩ := cell2_read hc0 hc1 hz1 (.int .i64 (readI s).2.2.1) (.int .i64 (readI s).2.2.2) (.cells #[.int .i64 (readI s).2.2.1, .int .i64 (readI s).2.2.2] 27)
    all_goals refine bodyPost_ret (by simp [results, Tryz.results30, go_sem, r0, r1]; try rfl) rfl ?_
    all_goals exact ⟨by rw [hx.out], (((hbl.setCell (p := ⟨w.heap.size, 0, none⟩) (Nat.le_refl _) _).setCell (p := ⟨w.heap.size, 1, none⟩) (Nat.le_refl _) _).alloc (by simp [World.setCell]; omega) _).drew⟩

end Go.Proofs.YtcmdndgaggbhoaaGreatDoor
