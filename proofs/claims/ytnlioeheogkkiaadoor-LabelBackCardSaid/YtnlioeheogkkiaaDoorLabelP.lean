/- Walks: what the reference of package label reads from texts: digit, fault. -/
import Derived.Test.YtnlioeheogkkiaaDoorLabelI
import Derived.Test.YtnlioeheogkkiaaDoorLabelIt
import Derived.Lib.Strings
import Derived.Deep.DeepCutAuto
namespace Go.Proofs.YtnlioeheogkkiaaDoor
open Go.RowKit
open Lb

theorem refDigit_any (s : ByteArray) (a : Nat) (w : World) (_hs : s.size ≤ 9223372036854775807) :
    Calls Tryd.prog 55 #[.string s, .int .i64 (a : Int)] w fun e w' => e = .returned (.bool (isDig (bt s a))) ∧ w = w' := by
  by_cases h : a < s.size
  · have hb := Lib.hid (bt_in h)
    by_cases h48 : 48 ≤ (s[a].toNat : Int)
    · go_enter Tryd.func55, Tryd.ntmps55
      go_wp2
      go_ret
      exact ⟨ret_bool (by rw [hb.out]; simp [isDig]; try omega), rfl⟩
    · go_enter Tryd.func55, Tryd.ntmps55
      go_wp2
      go_ret
      exact ⟨ret_bool (by rw [hb.out]; simp [isDig]; try omega), rfl⟩
  · have hb := Lib.hid (bt_out h)
    go_enter Tryd.func55, Tryd.ntmps55
    go_wp2
    go_ret
    exact ⟨by rw [hb.out]; rfl, rfl⟩
theorem refFault_any (e a : Int) (w : World) :
    Calls Tryd.prog 54 #[.int .i64 e, .int .i64 a] w fun r w' => r = .returned (.tuple #[.int .u64 0, .int .i64 0, .agg #[.int .i64 e, .int .i64 a]]) ∧ Below w.heap.size w w' := by
  go_enter Tryd.func54, Tryd.ntmps54
  go_wp2
  go_returns
  exact ⟨rfl, (Below.refl _ _).alloc (Nat.le_refl _) _⟩
theorem numI_zero {s : ByteArray} {a : Nat} (h : (digs s a).length = 0) : numI s a = (0, 0, 3, (a : Int)) := by unfold numI; rw [if_pos h]
theorem numI_lead {s : ByteArray} {a : Nat} (h : 1 < (digs s a).length) (hb : bt s a = 48) : numI s a = (0, 0, 3, (a : Int) + 1) := by
  unfold numI; rw [if_neg (by omega), if_pos ⟨hb, h⟩]
theorem numI_big {s : ByteArray} {a : Nat} (h : (digs s a).length ≠ 0) (hb : 1 < (digs s a).length → bt s a ≠ 48) (hv : 63 < decOf (digs s a)) : numI s a = (0, 0, 2, (a : Int)) := by
  unfold numI; rw [if_neg h, if_neg (fun hh => hb hh.2 hh.1), if_pos hv]
theorem numI_fine {s : ByteArray} {a : Nat} (h : (digs s a).length ≠ 0) (hb : 1 < (digs s a).length → bt s a ≠ 48) (hv : ¬ 63 < decOf (digs s a)) : numI s a = ((decOf (digs s a) : Int), (a : Int) + ((digs s a).length : Int), 0, 0) := by
  unfold numI; rw [if_neg h, if_neg (fun hh => hb hh.2 hh.1), if_neg hv]
theorem readGo_fault {s : ByteArray} {fuel a least : Nat} {li e p : Int} (h : numI s a = (0, 0, e, p)) (he : e ≠ 0) : readGo s (fuel + 1) a least li = (0, 0, e, p) := by
  simp only [readGo, h]
  rw [if_pos he]
theorem readGo_fine {s : ByteArray} {fuel a least : Nat} {li c e : Int} (h : numI s a = (c, e, 0, 0)) : readGo s (fuel + 1) a least li = if decOf (digs s a) < least then (0, 0, 9, (a : Int)) else if bt s (a + (digs s a).length) = 125 then (bits .or .u64 li (bitOf (decOf (digs s a))), (a : Int) + (digs s a).length + 1, 0, 0)
    else if bt s (a + (digs s a).length) = 44 then readGo s fuel (a + (digs s a).length + 1) (decOf (digs s a) + 1) (bits .or .u64 li (bitOf (decOf (digs s a)))) else (0, 0, 3, (a : Int) + (digs s a).length) := by
  simp only [readGo, h]
  rw [if_neg (by simp)]

set_option maxRecDepth 100000 in
set_option maxHeartbeats 4000000 in
theorem refRead_any (s : ByteArray) (w : World) (hs : s.size ≤ 1000000) :
    Calls Tryd.prog 42 #[.string s] w fun e w' =>
      e = .returned (.tuple #[.int .u64 (readI s).1, .int .i64 (readI s).2.1, .agg #[.int .i64 (readI s).2.2.1, .int .i64 (readI s).2.2.2]]) ∧ Below w.heap.size w w' := by
  by_cases hemp : s.size = 0
  · have hy := Lib.hid (show readI s = (0, 0, 3, 0) by unfold readI; rw [if_pos (by rw [bt_out (by omega)]; decide)])
    have hse : s.toList = [] := by
      have : s.data.toList.length = 0 := by rw [bytes_size]; exact hemp
      rw [Lib.toList_data]
      exact List.eq_nil_of_length_eq_zero this
    have hsb : s.toList.isEmpty = true := by rw [hse]; rfl
    clear hemp
    go_enter Tryd.func42, Tryd.ntmps42
    go_wp2_with (go_at_call 54; refine (refFault_any _ _ _).mono ?_; rintro e w1 ⟨rfl, hq⟩; obtain ⟨hc0, hc1, hf0, hf1, hz1, hbl⟩ := cell2 (hq.mono (by simp)); clear hq)
    obtain ⟨r0, r1⟩ := cell_set_two hc0 hc1 (by simp) (.int .i64 3) (.int .i64 (0))
    refine bodyPost_ret (by simp [results, Tryd.results42, go_sem, r0, r1]; try rfl) rfl ?_
    exact ⟨by rw [hy.out], (hbl.setCell (p := ⟨w.heap.size, 0, none⟩) (Nat.le_refl _) _).setCell (p := ⟨w.heap.size, 1, none⟩) (Nat.le_refl _) _⟩
  · have hpos : 0 < s.size := by omega
    have hse : s.toList.isEmpty = false := by
      rw [Lib.toList_data, List.isEmpty_eq_false_iff]
      intro h
      have : s.data.toList.length = 0 := by rw [h]; rfl
      rw [bytes_size] at this
      omega
    have hbt0 := bt_in hpos
    by_cases h0 : bt s 0 = 123
    · have hb0 : ((s[0].toNat : Int) != 123) = false := by rw [← hbt0, h0]; rfl
      by_cases h1 : bt s 1 = 125
      · have hlt1 : 1 < s.size := by
          rcases Nat.lt_or_ge 1 s.size with h | h
          · exact h
          · rw [bt_out (by omega)] at h1; omega
        have hb1 : ((s[1].toNat : Int) == 125) = true := by rw [← bt_in hlt1, h1]; rfl
        have hy := Lib.hid (show readI s = (0, 2, 0, 0) by unfold readI; rw [if_neg (by omega), if_pos h1])
        clear h0 h1 hbt0 hemp
        go_enter Tryd.func42, Tryd.ntmps42
        go_wp2
        go_returns
        exact ⟨by rw [hy.out], (Below.refl _ _).alloc (Nat.le_refl _) _⟩
      · have hx := Lib.hid (show readI s = readGo s (s.size + 1) 1 0 0 by unfold readI; rw [if_neg (by omega), if_neg h1])
        have hsz1 : 1 ≤ s.size := hpos
        clear h0 hbt0 hemp
        go_enter Tryd.func42, Tryd.ntmps42
        go_upto_region 3 with (fail)
        go_cut [28] (fun s28 wx => s28 = .bool false ∧ w.alloc (.cells #[.int .i64 0, .int .i64 0] 45) = wx)
        case first =>
          by_cases hlt1 : 1 < s.size
          · have hb1 : ((s[1].toNat : Int) == 125) = false := by rw [← bt_in hlt1]; simpa using h1
            clear h1
            go_wp2_with fail
            go_meet
            exact ⟨rfl, rfl⟩
          · clear h1
            go_wp2_with fail
            go_meet
            exact ⟨rfl, rfl⟩
        case rest =>
        obtain ⟨rfl, rfl⟩ := hcut
        clear h1
        go_wp2_with fail
        go_loop [5, 6, 7] (fun l m p => ∃ (fuel a least : Nat) (li : Int), l = .int .u64 li ∧ p = .int .i64 (a : Int) ∧ m = .int .i64 ((least : Int) - 1) ∧ a ≤ s.size ∧ s.size < a + fuel ∧ least ≤ 64 ∧ readGo s fuel a least li = readI s) (fun _ _ p => s.size + 1 - (intOf p).toNat)
        case atStart => exact ⟨s.size + 1, 1, 0, 0, rfl, rfl, rfl, hsz1, by omega, by omega, hx.out.symm⟩
        case round =>
          obtain ⟨fuel, a, least, li, rfl, rfl, rfl, ha, hfu, hl64, hgo⟩ := hrel
          obtain ⟨fuel, rfl⟩ : ∃ f, fuel = f + 1 := ⟨fuel - 1, by omega⟩
          by_cases hz : (digs s a).length = 0
          · have hd := Lib.hid (show isDig (bt s a) = false by have := digs_end s a; rw [hz] at this; exact this)
            have hy := Lib.hid (show readI s = (0, 0, 3, (a : Int)) by rw [← hgo]; exact readGo_fault (numI_zero hz) (by decide))
            clear hgo hz hx
            go_wp2_with (first | (go_at_call 55; refine (refDigit_any _ _ _ (by omega)).mono ?_; rintro e w' ⟨rfl, rfl⟩; rw [hd.out]) | (go_at_call 54; refine (refFault_any _ _ _).mono ?_; rintro e w1 ⟨rfl, hq⟩; obtain ⟨hc0, hc1, hf0, hf1, hz1, hbl⟩ := cell2 (hq.mono (by simp)); clear hq))
            obtain ⟨r0, r1⟩ := cell_set_two hc0 hc1 (by simp) (.int .i64 3) (.int .i64 ((a : Int)))
            refine bodyPost_ret (by simp [results, Tryd.results42, go_sem, r0, r1]; try rfl) rfl ?_
            exact ⟨by rw [hy.out], (hbl.setCell (p := ⟨w.heap.size, 0, none⟩) (Nat.le_refl _) _).setCell (p := ⟨w.heap.size, 1, none⟩) (Nat.le_refl _) _⟩
          · have hd := Lib.hid (show isDig (bt s a) = true from (digs_in (s := s) (at_ := a) (j := 0) (by omega)).2.2)
            have hHgo := Lib.hid hgo
            have hsize := digs_size s a (by omega)
            clear hgo hx
            go_wp2_with (go_at_call 55; refine (refDigit_any _ _ _ (by omega)).mono ?_; rintro e w' ⟨rfl, rfl⟩; rw [hd.out])
            go_loop [7, 9] (fun p n => ∃ j : Nat, j ≤ (digs s a).length ∧ p = .int .i64 ((a + j : Nat) : Int) ∧ n = .int .i64 ((min 1000 (decOf ((digs s a).take j)) : Nat) : Int) ∧ (2 ≤ j → bt s a ≠ 48)) (fun p _ => a + (digs s a).length - (intOf p).toNat)
            case atStart => exact ⟨0, Nat.zero_le _, rfl, rfl, fun h => by omega⟩
            case round =>
              obtain ⟨j, hj, rfl, rfl, h2⟩ := hrel
              by_cases hlt : j < (digs s a).length
              · obtain ⟨hin, hget, hdj⟩ := digs_in hlt
                have hlo : 48 ≤ s[a + j].toNat := by have := (isDig_iff.1 hdj).1; rw [bt_in hin] at this; omega
                have hhi : s[a + j].toNat ≤ 57 := by have := (isDig_iff.1 hdj).2; rw [bt_in hin] at this; omega
                have hia : a < s.size := by omega
                have hba := bt_in hia
                have Hdj := Lib.hid hdj
                have hv := Lib.hid (show decOf ((digs s a).take (j + 1)) = 10 * decOf ((digs s a).take j) + (s[a + j].toNat - 48) by rw [take_snoc _ j hlt, decOf_snoc, hget])
                have H2 := Lib.hid h2
                clear hdj hget h2
                by_cases hj1 : j = 1
                · subst hj1
                  have hj1b : (((a + 1 : Nat) : Int) == (a : Int) + 1) = true := by simp
                  by_cases h48 : bt s a = 48
                  · have hb48 : ((s[a].toNat : Int) == 48) = true := by rw [← hba, h48]; rfl
                    have hy := Lib.hid (show readI s = (0, 0, 3, (a : Int) + 1) by rw [← hHgo.out]; exact readGo_fault (numI_lead (by omega) h48) (by decide))
                    clear hba h48
                    go_wp2_with (first | (go_at_call 55; refine (refDigit_any _ _ _ (by omega)).mono ?_; rintro e w' ⟨rfl, rfl⟩; rw [Hdj.out]) | (go_at_call 54; refine (refFault_any _ _ _).mono ?_; rintro e w1 ⟨rfl, hq⟩; obtain ⟨hc0, hc1, hf0, hf1, hz1, hbl⟩ := cell2 (hq.mono (by simp)); clear hq))
                    obtain ⟨r0, r1⟩ := cell_set_two hc0 hc1 (by simp) (.int .i64 3) (.int .i64 ((a : Int) + 1))
                    refine bodyPost_ret (by simp [results, Tryd.results42, go_sem, r0, r1]; try rfl) rfl ?_
                    exact ⟨by rw [hy.out], (hbl.setCell (p := ⟨w.heap.size, 0, none⟩) (Nat.le_refl _) _).setCell (p := ⟨w.heap.size, 1, none⟩) (Nat.le_refl _) _⟩
                  · have hb48 : ((s[a].toNat : Int) == 48) = false := by rw [← hba]; simpa using h48
                    have H48 := Lib.hid h48
                    clear hba h48
                    go_wp2_with (go_at_call 55; refine (refDigit_any _ _ _ (by omega)).mono ?_; rintro e w' ⟨rfl, rfl⟩; rw [Hdj.out])
                    go_round
                    case rel => exact ⟨2, by omega, by first | go_num | (congr 1; omega), by rw [hv.out]; congr 1; split <;> omega, fun _ => H48.out⟩
                    case measure => simp [intOf]; omega
                · have hj1b : (((a + j : Nat) : Int) == (a : Int) + 1) = false := by simp; omega
                  clear hba
                  go_wp2_with (go_at_call 55; refine (refDigit_any _ _ _ (by omega)).mono ?_; rintro e w' ⟨rfl, rfl⟩; rw [Hdj.out])
                  go_round
                  case rel => exact ⟨j + 1, by omega, by first | go_num | (congr 1; omega), by rw [hv.out]; congr 1; split <;> omega, fun h => H2.out (by omega)⟩
                  case measure => simp [intOf]; omega
              · obtain rfl : j = (digs s a).length := by omega
                rw [List.take_length]
                have hdn := Lib.hid (digs_end s a)
                have hnb := Lib.hid (show 1 < (digs s a).length → bt s a ≠ 48 from fun h => h2 h)
                clear h2 hd
                obtain ⟨n, hn⟩ : ∃ n, n = (digs s a).length := ⟨_, rfl⟩
                obtain ⟨v, hv⟩ : ∃ v, v = decOf (digs s a) := ⟨_, rfl⟩
                have Hn := Lib.hid hn
                have Hv := Lib.hid hv
                have hn0 : 0 < n := by omega
                rw [← hn] at hdn hsize ⊢
                rw [← hv]
                clear hn hv hj hz
                by_cases hbig : 63 < v
                · have hy := Lib.hid (show readI s = (0, 0, 2, (a : Int)) by rw [← hHgo.out]; exact readGo_fault (numI_big (by rw [← Hn.out]; omega) hnb.out (by rw [← Hv.out]; exact hbig)) (by decide))
                  have ht : (63 : Int) < ((min 1000 v : Nat) : Int) := by omega
                  go_wp2_with (first | (go_at_call 55; refine (refDigit_any _ _ _ (by omega)).mono ?_; rintro e w' ⟨rfl, rfl⟩; rw [hdn.out]) | (go_at_call 54; refine (refFault_any _ _ _).mono ?_; rintro e w1 ⟨rfl, hq⟩; obtain ⟨hc0, hc1, hf0, hf1, hz1, hbl⟩ := cell2 (hq.mono (by simp)); clear hq))
                  obtain ⟨r0, r1⟩ := cell_set_two hc0 hc1 (by simp) (.int .i64 2) (.int .i64 ((a : Int)))
                  refine bodyPost_ret (by simp [results, Tryd.results42, go_sem, r0, r1]; try rfl) rfl ?_
                  exact ⟨by rw [hy.out], (hbl.setCell (p := ⟨w.heap.size, 0, none⟩) (Nat.le_refl _) _).setCell (p := ⟨w.heap.size, 1, none⟩) (Nat.le_refl _) _⟩
                · have hmin : min 1000 v = v := by omega
                  rw [hmin]
                  clear hmin
                  have hstep := readGo_fine (fuel := fuel) (least := least) (li := li) (numI_fine (by rw [← Hn.out]; omega) hnb.out (by rw [← Hv.out]; exact hbig))
                  rw [hHgo.out, ← Hn.out, ← Hv.out] at hstep
                  by_cases hlt2 : v < least
                  · have hy := Lib.hid (show readI s = (0, 0, 9, (a : Int)) by rw [hstep, if_pos hlt2])
                    clear hstep
                    have ht : (v : Int) ≤ (least : Int) - 1 := by omega
                    go_wp2_with (first | (go_at_call 55; refine (refDigit_any _ _ _ (by omega)).mono ?_; rintro e w' ⟨rfl, rfl⟩; rw [hdn.out]) | (go_at_call 54; refine (refFault_any _ _ _).mono ?_; rintro e w1 ⟨rfl, hq⟩; obtain ⟨hc0, hc1, hf0, hf1, hz1, hbl⟩ := cell2 (hq.mono (by simp)); clear hq))
                    obtain ⟨r0, r1⟩ := cell_set_two hc0 hc1 (by simp) (.int .i64 9) (.int .i64 ((a : Int)))
                    refine bodyPost_ret (by simp [results, Tryd.results42, go_sem, r0, r1]; try rfl) rfl ?_
                    exact ⟨by rw [hy.out], (hbl.setCell (p := ⟨w.heap.size, 0, none⟩) (Nat.le_refl _) _).setCell (p := ⟨w.heap.size, 1, none⟩) (Nat.le_refl _) _⟩
                  · rw [if_neg hlt2] at hstep
                    have ht : ¬ (v : Int) ≤ (least : Int) - 1 := by omega
                    by_cases hend : a + n = s.size
                    · have hbe : bt s (a + n) = 0 := bt_out (by omega)
                      have hy := Lib.hid (show readI s = (0, 0, 3, (a : Int) + n) by rw [hstep, hbe]; rfl)
                      have hq1 : ((a : Int) + (n : Int) == (s.size : Int)) = true := by simp; omega
                      clear hstep hbe hend
                      go_wp2_with (first | (go_at_call 55; refine (refDigit_any _ _ _ (by omega)).mono ?_; rintro e w' ⟨rfl, rfl⟩; rw [hdn.out]) | (go_at_call 54; refine (refFault_any _ _ _).mono ?_; rintro e w1 ⟨rfl, hq⟩; obtain ⟨hc0, hc1, hf0, hf1, hz1, hbl⟩ := cell2 (hq.mono (by simp)); clear hq))
                      obtain ⟨r0, r1⟩ := cell_set_two hc0 hc1 (by simp) (.int .i64 3) (.int .i64 ((a : Int) + (n : Int)))
                      refine bodyPost_ret (by simp [results, Tryd.results42, go_sem, r0, r1]; try rfl) rfl ?_
                      exact ⟨by rw [hy.out], (hbl.setCell (p := ⟨w.heap.size, 0, none⟩) (Nat.le_refl _) _).setCell (p := ⟨w.heap.size, 1, none⟩) (Nat.le_refl _) _⟩
                    · have hin : a + n < s.size := by omega
                      have hbi := bt_in hin
                      have hq1 : ((a : Int) + (n : Int) == (s.size : Int)) = false := by simp; omega
                      by_cases h125 : bt s (a + n) = 125
                      · have hq2 : ((s[a + n].toNat : Int) != 44) = true := by rw [← hbi, h125]; rfl
                        have hq3 : ((s[a + n].toNat : Int) != 125) = false := by rw [← hbi, h125]; rfl
                        have hq4 : ((s[a + n].toNat : Int) == 125) = true := by rw [← hbi, h125]; rfl
                        have hy := Lib.hid (show readI s = (bits .or .u64 li (bitOf v), (a : Int) + n + 1, 0, 0) by rw [hstep, if_pos h125])
                        clear hstep h125 hbi hend
                        go_wp2_with (go_at_call 55; refine (refDigit_any _ _ _ (by omega)).mono ?_; rintro e w' ⟨rfl, rfl⟩; rw [hdn.out])
                        go_returns
                        exact ⟨by rw [hy.out]; rfl, (Below.refl _ _).alloc (Nat.le_refl _) _⟩
                      · have hq3 : ((s[a + n].toNat : Int) != 125) = true := by rw [← hbi]; simpa using h125
                        have hq4 : ((s[a + n].toNat : Int) == 125) = false := by rw [← hbi]; simpa using h125
                        rw [if_neg h125] at hstep
                        by_cases h44 : bt s (a + n) = 44
                        · have hq2 : ((s[a + n].toNat : Int) != 44) = false := by rw [← hbi, h44]; rfl
                          have hy := Lib.hid (show readGo s fuel (a + n + 1) (v + 1) (bits .or .u64 li (bitOf v)) = readI s by rw [hstep, if_pos h44])
                          clear hstep h125 h44 hbi hend
                          go_wp2_with (go_at_call 55; refine (refDigit_any _ _ _ (by omega)).mono ?_; rintro e w' ⟨rfl, rfl⟩; rw [hdn.out])
                          go_round
                          case rel => exact ⟨fuel, a + n + 1, v + 1, _, rfl, by go_num, by first | go_num | (congr 1; omega), by omega, by omega, by omega, hy.out⟩
                          case measure => simp [intOf]; omega
                        · have hq2 : ((s[a + n].toNat : Int) != 44) = true := by rw [← hbi]; simpa using h44
                          have hy := Lib.hid (show readI s = (0, 0, 3, (a : Int) + n) by rw [hstep, if_neg h44])
                          clear hstep h125 h44 hbi hend
                          go_wp2_with (first | (go_at_call 55; refine (refDigit_any _ _ _ (by omega)).mono ?_; rintro e w' ⟨rfl, rfl⟩; rw [hdn.out]) | (go_at_call 54; refine (refFault_any _ _ _).mono ?_; rintro e w1 ⟨rfl, hq⟩; obtain ⟨hc0, hc1, hf0, hf1, hz1, hbl⟩ := cell2 (hq.mono (by simp)); clear hq))
                          obtain ⟨r0, r1⟩ := cell_set_two hc0 hc1 (by simp) (.int .i64 3) (.int .i64 ((a : Int) + (n : Int)))
                          refine bodyPost_ret (by simp [results, Tryd.results42, go_sem, r0, r1]; try rfl) rfl ?_
                          exact ⟨by rw [hy.out], (hbl.setCell (p := ⟨w.heap.size, 0, none⟩) (Nat.le_refl _) _).setCell (p := ⟨w.heap.size, 1, none⟩) (Nat.le_refl _) _⟩
    · have hb0 : ((s[0].toNat : Int) != 123) = true := by rw [← hbt0]; simpa using h0
      have hy := Lib.hid (show readI s = (0, 0, 3, 0) by unfold readI; rw [if_pos h0])
      clear h0 hbt0 hemp
      go_enter Tryd.func42, Tryd.ntmps42
      go_wp2_with (go_at_call 54; refine (refFault_any _ _ _).mono ?_; rintro e w1 ⟨rfl, hq⟩; obtain ⟨hc0, hc1, hf0, hf1, hz1, hbl⟩ := cell2 (hq.mono (by simp)); clear hq)
      obtain ⟨r0, r1⟩ := cell_set_two hc0 hc1 (by simp) (.int .i64 3) (.int .i64 (0))
      refine bodyPost_ret (by simp [results, Tryd.results42, go_sem, r0, r1]; try rfl) rfl ?_
      exact ⟨by rw [hy.out], (hbl.setCell (p := ⟨w.heap.size, 0, none⟩) (Nat.le_refl _) _).setCell (p := ⟨w.heap.size, 1, none⟩) (Nat.le_refl _) _⟩
end Go.Proofs.YtnlioeheogkkiaaDoor
