/- Walks: Parse of package label, and fault of its statements. -/
import Derived.Test.YtnlioeheogkkiaaDoorLabelH
namespace Go.Proofs.YtnlioeheogkkiaaDoor
open Go.RowKit
open Lb

theorem parse_any (s : ByteArray) (w : World) (hs : s.size ≤ 4611686018427387904) :
    Calls Tryd.prog 39 #[.string s] w fun e w' =>
      e = .returned (.tuple #[.int .u64 (parseI s).1, .agg #[.int .i64 (parseI s).2.1, .int .i64 (parseI s).2.2]]) ∧ Below w.heap.size w w' := by
  by_cases herr : (readI s).2.2.1 = 0
  · have hb : ((readI s).2.2.1 != 0) = false := by simp [herr]
    by_cases hlt : (readI s).2.1 < (s.size : Int)
    · have hx := Lib.hid (show parseI s = (0, 4, (readI s).2.1) by unfold parseI; rw [if_neg (by omega), if_pos hlt])
      have hd : decide ((readI s).2.1 < (s.size : Int)) = true := by simpa using hlt
      clear herr
      go_enter Tryd.func39, Tryd.ntmps39
      go_wp2_with (go_at_call 41; refine (read_any s _ hs).mono ?_; rintro e w1 ⟨rfl, hq⟩; obtain ⟨hc0, hc1, hf0, hf1, hz1, hbl⟩ := cell2 (hq.mono (by simp)); clear hq)
      obtain ⟨r0, r1⟩ := cell2_read hc0 hc1 hz1 (.int .i64 4) (.int .i64 (readI s).2.1) (.cells #[.int .i64 (readI s).2.2.1, .int .i64 (readI s).2.2.2] 45)
      refine bodyPost_ret (by simp [results, Tryd.results39, go_sem, r0, r1]; try rfl) rfl ?_
      exact ⟨by rw [hx.out], (((hbl.setCell (p := ⟨w.heap.size, 0, none⟩) (Nat.le_refl _) _).setCell (p := ⟨w.heap.size, 1, none⟩) (Nat.le_refl _) _).alloc (by simp [World.setCell]; omega) _)⟩
    · have hx := Lib.hid (show parseI s = ((readI s).1, 0, 0) by unfold parseI; rw [if_neg (by omega), if_neg hlt])
      have hd : decide ((readI s).2.1 < (s.size : Int)) = false := by simpa using hlt
      clear herr
      go_enter Tryd.func39, Tryd.ntmps39
      go_wp2_with (go_at_call 41; refine (read_any s _ hs).mono ?_; rintro e w1 ⟨rfl, hq⟩; obtain ⟨hc0, hc1, hf0, hf1, hz1, hbl⟩ := cell2 (hq.mono (by simp)); clear hq)
      obtain ⟨r0, r1⟩ := cell2_read hc0 hc1 hz1 (.int .i64 0) (.int .i64 0) (.cells #[.int .i64 (readI s).2.2.1, .int .i64 (readI s).2.2.2] 45)
      refine bodyPost_ret (by simp [results, Tryd.results39, go_sem, r0, r1]; try rfl) rfl ?_
      exact ⟨by rw [hx.out]; try rfl, (((hbl.setCell (p := ⟨w.heap.size, 0, none⟩) (Nat.le_refl _) _).setCell (p := ⟨w.heap.size, 1, none⟩) (Nat.le_refl _) _).alloc (by simp [World.setCell]; omega) _)⟩
  · have hb : ((readI s).2.2.1 != 0) = true := by simpa using herr
    have hx := Lib.hid (show parseI s = (0, (readI s).2.2.1, (readI s).2.2.2) by unfold parseI; rw [if_pos herr])
    clear herr
    go_enter Tryd.func39, Tryd.ntmps39
    go_wp2_with (go_at_call 41; refine (read_any s _ hs).mono ?_; rintro e w1 ⟨rfl, hq⟩; obtain ⟨hc0, hc1, hf0, hf1, hz1, hbl⟩ := cell2 (hq.mono (by simp)); clear hq)
    go_region
    all_goals go_wp2
    all_goals obtain ⟨r0, r1⟩ := cell2_read hc0 hc1 hz1 (.int .i64 (readI s).2.2.1) (.int .i64 (readI s).2.2.2) (.cells #[.int .i64 (readI s).2.2.1, .int .i64 (readI s).2.2.2] 45)
    all_goals refine bodyPost_ret (by simp [results, Tryd.results39, go_sem, r0, r1]; try rfl) rfl ?_
    all_goals exact ⟨by rw [hx.out], (((hbl.setCell (p := ⟨w.heap.size, 0, none⟩) (Nat.le_refl _) _).setCell (p := ⟨w.heap.size, 1, none⟩) (Nat.le_refl _) _).alloc (by simp [World.setCell]; omega) _).drew⟩

theorem lawFault_any (s : ByteArray) (e p : Int) (w : World) (hs : s.size ≤ 4611686018427387904) (h : parseI s = (0, e, p)) :
    Calls Tryd.prog 43 #[.string s, .int .i64 e, .int .i64 p] w fun e w' => e = .returned (.bool true) ∧ Below w.heap.size w w' := by
  have H := Lib.hid h
  clear h
  go_enter Tryd.func43, Tryd.ntmps43
  go_wp2_with (go_at_call 39; refine (parse_any s _ hs).mono ?_; rintro e w1 ⟨rfl, hq⟩; rw [H.out])
  go_ret
  exact ⟨rfl, hq.alloc hq.size _⟩
end Go.Proofs.YtnlioeheogkkiaaDoor
