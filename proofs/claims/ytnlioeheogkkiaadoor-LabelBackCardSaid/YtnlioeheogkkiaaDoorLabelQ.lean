/- Walks: Parse of the reference of package label; LabelReads. -/
import Derived.Test.YtnlioeheogkkiaaDoorLabelP
import Derived.Test.YtnlioeheogkkiaaDoorLabelM
namespace Go.Proofs.YtnlioeheogkkiaaDoor
open Go.RowKit
open Lb

theorem refParse_any (s : ByteArray) (w : World) (hs : s.size ≤ 1000000) :
    Calls Tryd.prog 40 #[.string s] w fun e w' =>
      e = .returned (.tuple #[.int .u64 (parseI s).1, .agg #[.int .i64 (parseI s).2.1, .int .i64 (parseI s).2.2]]) ∧ Below w.heap.size w w' := by
  by_cases herr : (readI s).2.2.1 = 0
  · have hb : ((readI s).2.2.1 == 0) = true := by simp [herr]
    have hb' : ((readI s).2.2.1 != 0) = false := by simp [herr]
    by_cases hlt : (readI s).2.1 < (s.size : Int)
    · have hx := Lib.hid (show parseI s = (0, 4, (readI s).2.1) by unfold parseI; rw [if_neg (by omega), if_pos hlt])
      have hd : decide ((readI s).2.1 < (s.size : Int)) = true := by simpa using hlt
      clear herr
      go_enter Tryd.func40, Tryd.ntmps40
      go_wp2_with (go_at_call 42; refine (refRead_any s _ hs).mono ?_; rintro e w1 ⟨rfl, hq⟩; obtain ⟨hc0, hc1, hf0, hf1, hz1, hbl⟩ := cell2 (hq.mono (by simp)); clear hq)
      go_region
      all_goals go_wp2
      all_goals obtain ⟨r0, r1⟩ := cell2_read hc0 hc1 hz1 (.int .i64 4) (.int .i64 (readI s).2.1) (.cells #[.int .i64 4, .int .i64 (readI s).2.1] 45)
      all_goals refine bodyPost_ret (by simp [results, Tryd.results40, go_sem, r0, r1]; try rfl) rfl ?_
      all_goals exact ⟨by rw [hx.out], (((hbl.setCell (p := ⟨w.heap.size, 0, none⟩) (Nat.le_refl _) _).setCell (p := ⟨w.heap.size, 1, none⟩) (Nat.le_refl _) _).alloc (by simp [World.setCell]; omega) _).drew⟩
    · have hx := Lib.hid (show parseI s = ((readI s).1, 0, 0) by unfold parseI; rw [if_neg (by omega), if_neg hlt])
      have hd : decide ((readI s).2.1 < (s.size : Int)) = false := by simpa using hlt
      clear herr
      go_enter Tryd.func40, Tryd.ntmps40
      go_wp2_with (go_at_call 42; refine (refRead_any s _ hs).mono ?_; rintro e w1 ⟨rfl, hq⟩; obtain ⟨hc0, hc1, hf0, hf1, hz1, hbl⟩ := cell2 (hq.mono (by simp)); clear hq)
      obtain ⟨r0, r1⟩ := cell2_read hc0 hc1 hz1 (.int .i64 0) (.int .i64 0) (.cells #[.int .i64 (readI s).2.2.1, .int .i64 (readI s).2.2.2] 45)
      refine bodyPost_ret (by simp [results, Tryd.results40, go_sem, r0, r1]; try rfl) rfl ?_
      exact ⟨by rw [hx.out]; try rfl, (((hbl.setCell (p := ⟨w.heap.size, 0, none⟩) (Nat.le_refl _) _).setCell (p := ⟨w.heap.size, 1, none⟩) (Nat.le_refl _) _).alloc (by simp [World.setCell]; omega) _)⟩
  · have hb : ((readI s).2.2.1 == 0) = false := by simpa using herr
    have hb' : ((readI s).2.2.1 != 0) = true := by simpa using herr
    have hx := Lib.hid (show parseI s = (0, (readI s).2.2.1, (readI s).2.2.2) by unfold parseI; rw [if_pos herr])
    clear herr
    go_enter Tryd.func40, Tryd.ntmps40
    go_wp2_with (go_at_call 42; refine (refRead_any s _ hs).mono ?_; rintro e w1 ⟨rfl, hq⟩; obtain ⟨hc0, hc1, hf0, hf1, hz1, hbl⟩ := cell2 (hq.mono (by simp)); clear hq)
    go_region
    all_goals go_wp2
    all_goals obtain ⟨r0, r1⟩ := cell2_read hc0 hc1 hz1 (.int .i64 (readI s).2.2.1) (.int .i64 (readI s).2.2.2) (.cells #[.int .i64 (readI s).2.2.1, .int .i64 (readI s).2.2.2] 45)
    all_goals refine bodyPost_ret (by simp [results, Tryd.results40, go_sem, r0, r1]; try rfl) rfl ?_
    all_goals exact ⟨by rw [hx.out], (((hbl.setCell (p := ⟨w.heap.size, 0, none⟩) (Nat.le_refl _) _).setCell (p := ⟨w.heap.size, 1, none⟩) (Nat.le_refl _) _).alloc (by simp [World.setCell]; omega) _).drew⟩

/-- A block of two cells that holds these values. -/
def Held2 (w : World) (b : Nat) (x y : Value) : Prop := b < w.heap.size ∧ w.cell? ⟨b, 0, none⟩ = some x ∧ w.cell? ⟨b, 1, none⟩ = some y
theorem Held2.below {w w' : World} {b : Nat} {x y : Value} (h : Held2 w b x y) (hb : Below w.heap.size w w') : Held2 w' b x y :=
  ⟨Nat.lt_of_lt_of_le h.1 hb.size, (hb.cell (p := ⟨b, 0, none⟩) h.1).trans h.2.1, (hb.cell (p := ⟨b, 1, none⟩) h.1).trans h.2.2⟩
theorem Held2.alloc {w : World} {b : Nat} {x y : Value} (h : Held2 w b x y) (o : Obj) : Held2 (w.alloc o) b x y := h.below ((Below.refl _ _).alloc (Nat.le_refl _) o)
theorem Held2.new (w : World) (t : TypeId) (x y : Value) : Held2 (w.alloc (.cells #[x, y] t)) w.heap.size x y := ⟨by simp, by go_simp, by go_simp⟩

set_option maxRecDepth 100000 in
set_option maxHeartbeats 2000000 in
theorem reads_any (s : ByteArray) (w : World) (hT : Tabs w) (hmax : s.size ≤ maxLen) :
    Calls Tryd.prog 5 #[.string s] w fun e w' => e = .returned (.bool true) ∧ Below w.heap.size w w' := by
  unfold maxLen at hmax
  by_cases hlen : s.size ≤ 300
  · have h1 : ¬ (300 : Int) < (s.size : Int) := by omega
    clear hmax
    go_enter Tryd.func5, Tryd.ntmps5
    go_wp2_with fail
    refine (parse_any s _ (by omega)).mono ?_
    rintro e w1 ⟨rfl, hb1⟩
    have hT1 := hT.below hb1
    obtain ⟨⟨l, e, p⟩, hp⟩ : ∃ q, q = parseI s := ⟨_, rfl⟩
    rw [← hp]
    have Hp := Lib.hid hp
    clear hp hT
    have hB1 := hb1
    clear hb1
    go_wp2_with fail
    refine (refParse_any s _ (by omega)).mono ?_
    rintro e2 w2 ⟨rfl, hb2⟩
    rw [← Hp.out]
    have hT2 := (hT1.alloc (.cells #[.int .i64 e, .int .i64 p] 45)).below hb2
    have hF2 := (Held2.new w1 45 (.int .i64 e) (.int .i64 p)).below hb2
    have hB2 := below_step (hB1.alloc hB1.size (.cells #[.int .i64 e, .int .i64 p] 45)) hb2
    obtain ⟨b1, hb1⟩ : ∃ b1, b1 = w1.heap.size := ⟨_, rfl⟩
    rw [← hb1] at hF2 ⊢
    clear hb1 hb2 hT1 hB1
    go_wp2_with fail
    refine (read_any s _ (by omega)).mono ?_
    rintro e3 w3 ⟨rfl, hb3⟩
    obtain ⟨⟨l2, u2, e2, p2⟩, hp⟩ : ∃ q, q = readI s := ⟨_, rfl⟩
    rw [← hp]
    have Hr := Lib.hid hp
    clear hp
    have hT3 := (hT2.alloc (.cells #[.int .i64 e, .int .i64 p] 45)).below hb3
    have hG3 := (Held2.new w2 45 (.int .i64 e) (.int .i64 p)).below hb3
    have hF3 := (hF2.alloc (.cells #[.int .i64 e, .int .i64 p] 45)).below hb3
    have hB3 := below_step (hB2.alloc hB2.size (.cells #[.int .i64 e, .int .i64 p] 45)) hb3
    obtain ⟨b2, hb2⟩ : ∃ b2, b2 = w2.heap.size := ⟨_, rfl⟩
    rw [← hb2] at hG3 ⊢
    clear hb2 hb3 hT2 hB2 hF2
    go_wp2_with fail
    refine (refRead_any s _ (by omega)).mono ?_
    rintro e4 w4 ⟨rfl, hb4⟩
    rw [← Hr.out]
    have hT4 := (hT3.alloc (.cells #[.int .i64 e2, .int .i64 p2] 45)).below hb4
    have hH4 := (Held2.new w3 45 (.int .i64 e2) (.int .i64 p2)).below hb4
    have hG4 := (hG3.alloc (.cells #[.int .i64 e2, .int .i64 p2] 45)).below hb4
    have hF4 := (hF3.alloc (.cells #[.int .i64 e2, .int .i64 p2] 45)).below hb4
    have hB4 := below_step (hB3.alloc hB3.size (.cells #[.int .i64 e2, .int .i64 p2] 45)) hb4
    obtain ⟨b3, hb3⟩ : ∃ b3, b3 = w3.heap.size := ⟨_, rfl⟩
    rw [← hb3] at hH4 ⊢
    clear hb3 hb4 hT3 hB3 hF3 hG3
    have hI5 := Held2.new w4 45 (.int .i64 e2) (.int .i64 p2)
    have hH5 := hH4.alloc (.cells #[.int .i64 e2, .int .i64 p2] 45)
    have hG5 := hG4.alloc (.cells #[.int .i64 e2, .int .i64 p2] 45)
    have hF5 := hF4.alloc (.cells #[.int .i64 e2, .int .i64 p2] 45)
    have hT5 := hT4.alloc (.cells #[.int .i64 e2, .int .i64 p2] 45)
    have hB5 := hB4.alloc hB4.size (.cells #[.int .i64 e2, .int .i64 p2] 45)
    obtain ⟨-, f0, f1⟩ := hF5
    obtain ⟨-, g0, g1⟩ := hG5
    obtain ⟨-, i0, i1⟩ := hH5
    obtain ⟨-, j0, j1⟩ := hI5
    clear hF4 hG4 hH4 hT4 hB4
    go_wp2_with fail
    refine (awake_any _ hT5).mono ?_
    rintro e6 w6 ⟨rfl, hb6⟩
    go_wp2
    go_ret
    exact ⟨rfl, below_step hB5 hb6⟩
  · have h1 : (300 : Int) < (s.size : Int) := by omega
    clear hlen
    go_enter Tryd.func5, Tryd.ntmps5
    go_wp2_with fail
    refine (awake_any _ hT).mono ?_
    rintro e w1 ⟨rfl, hb1⟩
    go_wp2
    go_ret
    exact ⟨rfl, hb1⟩
end Go.Proofs.YtnlioeheogkkiaaDoor
