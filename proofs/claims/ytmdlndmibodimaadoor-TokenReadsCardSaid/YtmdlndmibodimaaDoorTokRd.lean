/- Walks: tokens, the next one and words, against the document's own. -/
import Derived.Test.YtmdlndmibodimaaDoorTokRt
import Derived.Test.YtmdlndmibodimaaDoorTokWd
import Derived.Test.YtmdlndmibodimaaDoorTokO
namespace Go.Proofs.YtmdlndmibodimaaDoor
open Go.RowKit
open Tk7

set_option maxRecDepth 100000 in
set_option maxHeartbeats 8000000 in
theorem reads_mid (l : List UInt8) (a : Int) (h1 : 300 < l.length) (h2 : l.length ≤ 400) (w : World) (hG : SG w) :
    Calls Tryd.prog 4 #[.string (strOf l), .int .i64 a] w fun e w' => e = .returned (.bool true) ∧ Below w.heap.size w w' := by
  have hsz : (strOf l).size = l.length := strOf_size l
  have g1 : (300 : Int) < (l.length : Int) := by omega
  have g2 : (l.length : Int) ≤ (400 : Int) := by omega
  go_enter Tryd.func4, Tryd.ntmps4
  go_wp2_with (go_at_call 17; refine (awake_any _ hG).mono ?_; rintro e w1 ⟨rfl, hb1⟩)
  go_ret
  exact ⟨rfl, hb1⟩
set_option maxRecDepth 100000 in
set_option maxHeartbeats 8000000 in
theorem reads_long (l : List UInt8) (a : Int) (h1 : 450 < l.length) (w : World) (hG : SG w) :
    Calls Tryd.prog 4 #[.string (strOf l), .int .i64 a] w fun e w' => e = .returned (.bool true) ∧ Below w.heap.size w w' := by
  have hsz : (strOf l).size = l.length := strOf_size l
  have g1 : (300 : Int) < (l.length : Int) := by omega
  have g2 : ¬ (l.length : Int) ≤ (400 : Int) := by omega
  have g2d : decide ((l.length : Int) ≤ (400 : Int)) = false := decide_eq_false g2
  have g2e : decide (l.length ≤ 400) = false := decide_eq_false (by omega)
  have g3 : (450 : Int) < (l.length : Int) := by omega
  go_enter Tryd.func4, Tryd.ntmps4
  go_wp2_with (go_at_call 17; refine (awake_any _ hG).mono ?_; rintro e w1 ⟨rfl, hb1⟩)
  go_ret
  exact ⟨rfl, hb1⟩
set_option maxRecDepth 100000 in
set_option maxHeartbeats 8000000 in
theorem reads_short (l : List UInt8) (a : Int) (h1 : l.length ≤ 300) (w : World) (hG : SG w) :
    Calls Tryd.prog 4 #[.string (strOf l), .int .i64 a] w fun e w' => e = .returned (.bool true) ∧ Below w.heap.size w w' := by
  have hsz : (strOf l).size = l.length := strOf_size l
  have g1 : ¬ (300 : Int) < (l.length : Int) := by omega
  have g1d : decide ((300 : Int) < (l.length : Int)) = false := decide_eq_false g1
  have g1e : decide (300 < l.length) = false := decide_eq_false (by omega)
  have g3 : ¬ (450 : Int) < (l.length : Int) := by omega
  have g3d : decide ((450 : Int) < (l.length : Int)) = false := decide_eq_false g3
  have g3e : decide (450 < l.length) = false := decide_eq_false (by omega)
  have hT := fun w hG => tokens_is l w hG
  have hR := fun w => rtokens_any l w (by omega)
  have hN := fun w hG => next_any (strOf l) a (by rw [hsz]; unfold maxLen; omega) w hG
  have hM := fun w => rnext_any l (by omega) a w
  have hW := fun w => word_any (strOf l) w
  have hV := fun w => rword_any (strOf l) w
  unfold NextP at hN
  rw [strOf_dat] at hN
  unfold RtP at hR
  unfold NX.val at hN hM
  obtain ⟨K, hK⟩ : ∃ K, K = outK l := ⟨_, rfl⟩
  obtain ⟨f0, hf0⟩ : ∃ f0, f0 = (outE l).1 := ⟨_, rfl⟩
  obtain ⟨f1, hf1⟩ : ∃ f1 : Int, f1 = ((outE l).2 : Int) := ⟨_, rfl⟩
  rw [← hK, ← hf0, ← hf1] at hT hR
  obtain ⟨kd, hkd⟩ : ∃ z : Int, z = ((nextX l a).kd : Int) := ⟨_, rfl⟩
  obtain ⟨T, hTT⟩ : ∃ z, z = strOf (nextX l a).tx := ⟨_, rfl⟩
  obtain ⟨at_, hat⟩ : ∃ z : Int, z = ((nextX l a).at_ : Int) := ⟨_, rfl⟩
  obtain ⟨nx, hnx⟩ : ∃ z : Int, z = ((nextX l a).nx : Int) := ⟨_, rfl⟩
  obtain ⟨er, her⟩ : ∃ z : Int, z = (nextX l a).er := ⟨_, rfl⟩
  obtain ⟨ea, hea⟩ : ∃ z : Int, z = ((nextX l a).ea : Int) := ⟨_, rfl⟩
  rw [← hkd, ← hTT, ← hat, ← hnx, ← her, ← hea] at hN hM
  obtain ⟨B, hB⟩ : ∃ B, B = wordB (strOf l) := ⟨_, rfl⟩
  rw [← hB] at hW hV
  clear hK hf0 hf1 hkd hTT hat hnx her hea hB
  go_enter Tryd.func4, Tryd.ntmps4
  go_upto_region 4 with (go_at_call 9; refine (hT _ hG).mono ?_; rintro e w1 ⟨A1, c1, rfl, hb1, ho1⟩)
  have b1 := bstep hb1 (below1 w1 (.cells #[.int .i64 f0, .int .i64 f1] 25))
  have F1 : Blk (w1.alloc (.cells #[.int .i64 f0, .int .i64 f1] 25)) w1.heap.size [.int .i64 f0, .int .i64 f1] := Blk.is _ rfl
  have K1 : KSl (w1.alloc (.cells #[.int .i64 f0, .int .i64 f1] 25)) (.slice A1 K.length c1) K := KSl.later (own_k ho1) (below1 w1 _)
  obtain ⟨W1, hW1⟩ : ∃ W1, W1 = w1.alloc (.cells #[.int .i64 f0, .int .i64 f1] 25) := ⟨_, rfl⟩
  obtain ⟨X1, hX1⟩ : ∃ X1, X1 = w1.heap.size := ⟨_, rfl⟩
  rw [← hW1] at b1 F1 K1 ⊢
  rw [← hX1] at F1 ⊢
  have hG1 := hG.later b1
  clear hW1 hX1 ho1 hb1 hT
  go_upto_region 5 with (go_at_call 18; refine (hR _).mono ?_; rintro e w2 ⟨A2, c2, rfl, hb2, ho2⟩)
  have b2 := bstep hb2 (below1 w2 (.cells #[.int .i64 f0, .int .i64 f1] 25))
  have F2 : Blk (w2.alloc (.cells #[.int .i64 f0, .int .i64 f1] 25)) w2.heap.size [.int .i64 f0, .int .i64 f1] := Blk.is _ rfl
  have K2 : KSl (w2.alloc (.cells #[.int .i64 f0, .int .i64 f1] 25)) (.slice A2 K.length c2) K := KSl.later ho2 (below1 w2 _)
  obtain ⟨W2, hW2⟩ : ∃ W2, W2 = w2.alloc (.cells #[.int .i64 f0, .int .i64 f1] 25) := ⟨_, rfl⟩
  obtain ⟨X2, hX2⟩ : ∃ X2, X2 = w2.heap.size := ⟨_, rfl⟩
  rw [← hW2] at b2 F2 K2 ⊢
  rw [← hX2] at F2 ⊢
  have hG2 := hG1.later b2
  replace F1 := F1.later b2
  replace K1 := K1.later b2
  replace b2 := bstep b1 b2
  clear hW2 hX2 ho2 hb2 hR b1 hG1
  go_upto_region 6 with (go_at_call 12; refine (hN _ hG2).mono ?_; rintro e w3 ⟨rfl, hb3⟩)
  have b3 := bstep hb3 (below2 w3 (.cells #[.int .i64 kd, .string T, .int .i64 at_] 30) (.cells #[.int .i64 er, .int .i64 ea] 25))
  have TK3 : Blk ((w3.alloc (.cells #[.int .i64 kd, .string T, .int .i64 at_] 30)).alloc (.cells #[.int .i64 er, .int .i64 ea] 25)) w3.heap.size [.int .i64 kd, .string T, .int .i64 at_] := (Blk.is _ rfl).alloc _
  have FL3 : Blk ((w3.alloc (.cells #[.int .i64 kd, .string T, .int .i64 at_] 30)).alloc (.cells #[.int .i64 er, .int .i64 ea] 25)) (w3.heap.size + 1) [.int .i64 er, .int .i64 ea] := Blk.is _ (by simp)
  obtain ⟨W3, hW3⟩ : ∃ W3, W3 = (w3.alloc (.cells #[.int .i64 kd, .string T, .int .i64 at_] 30)).alloc (.cells #[.int .i64 er, .int .i64 ea] 25) := ⟨_, rfl⟩
  obtain ⟨X3, hX3⟩ : ∃ X3, X3 = w3.heap.size := ⟨_, rfl⟩
  rw [← hW3] at b3 TK3 FL3 ⊢
  rw [← hX3] at TK3 FL3 ⊢
  have hG3 := hG2.later b3
  replace F1 := F1.later b3
  replace F2 := F2.later b3
  replace K1 := K1.later b3
  replace K2 := K2.later b3
  replace b3 := bstep b2 b3
  clear hW3 hX3 hb3 b2 hG2 hN
  go_upto_region 7 with (go_at_call 19; refine (hM _).mono ?_; rintro e w4 ⟨rfl, hb4⟩)
  have b4 := bstep hb4 (below2 w4 (.cells #[.int .i64 kd, .string T, .int .i64 at_] 30) (.cells #[.int .i64 er, .int .i64 ea] 25))
  have TK4 : Blk ((w4.alloc (.cells #[.int .i64 kd, .string T, .int .i64 at_] 30)).alloc (.cells #[.int .i64 er, .int .i64 ea] 25)) w4.heap.size [.int .i64 kd, .string T, .int .i64 at_] := (Blk.is _ rfl).alloc _
  have FL4 : Blk ((w4.alloc (.cells #[.int .i64 kd, .string T, .int .i64 at_] 30)).alloc (.cells #[.int .i64 er, .int .i64 ea] 25)) (w4.heap.size + 1) [.int .i64 er, .int .i64 ea] := Blk.is _ (by simp)
  obtain ⟨W4, hW4⟩ : ∃ W4, W4 = (w4.alloc (.cells #[.int .i64 kd, .string T, .int .i64 at_] 30)).alloc (.cells #[.int .i64 er, .int .i64 ea] 25) := ⟨_, rfl⟩
  obtain ⟨X4, hX4⟩ : ∃ X4, X4 = w4.heap.size := ⟨_, rfl⟩
  rw [← hW4] at b4 TK4 FL4 ⊢
  rw [← hX4] at TK4 FL4 ⊢
  have hG4 := hG3.later b4
  replace F1 := F1.later b4
  replace F2 := F2.later b4
  replace K1 := K1.later b4
  replace K2 := K2.later b4
  replace TK3 := TK3.later b4
  replace FL3 := FL3.later b4
  replace b4 := bstep b3 b4
  clear hW4 hX4 hb4 b3 hG3 hM
  have hE := equal_same _ _ K W4 K1 K2
  clear K1 K2
  have q0 := F1.cell 0 _ rfl
  have q1 := F1.cell 1 _ rfl
  have q2 := F2.cell 0 _ rfl
  have q3 := F2.cell 1 _ rfl
  have q4 := TK3.cell 0 _ rfl
  have q5 := TK3.cell 1 _ rfl
  have q6 := TK3.cell 2 _ rfl
  have q7 := FL3.cell 0 _ rfl
  have q8 := FL3.cell 1 _ rfl
  have r4 := TK4.cell 0 _ rfl
  have r5 := TK4.cell 1 _ rfl
  have r6 := TK4.cell 2 _ rfl
  have r7 := FL4.cell 0 _ rfl
  have r8 := FL4.cell 1 _ rfl
  have l1 := F1.lt
  have l2 := F2.lt
  have l3 := TK3.lt
  have l4 := FL3.lt
  have l5 := TK4.lt
  have l6 := FL4.lt
  clear F1 F2 TK3 TK4 FL3 FL4
  go_wp2_with (first
    | (go_at_call 10; with_reducible refine hE.mono ?_; rintro e w6 ⟨rfl, n, rfl⟩)
    | (go_at_call 16; with_reducible refine (hW _).mono ?_; rintro e w7 ⟨rfl, rfl⟩)
    | (go_at_call 20; with_reducible refine (hV _).mono ?_; rintro e w8 ⟨rfl, hb8⟩)
    | (go_at_call 17; with_reducible refine (awake_any _ ((hG4.drewN n).later hb8)).mono ?_; rintro e w9 ⟨rfl, hb9⟩))
  go_ret
  exact ⟨rfl, bstep (bstep (below_drewN b4 n) hb8) hb9⟩
set_option maxRecDepth 100000 in
set_option maxHeartbeats 8000000 in
theorem reads_over (l : List UInt8) (a : Int) (h1 : 400 < l.length) (h2 : l.length ≤ 450) (w : World) (hG : SG w) :
    Calls Tryd.prog 4 #[.string (strOf l), .int .i64 a] w fun e w' => e = .returned (.bool true) ∧ Below w.heap.size w w' := by
  have hsz : (strOf l).size = l.length := strOf_size l
  have g1 : (300 : Int) < (l.length : Int) := by omega
  have g2 : ¬ (l.length : Int) ≤ (400 : Int) := by omega
  have g2d : decide ((l.length : Int) ≤ (400 : Int)) = false := decide_eq_false g2
  have g2e : decide (l.length ≤ 400) = false := decide_eq_false (by omega)
  have g3 : ¬ (450 : Int) < (l.length : Int) := by omega
  have g3d : decide ((450 : Int) < (l.length : Int)) = false := decide_eq_false g3
  have g3e : decide (450 < l.length) = false := decide_eq_false (by omega)
  have hT := fun w hG => tokens_is l w hG
  have hR := fun w => rtokens_any l w (by omega)
  have hN := fun w hG => next_any (strOf l) a (by rw [hsz]; unfold maxLen; omega) w hG
  have hM := fun w => rnext_any l (by omega) a w
  have hW := fun w => word_any (strOf l) w
  have hV := fun w => rword_any (strOf l) w
  unfold NextP at hN
  rw [strOf_dat] at hN
  unfold RtP at hR
  unfold NX.val at hN hM
  obtain ⟨K, hK⟩ : ∃ K, K = outK l := ⟨_, rfl⟩
  obtain ⟨f0, hf0⟩ : ∃ f0, f0 = (outE l).1 := ⟨_, rfl⟩
  obtain ⟨f1, hf1⟩ : ∃ f1 : Int, f1 = ((outE l).2 : Int) := ⟨_, rfl⟩
  rw [← hK, ← hf0, ← hf1] at hT hR
  obtain ⟨kd, hkd⟩ : ∃ z : Int, z = ((nextX l a).kd : Int) := ⟨_, rfl⟩
  obtain ⟨T, hTT⟩ : ∃ z, z = strOf (nextX l a).tx := ⟨_, rfl⟩
  obtain ⟨at_, hat⟩ : ∃ z : Int, z = ((nextX l a).at_ : Int) := ⟨_, rfl⟩
  obtain ⟨nx, hnx⟩ : ∃ z : Int, z = ((nextX l a).nx : Int) := ⟨_, rfl⟩
  obtain ⟨er, her⟩ : ∃ z : Int, z = (nextX l a).er := ⟨_, rfl⟩
  obtain ⟨ea, hea⟩ : ∃ z : Int, z = ((nextX l a).ea : Int) := ⟨_, rfl⟩
  rw [← hkd, ← hTT, ← hat, ← hnx, ← her, ← hea] at hN hM
  obtain ⟨B, hB⟩ : ∃ B, B = wordB (strOf l) := ⟨_, rfl⟩
  rw [← hB] at hW hV
  clear hK hf0 hf1 hkd hTT hat hnx her hea hB
  go_enter Tryd.func4, Tryd.ntmps4
  go_upto_region 4 with (go_at_call 9; refine (hT _ hG).mono ?_; rintro e w1 ⟨A1, c1, rfl, hb1, ho1⟩)
  have b1 := bstep hb1 (below1 w1 (.cells #[.int .i64 f0, .int .i64 f1] 25))
  have F1 : Blk (w1.alloc (.cells #[.int .i64 f0, .int .i64 f1] 25)) w1.heap.size [.int .i64 f0, .int .i64 f1] := Blk.is _ rfl
  have K1 : KSl (w1.alloc (.cells #[.int .i64 f0, .int .i64 f1] 25)) (.slice A1 K.length c1) K := KSl.later (own_k ho1) (below1 w1 _)
  obtain ⟨W1, hW1⟩ : ∃ W1, W1 = w1.alloc (.cells #[.int .i64 f0, .int .i64 f1] 25) := ⟨_, rfl⟩
  obtain ⟨X1, hX1⟩ : ∃ X1, X1 = w1.heap.size := ⟨_, rfl⟩
  rw [← hW1] at b1 F1 K1 ⊢
  rw [← hX1] at F1 ⊢
  have hG1 := hG.later b1
  clear hW1 hX1 ho1 hb1 hT
  go_upto_region 5 with (go_at_call 18; refine (hR _).mono ?_; rintro e w2 ⟨A2, c2, rfl, hb2, ho2⟩)
  have b2 := bstep hb2 (below1 w2 (.cells #[.int .i64 f0, .int .i64 f1] 25))
  have F2 : Blk (w2.alloc (.cells #[.int .i64 f0, .int .i64 f1] 25)) w2.heap.size [.int .i64 f0, .int .i64 f1] := Blk.is _ rfl
  have K2 : KSl (w2.alloc (.cells #[.int .i64 f0, .int .i64 f1] 25)) (.slice A2 K.length c2) K := KSl.later ho2 (below1 w2 _)
  obtain ⟨W2, hW2⟩ : ∃ W2, W2 = w2.alloc (.cells #[.int .i64 f0, .int .i64 f1] 25) := ⟨_, rfl⟩
  obtain ⟨X2, hX2⟩ : ∃ X2, X2 = w2.heap.size := ⟨_, rfl⟩
  rw [← hW2] at b2 F2 K2 ⊢
  rw [← hX2] at F2 ⊢
  have hG2 := hG1.later b2
  replace F1 := F1.later b2
  replace K1 := K1.later b2
  replace b2 := bstep b1 b2
  clear hW2 hX2 ho2 hb2 hR b1 hG1
  go_upto_region 6 with (go_at_call 12; refine (hN _ hG2).mono ?_; rintro e w3 ⟨rfl, hb3⟩)
  have b3 := bstep hb3 (below2 w3 (.cells #[.int .i64 kd, .string T, .int .i64 at_] 30) (.cells #[.int .i64 er, .int .i64 ea] 25))
  have TK3 : Blk ((w3.alloc (.cells #[.int .i64 kd, .string T, .int .i64 at_] 30)).alloc (.cells #[.int .i64 er, .int .i64 ea] 25)) w3.heap.size [.int .i64 kd, .string T, .int .i64 at_] := (Blk.is _ rfl).alloc _
  have FL3 : Blk ((w3.alloc (.cells #[.int .i64 kd, .string T, .int .i64 at_] 30)).alloc (.cells #[.int .i64 er, .int .i64 ea] 25)) (w3.heap.size + 1) [.int .i64 er, .int .i64 ea] := Blk.is _ (by simp)
  obtain ⟨W3, hW3⟩ : ∃ W3, W3 = (w3.alloc (.cells #[.int .i64 kd, .string T, .int .i64 at_] 30)).alloc (.cells #[.int .i64 er, .int .i64 ea] 25) := ⟨_, rfl⟩
  obtain ⟨X3, hX3⟩ : ∃ X3, X3 = w3.heap.size := ⟨_, rfl⟩
  rw [← hW3] at b3 TK3 FL3 ⊢
  rw [← hX3] at TK3 FL3 ⊢
  have hG3 := hG2.later b3
  replace F1 := F1.later b3
  replace F2 := F2.later b3
  replace K1 := K1.later b3
  replace K2 := K2.later b3
  replace b3 := bstep b2 b3
  clear hW3 hX3 hb3 b2 hG2 hN
  go_upto_region 7 with (go_at_call 19; refine (hM _).mono ?_; rintro e w4 ⟨rfl, hb4⟩)
  have b4 := bstep hb4 (below2 w4 (.cells #[.int .i64 kd, .string T, .int .i64 at_] 30) (.cells #[.int .i64 er, .int .i64 ea] 25))
  have TK4 : Blk ((w4.alloc (.cells #[.int .i64 kd, .string T, .int .i64 at_] 30)).alloc (.cells #[.int .i64 er, .int .i64 ea] 25)) w4.heap.size [.int .i64 kd, .string T, .int .i64 at_] := (Blk.is _ rfl).alloc _
  have FL4 : Blk ((w4.alloc (.cells #[.int .i64 kd, .string T, .int .i64 at_] 30)).alloc (.cells #[.int .i64 er, .int .i64 ea] 25)) (w4.heap.size + 1) [.int .i64 er, .int .i64 ea] := Blk.is _ (by simp)
  obtain ⟨W4, hW4⟩ : ∃ W4, W4 = (w4.alloc (.cells #[.int .i64 kd, .string T, .int .i64 at_] 30)).alloc (.cells #[.int .i64 er, .int .i64 ea] 25) := ⟨_, rfl⟩
  obtain ⟨X4, hX4⟩ : ∃ X4, X4 = w4.heap.size := ⟨_, rfl⟩
  rw [← hW4] at b4 TK4 FL4 ⊢
  rw [← hX4] at TK4 FL4 ⊢
  have hG4 := hG3.later b4
  replace F1 := F1.later b4
  replace F2 := F2.later b4
  replace K1 := K1.later b4
  replace K2 := K2.later b4
  replace TK3 := TK3.later b4
  replace FL3 := FL3.later b4
  replace b4 := bstep b3 b4
  clear hW4 hX4 hb4 b3 hG3 hM
  have hE := equal_same _ _ K W4 K1 K2
  clear K1 K2
  have q0 := F1.cell 0 _ rfl
  have q1 := F1.cell 1 _ rfl
  have q2 := F2.cell 0 _ rfl
  have q3 := F2.cell 1 _ rfl
  have q4 := TK3.cell 0 _ rfl
  have q5 := TK3.cell 1 _ rfl
  have q6 := TK3.cell 2 _ rfl
  have q7 := FL3.cell 0 _ rfl
  have q8 := FL3.cell 1 _ rfl
  have r4 := TK4.cell 0 _ rfl
  have r5 := TK4.cell 1 _ rfl
  have r6 := TK4.cell 2 _ rfl
  have r7 := FL4.cell 0 _ rfl
  have r8 := FL4.cell 1 _ rfl
  have l1 := F1.lt
  have l2 := F2.lt
  have l3 := TK3.lt
  have l4 := FL3.lt
  have l5 := TK4.lt
  have l6 := FL4.lt
  clear F1 F2 TK3 TK4 FL3 FL4
  go_wp2_with (first
    | (go_at_call 10; with_reducible refine hE.mono ?_; rintro e w6 ⟨rfl, n, rfl⟩)
    | (go_at_call 16; with_reducible refine (hW _).mono ?_; rintro e w7 ⟨rfl, rfl⟩)
    | (go_at_call 20; with_reducible refine (hV _).mono ?_; rintro e w8 ⟨rfl, hb8⟩)
    | (go_at_call 17; with_reducible refine (awake_any _ ((hG4.drewN n).later hb8)).mono ?_; rintro e w9 ⟨rfl, hb9⟩))
  go_ret
  exact ⟨rfl, bstep (bstep (below_drewN b4 n) hb8) hb9⟩
theorem reads_any (s : ByteArray) (a : Int) (w : World) (hG : SG w) :
    Calls Tryd.prog 4 #[.string s, .int .i64 a] w fun e w' => e = .returned (.bool true) ∧ Below w.heap.size w w' := by
  obtain ⟨l, rfl⟩ : ∃ l, s = strOf l := ⟨_, str_is rfl⟩
  by_cases h1 : l.length ≤ 300
  · exact reads_short l a h1 w hG
  by_cases h2 : l.length ≤ 400
  · exact reads_mid l a (by omega) h2 w hG
  by_cases h3 : l.length ≤ 450
  · exact reads_over l a (by omega) h3 w hG
  · exact reads_long l a (by omega) w hG
end Go.Proofs.YtmdlndmibodimaaDoor
