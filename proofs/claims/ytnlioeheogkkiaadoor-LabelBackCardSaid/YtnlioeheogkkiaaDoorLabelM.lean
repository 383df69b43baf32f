/- The chapter's examples: awake and LabelKnown. -/
import Derived.Test.YtnlioeheogkkiaaDoorLabelL
namespace Go.Proofs.YtnlioeheogkkiaaDoor
open Go.RowKit Go.Shelf
open Lb

theorem below_15 (w : World) : Calls Tryd.prog 23 #[.int .u64 1, .int .u64 5] w fun e w' => e = .returned (.bool true) ∧ w = w' := by
  have h := below_any 1 5 w
  rw [show belowI 1 5 = true by decide +kernel] at h
  exact h
theorem below_51 (w : World) : Calls Tryd.prog 23 #[.int .u64 5, .int .u64 1] w fun e w' => e = .returned (.bool false) ∧ w = w' := by
  have h := below_any 5 1 w
  rw [show belowI 5 1 = false by decide +kernel] at h
  exact h
theorem below_00 (w : World) : Calls Tryd.prog 23 #[.int .u64 0, .int .u64 0] w fun e w' => e = .returned (.bool true) ∧ w = w' := by
  have h := below_any 0 0 w
  rw [show belowI 0 0 = true by decide +kernel] at h
  exact h

set_option maxRecDepth 100000 in
set_option maxHeartbeats 1000000 in
theorem awake_any (w : World) (h : Tabs w) : Calls Tryd.prog 10 #[] w fun e w' => e = .returned (.bool true) ∧ Below w.heap.size w w' := by
  go_enter Tryd.func10, Tryd.ntmps10
  go_wp2_with (go_at_call 12; refine (of_any _ [0, 2, 2] _ (Slc.lit _ _ _ 3 rfl (by decide))).mono ?_; rintro e w' ⟨rfl, rfl⟩; rw [show ofI [0, 2, 2] = (5, 0) by decide +kernel])
  have hT0 := h.alloc (.cells #[.int .i64 0, .int .i64 2, .int .i64 2] 3)
  have hB0 : Below w.heap.size w (w.alloc (.cells #[.int .i64 0, .int .i64 2, .int .i64 2] 3)) := (Below.refl _ _).alloc (Nat.le_refl _) _
  refine (parse_02 _).mono ?_
  rintro e w1 ⟨rfl, hb1⟩
  have hT1 := hT0.below hb1
  have hB1 := hB0.trans (hb1.mono hB0.size)
  go_wp2_with fail
  refine (text_5 _ (hT1.alloc _)).mono ?_
  rintro e w2 ⟨rfl, hb2⟩
  have hB2 := (hB1.alloc hB1.size (.cells #[.int .i64 0, .int .i64 0] 45)).trans (hb2.mono (hB1.alloc hB1.size _).size)
  clear hb2 hb1
  go_wp2_with (first | (go_at_call 31; refine (join_any _ [1, 4] _ (Slc.lit _ _ _ 2 rfl (by decide))).mono ?_; rintro e w' ⟨rfl, rfl⟩; rw [show joinI [1, 4] = 5 by decide +kernel]) | (go_at_call 43; refine (lawFault_any _ 2 1 _ (by decide) (by decide +kernel)).mono ?_; rintro e w' ⟨rfl, hb3⟩) | (go_at_call 23; with_reducible refine (below_15 _).mono ?_; rintro e w' ⟨rfl, rfl⟩) | (go_at_call 23; with_reducible refine (below_51 _).mono ?_; rintro e w' ⟨rfl, rfl⟩))
  go_ret
  exact ⟨rfl, (hB2.alloc hB2.size _).trans (hb3.mono (hB2.alloc hB2.size _).size)⟩
theorem has_52 (w : World) : Calls Tryd.prog 14 #[.int .u64 5, .int .i64 2] w fun e w' => e = .returned (.tuple #[.bool true, .int .i64 0]) ∧ w = w' := by
  have h := has_any 5 2 w
  rw [if_pos (show isCat 2 = true by decide), show hasI 5 2 = true by decide +kernel] at h
  exact h
theorem has_51 (w : World) : Calls Tryd.prog 14 #[.int .u64 5, .int .i64 1] w fun e w' => e = .returned (.tuple #[.bool false, .int .i64 0]) ∧ w = w' := by
  have h := has_any 5 1 w
  rw [if_pos (show isCat 1 = true by decide), show hasI 5 1 = false by decide +kernel] at h
  exact h
theorem has_64 (w : World) : Calls Tryd.prog 14 #[.int .u64 5, .int .i64 64] w fun e w' => e = .returned (.tuple #[.bool false, .int .i64 2]) ∧ w = w' := by
  have h := has_any 5 64 w
  rw [if_neg (show ¬ isCat 64 = true by decide)] at h
  exact h

theorem of_64 (w : World) : Calls Tryd.prog 12 #[.slice (some ⟨w.heap.size, 0, none⟩) 1 1] (w.alloc (.cells #[.int .i64 64] 3)) fun e w' => e = .returned (.tuple #[.int .u64 0, .int .i64 2]) ∧ Below w.heap.size w w' := by
  have h := of_any (.slice (some ⟨w.heap.size, 0, none⟩) 1 1) [64] (w.alloc (.cells #[.int .i64 64] 3)) (Slc.lit _ _ _ 1 rfl (by decide))
  rw [show ofI [64] = (0, 2) by decide +kernel] at h
  refine h.mono fun e w' hh => ⟨hh.1, hh.2 ▸ (Below.refl _ _).alloc (Nat.le_refl _) _⟩
theorem of_63 (w : World) : Calls Tryd.prog 12 #[.slice (some ⟨w.heap.size, 0, none⟩) 1 1] (w.alloc (.cells #[.int .i64 63] 3)) fun e w' => e = .returned (.tuple #[.int .u64 9223372036854775808, .int .i64 0]) ∧ Below w.heap.size w w' := by
  have h := of_any (.slice (some ⟨w.heap.size, 0, none⟩) 1 1) [63] (w.alloc (.cells #[.int .i64 63] 3)) (Slc.lit _ _ _ 1 rfl (by decide))
  rw [show ofI [63] = (9223372036854775808, 0) by decide +kernel] at h
  refine h.mono fun e w' hh => ⟨hh.1, hh.2 ▸ (Below.refl _ _).alloc (Nat.le_refl _) _⟩
theorem meet_56 (w : World) : Calls Tryd.prog 33 #[.slice (some ⟨w.heap.size, 0, none⟩) 2 2] (w.alloc (.cells #[.int .u64 5, .int .u64 6] 22)) fun e w' => e = .returned (.int .u64 4) ∧ Below w.heap.size w w' := by
  have h := meet_any (.slice (some ⟨w.heap.size, 0, none⟩) 2 2) [5, 6] (w.alloc (.cells #[.int .u64 5, .int .u64 6] 22)) (Slc.lit _ _ _ 2 rfl (by decide))
  rw [show meetI [5, 6] = 4 by decide +kernel] at h
  refine h.mono fun e w' hh => ⟨hh.1, hh.2 ▸ (Below.refl _ _).alloc (Nat.le_refl _) _⟩
theorem of_none (w : World) : Calls Tryd.prog 12 #[.slice none 0 0] w fun e w' => e = .returned (.tuple #[.int .u64 0, .int .i64 0]) ∧ w = w' := of_any _ [] _ (Slc.nil _)
theorem join_none (w : World) : Calls Tryd.prog 31 #[.slice none 0 0] w fun e w' => e = .returned (.int .u64 0) ∧ w = w' := join_any _ [] _ (Slc.nil _)
theorem meet_none (w : World) : Calls Tryd.prog 33 #[.slice none 0 0] w fun e w' => e = .returned (.int .u64 18446744073709551615) ∧ w = w' := meet_any _ [] _ (Slc.nil _)
theorem without_72 (w : World) : Calls Tryd.prog 27 #[.int .u64 7, .int .u64 2] w fun e w' => e = .returned (.int .u64 5) ∧ w = w' := by
  have h := without_any 7 2 w
  rw [show bits .andNot .u64 7 2 = 5 by decide +kernel] at h
  exact h
theorem comparable_12 (w : World) : Calls Tryd.prog 25 #[.int .u64 1, .int .u64 2] w fun e w' => e = .returned (.bool false) ∧ w = w' := by
  have h := comparable_any 1 2 w
  rw [show (belowI 1 2 || belowI 2 1) = false by decide +kernel] at h
  exact h
theorem same_02 (v : Value) (w : World) (h : Slc w v (vals .i64 [0, 2])) : Calls Tryd.prog 18 #[v, .slice (some ⟨w.heap.size, 0, none⟩) 2 2] (w.alloc (.cells #[.int .i64 0, .int .i64 2] 3)) fun e w' => e = .returned (.bool true) ∧ Below w.heap.size w w' := by
  refine (sameInts_any v _ [0, 2] [0, 2] _ (h.alloc _) (Slc.lit w (vals .i64 [0, 2]) 3 2 rfl (by decide))).mono fun e w' hh => ⟨hh.1, ?_⟩
  obtain ⟨_, n, rfl⟩ := hh
  have hb := (Below.refl w.heap.size w).alloc (Nat.le_refl _) (.cells #[.int .i64 0, .int .i64 2] 3)
  exact ⟨hb.os, hb.tape, hb.output, hb.size, hb.block⟩

/-- A fault that the walk holds in a block of its own: none. -/
def Two (w : World) (b : Nat) : Prop := b < w.heap.size ∧ w.cell? ⟨b, 0, none⟩ = some (.int .i64 0) ∧ w.cell? ⟨b, 1, none⟩ = some (.int .i64 0)
theorem Two.below {w w' : World} {b : Nat} (h : Two w b) (hb : Below w.heap.size w w') : Two w' b :=
  ⟨Nat.lt_of_lt_of_le h.1 hb.size, (hb.cell (p := ⟨b, 0, none⟩) h.1).trans h.2.1, (hb.cell (p := ⟨b, 1, none⟩) h.1).trans h.2.2⟩
theorem Two.new (w : World) (t : TypeId) : Two (w.alloc (.cells #[.int .i64 0, .int .i64 0] t)) w.heap.size := ⟨by simp, by go_simp, by go_simp⟩

/-- One step more of a walk in which nothing that lay is turned. -/
theorem below_step {w a b : World} (h : Below w.heap.size w a) (k : Below a.heap.size a b) : Below w.heap.size w b := h.trans (k.mono h.size)

set_option maxRecDepth 100000 in
set_option maxHeartbeats 1000000 in
theorem known_any (w : World) (hT0 : Tabs w) : Calls Tryd.prog 6 #[] w fun e w' => e = .returned (.bool true) ∧ Below w.heap.size w w' := by
  go_enter Tryd.func6, Tryd.ntmps6
  go_wp2_with fail
  refine (of_none _).mono ?_
  rintro e w' ⟨rfl, rfl⟩
  go_wp2_with fail
  refine (of_64 _).mono ?_
  rintro e w1 ⟨rfl, hB1⟩
  go_wp2_with fail
  refine (of_63 _).mono ?_
  rintro e w2 ⟨rfl, hb2⟩
  have hB2 := below_step hB1 hb2
  have hT2 := hT0.below hB2
  clear hB1 hb2 hT0
  go_wp2_with fail
  refine (has_52 _).mono ?_
  rintro e w' ⟨rfl, rfl⟩
  go_wp2_with fail
  refine (has_51 _).mono ?_
  rintro e w' ⟨rfl, rfl⟩
  go_wp2_with fail
  refine (has_64 _).mono ?_
  rintro e w' ⟨rfl, rfl⟩
  go_wp2_with fail
  refine (least_12 _ hT2).mono ?_
  rintro e w3 ⟨rfl, hb3⟩
  have hB3 := below_step hB2 hb3
  have hT3 := hT2.below hb3
  clear hB2 hb3 hT2
  go_wp2_with fail
  refine (least_0 _ hT3).mono ?_
  rintro e w4 ⟨rfl, hb4⟩
  have hB4 := below_step hB3 hb4
  have hT4 := hT3.below hb4
  clear hB3 hb4 hT3
  go_wp2_with fail
  refine (parse_none _).mono ?_
  rintro e w5 ⟨rfl, hb5⟩
  have hB5 := below_step hB4 hb5
  have hT5 := hT4.below hb5
  clear hB4 hb5 hT4
  go_wp2_with fail
  refine (read_1x _).mono ?_
  rintro e w6 ⟨rfl, hb6⟩
  have hB6 := below_step (hB5.alloc hB5.size (.cells #[.int .i64 0, .int .i64 0] 45)) hb6
  have hT6 := (hT5.alloc (.cells #[.int .i64 0, .int .i64 0] 45)).below hb6
  have hc6 := cell2 (w := w5) (wr := w6) (by simpa using hb6)
  obtain ⟨b5, hb5⟩ : ∃ b5, b5 = w5.heap.size := ⟨_, rfl⟩
  rw [← hb5] at hc6 ⊢
  obtain ⟨hc60, hc61, _, _, hlt6, _⟩ := hc6
  clear hb5 hb6 hB5 hT5
  have hF6 : Two w6 b5 := ⟨hlt6, hc60, hc61⟩
  clear hc60 hc61 hlt6
  go_wp2_with fail
  refine (of8_258 _).mono ?_
  rintro e w' ⟨rfl, rfl⟩
  go_wp2_with fail
  refine (of8_7 _).mono ?_
  rintro e w' ⟨rfl, rfl⟩
  go_wp2_with fail
  refine (list_5 _ (hT6.alloc _)).mono ?_
  rintro e w7 ⟨v, rfl, hs7, hb7⟩
  have hB7 := below_step (hB6.alloc hB6.size (.cells #[.int .i64 0, .int .i64 0] 45)) hb7
  have hT7 := (hT6.alloc (.cells #[.int .i64 0, .int .i64 0] 45)).below hb7
  have hF7 := (hF6.below ((Below.refl _ _).alloc (Nat.le_refl _) (.cells #[.int .i64 0, .int .i64 0] 45))).below hb7
  have hG7 := (Two.new w6 45).below hb7
  obtain ⟨b6, hb6⟩ : ∃ b6, b6 = w6.heap.size := ⟨_, rfl⟩
  rw [← hb6] at hG7 ⊢
  clear hb6 hb7 hB6 hT6 hF6
  go_wp2_with fail
  refine (same_02 v _ hs7).mono ?_
  rintro e w8 ⟨rfl, hb8⟩
  have hB8 := below_step hB7 hb8
  have hT8 := hT7.below hb8
  have hF8 := hF7.below hb8
  have hG8 := hG7.below hb8
  clear hb8 hB7 hT7 hF7 hG7 hs7
  go_wp2_with fail
  refine (count_5 _).mono ?_
  rintro e w' ⟨rfl, rfl⟩
  go_wp2_with fail
  refine (below_00 _).mono ?_
  rintro e w' ⟨rfl, rfl⟩
  go_wp2_with fail
  refine (comparable_12 _).mono ?_
  rintro e w' ⟨rfl, rfl⟩
  go_wp2_with fail
  refine (join_none _).mono ?_
  rintro e w' ⟨rfl, rfl⟩
  go_wp2_with fail
  refine (meet_56 _).mono ?_
  rintro e w9 ⟨rfl, hb9⟩
  have hB9 := below_step hB8 hb9
  have hT9 := hT8.below hb9
  have hF9 := hF8.below hb9
  have hG9 := hG8.below hb9
  clear hb9 hB8 hT8 hF8 hG8
  go_wp2_with fail
  refine (meet_none _).mono ?_
  rintro e w' ⟨rfl, rfl⟩
  go_wp2_with fail
  refine (without_72 _).mono ?_
  rintro e w' ⟨rfl, rfl⟩
  go_wp2_with fail
  refine (text_0 _ hT9).mono ?_
  rintro e w10 ⟨rfl, hb10⟩
  have hB10 := below_step hB9 hb10
  have hT10 := hT9.below hb10
  obtain ⟨_, hf0, hf1⟩ := hF9.below hb10
  obtain ⟨_, hg0, hg1⟩ := hG9.below hb10
  clear hb10 hB9 hT9 hF9 hG9
  go_wp2_with fail
  refine (bytes_258 _).mono ?_
  rintro e w11 ⟨rfl, hb11⟩
  have hB11 := below_step hB10 hb11
  have hT11 := hT10.below hb11
  clear hf0 hf1 hg0 hg1 hb11 hB10 hT10
  go_wp2_with fail
  refine (lawFault_any { data := #[48] } 3 0 _ (by decide) (by decide +kernel)).mono ?_
  rintro e w12 ⟨rfl, hb12⟩
  have hB12 := below_step hB11 hb12
  have hT12 := hT11.below hb12
  clear hb12 hB11 hT11
  go_wp2_with fail
  refine (lawFault_any { data := #[123, 48, 44, 125] } 3 3 _ (by decide) (by decide +kernel)).mono ?_
  rintro e w13 ⟨rfl, hb13⟩
  have hB13 := below_step hB12 hb13
  have hT13 := hT12.below hb13
  clear hb13 hB12 hT12
  go_wp2_with fail
  refine (lawFault_any { data := #[123, 48, 48, 125] } 3 2 _ (by decide) (by decide +kernel)).mono ?_
  rintro e w14 ⟨rfl, hb14⟩
  have hB14 := below_step hB13 hb14
  have hT14 := hT13.below hb14
  clear hb14 hB13 hT13
  go_wp2_with fail
  refine (lawFault_any { data := #[123, 50, 44, 49, 125] } 9 3 _ (by decide) (by decide +kernel)).mono ?_
  rintro e w15 ⟨rfl, hb15⟩
  have hB15 := below_step hB14 hb15
  have hT15 := hT14.below hb15
  clear hb15 hB14 hT14
  go_wp2_with fail
  refine (lawFault_any { data := #[123, 49, 125, 120] } 4 3 _ (by decide) (by decide +kernel)).mono ?_
  rintro e w16 ⟨rfl, hb16⟩
  have hB16 := below_step hB15 hb16
  have hT16 := hT15.below hb16
  clear hb16 hB15 hT15
  go_wp2_with fail
  refine (lawFault_any { data := #[123, 49] } 3 2 _ (by decide) (by decide +kernel)).mono ?_
  rintro e w17 ⟨rfl, hb17⟩
  have hB17 := below_step hB16 hb17
  have hT17 := hT16.below hb17
  clear hb17 hB16 hT16
  go_wp2_with fail
  refine (awake_any _ hT17).mono ?_
  rintro e w18 ⟨rfl, hb18⟩
  go_wp2
  go_ret
  exact ⟨rfl, below_step hB17 hb18⟩
end Go.Proofs.YtnlioeheogkkiaaDoor
