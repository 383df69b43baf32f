/- The law's own makers of nodes, and what Check says of a pattern within 5 ticks. -/
import Derived.Test.YthiacfmedcfcjaaDoorWfO
namespace Go.Proofs.YthiacfmedcfcjaaDoor
open Go.RowKit Go.Shelf Go.Maps
open A8 W10
attribute [local go_sem] Oper.semAt_some

/-- Leaves and nodes of the law's own. -/
def leafX (k mn mx kd : Int) (nm : List UInt8) : Tr := .mk k mn mx ⟨⟨kd, false, 0, [], nm⟩, .slice none 0 0⟩ (.slice none 0 0) []
def kidsX (k : Int) (v : Value) (ts : List Tr) : Tr := .mk k 0 0 ⟨⟨0, false, 0, [], []⟩, .slice none 0 0⟩ v ts
theorem strOf_nil : strOf [] = ⟨#[]⟩ := rfl
theorem leafX_tr (k mn mx kd : Int) (nm : List UInt8) (w : World) (h1 : okV k) (h2 : okV mn) (h3 : okV mx) (h4 : okV kd) (h5 : nm.length ≤ maxLen) : TrW w (leafX k mn mx kd nm) := by
  intro t ht
  unfold leafX at ht
  simp only [subsT, subsTL, List.mem_singleton] at ht
  subst ht
  exact ⟨⟨h1, h2, h3⟩, ⟨⟨h4, by simp, (fun c hc => by cases hc), h5⟩, Sl.nil _ _⟩, Sl.nil _ _⟩
theorem kidsX_tr {k : Int} {v : Value} {ts : List Tr} {w : World} (h1 : okV k) (hs : Sl w 9 ts.length v (ts.flatMap Tr.row)) (ht : ∀ t ∈ ts, TrW w t) : TrW w (kidsX k v ts) := by
  intro u hu
  unfold kidsX at hu
  simp only [subsT, subsTL_flat, List.mem_cons, List.mem_flatMap] at hu
  rcases hu with rfl | ⟨t, h2, h3⟩
  · exact ⟨⟨h1, by unfold okV; omega, by unfold okV; omega⟩, ⟨⟨(show okV 0 from by unfold okV; omega), by simp, (fun c hc => by cases hc), by unfold maxLen; simp⟩, Sl.nil _ _⟩, hs⟩
  · exact ht t h2 u h3
theorem sl_fresh (w : World) (n sz : Nat) (us : List Value) (t : TypeId) (hl : us.length = n * sz) (hn : n ≤ 1000000) : Sl (w.alloc (.cells us.toArray t)) sz n (.slice (some ⟨w.heap.size, 0, none⟩) n n) us := by
  refine ⟨hl, by unfold maxLen; omega, _, _, rfl, Nat.le_refl _, (fun h => by cases h), fun i u hu => ⟨_, rfl, by simp, ?_⟩⟩
  have h := (Blk.new w us t).cell i u hu
  unfold Addr.add
  by_cases hi : i = 0
  · subst hi
    rw [if_pos rfl]
    exact h
  · rw [if_neg hi]
    simpa using h
theorem letter_any (k : Int) (w : World) : Calls Tryd.prog 9 #[.int .i64 k] w fun e w' => e = .returned (.agg (leafX 1 1 1 k []).row.toArray) ∧ Below w.heap.size w w' := by
  simp only [leafX, Tr.row, strOf_nil]
  go_enter Tryd.func9, Tryd.ntmps9
  go_wp2
  refine bodyPost_ret (by simp [results, Tryd.results9, go_sem]; try rfl) rfl ?_
  exact ⟨rfl, b1 _ _⟩
set_option maxHeartbeats 2000000 in
theorem named_any (k : Int) (nm : List UInt8) (w : World) : Calls Tryd.prog 13 #[.int .i64 k, .string (strOf nm)] w fun e w' => e = .returned (.agg (leafX 1 1 1 k nm).row.toArray) ∧ Below w.heap.size w w' := by
  have hl := fun w => letter_any k w
  simp only [leafX, Tr.row, strOf_nil] at hl ⊢
  go_enter Tryd.func13, Tryd.ntmps13
  go_upto_region 2 with (go_at_call 9; refine (hl _).mono ?_; rintro e w1 ⟨rfl, hb1⟩)
  clear hl
  obtain ⟨W2, hW2⟩ : ∃ W2, W2 = w1.alloc (.cells #[.int .i64 1, .int .i64 1, .int .i64 1, .int .i64 k, .bool false, .int .u64 0, .slice none 0 0, .string ⟨#[]⟩, .slice none 0 0] 30) := ⟨_, rfl⟩
  rw [← hW2]
  have hA : Blk W2 w.heap.size [.int .i64 0, .int .i64 0, .int .i64 0, .int .i64 0, .bool false, .int .u64 0, .slice none 0 0, .string ⟨#[]⟩, .slice none 0 0] := hW2 ▸ ((Blk.new w [.int .i64 0, .int .i64 0, .int .i64 0, .int .i64 0, .bool false, .int .u64 0, .slice none 0 0, .string ⟨#[]⟩, .slice none 0 0] 30).later hb1).later (b1 _ _)
  have hD : Blk W2 w1.heap.size [.int .i64 1, .int .i64 1, .int .i64 1, .int .i64 k, .bool false, .int .u64 0, .slice none 0 0, .string ⟨#[]⟩, .slice none 0 0] := hW2 ▸ Blk.new w1 [.int .i64 1, .int .i64 1, .int .i64 1, .int .i64 k, .bool false, .int .u64 0, .slice none 0 0, .string ⟨#[]⟩, .slice none 0 0] 30
  have hbw : Below w.heap.size w W2 := hW2 ▸ bstep (bstep (b1 _ _) hb1) (b1 _ _)
  have hlt : w.heap.size < w1.heap.size := by have := hb1.size; simp at this; omega
  have hne : ¬ w1.heap.size = w.heap.size := by omega
  have hne2 : ¬ w.heap.size = w1.heap.size := by omega
  have HA := Lib.hid hA
  have HD := Lib.hid hD
  have HB := Lib.hid hbw
  have d0 := hD.cell 0 _ rfl
  have e0 := hD.fr 0 _ rfl
  have d1 := hD.cell 1 _ rfl
  have e1 := hD.fr 1 _ rfl
  have d2 := hD.cell 2 _ rfl
  have e2 := hD.fr 2 _ rfl
  have d3 := hD.cell 3 _ rfl
  have e3 := hD.fr 3 _ rfl
  have d4 := hD.cell 4 _ rfl
  have e4 := hD.fr 4 _ rfl
  have d5 := hD.cell 5 _ rfl
  have e5 := hD.fr 5 _ rfl
  have d6 := hD.cell 6 _ rfl
  have e6 := hD.fr 6 _ rfl
  have d7 := hD.cell 7 _ rfl
  have e7 := hD.fr 7 _ rfl
  have d8 := hD.cell 8 _ rfl
  have e8 := hD.fr 8 _ rfl
  have y0 := hA.cell 0 _ rfl
  have k0 := hA.fr 0 _ rfl
  have y1 := hA.cell 1 _ rfl
  have k1 := hA.fr 1 _ rfl
  have y2 := hA.cell 2 _ rfl
  have k2 := hA.fr 2 _ rfl
  have y3 := hA.cell 3 _ rfl
  have k3 := hA.fr 3 _ rfl
  have y4 := hA.cell 4 _ rfl
  have k4 := hA.fr 4 _ rfl
  have y5 := hA.cell 5 _ rfl
  have k5 := hA.fr 5 _ rfl
  have y6 := hA.cell 6 _ rfl
  have k6 := hA.fr 6 _ rfl
  have y7 := hA.cell 7 _ rfl
  have k7 := hA.fr 7 _ rfl
  have y8 := hA.cell 8 _ rfl
  have k8 := hA.fr 8 _ rfl
  clear hA hD hbw hW2 hb1
  go_upto_region 3 with fail
  clear d0 e0 y0 k0 d1 e1 y1 k1 d2 e2 y2 k2 d3 e3 y3 k3 d4 e4 y4 k4 d5 e5 y5 k5 d6 e6 y6 k6 d7 e7 y7 k7 d8 e8 y8 k8
  obtain ⟨W4, hW4⟩ : ∃ W4, W4 = W2.setCell ⟨w1.heap.size, 7, none⟩ (.string (strOf nm)) := ⟨_, rfl⟩
  rw [← hW4]
  have hD4 : Blk W4 w1.heap.size [.int .i64 1, .int .i64 1, .int .i64 1, .int .i64 k, .bool false, .int .u64 0, .slice none 0 0, .string (strOf nm), .slice none 0 0] := by rw [hW4]; exact HD.out.set 7 _
  have hA4 : Blk W4 w.heap.size [.int .i64 0, .int .i64 0, .int .i64 0, .int .i64 0, .bool false, .int .u64 0, .slice none 0 0, .string ⟨#[]⟩, .slice none 0 0] := by rw [hW4]; exact HA.out.other (by simpa using hne) _
  have hB4 : Below w.heap.size w W4 := by rw [hW4]; exact HB.out.setCell (p := ⟨w1.heap.size, 7, none⟩) (by show w.heap.size ≤ w1.heap.size; omega) _
  have HB4 := Lib.hid hB4
  have HF := Lib.hid hA4
  have d0 := hD4.cell 0 _ rfl
  have y0 := hA4.cell 0 _ rfl
  have k0 := hA4.fr 0 _ rfl
  have d1 := hD4.cell 1 _ rfl
  have y1 := hA4.cell 1 _ rfl
  have k1 := hA4.fr 1 _ rfl
  have d2 := hD4.cell 2 _ rfl
  have y2 := hA4.cell 2 _ rfl
  have k2 := hA4.fr 2 _ rfl
  have d3 := hD4.cell 3 _ rfl
  have y3 := hA4.cell 3 _ rfl
  have k3 := hA4.fr 3 _ rfl
  have d4 := hD4.cell 4 _ rfl
  have y4 := hA4.cell 4 _ rfl
  have k4 := hA4.fr 4 _ rfl
  have d5 := hD4.cell 5 _ rfl
  have y5 := hA4.cell 5 _ rfl
  have k5 := hA4.fr 5 _ rfl
  have d6 := hD4.cell 6 _ rfl
  have y6 := hA4.cell 6 _ rfl
  have k6 := hA4.fr 6 _ rfl
  have d7 := hD4.cell 7 _ rfl
  have y7 := hA4.cell 7 _ rfl
  have k7 := hA4.fr 7 _ rfl
  have d8 := hD4.cell 8 _ rfl
  have y8 := hA4.cell 8 _ rfl
  have k8 := hA4.fr 8 _ rfl
  clear hD4 hA4 hB4 hW4 HA HD HB
  go_wp2
  refine named_post ?_
  intro W5 hW5
  have hZ : Blk W5 w.heap.size [.int .i64 1, .int .i64 1, .int .i64 1, .int .i64 k, .bool false, .int .u64 0, .slice none 0 0, .string (strOf nm), .slice none 0 0] := by rw [hW5]; exact (((((((((HF.out.set 0 _).set 1 _).set 2 _).set 3 _).set 4 _).set 5 _).set 6 _).set 7 _).set 8 _)
  have hB5 : Below w.heap.size w W5 := by rw [hW5]; exact (((((((((HB4.out.setCell (p := ⟨w.heap.size, 0, none⟩) (Nat.le_refl _) _).setCell (p := ⟨w.heap.size, 1, none⟩) (Nat.le_refl _) _).setCell (p := ⟨w.heap.size, 2, none⟩) (Nat.le_refl _) _).setCell (p := ⟨w.heap.size, 3, none⟩) (Nat.le_refl _) _).setCell (p := ⟨w.heap.size, 4, none⟩) (Nat.le_refl _) _).setCell (p := ⟨w.heap.size, 5, none⟩) (Nat.le_refl _) _).setCell (p := ⟨w.heap.size, 6, none⟩) (Nat.le_refl _) _).setCell (p := ⟨w.heap.size, 7, none⟩) (Nat.le_refl _) _).setCell (p := ⟨w.heap.size, 8, none⟩) (Nat.le_refl _) _)
  clear hW5 d0 y0 k0 d1 y1 k1 d2 y2 k2 d3 y3 k3 d4 y4 k4 d5 y5 k5 d6 y6 k6 d7 y7 k7 d8 y8 k8
  have z0 := hZ.cell 0 _ rfl
  have z1 := hZ.cell 1 _ rfl
  have z2 := hZ.cell 2 _ rfl
  have z3 := hZ.cell 3 _ rfl
  have z4 := hZ.cell 4 _ rfl
  have z5 := hZ.cell 5 _ rfl
  have z6 := hZ.cell 6 _ rfl
  have z7 := hZ.cell 7 _ rfl
  have z8 := hZ.cell 8 _ rfl
  refine bodyPost_ret (by simp [results, Tryd.results13, go_sem, z0, z1, z2, z3, z4, z5, z6, z7, z8]; try rfl) rfl ?_
  exact ⟨rfl, hB5⟩
theorem not_any (k : Int) (nm : List UInt8) (w : World) : Calls Tryd.prog 7 #[.int .i64 k, .string (strOf nm)] w fun e w' => e = .returned (.agg (leafX 2 0 0 k nm).row.toArray) ∧ Below w.heap.size w w' := by
  simp only [leafX, Tr.row]
  go_enter Tryd.func7, Tryd.ntmps7
  go_wp2
  refine bodyPost_ret (by simp [results, Tryd.results7, go_sem]; try rfl) rfl ?_
  exact ⟨rfl, b1 _ _⟩
set_option maxHeartbeats 2000000 in
theorem times_any (lo hi : Int) (w : World) : Calls Tryd.prog 11 #[.int .i64 lo, .int .i64 hi] w fun e w' => e = .returned (.agg (leafX 1 lo hi 0 []).row.toArray) ∧ Below w.heap.size w w' := by
  have hl := fun w => letter_any 0 w
  simp only [leafX, Tr.row, strOf_nil] at hl ⊢
  go_enter Tryd.func11, Tryd.ntmps11
  go_upto_region 2 with (go_at_call 9; refine (hl _).mono ?_; rintro e w1 ⟨rfl, hb1⟩)
  clear hl
  obtain ⟨W2, hW2⟩ : ∃ W2, W2 = w1.alloc (.cells #[.int .i64 1, .int .i64 1, .int .i64 1, .int .i64 0, .bool false, .int .u64 0, .slice none 0 0, .string ⟨#[]⟩, .slice none 0 0] 30) := ⟨_, rfl⟩
  rw [← hW2]
  have hA : Blk W2 w.heap.size [.int .i64 0, .int .i64 0, .int .i64 0, .int .i64 0, .bool false, .int .u64 0, .slice none 0 0, .string ⟨#[]⟩, .slice none 0 0] := hW2 ▸ ((Blk.new w [.int .i64 0, .int .i64 0, .int .i64 0, .int .i64 0, .bool false, .int .u64 0, .slice none 0 0, .string ⟨#[]⟩, .slice none 0 0] 30).later hb1).later (b1 _ _)
  have hD : Blk W2 w1.heap.size [.int .i64 1, .int .i64 1, .int .i64 1, .int .i64 0, .bool false, .int .u64 0, .slice none 0 0, .string ⟨#[]⟩, .slice none 0 0] := hW2 ▸ Blk.new w1 [.int .i64 1, .int .i64 1, .int .i64 1, .int .i64 0, .bool false, .int .u64 0, .slice none 0 0, .string ⟨#[]⟩, .slice none 0 0] 30
  have hbw : Below w.heap.size w W2 := hW2 ▸ bstep (bstep (b1 _ _) hb1) (b1 _ _)
  have hlt : w.heap.size < w1.heap.size := by have := hb1.size; simp at this; omega
  have hne : ¬ w1.heap.size = w.heap.size := by omega
  have hne2 : ¬ w.heap.size = w1.heap.size := by omega
  have HA := Lib.hid hA
  have HD := Lib.hid hD
  have HB := Lib.hid hbw
  have d0 := hD.cell 0 _ rfl
  have e0 := hD.fr 0 _ rfl
  have d1 := hD.cell 1 _ rfl
  have e1 := hD.fr 1 _ rfl
  have d2 := hD.cell 2 _ rfl
  have e2 := hD.fr 2 _ rfl
  have d3 := hD.cell 3 _ rfl
  have e3 := hD.fr 3 _ rfl
  have d4 := hD.cell 4 _ rfl
  have e4 := hD.fr 4 _ rfl
  have d5 := hD.cell 5 _ rfl
  have e5 := hD.fr 5 _ rfl
  have d6 := hD.cell 6 _ rfl
  have e6 := hD.fr 6 _ rfl
  have d7 := hD.cell 7 _ rfl
  have e7 := hD.fr 7 _ rfl
  have d8 := hD.cell 8 _ rfl
  have e8 := hD.fr 8 _ rfl
  have y0 := hA.cell 0 _ rfl
  have k0 := hA.fr 0 _ rfl
  have y1 := hA.cell 1 _ rfl
  have k1 := hA.fr 1 _ rfl
  have y2 := hA.cell 2 _ rfl
  have k2 := hA.fr 2 _ rfl
  have y3 := hA.cell 3 _ rfl
  have k3 := hA.fr 3 _ rfl
  have y4 := hA.cell 4 _ rfl
  have k4 := hA.fr 4 _ rfl
  have y5 := hA.cell 5 _ rfl
  have k5 := hA.fr 5 _ rfl
  have y6 := hA.cell 6 _ rfl
  have k6 := hA.fr 6 _ rfl
  have y7 := hA.cell 7 _ rfl
  have k7 := hA.fr 7 _ rfl
  have y8 := hA.cell 8 _ rfl
  have k8 := hA.fr 8 _ rfl
  clear hA hD hbw hW2 hb1
  go_upto_region 3 with fail
  clear d0 e0 y0 k0 d1 e1 y1 k1 d2 e2 y2 k2 d3 e3 y3 k3 d4 e4 y4 k4 d5 e5 y5 k5 d6 e6 y6 k6 d7 e7 y7 k7 d8 e8 y8 k8
  obtain ⟨W4, hW4⟩ : ∃ W4, W4 = (W2.setCell ⟨w1.heap.size, 1, none⟩ (.int .i64 lo)).setCell ⟨w1.heap.size, 2, none⟩ (.int .i64 hi) := ⟨_, rfl⟩
  rw [← hW4]
  have hD4 : Blk W4 w1.heap.size [.int .i64 1, .int .i64 lo, .int .i64 hi, .int .i64 0, .bool false, .int .u64 0, .slice none 0 0, .string ⟨#[]⟩, .slice none 0 0] := by rw [hW4]; exact (HD.out.set 1 _).set 2 _
  have hA4 : Blk W4 w.heap.size [.int .i64 0, .int .i64 0, .int .i64 0, .int .i64 0, .bool false, .int .u64 0, .slice none 0 0, .string ⟨#[]⟩, .slice none 0 0] := by rw [hW4]; exact (HA.out.other (by simpa using hne) _).other (by simpa using hne) _
  have hB4 : Below w.heap.size w W4 := by rw [hW4]; exact (HB.out.setCell (p := ⟨w1.heap.size, 1, none⟩) (by show w.heap.size ≤ w1.heap.size; omega) _).setCell (p := ⟨w1.heap.size, 2, none⟩) (by show w.heap.size ≤ w1.heap.size; omega) _
  have HB4 := Lib.hid hB4
  have HF := Lib.hid hA4
  have d0 := hD4.cell 0 _ rfl
  have y0 := hA4.cell 0 _ rfl
  have k0 := hA4.fr 0 _ rfl
  have d1 := hD4.cell 1 _ rfl
  have y1 := hA4.cell 1 _ rfl
  have k1 := hA4.fr 1 _ rfl
  have d2 := hD4.cell 2 _ rfl
  have y2 := hA4.cell 2 _ rfl
  have k2 := hA4.fr 2 _ rfl
  have d3 := hD4.cell 3 _ rfl
  have y3 := hA4.cell 3 _ rfl
  have k3 := hA4.fr 3 _ rfl
  have d4 := hD4.cell 4 _ rfl
  have y4 := hA4.cell 4 _ rfl
  have k4 := hA4.fr 4 _ rfl
  have d5 := hD4.cell 5 _ rfl
  have y5 := hA4.cell 5 _ rfl
  have k5 := hA4.fr 5 _ rfl
  have d6 := hD4.cell 6 _ rfl
  have y6 := hA4.cell 6 _ rfl
  have k6 := hA4.fr 6 _ rfl
  have d7 := hD4.cell 7 _ rfl
  have y7 := hA4.cell 7 _ rfl
  have k7 := hA4.fr 7 _ rfl
  have d8 := hD4.cell 8 _ rfl
  have y8 := hA4.cell 8 _ rfl
  have k8 := hA4.fr 8 _ rfl
  clear hD4 hA4 hB4 hW4 HA HD HB
  go_wp2
  refine named_post ?_
  intro W5 hW5
  have hZ : Blk W5 w.heap.size [.int .i64 1, .int .i64 lo, .int .i64 hi, .int .i64 0, .bool false, .int .u64 0, .slice none 0 0, .string ⟨#[]⟩, .slice none 0 0] := by rw [hW5]; exact (((((((((HF.out.set 0 _).set 1 _).set 2 _).set 3 _).set 4 _).set 5 _).set 6 _).set 7 _).set 8 _)
  have hB5 : Below w.heap.size w W5 := by rw [hW5]; exact (((((((((HB4.out.setCell (p := ⟨w.heap.size, 0, none⟩) (Nat.le_refl _) _).setCell (p := ⟨w.heap.size, 1, none⟩) (Nat.le_refl _) _).setCell (p := ⟨w.heap.size, 2, none⟩) (Nat.le_refl _) _).setCell (p := ⟨w.heap.size, 3, none⟩) (Nat.le_refl _) _).setCell (p := ⟨w.heap.size, 4, none⟩) (Nat.le_refl _) _).setCell (p := ⟨w.heap.size, 5, none⟩) (Nat.le_refl _) _).setCell (p := ⟨w.heap.size, 6, none⟩) (Nat.le_refl _) _).setCell (p := ⟨w.heap.size, 7, none⟩) (Nat.le_refl _) _).setCell (p := ⟨w.heap.size, 8, none⟩) (Nat.le_refl _) _)
  clear hW5 d0 y0 k0 d1 y1 k1 d2 y2 k2 d3 y3 k3 d4 y4 k4 d5 y5 k5 d6 y6 k6 d7 y7 k7 d8 y8 k8
  have z0 := hZ.cell 0 _ rfl
  have z1 := hZ.cell 1 _ rfl
  have z2 := hZ.cell 2 _ rfl
  have z3 := hZ.cell 3 _ rfl
  have z4 := hZ.cell 4 _ rfl
  have z5 := hZ.cell 5 _ rfl
  have z6 := hZ.cell 6 _ rfl
  have z7 := hZ.cell 7 _ rfl
  have z8 := hZ.cell 8 _ rfl
  refine bodyPost_ret (by simp [results, Tryd.results11, go_sem, z0, z1, z2, z3, z4, z5, z6, z7, z8]; try rfl) rfl ?_
  exact ⟨rfl, hB5⟩
theorem seq_any (A : Option Addr) (n c : Nat) (ts : List Tr) (w : World) : Calls Tryd.prog 8 #[.slice A n c] w fun e w' => e = .returned (.agg (kidsX 3 (.slice A n c) ts).row.toArray) ∧ Below w.heap.size w w' := by
  simp only [kidsX, Tr.row, strOf_nil]
  go_enter Tryd.func8, Tryd.ntmps8
  go_wp2
  refine bodyPost_ret (by simp [results, Tryd.results8, go_sem]; try rfl) rfl ?_
  exact ⟨rfl, b1 _ _⟩
theorem alt_any (A : Option Addr) (n c : Nat) (ts : List Tr) (w : World) : Calls Tryd.prog 10 #[.slice A n c] w fun e w' => e = .returned (.agg (kidsX 4 (.slice A n c) ts).row.toArray) ∧ Below w.heap.size w w' := by
  simp only [kidsX, Tr.row, strOf_nil]
  go_enter Tryd.func10, Tryd.ntmps10
  go_wp2
  refine bodyPost_ret (by simp [results, Tryd.results10, go_sem]; try rfl) rfl ?_
  exact ⟨rfl, b1 _ _⟩
theorem fails_any (T : Tr) (N : Nd) (E : Int) (w : World) (hT : TrW w T) (hlen : (subsT T).length ≤ 999999) (hG : SG w) (hN : T.nd = N) (hE : wfE ⟨N, 5, [], []⟩ = E) :
    Calls Tryd.prog 6 #[.agg T.row.toArray] w fun e w' => e = .returned (.int .i64 E) ∧ Below w.heap.size w w' := by
  have hc := fun w1 (hb : Below w.heap.size w w1) => wcheck_any ⟨T, 5, .slice none 0 0, [], .slice none 0 0, []⟩ w1 ⟨hT.later hb, (by show (0 : Int) ≤ 5 ∧ (5 : Int) < 18446744073709551616; decide), Sl.nil _ _, Sl.nil _ _, (fun h hm => by cases hm), (fun h hm => by cases hm)⟩ hlen (hG.later hb) (fun s hs => by simp [GQ.qu, useL] at hs)
  have hq : GQ.qu ⟨T, 5, .slice none 0 0, [], .slice none 0 0, []⟩ = ⟨N, 5, [], []⟩ := by rw [← hN]; rfl
  rw [hq, hE] at hc
  have hone := hT.one
  obtain ⟨k, mn, mx, ⟨⟨kd, bd, bn, cs, nm⟩, sc⟩, sk, ks⟩ := T
  obtain ⟨-, ⟨-, hsc⟩, hsl⟩ := hone
  simp only at hsc
  obtain ⟨A1, cap1, rfl, -, -⟩ := sl_get (by decide) hsc
  obtain ⟨A, cap, rfl, -, -⟩ := sl_get (by decide) hsl
  clear hsc hsl hT hq hN
  simp only [GQ.row, Tr.row, List.cons_append, List.nil_append] at hc ⊢
  go_enter Tryd.func6, Tryd.ntmps6
  go_wp2_with (go_at_call 12; refine (hc _ (by first | exact Below.refl _ _ | exact b1 _ _)).mono ?_; rintro e w2 ⟨rfl, hb2⟩)
  go_ret
  exact ⟨rfl, by first | exact hb2 | exact bstep (b1 _ _) hb2⟩
end Go.Proofs.YthiacfmedcfcjaaDoor
