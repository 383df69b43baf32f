/- What the laws make; the examples. -/
import Derived.Test.YtmfcjaoajanlfaaGreatDoorWfNO
import Derived.Test.YtmfcjaoajanlfaaGreatDoorKitSameTexts
namespace Go.Proofs.YtmfcjaoajanlfaaGreatDoor
open Go.RowKit Go.Shelf Go.Maps
open A8 W10
attribute [local go_sem] Oper.semAt_some

/-- Leaves and nodes of the law's own. -/
def leafX (k mn mx kd : Int) (nm : List UInt8) : Tr := .mk k mn mx ⟨⟨kd, false, 0, [], nm⟩, .slice none 0 0⟩ (.slice none 0 0) []
def kidsX (k : Int) (v : Value) (ts : List Tr) : Tr := .mk k 0 0 ⟨⟨0, false, 0, [], []⟩, .slice none 0 0⟩ v ts
theorem strOf_nil : strOf [] = ⟨#[]⟩ := rfl
theorem leafX_tr (k mn mx kd : Int) (nm : List UInt8) (w : World) (h1 : okV k) (h2 : okV mn) (h3 : okV mx) (h4 : okV kd) (h5 : nm.length ≤ maxLen) : TrW w (leafX k mn mx kd nm) := by
  intro t ht
  unfold leafX at ht
  simp only [subsT, subsTL, List.mem_singleton] at ht
  subst ht
  exact ⟨⟨h1, h2, h3⟩, ⟨⟨h4, by simp, (fun c hc => by cases hc), h5⟩, Sl.nil _ _⟩, Sl.nil _ _⟩
theorem kidsX_tr {k : Int} {v : Value} {ts : List Tr} {w : World} (h1 : okV k) (hs : Sl w 9 ts.length v (ts.flatMap Tr.row)) (ht : ∀ t ∈ ts, TrW w t) : TrW w (kidsX k v ts) := by
  intro u hu
  unfold kidsX at hu
  simp only [subsT, subsTL_flat, List.mem_cons, List.mem_flatMap] at hu
  rcases hu with rfl | ⟨t, h2, h3⟩
  · exact ⟨⟨h1, by unfold okV; omega, by unfold okV; omega⟩, ⟨⟨(show okV 0 from by unfold okV; omega), by simp, (fun c hc => by cases hc), by unfold maxLen; simp⟩, Sl.nil _ _⟩, hs⟩
  · exact ht t h2 u h3
theorem sl_fresh (w : World) (n sz : Nat) (us : List Value) (t : TypeId) (hl : us.length = n * sz) (hn : n ≤ 1000000) : Sl (w.alloc (.cells us.toArray t)) sz n (.slice (some ⟨w.heap.size, 0, none⟩) n n) us := by
  refine ⟨hl, by unfold maxLen; omega, _, _, rfl, Nat.le_refl _, (fun h => by cases h), fun i u hu => ⟨_, rfl, by simp, ?_⟩⟩
  have h := (Blk.new w us t).cell i u hu
  unfold Addr.add
  by_cases hi : i = 0
  · subst hi
    rw [if_pos rfl]
    exact h
  · rw [if_neg hi]
    simpa using h
theorem letter_any (k : Int) (w : World) : Calls Tryz.prog 17 #[.int .i64 k] w fun e w' => e = .returned (.agg (leafX 1 1 1 k []).row.toArray) ∧ Below w.heap.size w w' := by
  simp only [leafX, Tr.row, strOf_nil]
  go_enter Tryz.func17, Tryz.ntmps17
  go_wp2
  refine bodyPost_ret (by simp [results, Tryz.results17, go_sem]; try rfl) rfl ?_
  exact ⟨rfl, b1 _ _⟩
set_option maxHeartbeats 2000000 in
theorem named_any (k : Int) (nm : List UInt8) (w : World) : Calls Tryz.prog 20 #[.int .i64 k, .string (strOf nm)] w fun e w' => e = .returned (.agg (leafX 1 1 1 k nm).row.toArray) ∧ Below w.heap.size w w' := by
  have hl := fun w => letter_any k w
  simp only [leafX, Tr.row, strOf_nil] at hl ⊢
  go_enter Tryz.func20, Tryz.ntmps20
  go_upto_region 2 with (go_at_call 17; refine (hl _).mono ?_; rintro e w1 ⟨rfl, hb1⟩)
  clear hl
  obtain ⟨W2, hW2⟩ : ∃ W2, W2 = w1.alloc (.cells #[.int .i64 1, .int .i64 1, .int .i64 1, .int .i64 k, .bool false, .int .u64 0, .slice none 0 0, .string ⟨#[]⟩, .slice none 0 0] 30) := ⟨_, rfl⟩
  rw [← hW2]
  have hA : Blk W2 w.heap.size [.int .i64 0, .int .i64 0, .int .i64 0, .int .i64 0, .bool false, .int .u64 0, .slice none 0 0, .string ⟨#[]⟩, .slice none 0 0] := hW2 ▸ ((Blk.new w [.int .i64 0, .int .i64 0, .int .i64 0, .int .i64 0, .bool false, .int .u64 0, .slice none 0 0, .string ⟨#[]⟩, .slice none 0 0] 30).later hb1).later (b1 _ _)
  have hD : Blk W2 w1.heap.size [.int .i64 1, .int .i64 1, .int .i64 1, .int .i64 k, .bool false, .int .u64 0, .slice none 0 0, .string ⟨#[]⟩, .slice none 0 0] := hW2 ▸ Blk.new w1 [.int .i64 1, .int .i64 1, .int .i64 1, .int .i64 k, .bool false, .int .u64 0, .slice none 0 0, .string ⟨#[]⟩, .slice none 0 0] 30
  have hbw : Below w.heap.size w W2 := hW2 ▸ bstep (bstep (b1 _ _) hb1) (b1 _ _)
  have hlt : w.heap.size < w1.heap.size := by have := hb1.size; simp at this; omega
  have hne : ¬ w1.heap.size = w.heap.size := by omega
  have hne2 : ¬ w.heap.size = w1.heap.size := by omega
  have HA := Lib.hid hA
  have HD := Lib.hid hD
  have HB := Lib.hid hbw
  have d0 := hD.cell 0 _ rfl
  have e0 := hD.fr 0 _ rfl
  have d1 := hD.cell 1 _ rfl
  have e1 := hD.fr 1 _ rfl
  have d2 := hD.cell 2 _ rfl
  have e2 := hD.fr 2 _ rfl
  have d3 := hD.cell 3 _ rfl
  have e3 := hD.fr 3 _ rfl
  have d4 := hD.cell 4 _ rfl
  have e4 := hD.fr 4 _ rfl
  have d5 := hD.cell 5 _ rfl
  have e5 := hD.fr 5 _ rfl
  have d6 := hD.cell 6 _ rfl
  have e6 := hD.fr 6 _ rfl
  have d7 := hD.cell 7 _ rfl
  have e7 := hD.fr 7 _ rfl
  have d8 := hD.cell 8 _ rfl
  have e8 := hD.fr 8 _ rfl
  have y0 := hA.cell 0 _ rfl
  have k0 := hA.fr 0 _ rfl
  have y1 := hA.cell 1 _ rfl
  have k1 := hA.fr 1 _ rfl
  have y2 := hA.cell 2 _ rfl
  have k2 := hA.fr 2 _ rfl
  have y3 := hA.cell 3 _ rfl
  have k3 := hA.fr 3 _ rfl
  have y4 := hA.cell 4 _ rfl
  have k4 := hA.fr 4 _ rfl
  have y5 := hA.cell 5 _ rfl
  have k5 := hA.fr 5 _ rfl
  have y6 := hA.cell 6 _ rfl
  have k6 := hA.fr 6 _ rfl
  have y7 := hA.cell 7 _ rfl
  have k7 := hA.fr 7 _ rfl
  have y8 := hA.cell 8 _ rfl
  have k8 := hA.fr 8 _ rfl
  clear hA hD hbw hW2 hb1
  go_upto_region 3 with fail
  clear d0 e0 y0 k0 d1 e1 y1 k1 d2 e2 y2 k2 d3 e3 y3 k3 d4 e4 y4 k4 d5 e5 y5 k5 d6 e6 y6 k6 d7 e7 y7 k7 d8 e8 y8 k8
  obtain ⟨W4, hW4⟩ : ∃ W4, W4 = W2.setCell ⟨w1.heap.size, 7, none⟩ (.string (strOf nm)) := ⟨_, rfl⟩
  rw [← hW4]
  have hD4 : Blk W4 w1.heap.size [.int .i64 1, .int .i64 1, .int .i64 1, .int .i64 k, .bool false, .int .u64 0, .slice none 0 0, .string (strOf nm), .slice none 0 0] := by rw [hW4]; exact HD.out.set 7 _
  have hA4 : Blk W4 w.heap.size [.int .i64 0, .int .i64 0, .int .i64 0, .int .i64 0, .bool false, .int .u64 0, .slice none 0 0, .string ⟨#[]⟩, .slice none 0 0] := by rw [hW4]; exact HA.out.other (by simpa using hne) _
  have hB4 : Below w.heap.size w W4 := by rw [hW4]; exact HB.out.setCell (p := ⟨w1.heap.size, 7, none⟩) (by show w.heap.size ≤ w1.heap.size; omega) _
  have HB4 := Lib.hid hB4
  have HF := Lib.hid hA4
  have d0 := hD4.cell 0 _ rfl
  have y0 := hA4.cell 0 _ rfl
  have k0 := hA4.fr 0 _ rfl
  have d1 := hD4.cell 1 _ rfl
  have y1 := hA4.cell 1 _ rfl
  have k1 := hA4.fr 1 _ rfl
  have d2 := hD4.cell 2 _ rfl
  have y2 := hA4.cell 2 _ rfl
  have k2 := hA4.fr 2 _ rfl
  have d3 := hD4.cell 3 _ rfl
  have y3 := hA4.cell 3 _ rfl
  have k3 := hA4.fr 3 _ rfl
  have d4 := hD4.cell 4 _ rfl
  have y4 := hA4.cell 4 _ rfl
  have k4 := hA4.fr 4 _ rfl
  have d5 := hD4.cell 5 _ rfl
  have y5 := hA4.cell 5 _ rfl
  have k5 := hA4.fr 5 _ rfl
  have d6 := hD4.cell 6 _ rfl
  have y6 := hA4.cell 6 _ rfl
  have k6 := hA4.fr 6 _ rfl
  have d7 := hD4.cell 7 _ rfl
  have y7 := hA4.cell 7 _ rfl
  have k7 := hA4.fr 7 _ rfl
  have d8 := hD4.cell 8 _ rfl
  have y8 := hA4.cell 8 _ rfl
  have k8 := hA4.fr 8 _ rfl
  clear hD4 hA4 hB4 hW4 HA HD HB
  go_wp2
  refine named_post ?_
  intro W5 hW5
  have hZ : Blk W5 w.heap.size [.int .i64 1, .int .i64 1, .int .i64 1, .int .i64 k, .bool false, .int .u64 0, .slice none 0 0, .string (strOf nm), .slice none 0 0] := by rw [hW5]; exact (((((((((HF.out.set 0 _).set 1 _).set 2 _).set 3 _).set 4 _).set 5 _).set 6 _).set 7 _).set 8 _)
  have hB5 : Below w.heap.size w W5 := by rw [hW5]; exact (((((((((HB4.out.setCell (p := ⟨w.heap.size, 0, none⟩) (Nat.le_refl _) _).setCell (p := ⟨w.heap.size, 1, none⟩) (Nat.le_refl _) _).setCell (p := ⟨w.heap.size, 2, none⟩) (Nat.le_refl _) _).setCell (p := ⟨w.heap.size, 3, none⟩) (Nat.le_refl _) _).setCell (p := ⟨w.heap.size, 4, none⟩) (Nat.le_refl _) _).setCell (p := ⟨w.heap.size, 5, none⟩) (Nat.le_refl _) _).setCell (p := ⟨w.heap.size, 6, none⟩) (Nat.le_refl _) _).setCell (p := ⟨w.heap.size, 7, none⟩) (Nat.le_refl _) _).setCell (p := ⟨w.heap.size, 8, none⟩) (Nat.le_refl _) _)
  clear hW5 d0 y0 k0 d1 y1 k1 d2 y2 k2 d3 y3 k3 d4 y4 k4 d5 y5 k5 d6 y6 k6 d7 y7 k7 d8 y8 k8
  have z0 := hZ.cell 0 _ rfl
  have z1 := hZ.cell 1 _ rfl
  have z2 := hZ.cell 2 _ rfl
  have z3 := hZ.cell 3 _ rfl
  have z4 := hZ.cell 4 _ rfl
  have z5 := hZ.cell 5 _ rfl
  have z6 := hZ.cell 6 _ rfl
  have z7 := hZ.cell 7 _ rfl
  have z8 := hZ.cell 8 _ rfl
  refine bodyPost_ret (by simp [results, Tryz.results20, go_sem, z0, z1, z2, z3, z4, z5, z6, z7, z8]; try rfl) rfl ?_
  exact ⟨rfl, hB5⟩
theorem not_any (k : Int) (nm : List UInt8) (w : World) : Calls Tryz.prog 15 #[.int .i64 k, .string (strOf nm)] w fun e w' => e = .returned (.agg (leafX 2 0 0 k nm).row.toArray) ∧ Below w.heap.size w w' := by
  simp only [leafX, Tr.row]
  go_enter Tryz.func15, Tryz.ntmps15
  go_wp2
  refine bodyPost_ret (by simp [results, Tryz.results15, go_sem]; try rfl) rfl ?_
  exact ⟨rfl, b1 _ _⟩
set_option maxHeartbeats 2000000 in
theorem times_any (lo hi : Int) (w : World) : Calls Tryz.prog 19 #[.int .i64 lo, .int .i64 hi] w fun e w' => e = .returned (.agg (leafX 1 lo hi 0 []).row.toArray) ∧ Below w.heap.size w w' := by
  have hl := fun w => letter_any 0 w
  simp only [leafX, Tr.row, strOf_nil] at hl ⊢
  go_enter Tryz.func19, Tryz.ntmps19
  go_upto_region 2 with (go_at_call 17; refine (hl _).mono ?_; rintro e w1 ⟨rfl, hb1⟩)
  clear hl
  obtain ⟨W2, hW2⟩ : ∃ W2, W2 = w1.alloc (.cells #[.int .i64 1, .int .i64 1, .int .i64 1, .int .i64 0, .bool false, .int .u64 0, .slice none 0 0, .string ⟨#[]⟩, .slice none 0 0] 30) := ⟨_, rfl⟩
  rw [← hW2]
  have hA : Blk W2 w.heap.size [.int .i64 0, .int .i64 0, .int .i64 0, .int .i64 0, .bool false, .int .u64 0, .slice none 0 0, .string ⟨#[]⟩, .slice none 0 0] := hW2 ▸ ((Blk.new w [.int .i64 0, .int .i64 0, .int .i64 0, .int .i64 0, .bool false, .int .u64 0, .slice none 0 0, .string ⟨#[]⟩, .slice none 0 0] 30).later hb1).later (b1 _ _)
  have hD : Blk W2 w1.heap.size [.int .i64 1, .int .i64 1, .int .i64 1, .int .i64 0, .bool false, .int .u64 0, .slice none 0 0, .string ⟨#[]⟩, .slice none 0 0] := hW2 ▸ Blk.new w1 [.int .i64 1, .int .i64 1, .int .i64 1, .int .i64 0, .bool false, .int .u64 0, .slice none 0 0, .string ⟨#[]⟩, .slice none 0 0] 30
  have hbw : Below w.heap.size w W2 := hW2 ▸ bstep (bstep (b1 _ _) hb1) (b1 _ _)
  have hlt : w.heap.size < w1.heap.size := by have := hb1.size; simp at this; omega
  have hne : ¬ w1.heap.size = w.heap.size := by omega
  have hne2 : ¬ w.heap.size = w1.heap.size := by omega
  have HA := Lib.hid hA
  have HD := Lib.hid hD
  have HB := Lib.hid hbw
  have d0 := hD.cell 0 _ rfl
  have e0 := hD.fr 0 _ rfl
  have d1 := hD.cell 1 _ rfl
  have e1 := hD.fr 1 _ rfl
  have d2 := hD.cell 2 _ rfl
  have e2 := hD.fr 2 _ rfl
  have d3 := hD.cell 3 _ rfl
  have e3 := hD.fr 3 _ rfl
  have d4 := hD.cell 4 _ rfl
  have e4 := hD.fr 4 _ rfl
  have d5 := hD.cell 5 _ rfl
  have e5 := hD.fr 5 _ rfl
  have d6 := hD.cell 6 _ rfl
  have e6 := hD.fr 6 _ rfl
  have d7 := hD.cell 7 _ rfl
  have e7 := hD.fr 7 _ rfl
  have d8 := hD.cell 8 _ rfl
  have e8 := hD.fr 8 _ rfl
  have y0 := hA.cell 0 _ rfl
  have k0 := hA.fr 0 _ rfl
  have y1 := hA.cell 1 _ rfl
  have k1 := hA.fr 1 _ rfl
  have y2 := hA.cell 2 _ rfl
  have k2 := hA.fr 2 _ rfl
  have y3 := hA.cell 3 _ rfl
  have k3 := hA.fr 3 _ rfl
  have y4 := hA.cell 4 _ rfl
  have k4 := hA.fr 4 _ rfl
  have y5 := hA.cell 5 _ rfl
  have k5 := hA.fr 5 _ rfl
  have y6 := hA.cell 6 _ rfl
  have k6 := hA.fr 6 _ rfl
  have y7 := hA.cell 7 _ rfl
  have k7 := hA.fr 7 _ rfl
  have y8 := hA.cell 8 _ rfl
  have k8 := hA.fr 8 _ rfl
  clear hA hD hbw hW2 hb1
  go_upto_region 3 with fail
  clear d0 e0 y0 k0 d1 e1 y1 k1 d2 e2 y2 k2 d3 e3 y3 k3 d4 e4 y4 k4 d5 e5 y5 k5 d6 e6 y6 k6 d7 e7 y7 k7 d8 e8 y8 k8
  obtain ⟨W4, hW4⟩ : ∃ W4, W4 = (W2.setCell ⟨w1.heap.size, 1, none⟩ (.int .i64 lo)).setCell ⟨w1.heap.size, 2, none⟩ (.int .i64 hi) := ⟨_, rfl⟩
  rw [← hW4]
  have hD4 : Blk W4 w1.heap.size [.int .i64 1, .int .i64 lo, .int .i64 hi, .int .i64 0, .bool false, .int .u64 0, .slice none 0 0, .string ⟨#[]⟩, .slice none 0 0] := by rw [hW4]; exact (HD.out.set 1 _).set 2 _
  have hA4 : Blk W4 w.heap.size [.int .i64 0, .int .i64 0, .int .i64 0, .int .i64 0, .bool false, .int .u64 0, .slice none 0 0, .string ⟨#[]⟩, .slice none 0 0] := by rw [hW4]; exact (HA.out.other (by simpa using hne) _).other (by simpa using hne) _
  have hB4 : Below w.heap.size w W4 := by rw [hW4]; exact (HB.out.setCell (p := ⟨w1.heap.size, 1, none⟩) (by show w.heap.size ≤ w1.heap.size; omega) _).setCell (p := ⟨w1.heap.size, 2, none⟩) (by show w.heap.size ≤ w1.heap.size; omega) _
  have HB4 := Lib.hid hB4
  have HF := Lib.hid hA4
  have d0 := hD4.cell 0 _ rfl
  have y0 := hA4.cell 0 _ rfl
  have k0 := hA4.fr 0 _ rfl
  have d1 := hD4.cell 1 _ rfl
  have y1 := hA4.cell 1 _ rfl
  have k1 := hA4.fr 1 _ rfl
  have d2 := hD4.cell 2 _ rfl
  have y2 := hA4.cell 2 _ rfl
  have k2 := hA4.fr 2 _ rfl
  have d3 := hD4.cell 3 _ rfl
  have y3 := hA4.cell 3 _ rfl
  have k3 := hA4.fr 3 _ rfl
  have d4 := hD4.cell 4 _ rfl
  have y4 := hA4.cell 4 _ rfl
  have k4 := hA4.fr 4 _ rfl
  have d5 := hD4.cell 5 _ rfl
  have y5 := hA4.cell 5 _ rfl
  have k5 := hA4.fr 5 _ rfl
  have d6 := hD4.cell 6 _ rfl
  have y6 := hA4.cell 6 _ rfl
  have k6 := hA4.fr 6 _ rfl
  have d7 := hD4.cell 7 _ rfl
  have y7 := hA4.cell 7 _ rfl
  have k7 := hA4.fr 7 _ rfl
  have d8 := hD4.cell 8 _ rfl
  have y8 := hA4.cell 8 _ rfl
  have k8 := hA4.fr 8 _ rfl
  clear hD4 hA4 hB4 hW4 HA HD HB
  go_wp2
  refine named_post ?_
  intro W5 hW5
  have hZ : Blk W5 w.heap.size [.int .i64 1, .int .i64 lo, .int .i64 hi, .int .i64 0, .bool false, .int .u64 0, .slice none 0 0, .string ⟨#[]⟩, .slice none 0 0] := by rw [hW5]; exact (((((((((HF.out.set 0 _).set 1 _).set 2 _).set 3 _).set 4 _).set 5 _).set 6 _).set 7 _).set 8 _)
  have hB5 : Below w.heap.size w W5 := by rw [hW5]; exact (((((((((HB4.out.setCell (p := ⟨w.heap.size, 0, none⟩) (Nat.le_refl _) _).setCell (p := ⟨w.heap.size, 1, none⟩) (Nat.le_refl _) _).setCell (p := ⟨w.heap.size, 2, none⟩) (Nat.le_refl _) _).setCell (p := ⟨w.heap.size, 3, none⟩) (Nat.le_refl _) _).setCell (p := ⟨w.heap.size, 4, none⟩) (Nat.le_refl _) _).setCell (p := ⟨w.heap.size, 5, none⟩) (Nat.le_refl _) _).setCell (p := ⟨w.heap.size, 6, none⟩) (Nat.le_refl _) _).setCell (p := ⟨w.heap.size, 7, none⟩) (Nat.le_refl _) _).setCell (p := ⟨w.heap.size, 8, none⟩) (Nat.le_refl _) _)
  clear hW5 d0 y0 k0 d1 y1 k1 d2 y2 k2 d3 y3 k3 d4 y4 k4 d5 y5 k5 d6 y6 k6 d7 y7 k7 d8 y8 k8
  have z0 := hZ.cell 0 _ rfl
  have z1 := hZ.cell 1 _ rfl
  have z2 := hZ.cell 2 _ rfl
  have z3 := hZ.cell 3 _ rfl
  have z4 := hZ.cell 4 _ rfl
  have z5 := hZ.cell 5 _ rfl
  have z6 := hZ.cell 6 _ rfl
  have z7 := hZ.cell 7 _ rfl
  have z8 := hZ.cell 8 _ rfl
  refine bodyPost_ret (by simp [results, Tryz.results19, go_sem, z0, z1, z2, z3, z4, z5, z6, z7, z8]; try rfl) rfl ?_
  exact ⟨rfl, hB5⟩
theorem seq_any (A : Option Addr) (n c : Nat) (ts : List Tr) (w : World) : Calls Tryz.prog 16 #[.slice A n c] w fun e w' => e = .returned (.agg (kidsX 3 (.slice A n c) ts).row.toArray) ∧ Below w.heap.size w w' := by
  simp only [kidsX, Tr.row, strOf_nil]
  go_enter Tryz.func16, Tryz.ntmps16
  go_wp2
  refine bodyPost_ret (by simp [results, Tryz.results16, go_sem]; try rfl) rfl ?_
  exact ⟨rfl, b1 _ _⟩
theorem alt_any (A : Option Addr) (n c : Nat) (ts : List Tr) (w : World) : Calls Tryz.prog 18 #[.slice A n c] w fun e w' => e = .returned (.agg (kidsX 4 (.slice A n c) ts).row.toArray) ∧ Below w.heap.size w w' := by
  simp only [kidsX, Tr.row, strOf_nil]
  go_enter Tryz.func18, Tryz.ntmps18
  go_wp2
  refine bodyPost_ret (by simp [results, Tryz.results18, go_sem]; try rfl) rfl ?_
  exact ⟨rfl, b1 _ _⟩
theorem fails_any (T : Tr) (N : Nd) (E : Int) (w : World) (hT : TrW w T) (hlen : (subsT T).length ≤ 999999) (hG : SG w) (hN : T.nd = N) (hE : wfE ⟨N, 5, [], []⟩ = E) :
    Calls Tryz.prog 14 #[.agg T.row.toArray] w fun e w' => e = .returned (.int .i64 E) ∧ Below w.heap.size w w' := by
  have hc := fun w1 (hb : Below w.heap.size w w1) => wcheck_any ⟨T, 5, .slice none 0 0, [], .slice none 0 0, []⟩ w1 ⟨hT.later hb, (by show (0 : Int) ≤ 5 ∧ (5 : Int) < 18446744073709551616; decide), Sl.nil _ _, Sl.nil _ _, (fun h hm => by cases hm), (fun h hm => by cases hm)⟩ hlen (hG.later hb) (fun s hs => by simp [GQ.qu, useL] at hs)
  have hq : GQ.qu ⟨T, 5, .slice none 0 0, [], .slice none 0 0, []⟩ = ⟨N, 5, [], []⟩ := by rw [← hN]; rfl
  rw [hq, hE] at hc
  have hone := hT.one
  obtain ⟨k, mn, mx, ⟨⟨kd, bd, bn, cs, nm⟩, sc⟩, sk, ks⟩ := T
  obtain ⟨-, ⟨-, hsc⟩, hsl⟩ := hone
  simp only at hsc
  obtain ⟨A1, cap1, rfl, -, -⟩ := sl_get (by decide) hsc
  obtain ⟨A, cap, rfl, -, -⟩ := sl_get (by decide) hsl
  clear hsc hsl hT hq hN
  simp only [GQ.row, Tr.row, List.cons_append, List.nil_append] at hc ⊢
  go_enter Tryz.func14, Tryz.ntmps14
  go_wp2_with (go_at_call 6; refine (hc _ (by first | exact Below.refl _ _ | exact b1 _ _)).mono ?_; rintro e w2 ⟨rfl, hb2⟩)
  go_ret
  exact ⟨rfl, by first | exact hb2 | exact bstep (b1 _ _) hb2⟩
end Go.Proofs.YtmfcjaoajanlfaaGreatDoor
namespace Go.Proofs.YtmfcjaoajanlfaaGreatDoor
open Go.RowKit Go.Shelf Go.Maps
open A8 W10
attribute [local go_sem] Oper.semAt_some

def leafNd (k mn mx kd : Int) (nm : List UInt8) : Nd := .mk k mn mx ⟨kd, false, 0, [], nm⟩ []
def kidsNd (k : Int) (ns : List Nd) : Nd := .mk k 0 0 ⟨0, false, 0, [], []⟩ ns
theorem leafX_nd (k mn mx kd : Int) (nm : List UInt8) : (leafX k mn mx kd nm).nd = leafNd k mn mx kd nm := by unfold leafX leafNd; rw [nd_mk]; rfl
theorem kidsX_nd (k : Int) (v : Value) (ts : List Tr) : (kidsX k v ts).nd = kidsNd k (ts.map Tr.nd) := by unfold kidsX kidsNd; rw [nd_mk]
theorem kids_of2 {w : World} {a b : Tr} (ha : TrW w a) (hb : TrW w b) : ∀ t ∈ [a, b], TrW w t := by
  intro t ht
  simp only [List.mem_cons, List.not_mem_nil, or_false] at ht
  rcases ht with rfl | rfl
  · exact ha
  · exact hb
theorem kids_of3 {w : World} {a b c : Tr} (ha : TrW w a) (hb : TrW w b) (hc : TrW w c) : ∀ t ∈ [a, b, c], TrW w t := by
  intro t ht
  simp only [List.mem_cons, List.not_mem_nil, or_false] at ht
  rcases ht with rfl | rfl | rfl
  · exact ha
  · exact hb
  · exact hc
theorem kids_of4 {w : World} {a b c d : Tr} (ha : TrW w a) (hb : TrW w b) (hc : TrW w c) (hd : TrW w d) : ∀ t ∈ [a, b, c, d], TrW w t := by
  intro t ht
  simp only [List.mem_cons, List.not_mem_nil, or_false] at ht
  rcases ht with rfl | rfl | rfl | rfl
  · exact ha
  · exact hb
  · exact hc
  · exact hd
set_option maxRecDepth 100000 in
set_option maxHeartbeats 8000000 in
theorem wawake_any (w : World) (hG : SG w) : Calls Tryz.prog 22 #[] w fun e w' => e = .returned (.bool true) ∧ Below w.heap.size w w' := by
  have letterL := letter_any
  have namedL := named_any
  have notL := not_any
  have timesL := times_any
  have seqL := seq_any
  have altL := alt_any
  simp only [kidsX, leafX, Tr.row, strOf] at letterL namedL notL timesL seqL altL
  go_enter Tryz.func22, Tryz.ntmps22
  go_wp2_with fail
  refine (letterL 0 _).mono ?_
  rintro e w1 ⟨rfl, hb1⟩
  go_wp2_with fail
  have tr2 : TrW w1 (leafX 1 1 1 0 []) := (leafX_tr 1 1 1 0 [] _ (by unfold okV; omega) (by unfold okV; omega) (by unfold okV; omega) (by unfold okV; omega) (by unfold maxLen; simp))
  have hE2 : wfE ⟨(leafNd 1 1 1 0 []), 5, [], []⟩ = 0 := by decide +kernel
  have F2 := fails_any (leafX 1 1 1 0 []) (leafNd 1 1 1 0 []) 0 w1 tr2 (by simp [leafX, subsT, subsTL]) (hG.later hb1) (by simp only [leafX_nd]) hE2
  simp only [leafX, Tr.row, strOf] at F2
  clear tr2 hE2
  refine (F2).mono ?_
  rintro e w3 ⟨rfl, hb3⟩
  clear F2
  go_wp2_with fail
  refine (letterL 0 _).mono ?_
  rintro e w4 ⟨rfl, hb4⟩
  go_wp2_with fail
  refine (notL 1 [] _).mono ?_
  rintro e w5 ⟨rfl, hb5⟩
  go_wp2_with fail
  refine (letterL 2 _).mono ?_
  rintro e w6 ⟨rfl, hb6⟩
  go_wp2_with fail
  refine (seqL (some ⟨w6.heap.size, 0, none⟩) 3 3 [(leafX 1 1 1 0 []), (leafX 2 0 0 1 []), (leafX 1 1 1 2 [])] _).mono ?_
  rintro e w7 ⟨rfl, hb7⟩
  go_wp2_with fail
  have tr8 : TrW w7 (kidsX 3 (.slice (some ⟨w6.heap.size, 0, none⟩) 3 3) [(leafX 1 1 1 0 []), (leafX 2 0 0 1 []), (leafX 1 1 1 2 [])]) := (kidsX_tr (w := w7) (k := 3) (v := (.slice (some ⟨w6.heap.size, 0, none⟩) 3 3)) (ts := [(leafX 1 1 1 0 []), (leafX 2 0 0 1 []), (leafX 1 1 1 2 [])]) (by unfold okV; omega) ((sl_fresh w6 3 9 ([(leafX 1 1 1 0 []), (leafX 2 0 0 1 []), (leafX 1 1 1 2 [])].flatMap Tr.row) 30 rfl (by decide)).later hb7) (kids_of3 (leafX_tr 1 1 1 0 [] _ (by unfold okV; omega) (by unfold okV; omega) (by unfold okV; omega) (by unfold okV; omega) (by unfold maxLen; simp)) (leafX_tr 2 0 0 1 [] _ (by unfold okV; omega) (by unfold okV; omega) (by unfold okV; omega) (by unfold okV; omega) (by unfold maxLen; simp)) (leafX_tr 1 1 1 2 [] _ (by unfold okV; omega) (by unfold okV; omega) (by unfold okV; omega) (by unfold okV; omega) (by unfold maxLen; simp))))
  have hE8 : wfE ⟨(kidsNd 3 [(leafNd 1 1 1 0 []), (leafNd 2 0 0 1 []), (leafNd 1 1 1 2 [])]), 5, [], []⟩ = 0 := by decide +kernel
  have F8 := fails_any (kidsX 3 (.slice (some ⟨w6.heap.size, 0, none⟩) 3 3) [(leafX 1 1 1 0 []), (leafX 2 0 0 1 []), (leafX 1 1 1 2 [])]) (kidsNd 3 [(leafNd 1 1 1 0 []), (leafNd 2 0 0 1 []), (leafNd 1 1 1 2 [])]) 0 w7 tr8 (by simp [kidsX, leafX, subsT, subsTL]) (hG.later (bstep (bstep (bstep (bstep (bstep (bstep hb1 hb3) hb4) hb5) hb6) (b1 _ _)) hb7)) (by simp only [kidsX_nd, leafX_nd, List.map]) hE8
  simp only [kidsX, Tr.row, strOf] at F8
  clear tr8 hE8
  refine (F8).mono ?_
  rintro e w9 ⟨rfl, hb9⟩
  clear F8
  go_wp2_with fail
  refine (letterL 0 _).mono ?_
  rintro e w10 ⟨rfl, hb10⟩
  go_wp2_with fail
  refine (notL 1 [] _).mono ?_
  rintro e w11 ⟨rfl, hb11⟩
  go_wp2_with fail
  refine (seqL (some ⟨w11.heap.size, 0, none⟩) 2 2 [(leafX 1 1 1 0 []), (leafX 2 0 0 1 [])] _).mono ?_
  rintro e w12 ⟨rfl, hb12⟩
  go_wp2_with fail
  have tr13 : TrW w12 (kidsX 3 (.slice (some ⟨w11.heap.size, 0, none⟩) 2 2) [(leafX 1 1 1 0 []), (leafX 2 0 0 1 [])]) := (kidsX_tr (w := w12) (k := 3) (v := (.slice (some ⟨w11.heap.size, 0, none⟩) 2 2)) (ts := [(leafX 1 1 1 0 []), (leafX 2 0 0 1 [])]) (by unfold okV; omega) ((sl_fresh w11 2 9 ([(leafX 1 1 1 0 []), (leafX 2 0 0 1 [])].flatMap Tr.row) 30 rfl (by decide)).later hb12) (kids_of2 (leafX_tr 1 1 1 0 [] _ (by unfold okV; omega) (by unfold okV; omega) (by unfold okV; omega) (by unfold okV; omega) (by unfold maxLen; simp)) (leafX_tr 2 0 0 1 [] _ (by unfold okV; omega) (by unfold okV; omega) (by unfold okV; omega) (by unfold okV; omega) (by unfold maxLen; simp))))
  have hE13 : wfE ⟨(kidsNd 3 [(leafNd 1 1 1 0 []), (leafNd 2 0 0 1 [])]), 5, [], []⟩ = 9 := by decide +kernel
  have F13 := fails_any (kidsX 3 (.slice (some ⟨w11.heap.size, 0, none⟩) 2 2) [(leafX 1 1 1 0 []), (leafX 2 0 0 1 [])]) (kidsNd 3 [(leafNd 1 1 1 0 []), (leafNd 2 0 0 1 [])]) 9 w12 tr13 (by simp [kidsX, leafX, subsT, subsTL]) (hG.later (bstep (bstep (bstep (bstep (bstep (bstep (bstep (bstep (bstep (bstep (bstep hb1 hb3) hb4) hb5) hb6) (b1 _ _)) hb7) hb9) hb10) hb11) (b1 _ _)) hb12)) (by simp only [kidsX_nd, leafX_nd, List.map]) hE13
  simp only [kidsX, Tr.row, strOf] at F13
  clear tr13 hE13
  refine (F13).mono ?_
  rintro e w14 ⟨rfl, hb14⟩
  clear F13
  go_wp2_with fail
  refine (namedL 0 [120] _).mono ?_
  rintro e w15 ⟨rfl, hb15⟩
  go_wp2_with fail
  refine (namedL 1 [120] _).mono ?_
  rintro e w16 ⟨rfl, hb16⟩
  go_wp2_with fail
  refine (seqL (some ⟨w16.heap.size, 0, none⟩) 2 2 [(leafX 1 1 1 0 [120]), (leafX 1 1 1 1 [120])] _).mono ?_
  rintro e w17 ⟨rfl, hb17⟩
  go_wp2_with fail
  have tr18 : TrW w17 (kidsX 3 (.slice (some ⟨w16.heap.size, 0, none⟩) 2 2) [(leafX 1 1 1 0 [120]), (leafX 1 1 1 1 [120])]) := (kidsX_tr (w := w17) (k := 3) (v := (.slice (some ⟨w16.heap.size, 0, none⟩) 2 2)) (ts := [(leafX 1 1 1 0 [120]), (leafX 1 1 1 1 [120])]) (by unfold okV; omega) ((sl_fresh w16 2 9 ([(leafX 1 1 1 0 [120]), (leafX 1 1 1 1 [120])].flatMap Tr.row) 30 rfl (by decide)).later hb17) (kids_of2 (leafX_tr 1 1 1 0 [120] _ (by unfold okV; omega) (by unfold okV; omega) (by unfold okV; omega) (by unfold okV; omega) (by unfold maxLen; simp)) (leafX_tr 1 1 1 1 [120] _ (by unfold okV; omega) (by unfold okV; omega) (by unfold okV; omega) (by unfold okV; omega) (by unfold maxLen; simp))))
  have hE18 : wfE ⟨(kidsNd 3 [(leafNd 1 1 1 0 [120]), (leafNd 1 1 1 1 [120])]), 5, [], []⟩ = 8 := by decide +kernel
  have F18 := fails_any (kidsX 3 (.slice (some ⟨w16.heap.size, 0, none⟩) 2 2) [(leafX 1 1 1 0 [120]), (leafX 1 1 1 1 [120])]) (kidsNd 3 [(leafNd 1 1 1 0 [120]), (leafNd 1 1 1 1 [120])]) 8 w17 tr18 (by simp [kidsX, leafX, subsT, subsTL]) (hG.later (bstep (bstep (bstep (bstep (bstep (bstep (bstep (bstep (bstep (bstep (bstep (bstep (bstep (bstep (bstep (bstep hb1 hb3) hb4) hb5) hb6) (b1 _ _)) hb7) hb9) hb10) hb11) (b1 _ _)) hb12) hb14) hb15) hb16) (b1 _ _)) hb17)) (by simp only [kidsX_nd, leafX_nd, List.map]) hE18
  simp only [kidsX, Tr.row, strOf] at F18
  clear tr18 hE18
  refine (F18).mono ?_
  rintro e w19 ⟨rfl, hb19⟩
  clear F18
  go_wp2_with fail
  go_ret
  exact ⟨rfl, (bstep (bstep (bstep (bstep (bstep (bstep (bstep (bstep (bstep (bstep (bstep (bstep (bstep (bstep (bstep (bstep (bstep hb1 hb3) hb4) hb5) hb6) (b1 _ _)) hb7) hb9) hb10) hb11) (b1 _ _)) hb12) hb14) hb15) hb16) (b1 _ _)) hb17) hb19)⟩
end Go.Proofs.YtmfcjaoajanlfaaGreatDoor
namespace Go.Proofs.YtmfcjaoajanlfaaGreatDoor
open Go.RowKit Go.Shelf Go.Maps
open A8 W10
attribute [local go_sem] Oper.semAt_some

theorem grown_id (w : World) (b : Nat) : w.grownBy w (some b) := ⟨rfl, rfl, rfl, Nat.le_refl _, fun _ _ _ => rfl⟩
theorem grown_set10 {w W : World} {b : Nat} (h : w.grownBy W (some b)) (i : Nat) (v : Value) : w.grownBy (W.setCell ⟨b, i, none⟩ v) (some b) :=
  ⟨h.os, h.tape, h.output, by have := h.size; simpa [World.setCell] using this, fun k hk hne => (Below.heap_setCell _ _ _ _ (fun e => hne (by rw [e]))).trans (h.block k hk hne)⟩
theorem sl_but {w W : World} {sz n m c b b' : Nat} {us : List Value} (h : Sl w sz n (.slice (some ⟨b', 0, none⟩) m c) us) (hg : w.grownBy W (some b)) (hne : b' ≠ b) : Sl W sz n (.slice (some ⟨b', 0, none⟩) m c) us := by
  obtain ⟨h1, h2, A, cap, h3, h4, h5, h6⟩ := h
  cases h3
  refine ⟨h1, h2, _, _, rfl, h4, h5, fun i u hu => ?_⟩
  obtain ⟨a, ha, hlt, hc⟩ := h6 i u hu
  cases ha
  exact ⟨_, rfl, Nat.lt_of_lt_of_le hlt hg.size, (World.cell?_of_block (w := w) (a := (⟨b', 0, none⟩ : Addr).add i) (by rw [add_block]; exact hg.block b' hlt (fun e => hne (by cases e; rfl)))).trans hc⟩
theorem own_ne {W : World} {base n b : Nat} {e t : TypeId} {sz : Nat} {v : Value} {xs us : List Value} (h : W.ownsRow base e sz v n xs) (hb : Bx W b t us) (hne : e ≠ t) : v.ownBlock ≠ some b := by
  intro hv
  rcases h.2 with ⟨rfl, -⟩ | ⟨g, cap, cur, rfl, h2, h3, -⟩
  · cases hv
  · injection hv with hv
    simp only at hv
    subst hv
    have h4 : W.heap[g]? = _ := hb
    rw [h3] at h4
    cases h4
    exact hne rfl
set_option maxRecDepth 100000 in
set_option maxHeartbeats 32000000 in
theorem wknown_any (w : World) (hG : SG w) : Calls Tryz.prog 4 #[] w fun e w' => e = .returned (.bool true) ∧ Below w.heap.size w w' := by
  have letterL := letter_any
  have namedL := named_any
  have notL := not_any
  have timesL := times_any
  have seqL := seq_any
  have altL := alt_any
  simp only [kidsX, leafX, Tr.row, strOf] at letterL namedL notL timesL seqL altL
  go_enter Tryz.func4, Tryz.ntmps4
  go_wp2_with fail
  refine (notL 1 [] _).mono ?_
  rintro e w1 ⟨rfl, hb1⟩
  go_wp2_with fail
  have tr2 : TrW w1 (leafX 2 0 0 1 []) := (leafX_tr 2 0 0 1 [] _ (by unfold okV; omega) (by unfold okV; omega) (by unfold okV; omega) (by unfold okV; omega) (by unfold maxLen; simp))
  have hE2 : wfE ⟨(leafNd 2 0 0 1 []), 5, [], []⟩ = 9 := by decide +kernel
  have F2 := fails_any (leafX 2 0 0 1 []) (leafNd 2 0 0 1 []) 9 w1 tr2 (by simp [leafX, subsT, subsTL]) (hG.later hb1) (by simp only [leafX_nd]) hE2
  simp only [leafX, Tr.row, strOf] at F2
  clear tr2 hE2
  refine (F2).mono ?_
  rintro e w3 ⟨rfl, hb3⟩
  clear F2
  go_wp2_with fail
  refine (notL 1 [] _).mono ?_
  rintro e w4 ⟨rfl, hb4⟩
  go_wp2_with fail
  refine (letterL 0 _).mono ?_
  rintro e w5 ⟨rfl, hb5⟩
  go_wp2_with fail
  refine (seqL (some ⟨w5.heap.size, 0, none⟩) 2 2 [(leafX 2 0 0 1 []), (leafX 1 1 1 0 [])] _).mono ?_
  rintro e w6 ⟨rfl, hb6⟩
  go_wp2_with fail
  refine (letterL 2 _).mono ?_
  rintro e w7 ⟨rfl, hb7⟩
  go_wp2_with fail
  refine (seqL (some ⟨w7.heap.size, 0, none⟩) 2 2 [(kidsX 3 (.slice (some ⟨w5.heap.size, 0, none⟩) 2 2) [(leafX 2 0 0 1 []), (leafX 1 1 1 0 [])]), (leafX 1 1 1 2 [])] _).mono ?_
  rintro e w8 ⟨rfl, hb8⟩
  go_wp2_with fail
  have tk9_0 := (kidsX_tr (w := w8) (k := 3) (v := (.slice (some ⟨w5.heap.size, 0, none⟩) 2 2)) (ts := [(leafX 2 0 0 1 []), (leafX 1 1 1 0 [])]) (by unfold okV; omega) ((sl_fresh w5 2 9 ([(leafX 2 0 0 1 []), (leafX 1 1 1 0 [])].flatMap Tr.row) 30 rfl (by decide)).later (bstep (bstep (bstep hb6 hb7) (b1 _ _)) hb8)) (kids_of2 (leafX_tr 2 0 0 1 [] _ (by unfold okV; omega) (by unfold okV; omega) (by unfold okV; omega) (by unfold okV; omega) (by unfold maxLen; simp)) (leafX_tr 1 1 1 0 [] _ (by unfold okV; omega) (by unfold okV; omega) (by unfold okV; omega) (by unfold okV; omega) (by unfold maxLen; simp))))
  have tr9 : TrW w8 (kidsX 3 (.slice (some ⟨w7.heap.size, 0, none⟩) 2 2) [(kidsX 3 (.slice (some ⟨w5.heap.size, 0, none⟩) 2 2) [(leafX 2 0 0 1 []), (leafX 1 1 1 0 [])]), (leafX 1 1 1 2 [])]) := (kidsX_tr (w := w8) (k := 3) (v := (.slice (some ⟨w7.heap.size, 0, none⟩) 2 2)) (ts := [(kidsX 3 (.slice (some ⟨w5.heap.size, 0, none⟩) 2 2) [(leafX 2 0 0 1 []), (leafX 1 1 1 0 [])]), (leafX 1 1 1 2 [])]) (by unfold okV; omega) ((sl_fresh w7 2 9 ([(kidsX 3 (.slice (some ⟨w5.heap.size, 0, none⟩) 2 2) [(leafX 2 0 0 1 []), (leafX 1 1 1 0 [])]), (leafX 1 1 1 2 [])].flatMap Tr.row) 30 rfl (by decide)).later hb8) (kids_of2 tk9_0 (leafX_tr 1 1 1 2 [] _ (by unfold okV; omega) (by unfold okV; omega) (by unfold okV; omega) (by unfold okV; omega) (by unfold maxLen; simp))))
  have hE9 : wfE ⟨(kidsNd 3 [(kidsNd 3 [(leafNd 2 0 0 1 []), (leafNd 1 1 1 0 [])]), (leafNd 1 1 1 2 [])]), 5, [], []⟩ = 9 := by decide +kernel
  have F9 := fails_any (kidsX 3 (.slice (some ⟨w7.heap.size, 0, none⟩) 2 2) [(kidsX 3 (.slice (some ⟨w5.heap.size, 0, none⟩) 2 2) [(leafX 2 0 0 1 []), (leafX 1 1 1 0 [])]), (leafX 1 1 1 2 [])]) (kidsNd 3 [(kidsNd 3 [(leafNd 2 0 0 1 []), (leafNd 1 1 1 0 [])]), (leafNd 1 1 1 2 [])]) 9 w8 tr9 (by simp [kidsX, leafX, subsT, subsTL]) (hG.later (bstep (bstep (bstep (bstep (bstep (bstep (bstep (bstep hb1 hb3) hb4) hb5) (b1 _ _)) hb6) hb7) (b1 _ _)) hb8)) (by simp only [kidsX_nd, leafX_nd, List.map]) hE9
  simp only [kidsX, Tr.row, strOf] at F9
  clear tr9 hE9
  refine (F9).mono ?_
  rintro e w10 ⟨rfl, hb10⟩
  clear F9
  go_wp2_with fail
  refine (letterL 0 _).mono ?_
  rintro e w11 ⟨rfl, hb11⟩
  go_wp2_with fail
  refine (notL 1 [] _).mono ?_
  rintro e w12 ⟨rfl, hb12⟩
  go_wp2_with fail
  refine (notL 2 [] _).mono ?_
  rintro e w13 ⟨rfl, hb13⟩
  go_wp2_with fail
  refine (letterL 3 _).mono ?_
  rintro e w14 ⟨rfl, hb14⟩
  go_wp2_with fail
  refine (seqL (some ⟨w14.heap.size, 0, none⟩) 4 4 [(leafX 1 1 1 0 []), (leafX 2 0 0 1 []), (leafX 2 0 0 2 []), (leafX 1 1 1 3 [])] _).mono ?_
  rintro e w15 ⟨rfl, hb15⟩
  go_wp2_with fail
  have tr16 : TrW w15 (kidsX 3 (.slice (some ⟨w14.heap.size, 0, none⟩) 4 4) [(leafX 1 1 1 0 []), (leafX 2 0 0 1 []), (leafX 2 0 0 2 []), (leafX 1 1 1 3 [])]) := (kidsX_tr (w := w15) (k := 3) (v := (.slice (some ⟨w14.heap.size, 0, none⟩) 4 4)) (ts := [(leafX 1 1 1 0 []), (leafX 2 0 0 1 []), (leafX 2 0 0 2 []), (leafX 1 1 1 3 [])]) (by unfold okV; omega) ((sl_fresh w14 4 9 ([(leafX 1 1 1 0 []), (leafX 2 0 0 1 []), (leafX 2 0 0 2 []), (leafX 1 1 1 3 [])].flatMap Tr.row) 30 rfl (by decide)).later hb15) (kids_of4 (leafX_tr 1 1 1 0 [] _ (by unfold okV; omega) (by unfold okV; omega) (by unfold okV; omega) (by unfold okV; omega) (by unfold maxLen; simp)) (leafX_tr 2 0 0 1 [] _ (by unfold okV; omega) (by unfold okV; omega) (by unfold okV; omega) (by unfold okV; omega) (by unfold maxLen; simp)) (leafX_tr 2 0 0 2 [] _ (by unfold okV; omega) (by unfold okV; omega) (by unfold okV; omega) (by unfold okV; omega) (by unfold maxLen; simp)) (leafX_tr 1 1 1 3 [] _ (by unfold okV; omega) (by unfold okV; omega) (by unfold okV; omega) (by unfold okV; omega) (by unfold maxLen; simp))))
  have hE16 : wfE ⟨(kidsNd 3 [(leafNd 1 1 1 0 []), (leafNd 2 0 0 1 []), (leafNd 2 0 0 2 []), (leafNd 1 1 1 3 [])]), 5, [], []⟩ = 0 := by decide +kernel
  have F16 := fails_any (kidsX 3 (.slice (some ⟨w14.heap.size, 0, none⟩) 4 4) [(leafX 1 1 1 0 []), (leafX 2 0 0 1 []), (leafX 2 0 0 2 []), (leafX 1 1 1 3 [])]) (kidsNd 3 [(leafNd 1 1 1 0 []), (leafNd 2 0 0 1 []), (leafNd 2 0 0 2 []), (leafNd 1 1 1 3 [])]) 0 w15 tr16 (by simp [kidsX, leafX, subsT, subsTL]) (hG.later (bstep (bstep (bstep (bstep (bstep (bstep (bstep (bstep (bstep (bstep (bstep (bstep (bstep (bstep (bstep hb1 hb3) hb4) hb5) (b1 _ _)) hb6) hb7) (b1 _ _)) hb8) hb10) hb11) hb12) hb13) hb14) (b1 _ _)) hb15)) (by simp only [kidsX_nd, leafX_nd, List.map]) hE16
  simp only [kidsX, Tr.row, strOf] at F16
  clear tr16 hE16
  refine (F16).mono ?_
  rintro e w17 ⟨rfl, hb17⟩
  clear F16
  go_wp2_with fail
  refine (letterL 0 _).mono ?_
  rintro e w18 ⟨rfl, hb18⟩
  go_wp2_with fail
  refine (notL 1 [] _).mono ?_
  rintro e w19 ⟨rfl, hb19⟩
  go_wp2_with fail
  refine (altL (some ⟨w19.heap.size, 0, none⟩) 2 2 [(leafX 1 1 1 0 []), (leafX 2 0 0 1 [])] _).mono ?_
  rintro e w20 ⟨rfl, hb20⟩
  go_wp2_with fail
  have tr21 : TrW w20 (kidsX 4 (.slice (some ⟨w19.heap.size, 0, none⟩) 2 2) [(leafX 1 1 1 0 []), (leafX 2 0 0 1 [])]) := (kidsX_tr (w := w20) (k := 4) (v := (.slice (some ⟨w19.heap.size, 0, none⟩) 2 2)) (ts := [(leafX 1 1 1 0 []), (leafX 2 0 0 1 [])]) (by unfold okV; omega) ((sl_fresh w19 2 9 ([(leafX 1 1 1 0 []), (leafX 2 0 0 1 [])].flatMap Tr.row) 30 rfl (by decide)).later hb20) (kids_of2 (leafX_tr 1 1 1 0 [] _ (by unfold okV; omega) (by unfold okV; omega) (by unfold okV; omega) (by unfold okV; omega) (by unfold maxLen; simp)) (leafX_tr 2 0 0 1 [] _ (by unfold okV; omega) (by unfold okV; omega) (by unfold okV; omega) (by unfold okV; omega) (by unfold maxLen; simp))))
  have hE21 : wfE ⟨(kidsNd 4 [(leafNd 1 1 1 0 []), (leafNd 2 0 0 1 [])]), 5, [], []⟩ = 9 := by decide +kernel
  have F21 := fails_any (kidsX 4 (.slice (some ⟨w19.heap.size, 0, none⟩) 2 2) [(leafX 1 1 1 0 []), (leafX 2 0 0 1 [])]) (kidsNd 4 [(leafNd 1 1 1 0 []), (leafNd 2 0 0 1 [])]) 9 w20 tr21 (by simp [kidsX, leafX, subsT, subsTL]) (hG.later (bstep (bstep (bstep (bstep (bstep (bstep (bstep (bstep (bstep (bstep (bstep (bstep (bstep (bstep (bstep (bstep (bstep (bstep (bstep (bstep hb1 hb3) hb4) hb5) (b1 _ _)) hb6) hb7) (b1 _ _)) hb8) hb10) hb11) hb12) hb13) hb14) (b1 _ _)) hb15) hb17) hb18) hb19) (b1 _ _)) hb20)) (by simp only [kidsX_nd, leafX_nd, List.map]) hE21
  simp only [kidsX, Tr.row, strOf] at F21
  clear tr21 hE21
  refine (F21).mono ?_
  rintro e w22 ⟨rfl, hb22⟩
  clear F21
  go_wp2_with fail
  refine (timesL 0 2 _).mono ?_
  rintro e w23 ⟨rfl, hb23⟩
  go_wp2_with fail
  have tr24 : TrW w23 (leafX 1 0 2 0 []) := (leafX_tr 1 0 2 0 [] _ (by unfold okV; omega) (by unfold okV; omega) (by unfold okV; omega) (by unfold okV; omega) (by unfold maxLen; simp))
  have hE24 : wfE ⟨(leafNd 1 0 2 0 []), 5, [], []⟩ = 2 := by decide +kernel
  have F24 := fails_any (leafX 1 0 2 0 []) (leafNd 1 0 2 0 []) 2 w23 tr24 (by simp [leafX, subsT, subsTL]) (hG.later (bstep (bstep (bstep (bstep (bstep (bstep (bstep (bstep (bstep (bstep (bstep (bstep (bstep (bstep (bstep (bstep (bstep (bstep (bstep (bstep (bstep (bstep hb1 hb3) hb4) hb5) (b1 _ _)) hb6) hb7) (b1 _ _)) hb8) hb10) hb11) hb12) hb13) hb14) (b1 _ _)) hb15) hb17) hb18) hb19) (b1 _ _)) hb20) hb22) hb23)) (by simp only [leafX_nd]) hE24
  simp only [leafX, Tr.row, strOf] at F24
  clear tr24 hE24
  refine (F24).mono ?_
  rintro e w25 ⟨rfl, hb25⟩
  clear F24
  go_wp2_with fail
  refine (timesL 2 1 _).mono ?_
  rintro e w26 ⟨rfl, hb26⟩
  go_wp2_with fail
  have tr27 : TrW w26 (leafX 1 2 1 0 []) := (leafX_tr 1 2 1 0 [] _ (by unfold okV; omega) (by unfold okV; omega) (by unfold okV; omega) (by unfold okV; omega) (by unfold maxLen; simp))
  have hE27 : wfE ⟨(leafNd 1 2 1 0 []), 5, [], []⟩ = 2 := by decide +kernel
  have F27 := fails_any (leafX 1 2 1 0 []) (leafNd 1 2 1 0 []) 2 w26 tr27 (by simp [leafX, subsT, subsTL]) (hG.later (bstep (bstep (bstep (bstep (bstep (bstep (bstep (bstep (bstep (bstep (bstep (bstep (bstep (bstep (bstep (bstep (bstep (bstep (bstep (bstep (bstep (bstep (bstep (bstep hb1 hb3) hb4) hb5) (b1 _ _)) hb6) hb7) (b1 _ _)) hb8) hb10) hb11) hb12) hb13) hb14) (b1 _ _)) hb15) hb17) hb18) hb19) (b1 _ _)) hb20) hb22) hb23) hb25) hb26)) (by simp only [leafX_nd]) hE27
  simp only [leafX, Tr.row, strOf] at F27
  clear tr27 hE27
  refine (F27).mono ?_
  rintro e w28 ⟨rfl, hb28⟩
  clear F27
  go_wp2_with fail
  refine (timesL 1 7 _).mono ?_
  rintro e w29 ⟨rfl, hb29⟩
  go_wp2_with fail
  have tr30 : TrW w29 (leafX 1 1 7 0 []) := (leafX_tr 1 1 7 0 [] _ (by unfold okV; omega) (by unfold okV; omega) (by unfold okV; omega) (by unfold okV; omega) (by unfold maxLen; simp))
  have hE30 : wfE ⟨(leafNd 1 1 7 0 []), 5, [], []⟩ = 2 := by decide +kernel
  have F30 := fails_any (leafX 1 1 7 0 []) (leafNd 1 1 7 0 []) 2 w29 tr30 (by simp [leafX, subsT, subsTL]) (hG.later (bstep (bstep (bstep (bstep (bstep (bstep (bstep (bstep (bstep (bstep (bstep (bstep (bstep (bstep (bstep (bstep (bstep (bstep (bstep (bstep (bstep (bstep (bstep (bstep (bstep (bstep hb1 hb3) hb4) hb5) (b1 _ _)) hb6) hb7) (b1 _ _)) hb8) hb10) hb11) hb12) hb13) hb14) (b1 _ _)) hb15) hb17) hb18) hb19) (b1 _ _)) hb20) hb22) hb23) hb25) hb26) hb28) hb29)) (by simp only [leafX_nd]) hE30
  simp only [leafX, Tr.row, strOf] at F30
  clear tr30 hE30
  refine (F30).mono ?_
  rintro e w31 ⟨rfl, hb31⟩
  clear F30
  go_wp2_with fail
  refine (letterL 0 _).mono ?_
  rintro e w32 ⟨rfl, hb32⟩
  go_wp2_with fail
  have hqwp1 : QW w32 (⟨(leafX 1 1 1 0 []), 10001, .slice none 0 0, [], .slice none 0 0, []⟩ : GQ) := ⟨(leafX_tr 1 1 1 0 [] _ (by unfold okV; omega) (by unfold okV; omega) (by unfold okV; omega) (by unfold okV; omega) (by unfold maxLen; simp)), (by show (0 : Int) ≤ 10001 ∧ (10001 : Int) < 18446744073709551616; decide), Sl.nil _ _, Sl.nil _ _, (fun h hm => by cases hm), (fun h hm => by cases hm)⟩
  have hqup1 : GQ.qu (⟨(leafX 1 1 1 0 []), 10001, .slice none 0 0, [], .slice none 0 0, []⟩ : GQ) = (⟨(leafNd 1 1 1 0 []), 10001, [], []⟩ : Qu) := by unfold GQ.qu; simp only [leafX_nd]
  have hnup1 : ∀ s ∈ useL (⟨(leafNd 1 1 1 0 []), 10001, [], []⟩ : Qu), s.length ≤ maxLen := by intro s hs; rw [show useL (⟨(leafNd 1 1 1 0 []), 10001, [], []⟩ : Qu) = [] from rfl] at hs; cases hs
  have hvp1_0 : wfE (⟨(leafNd 1 1 1 0 []), 10001, [], []⟩ : Qu) = 2 := by decide +kernel
  have Fp1 := wcheck_any (⟨(leafX 1 1 1 0 []), 10001, .slice none 0 0, [], .slice none 0 0, []⟩ : GQ)  w32 hqwp1 (by simp [leafX, subsT, subsTL]) (hG.later (bstep (bstep (bstep (bstep (bstep (bstep (bstep (bstep (bstep (bstep (bstep (bstep (bstep (bstep (bstep (bstep (bstep (bstep (bstep (bstep (bstep (bstep (bstep (bstep (bstep (bstep (bstep (bstep hb1 hb3) hb4) hb5) (b1 _ _)) hb6) hb7) (b1 _ _)) hb8) hb10) hb11) hb12) hb13) hb14) (b1 _ _)) hb15) hb17) hb18) hb19) (b1 _ _)) hb20) hb22) hb23) hb25) hb26) hb28) hb29) hb31) hb32)) (by rw [hqup1]; exact hnup1)
  rw [hqup1, hvp1_0] at Fp1
  simp only [GQ.row, leafX, Tr.row, strOf, List.cons_append, List.nil_append] at Fp1
  clear hqwp1 hqup1 hnup1 hvp1_0
  refine (Fp1).mono ?_
  rintro e w34 ⟨rfl, hb34⟩
  clear Fp1
  go_wp2_with fail
  refine (letterL 0 _).mono ?_
  rintro e w35 ⟨rfl, hb35⟩
  go_wp2_with fail
  refine (notL 1 [120] _).mono ?_
  rintro e w36 ⟨rfl, hb36⟩
  go_wp2_with fail
  refine (letterL 2 _).mono ?_
  rintro e w37 ⟨rfl, hb37⟩
  go_wp2_with fail
  refine (seqL (some ⟨w37.heap.size, 0, none⟩) 3 3 [(leafX 1 1 1 0 []), (leafX 2 0 0 1 [120]), (leafX 1 1 1 2 [])] _).mono ?_
  rintro e w38 ⟨rfl, hb38⟩
  go_wp2_with fail
  have tr39 : TrW w38 (kidsX 3 (.slice (some ⟨w37.heap.size, 0, none⟩) 3 3) [(leafX 1 1 1 0 []), (leafX 2 0 0 1 [120]), (leafX 1 1 1 2 [])]) := (kidsX_tr (w := w38) (k := 3) (v := (.slice (some ⟨w37.heap.size, 0, none⟩) 3 3)) (ts := [(leafX 1 1 1 0 []), (leafX 2 0 0 1 [120]), (leafX 1 1 1 2 [])]) (by unfold okV; omega) ((sl_fresh w37 3 9 ([(leafX 1 1 1 0 []), (leafX 2 0 0 1 [120]), (leafX 1 1 1 2 [])].flatMap Tr.row) 30 rfl (by decide)).later hb38) (kids_of3 (leafX_tr 1 1 1 0 [] _ (by unfold okV; omega) (by unfold okV; omega) (by unfold okV; omega) (by unfold okV; omega) (by unfold maxLen; simp)) (leafX_tr 2 0 0 1 [120] _ (by unfold okV; omega) (by unfold okV; omega) (by unfold okV; omega) (by unfold okV; omega) (by unfold maxLen; simp)) (leafX_tr 1 1 1 2 [] _ (by unfold okV; omega) (by unfold okV; omega) (by unfold okV; omega) (by unfold okV; omega) (by unfold maxLen; simp))))
  have hE39 : wfE ⟨(kidsNd 3 [(leafNd 1 1 1 0 []), (leafNd 2 0 0 1 [120]), (leafNd 1 1 1 2 [])]), 5, [], []⟩ = 12 := by decide +kernel
  have F39 := fails_any (kidsX 3 (.slice (some ⟨w37.heap.size, 0, none⟩) 3 3) [(leafX 1 1 1 0 []), (leafX 2 0 0 1 [120]), (leafX 1 1 1 2 [])]) (kidsNd 3 [(leafNd 1 1 1 0 []), (leafNd 2 0 0 1 [120]), (leafNd 1 1 1 2 [])]) 12 w38 tr39 (by simp [kidsX, leafX, subsT, subsTL]) (hG.later (bstep (bstep (bstep (bstep (bstep (bstep (bstep (bstep (bstep (bstep (bstep (bstep (bstep (bstep (bstep (bstep (bstep (bstep (bstep (bstep (bstep (bstep (bstep (bstep (bstep (bstep (bstep (bstep (bstep (bstep (bstep (bstep (bstep (bstep hb1 hb3) hb4) hb5) (b1 _ _)) hb6) hb7) (b1 _ _)) hb8) hb10) hb11) hb12) hb13) hb14) (b1 _ _)) hb15) hb17) hb18) hb19) (b1 _ _)) hb20) hb22) hb23) hb25) hb26) hb28) hb29) hb31) hb32) hb34) hb35) hb36) hb37) (b1 _ _)) hb38)) (by simp only [kidsX_nd, leafX_nd, List.map]) hE39
  simp only [kidsX, Tr.row, strOf] at F39
  clear tr39 hE39
  refine (F39).mono ?_
  rintro e w40 ⟨rfl, hb40⟩
  clear F39
  go_wp2_with fail
  refine (namedL 0 [120] _).mono ?_
  rintro e w41 ⟨rfl, hb41⟩
  go_wp2_with fail
  have hqwp2 : QW (w41.alloc (.cells (([⟨2, [121]⟩] : List Ag).flatMap agC).toArray 55)) (⟨(leafX 1 1 1 0 [120]), 5, .slice none 0 0, [], .slice (some ⟨w41.heap.size, 0, none⟩) 1 1, [⟨2, [121]⟩]⟩ : GQ) := ⟨(leafX_tr 1 1 1 0 [120] _ (by unfold okV; omega) (by unfold okV; omega) (by unfold okV; omega) (by unfold okV; omega) (by unfold maxLen; simp)), (by show (0 : Int) ≤ 5 ∧ (5 : Int) < 18446744073709551616; decide), Sl.nil _ _, (sl_fresh w41 1 2 (([⟨2, [121]⟩] : List Ag).flatMap agC) 55 rfl (by decide)), (fun h hm => by cases hm), (fun a hm => by simp only [List.mem_cons, List.not_mem_nil, or_false] at hm; subst hm; show okV 2; unfold okV; omega)⟩
  have hqup2 : GQ.qu (⟨(leafX 1 1 1 0 [120]), 5, .slice none 0 0, [], .slice (some ⟨w41.heap.size, 0, none⟩) 1 1, [⟨2, [121]⟩]⟩ : GQ) = (⟨(leafNd 1 1 1 0 [120]), 5, [], [⟨2, [121]⟩]⟩ : Qu) := by unfold GQ.qu; simp only [leafX_nd]
  have hnup2 : ∀ s ∈ useL (⟨(leafNd 1 1 1 0 [120]), 5, [], [⟨2, [121]⟩]⟩ : Qu), s.length ≤ maxLen := by intro s hs; rw [show useL (⟨(leafNd 1 1 1 0 [120]), 5, [], [⟨2, [121]⟩]⟩ : Qu) = [[121]] from rfl] at hs; simp only [List.mem_cons, List.not_mem_nil, or_false] at hs; subst hs <;> (unfold maxLen; simp)
  have hvp2_0 : wfE (⟨(leafNd 1 1 1 0 [120]), 5, [], [⟨2, [121]⟩]⟩ : Qu) = 12 := by decide +kernel
  have Fp2 := wcheck_any (⟨(leafX 1 1 1 0 [120]), 5, .slice none 0 0, [], .slice (some ⟨w41.heap.size, 0, none⟩) 1 1, [⟨2, [121]⟩]⟩ : GQ)  (w41.alloc (.cells (([⟨2, [121]⟩] : List Ag).flatMap agC).toArray 55)) hqwp2 (by simp [leafX, subsT, subsTL]) (hG.later (bstep (bstep (bstep (bstep (bstep (bstep (bstep (bstep (bstep (bstep (bstep (bstep (bstep (bstep (bstep (bstep (bstep (bstep (bstep (bstep (bstep (bstep (bstep (bstep (bstep (bstep (bstep (bstep (bstep (bstep (bstep (bstep (bstep (bstep (bstep (bstep (bstep hb1 hb3) hb4) hb5) (b1 _ _)) hb6) hb7) (b1 _ _)) hb8) hb10) hb11) hb12) hb13) hb14) (b1 _ _)) hb15) hb17) hb18) hb19) (b1 _ _)) hb20) hb22) hb23) hb25) hb26) hb28) hb29) hb31) hb32) hb34) hb35) hb36) hb37) (b1 _ _)) hb38) hb40) hb41) (b1 _ _))) (by rw [hqup2]; exact hnup2)
  rw [hqup2, hvp2_0] at Fp2
  simp only [GQ.row, leafX, Tr.row, strOf, List.cons_append, List.nil_append] at Fp2
  clear hqwp2 hqup2 hnup2 hvp2_0
  refine (Fp2).mono ?_
  rintro e w43 ⟨rfl, hb43⟩
  clear Fp2
  go_wp2_with fail
  refine (namedL 0 [120] _).mono ?_
  rintro e w44 ⟨rfl, hb44⟩
  go_wp2_with fail
  refine (letterL 1 _).mono ?_
  rintro e w45 ⟨rfl, hb45⟩
  go_wp2_with fail
  refine (namedL 2 [121] _).mono ?_
  rintro e w46 ⟨rfl, hb46⟩
  go_wp2_with fail
  refine (seqL (some ⟨w46.heap.size, 0, none⟩) 3 3 [(leafX 1 1 1 0 [120]), (leafX 1 1 1 1 []), (leafX 1 1 1 2 [121])] _).mono ?_
  rintro e w47 ⟨rfl, hb47⟩
  go_wp2_with fail
  have hbox := Bx.new w47 [.int .i64 3, .int .i64 0, .int .i64 0, .int .i64 0, .bool false, .int .u64 0, .slice none 0 0, .string ⟨#[]⟩, .slice (some ⟨w46.heap.size, 0, none⟩) 3 3, .int .u64 5, .slice none 0 0, .slice none 0 0] 34
  have hqwn1 : QW (w47.alloc (.cells #[.int .i64 3, .int .i64 0, .int .i64 0, .int .i64 0, .bool false, .int .u64 0, .slice none 0 0, .string ⟨#[]⟩, .slice (some ⟨w46.heap.size, 0, none⟩) 3 3, .int .u64 5, .slice none 0 0, .slice none 0 0] 34)) (⟨(kidsX 3 (.slice (some ⟨w46.heap.size, 0, none⟩) 3 3) [(leafX 1 1 1 0 [120]), (leafX 1 1 1 1 []), (leafX 1 1 1 2 [121])]), 5, .slice none 0 0, [], .slice none 0 0, []⟩ : GQ) := ⟨(kidsX_tr (w := (w47.alloc (.cells #[.int .i64 3, .int .i64 0, .int .i64 0, .int .i64 0, .bool false, .int .u64 0, .slice none 0 0, .string ⟨#[]⟩, .slice (some ⟨w46.heap.size, 0, none⟩) 3 3, .int .u64 5, .slice none 0 0, .slice none 0 0] 34))) (k := 3) (v := (.slice (some ⟨w46.heap.size, 0, none⟩) 3 3)) (ts := [(leafX 1 1 1 0 [120]), (leafX 1 1 1 1 []), (leafX 1 1 1 2 [121])]) (by unfold okV; omega) ((sl_fresh w46 3 9 ([(leafX 1 1 1 0 [120]), (leafX 1 1 1 1 []), (leafX 1 1 1 2 [121])].flatMap Tr.row) 30 rfl (by decide)).later (bstep hb47 (b1 _ _))) (kids_of3 (leafX_tr 1 1 1 0 [120] _ (by unfold okV; omega) (by unfold okV; omega) (by unfold okV; omega) (by unfold okV; omega) (by unfold maxLen; simp)) (leafX_tr 1 1 1 1 [] _ (by unfold okV; omega) (by unfold okV; omega) (by unfold okV; omega) (by unfold okV; omega) (by unfold maxLen; simp)) (leafX_tr 1 1 1 2 [121] _ (by unfold okV; omega) (by unfold okV; omega) (by unfold okV; omega) (by unfold okV; omega) (by unfold maxLen; simp)))), (by show (0 : Int) ≤ 5 ∧ (5 : Int) < 18446744073709551616; decide), Sl.nil _ _, Sl.nil _ _, (fun h hm => by cases hm), (fun h hm => by cases hm)⟩
  have hqun1 : GQ.qu (⟨(kidsX 3 (.slice (some ⟨w46.heap.size, 0, none⟩) 3 3) [(leafX 1 1 1 0 [120]), (leafX 1 1 1 1 []), (leafX 1 1 1 2 [121])]), 5, .slice none 0 0, [], .slice none 0 0, []⟩ : GQ) = (⟨(kidsNd 3 [(leafNd 1 1 1 0 [120]), (leafNd 1 1 1 1 []), (leafNd 1 1 1 2 [121])]), 5, [], []⟩ : Qu) := by unfold GQ.qu; simp only [kidsX_nd, leafX_nd, List.map]
  have hnun1 : ∀ s ∈ useL (⟨(kidsNd 3 [(leafNd 1 1 1 0 [120]), (leafNd 1 1 1 1 []), (leafNd 1 1 1 2 [121])]), 5, [], []⟩ : Qu), s.length ≤ maxLen := by intro s hs; rw [show useL (⟨(kidsNd 3 [(leafNd 1 1 1 0 [120]), (leafNd 1 1 1 1 []), (leafNd 1 1 1 2 [121])]), 5, [], []⟩ : Qu) = [] from rfl] at hs; cases hs
  have hvn1_0 : namesL (⟨(kidsNd 3 [(leafNd 1 1 1 0 [120]), (leafNd 1 1 1 1 []), (leafNd 1 1 1 2 [121])]), 5, [], []⟩ : Qu) = [[120], [121]] := by decide +kernel
  have hvn1_1 : wfE (⟨(kidsNd 3 [(leafNd 1 1 1 0 [120]), (leafNd 1 1 1 1 []), (leafNd 1 1 1 2 [121])]), 5, [], []⟩ : Qu) = 0 := by decide +kernel
  have Fn1 := wNames_any (⟨(kidsX 3 (.slice (some ⟨w46.heap.size, 0, none⟩) 3 3) [(leafX 1 1 1 0 [120]), (leafX 1 1 1 1 []), (leafX 1 1 1 2 [121])]), 5, .slice none 0 0, [], .slice none 0 0, []⟩ : GQ)  (w47.alloc (.cells #[.int .i64 3, .int .i64 0, .int .i64 0, .int .i64 0, .bool false, .int .u64 0, .slice none 0 0, .string ⟨#[]⟩, .slice (some ⟨w46.heap.size, 0, none⟩) 3 3, .int .u64 5, .slice none 0 0, .slice none 0 0] 34)) hqwn1 (by simp [kidsX, leafX, subsT, subsTL]) (hG.later (bstep (bstep (bstep (bstep (bstep (bstep (bstep (bstep (bstep (bstep (bstep (bstep (bstep (bstep (bstep (bstep (bstep (bstep (bstep (bstep (bstep (bstep (bstep (bstep (bstep (bstep (bstep (bstep (bstep (bstep (bstep (bstep (bstep (bstep (bstep (bstep (bstep (bstep (bstep (bstep (bstep (bstep (bstep (bstep hb1 hb3) hb4) hb5) (b1 _ _)) hb6) hb7) (b1 _ _)) hb8) hb10) hb11) hb12) hb13) hb14) (b1 _ _)) hb15) hb17) hb18) hb19) (b1 _ _)) hb20) hb22) hb23) hb25) hb26) hb28) hb29) hb31) hb32) hb34) hb35) hb36) hb37) (b1 _ _)) hb38) hb40) hb41) (b1 _ _)) hb43) hb44) hb45) hb46) (b1 _ _)) hb47) (b1 _ _))) (by rw [hqun1]; exact hnun1)
  rw [hqun1, hvn1_0, hvn1_1] at Fn1
  simp only [GQ.row, kidsX, Tr.row, strOf, List.cons_append, List.nil_append] at Fn1
  clear hqwn1 hqun1 hnun1 hvn1_0 hvn1_1
  refine (Fn1).mono ?_
  rintro e w49 ⟨vN, rfl, hownN, hb49⟩
  clear Fn1
  obtain ⟨AN, cN, rfl⟩ := own_form hownN
  have hbq := (hbox.later hb49).blk
  have c0 := hbq.cell 0 _ rfl
  have c1 := hbq.cell 1 _ rfl
  have c2 := hbq.cell 2 _ rfl
  have c3 := hbq.cell 3 _ rfl
  have c4 := hbq.cell 4 _ rfl
  have c5 := hbq.cell 5 _ rfl
  have c6 := hbq.cell 6 _ rfl
  have c7 := hbq.cell 7 _ rfl
  have c8 := hbq.cell 8 _ rfl
  have c9 := hbq.cell 9 _ rfl
  have c10 := hbq.cell 10 _ rfl
  have c11 := hbq.cell 11 _ rfl
  skip
  clear hbq
  go_wp2_with fail
  have hqwn2 : QW w49 (⟨(kidsX 3 (.slice (some ⟨w46.heap.size, 0, none⟩) 3 3) [(leafX 1 1 1 0 [120]), (leafX 1 1 1 1 []), (leafX 1 1 1 2 [121])]), 5, .slice none 0 0, [], .slice none 0 0, []⟩ : GQ) := ⟨(kidsX_tr (w := w49) (k := 3) (v := (.slice (some ⟨w46.heap.size, 0, none⟩) 3 3)) (ts := [(leafX 1 1 1 0 [120]), (leafX 1 1 1 1 []), (leafX 1 1 1 2 [121])]) (by unfold okV; omega) ((sl_fresh w46 3 9 ([(leafX 1 1 1 0 [120]), (leafX 1 1 1 1 []), (leafX 1 1 1 2 [121])].flatMap Tr.row) 30 rfl (by decide)).later (bstep (bstep hb47 (b1 _ _)) hb49)) (kids_of3 (leafX_tr 1 1 1 0 [120] _ (by unfold okV; omega) (by unfold okV; omega) (by unfold okV; omega) (by unfold okV; omega) (by unfold maxLen; simp)) (leafX_tr 1 1 1 1 [] _ (by unfold okV; omega) (by unfold okV; omega) (by unfold okV; omega) (by unfold okV; omega) (by unfold maxLen; simp)) (leafX_tr 1 1 1 2 [121] _ (by unfold okV; omega) (by unfold okV; omega) (by unfold okV; omega) (by unfold okV; omega) (by unfold maxLen; simp)))), (by show (0 : Int) ≤ 5 ∧ (5 : Int) < 18446744073709551616; decide), Sl.nil _ _, Sl.nil _ _, (fun h hm => by cases hm), (fun h hm => by cases hm)⟩
  have hqun2 : GQ.qu (⟨(kidsX 3 (.slice (some ⟨w46.heap.size, 0, none⟩) 3 3) [(leafX 1 1 1 0 [120]), (leafX 1 1 1 1 []), (leafX 1 1 1 2 [121])]), 5, .slice none 0 0, [], .slice none 0 0, []⟩ : GQ) = (⟨(kidsNd 3 [(leafNd 1 1 1 0 [120]), (leafNd 1 1 1 1 []), (leafNd 1 1 1 2 [121])]), 5, [], []⟩ : Qu) := by unfold GQ.qu; simp only [kidsX_nd, leafX_nd, List.map]
  have hnun2 : ∀ s ∈ useL (⟨(kidsNd 3 [(leafNd 1 1 1 0 [120]), (leafNd 1 1 1 1 []), (leafNd 1 1 1 2 [121])]), 5, [], []⟩ : Qu), s.length ≤ maxLen := by intro s hs; rw [show useL (⟨(kidsNd 3 [(leafNd 1 1 1 0 [120]), (leafNd 1 1 1 1 []), (leafNd 1 1 1 2 [121])]), 5, [], []⟩ : Qu) = [] from rfl] at hs; cases hs
  have hvn2_0 : namedI (⟨(kidsNd 3 [(leafNd 1 1 1 0 [120]), (leafNd 1 1 1 1 []), (leafNd 1 1 1 2 [121])]), 5, [], []⟩ : Qu) [121] = 2 := by decide +kernel
  have hvn2_1 : namedE (⟨(kidsNd 3 [(leafNd 1 1 1 0 [120]), (leafNd 1 1 1 1 []), (leafNd 1 1 1 2 [121])]), 5, [], []⟩ : Qu) [121] = 0 := by decide +kernel
  have Fn2 := wNamed_any (⟨(kidsX 3 (.slice (some ⟨w46.heap.size, 0, none⟩) 3 3) [(leafX 1 1 1 0 [120]), (leafX 1 1 1 1 []), (leafX 1 1 1 2 [121])]), 5, .slice none 0 0, [], .slice none 0 0, []⟩ : GQ) [121] w49 hqwn2 (by simp [kidsX, leafX, subsT, subsTL]) (hG.later (bstep (bstep (bstep (bstep (bstep (bstep (bstep (bstep (bstep (bstep (bstep (bstep (bstep (bstep (bstep (bstep (bstep (bstep (bstep (bstep (bstep (bstep (bstep (bstep (bstep (bstep (bstep (bstep (bstep (bstep (bstep (bstep (bstep (bstep (bstep (bstep (bstep (bstep (bstep (bstep (bstep (bstep (bstep (bstep (bstep hb1 hb3) hb4) hb5) (b1 _ _)) hb6) hb7) (b1 _ _)) hb8) hb10) hb11) hb12) hb13) hb14) (b1 _ _)) hb15) hb17) hb18) hb19) (b1 _ _)) hb20) hb22) hb23) hb25) hb26) hb28) hb29) hb31) hb32) hb34) hb35) hb36) hb37) (b1 _ _)) hb38) hb40) hb41) (b1 _ _)) hb43) hb44) hb45) hb46) (b1 _ _)) hb47) (b1 _ _)) hb49)) (by rw [hqun2]; exact hnun2) (by unfold maxLen; simp)
  rw [hqun2, hvn2_0, hvn2_1] at Fn2
  simp only [GQ.row, kidsX, Tr.row, strOf, List.cons_append, List.nil_append] at Fn2
  clear hqwn2 hqun2 hnun2 hvn2_0 hvn2_1
  refine (Fn2).mono ?_
  rintro e w51 ⟨rfl, hb51⟩
  clear Fn2
  clear c0 c1 c2 c3 c4 c5 c6 c7 c8 c9 c10 c11
  have hbq := (hbox.later (bstep hb49 hb51)).blk
  have c0 := hbq.cell 0 _ rfl
  have c1 := hbq.cell 1 _ rfl
  have c2 := hbq.cell 2 _ rfl
  have c3 := hbq.cell 3 _ rfl
  have c4 := hbq.cell 4 _ rfl
  have c5 := hbq.cell 5 _ rfl
  have c6 := hbq.cell 6 _ rfl
  have c7 := hbq.cell 7 _ rfl
  have c8 := hbq.cell 8 _ rfl
  have c9 := hbq.cell 9 _ rfl
  have c10 := hbq.cell 10 _ rfl
  have c11 := hbq.cell 11 _ rfl
  skip
  clear hbq
  go_wp2_with fail
  have hqwn3 : QW w51 (⟨(kidsX 3 (.slice (some ⟨w46.heap.size, 0, none⟩) 3 3) [(leafX 1 1 1 0 [120]), (leafX 1 1 1 1 []), (leafX 1 1 1 2 [121])]), 5, .slice none 0 0, [], .slice none 0 0, []⟩ : GQ) := ⟨(kidsX_tr (w := w51) (k := 3) (v := (.slice (some ⟨w46.heap.size, 0, none⟩) 3 3)) (ts := [(leafX 1 1 1 0 [120]), (leafX 1 1 1 1 []), (leafX 1 1 1 2 [121])]) (by unfold okV; omega) ((sl_fresh w46 3 9 ([(leafX 1 1 1 0 [120]), (leafX 1 1 1 1 []), (leafX 1 1 1 2 [121])].flatMap Tr.row) 30 rfl (by decide)).later (bstep (bstep (bstep hb47 (b1 _ _)) hb49) hb51)) (kids_of3 (leafX_tr 1 1 1 0 [120] _ (by unfold okV; omega) (by unfold okV; omega) (by unfold okV; omega) (by unfold okV; omega) (by unfold maxLen; simp)) (leafX_tr 1 1 1 1 [] _ (by unfold okV; omega) (by unfold okV; omega) (by unfold okV; omega) (by unfold okV; omega) (by unfold maxLen; simp)) (leafX_tr 1 1 1 2 [121] _ (by unfold okV; omega) (by unfold okV; omega) (by unfold okV; omega) (by unfold okV; omega) (by unfold maxLen; simp)))), (by show (0 : Int) ≤ 5 ∧ (5 : Int) < 18446744073709551616; decide), Sl.nil _ _, Sl.nil _ _, (fun h hm => by cases hm), (fun h hm => by cases hm)⟩
  have hqun3 : GQ.qu (⟨(kidsX 3 (.slice (some ⟨w46.heap.size, 0, none⟩) 3 3) [(leafX 1 1 1 0 [120]), (leafX 1 1 1 1 []), (leafX 1 1 1 2 [121])]), 5, .slice none 0 0, [], .slice none 0 0, []⟩ : GQ) = (⟨(kidsNd 3 [(leafNd 1 1 1 0 [120]), (leafNd 1 1 1 1 []), (leafNd 1 1 1 2 [121])]), 5, [], []⟩ : Qu) := by unfold GQ.qu; simp only [kidsX_nd, leafX_nd, List.map]
  have hnun3 : ∀ s ∈ useL (⟨(kidsNd 3 [(leafNd 1 1 1 0 [120]), (leafNd 1 1 1 1 []), (leafNd 1 1 1 2 [121])]), 5, [], []⟩ : Qu), s.length ≤ maxLen := by intro s hs; rw [show useL (⟨(kidsNd 3 [(leafNd 1 1 1 0 [120]), (leafNd 1 1 1 1 []), (leafNd 1 1 1 2 [121])]), 5, [], []⟩ : Qu) = [] from rfl] at hs; cases hs
  have hvn3_0 : roomA (⟨(kidsNd 3 [(leafNd 1 1 1 0 [120]), (leafNd 1 1 1 1 []), (leafNd 1 1 1 2 [121])]), 5, [], []⟩ : Qu) = 3 := by decide +kernel
  have hvn3_1 : roomD (⟨(kidsNd 3 [(leafNd 1 1 1 0 [120]), (leafNd 1 1 1 1 []), (leafNd 1 1 1 2 [121])]), 5, [], []⟩ : Qu) = 2 := by decide +kernel
  have hvn3_2 : wfE (⟨(kidsNd 3 [(leafNd 1 1 1 0 [120]), (leafNd 1 1 1 1 []), (leafNd 1 1 1 2 [121])]), 5, [], []⟩ : Qu) = 0 := by decide +kernel
  have Fn3 := wRoom_any (⟨(kidsX 3 (.slice (some ⟨w46.heap.size, 0, none⟩) 3 3) [(leafX 1 1 1 0 [120]), (leafX 1 1 1 1 []), (leafX 1 1 1 2 [121])]), 5, .slice none 0 0, [], .slice none 0 0, []⟩ : GQ)  w51 hqwn3 (by simp [kidsX, leafX, subsT, subsTL]) (hG.later (bstep (bstep (bstep (bstep (bstep (bstep (bstep (bstep (bstep (bstep (bstep (bstep (bstep (bstep (bstep (bstep (bstep (bstep (bstep (bstep (bstep (bstep (bstep (bstep (bstep (bstep (bstep (bstep (bstep (bstep (bstep (bstep (bstep (bstep (bstep (bstep (bstep (bstep (bstep (bstep (bstep (bstep (bstep (bstep (bstep (bstep hb1 hb3) hb4) hb5) (b1 _ _)) hb6) hb7) (b1 _ _)) hb8) hb10) hb11) hb12) hb13) hb14) (b1 _ _)) hb15) hb17) hb18) hb19) (b1 _ _)) hb20) hb22) hb23) hb25) hb26) hb28) hb29) hb31) hb32) hb34) hb35) hb36) hb37) (b1 _ _)) hb38) hb40) hb41) (b1 _ _)) hb43) hb44) hb45) hb46) (b1 _ _)) hb47) (b1 _ _)) hb49) hb51)) (by rw [hqun3]; exact hnun3)
  rw [hqun3, hvn3_0, hvn3_1, hvn3_2] at Fn3
  simp only [GQ.row, kidsX, Tr.row, strOf, List.cons_append, List.nil_append] at Fn3
  clear hqwn3 hqun3 hnun3 hvn3_0 hvn3_1 hvn3_2
  refine (Fn3).mono ?_
  rintro e w53 ⟨rfl, hb53⟩
  clear Fn3; clear c0 c1 c2 c3 c4 c5 c6 c7 c8 c9 c10 c11
  go_wp2_with fail
  refine (namedL 0 [120] _).mono ?_
  rintro e w54 ⟨rfl, hb54⟩
  go_wp2_with fail
  refine (namedL 1 [121] _).mono ?_
  rintro e w55 ⟨rfl, hb55⟩
  go_wp2_with fail
  refine (seqL (some ⟨w55.heap.size, 0, none⟩) 2 2 [(leafX 1 1 1 0 [120]), (leafX 1 1 1 1 [121])] _).mono ?_
  rintro e w56 ⟨rfl, hb56⟩
  have hbq := (hbox.later (bstep (bstep (bstep (bstep (bstep (bstep hb49 hb51) hb53) hb54) hb55) (b1 _ _)) hb56)).blk
  have c0 := hbq.cell 0 _ rfl
  have f0 := hbq.fr 0 _ rfl
  have c1 := hbq.cell 1 _ rfl
  have f1 := hbq.fr 1 _ rfl
  have c2 := hbq.cell 2 _ rfl
  have f2 := hbq.fr 2 _ rfl
  have c3 := hbq.cell 3 _ rfl
  have f3 := hbq.fr 3 _ rfl
  have c4 := hbq.cell 4 _ rfl
  have f4 := hbq.fr 4 _ rfl
  have c5 := hbq.cell 5 _ rfl
  have f5 := hbq.fr 5 _ rfl
  have c6 := hbq.cell 6 _ rfl
  have f6 := hbq.fr 6 _ rfl
  have c7 := hbq.cell 7 _ rfl
  have f7 := hbq.fr 7 _ rfl
  have c8 := hbq.cell 8 _ rfl
  have f8 := hbq.fr 8 _ rfl
  have c9 := hbq.cell 9 _ rfl
  have f9 := hbq.fr 9 _ rfl
  have c10 := hbq.cell 10 _ rfl
  have f10 := hbq.fr 10 _ rfl
  have c11 := hbq.cell 11 _ rfl
  have f11 := hbq.fr 11 _ rfl
  have clt := hbq.lt
  clear hbq
  go_upto_region 9 with fail
  refine named_wp ?_
  intro W9 hW9
  obtain ⟨X9, hX9⟩ : ∃ X9, X9 = ((((((((((((w56.setCell ⟨w47.heap.size, 0, none⟩ (.int .i64 3)).setCell ⟨w47.heap.size, 1, none⟩ (.int .i64 0)).setCell ⟨w47.heap.size, 2, none⟩ (.int .i64 0)).setCell ⟨w47.heap.size, 3, none⟩ (.int .i64 0)).setCell ⟨w47.heap.size, 4, none⟩ (.bool false)).setCell ⟨w47.heap.size, 5, none⟩ (.int .u64 0)).setCell ⟨w47.heap.size, 6, none⟩ (.slice none 0 0)).setCell ⟨w47.heap.size, 7, none⟩ (.string ⟨#[]⟩)).setCell ⟨w47.heap.size, 8, none⟩ (.slice (some ⟨w55.heap.size, 0, none⟩) 2 2)).setCell ⟨w47.heap.size, 9, none⟩ (.int .u64 5)).setCell ⟨w47.heap.size, 10, none⟩ (.slice (some ⟨w56.heap.size, 0, none⟩) 1 1)).setCell ⟨w47.heap.size, 11, none⟩ (.slice (some ⟨w56.heap.size + 1, 0, none⟩) 2 2)) := ⟨_, rfl⟩
  rw [← hX9] at hW9
  clear c0 f0 c1 f1 c2 f2 c3 f3 c4 f4 c5 f5 c6 f6 c7 f7 c8 f8 c9 f9 c10 f10 c11 f11
  have hxq : Bx w56 w47.heap.size 34 _ := hbox.later (bstep (bstep (bstep (bstep (bstep (bstep hb49 hb51) hb53) hb54) hb55) (b1 _ _)) hb56)
  have hgX : w56.grownBy X9 (some w47.heap.size) := by
    rw [hX9]; exact (grown_set10 (grown_set10 (grown_set10 (grown_set10 (grown_set10 (grown_set10 (grown_set10 (grown_set10 (grown_set10 (grown_set10 (grown_set10 (grown_set10 (grown_id _ _) 0 _) 1 _) 2 _) 3 _) 4 _) 5 _) 6 _) 7 _) 8 _) 9 _) 10 _) 11 _)
  have hsX : X9.heap.size = w56.heap.size := by rw [hX9]; simp [World.setCell]
  have hbk : Blk X9 w47.heap.size [.int .i64 3, .int .i64 0, .int .i64 0, .int .i64 0, .bool false, .int .u64 0, .slice none 0 0, .string ⟨#[]⟩, .slice (some ⟨w55.heap.size, 0, none⟩) 2 2, .int .u64 5, .slice (some ⟨w56.heap.size, 0, none⟩) 1 1, .slice (some ⟨w56.heap.size + 1, 0, none⟩) 2 2] := by rw [hX9]; exact ((((((((((((hxq.blk.set 0 _).set 1 _).set 2 _).set 3 _).set 4 _).set 5 _).set 6 _).set 7 _).set 8 _).set 9 _).set 10 _).set 11 _)
  have hlow := (bstep (bstep (bstep (bstep (bstep (bstep (bstep (bstep (bstep (bstep (bstep (bstep (bstep (bstep (bstep (bstep (bstep (bstep (bstep (bstep (bstep (bstep (bstep (bstep (bstep (bstep (bstep (bstep (bstep (bstep (bstep (bstep (bstep (bstep (bstep (bstep (bstep (bstep (bstep (bstep (bstep (bstep (bstep hb1 hb3) hb4) hb5) (b1 _ _)) hb6) hb7) (b1 _ _)) hb8) hb10) hb11) hb12) hb13) hb14) (b1 _ _)) hb15) hb17) hb18) hb19) (b1 _ _)) hb20) hb22) hb23) hb25) hb26) hb28) hb29) hb31) hb32) hb34) hb35) hb36) hb37) (b1 _ _)) hb38) hb40) hb41) (b1 _ _)) hb43) hb44) hb45) hb46) (b1 _ _)) hb47)
  have hBX : Below w.heap.size w X9 := by rw [hX9]; exact (((((((((((((bstep (bstep (bstep (bstep (bstep (bstep (bstep (bstep (bstep (bstep (bstep (bstep (bstep (bstep (bstep (bstep (bstep (bstep (bstep (bstep (bstep (bstep (bstep (bstep (bstep (bstep (bstep (bstep (bstep (bstep (bstep (bstep (bstep (bstep (bstep (bstep (bstep (bstep (bstep (bstep (bstep (bstep (bstep (bstep (bstep (bstep (bstep (bstep (bstep (bstep (bstep hb1 hb3) hb4) hb5) (b1 _ _)) hb6) hb7) (b1 _ _)) hb8) hb10) hb11) hb12) hb13) hb14) (b1 _ _)) hb15) hb17) hb18) hb19) (b1 _ _)) hb20) hb22) hb23) hb25) hb26) hb28) hb29) hb31) hb32) hb34) hb35) hb36) hb37) (b1 _ _)) hb38) hb40) hb41) (b1 _ _)) hb43) hb44) hb45) hb46) (b1 _ _)) hb47) (b1 _ _)) hb49) hb51) hb53) hb54) hb55) (b1 _ _)) hb56).setCell (p := ⟨w47.heap.size, 0, none⟩) hlow.size _).setCell (p := ⟨w47.heap.size, 1, none⟩) hlow.size _).setCell (p := ⟨w47.heap.size, 2, none⟩) hlow.size _).setCell (p := ⟨w47.heap.size, 3, none⟩) hlow.size _).setCell (p := ⟨w47.heap.size, 4, none⟩) hlow.size _).setCell (p := ⟨w47.heap.size, 5, none⟩) hlow.size _).setCell (p := ⟨w47.heap.size, 6, none⟩) hlow.size _).setCell (p := ⟨w47.heap.size, 7, none⟩) hlow.size _).setCell (p := ⟨w47.heap.size, 8, none⟩) hlow.size _).setCell (p := ⟨w47.heap.size, 9, none⟩) hlow.size _).setCell (p := ⟨w47.heap.size, 10, none⟩) hlow.size _).setCell (p := ⟨w47.heap.size, 11, none⟩) hlow.size _)
  clear hX9
  have hB9 : Below w.heap.size w W9 := hW9 ▸ bstep hBX (b2 _ _ _)
  have hk9 : Blk W9 w47.heap.size [.int .i64 3, .int .i64 0, .int .i64 0, .int .i64 0, .bool false, .int .u64 0, .slice none 0 0, .string ⟨#[]⟩, .slice (some ⟨w55.heap.size, 0, none⟩) 2 2, .int .u64 5, .slice (some ⟨w56.heap.size, 0, none⟩) 1 1, .slice (some ⟨w56.heap.size + 1, 0, none⟩) 2 2] := hW9 ▸ (hbk.later (b1 _ _)).later (b1 _ _)
  have hG9 := hG.later hB9
  have hs55 := (sl_fresh w55 2 9 ([(leafX 1 1 1 0 [120]), (leafX 1 1 1 1 [121])].flatMap Tr.row) 30 rfl (by decide)).later hb56
  have hlt55 : w47.heap.size < w55.heap.size := (hbox.later (bstep (bstep (bstep (bstep hb49 hb51) hb53) hb54) hb55)).lt
  have hs9 : Sl W9 9 2 (.slice (some ⟨w55.heap.size, 0, none⟩) 2 2) ([(leafX 1 1 1 0 [120]), (leafX 1 1 1 1 [121])].flatMap Tr.row) := hW9 ▸ ((sl_but hs55 hgX (by simp; omega)).later (b1 _ _)).later (b1 _ _)
  have hh9 : Sl W9 4 1 (.slice (some ⟨w56.heap.size, 0, none⟩) 1 1) (([⟨⟨2, [121]⟩, ⟨5, 1⟩⟩] : List Hv).flatMap hvC) := by rw [← hsX, hW9]; exact (sl_fresh X9 1 4 (([⟨⟨2, [121]⟩, ⟨5, 1⟩⟩] : List Hv).flatMap hvC) 61 rfl (by decide)).later (b1 _ _)
  have he9 : Sl W9 2 2 (.slice (some ⟨w56.heap.size + 1, 0, none⟩) 2 2) (([⟨3, [120]⟩, ⟨4, [121]⟩] : List Ag).flatMap agC) := by
    have h := sl_fresh (X9.alloc (.cells #[.int .i64 2, .string ⟨#[121]⟩, .int .i64 5, .int .i64 1] 61)) 2 2 (([⟨3, [120]⟩, ⟨4, [121]⟩] : List Ag).flatMap agC) 55 rfl (by decide)
    rw [World.size_alloc, hsX] at h; rw [hW9]; exact h
  have hN56 := own_later hownN (bstep (bstep (bstep (bstep (bstep hb51 hb53) hb54) hb55) (b1 _ _)) hb56)
  have hN9 := own_later (hN56.kept hgX (.inr (own_ne hN56 hxq (by decide)))) (hW9 ▸ b2 _ _ _ : Below X9.heap.size X9 W9)
  have hu9 := Slc.of_own hN9
  clear hW9 hgX hbk hs55 hN56 hN9 hownN hbox hxq hBX hlow hsX hlt55
  have htr9 : TrW W9 (kidsX 3 (.slice (some ⟨w55.heap.size, 0, none⟩) 2 2) [(leafX 1 1 1 0 [120]), (leafX 1 1 1 1 [121])]) := kidsX_tr (by unfold okV; omega) hs9 (kids_of2 (leafX_tr 1 1 1 0 [120] _ (by unfold okV; omega) (by unfold okV; omega) (by unfold okV; omega) (by unfold okV; omega) (by unfold maxLen; simp)) (leafX_tr 1 1 1 1 [121] _ (by unfold okV; omega) (by unfold okV; omega) (by unfold okV; omega) (by unfold okV; omega) (by unfold maxLen; simp)))
  have hqw9 : QW W9 (⟨(kidsX 3 (.slice (some ⟨w55.heap.size, 0, none⟩) 2 2) [(leafX 1 1 1 0 [120]), (leafX 1 1 1 1 [121])]), 5, .slice (some ⟨w56.heap.size, 0, none⟩) 1 1, [⟨⟨2, [121]⟩, ⟨5, 1⟩⟩], .slice (some ⟨w56.heap.size + 1, 0, none⟩) 2 2, [⟨3, [120]⟩, ⟨4, [121]⟩]⟩ : GQ) := ⟨htr9, (by show (0 : Int) ≤ 5 ∧ (5 : Int) < 18446744073709551616; decide), hh9, he9, (fun h hm => by simp only [List.mem_cons, List.not_mem_nil, or_false] at hm; subst hm; exact ⟨⟨(show okV 5 from by unfold okV; omega), (show okV 1 from by unfold okV; omega)⟩, (show okV 2 from by unfold okV; omega)⟩), (fun h hm => by simp only [List.mem_cons, List.not_mem_nil, or_false] at hm; rcases hm with rfl | rfl; exact (show okV 3 from by unfold okV; omega); exact (show okV 4 from by unfold okV; omega))⟩
  have hqu9 : GQ.qu (⟨(kidsX 3 (.slice (some ⟨w55.heap.size, 0, none⟩) 2 2) [(leafX 1 1 1 0 [120]), (leafX 1 1 1 1 [121])]), 5, .slice (some ⟨w56.heap.size, 0, none⟩) 1 1, [⟨⟨2, [121]⟩, ⟨5, 1⟩⟩], .slice (some ⟨w56.heap.size + 1, 0, none⟩) 2 2, [⟨3, [120]⟩, ⟨4, [121]⟩]⟩ : GQ) = (⟨(kidsNd 3 [(leafNd 1 1 1 0 [120]), (leafNd 1 1 1 1 [121])]), 5, [⟨⟨2, [121]⟩, ⟨5, 1⟩⟩], [⟨3, [120]⟩, ⟨4, [121]⟩]⟩ : Qu) := by unfold GQ.qu; simp only [kidsX_nd, leafX_nd, List.map]
  have hnu9 : ∀ s ∈ useL (⟨(kidsNd 3 [(leafNd 1 1 1 0 [120]), (leafNd 1 1 1 1 [121])]), 5, [⟨⟨2, [121]⟩, ⟨5, 1⟩⟩], [⟨3, [120]⟩, ⟨4, [121]⟩]⟩ : Qu), s.length ≤ maxLen := by intro s hs; rw [show useL (⟨(kidsNd 3 [(leafNd 1 1 1 0 [120]), (leafNd 1 1 1 1 [121])]), 5, [⟨⟨2, [121]⟩, ⟨5, 1⟩⟩], [⟨3, [120]⟩, ⟨4, [121]⟩]⟩ : Qu) = [[121], [120], [121]] from rfl] at hs; simp only [List.mem_cons, List.not_mem_nil, or_false] at hs; rcases hs with rfl | rfl | rfl <;> (unfold maxLen; simp)
  have hv90 : usesL (⟨(kidsNd 3 [(leafNd 1 1 1 0 [120]), (leafNd 1 1 1 1 [121])]), 5, [⟨⟨2, [121]⟩, ⟨5, 1⟩⟩], [⟨3, [120]⟩, ⟨4, [121]⟩]⟩ : Qu) = [[121], [120]] := by decide +kernel
  have hv91 : wfE (⟨(kidsNd 3 [(leafNd 1 1 1 0 [120]), (leafNd 1 1 1 1 [121])]), 5, [⟨⟨2, [121]⟩, ⟨5, 1⟩⟩], [⟨3, [120]⟩, ⟨4, [121]⟩]⟩ : Qu) = 0 := by decide +kernel
  have F9 := wUses_any (⟨(kidsX 3 (.slice (some ⟨w55.heap.size, 0, none⟩) 2 2) [(leafX 1 1 1 0 [120]), (leafX 1 1 1 1 [121])]), 5, .slice (some ⟨w56.heap.size, 0, none⟩) 1 1, [⟨⟨2, [121]⟩, ⟨5, 1⟩⟩], .slice (some ⟨w56.heap.size + 1, 0, none⟩) 2 2, [⟨3, [120]⟩, ⟨4, [121]⟩]⟩ : GQ) W9 hqw9 (by simp [kidsX, leafX, subsT, subsTL]) hG9 (by rw [hqu9]; exact hnu9) (by rw [hqu9, show useL (⟨(kidsNd 3 [(leafNd 1 1 1 0 [120]), (leafNd 1 1 1 1 [121])]), 5, [⟨⟨2, [121]⟩, ⟨5, 1⟩⟩], [⟨3, [120]⟩, ⟨4, [121]⟩]⟩ : Qu) = [[121], [120], [121]] from rfl]; decide)
  rw [hqu9, hv90, hv91] at F9
  simp only [GQ.row, kidsX, Tr.row, strOf, List.cons_append, List.nil_append] at F9
  clear hqw9 hqu9 hnu9 hv90 hv91 htr9 hs9 hh9 he9
  have c0 := hk9.cell 0 _ rfl
  have c1 := hk9.cell 1 _ rfl
  have c2 := hk9.cell 2 _ rfl
  have c3 := hk9.cell 3 _ rfl
  have c4 := hk9.cell 4 _ rfl
  have c5 := hk9.cell 5 _ rfl
  have c6 := hk9.cell 6 _ rfl
  have c7 := hk9.cell 7 _ rfl
  have c8 := hk9.cell 8 _ rfl
  have c9 := hk9.cell 9 _ rfl
  have c10 := hk9.cell 10 _ rfl
  have c11 := hk9.cell 11 _ rfl
  clear hk9
  go_wp2_with fail
  refine (F9).mono ?_
  rintro e wy1 ⟨vU, rfl, hownU, hby1⟩
  clear F9
  obtain ⟨AU, cU, rfl⟩ := own_form hownU
  clear c0 c1 c2 c3 c4 c5 c6 c7 c8 c9 c10 c11
  go_wp2_with fail
  refine (wawake_any _ (hG9.later hby1)).mono ?_
  rintro e wy2 ⟨rfl, hby2⟩
  go_wp2_with fail
  have hu1 := (hu9.below (bstep hby1 hby2)).alloc (.cells #[.string ⟨#[120]⟩, .string ⟨#[121]⟩] 9)
  have hu2 := (Slc.of_own hownU).below hby2
  refine (sameTexts_same _ _ [⟨#[120]⟩, ⟨#[121]⟩] _ hu1 (Slc.lit wy2 _ 9 2 rfl (by decide))).mono ?_
  rintro e _ ⟨rfl, m1, rfl⟩
  go_wp2_with fail
  have hv2 := Slc.lit ((wy2.alloc (.cells #[.string ⟨#[120]⟩, .string ⟨#[121]⟩] 9)).drewN m1) [.string ⟨#[121]⟩, .string ⟨#[120]⟩] 9 2 rfl (by decide)
  have hz2 : ((wy2.alloc (.cells #[.string ⟨#[120]⟩, .string ⟨#[121]⟩] 9)).drewN m1).heap.size = wy2.heap.size + 1 := by simp
  rw [hz2] at hv2
  refine (sameTexts_same _ _ [⟨#[121]⟩, ⟨#[120]⟩] _ (((hu2.alloc (.cells #[.string ⟨#[120]⟩, .string ⟨#[121]⟩] 9)).drewN m1).alloc (.cells #[.string ⟨#[121]⟩, .string ⟨#[120]⟩] 9)) hv2).mono ?_
  rintro e _ ⟨rfl, m2, rfl⟩
  go_wp2_with fail
  go_ret
  exact ⟨rfl, below_drewN (bstep (below_drewN (bstep (bstep hB9 (bstep hby1 hby2)) (b1 _ _)) m1) (b1 _ _)) m2⟩
end Go.Proofs.YtmfcjaoajanlfaaGreatDoor
namespace Go.Proofs.YtmfcjaoajanlfaaGreatDoor
open Go.RowKit Go.Shelf Go.Maps
open A8 W10
attribute [local go_sem] Oper.semAt_some

def ltX (i : Nat) : Tr := leafX 1 1 1 ((i % 26 : Nat) : Int) []
def ltL (k : Nat) : List Tr := (List.range k).map ltX
def ltN (k : Nat) : List Nd := (List.range k).map fun i => leafNd 1 1 1 ((i % 26 : Nat) : Int) []
theorem ltL_len (k : Nat) : (ltL k).length = k := by unfold ltL; simp
theorem ltL_succ (k : Nat) : ltL (k + 1) = ltL k ++ [ltX k] := by unfold ltL; rw [List.range_succ, List.map_append]; rfl
theorem ltL_nd (k : Nat) : (ltL k).map Tr.nd = ltN k := by
  unfold ltL ltN
  rw [List.map_map]
  apply List.map_congr_left
  intro i _
  exact leafX_nd _ _ _ _ _
theorem ltX_tr (i : Nat) (w : World) : TrW w (ltX i) := leafX_tr 1 1 1 _ [] w (by unfold okV; omega) (by unfold okV; omega) (by unfold okV; omega) (by unfold okV; omega) (by unfold maxLen; simp)
theorem ltL_tr {k : Nat} {w : World} : ∀ t ∈ ltL k, TrW w t := by
  intro t ht
  unfold ltL at ht
  obtain ⟨i, -, rfl⟩ := List.mem_map.1 ht
  exact ltX_tr i w
def flatNd (n : Nat) : Nd := kidsNd 4 (ltN n)
def wideNd (n : Nat) : Nd := if n = 1 then leafNd 1 1 1 0 [] else if n ≤ 8 then flatNd n else kidsNd 3 [kidsNd 4 ((ltN n).take 7), kidsNd 4 ((ltN n).drop 7)]
def deepNd : Nat → Nd
  | 0 => leafNd 1 1 1 0 []
  | k + 1 => kidsNd 3 [deepNd k, leafNd 1 1 1 1 []]
theorem few_wide : ∀ n, n < 15 → 1 ≤ n → wfE ⟨wideNd n, 5, [], []⟩ = (if n ≤ 12 then 0 else 6) := by decide +kernel
theorem few_flat : ∀ n, n < 15 → 1 ≤ n → (n ≤ 8 → 1 < n → wfE ⟨flatNd n, 5, [], []⟩ = 0) ∧ (8 < n → (wfE ⟨flatNd n, 5, [], []⟩ == 0) = false) := by decide +kernel
theorem few_deep : ∀ n, n < 9 → wfE ⟨deepNd n, 5, [], []⟩ = (if n < 6 then 0 else 22) := by decide +kernel
theorem few_len : ∀ n, n < 15 → nodesN (wideNd n) ≤ 100 ∧ nodesN (flatNd n) ≤ 100 ∧ nodesN (deepNd n) ≤ 100 := by decide +kernel
/-- A node put into its box. -/
def put9 (W : World) (b : Nat) (v0 v1 v2 v3 v4 v5 v6 v7 v8 : Value) : World :=
  ((((((((W.setCell ⟨b, 0, none⟩ v0).setCell ⟨b, 1, none⟩ v1).setCell ⟨b, 2, none⟩ v2).setCell ⟨b, 3, none⟩ v3).setCell ⟨b, 4, none⟩ v4).setCell ⟨b, 5, none⟩ v5).setCell ⟨b, 6, none⟩ v6).setCell ⟨b, 7, none⟩ v7).setCell ⟨b, 8, none⟩ v8
theorem put9_blk {W : World} {b : Nat} {x0 x1 x2 x3 x4 x5 x6 x7 x8 : Value} (h : Blk W b [x0, x1, x2, x3, x4, x5, x6, x7, x8]) (v0 v1 v2 v3 v4 v5 v6 v7 v8 : Value) : Blk (put9 W b v0 v1 v2 v3 v4 v5 v6 v7 v8) b [v0, v1, v2, v3, v4, v5, v6, v7, v8] :=
  (((((((((h.set 0 v0).set 1 v1).set 2 v2).set 3 v3).set 4 v4).set 5 v5).set 6 v6).set 7 v7).set 8 v8)
theorem put9_grown (W : World) (b : Nat) (v0 v1 v2 v3 v4 v5 v6 v7 v8 : Value) : W.grownBy (put9 W b v0 v1 v2 v3 v4 v5 v6 v7 v8) (some b) :=
  grown_set10 (grown_set10 (grown_set10 (grown_set10 (grown_set10 (grown_set10 (grown_set10 (grown_set10 (grown_set10 (grown_id W b) 0 v0) 1 v1) 2 v2) 3 v3) 4 v4) 5 v5) 6 v6) 7 v7) 8 v8
theorem put9_below {w W : World} {m b : Nat} (h : Below m w W) (hb : m ≤ b) (v0 v1 v2 v3 v4 v5 v6 v7 v8 : Value) : Below m w (put9 W b v0 v1 v2 v3 v4 v5 v6 v7 v8) :=
  ((((((((h.setCell (p := ⟨b, 0, none⟩) hb _).setCell (p := ⟨b, 1, none⟩) hb _).setCell (p := ⟨b, 2, none⟩) hb _).setCell (p := ⟨b, 3, none⟩) hb _).setCell (p := ⟨b, 4, none⟩) hb _).setCell (p := ⟨b, 5, none⟩) hb _).setCell (p := ⟨b, 6, none⟩) hb _).setCell (p := ⟨b, 7, none⟩) hb _).setCell (p := ⟨b, 8, none⟩) hb _
theorem below_g {w W : World} (h : Below w.heap.size w W) (o : Option Nat) : w.grownBy W o := ⟨h.os, h.tape, h.output, h.size, fun k hk _ => h.block k hk⟩
theorem grown_t {w V W : World} {o : Option Nat} (h : w.grownBy V o) (g : V.grownBy W o) : w.grownBy W o := h.trans g
/-- A tree that stays whatever becomes of the block b. -/
def Held (b : Nat) (w : World) (T : Tr) : Prop := ∀ W, w.grownBy W (some b) → TrW W T
theorem Held.now {b : Nat} {w : World} {T : Tr} (h : Held b w T) : TrW w T := h w (grown_id w b)
theorem Held.to {b : Nat} {w W : World} {T : Tr} (h : Held b w T) (g : w.grownBy W (some b)) : Held b W T := fun V hV => h V (g.trans hV)
theorem Held.leaf (b : Nat) (w : World) (k : Nat) (hk : k < 26) : Held b w (leafX 1 1 1 (k : Int) []) := fun W _ => leafX_tr 1 1 1 _ [] W (by unfold okV; omega) (by unfold okV; omega) (by unfold okV; omega) (by unfold okV; omega) (by unfold maxLen; simp)
/-- Two nodes in a new row. -/
theorem Held.two {b : Nat} {w : World} {T U : Tr} (h : Held b w T) (h2 : Held b w U) (hb : b < w.heap.size) :
    Held b (w.alloc (.cells ([T, U].flatMap Tr.row).toArray 30)) (kidsX 3 (.slice (some ⟨w.heap.size, 0, none⟩) 2 2) [T, U]) := by
  intro W hW
  have hg : w.grownBy W (some b) := (below_g (b1 _ _) _).trans hW
  exact kidsX_tr (by unfold okV; omega) (sl_but (sl_fresh w 2 9 ([T, U].flatMap Tr.row) 30 (by simp [List.flatMap, row_len]) (by decide)) hW (by omega)) (kids_of2 (h W hg) (h2 W hg))
end Go.Proofs.YtmfcjaoajanlfaaGreatDoor
