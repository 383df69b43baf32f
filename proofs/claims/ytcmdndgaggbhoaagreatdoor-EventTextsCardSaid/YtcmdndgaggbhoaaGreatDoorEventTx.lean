/- Walk: EventTexts. -/
import Derived.Test.YtcmdndgaggbhoaaGreatDoorEventL
import Derived.Test.YtcmdndgaggbhoaaGreatDoorEventTc
namespace Go.Proofs.YtcmdndgaggbhoaaGreatDoor.Ev
open Go.RowKit Go.Shelf
open Lb Wr

/-- What a region holds fast beside the tables and what lay: 6 cells. -/
theorem held6t {P : Program} {f : FuncId} {args : Array Value} {v : Value} {W wx : World} {a0 a1 a2 a3 a4 a5 : Addr} {c0 c1 c2 c3 c4 c5 : Value} (hc : ∀ w, Tab3 w → Calls P f args w fun e w' => e = .returned v ∧ Below w.heap.size w w')
    (h0 : wx.cell? a0 = some c0) (h1 : wx.cell? a1 = some c1) (h2 : wx.cell? a2 = some c2) (h3 : wx.cell? a3 = some c3) (h4 : wx.cell? a4 = some c4) (h5 : wx.cell? a5 = some c5) (ht : Tab3 wx) (h : Below W.heap.size W wx) :
    Calls P f args wx fun e w' => e = .returned v ∧ w'.cell? a0 = some c0 ∧ w'.cell? a1 = some c1 ∧ w'.cell? a2 = some c2 ∧ w'.cell? a3 = some c3 ∧ w'.cell? a4 = some c4 ∧ w'.cell? a5 = some c5 ∧ Tab3 w' ∧ Below W.heap.size W w' :=
  (hc wx ht).mono fun _ w' hh =>
    have hl : ∀ {p : Addr} {v : Value}, wx.cell? p = some v → w'.cell? p = some v := fun {_ _} h => (hh.2.cell (World.block_lt_of_cell? wx _ h)).trans h
    ⟨hh.1, hl h0, hl h1, hl h2, hl h3, hl h4, hl h5, ht.below hh.2, bstep h hh.2⟩
theorem readV_shape (s : ByteArray) : ∃ x0 x1 x2 e : Int, readV s = .tuple #[ev x0 x1 x2, .int .i64 e] := by
  unfold readV
  split
  · exact ⟨_, _, _, _, rfl⟩
  · exact ⟨_, _, _, _, rfl⟩
theorem readIdV_shape (s : ByteArray) : ∃ y0 y1 e : Int, readIdV s = .tuple #[idv y0 y1, .int .i64 e] := by
  unfold readIdV
  split
  · exact ⟨_, _, _, rfl⟩
  · exact ⟨_, _, _, rfl⟩
attribute [local go_sem] tab3_drew below_drew_eq
attribute [local simp] tab3_drew below_drew_eq
set_option maxRecDepth 100000 in
set_option maxHeartbeats 8000000 in
theorem textsLaw_any (l : Nat) (k v : Int) (a n : Nat) (s : ByteArray) (hl : l < 18446744073709551616) (h0 : -9223372036854775808 ≤ v) (h1 : v ≤ 9223372036854775807) (ha : a < 18446744073709551616) (hn : n < 18446744073709551616) (w : World) (ht : Tab3 w) :
    Calls Tryz.prog 4 #[ev l k v, idv a n, .string s] w fun e w' => e = .returned (.bool true) ∧ Below w.heap.size w w' := by
  by_cases hlong : 300 < s.size
  · have hAw := awake_any
    have c1 : (300 : Int) < (s.size : Int) := by omega
    clear hlong hl h0 h1 ha hn
    go_enter Tryz.func4, Tryz.ntmps4
    go_wp2_with fail
    refine named fun W hW => ?_
    have hB : Below w.heap.size w W := by rw [hW]; go_grown
    have ht1 := ht.below hB
    clear hW ht
    refine (hAw _ ht1.1).mono ?_
    rintro e w1 ⟨rfl, hb1⟩
    go_wp2
    go_ret
    exact ⟨rfl, bstep hB hb1⟩
  have c1 : ¬ (300 : Int) < (s.size : Int) := by omega
  have hTx := evText_any l k v hl h0 h1
  have hRt := refEvText_any l k v hl h0 h1
  obtain ⟨b, hb⟩ : ∃ b, b = textE l k v := ⟨_, rfl⟩
  rw [← hb] at hTx hRt
  obtain ⟨b1, b2⟩ := b
  simp only at hTx hRt
  have hRd := fun w ht => evRead_any s w ht (by omega)
  have hRr := fun w => refRead_is s w (by omega)
  obtain ⟨x0, x1, x2, xe, hx⟩ := readV_shape s
  rw [hx] at hRd hRr
  have hIt := idText_any a n ha hn
  have hRi := refIdText_any a n ha hn
  obtain ⟨i, hi⟩ : ∃ b, b = idTextE a n := ⟨_, rfl⟩
  rw [← hi] at hIt hRi
  obtain ⟨i1, i2⟩ := i
  simp only at hIt hRi
  have hId := fun w ht => evReadId_any s w ht (by omega)
  have hRI := fun w => refReadId_is s w (by omega)
  obtain ⟨y0, y1, ye, hy⟩ := readIdV_shape s
  rw [hy] at hId hRI
  have hCk := fun w (_ : Tab3 w) => checkId_any (a : Int) (n : Int) (by omega) w
  have hRc := fun w (_ : Tab3 w) => refCheckId_any (a : Int) (n : Int) (by omega) w
  obtain ⟨c, hc⟩ : ∃ c, c = checkIdI (n : Int) := ⟨_, rfl⟩
  rw [← hc] at hCk hRc
  have hAw := fun w (ht : Tab3 w) => awake_any w ht.1
  obtain ⟨L, hL⟩ : ∃ z : Int, z = (l : Int) := ⟨_, rfl⟩
  obtain ⟨A, hA⟩ : ∃ z : Int, z = (a : Int) := ⟨_, rfl⟩
  obtain ⟨N, hN⟩ : ∃ z : Int, z = (n : Int) := ⟨_, rfl⟩
  rw [← hL] at hTx hRt
  rw [← hA, ← hN] at hIt hRi hCk hRc
  rw [← hL, ← hA, ← hN]
  clear hlong hb hx hi hy hc hL hA hN hl h0 h1 ha hn
  simp only [ev, idv] at hTx hRt hRd hRr hIt hRi hId hRI hCk hRc ⊢
  go_enter Tryz.func4, Tryz.ntmps4
  go_wp2_with fail
  refine named fun W hW => ?_
  have hB : Below w.heap.size w W := by rw [hW]; go_grown
  have hE : Blk W w.heap.size [.int .u64 L, .int .i64 k, .int .i64 v] := by rw [hW]; exact (Blk.is _ rfl).alloc _
  have hI : Blk W (w.heap.size + 1) [.int .u64 A, .int .u64 N] := by rw [hW]; exact Blk.is _ (by simp)
  have ht1 := ht.below hB
  obtain ⟨I, hIe⟩ : ∃ x, x = w.heap.size + 1 := ⟨_, rfl⟩
  rw [← hIe] at hI ⊢
  clear hW ht hIe
  refine (hTx _ ht1.1).mono ?_
  rintro e w1 ⟨rfl, hb1⟩
  replace hB := bstep hB hb1
  replace hE := hE.later hb1
  replace hI := hI.later hb1
  replace ht1 := ht1.below hb1
  clear hb1 hTx
  have hE0 := hE.cell 0 _ rfl
  have hE1 := hE.cell 1 _ rfl
  have hE2 := hE.cell 2 _ rfl
  have hEl := hE.lt
  go_wp2_with fail
  clear hE0 hE1 hE2 hEl
  refine (hRt _ ht1.1).mono ?_
  rintro e w2 ⟨rfl, hb2⟩
  replace hB := bstep hB hb2
  replace hE := hE.later hb2
  replace hI := hI.later hb2
  replace ht1 := ht1.below hb2
  clear hb2 hRt
  clear hE
  go_wp2_with fail
  refine (hRd _ ht1).mono ?_
  rintro e w3 ⟨rfl, hb3⟩
  replace hB := bstep hB hb3
  replace hI := hI.later hb3
  replace ht1 := ht1.below hb3
  clear hb3 hRd
  go_wp2_with fail
  refine named fun V3 hW => ?_
  have hX : Blk V3 w3.heap.size [.int .u64 x0, .int .i64 x1, .int .i64 x2] := by rw [hW]; exact Blk.is _ rfl
  replace hI : Blk V3 I [.int .u64 A, .int .u64 N] := by rw [hW]; exact hI.alloc _
  replace ht1 : Tab3 V3 := by rw [hW]; exact ht1.alloc _
  have hB2 : Below w.heap.size w V3 := by rw [hW]; exact hB.alloc hB.size _
  obtain ⟨X, hXe⟩ : ∃ x, x = w3.heap.size := ⟨_, rfl⟩
  rw [← hXe] at hX ⊢
  clear hW hXe hB
  have hB := hB2
  clear hB2
  refine (hRr _).mono ?_
  rintro e w4 ⟨rfl, hb4⟩
  replace hB := bstep hB hb4
  replace hI := hI.later hb4
  replace hX := hX.later hb4
  replace ht1 := ht1.below hb4
  clear hb4 hRr
  go_upto_region 7 with (fail)
  refine named_wp fun V4 hW => ?_
  have hY : Blk V4 w4.heap.size [.int .u64 x0, .int .i64 x1, .int .i64 x2] := by rw [hW]; exact Blk.is _ rfl
  replace hI : Blk V4 I [.int .u64 A, .int .u64 N] := by rw [hW]; exact hI.alloc _
  replace hX : Blk V4 X [.int .u64 x0, .int .i64 x1, .int .i64 x2] := by rw [hW]; exact hX.alloc _
  replace ht1 : Tab3 V4 := by rw [hW]; exact ht1.alloc _
  have hB2 : Below w.heap.size w V4 := by rw [hW]; exact hB.alloc hB.size _
  obtain ⟨Y, hYe⟩ : ∃ x, x = w4.heap.size := ⟨_, rfl⟩
  rw [← hYe] at hY ⊢
  clear hW hYe hB
  have hB := hB2
  clear hB2
  have hI0 := hI.cell 0 _ rfl
  have hI1 := hI.cell 1 _ rfl
  have hIl := hI.lt
  have hX0 := hX.cell 0 _ rfl
  have hX1 := hX.cell 1 _ rfl
  have hX2 := hX.cell 2 _ rfl
  have hXl := hX.lt
  have hY0 := hY.cell 0 _ rfl
  have hY1 := hY.cell 1 _ rfl
  have hY2 := hY.cell 2 _ rfl
  have hYl := hY.lt
  go_wp2_with fail
  clear hI0 hI1 hX0 hX1 hX2 hY0 hY1 hY2 hIl hXl hYl
  clear hX hY
  refine (hIt _ ht1.1).mono ?_
  rintro e w5 ⟨rfl, hb5⟩
  replace hB := bstep hB hb5
  replace hI := hI.later hb5
  replace ht1 := ht1.below hb5
  clear hb5 hIt
  have hI0 := hI.cell 0 _ rfl
  have hI1 := hI.cell 1 _ rfl
  have hIl := hI.lt
  go_wp2_with fail
  clear hI0 hI1 hIl
  refine (hRi _ ht1.1).mono ?_
  rintro e w6 ⟨rfl, hb6⟩
  replace hB := bstep hB hb6
  replace hI := hI.later hb6
  replace ht1 := ht1.below hb6
  clear hb6 hRi
  go_wp2_with fail
  refine (hId _ ht1).mono ?_
  rintro e w7 ⟨rfl, hb7⟩
  replace hB := bstep hB hb7
  replace hI := hI.later hb7
  replace ht1 := ht1.below hb7
  clear hb7 hId
  go_wp2_with fail
  refine named fun V7 hW => ?_
  have hP : Blk V7 w7.heap.size [.int .u64 y0, .int .u64 y1] := by rw [hW]; exact Blk.is _ rfl
  replace hI : Blk V7 I [.int .u64 A, .int .u64 N] := by rw [hW]; exact hI.alloc _
  replace ht1 : Tab3 V7 := by rw [hW]; exact ht1.alloc _
  have hB2 : Below w.heap.size w V7 := by rw [hW]; exact hB.alloc hB.size _
  obtain ⟨P, hPe⟩ : ∃ x, x = w7.heap.size := ⟨_, rfl⟩
  rw [← hPe] at hP ⊢
  clear hW hPe hB
  have hB := hB2
  clear hB2
  refine (hRI _).mono ?_
  rintro e w8 ⟨rfl, hb8⟩
  replace hB := bstep hB hb8
  replace hI := hI.later hb8
  replace hP := hP.later hb8
  replace ht1 := ht1.below hb8
  clear hb8 hRI
  go_upto_region 13 with (fail)
  refine named_wp fun V8 hW => ?_
  have hQ : Blk V8 w8.heap.size [.int .u64 y0, .int .u64 y1] := by rw [hW]; exact Blk.is _ rfl
  replace hI : Blk V8 I [.int .u64 A, .int .u64 N] := by rw [hW]; exact hI.alloc _
  replace hP : Blk V8 P [.int .u64 y0, .int .u64 y1] := by rw [hW]; exact hP.alloc _
  replace ht1 : Tab3 V8 := by rw [hW]; exact ht1.alloc _
  have hB2 : Below w.heap.size w V8 := by rw [hW]; exact hB.alloc hB.size _
  obtain ⟨Q, hQe⟩ : ∃ x, x = w8.heap.size := ⟨_, rfl⟩
  rw [← hQe] at hQ ⊢
  clear hW hQe hB
  have hB := hB2
  clear hB2
  have hI0 := hI.cell 0 _ rfl
  have hI1 := hI.cell 1 _ rfl
  have hP0 := hP.cell 0 _ rfl
  have hP1 := hP.cell 1 _ rfl
  have hQ0 := hQ.cell 0 _ rfl
  have hQ1 := hQ.cell 1 _ rfl
  clear hI hP hQ
  go_region_held3 (fun w' => w'.cell? ⟨I, 0, none⟩ = some (.int .u64 A) ∧ w'.cell? ⟨I, 1, none⟩ = some (.int .u64 N) ∧ w'.cell? ⟨P, 0, none⟩ = some (.int .u64 y0) ∧ w'.cell? ⟨P, 1, none⟩ = some (.int .u64 y1) ∧ w'.cell? ⟨Q, 0, none⟩ = some (.int .u64 y0) ∧ w'.cell? ⟨Q, 1, none⟩ = some (.int .u64 y1) ∧ Tab3 w' ∧ Below w.heap.size w w') (go_keep)
    (first
      | (go_at_call 22; refine (held6t (W := w) (a0 := ⟨I, 0, none⟩) (c0 := .int .u64 A) (a1 := ⟨I, 1, none⟩) (c1 := .int .u64 N) (a2 := ⟨P, 0, none⟩) (c2 := .int .u64 y0) (a3 := ⟨P, 1, none⟩) (c3 := .int .u64 y1) (a4 := ⟨Q, 0, none⟩) (c4 := .int .u64 y0) (a5 := ⟨Q, 1, none⟩) (c5 := .int .u64 y1) hCk ?_ ?_ ?_ ?_ ?_ ?_ ?_ ?_ ).mono ?_; (simp [*]); (simp [*]); (simp [*]); (simp [*]); (simp [*]); (simp [*]); (simp [*]); (simp [*]); rintro e w9 ⟨rfl, g0, g1, g2, g3, g4, g5, g6, g7⟩)
      | (go_at_call 23; refine (held6t (W := w) (a0 := ⟨I, 0, none⟩) (c0 := .int .u64 A) (a1 := ⟨I, 1, none⟩) (c1 := .int .u64 N) (a2 := ⟨P, 0, none⟩) (c2 := .int .u64 y0) (a3 := ⟨P, 1, none⟩) (c3 := .int .u64 y1) (a4 := ⟨Q, 0, none⟩) (c4 := .int .u64 y0) (a5 := ⟨Q, 1, none⟩) (c5 := .int .u64 y1) hRc ?_ ?_ ?_ ?_ ?_ ?_ ?_ ?_ ).mono ?_; (simp [*]); (simp [*]); (simp [*]); (simp [*]); (simp [*]); (simp [*]); (simp [*]); (simp [*]); rintro e w9 ⟨rfl, g0, g1, g2, g3, g4, g5, g6, g7⟩)
      | (go_at_call 16; refine (held6t (W := w) (a0 := ⟨I, 0, none⟩) (c0 := .int .u64 A) (a1 := ⟨I, 1, none⟩) (c1 := .int .u64 N) (a2 := ⟨P, 0, none⟩) (c2 := .int .u64 y0) (a3 := ⟨P, 1, none⟩) (c3 := .int .u64 y1) (a4 := ⟨Q, 0, none⟩) (c4 := .int .u64 y0) (a5 := ⟨Q, 1, none⟩) (c5 := .int .u64 y1) hAw ?_ ?_ ?_ ?_ ?_ ?_ ?_ ?_ ).mono ?_; (simp [*]); (simp [*]); (simp [*]); (simp [*]); (simp [*]); (simp [*]); (simp [*]); (simp [*]); rintro e w9 ⟨rfl, g0, g1, g2, g3, g4, g5, g6, g7⟩))
  go_wp2
  go_ret
  exact ⟨rfl, g7⟩
end Go.Proofs.YtcmdndgaggbhoaaGreatDoor.Ev
