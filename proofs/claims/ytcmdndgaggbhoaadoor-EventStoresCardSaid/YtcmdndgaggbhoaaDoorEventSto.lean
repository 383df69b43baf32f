/- Walk: EventStores. -/
import Derived.Test.YtcmdndgaggbhoaaDoorEventL
namespace Go.Proofs.YtcmdndgaggbhoaaDoor.Ev
open Go.RowKit Go.Shelf

/-- What a region holds fast beside the tables and what lay: 22 cells. -/
theorem held22t {P : Program} {f : FuncId} {args : Array Value} {v : Value} {W wx : World} {a0 a1 a2 a3 a4 a5 a6 a7 a8 a9 a10 a11 a12 a13 a14 a15 a16 a17 a18 a19 a20 a21 : Addr} {c0 c1 c2 c3 c4 c5 c6 c7 c8 c9 c10 c11 c12 c13 c14 c15 c16 c17 c18 c19 c20 c21 : Value} (hc : ∀ w, Tab2 w → Calls P f args w fun e w' => e = .returned v ∧ Below w.heap.size w w')
    (h0 : wx.cell? a0 = some c0) (h1 : wx.cell? a1 = some c1) (h2 : wx.cell? a2 = some c2) (h3 : wx.cell? a3 = some c3) (h4 : wx.cell? a4 = some c4) (h5 : wx.cell? a5 = some c5) (h6 : wx.cell? a6 = some c6) (h7 : wx.cell? a7 = some c7) (h8 : wx.cell? a8 = some c8) (h9 : wx.cell? a9 = some c9) (h10 : wx.cell? a10 = some c10) (h11 : wx.cell? a11 = some c11) (h12 : wx.cell? a12 = some c12) (h13 : wx.cell? a13 = some c13) (h14 : wx.cell? a14 = some c14) (h15 : wx.cell? a15 = some c15) (h16 : wx.cell? a16 = some c16) (h17 : wx.cell? a17 = some c17) (h18 : wx.cell? a18 = some c18) (h19 : wx.cell? a19 = some c19) (h20 : wx.cell? a20 = some c20) (h21 : wx.cell? a21 = some c21) (ht : Tab2 wx) (h : Below W.heap.size W wx) :
    Calls P f args wx fun e w' => e = .returned v ∧ w'.cell? a0 = some c0 ∧ w'.cell? a1 = some c1 ∧ w'.cell? a2 = some c2 ∧ w'.cell? a3 = some c3 ∧ w'.cell? a4 = some c4 ∧ w'.cell? a5 = some c5 ∧ w'.cell? a6 = some c6 ∧ w'.cell? a7 = some c7 ∧ w'.cell? a8 = some c8 ∧ w'.cell? a9 = some c9 ∧ w'.cell? a10 = some c10 ∧ w'.cell? a11 = some c11 ∧ w'.cell? a12 = some c12 ∧ w'.cell? a13 = some c13 ∧ w'.cell? a14 = some c14 ∧ w'.cell? a15 = some c15 ∧ w'.cell? a16 = some c16 ∧ w'.cell? a17 = some c17 ∧ w'.cell? a18 = some c18 ∧ w'.cell? a19 = some c19 ∧ w'.cell? a20 = some c20 ∧ w'.cell? a21 = some c21 ∧ Tab2 w' ∧ Below W.heap.size W w' :=
  (hc wx ht).mono fun _ w' hh =>
    have hl : ∀ {p : Addr} {v : Value}, wx.cell? p = some v → w'.cell? p = some v := fun {_ _} h => (hh.2.cell (World.block_lt_of_cell? wx _ h)).trans h
    ⟨hh.1, hl h0, hl h1, hl h2, hl h3, hl h4, hl h5, hl h6, hl h7, hl h8, hl h9, hl h10, hl h11, hl h12, hl h13, hl h14, hl h15, hl h16, hl h17, hl h18, hl h19, hl h20, hl h21, ht.below hh.2, bstep h hh.2⟩
theorem storeV_is (l k v n o t : Int) : ∃ x0 x1 x2 x3 x4 x5 e : Int, storeV l k v n o t = .tuple #[stv x0 x1 x2 x3 x4 x5, .int .i64 e] := by
  unfold storeV
  split
  · split
    · exact ⟨_, _, _, _, _, _, _, rfl⟩
    · exact ⟨_, _, _, _, _, _, _, rfl⟩
  · exact ⟨_, _, _, _, _, _, _, rfl⟩
attribute [local go_sem] tab2_drew below_drew_eq
attribute [local simp] tab2_drew below_drew_eq
set_option maxRecDepth 100000 in
set_option maxHeartbeats 8000000 in
theorem stores_any (l n o t k v a m b p l2 k2 v2 : Int) (hn : 0 ≤ n) (ho : 0 ≤ o) (ht0 : 0 ≤ t) (w : World) (ht : Tab2 w) :
    Calls Tryd.prog 4 #[stv l n o t k v, idv a m, idv b p, ev l2 k2 v2] w fun e w' => e = .returned (.bool true) ∧ Below w.heap.size w w' := by
  have hSt := store_any l2 k2 v2 n o t hn ho ht0
  have hRt := refStore_any l2 k2 v2 n o t hn ho ht0
  obtain ⟨x0, x1, x2, x3, x4, x5, xe, hx⟩ := storeV_is l2 k2 v2 n o t
  rw [hx] at hSt hRt
  clear hx
  have hSo := fun w (_ : Tab2 w) => sound_any l n o t k v hn ho ht0 w
  have hRo := fun w (_ : Tab2 w) => refSound_any l n o t k v hn ho ht0 w
  obtain ⟨c, hc⟩ : ∃ c, c = soundI n o t k := ⟨_, rfl⟩
  rw [← hc] at hSo hRo
  have hOf := fun w (_ : Tab2 w) => evOf_any l n o t k v w
  have hRf := fun w (_ : Tab2 w) => refEvOf_any l n o t k v w
  have hCo := fun w (_ : Tab2 w) => compare_any a m b p w
  have hRc := fun w (_ : Tab2 w) => refCompare_any a m b p w
  obtain ⟨z, hz⟩ : ∃ z, z = cmpI a m b p := ⟨_, rfl⟩
  rw [← hz] at hCo hRc
  have hAw := awake_any
  clear hc hz hn ho ht0
  simp only [stv, idv, ev] at hSt hRt hSo hRo hOf hRf hCo hRc ⊢
  go_enter Tryd.func4, Tryd.ntmps4
  go_wp2_with fail
  refine named fun W hW => ?_
  have hB : Below w.heap.size w W := by rw [hW]; go_grown
  have hA : Blk W w.heap.size [.int .u64 l, .int .u64 n, .int .u64 o, .int .u64 t, .int .i64 k, .int .i64 v] := by rw [hW]; exact (((Blk.is _ rfl).alloc _).alloc _).alloc _
  have hI : Blk W (w.heap.size + 1) [.int .u64 a, .int .u64 m] := by rw [hW]; exact ((Blk.is _ (by simp)).alloc _).alloc _
  have hJ : Blk W (w.heap.size + 2) [.int .u64 b, .int .u64 p] := by rw [hW]; exact (Blk.is _ (by simp)).alloc _
  have hE : Blk W (w.heap.size + 3) [.int .u64 l2, .int .i64 k2, .int .i64 v2] := by rw [hW]; exact Blk.is _ (by simp)
  have ht1 := ht.below hB
  clear hW ht
  refine (hSt _).mono ?_
  rintro e w1 ⟨rfl, hb1⟩
  replace hB := bstep hB hb1
  replace hA := hA.later hb1
  replace hI := hI.later hb1
  replace hJ := hJ.later hb1
  replace hE := hE.later hb1
  replace ht1 := ht1.below hb1
  clear hb1 hSt
  have ca0 := hA.cell 0 _ rfl
  have ca1 := hA.cell 1 _ rfl
  have ca2 := hA.cell 2 _ rfl
  have ca3 := hA.cell 3 _ rfl
  have ca4 := hA.cell 4 _ rfl
  have ca5 := hA.cell 5 _ rfl
  have ce0 := hE.cell 0 _ rfl
  have ce1 := hE.cell 1 _ rfl
  have ce2 := hE.cell 2 _ rfl
  have lA := hA.lt
  have lE := hE.lt
  go_wp2_with fail
  refine named fun W1 hW => ?_
  have hX : Blk W1 w1.heap.size [.int .u64 x0, .int .u64 x1, .int .u64 x2, .int .u64 x3, .int .i64 x4, .int .i64 x5] := by rw [hW]; exact Blk.is _ rfl
  replace hB : Below w.heap.size w W1 := by rw [hW]; exact hB.alloc hB.size _
  replace hA : Blk W1 w.heap.size [.int .u64 l, .int .u64 n, .int .u64 o, .int .u64 t, .int .i64 k, .int .i64 v] := by rw [hW]; exact hA.alloc _
  replace hI : Blk W1 (w.heap.size + 1) [.int .u64 a, .int .u64 m] := by rw [hW]; exact hI.alloc _
  replace hJ : Blk W1 (w.heap.size + 2) [.int .u64 b, .int .u64 p] := by rw [hW]; exact hJ.alloc _
  replace ht1 : Tab2 W1 := by rw [hW]; exact ht1.alloc _
  obtain ⟨X, hXe⟩ : ∃ X, X = w1.heap.size := ⟨_, rfl⟩
  rw [← hXe] at hX ⊢
  clear hW hXe hE lA lE ca0 ca1 ca2 ca3 ca4 ca5 ce0 ce1 ce2
  refine (hRt _).mono ?_
  rintro e w2 ⟨rfl, hb2⟩
  replace hB := bstep hB hb2
  replace hA := hA.later hb2
  replace hI := hI.later hb2
  replace hJ := hJ.later hb2
  replace hX := hX.later hb2
  replace ht1 := ht1.below hb2
  clear hb2 hRt
  go_upto_region 3 with (fail)
  refine named_wp fun W2 hW => ?_
  have hY : Blk W2 w2.heap.size [.int .u64 x0, .int .u64 x1, .int .u64 x2, .int .u64 x3, .int .i64 x4, .int .i64 x5] := by rw [hW]; exact Blk.is _ rfl
  replace hB : Below w.heap.size w W2 := by rw [hW]; exact hB.alloc hB.size _
  replace hA : Blk W2 w.heap.size [.int .u64 l, .int .u64 n, .int .u64 o, .int .u64 t, .int .i64 k, .int .i64 v] := by rw [hW]; exact hA.alloc _
  replace hI : Blk W2 (w.heap.size + 1) [.int .u64 a, .int .u64 m] := by rw [hW]; exact hI.alloc _
  replace hJ : Blk W2 (w.heap.size + 2) [.int .u64 b, .int .u64 p] := by rw [hW]; exact hJ.alloc _
  replace hX : Blk W2 X [.int .u64 x0, .int .u64 x1, .int .u64 x2, .int .u64 x3, .int .i64 x4, .int .i64 x5] := by rw [hW]; exact hX.alloc _
  replace ht1 : Tab2 W2 := by rw [hW]; exact ht1.alloc _
  obtain ⟨Y, hYe⟩ : ∃ Y, Y = w2.heap.size := ⟨_, rfl⟩
  rw [← hYe] at hY ⊢
  clear hW hYe
  have ca0 := hA.cell 0 _ rfl
  have ca1 := hA.cell 1 _ rfl
  have ca2 := hA.cell 2 _ rfl
  have ca3 := hA.cell 3 _ rfl
  have ca4 := hA.cell 4 _ rfl
  have ca5 := hA.cell 5 _ rfl
  have ci0 := hI.cell 0 _ rfl
  have ci1 := hI.cell 1 _ rfl
  have cj0 := hJ.cell 0 _ rfl
  have cj1 := hJ.cell 1 _ rfl
  have cx0 := hX.cell 0 _ rfl
  have cx1 := hX.cell 1 _ rfl
  have cx2 := hX.cell 2 _ rfl
  have cx3 := hX.cell 3 _ rfl
  have cx4 := hX.cell 4 _ rfl
  have cx5 := hX.cell 5 _ rfl
  have cy0 := hY.cell 0 _ rfl
  have cy1 := hY.cell 1 _ rfl
  have cy2 := hY.cell 2 _ rfl
  have cy3 := hY.cell 3 _ rfl
  have cy4 := hY.cell 4 _ rfl
  have cy5 := hY.cell 5 _ rfl
  clear hA hI hJ hX hY
  go_region_held3 (fun w' => w'.cell? ⟨w.heap.size, 0, none⟩ = some (.int .u64 l) ∧ w'.cell? ⟨w.heap.size, 1, none⟩ = some (.int .u64 n) ∧ w'.cell? ⟨w.heap.size, 2, none⟩ = some (.int .u64 o) ∧ w'.cell? ⟨w.heap.size, 3, none⟩ = some (.int .u64 t) ∧ w'.cell? ⟨w.heap.size, 4, none⟩ = some (.int .i64 k) ∧ w'.cell? ⟨w.heap.size, 5, none⟩ = some (.int .i64 v) ∧ w'.cell? ⟨w.heap.size + 1, 0, none⟩ = some (.int .u64 a) ∧ w'.cell? ⟨w.heap.size + 1, 1, none⟩ = some (.int .u64 m) ∧ w'.cell? ⟨w.heap.size + 2, 0, none⟩ = some (.int .u64 b) ∧ w'.cell? ⟨w.heap.size + 2, 1, none⟩ = some (.int .u64 p) ∧ w'.cell? ⟨X, 0, none⟩ = some (.int .u64 x0) ∧ w'.cell? ⟨X, 1, none⟩ = some (.int .u64 x1) ∧ w'.cell? ⟨X, 2, none⟩ = some (.int .u64 x2) ∧ w'.cell? ⟨X, 3, none⟩ = some (.int .u64 x3) ∧ w'.cell? ⟨X, 4, none⟩ = some (.int .i64 x4) ∧ w'.cell? ⟨X, 5, none⟩ = some (.int .i64 x5) ∧ w'.cell? ⟨Y, 0, none⟩ = some (.int .u64 x0) ∧ w'.cell? ⟨Y, 1, none⟩ = some (.int .u64 x1) ∧ w'.cell? ⟨Y, 2, none⟩ = some (.int .u64 x2) ∧ w'.cell? ⟨Y, 3, none⟩ = some (.int .u64 x3) ∧ w'.cell? ⟨Y, 4, none⟩ = some (.int .i64 x4) ∧ w'.cell? ⟨Y, 5, none⟩ = some (.int .i64 x5) ∧ Tab2 w' ∧ Below w.heap.size w w') (go_keep)
    (first
      | (go_at_call 20; refine (held22t (W := w) (a0 := ⟨w.heap.size, 0, none⟩) (c0 := .int .u64 l) (a1 := ⟨w.heap.size, 1, none⟩) (c1 := .int .u64 n) (a2 := ⟨w.heap.size, 2, none⟩) (c2 := .int .u64 o) (a3 := ⟨w.heap.size, 3, none⟩) (c3 := .int .u64 t) (a4 := ⟨w.heap.size, 4, none⟩) (c4 := .int .i64 k) (a5 := ⟨w.heap.size, 5, none⟩) (c5 := .int .i64 v) (a6 := ⟨w.heap.size + 1, 0, none⟩) (c6 := .int .u64 a) (a7 := ⟨w.heap.size + 1, 1, none⟩) (c7 := .int .u64 m) (a8 := ⟨w.heap.size + 2, 0, none⟩) (c8 := .int .u64 b) (a9 := ⟨w.heap.size + 2, 1, none⟩) (c9 := .int .u64 p) (a10 := ⟨X, 0, none⟩) (c10 := .int .u64 x0) (a11 := ⟨X, 1, none⟩) (c11 := .int .u64 x1) (a12 := ⟨X, 2, none⟩) (c12 := .int .u64 x2) (a13 := ⟨X, 3, none⟩) (c13 := .int .u64 x3) (a14 := ⟨X, 4, none⟩) (c14 := .int .i64 x4) (a15 := ⟨X, 5, none⟩) (c15 := .int .i64 x5) (a16 := ⟨Y, 0, none⟩) (c16 := .int .u64 x0) (a17 := ⟨Y, 1, none⟩) (c17 := .int .u64 x1) (a18 := ⟨Y, 2, none⟩) (c18 := .int .u64 x2) (a19 := ⟨Y, 3, none⟩) (c19 := .int .u64 x3) (a20 := ⟨Y, 4, none⟩) (c20 := .int .i64 x4) (a21 := ⟨Y, 5, none⟩) (c21 := .int .i64 x5) hSo ?_ ?_ ?_ ?_ ?_ ?_ ?_ ?_ ?_ ?_ ?_ ?_ ?_ ?_ ?_ ?_ ?_ ?_ ?_ ?_ ?_ ?_ ?_ ?_ ).mono ?_; (simp [*]); (simp [*]); (simp [*]); (simp [*]); (simp [*]); (simp [*]); (simp [*]); (simp [*]); (simp [*]); (simp [*]); (simp [*]); (simp [*]); (simp [*]); (simp [*]); (simp [*]); (simp [*]); (simp [*]); (simp [*]); (simp [*]); (simp [*]); (simp [*]); (simp [*]); (simp [*]); (simp [*]); rintro e w9 ⟨rfl, g0, g1, g2, g3, g4, g5, g6, g7, g8, g9, g10, g11, g12, g13, g14, g15, g16, g17, g18, g19, g20, g21, g22, g23⟩)
      | (go_at_call 21; refine (held22t (W := w) (a0 := ⟨w.heap.size, 0, none⟩) (c0 := .int .u64 l) (a1 := ⟨w.heap.size, 1, none⟩) (c1 := .int .u64 n) (a2 := ⟨w.heap.size, 2, none⟩) (c2 := .int .u64 o) (a3 := ⟨w.heap.size, 3, none⟩) (c3 := .int .u64 t) (a4 := ⟨w.heap.size, 4, none⟩) (c4 := .int .i64 k) (a5 := ⟨w.heap.size, 5, none⟩) (c5 := .int .i64 v) (a6 := ⟨w.heap.size + 1, 0, none⟩) (c6 := .int .u64 a) (a7 := ⟨w.heap.size + 1, 1, none⟩) (c7 := .int .u64 m) (a8 := ⟨w.heap.size + 2, 0, none⟩) (c8 := .int .u64 b) (a9 := ⟨w.heap.size + 2, 1, none⟩) (c9 := .int .u64 p) (a10 := ⟨X, 0, none⟩) (c10 := .int .u64 x0) (a11 := ⟨X, 1, none⟩) (c11 := .int .u64 x1) (a12 := ⟨X, 2, none⟩) (c12 := .int .u64 x2) (a13 := ⟨X, 3, none⟩) (c13 := .int .u64 x3) (a14 := ⟨X, 4, none⟩) (c14 := .int .i64 x4) (a15 := ⟨X, 5, none⟩) (c15 := .int .i64 x5) (a16 := ⟨Y, 0, none⟩) (c16 := .int .u64 x0) (a17 := ⟨Y, 1, none⟩) (c17 := .int .u64 x1) (a18 := ⟨Y, 2, none⟩) (c18 := .int .u64 x2) (a19 := ⟨Y, 3, none⟩) (c19 := .int .u64 x3) (a20 := ⟨Y, 4, none⟩) (c20 := .int .i64 x4) (a21 := ⟨Y, 5, none⟩) (c21 := .int .i64 x5) hRo ?_ ?_ ?_ ?_ ?_ ?_ ?_ ?_ ?_ ?_ ?_ ?_ ?_ ?_ ?_ ?_ ?_ ?_ ?_ ?_ ?_ ?_ ?_ ?_ ).mono ?_; (simp [*]); (simp [*]); (simp [*]); (simp [*]); (simp [*]); (simp [*]); (simp [*]); (simp [*]); (simp [*]); (simp [*]); (simp [*]); (simp [*]); (simp [*]); (simp [*]); (simp [*]); (simp [*]); (simp [*]); (simp [*]); (simp [*]); (simp [*]); (simp [*]); (simp [*]); (simp [*]); (simp [*]); rintro e w9 ⟨rfl, g0, g1, g2, g3, g4, g5, g6, g7, g8, g9, g10, g11, g12, g13, g14, g15, g16, g17, g18, g19, g20, g21, g22, g23⟩)
      | (go_at_call 22; refine (held22t (W := w) (a0 := ⟨w.heap.size, 0, none⟩) (c0 := .int .u64 l) (a1 := ⟨w.heap.size, 1, none⟩) (c1 := .int .u64 n) (a2 := ⟨w.heap.size, 2, none⟩) (c2 := .int .u64 o) (a3 := ⟨w.heap.size, 3, none⟩) (c3 := .int .u64 t) (a4 := ⟨w.heap.size, 4, none⟩) (c4 := .int .i64 k) (a5 := ⟨w.heap.size, 5, none⟩) (c5 := .int .i64 v) (a6 := ⟨w.heap.size + 1, 0, none⟩) (c6 := .int .u64 a) (a7 := ⟨w.heap.size + 1, 1, none⟩) (c7 := .int .u64 m) (a8 := ⟨w.heap.size + 2, 0, none⟩) (c8 := .int .u64 b) (a9 := ⟨w.heap.size + 2, 1, none⟩) (c9 := .int .u64 p) (a10 := ⟨X, 0, none⟩) (c10 := .int .u64 x0) (a11 := ⟨X, 1, none⟩) (c11 := .int .u64 x1) (a12 := ⟨X, 2, none⟩) (c12 := .int .u64 x2) (a13 := ⟨X, 3, none⟩) (c13 := .int .u64 x3) (a14 := ⟨X, 4, none⟩) (c14 := .int .i64 x4) (a15 := ⟨X, 5, none⟩) (c15 := .int .i64 x5) (a16 := ⟨Y, 0, none⟩) (c16 := .int .u64 x0) (a17 := ⟨Y, 1, none⟩) (c17 := .int .u64 x1) (a18 := ⟨Y, 2, none⟩) (c18 := .int .u64 x2) (a19 := ⟨Y, 3, none⟩) (c19 := .int .u64 x3) (a20 := ⟨Y, 4, none⟩) (c20 := .int .i64 x4) (a21 := ⟨Y, 5, none⟩) (c21 := .int .i64 x5) hOf ?_ ?_ ?_ ?_ ?_ ?_ ?_ ?_ ?_ ?_ ?_ ?_ ?_ ?_ ?_ ?_ ?_ ?_ ?_ ?_ ?_ ?_ ?_ ?_ ).mono ?_; (simp [*]); (simp [*]); (simp [*]); (simp [*]); (simp [*]); (simp [*]); (simp [*]); (simp [*]); (simp [*]); (simp [*]); (simp [*]); (simp [*]); (simp [*]); (simp [*]); (simp [*]); (simp [*]); (simp [*]); (simp [*]); (simp [*]); (simp [*]); (simp [*]); (simp [*]); (simp [*]); (simp [*]); rintro e w9 ⟨rfl, g0, g1, g2, g3, g4, g5, g6, g7, g8, g9, g10, g11, g12, g13, g14, g15, g16, g17, g18, g19, g20, g21, g22, g23⟩)
      | (go_at_call 23; refine (held22t (W := w) (a0 := ⟨w.heap.size, 0, none⟩) (c0 := .int .u64 l) (a1 := ⟨w.heap.size, 1, none⟩) (c1 := .int .u64 n) (a2 := ⟨w.heap.size, 2, none⟩) (c2 := .int .u64 o) (a3 := ⟨w.heap.size, 3, none⟩) (c3 := .int .u64 t) (a4 := ⟨w.heap.size, 4, none⟩) (c4 := .int .i64 k) (a5 := ⟨w.heap.size, 5, none⟩) (c5 := .int .i64 v) (a6 := ⟨w.heap.size + 1, 0, none⟩) (c6 := .int .u64 a) (a7 := ⟨w.heap.size + 1, 1, none⟩) (c7 := .int .u64 m) (a8 := ⟨w.heap.size + 2, 0, none⟩) (c8 := .int .u64 b) (a9 := ⟨w.heap.size + 2, 1, none⟩) (c9 := .int .u64 p) (a10 := ⟨X, 0, none⟩) (c10 := .int .u64 x0) (a11 := ⟨X, 1, none⟩) (c11 := .int .u64 x1) (a12 := ⟨X, 2, none⟩) (c12 := .int .u64 x2) (a13 := ⟨X, 3, none⟩) (c13 := .int .u64 x3) (a14 := ⟨X, 4, none⟩) (c14 := .int .i64 x4) (a15 := ⟨X, 5, none⟩) (c15 := .int .i64 x5) (a16 := ⟨Y, 0, none⟩) (c16 := .int .u64 x0) (a17 := ⟨Y, 1, none⟩) (c17 := .int .u64 x1) (a18 := ⟨Y, 2, none⟩) (c18 := .int .u64 x2) (a19 := ⟨Y, 3, none⟩) (c19 := .int .u64 x3) (a20 := ⟨Y, 4, none⟩) (c20 := .int .i64 x4) (a21 := ⟨Y, 5, none⟩) (c21 := .int .i64 x5) hRf ?_ ?_ ?_ ?_ ?_ ?_ ?_ ?_ ?_ ?_ ?_ ?_ ?_ ?_ ?_ ?_ ?_ ?_ ?_ ?_ ?_ ?_ ?_ ?_ ).mono ?_; (simp [*]); (simp [*]); (simp [*]); (simp [*]); (simp [*]); (simp [*]); (simp [*]); (simp [*]); (simp [*]); (simp [*]); (simp [*]); (simp [*]); (simp [*]); (simp [*]); (simp [*]); (simp [*]); (simp [*]); (simp [*]); (simp [*]); (simp [*]); (simp [*]); (simp [*]); (simp [*]); (simp [*]); rintro e w9 ⟨rfl, g0, g1, g2, g3, g4, g5, g6, g7, g8, g9, g10, g11, g12, g13, g14, g15, g16, g17, g18, g19, g20, g21, g22, g23⟩)
      | (go_at_call 24; refine (held22t (W := w) (a0 := ⟨w.heap.size, 0, none⟩) (c0 := .int .u64 l) (a1 := ⟨w.heap.size, 1, none⟩) (c1 := .int .u64 n) (a2 := ⟨w.heap.size, 2, none⟩) (c2 := .int .u64 o) (a3 := ⟨w.heap.size, 3, none⟩) (c3 := .int .u64 t) (a4 := ⟨w.heap.size, 4, none⟩) (c4 := .int .i64 k) (a5 := ⟨w.heap.size, 5, none⟩) (c5 := .int .i64 v) (a6 := ⟨w.heap.size + 1, 0, none⟩) (c6 := .int .u64 a) (a7 := ⟨w.heap.size + 1, 1, none⟩) (c7 := .int .u64 m) (a8 := ⟨w.heap.size + 2, 0, none⟩) (c8 := .int .u64 b) (a9 := ⟨w.heap.size + 2, 1, none⟩) (c9 := .int .u64 p) (a10 := ⟨X, 0, none⟩) (c10 := .int .u64 x0) (a11 := ⟨X, 1, none⟩) (c11 := .int .u64 x1) (a12 := ⟨X, 2, none⟩) (c12 := .int .u64 x2) (a13 := ⟨X, 3, none⟩) (c13 := .int .u64 x3) (a14 := ⟨X, 4, none⟩) (c14 := .int .i64 x4) (a15 := ⟨X, 5, none⟩) (c15 := .int .i64 x5) (a16 := ⟨Y, 0, none⟩) (c16 := .int .u64 x0) (a17 := ⟨Y, 1, none⟩) (c17 := .int .u64 x1) (a18 := ⟨Y, 2, none⟩) (c18 := .int .u64 x2) (a19 := ⟨Y, 3, none⟩) (c19 := .int .u64 x3) (a20 := ⟨Y, 4, none⟩) (c20 := .int .i64 x4) (a21 := ⟨Y, 5, none⟩) (c21 := .int .i64 x5) hCo ?_ ?_ ?_ ?_ ?_ ?_ ?_ ?_ ?_ ?_ ?_ ?_ ?_ ?_ ?_ ?_ ?_ ?_ ?_ ?_ ?_ ?_ ?_ ?_ ).mono ?_; (simp [*]); (simp [*]); (simp [*]); (simp [*]); (simp [*]); (simp [*]); (simp [*]); (simp [*]); (simp [*]); (simp [*]); (simp [*]); (simp [*]); (simp [*]); (simp [*]); (simp [*]); (simp [*]); (simp [*]); (simp [*]); (simp [*]); (simp [*]); (simp [*]); (simp [*]); (simp [*]); (simp [*]); rintro e w9 ⟨rfl, g0, g1, g2, g3, g4, g5, g6, g7, g8, g9, g10, g11, g12, g13, g14, g15, g16, g17, g18, g19, g20, g21, g22, g23⟩)
      | (go_at_call 25; refine (held22t (W := w) (a0 := ⟨w.heap.size, 0, none⟩) (c0 := .int .u64 l) (a1 := ⟨w.heap.size, 1, none⟩) (c1 := .int .u64 n) (a2 := ⟨w.heap.size, 2, none⟩) (c2 := .int .u64 o) (a3 := ⟨w.heap.size, 3, none⟩) (c3 := .int .u64 t) (a4 := ⟨w.heap.size, 4, none⟩) (c4 := .int .i64 k) (a5 := ⟨w.heap.size, 5, none⟩) (c5 := .int .i64 v) (a6 := ⟨w.heap.size + 1, 0, none⟩) (c6 := .int .u64 a) (a7 := ⟨w.heap.size + 1, 1, none⟩) (c7 := .int .u64 m) (a8 := ⟨w.heap.size + 2, 0, none⟩) (c8 := .int .u64 b) (a9 := ⟨w.heap.size + 2, 1, none⟩) (c9 := .int .u64 p) (a10 := ⟨X, 0, none⟩) (c10 := .int .u64 x0) (a11 := ⟨X, 1, none⟩) (c11 := .int .u64 x1) (a12 := ⟨X, 2, none⟩) (c12 := .int .u64 x2) (a13 := ⟨X, 3, none⟩) (c13 := .int .u64 x3) (a14 := ⟨X, 4, none⟩) (c14 := .int .i64 x4) (a15 := ⟨X, 5, none⟩) (c15 := .int .i64 x5) (a16 := ⟨Y, 0, none⟩) (c16 := .int .u64 x0) (a17 := ⟨Y, 1, none⟩) (c17 := .int .u64 x1) (a18 := ⟨Y, 2, none⟩) (c18 := .int .u64 x2) (a19 := ⟨Y, 3, none⟩) (c19 := .int .u64 x3) (a20 := ⟨Y, 4, none⟩) (c20 := .int .i64 x4) (a21 := ⟨Y, 5, none⟩) (c21 := .int .i64 x5) hRc ?_ ?_ ?_ ?_ ?_ ?_ ?_ ?_ ?_ ?_ ?_ ?_ ?_ ?_ ?_ ?_ ?_ ?_ ?_ ?_ ?_ ?_ ?_ ?_ ).mono ?_; (simp [*]); (simp [*]); (simp [*]); (simp [*]); (simp [*]); (simp [*]); (simp [*]); (simp [*]); (simp [*]); (simp [*]); (simp [*]); (simp [*]); (simp [*]); (simp [*]); (simp [*]); (simp [*]); (simp [*]); (simp [*]); (simp [*]); (simp [*]); (simp [*]); (simp [*]); (simp [*]); (simp [*]); rintro e w9 ⟨rfl, g0, g1, g2, g3, g4, g5, g6, g7, g8, g9, g10, g11, g12, g13, g14, g15, g16, g17, g18, g19, g20, g21, g22, g23⟩)
      | (go_at_call 7; refine (held22t (W := w) (a0 := ⟨w.heap.size, 0, none⟩) (c0 := .int .u64 l) (a1 := ⟨w.heap.size, 1, none⟩) (c1 := .int .u64 n) (a2 := ⟨w.heap.size, 2, none⟩) (c2 := .int .u64 o) (a3 := ⟨w.heap.size, 3, none⟩) (c3 := .int .u64 t) (a4 := ⟨w.heap.size, 4, none⟩) (c4 := .int .i64 k) (a5 := ⟨w.heap.size, 5, none⟩) (c5 := .int .i64 v) (a6 := ⟨w.heap.size + 1, 0, none⟩) (c6 := .int .u64 a) (a7 := ⟨w.heap.size + 1, 1, none⟩) (c7 := .int .u64 m) (a8 := ⟨w.heap.size + 2, 0, none⟩) (c8 := .int .u64 b) (a9 := ⟨w.heap.size + 2, 1, none⟩) (c9 := .int .u64 p) (a10 := ⟨X, 0, none⟩) (c10 := .int .u64 x0) (a11 := ⟨X, 1, none⟩) (c11 := .int .u64 x1) (a12 := ⟨X, 2, none⟩) (c12 := .int .u64 x2) (a13 := ⟨X, 3, none⟩) (c13 := .int .u64 x3) (a14 := ⟨X, 4, none⟩) (c14 := .int .i64 x4) (a15 := ⟨X, 5, none⟩) (c15 := .int .i64 x5) (a16 := ⟨Y, 0, none⟩) (c16 := .int .u64 x0) (a17 := ⟨Y, 1, none⟩) (c17 := .int .u64 x1) (a18 := ⟨Y, 2, none⟩) (c18 := .int .u64 x2) (a19 := ⟨Y, 3, none⟩) (c19 := .int .u64 x3) (a20 := ⟨Y, 4, none⟩) (c20 := .int .i64 x4) (a21 := ⟨Y, 5, none⟩) (c21 := .int .i64 x5) hAw ?_ ?_ ?_ ?_ ?_ ?_ ?_ ?_ ?_ ?_ ?_ ?_ ?_ ?_ ?_ ?_ ?_ ?_ ?_ ?_ ?_ ?_ ?_ ?_ ).mono ?_; (simp [*]); (simp [*]); (simp [*]); (simp [*]); (simp [*]); (simp [*]); (simp [*]); (simp [*]); (simp [*]); (simp [*]); (simp [*]); (simp [*]); (simp [*]); (simp [*]); (simp [*]); (simp [*]); (simp [*]); (simp [*]); (simp [*]); (simp [*]); (simp [*]); (simp [*]); (simp [*]); (simp [*]); rintro e w9 ⟨rfl, g0, g1, g2, g3, g4, g5, g6, g7, g8, g9, g10, g11, g12, g13, g14, g15, g16, g17, g18, g19, g20, g21, g22, g23⟩))
  go_wp2
  go_ret
  exact ⟨rfl, g23⟩
end Go.Proofs.YtcmdndgaggbhoaaDoor.Ev
