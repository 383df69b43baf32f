/- Walks: the document's own Depth and Nodes. -/
import Derived.Test.YtfibmdbplfghcaaGreatDoorAstRf
import Derived.Test.YtfibmdbplfghcaaGreatDoorAstRd
namespace Go.Proofs.YtfibmdbplfghcaaGreatDoor
open Go.RowKit
open A8 Tk7

set_option maxRecDepth 100000 in
theorem rDepth_any (T : Tr) (w : World) (hT : TrW w T) (hn : nodesN T.nd ≤ 1000000) :
    Calls Tryz.prog 28 #[.agg T.row.toArray] w fun e w' => e = .returned (.tuple #[.int .i64 ((if soundN 1 T.nd = true then depthN T.nd else 0 : Nat) : Int), .int .i64 (soundE T.nd)]) ∧ Below w.heap.size w w' := by
  have hS := fun w1 (hb : Below w.heap.size w w1) => rSound_any T w1 (hT.later hb)
  have hD := fun w1 (hb : Below w.heap.size w w1) => rdepth_any T w1 (hT.later hb) hn
  have hse : soundE T.nd = if soundN 1 T.nd = true then 0 else 3 := rfl
  rw [hse] at hS ⊢
  have hbx : ∀ w1, Below (w.alloc (.cells T.row.toArray 28)).heap.size (w.alloc (.cells T.row.toArray 28)) w1 → Blk w1 w.heap.size T.row := fun w1 hb => (Blk.new w _ _).later hb
  obtain ⟨r, hr⟩ : ∃ r, r = soundN 1 T.nd := ⟨_, rfl⟩
  obtain ⟨D, hDD⟩ : ∃ D, D = depthN T.nd := ⟨_, rfl⟩
  rw [← hr] at hS ⊢
  rw [← hDD] at hD ⊢
  clear hse hr hDD hT hn
  obtain ⟨k, mn, mx, ⟨⟨kd, bd, bn, cs, nm⟩, sc⟩, sk, ks⟩ := T
  simp only [Tr.row] at hS hD hbx ⊢
  have HS := Lib.hid hS
  have HD := Lib.hid hD
  have HX := Lib.hid hbx
  clear hS hD hbx
  cases r with
  | true =>
    go_enter Tryz.func28, Tryz.ntmps28
    go_wp2_with (first | (go_at_call 17; refine (HS.out _ (b1 _ _)).mono ?_; rintro e w2 ⟨rfl, hb2⟩; have hB := HX.out _ hb2; have HB := Lib.hid (bstep (b1 _ _) hb2); have c0 := hB.cell 0 _ rfl; have c1 := hB.cell 1 _ rfl; have c2 := hB.cell 2 _ rfl; have c3 := hB.cell 3 _ rfl; have c4 := hB.cell 4 _ rfl; have c5 := hB.cell 5 _ rfl; have c6 := hB.cell 6 _ rfl; have c7 := hB.cell 7 _ rfl; have c8 := hB.cell 8 _ rfl; clear hB hb2) | (go_at_call 60; refine (HD.out _ HB.out).mono ?_; rintro e w3 ⟨rfl, hb3⟩))
    go_ret2
    exact ⟨rfl, bstep HB.out hb3⟩
  | false =>
    go_enter Tryz.func28, Tryz.ntmps28
    go_wp2_with (go_at_call 17; refine (HS.out _ (b1 _ _)).mono ?_; rintro e w2 ⟨rfl, hb2⟩)
    go_ret2
    exact ⟨rfl, bstep (b1 _ _) hb2⟩
set_option maxRecDepth 100000 in
theorem rNodes_any (T : Tr) (w : World) (hT : TrW w T) (hn : nodesN T.nd ≤ 1000000) :
    Calls Tryz.prog 30 #[.agg T.row.toArray] w fun e w' => e = .returned (.tuple #[.int .i64 ((if soundN 1 T.nd = true then nodesN T.nd else 0 : Nat) : Int), .int .i64 (soundE T.nd)]) ∧ Below w.heap.size w w' := by
  have hS := fun w1 (hb : Below w.heap.size w w1) => rSound_any T w1 (hT.later hb)
  have hD := fun w1 (hb : Below w.heap.size w w1) => rnodes_any T w1 (hT.later hb) hn
  have hse : soundE T.nd = if soundN 1 T.nd = true then 0 else 3 := rfl
  rw [hse] at hS ⊢
  have hbx : ∀ w1, Below (w.alloc (.cells T.row.toArray 28)).heap.size (w.alloc (.cells T.row.toArray 28)) w1 → Blk w1 w.heap.size T.row := fun w1 hb => (Blk.new w _ _).later hb
  obtain ⟨r, hr⟩ : ∃ r, r = soundN 1 T.nd := ⟨_, rfl⟩
  obtain ⟨D, hDD⟩ : ∃ D, D = nodesN T.nd := ⟨_, rfl⟩
  rw [← hr] at hS ⊢
  rw [← hDD] at hD ⊢
  clear hse hr hDD hT hn
  obtain ⟨k, mn, mx, ⟨⟨kd, bd, bn, cs, nm⟩, sc⟩, sk, ks⟩ := T
  simp only [Tr.row] at hS hD hbx ⊢
  have HS := Lib.hid hS
  have HD := Lib.hid hD
  have HX := Lib.hid hbx
  clear hS hD hbx
  cases r with
  | true =>
    go_enter Tryz.func30, Tryz.ntmps30
    go_wp2_with (first | (go_at_call 17; refine (HS.out _ (b1 _ _)).mono ?_; rintro e w2 ⟨rfl, hb2⟩; have hB := HX.out _ hb2; have HB := Lib.hid (bstep (b1 _ _) hb2); have c0 := hB.cell 0 _ rfl; have c1 := hB.cell 1 _ rfl; have c2 := hB.cell 2 _ rfl; have c3 := hB.cell 3 _ rfl; have c4 := hB.cell 4 _ rfl; have c5 := hB.cell 5 _ rfl; have c6 := hB.cell 6 _ rfl; have c7 := hB.cell 7 _ rfl; have c8 := hB.cell 8 _ rfl; clear hB hb2) | (go_at_call 61; refine (HD.out _ HB.out).mono ?_; rintro e w3 ⟨rfl, hb3⟩))
    go_ret2
    exact ⟨rfl, bstep HB.out hb3⟩
  | false =>
    go_enter Tryz.func30, Tryz.ntmps30
    go_wp2_with (go_at_call 17; refine (HS.out _ (b1 _ _)).mono ?_; rintro e w2 ⟨rfl, hb2⟩)
    go_ret2
    exact ⟨rfl, bstep (b1 _ _) hb2⟩
end Go.Proofs.YtfibmdbplfghcaaGreatDoor
