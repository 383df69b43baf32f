/- Walks: how a field is written. -/
import Derived.Test.YtcmdndgaggbhoaaDoorEventD
import Derived.Test.YtcmdndgaggbhoaaDoorWireAll2
import Derived.IntWalk
namespace Go.Proofs.YtcmdndgaggbhoaaDoor.Ev
open Go.RowKit
open Wr

theorem unused_any (n : Nat) (hn : n ≤ 8) (w : World) :
    Calls Tryd.prog 45 #[.int .i64 n] w fun e w' => e = .returned (.int .i64 (64 - 8 * n)) ∧ w = w' := by
  go_enter Tryd.func45, Tryd.ntmps45
  go_wp2
  go_ret
  exact ⟨rfl, rfl⟩
theorem unused_8 (w : World) : Calls Tryd.prog 45 #[.int .i64 8] w fun e w' => e = .returned (.int .i64 0) ∧ w = w' := unused_any 8 (by decide) w
theorem unused_1 (w : World) : Calls Tryd.prog 45 #[.int .i64 1] w fun e w' => e = .returned (.int .i64 56) ∧ w = w' := unused_any 1 (by decide) w

set_option maxHeartbeats 1000000 in
theorem putL_any (r : Wt) (n : Int) (h0 : 0 ≤ n) (h1 : n ≤ 18446744073709551615) (w : World) :
    Calls Tryd.prog 29 #[r.val, .int .i64 8, .int .u64 n] w fun e w' => e = .returned (putW r 8 n).val ∧ Below w.heap.size w w' := by
  have hput := put_any r 8 n
  obtain ⟨z, hz⟩ : ∃ z, z = putW r 8 n := ⟨_, rfl⟩
  rw [← hz] at hput ⊢
  clear hz
  have hw : IntKind.u64.wrap n = n := IntWalk.u64_in n ⟨h0, h1⟩
  clear h1
  obtain ⟨s, most, err⟩ := r
  obtain ⟨s', most', err'⟩ := z
  simp only [Wt.val] at hput ⊢
  go_enter Tryd.func29, Tryd.ntmps29
  go_wp2_with (go_at_call 45; refine (unused_8 _).mono ?_; rintro e w' ⟨rfl, rfl⟩)
  refine named_wp fun W hW => ?_
  have hB : Below w.heap.size w W := by rw [hW]; go_grown
  have hR : Blk W w.heap.size [.string s, .int .i64 most, .int .i64 err] := by rw [hW]; exact (Blk.is _ rfl).alloc _
  have hZ : Blk W (w.heap.size + 1) [.string ⟨#[]⟩, .int .i64 0, .int .i64 0] := by rw [hW]; exact Blk.is _ (by simp)
  clear hW
  have c0 := hR.cell 0 _ rfl
  have c1 := hR.cell 1 _ rfl
  have c2 := hR.cell 2 _ rfl
  go_region_with ((go_at_call 46; refine (hput _).mono ?_; rintro e w9 ⟨rfl, hb9⟩; have hZ1 := hZ.drew.later hb9; have hB1 := bstep hB.drew hb9; have d0 := hZ1.cell 0 _ rfl; have d1 := hZ1.cell 1 _ rfl; have d2 := hZ1.cell 2 _ rfl; have f0 := hZ1.fr 0 _ rfl; have f1 := hZ1.fr 1 _ rfl; have f2 := hZ1.fr 2 _ rfl; have hlt1 := hZ1.lt; clear hb9))
  all_goals
    go_wp2
    refine named_post fun V hV => ?_
    have hVR : Blk V (w.heap.size + 1) [.string s', .int .i64 most', .int .i64 err'] := by rw [hV]; exact (((hZ1.set 0 _).set 1 _).set 2 _)
    have hVB : Below w.heap.size w V := by rw [hV]; exact (((hB1.setCell (p := ⟨w.heap.size + 1, 0, none⟩) (by simp) _).setCell (p := ⟨w.heap.size + 1, 1, none⟩) (by simp) _).setCell (p := ⟨w.heap.size + 1, 2, none⟩) (by simp) _)
    clear hV d0 d1 d2 f0 f1 f2
    have e0 := hVR.cell 0 _ rfl
    have e1 := hVR.cell 1 _ rfl
    have e2 := hVR.cell 2 _ rfl
    refine bodyPost_ret (by simp [results, Tryd.results29, go_sem, e0, e1, e2]; try rfl) rfl ?_
    exact ⟨rfl, hVB⟩
set_option maxHeartbeats 1000000 in
theorem putK_any (r : Wt) (n : Int) (h0 : 0 ≤ n) (h1 : n ≤ 255) (w : World) :
    Calls Tryd.prog 31 #[r.val, .int .i64 1, .int .i64 n] w fun e w' => e = .returned (putW r 1 n).val ∧ Below w.heap.size w w' := by
  have hput := put_any r 1 n
  obtain ⟨z, hz⟩ : ∃ z, z = putW r 1 n := ⟨_, rfl⟩
  rw [← hz] at hput ⊢
  clear hz
  have hw : IntKind.u64.wrap n = n := IntWalk.u64_in n ⟨h0, by omega⟩
  have hw2 : IntKind.u64.wrap (n * 72057594037927936) = n * 72057594037927936 := IntWalk.u64_in _ ⟨by omega, by omega⟩
  have hw3 : n * 72057594037927936 / 72057594037927936 = n := by omega
  obtain ⟨s, most, err⟩ := r
  obtain ⟨s', most', err'⟩ := z
  simp only [Wt.val] at hput ⊢
  go_enter Tryd.func31, Tryd.ntmps31
  go_wp2_with (go_at_call 45; refine (unused_1 _).mono ?_; rintro e w' ⟨rfl, rfl⟩)
  refine named_wp fun W hW => ?_
  have hB : Below w.heap.size w W := by rw [hW]; go_grown
  have hR : Blk W w.heap.size [.string s, .int .i64 most, .int .i64 err] := by rw [hW]; exact (Blk.is _ rfl).alloc _
  have hZ : Blk W (w.heap.size + 1) [.string ⟨#[]⟩, .int .i64 0, .int .i64 0] := by rw [hW]; exact Blk.is _ (by simp)
  clear hW
  have c0 := hR.cell 0 _ rfl
  have c1 := hR.cell 1 _ rfl
  have c2 := hR.cell 2 _ rfl
  go_region_with ((go_at_call 46; refine (hput _).mono ?_; rintro e w9 ⟨rfl, hb9⟩; have hZ1 := hZ.drew.later hb9; have hB1 := bstep hB.drew hb9; have d0 := hZ1.cell 0 _ rfl; have d1 := hZ1.cell 1 _ rfl; have d2 := hZ1.cell 2 _ rfl; have f0 := hZ1.fr 0 _ rfl; have f1 := hZ1.fr 1 _ rfl; have f2 := hZ1.fr 2 _ rfl; have hlt1 := hZ1.lt; clear hb9))
  all_goals
    go_wp2
    refine named_post fun V hV => ?_
    have hVR : Blk V (w.heap.size + 1) [.string s', .int .i64 most', .int .i64 err'] := by rw [hV]; exact (((hZ1.set 0 _).set 1 _).set 2 _)
    have hVB : Below w.heap.size w V := by rw [hV]; exact (((hB1.setCell (p := ⟨w.heap.size + 1, 0, none⟩) (by simp) _).setCell (p := ⟨w.heap.size + 1, 1, none⟩) (by simp) _).setCell (p := ⟨w.heap.size + 1, 2, none⟩) (by simp) _)
    clear hV d0 d1 d2 f0 f1 f2
    have e0 := hVR.cell 0 _ rfl
    have e1 := hVR.cell 1 _ rfl
    have e2 := hVR.cell 2 _ rfl
    refine bodyPost_ret (by simp [results, Tryd.results31, go_sem, e0, e1, e2]; try rfl) rfl ?_
    exact ⟨rfl, hVB⟩
set_option maxHeartbeats 1000000 in
theorem putV_any (r : Wt) (n m : Int) (h0 : 0 ≤ m) (h1 : m ≤ 18446744073709551615) (hw : IntKind.u64.wrap n = m) (w : World) :
    Calls Tryd.prog 31 #[r.val, .int .i64 8, .int .i64 n] w fun e w' => e = .returned (putW r 8 m).val ∧ Below w.heap.size w w' := by
  have hput := put_any r 8 m
  obtain ⟨z, hz⟩ : ∃ z, z = putW r 8 m := ⟨_, rfl⟩
  rw [← hz] at hput ⊢
  clear hz
  have hw2 : IntKind.u64.wrap m = m := IntWalk.u64_in _ ⟨h0, h1⟩
  clear h1
  obtain ⟨s, most, err⟩ := r
  obtain ⟨s', most', err'⟩ := z
  simp only [Wt.val] at hput ⊢
  go_enter Tryd.func31, Tryd.ntmps31
  go_wp2_with (go_at_call 45; refine (unused_8 _).mono ?_; rintro e w' ⟨rfl, rfl⟩)
  refine named_wp fun W hW => ?_
  have hB : Below w.heap.size w W := by rw [hW]; go_grown
  have hR : Blk W w.heap.size [.string s, .int .i64 most, .int .i64 err] := by rw [hW]; exact (Blk.is _ rfl).alloc _
  have hZ : Blk W (w.heap.size + 1) [.string ⟨#[]⟩, .int .i64 0, .int .i64 0] := by rw [hW]; exact Blk.is _ (by simp)
  clear hW
  have c0 := hR.cell 0 _ rfl
  have c1 := hR.cell 1 _ rfl
  have c2 := hR.cell 2 _ rfl
  go_region_with ((go_at_call 46; refine (hput _).mono ?_; rintro e w9 ⟨rfl, hb9⟩; have hZ1 := hZ.drew.later hb9; have hB1 := bstep hB.drew hb9; have d0 := hZ1.cell 0 _ rfl; have d1 := hZ1.cell 1 _ rfl; have d2 := hZ1.cell 2 _ rfl; have f0 := hZ1.fr 0 _ rfl; have f1 := hZ1.fr 1 _ rfl; have f2 := hZ1.fr 2 _ rfl; have hlt1 := hZ1.lt; clear hb9))
  all_goals
    go_wp2
    refine named_post fun V hV => ?_
    have hVR : Blk V (w.heap.size + 1) [.string s', .int .i64 most', .int .i64 err'] := by rw [hV]; exact (((hZ1.set 0 _).set 1 _).set 2 _)
    have hVB : Below w.heap.size w V := by rw [hV]; exact (((hB1.setCell (p := ⟨w.heap.size + 1, 0, none⟩) (by simp) _).setCell (p := ⟨w.heap.size + 1, 1, none⟩) (by simp) _).setCell (p := ⟨w.heap.size + 1, 2, none⟩) (by simp) _)
    clear hV d0 d1 d2 f0 f1 f2
    have e0 := hVR.cell 0 _ rfl
    have e1 := hVR.cell 1 _ rfl
    have e2 := hVR.cell 2 _ rfl
    refine bodyPost_ret (by simp [results, Tryd.results31, go_sem, e0, e1, e2]; try rfl) rfl ?_
    exact ⟨rfl, hVB⟩
end Go.Proofs.YtcmdndgaggbhoaaDoor.Ev
