/- The chapter's examples: awake and WireKnown. -/
import Derived.Test.YtgcgoiaadigmfaaWireI
import Derived.Test.YtgcgoiaadigmfaaWireQ
namespace Go.Proofs.Ytgcgoiaadigmfaa
open Go.RowKit
open Wr

theorem faults_same (s : ByteArray) (at_ e a : Int) (w : World) :
    Calls Try.prog 40 #[.agg #[.string s, .int .i64 at_, .int .i64 e, .int .i64 a], .int .i64 e, .int .i64 a] w fun r w' => r = .returned (.bool true) ∧ Below w.heap.size w w' := by
  go_enter Try.func40, Try.ntmps40
  go_wp2
  go_ret
  exact ⟨by first | rfl | simp, by go_grown⟩
theorem written_is (r : Wt) (want : ByteArray) (e : Int) (h : doneW r = (want, e)) (w : World) :
    Calls Try.prog 41 #[r.val, .string want, .int .i64 e] w fun q w' => q = .returned (.bool true) ∧ Below w.heap.size w w' := by
  have hd := done_any r
  rw [h] at hd
  clear h
  obtain ⟨s, most, err⟩ := r
  simp only [Wt.val] at hd ⊢
  go_enter Try.func41, Try.ntmps41
  go_wp2_with fail
  refine named fun W hW => ?_
  have hB : Below w.heap.size w W := by rw [hW]; go_grown
  clear hW
  refine (hd _).mono ?_
  rintro e' w1 ⟨rfl, hb1⟩
  go_wp2
  go_ret
  exact ⟨by first | rfl | simp, bstep hB hb1⟩
theorem k_read123 (w : World) : Calls Try.prog 24 #[.string ⟨#[1, 2, 3]⟩] w fun e w' => e = .returned (.agg #[.string ⟨#[1, 2, 3]⟩, .int .i64 0, .int .i64 0, .int .i64 0]) ∧ Below w.heap.size w w' := by
  have h := read_any ⟨#[1, 2, 3]⟩ w
  rw [show readR ⟨#[1, 2, 3]⟩ = ⟨⟨#[1, 2, 3]⟩, 0, 0, 0⟩ by kernel_rfl] at h
  exact h
theorem k_uint2 (w : World) : Calls Try.prog 10 #[.agg #[.string ⟨#[1, 2, 3]⟩, .int .i64 0, .int .i64 0, .int .i64 0], .int .i64 2] w fun e w' => e = .returned (.tuple #[.agg #[.string ⟨#[1, 2, 3]⟩, .int .i64 2, .int .i64 0, .int .i64 0], .int .u64 258]) ∧ Below w.heap.size w w' := by
  have h := uint_any ⟨⟨#[1, 2, 3]⟩, 0, 0, 0⟩ 2 w (by decide)
  rw [show uintR ⟨⟨#[1, 2, 3]⟩, 0, 0, 0⟩ 2 = (⟨⟨#[1, 2, 3]⟩, 2, 0, 0⟩, 258) by kernel_rfl] at h
  exact h
theorem k_uint1 (w : World) : Calls Try.prog 10 #[.agg #[.string ⟨#[1, 2, 3]⟩, .int .i64 2, .int .i64 0, .int .i64 0], .int .i64 1] w fun e w' => e = .returned (.tuple #[.agg #[.string ⟨#[1, 2, 3]⟩, .int .i64 3, .int .i64 0, .int .i64 0], .int .u64 3]) ∧ Below w.heap.size w w' := by
  have h := uint_any ⟨⟨#[1, 2, 3]⟩, 2, 0, 0⟩ 1 w (by decide)
  rw [show uintR ⟨⟨#[1, 2, 3]⟩, 2, 0, 0⟩ 1 = (⟨⟨#[1, 2, 3]⟩, 3, 0, 0⟩, 3) by kernel_rfl] at h
  exact h
theorem k_end (w : World) : Calls Try.prog 22 #[.agg #[.string ⟨#[1, 2, 3]⟩, .int .i64 3, .int .i64 0, .int .i64 0]] w fun e w' => e = .returned (.agg #[.int .i64 0, .int .i64 0]) ∧ Below w.heap.size w w' := by
  have h := end_any ⟨⟨#[1, 2, 3]⟩, 3, 0, 0⟩ w (by decide)
  rw [show (endR ⟨⟨#[1, 2, 3]⟩, 3, 0, 0⟩).e = 0 by kernel_rfl, show (endR ⟨⟨#[1, 2, 3]⟩, 3, 0, 0⟩).a = 0 by kernel_rfl] at h
  exact h
theorem k_make2 (w : World) : Calls Try.prog 27 #[.int .i64 2] w fun e w' => e = .returned (.agg #[.string ⟨#[]⟩, .int .i64 2, .int .i64 0]) ∧ Below w.heap.size w w' := by
  have h := make_any 2 w
  rw [show makeW 2 = ⟨⟨#[]⟩, 2, 0⟩ by kernel_rfl] at h
  exact h
theorem k_put258 (w : World) : Calls Try.prog 29 #[.agg #[.string ⟨#[]⟩, .int .i64 2, .int .i64 0], .int .i64 2, .int .u64 258] w fun e w' => e = .returned (.agg #[.string ⟨#[1, 2]⟩, .int .i64 2, .int .i64 0]) ∧ Below w.heap.size w w' := by
  have h := put_any ⟨⟨#[]⟩, 2, 0⟩ 2 258 w
  rw [show putW ⟨⟨#[]⟩, 2, 0⟩ 2 258 = ⟨⟨#[1, 2]⟩, 2, 0⟩ by kernel_rfl] at h
  exact h
set_option maxHeartbeats 2000000 in
theorem awake_any (w : World) : Calls Try.prog 9 #[] w fun e w' => e = .returned (.bool true) ∧ Below w.heap.size w w' := by
  go_enter Try.func9, Try.ntmps9
  go_wp2_with fail
  refine named fun W1 hW => ?_
  have hB : Below w.heap.size w W1 := by rw [hW]; exact (Below.refl _ _)
  clear hW
  refine (k_read123 _).mono ?_
  rintro e w2 ⟨rfl, hb⟩
  replace hB := bstep hB hb
  clear hb
  go_wp2_with fail
  refine (k_uint2 _).mono ?_
  rintro e w3 ⟨rfl, hb⟩
  replace hB := bstep hB hb
  clear hb
  go_wp2_with fail
  have hBold := hB.size
  refine named fun W4 hW => ?_
  have hKr : Blk W4 w3.heap.size [.string ⟨#[1, 2, 3]⟩, .int .i64 2, .int .i64 0, .int .i64 0] := by rw [hW]; exact (Blk.is (us := [.string ⟨#[1, 2, 3]⟩, .int .i64 2, .int .i64 0, .int .i64 0]) _ rfl)
  replace hB : Below w.heap.size w W4 := by rw [hW]; exact (hB).alloc hB.size _
  have hler : w.heap.size ≤ w3.heap.size := by have := hBold; omega
  clear hW hBold
  refine (k_uint1 _).mono ?_
  rintro e w5 ⟨rfl, hb⟩
  replace hKr := hKr.later hb
  replace hB := bstep hB hb
  clear hb
  have cr0 := hKr.cell 0 _ rfl
  have fr0 := hKr.fr 0 _ rfl
  have cr1 := hKr.cell 1 _ rfl
  have fr1 := hKr.fr 1 _ rfl
  have cr2 := hKr.cell 2 _ rfl
  have fr2 := hKr.fr 2 _ rfl
  have cr3 := hKr.cell 3 _ rfl
  have fr3 := hKr.fr 3 _ rfl
  go_wp2_with fail
  refine named fun W6 hW => ?_
  replace hKr : Blk W6 w3.heap.size [.string ⟨#[1, 2, 3]⟩, .int .i64 3, .int .i64 0, .int .i64 0] := by rw [hW]; exact ((((hKr.set 0 _).set 1 _).set 2 _).set 3 _)
  replace hB : Below w.heap.size w W6 := by rw [hW]; exact ((((hB).setCell (p := ⟨w3.heap.size, 0, none⟩) hler _).setCell (p := ⟨w3.heap.size, 1, none⟩) hler _).setCell (p := ⟨w3.heap.size, 2, none⟩) hler _).setCell (p := ⟨w3.heap.size, 3, none⟩) hler _
  clear hW cr0 fr0 cr1 fr1 cr2 fr2 cr3 fr3
  have cr0 := hKr.cell 0 _ rfl
  have fr0 := hKr.fr 0 _ rfl
  have cr1 := hKr.cell 1 _ rfl
  have fr1 := hKr.fr 1 _ rfl
  have cr2 := hKr.cell 2 _ rfl
  have fr2 := hKr.fr 2 _ rfl
  have cr3 := hKr.cell 3 _ rfl
  have fr3 := hKr.fr 3 _ rfl
  refine (k_end _).mono ?_
  rintro e w7 ⟨rfl, hb⟩
  replace hKr := hKr.later hb
  replace hB := bstep hB hb
  clear hb
  go_wp2_with fail
  refine (k_make2 _).mono ?_
  rintro e w8 ⟨rfl, hb⟩
  replace hKr := hKr.later hb
  replace hB := bstep hB hb
  clear hb
  go_wp2_with fail
  refine (k_put258 _).mono ?_
  rintro e w9 ⟨rfl, hb⟩
  replace hKr := hKr.later hb
  replace hB := bstep hB hb
  clear hb
  go_wp2_with fail
  refine (written_is ⟨⟨#[1, 2]⟩, 2, 0⟩ ⟨#[1, 2]⟩ 0 (by kernel_rfl) _).mono ?_
  rintro e w10 ⟨rfl, hb⟩
  replace hKr := hKr.later hb
  replace hB := bstep hB hb
  clear hb
  go_wp2
  go_ret
  exact ⟨by first | rfl | simp, hB⟩
theorem k_read1 (w : World) : Calls Try.prog 24 #[.string ⟨#[1]⟩] w fun e w' => e = .returned (.agg #[.string ⟨#[1]⟩, .int .i64 0, .int .i64 0, .int .i64 0]) ∧ Below w.heap.size w w' := by
  have h := read_any ⟨#[1]⟩ w
  rw [show readR ⟨#[1]⟩ = ⟨⟨#[1]⟩, 0, 0, 0⟩ by kernel_rfl] at h
  exact h
theorem k_uint12 (w : World) : Calls Try.prog 10 #[.agg #[.string ⟨#[1]⟩, .int .i64 0, .int .i64 0, .int .i64 0], .int .i64 2] w fun e w' => e = .returned (.tuple #[.agg #[.string ⟨#[1]⟩, .int .i64 0, .int .i64 5, .int .i64 0], .int .u64 0]) ∧ Below w.heap.size w w' := by
  have h := uint_any ⟨⟨#[1]⟩, 0, 0, 0⟩ 2 w (by decide)
  rw [show uintR ⟨⟨#[1]⟩, 0, 0, 0⟩ 2 = (⟨⟨#[1]⟩, 0, 5, 0⟩, 0) by kernel_rfl] at h
  exact h
theorem k_uint13 (w : World) : Calls Try.prog 10 #[.agg #[.string ⟨#[1]⟩, .int .i64 0, .int .i64 0, .int .i64 0], .int .i64 3] w fun e w' => e = .returned (.tuple #[.agg #[.string ⟨#[1]⟩, .int .i64 0, .int .i64 2, .int .i64 0], .int .u64 0]) ∧ Below w.heap.size w w' := by
  have h := uint_any ⟨⟨#[1]⟩, 0, 0, 0⟩ 3 w (by decide)
  rw [show uintR ⟨⟨#[1]⟩, 0, 0, 0⟩ 3 = (⟨⟨#[1]⟩, 0, 2, 0⟩, 0) by kernel_rfl] at h
  exact h
theorem k_readff (w : World) : Calls Try.prog 24 #[.string ⟨#[255, 255, 255, 255, 255, 255, 255, 255]⟩] w fun e w' => e = .returned (.agg #[.string ⟨#[255, 255, 255, 255, 255, 255, 255, 255]⟩, .int .i64 0, .int .i64 0, .int .i64 0]) ∧ Below w.heap.size w w' := by
  have h := read_any ⟨#[255, 255, 255, 255, 255, 255, 255, 255]⟩ w
  rw [show readR ⟨#[255, 255, 255, 255, 255, 255, 255, 255]⟩ = ⟨⟨#[255, 255, 255, 255, 255, 255, 255, 255]⟩, 0, 0, 0⟩ by kernel_rfl] at h
  exact h
theorem k_int64 (w : World) : Calls Try.prog 12 #[.agg #[.string ⟨#[255, 255, 255, 255, 255, 255, 255, 255]⟩, .int .i64 0, .int .i64 0, .int .i64 0]] w fun e w' => e = .returned (.tuple #[.agg #[.string ⟨#[255, 255, 255, 255, 255, 255, 255, 255]⟩, .int .i64 8, .int .i64 0, .int .i64 0], .int .i64 (-1)]) ∧ Below w.heap.size w w' := by
  have h := int64_any ⟨⟨#[255, 255, 255, 255, 255, 255, 255, 255]⟩, 0, 0, 0⟩ w (by decide)
  rw [show int64R ⟨⟨#[255, 255, 255, 255, 255, 255, 255, 255]⟩, 0, 0, 0⟩ = (⟨⟨#[255, 255, 255, 255, 255, 255, 255, 255]⟩, 8, 0, 0⟩, -1) by kernel_rfl] at h
  exact h
theorem k_read5 (w : World) : Calls Try.prog 24 #[.string ⟨#[0, 2, 97, 98, 99]⟩] w fun e w' => e = .returned (.agg #[.string ⟨#[0, 2, 97, 98, 99]⟩, .int .i64 0, .int .i64 0, .int .i64 0]) ∧ Below w.heap.size w w' := by
  have h := read_any ⟨#[0, 2, 97, 98, 99]⟩ w
  rw [show readR ⟨#[0, 2, 97, 98, 99]⟩ = ⟨⟨#[0, 2, 97, 98, 99]⟩, 0, 0, 0⟩ by kernel_rfl] at h
  exact h
theorem k_sized2 (w : World) : Calls Try.prog 16 #[.agg #[.string ⟨#[0, 2, 97, 98, 99]⟩, .int .i64 0, .int .i64 0, .int .i64 0], .int .i64 2] w fun e w' => e = .returned (.tuple #[.agg #[.string ⟨#[0, 2, 97, 98, 99]⟩, .int .i64 4, .int .i64 0, .int .i64 0], .string ⟨#[97, 98]⟩]) ∧ Below w.heap.size w w' := by
  have h := sizedR_any ⟨⟨#[0, 2, 97, 98, 99]⟩, 0, 0, 0⟩ 2 w (by decide)
  rw [show sizedR ⟨⟨#[0, 2, 97, 98, 99]⟩, 0, 0, 0⟩ 2 = (⟨⟨#[0, 2, 97, 98, 99]⟩, 4, 0, 0⟩, ⟨#[97, 98]⟩) by kernel_rfl] at h
  exact h
theorem k_sized1 (w : World) : Calls Try.prog 16 #[.agg #[.string ⟨#[0, 2, 97, 98, 99]⟩, .int .i64 0, .int .i64 0, .int .i64 0], .int .i64 1] w fun e w' => e = .returned (.tuple #[.agg #[.string ⟨#[0, 2, 97, 98, 99]⟩, .int .i64 0, .int .i64 4, .int .i64 0], .string ⟨#[]⟩]) ∧ Below w.heap.size w w' := by
  have h := sizedR_any ⟨⟨#[0, 2, 97, 98, 99]⟩, 0, 0, 0⟩ 1 w (by decide)
  rw [show sizedR ⟨⟨#[0, 2, 97, 98, 99]⟩, 0, 0, 0⟩ 1 = (⟨⟨#[0, 2, 97, 98, 99]⟩, 0, 4, 0⟩, ⟨#[]⟩) by kernel_rfl] at h
  exact h
theorem k_read3 (w : World) : Calls Try.prog 24 #[.string ⟨#[0, 2, 97]⟩] w fun e w' => e = .returned (.agg #[.string ⟨#[0, 2, 97]⟩, .int .i64 0, .int .i64 0, .int .i64 0]) ∧ Below w.heap.size w w' := by
  have h := read_any ⟨#[0, 2, 97]⟩ w
  rw [show readR ⟨#[0, 2, 97]⟩ = ⟨⟨#[0, 2, 97]⟩, 0, 0, 0⟩ by kernel_rfl] at h
  exact h
theorem k_sized9 (w : World) : Calls Try.prog 16 #[.agg #[.string ⟨#[0, 2, 97]⟩, .int .i64 0, .int .i64 0, .int .i64 0], .int .i64 9] w fun e w' => e = .returned (.tuple #[.agg #[.string ⟨#[0, 2, 97]⟩, .int .i64 2, .int .i64 5, .int .i64 2], .string ⟨#[]⟩]) ∧ Below w.heap.size w w' := by
  have h := sizedR_any ⟨⟨#[0, 2, 97]⟩, 0, 0, 0⟩ 9 w (by decide)
  rw [show sizedR ⟨⟨#[0, 2, 97]⟩, 0, 0, 0⟩ 9 = (⟨⟨#[0, 2, 97]⟩, 2, 5, 2⟩, ⟨#[]⟩) by kernel_rfl] at h
  exact h
theorem k_read0 (w : World) : Calls Try.prog 24 #[.string ⟨#[0]⟩] w fun e w' => e = .returned (.agg #[.string ⟨#[0]⟩, .int .i64 0, .int .i64 0, .int .i64 0]) ∧ Below w.heap.size w w' := by
  have h := read_any ⟨#[0]⟩ w
  rw [show readR ⟨#[0]⟩ = ⟨⟨#[0]⟩, 0, 0, 0⟩ by kernel_rfl] at h
  exact h
theorem k_sized0 (w : World) : Calls Try.prog 16 #[.agg #[.string ⟨#[0]⟩, .int .i64 0, .int .i64 0, .int .i64 0], .int .i64 9] w fun e w' => e = .returned (.tuple #[.agg #[.string ⟨#[0]⟩, .int .i64 0, .int .i64 5, .int .i64 0], .string ⟨#[]⟩]) ∧ Below w.heap.size w w' := by
  have h := sizedR_any ⟨⟨#[0]⟩, 0, 0, 0⟩ 9 w (by decide)
  rw [show sizedR ⟨⟨#[0]⟩, 0, 0, 0⟩ 9 = (⟨⟨#[0]⟩, 0, 5, 0⟩, ⟨#[]⟩) by kernel_rfl] at h
  exact h
theorem k_abc (w : World) : Calls Try.prog 24 #[.string ⟨#[97, 98, 99]⟩] w fun e w' => e = .returned (.agg #[.string ⟨#[97, 98, 99]⟩, .int .i64 0, .int .i64 0, .int .i64 0]) ∧ Below w.heap.size w w' := by
  have h := read_any ⟨#[97, 98, 99]⟩ w
  rw [show readR ⟨#[97, 98, 99]⟩ = ⟨⟨#[97, 98, 99]⟩, 0, 0, 0⟩ by kernel_rfl] at h
  exact h
theorem k_wantab (w : World) : Calls Try.prog 18 #[.agg #[.string ⟨#[97, 98, 99]⟩, .int .i64 0, .int .i64 0, .int .i64 0], .string ⟨#[97, 98]⟩] w fun e w' => e = .returned (.agg #[.string ⟨#[97, 98, 99]⟩, .int .i64 2, .int .i64 0, .int .i64 0]) ∧ Below w.heap.size w w' := by
  have h := want_any ⟨⟨#[97, 98, 99]⟩, 0, 0, 0⟩ ⟨#[97, 98]⟩ w (by decide) (by decide)
  rw [show wantR ⟨⟨#[97, 98, 99]⟩, 0, 0, 0⟩ ⟨#[97, 98]⟩ = ⟨⟨#[97, 98, 99]⟩, 2, 0, 0⟩ by kernel_rfl] at h
  exact h
theorem k_wantax (w : World) : Calls Try.prog 18 #[.agg #[.string ⟨#[97, 98, 99]⟩, .int .i64 0, .int .i64 0, .int .i64 0], .string ⟨#[97, 120]⟩] w fun e w' => e = .returned (.agg #[.string ⟨#[97, 98, 99]⟩, .int .i64 0, .int .i64 3, .int .i64 0]) ∧ Below w.heap.size w w' := by
  have h := want_any ⟨⟨#[97, 98, 99]⟩, 0, 0, 0⟩ ⟨#[97, 120]⟩ w (by decide) (by decide)
  rw [show wantR ⟨⟨#[97, 98, 99]⟩, 0, 0, 0⟩ ⟨#[97, 120]⟩ = ⟨⟨#[97, 98, 99]⟩, 0, 3, 0⟩ by kernel_rfl] at h
  exact h
theorem k_a (w : World) : Calls Try.prog 24 #[.string ⟨#[97]⟩] w fun e w' => e = .returned (.agg #[.string ⟨#[97]⟩, .int .i64 0, .int .i64 0, .int .i64 0]) ∧ Below w.heap.size w w' := by
  have h := read_any ⟨#[97]⟩ w
  rw [show readR ⟨#[97]⟩ = ⟨⟨#[97]⟩, 0, 0, 0⟩ by kernel_rfl] at h
  exact h
theorem k_enda (w : World) : Calls Try.prog 22 #[.agg #[.string ⟨#[97]⟩, .int .i64 0, .int .i64 0, .int .i64 0]] w fun e w' => e = .returned (.agg #[.int .i64 4, .int .i64 0]) ∧ Below w.heap.size w w' := by
  have h := end_any ⟨⟨#[97]⟩, 0, 0, 0⟩ w (by decide)
  rw [show (endR ⟨⟨#[97]⟩, 0, 0, 0⟩).e = 4 by kernel_rfl, show (endR ⟨⟨#[97]⟩, 0, 0, 0⟩).a = 0 by kernel_rfl] at h
  exact h
theorem k_make1 (w : World) : Calls Try.prog 27 #[.int .i64 1] w fun e w' => e = .returned (.agg #[.string ⟨#[]⟩, .int .i64 1, .int .i64 0]) ∧ Below w.heap.size w w' := by
  have h := make_any 1 w
  rw [show makeW 1 = ⟨⟨#[]⟩, 1, 0⟩ by kernel_rfl] at h
  exact h
theorem k_make9 (w : World) : Calls Try.prog 27 #[.int .i64 9] w fun e w' => e = .returned (.agg #[.string ⟨#[]⟩, .int .i64 9, .int .i64 0]) ∧ Below w.heap.size w w' := by
  have h := make_any 9 w
  rw [show makeW 9 = ⟨⟨#[]⟩, 9, 0⟩ by kernel_rfl] at h
  exact h
theorem k_make3 (w : World) : Calls Try.prog 27 #[.int .i64 3] w fun e w' => e = .returned (.agg #[.string ⟨#[]⟩, .int .i64 3, .int .i64 0]) ∧ Below w.heap.size w w' := by
  have h := make_any 3 w
  rw [show makeW 3 = ⟨⟨#[]⟩, 3, 0⟩ by kernel_rfl] at h
  exact h
theorem k_make8 (w : World) : Calls Try.prog 27 #[.int .i64 8] w fun e w' => e = .returned (.agg #[.string ⟨#[]⟩, .int .i64 8, .int .i64 0]) ∧ Below w.heap.size w w' := by
  have h := make_any 8 w
  rw [show makeW 8 = ⟨⟨#[]⟩, 8, 0⟩ by kernel_rfl] at h
  exact h
theorem k_put256 (w : World) : Calls Try.prog 29 #[.agg #[.string ⟨#[]⟩, .int .i64 2, .int .i64 0], .int .i64 1, .int .u64 256] w fun e w' => e = .returned (.agg #[.string ⟨#[]⟩, .int .i64 2, .int .i64 2]) ∧ Below w.heap.size w w' := by
  have h := put_any ⟨⟨#[]⟩, 2, 0⟩ 1 256 w
  rw [show putW ⟨⟨#[]⟩, 2, 0⟩ 1 256 = ⟨⟨#[]⟩, 2, 2⟩ by kernel_rfl] at h
  exact h
theorem k_put1 (w : World) : Calls Try.prog 29 #[.agg #[.string ⟨#[]⟩, .int .i64 1, .int .i64 0], .int .i64 2, .int .u64 1] w fun e w' => e = .returned (.agg #[.string ⟨#[]⟩, .int .i64 1, .int .i64 4]) ∧ Below w.heap.size w w' := by
  have h := put_any ⟨⟨#[]⟩, 1, 0⟩ 2 1 w
  rw [show putW ⟨⟨#[]⟩, 1, 0⟩ 2 1 = ⟨⟨#[]⟩, 1, 4⟩ by kernel_rfl] at h
  exact h
theorem k_putSized (w : World) : Calls Try.prog 35 #[.agg #[.string ⟨#[]⟩, .int .i64 9, .int .i64 0], .string ⟨#[97, 98]⟩] w fun e w' => e = .returned (.agg #[.string ⟨#[0, 2, 97, 98]⟩, .int .i64 9, .int .i64 0]) ∧ Below w.heap.size w w' := by
  have h := putSized_any ⟨⟨#[]⟩, 9, 0⟩ ⟨#[97, 98]⟩ w (by decide)
  rw [show putSizedW ⟨⟨#[]⟩, 9, 0⟩ ⟨#[97, 98]⟩ = ⟨⟨#[0, 2, 97, 98]⟩, 9, 0⟩ by kernel_rfl] at h
  exact h
theorem k_add (w : World) (v : Value) (hv : Sln w v (strs [⟨#[97, 98]⟩, ⟨#[99, 100]⟩])) : Calls Try.prog 33 #[.agg #[.string ⟨#[]⟩, .int .i64 3, .int .i64 0], v] w fun e w' => e = .returned (.agg #[.string ⟨#[]⟩, .int .i64 3, .int .i64 4]) ∧ Below w.heap.size w w' := by
  have h := add_pub ⟨⟨#[]⟩, 3, 0⟩ v [⟨#[97, 98]⟩, ⟨#[99, 100]⟩] w hv (by simp) (by simp; decide)
  rw [show addW ⟨⟨#[]⟩, 3, 0⟩ [⟨#[97, 98]⟩, ⟨#[99, 100]⟩] = ⟨⟨#[]⟩, 3, 4⟩ by kernel_rfl] at h
  exact h
theorem k_putInt64 (w : World) : Calls Try.prog 31 #[.agg #[.string ⟨#[]⟩, .int .i64 8, .int .i64 0], .int .i64 (-2)] w fun e w' => e = .returned (.agg #[.string ⟨#[255, 255, 255, 255, 255, 255, 255, 254]⟩, .int .i64 8, .int .i64 0]) ∧ Below w.heap.size w w' := by
  have h := putInt64_any ⟨⟨#[]⟩, 8, 0⟩ (-2) w
  rw [show putInt64W ⟨⟨#[]⟩, 8, 0⟩ (-2) = ⟨⟨#[255, 255, 255, 255, 255, 255, 255, 254]⟩, 8, 0⟩ by kernel_rfl] at h
  exact h
set_option maxRecDepth 100000 in
set_option maxHeartbeats 4000000 in
theorem known_any (w : World) : Calls Try.prog 5 #[] w fun e w' => e = .returned (.bool true) ∧ Below w.heap.size w w' := by
  go_enter Try.func5, Try.ntmps5
  go_wp2_with fail
  refine named fun W1 hW => ?_
  have hB : Below w.heap.size w W1 := by rw [hW]; exact (Below.refl _ _)
  clear hW
  refine (k_read1 _).mono ?_
  rintro e w2 ⟨rfl, hb⟩
  replace hB := bstep hB hb
  clear hb
  go_wp2_with fail
  refine (k_uint12 _).mono ?_
  rintro e w3 ⟨rfl, hb⟩
  replace hB := bstep hB hb
  clear hb
  go_wp2_with fail
  have hBold := hB.size
  refine named fun W4 hW => ?_
  have hKa : Blk W4 w3.heap.size [.string ⟨#[1]⟩, .int .i64 0, .int .i64 5, .int .i64 0] := by rw [hW]; exact (Blk.is (us := [.string ⟨#[1]⟩, .int .i64 0, .int .i64 5, .int .i64 0]) _ rfl)
  replace hB : Below w.heap.size w W4 := by rw [hW]; exact (hB).alloc hB.size _
  have hlea : w.heap.size ≤ w3.heap.size := by have := hBold; omega
  clear hW hBold
  refine (k_read1 _).mono ?_
  rintro e w5 ⟨rfl, hb⟩
  replace hKa := hKa.later hb
  replace hB := bstep hB hb
  clear hb
  go_wp2_with fail
  refine (k_uint13 _).mono ?_
  rintro e w6 ⟨rfl, hb⟩
  replace hKa := hKa.later hb
  replace hB := bstep hB hb
  clear hb
  go_wp2_with fail
  have hBold := hB.size
  have hltolda := hKa.lt
  refine named fun W7 hW => ?_
  replace hKa : Blk W7 w3.heap.size [.string ⟨#[1]⟩, .int .i64 0, .int .i64 5, .int .i64 0] := by rw [hW]; exact (hKa.alloc _)
  have hKb : Blk W7 w6.heap.size [.string ⟨#[1]⟩, .int .i64 0, .int .i64 2, .int .i64 0] := by rw [hW]; exact (Blk.is (us := [.string ⟨#[1]⟩, .int .i64 0, .int .i64 2, .int .i64 0]) _ rfl)
  replace hB : Below w.heap.size w W7 := by rw [hW]; exact (hB).alloc hB.size _
  have hleb : w.heap.size ≤ w6.heap.size := by have := hBold; omega
  have hltab : w3.heap.size < w6.heap.size := by have := hltolda; omega
  clear hW hBold hltolda
  refine (k_readff _).mono ?_
  rintro e w8 ⟨rfl, hb⟩
  replace hKa := hKa.later hb
  replace hKb := hKb.later hb
  replace hB := bstep hB hb
  clear hb
  go_wp2_with fail
  refine (k_int64 _).mono ?_
  rintro e w9 ⟨rfl, hb⟩
  replace hKa := hKa.later hb
  replace hKb := hKb.later hb
  replace hB := bstep hB hb
  clear hb
  have ca0 := hKa.cell 0 _ rfl
  have fa0 := hKa.fr 0 _ rfl
  have ca1 := hKa.cell 1 _ rfl
  have fa1 := hKa.fr 1 _ rfl
  have ca2 := hKa.cell 2 _ rfl
  have fa2 := hKa.fr 2 _ rfl
  have ca3 := hKa.cell 3 _ rfl
  have fa3 := hKa.fr 3 _ rfl
  have la := hKa.lt
  go_wp2_with fail
  have hBold := hB.size
  have hltolda := hKa.lt
  have hltoldb := hKb.lt
  refine named fun W10 hW => ?_
  replace hKa : Blk W10 w3.heap.size [.string ⟨#[1]⟩, .int .i64 0, .int .i64 5, .int .i64 0] := by rw [hW]; exact (hKa.alloc _)
  replace hKb : Blk W10 w6.heap.size [.string ⟨#[1]⟩, .int .i64 0, .int .i64 2, .int .i64 0] := by rw [hW]; exact (hKb.alloc _)
  have hKq : Blk W10 w9.heap.size [.string ⟨#[255, 255, 255, 255, 255, 255, 255, 255]⟩, .int .i64 8, .int .i64 0, .int .i64 0] := by rw [hW]; exact (Blk.is (us := [.string ⟨#[255, 255, 255, 255, 255, 255, 255, 255]⟩, .int .i64 8, .int .i64 0, .int .i64 0]) _ rfl)
  replace hB : Below w.heap.size w W10 := by rw [hW]; exact (hB).alloc hB.size _
  have hleq : w.heap.size ≤ w9.heap.size := by have := hBold; omega
  have hltaq : w3.heap.size < w9.heap.size := by have := hltolda; omega
  have hltbq : w6.heap.size < w9.heap.size := by have := hltoldb; omega
  clear hW ca0 fa0 ca1 fa1 ca2 fa2 ca3 fa3 la hBold hltolda hltoldb
  refine (faults_same ⟨#[1]⟩ 0 5 0 _).mono ?_
  rintro e w11 ⟨rfl, hb⟩
  replace hKa := hKa.later hb
  replace hKb := hKb.later hb
  replace hKq := hKq.later hb
  replace hB := bstep hB hb
  clear hb
  have cb0 := hKb.cell 0 _ rfl
  have fb0 := hKb.fr 0 _ rfl
  have cb1 := hKb.cell 1 _ rfl
  have fb1 := hKb.fr 1 _ rfl
  have cb2 := hKb.cell 2 _ rfl
  have fb2 := hKb.fr 2 _ rfl
  have cb3 := hKb.cell 3 _ rfl
  have fb3 := hKb.fr 3 _ rfl
  go_wp2_with fail
  clear cb0 fb0 cb1 fb1 cb2 fb2 cb3 fb3
  refine (faults_same ⟨#[1]⟩ 0 2 0 _).mono ?_
  rintro e w12 ⟨rfl, hb⟩
  replace hKa := hKa.later hb
  replace hKb := hKb.later hb
  replace hKq := hKq.later hb
  replace hB := bstep hB hb
  clear hb
  go_wp2_with fail
  refine (k_read5 _).mono ?_
  rintro e w13 ⟨rfl, hb⟩
  replace hKa := hKa.later hb
  replace hKb := hKb.later hb
  replace hKq := hKq.later hb
  replace hB := bstep hB hb
  clear hb
  go_wp2_with fail
  refine (k_sized2 _).mono ?_
  rintro e w14 ⟨rfl, hb⟩
  replace hKa := hKa.later hb
  replace hKb := hKb.later hb
  replace hKq := hKq.later hb
  replace hB := bstep hB hb
  clear hb
  go_wp2_with fail
  have hBold := hB.size
  have hltolda := hKa.lt
  have hltoldb := hKb.lt
  have hltoldq := hKq.lt
  refine named fun W15 hW => ?_
  replace hKa : Blk W15 w3.heap.size [.string ⟨#[1]⟩, .int .i64 0, .int .i64 5, .int .i64 0] := by rw [hW]; exact (hKa.alloc _)
  replace hKb : Blk W15 w6.heap.size [.string ⟨#[1]⟩, .int .i64 0, .int .i64 2, .int .i64 0] := by rw [hW]; exact (hKb.alloc _)
  replace hKq : Blk W15 w9.heap.size [.string ⟨#[255, 255, 255, 255, 255, 255, 255, 255]⟩, .int .i64 8, .int .i64 0, .int .i64 0] := by rw [hW]; exact (hKq.alloc _)
  have hKc : Blk W15 w14.heap.size [.string ⟨#[0, 2, 97, 98, 99]⟩, .int .i64 4, .int .i64 0, .int .i64 0] := by rw [hW]; exact (Blk.is (us := [.string ⟨#[0, 2, 97, 98, 99]⟩, .int .i64 4, .int .i64 0, .int .i64 0]) _ rfl)
  replace hB : Below w.heap.size w W15 := by rw [hW]; exact (hB).alloc hB.size _
  have hlec : w.heap.size ≤ w14.heap.size := by have := hBold; omega
  have hltac : w3.heap.size < w14.heap.size := by have := hltolda; omega
  have hltbc : w6.heap.size < w14.heap.size := by have := hltoldb; omega
  have hltqc : w9.heap.size < w14.heap.size := by have := hltoldq; omega
  clear hW hBold hltolda hltoldb hltoldq
  refine (k_read5 _).mono ?_
  rintro e w16 ⟨rfl, hb⟩
  replace hKa := hKa.later hb
  replace hKb := hKb.later hb
  replace hKq := hKq.later hb
  replace hKc := hKc.later hb
  replace hB := bstep hB hb
  clear hb
  go_wp2_with fail
  refine (k_sized1 _).mono ?_
  rintro e w17 ⟨rfl, hb⟩
  replace hKa := hKa.later hb
  replace hKb := hKb.later hb
  replace hKq := hKq.later hb
  replace hKc := hKc.later hb
  replace hB := bstep hB hb
  clear hb
  go_wp2_with fail
  have hBold := hB.size
  have hltolda := hKa.lt
  have hltoldb := hKb.lt
  have hltoldq := hKq.lt
  have hltoldc := hKc.lt
  refine named fun W18 hW => ?_
  replace hKa : Blk W18 w3.heap.size [.string ⟨#[1]⟩, .int .i64 0, .int .i64 5, .int .i64 0] := by rw [hW]; exact (hKa.alloc _)
  replace hKb : Blk W18 w6.heap.size [.string ⟨#[1]⟩, .int .i64 0, .int .i64 2, .int .i64 0] := by rw [hW]; exact (hKb.alloc _)
  replace hKq : Blk W18 w9.heap.size [.string ⟨#[255, 255, 255, 255, 255, 255, 255, 255]⟩, .int .i64 8, .int .i64 0, .int .i64 0] := by rw [hW]; exact (hKq.alloc _)
  replace hKc : Blk W18 w14.heap.size [.string ⟨#[0, 2, 97, 98, 99]⟩, .int .i64 4, .int .i64 0, .int .i64 0] := by rw [hW]; exact (hKc.alloc _)
  have hKd : Blk W18 w17.heap.size [.string ⟨#[0, 2, 97, 98, 99]⟩, .int .i64 0, .int .i64 4, .int .i64 0] := by rw [hW]; exact (Blk.is (us := [.string ⟨#[0, 2, 97, 98, 99]⟩, .int .i64 0, .int .i64 4, .int .i64 0]) _ rfl)
  replace hB : Below w.heap.size w W18 := by rw [hW]; exact (hB).alloc hB.size _
  have hled : w.heap.size ≤ w17.heap.size := by have := hBold; omega
  have hltad : w3.heap.size < w17.heap.size := by have := hltolda; omega
  have hltbd : w6.heap.size < w17.heap.size := by have := hltoldb; omega
  have hltqd : w9.heap.size < w17.heap.size := by have := hltoldq; omega
  have hltcd : w14.heap.size < w17.heap.size := by have := hltoldc; omega
  clear hW hBold hltolda hltoldb hltoldq hltoldc
  refine (k_read3 _).mono ?_
  rintro e w19 ⟨rfl, hb⟩
  replace hKa := hKa.later hb
  replace hKb := hKb.later hb
  replace hKq := hKq.later hb
  replace hKc := hKc.later hb
  replace hKd := hKd.later hb
  replace hB := bstep hB hb
  clear hb
  go_wp2_with fail
  refine (k_sized9 _).mono ?_
  rintro e w20 ⟨rfl, hb⟩
  replace hKa := hKa.later hb
  replace hKb := hKb.later hb
  replace hKq := hKq.later hb
  replace hKc := hKc.later hb
  replace hKd := hKd.later hb
  replace hB := bstep hB hb
  clear hb
  go_wp2_with fail
  have hBold := hB.size
  have hltolda := hKa.lt
  have hltoldb := hKb.lt
  have hltoldq := hKq.lt
  have hltoldc := hKc.lt
  have hltoldd := hKd.lt
  refine named fun W21 hW => ?_
  replace hKa : Blk W21 w3.heap.size [.string ⟨#[1]⟩, .int .i64 0, .int .i64 5, .int .i64 0] := by rw [hW]; exact (hKa.alloc _)
  replace hKb : Blk W21 w6.heap.size [.string ⟨#[1]⟩, .int .i64 0, .int .i64 2, .int .i64 0] := by rw [hW]; exact (hKb.alloc _)
  replace hKq : Blk W21 w9.heap.size [.string ⟨#[255, 255, 255, 255, 255, 255, 255, 255]⟩, .int .i64 8, .int .i64 0, .int .i64 0] := by rw [hW]; exact (hKq.alloc _)
  replace hKc : Blk W21 w14.heap.size [.string ⟨#[0, 2, 97, 98, 99]⟩, .int .i64 4, .int .i64 0, .int .i64 0] := by rw [hW]; exact (hKc.alloc _)
  replace hKd : Blk W21 w17.heap.size [.string ⟨#[0, 2, 97, 98, 99]⟩, .int .i64 0, .int .i64 4, .int .i64 0] := by rw [hW]; exact (hKd.alloc _)
  have hKf : Blk W21 w20.heap.size [.string ⟨#[0, 2, 97]⟩, .int .i64 2, .int .i64 5, .int .i64 2] := by rw [hW]; exact (Blk.is (us := [.string ⟨#[0, 2, 97]⟩, .int .i64 2, .int .i64 5, .int .i64 2]) _ rfl)
  replace hB : Below w.heap.size w W21 := by rw [hW]; exact (hB).alloc hB.size _
  have hlef : w.heap.size ≤ w20.heap.size := by have := hBold; omega
  have hltaf : w3.heap.size < w20.heap.size := by have := hltolda; omega
  have hltbf : w6.heap.size < w20.heap.size := by have := hltoldb; omega
  have hltqf : w9.heap.size < w20.heap.size := by have := hltoldq; omega
  have hltcf : w14.heap.size < w20.heap.size := by have := hltoldc; omega
  have hltdf : w17.heap.size < w20.heap.size := by have := hltoldd; omega
  clear hW hBold hltolda hltoldb hltoldq hltoldc hltoldd
  refine (k_read0 _).mono ?_
  rintro e w22 ⟨rfl, hb⟩
  replace hKa := hKa.later hb
  replace hKb := hKb.later hb
  replace hKq := hKq.later hb
  replace hKc := hKc.later hb
  replace hKd := hKd.later hb
  replace hKf := hKf.later hb
  replace hB := bstep hB hb
  clear hb
  go_wp2_with fail
  refine (k_sized0 _).mono ?_
  rintro e w23 ⟨rfl, hb⟩
  replace hKa := hKa.later hb
  replace hKb := hKb.later hb
  replace hKq := hKq.later hb
  replace hKc := hKc.later hb
  replace hKd := hKd.later hb
  replace hKf := hKf.later hb
  replace hB := bstep hB hb
  clear hb
  have cc0 := hKc.cell 0 _ rfl
  have fc0 := hKc.fr 0 _ rfl
  have cc1 := hKc.cell 1 _ rfl
  have fc1 := hKc.fr 1 _ rfl
  have cc2 := hKc.cell 2 _ rfl
  have fc2 := hKc.fr 2 _ rfl
  have cc3 := hKc.cell 3 _ rfl
  have fc3 := hKc.fr 3 _ rfl
  have cd0 := hKd.cell 0 _ rfl
  have fd0 := hKd.fr 0 _ rfl
  have cd1 := hKd.cell 1 _ rfl
  have fd1 := hKd.fr 1 _ rfl
  have cd2 := hKd.cell 2 _ rfl
  have fd2 := hKd.fr 2 _ rfl
  have cd3 := hKd.cell 3 _ rfl
  have fd3 := hKd.fr 3 _ rfl
  have lc := hKc.lt
  have ld := hKd.lt
  go_wp2_with fail
  have hBold := hB.size
  have hltolda := hKa.lt
  have hltoldb := hKb.lt
  have hltoldq := hKq.lt
  have hltoldc := hKc.lt
  have hltoldd := hKd.lt
  have hltoldf := hKf.lt
  refine named fun W24 hW => ?_
  replace hKa : Blk W24 w3.heap.size [.string ⟨#[1]⟩, .int .i64 0, .int .i64 5, .int .i64 0] := by rw [hW]; exact (hKa.alloc _)
  replace hKb : Blk W24 w6.heap.size [.string ⟨#[1]⟩, .int .i64 0, .int .i64 2, .int .i64 0] := by rw [hW]; exact (hKb.alloc _)
  replace hKq : Blk W24 w9.heap.size [.string ⟨#[255, 255, 255, 255, 255, 255, 255, 255]⟩, .int .i64 8, .int .i64 0, .int .i64 0] := by rw [hW]; exact (hKq.alloc _)
  replace hKc : Blk W24 w14.heap.size [.string ⟨#[0, 2, 97, 98, 99]⟩, .int .i64 4, .int .i64 0, .int .i64 0] := by rw [hW]; exact (hKc.alloc _)
  replace hKd : Blk W24 w17.heap.size [.string ⟨#[0, 2, 97, 98, 99]⟩, .int .i64 0, .int .i64 4, .int .i64 0] := by rw [hW]; exact (hKd.alloc _)
  replace hKf : Blk W24 w20.heap.size [.string ⟨#[0, 2, 97]⟩, .int .i64 2, .int .i64 5, .int .i64 2] := by rw [hW]; exact (hKf.alloc _)
  have hKg : Blk W24 w23.heap.size [.string ⟨#[0]⟩, .int .i64 0, .int .i64 5, .int .i64 0] := by rw [hW]; exact (Blk.is (us := [.string ⟨#[0]⟩, .int .i64 0, .int .i64 5, .int .i64 0]) _ rfl)
  replace hB : Below w.heap.size w W24 := by rw [hW]; exact (hB).alloc hB.size _
  have hleg : w.heap.size ≤ w23.heap.size := by have := hBold; omega
  have hltag : w3.heap.size < w23.heap.size := by have := hltolda; omega
  have hltbg : w6.heap.size < w23.heap.size := by have := hltoldb; omega
  have hltqg : w9.heap.size < w23.heap.size := by have := hltoldq; omega
  have hltcg : w14.heap.size < w23.heap.size := by have := hltoldc; omega
  have hltdg : w17.heap.size < w23.heap.size := by have := hltoldd; omega
  have hltfg : w20.heap.size < w23.heap.size := by have := hltoldf; omega
  clear hW cc0 fc0 cc1 fc1 cc2 fc2 cc3 fc3 cd0 fd0 cd1 fd1 cd2 fd2 cd3 fd3 lc ld hBold hltolda hltoldb hltoldq hltoldc hltoldd hltoldf
  refine (faults_same ⟨#[0, 2, 97, 98, 99]⟩ 0 4 0 _).mono ?_
  rintro e w25 ⟨rfl, hb⟩
  replace hKa := hKa.later hb
  replace hKb := hKb.later hb
  replace hKq := hKq.later hb
  replace hKc := hKc.later hb
  replace hKd := hKd.later hb
  replace hKf := hKf.later hb
  replace hKg := hKg.later hb
  replace hB := bstep hB hb
  clear hb
  have cd0 := hKd.cell 0 _ rfl
  have fd0 := hKd.fr 0 _ rfl
  have cd1 := hKd.cell 1 _ rfl
  have fd1 := hKd.fr 1 _ rfl
  have cd2 := hKd.cell 2 _ rfl
  have fd2 := hKd.fr 2 _ rfl
  have cd3 := hKd.cell 3 _ rfl
  have fd3 := hKd.fr 3 _ rfl
  have cf0 := hKf.cell 0 _ rfl
  have ff0 := hKf.fr 0 _ rfl
  have cf1 := hKf.cell 1 _ rfl
  have ff1 := hKf.fr 1 _ rfl
  have cf2 := hKf.cell 2 _ rfl
  have ff2 := hKf.fr 2 _ rfl
  have cf3 := hKf.cell 3 _ rfl
  have ff3 := hKf.fr 3 _ rfl
  go_wp2_with fail
  clear cd0 fd0 cd1 fd1 cd2 fd2 cd3 fd3 cf0 ff0 cf1 ff1 cf2 ff2 cf3 ff3
  refine (faults_same ⟨#[0, 2, 97]⟩ 2 5 2 _).mono ?_
  rintro e w26 ⟨rfl, hb⟩
  replace hKa := hKa.later hb
  replace hKb := hKb.later hb
  replace hKq := hKq.later hb
  replace hKc := hKc.later hb
  replace hKd := hKd.later hb
  replace hKf := hKf.later hb
  replace hKg := hKg.later hb
  replace hB := bstep hB hb
  clear hb
  have cg0 := hKg.cell 0 _ rfl
  have fg0 := hKg.fr 0 _ rfl
  have cg1 := hKg.cell 1 _ rfl
  have fg1 := hKg.fr 1 _ rfl
  have cg2 := hKg.cell 2 _ rfl
  have fg2 := hKg.fr 2 _ rfl
  have cg3 := hKg.cell 3 _ rfl
  have fg3 := hKg.fr 3 _ rfl
  go_wp2_with fail
  clear cg0 fg0 cg1 fg1 cg2 fg2 cg3 fg3
  refine (faults_same ⟨#[0]⟩ 0 5 0 _).mono ?_
  rintro e w27 ⟨rfl, hb⟩
  replace hKa := hKa.later hb
  replace hKb := hKb.later hb
  replace hKq := hKq.later hb
  replace hKc := hKc.later hb
  replace hKd := hKd.later hb
  replace hKf := hKf.later hb
  replace hKg := hKg.later hb
  replace hB := bstep hB hb
  clear hb
  go_wp2_with fail
  refine (k_abc _).mono ?_
  rintro e w28 ⟨rfl, hb⟩
  replace hKa := hKa.later hb
  replace hKb := hKb.later hb
  replace hKq := hKq.later hb
  replace hKc := hKc.later hb
  replace hKd := hKd.later hb
  replace hKf := hKf.later hb
  replace hKg := hKg.later hb
  replace hB := bstep hB hb
  clear hb
  go_wp2_with fail
  refine (k_wantab _).mono ?_
  rintro e w29 ⟨rfl, hb⟩
  replace hKa := hKa.later hb
  replace hKb := hKb.later hb
  replace hKq := hKq.later hb
  replace hKc := hKc.later hb
  replace hKd := hKd.later hb
  replace hKf := hKf.later hb
  replace hKg := hKg.later hb
  replace hB := bstep hB hb
  clear hb
  go_wp2_with fail
  refine (k_abc _).mono ?_
  rintro e w30 ⟨rfl, hb⟩
  replace hKa := hKa.later hb
  replace hKb := hKb.later hb
  replace hKq := hKq.later hb
  replace hKc := hKc.later hb
  replace hKd := hKd.later hb
  replace hKf := hKf.later hb
  replace hKg := hKg.later hb
  replace hB := bstep hB hb
  clear hb
  go_wp2_with fail
  refine (k_wantax _).mono ?_
  rintro e w31 ⟨rfl, hb⟩
  replace hKa := hKa.later hb
  replace hKb := hKb.later hb
  replace hKq := hKq.later hb
  replace hKc := hKc.later hb
  replace hKd := hKd.later hb
  replace hKf := hKf.later hb
  replace hKg := hKg.later hb
  replace hB := bstep hB hb
  clear hb
  go_wp2_with fail
  refine (faults_same ⟨#[97, 98, 99]⟩ 0 3 0 _).mono ?_
  rintro e w32 ⟨rfl, hb⟩
  replace hKa := hKa.later hb
  replace hKb := hKb.later hb
  replace hKq := hKq.later hb
  replace hKc := hKc.later hb
  replace hKd := hKd.later hb
  replace hKf := hKf.later hb
  replace hKg := hKg.later hb
  replace hB := bstep hB hb
  clear hb
  go_wp2_with fail
  refine (k_a _).mono ?_
  rintro e w33 ⟨rfl, hb⟩
  replace hKa := hKa.later hb
  replace hKb := hKb.later hb
  replace hKq := hKq.later hb
  replace hKc := hKc.later hb
  replace hKd := hKd.later hb
  replace hKf := hKf.later hb
  replace hKg := hKg.later hb
  replace hB := bstep hB hb
  clear hb
  go_wp2_with fail
  refine (k_enda _).mono ?_
  rintro e w34 ⟨rfl, hb⟩
  replace hKa := hKa.later hb
  replace hKb := hKb.later hb
  replace hKq := hKq.later hb
  replace hKc := hKc.later hb
  replace hKd := hKd.later hb
  replace hKf := hKf.later hb
  replace hKg := hKg.later hb
  replace hB := bstep hB hb
  clear hb
  go_wp2_with fail
  refine (k_make2 _).mono ?_
  rintro e w35 ⟨rfl, hb⟩
  replace hKa := hKa.later hb
  replace hKb := hKb.later hb
  replace hKq := hKq.later hb
  replace hKc := hKc.later hb
  replace hKd := hKd.later hb
  replace hKf := hKf.later hb
  replace hKg := hKg.later hb
  replace hB := bstep hB hb
  clear hb
  go_wp2_with fail
  refine (k_put256 _).mono ?_
  rintro e w36 ⟨rfl, hb⟩
  replace hKa := hKa.later hb
  replace hKb := hKb.later hb
  replace hKq := hKq.later hb
  replace hKc := hKc.later hb
  replace hKd := hKd.later hb
  replace hKf := hKf.later hb
  replace hKg := hKg.later hb
  replace hB := bstep hB hb
  clear hb
  go_wp2_with fail
  refine (written_is ⟨⟨#[]⟩, 2, 2⟩ ⟨#[]⟩ 2 (by kernel_rfl) _).mono ?_
  rintro e w37 ⟨rfl, hb⟩
  replace hKa := hKa.later hb
  replace hKb := hKb.later hb
  replace hKq := hKq.later hb
  replace hKc := hKc.later hb
  replace hKd := hKd.later hb
  replace hKf := hKf.later hb
  replace hKg := hKg.later hb
  replace hB := bstep hB hb
  clear hb
  go_wp2_with fail
  refine (k_make1 _).mono ?_
  rintro e w38 ⟨rfl, hb⟩
  replace hKa := hKa.later hb
  replace hKb := hKb.later hb
  replace hKq := hKq.later hb
  replace hKc := hKc.later hb
  replace hKd := hKd.later hb
  replace hKf := hKf.later hb
  replace hKg := hKg.later hb
  replace hB := bstep hB hb
  clear hb
  go_wp2_with fail
  refine (k_put1 _).mono ?_
  rintro e w39 ⟨rfl, hb⟩
  replace hKa := hKa.later hb
  replace hKb := hKb.later hb
  replace hKq := hKq.later hb
  replace hKc := hKc.later hb
  replace hKd := hKd.later hb
  replace hKf := hKf.later hb
  replace hKg := hKg.later hb
  replace hB := bstep hB hb
  clear hb
  go_wp2_with fail
  refine (written_is ⟨⟨#[]⟩, 1, 4⟩ ⟨#[]⟩ 4 (by kernel_rfl) _).mono ?_
  rintro e w40 ⟨rfl, hb⟩
  replace hKa := hKa.later hb
  replace hKb := hKb.later hb
  replace hKq := hKq.later hb
  replace hKc := hKc.later hb
  replace hKd := hKd.later hb
  replace hKf := hKf.later hb
  replace hKg := hKg.later hb
  replace hB := bstep hB hb
  clear hb
  go_wp2_with fail
  refine (k_make9 _).mono ?_
  rintro e w41 ⟨rfl, hb⟩
  replace hKa := hKa.later hb
  replace hKb := hKb.later hb
  replace hKq := hKq.later hb
  replace hKc := hKc.later hb
  replace hKd := hKd.later hb
  replace hKf := hKf.later hb
  replace hKg := hKg.later hb
  replace hB := bstep hB hb
  clear hb
  go_wp2_with fail
  refine (k_putSized _).mono ?_
  rintro e w42 ⟨rfl, hb⟩
  replace hKa := hKa.later hb
  replace hKb := hKb.later hb
  replace hKq := hKq.later hb
  replace hKc := hKc.later hb
  replace hKd := hKd.later hb
  replace hKf := hKf.later hb
  replace hKg := hKg.later hb
  replace hB := bstep hB hb
  clear hb
  go_wp2_with fail
  refine (written_is ⟨⟨#[0, 2, 97, 98]⟩, 9, 0⟩ ⟨#[0, 2, 97, 98]⟩ 0 (by kernel_rfl) _).mono ?_
  rintro e w43 ⟨rfl, hb⟩
  replace hKa := hKa.later hb
  replace hKb := hKb.later hb
  replace hKq := hKq.later hb
  replace hKc := hKc.later hb
  replace hKd := hKd.later hb
  replace hKf := hKf.later hb
  replace hKg := hKg.later hb
  replace hB := bstep hB hb
  clear hb
  go_wp2_with fail
  refine (k_make3 _).mono ?_
  rintro e w44 ⟨rfl, hb⟩
  replace hKa := hKa.later hb
  replace hKb := hKb.later hb
  replace hKq := hKq.later hb
  replace hKc := hKc.later hb
  replace hKd := hKd.later hb
  replace hKf := hKf.later hb
  replace hKg := hKg.later hb
  replace hB := bstep hB hb
  clear hb
  go_wp2_with fail
  have hBold := hB.size
  have hltolda := hKa.lt
  have hltoldb := hKb.lt
  have hltoldq := hKq.lt
  have hltoldc := hKc.lt
  have hltoldd := hKd.lt
  have hltoldf := hKf.lt
  have hltoldg := hKg.lt
  refine named fun W45 hW => ?_
  replace hKa : Blk W45 w3.heap.size [.string ⟨#[1]⟩, .int .i64 0, .int .i64 5, .int .i64 0] := by rw [hW]; exact (hKa.alloc _)
  replace hKb : Blk W45 w6.heap.size [.string ⟨#[1]⟩, .int .i64 0, .int .i64 2, .int .i64 0] := by rw [hW]; exact (hKb.alloc _)
  replace hKq : Blk W45 w9.heap.size [.string ⟨#[255, 255, 255, 255, 255, 255, 255, 255]⟩, .int .i64 8, .int .i64 0, .int .i64 0] := by rw [hW]; exact (hKq.alloc _)
  replace hKc : Blk W45 w14.heap.size [.string ⟨#[0, 2, 97, 98, 99]⟩, .int .i64 4, .int .i64 0, .int .i64 0] := by rw [hW]; exact (hKc.alloc _)
  replace hKd : Blk W45 w17.heap.size [.string ⟨#[0, 2, 97, 98, 99]⟩, .int .i64 0, .int .i64 4, .int .i64 0] := by rw [hW]; exact (hKd.alloc _)
  replace hKf : Blk W45 w20.heap.size [.string ⟨#[0, 2, 97]⟩, .int .i64 2, .int .i64 5, .int .i64 2] := by rw [hW]; exact (hKf.alloc _)
  replace hKg : Blk W45 w23.heap.size [.string ⟨#[0]⟩, .int .i64 0, .int .i64 5, .int .i64 0] := by rw [hW]; exact (hKg.alloc _)
  have hKl : Blk W45 w44.heap.size [.string ⟨#[97, 98]⟩, .string ⟨#[99, 100]⟩] := by rw [hW]; exact (Blk.is (us := [.string ⟨#[97, 98]⟩, .string ⟨#[99, 100]⟩]) _ rfl)
  replace hB : Below w.heap.size w W45 := by rw [hW]; exact (hB).alloc hB.size _
  have hlel : w.heap.size ≤ w44.heap.size := by have := hBold; omega
  have hltal : w3.heap.size < w44.heap.size := by have := hltolda; omega
  have hltbl : w6.heap.size < w44.heap.size := by have := hltoldb; omega
  have hltql : w9.heap.size < w44.heap.size := by have := hltoldq; omega
  have hltcl : w14.heap.size < w44.heap.size := by have := hltoldc; omega
  have hltdl : w17.heap.size < w44.heap.size := by have := hltoldd; omega
  have hltfl : w20.heap.size < w44.heap.size := by have := hltoldf; omega
  have hltgl : w23.heap.size < w44.heap.size := by have := hltoldg; omega
  clear hW hBold hltolda hltoldb hltoldq hltoldc hltoldd hltoldf hltoldg
  refine (k_add _ _ (Sln.blk hKl (by decide))).mono ?_
  rintro e w46 ⟨rfl, hb⟩
  replace hKa := hKa.later hb
  replace hKb := hKb.later hb
  replace hKq := hKq.later hb
  replace hKc := hKc.later hb
  replace hKd := hKd.later hb
  replace hKf := hKf.later hb
  replace hKg := hKg.later hb
  replace hKl := hKl.later hb
  replace hB := bstep hB hb
  clear hb
  go_wp2_with fail
  refine (written_is ⟨⟨#[]⟩, 3, 4⟩ ⟨#[]⟩ 4 (by kernel_rfl) _).mono ?_
  rintro e w47 ⟨rfl, hb⟩
  replace hKa := hKa.later hb
  replace hKb := hKb.later hb
  replace hKq := hKq.later hb
  replace hKc := hKc.later hb
  replace hKd := hKd.later hb
  replace hKf := hKf.later hb
  replace hKg := hKg.later hb
  replace hKl := hKl.later hb
  replace hB := bstep hB hb
  clear hb
  go_wp2_with fail
  refine (k_make8 _).mono ?_
  rintro e w48 ⟨rfl, hb⟩
  replace hKa := hKa.later hb
  replace hKb := hKb.later hb
  replace hKq := hKq.later hb
  replace hKc := hKc.later hb
  replace hKd := hKd.later hb
  replace hKf := hKf.later hb
  replace hKg := hKg.later hb
  replace hKl := hKl.later hb
  replace hB := bstep hB hb
  clear hb
  go_wp2_with fail
  refine (k_putInt64 _).mono ?_
  rintro e w49 ⟨rfl, hb⟩
  replace hKa := hKa.later hb
  replace hKb := hKb.later hb
  replace hKq := hKq.later hb
  replace hKc := hKc.later hb
  replace hKd := hKd.later hb
  replace hKf := hKf.later hb
  replace hKg := hKg.later hb
  replace hKl := hKl.later hb
  replace hB := bstep hB hb
  clear hb
  go_wp2_with fail
  refine (written_is ⟨⟨#[255, 255, 255, 255, 255, 255, 255, 254]⟩, 8, 0⟩ ⟨#[255, 255, 255, 255, 255, 255, 255, 254]⟩ 0 (by kernel_rfl) _).mono ?_
  rintro e w50 ⟨rfl, hb⟩
  replace hKa := hKa.later hb
  replace hKb := hKb.later hb
  replace hKq := hKq.later hb
  replace hKc := hKc.later hb
  replace hKd := hKd.later hb
  replace hKf := hKf.later hb
  replace hKg := hKg.later hb
  replace hKl := hKl.later hb
  replace hB := bstep hB hb
  clear hb
  go_wp2_with fail
  refine (awake_any _).mono ?_
  rintro e w51 ⟨rfl, hb⟩
  replace hKa := hKa.later hb
  replace hKb := hKb.later hb
  replace hKq := hKq.later hb
  replace hKc := hKc.later hb
  replace hKd := hKd.later hb
  replace hKf := hKf.later hb
  replace hKg := hKg.later hb
  replace hKl := hKl.later hb
  replace hB := bstep hB hb
  clear hb
  go_wp2
  go_ret
  exact ⟨by first | rfl | simp, hB⟩
end Go.Proofs.Ytgcgoiaadigmfaa
