/- Walks: the bytes of numbers. -/
import Derived.Test.YtgcgoiaadigmfaaWireC
import Derived.Deep.LoopGhost
import Derived.WalkMore
namespace Go.Proofs.Ytgcgoiaadigmfaa
open Go.RowKit
open Wr

/-- A new array of bytes, written from its end. -/
def row (n : Int) (size k : Nat) : List UInt8 := List.replicate (size - k) 0 ++ digI n k
theorem row_zero (n : Int) (size : Nat) : row n size 0 = List.replicate size 0 := by simp [row, digI]
theorem row_all (n : Int) (size : Nat) : row n size size = digI n size := by simp [row]
theorem row_length (n : Int) (size k : Nat) (h : k ≤ size) : (row n size k).length = size := by simp [row, digI_length]; omega
theorem row_succ (n : Int) (size k : Nat) (h : k < size) : row n size (k + 1) = (row n size k).set (size - 1 - k) (byteAt n k) := by
  unfold row
  obtain ⟨j, hj⟩ : ∃ j, size - k = j + 1 := ⟨size - k - 1, by omega⟩
  rw [show size - (k + 1) = j by omega, show size - 1 - k = j by omega, hj, digI_succ, List.replicate_succ', List.append_assoc, List.set_append_right _ _ (by simp)]
  simp

theorem digits_loop (n : Int) (size : Nat) (w : World) (h0 : 0 < size) (h8 : size ≤ 8)
    (hmk : ∀ w, (Instr.makeSlice 102 (.int .i64 size) (.int .i64 size)).run Try.prog w = .ok (.slice (some ⟨w.heap.size, 0, none⟩) size size) (w.alloc (.cells (bvals (row n size 0)).toArray 5))) :
    Calls Try.prog 66 #[.int .u64 n, .int .i64 size] w fun e w' => e = .returned (.string (strOf (digI n size))) ∧ Below w.heap.size w w' := by
  go_enter Try.func66, Try.ntmps66
  go_wp2
  go_loopw [11] (fun i wr => ∃ k : Nat, k ≤ size ∧ i = .int .i64 k ∧ wr = w.alloc (.cells (bvals (row n size k)).toArray 5)) (fun i _ => size - (intOf i).toNat)
  case atStart => exact ⟨0, by omega, rfl, rfl⟩
  case round =>
    obtain ⟨k, hk, rfl, rfl⟩ := hrel
    by_cases hlt : k < size
    · have hlen := row_length n size k hk
      have hget : (bvals (row n size k))[size - 1 - k]? = some (.int .u8 0) := by
        unfold bvals row
        rw [List.getElem?_map, List.getElem?_append_left (by simp; omega), List.getElem?_replicate, if_pos (by omega)]
        rfl
      have hnew := Lib.hid (show (bvals (row n size k)).toArray.setIfInBounds (size - 1 - k) (.int .u8 (n / 2 ^ (8 * k) % 256)) = (bvals (row n size (k + 1))).toArray by
        rw [row_succ n size k hlt, List.setIfInBounds_toArray]
        unfold bvals
        rw [List.map_set, byteAt_val, show (256 : Int) ^ k = 2 ^ (8 * k) by rw [Int.pow_mul]; rfl])
      clear hlen
      go_wp2
      go_roundw
      case rel => exact ⟨k + 1, by omega, by go_num, by rw [← hnew.out]; simp⟩
      case measure => simp [intOf]; omega
    · obtain rfl : k = size := by omega
      rw [row_all]
      have hslc : Slc (w.alloc (.cells (bvals (digI n k)).toArray 5)) (.slice (some ⟨w.heap.size, 0, none⟩) k k) (bvals (digI n k)) := by
        exact Slc.lit w (bvals (digI n k)) 5 k (by rw [bvals_length, digI_length]) (by omega)
      have hconv := conv_bytes Try.underlying102 Try.underlying5 Try.underlying9 hslc (by intro h; have := digI_length n k; rw [h] at this; simp at this; omega)
      clear hslc
      go_wp2
      go_returns
      exact ⟨rfl, by go_grown⟩
theorem digitsI_loop (n : Int) (size : Nat) (w : World) (h0 : 0 < size) (h8 : size ≤ 8)
    (hmk : ∀ w, (Instr.makeSlice 102 (.int .i64 size) (.int .i64 size)).run Try.prog w = .ok (.slice (some ⟨w.heap.size, 0, none⟩) size size) (w.alloc (.cells (bvals (row n size 0)).toArray 5))) :
    Calls Try.prog 69 #[.int .i64 n, .int .i64 size] w fun e w' => e = .returned (.string (strOf (digI n size))) ∧ Below w.heap.size w w' := by
  go_enter Try.func69, Try.ntmps69
  go_wp2
  go_loopw [11] (fun i wr => ∃ k : Nat, k ≤ size ∧ i = .int .i64 k ∧ wr = w.alloc (.cells (bvals (row n size k)).toArray 5)) (fun i _ => size - (intOf i).toNat)
  case atStart => exact ⟨0, by omega, rfl, rfl⟩
  case round =>
    obtain ⟨k, hk, rfl, rfl⟩ := hrel
    by_cases hlt : k < size
    · have hlen := row_length n size k hk
      have hget : (bvals (row n size k))[size - 1 - k]? = some (.int .u8 0) := by
        unfold bvals row
        rw [List.getElem?_map, List.getElem?_append_left (by simp; omega), List.getElem?_replicate, if_pos (by omega)]
        rfl
      have hnew := Lib.hid (show (bvals (row n size k)).toArray.setIfInBounds (size - 1 - k) (.int .u8 (n / 2 ^ (8 * k) % 256)) = (bvals (row n size (k + 1))).toArray by
        rw [row_succ n size k hlt, List.setIfInBounds_toArray]
        unfold bvals
        rw [List.map_set, byteAt_val, show (256 : Int) ^ k = 2 ^ (8 * k) by rw [Int.pow_mul]; rfl])
      clear hlen
      go_wp2
      go_roundw
      case rel => exact ⟨k + 1, by omega, by go_num, by rw [← hnew.out]; simp⟩
      case measure => simp [intOf]; omega
    · obtain rfl : k = size := by omega
      rw [row_all]
      have hslc : Slc (w.alloc (.cells (bvals (digI n k)).toArray 5)) (.slice (some ⟨w.heap.size, 0, none⟩) k k) (bvals (digI n k)) := by
        exact Slc.lit w (bvals (digI n k)) 5 k (by rw [bvals_length, digI_length]) (by omega)
      have hconv := conv_bytes Try.underlying102 Try.underlying5 Try.underlying9 hslc (by intro h; have := digI_length n k; rw [h] at this; simp at this; omega)
      clear hslc
      go_wp2
      go_returns
      exact ⟨rfl, by go_grown⟩
theorem digitsN_loop (n : Int) (size : Nat) (w : World) (h0 : 0 < size) (h8 : size ≤ 8)
    (hmk : ∀ w, (Instr.makeSlice 102 (.int .i64 size) (.int .i64 size)).run Try.prog w = .ok (.slice (some ⟨w.heap.size, 0, none⟩) size size) (w.alloc (.cells (bvals (row n size 0)).toArray 5))) :
    Calls Try.prog 70 #[.int .i64 n, .int .i64 size] w fun e w' => e = .returned (.string (strOf (digI n size))) ∧ Below w.heap.size w w' := by
  go_enter Try.func70, Try.ntmps70
  go_wp2
  go_loopw [11] (fun i wr => ∃ k : Nat, k ≤ size ∧ i = .int .i64 k ∧ wr = w.alloc (.cells (bvals (row n size k)).toArray 5)) (fun i _ => size - (intOf i).toNat)
  case atStart => exact ⟨0, by omega, rfl, rfl⟩
  case round =>
    obtain ⟨k, hk, rfl, rfl⟩ := hrel
    by_cases hlt : k < size
    · have hlen := row_length n size k hk
      have hget : (bvals (row n size k))[size - 1 - k]? = some (.int .u8 0) := by
        unfold bvals row
        rw [List.getElem?_map, List.getElem?_append_left (by simp; omega), List.getElem?_replicate, if_pos (by omega)]
        rfl
      have hnew := Lib.hid (show (bvals (row n size k)).toArray.setIfInBounds (size - 1 - k) (.int .u8 (n / 2 ^ (8 * k) % 256)) = (bvals (row n size (k + 1))).toArray by
        rw [row_succ n size k hlt, List.setIfInBounds_toArray]
        unfold bvals
        rw [List.map_set, byteAt_val, show (256 : Int) ^ k = 2 ^ (8 * k) by rw [Int.pow_mul]; rfl])
      clear hlen
      go_wp2
      go_roundw
      case rel => exact ⟨k + 1, by omega, by go_num, by rw [← hnew.out]; simp⟩
      case measure => simp [intOf]; omega
    · obtain rfl : k = size := by omega
      rw [row_all]
      have hslc : Slc (w.alloc (.cells (bvals (digI n k)).toArray 5)) (.slice (some ⟨w.heap.size, 0, none⟩) k k) (bvals (digI n k)) := by
        exact Slc.lit w (bvals (digI n k)) 5 k (by rw [bvals_length, digI_length]) (by omega)
      have hconv := conv_bytes Try.underlying102 Try.underlying5 Try.underlying9 hslc (by intro h; have := digI_length n k; rw [h] at this; simp at this; omega)
      clear hslc
      go_wp2
      go_returns
      exact ⟨rfl, by go_grown⟩

theorem digitsU_any (n : Int) (size : Nat) (w : World) (h : size = 1 ∨ size = 2 ∨ size = 4 ∨ size = 8) :
    Calls Try.prog 66 #[.int .u64 n, .int .i64 size] w fun e w' => e = .returned (.string (strOf (digI n size))) ∧ Below w.heap.size w w' := by
  rcases h with rfl | rfl | rfl | rfl
  all_goals exact digits_loop n _ w (by decide) (by decide) fun _ => by rw [row_zero]; kernel_rfl

theorem digitsI_any (n : Int) (size : Nat) (w : World) (h : size = 1 ∨ size = 2 ∨ size = 4 ∨ size = 8) :
    Calls Try.prog 69 #[.int .i64 n, .int .i64 size] w fun e w' => e = .returned (.string (strOf (digI n size))) ∧ Below w.heap.size w w' := by
  rcases h with rfl | rfl | rfl | rfl
  all_goals exact digitsI_loop n _ w (by decide) (by decide) fun _ => by rw [row_zero]; kernel_rfl

theorem digitsN_any (n : Int) (size : Nat) (w : World) (h : size = 1 ∨ size = 2 ∨ size = 4 ∨ size = 8) :
    Calls Try.prog 70 #[.int .i64 n, .int .i64 size] w fun e w' => e = .returned (.string (strOf (digI n size))) ∧ Below w.heap.size w w' := by
  rcases h with rfl | rfl | rfl | rfl
  all_goals exact digitsN_loop n _ w (by decide) (by decide) fun _ => by rw [row_zero]; kernel_rfl
end Go.Proofs.Ytgcgoiaadigmfaa
