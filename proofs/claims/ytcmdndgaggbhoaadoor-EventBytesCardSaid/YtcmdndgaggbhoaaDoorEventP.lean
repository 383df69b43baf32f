/- Walks: the document's own bytes of events. -/
import Derived.Test.YtcmdndgaggbhoaaDoorEventM
import Derived.Test.YtcmdndgaggbhoaaDoorEventC
import Derived.Deep.LoopGhost
import Derived.WalkMore
import Derived.IntWalk
namespace Go.Proofs.YtcmdndgaggbhoaaDoor.Ev
open Go.RowKit
open Wr

/-- A new array of bytes, written from its front. -/
def front (n : Int) (k : Nat) : List UInt8 := (digI n 8).take k ++ List.replicate (8 - k) 0
theorem front_zero (n : Int) : front n 0 = List.replicate 8 0 := by simp [front]
theorem front_all (n : Int) : front n 8 = digI n 8 := by
  unfold front
  rw [List.take_of_length_le (by rw [digI_length]; exact Nat.le_refl _)]
  simp
theorem digI_get (n : Int) : ∀ (j k : Nat) (_ : k < j), (digI n j)[k]? = some (byteAt n (j - 1 - k))
  | 0, k, h => by omega
  | _ + 1, 0, _ => by rw [digI_succ]; rfl
  | j + 1, k + 1, h => by
    rw [digI_succ, List.getElem?_cons_succ, digI_get n j k (by omega)]
    congr 2
    omega
theorem front_succ (n : Int) (k : Nat) (h : k < 8) : front n (k + 1) = (front n k).set k (byteAt n (7 - k)) := by
  have hg : (digI n 8)[k]? = some (byteAt n (7 - k)) := digI_get n 8 k h
  unfold front
  obtain ⟨j, hj⟩ : ∃ j, 8 - k = j + 1 := ⟨8 - k - 1, by omega⟩
  have hl : ((digI n 8).take k).length = k := by rw [List.length_take, digI_length]; omega
  rw [show 8 - (k + 1) = j by omega, hj, List.replicate_succ, List.set_append_right _ _ (by omega), hl, Nat.sub_self, List.set_cons_zero, List.take_add_one, hg]
  simp
set_option maxHeartbeats 1000000 in
theorem refBig_any (n : Int) (w : World) :
    Calls Tryd.prog 33 #[.int .u64 n] w fun e w' => e = .returned (.string (strOf (digI n 8))) ∧ Below w.heap.size w w' := by
  have hmk : ∀ w, (Instr.makeSlice 59 (.int .i64 8) (.int .i64 8)).run Tryd.prog w = .ok (.slice (some ⟨w.heap.size, 0, none⟩) 8 8) (w.alloc (.cells (bvals (front n 0)).toArray 5)) := fun w => by rw [front_zero]; kernel_rfl
  go_enter Tryd.func33, Tryd.ntmps33
  go_wp2
  go_loopw [4] (fun i wr => ∃ k : Nat, k ≤ 8 ∧ i = .int .i64 k ∧ wr = w.alloc (.cells (bvals (front n k)).toArray 5)) (fun i _ => 8 - (intOf i).toNat)
  case atStart => exact ⟨0, by omega, rfl, rfl⟩
  case round =>
    obtain ⟨k, hk, rfl, rfl⟩ := hrel
    by_cases hlt : k < 8
    · have hget : (bvals (front n k))[k]? = some (.int .u8 0) := by
        unfold bvals front
        rw [List.getElem?_map, List.getElem?_append_right (by rw [List.length_take, digI_length]; omega), List.getElem?_replicate, if_pos (by rw [List.length_take, digI_length]; omega)]
        rfl
      have hsh : IntKind.u64.wrap (56 - 8 * (k : Int)) = 56 - 8 * (k : Int) := IntWalk.u64_in _ ⟨by omega, by omega⟩
      have hsh2 : (56 - 8 * (k : Int)).toNat = 8 * (7 - k) := by omega
      have hnew := Lib.hid (show (bvals (front n k)).toArray.setIfInBounds k (.int .u8 (n / 2 ^ (8 * (7 - k)) % 256)) = (bvals (front n (k + 1))).toArray by
        rw [front_succ n k hlt, List.setIfInBounds_toArray]
        unfold bvals
        rw [List.map_set, byteAt_val, show (256 : Int) ^ (7 - k) = 2 ^ (8 * (7 - k)) by rw [Int.pow_mul]; rfl])
      go_wp2
      go_roundw
      case rel => exact ⟨k + 1, by omega, by go_num, by rw [← hnew.out]; simp⟩
      case measure => simp [intOf]; omega
    · obtain rfl : k = 8 := by omega
      rw [front_all]
      have hslc : Slc (w.alloc (.cells (bvals (digI n 8)).toArray 5)) (.slice (some ⟨w.heap.size, 0, none⟩) 8 8) (bvals (digI n 8)) := by
        exact Slc.lit w (bvals (digI n 8)) 5 8 (by rw [bvals_length, digI_length]) (by omega)
      have hconv := conv_bytes Tryd.underlying59 Tryd.underlying5 Tryd.underlying9 hslc (by intro h; have := digI_length n 8; rw [h] at this; simp at this)
      clear hslc
      go_wp2
      go_returns
      exact ⟨rfl, by go_grown⟩
theorem refNumber_any (s : ByteArray) (w : World) (hs : s.size ≤ 8) :
    Calls Tryd.prog 37 #[.string s] w fun e w' => e = .returned (.int .u64 (numOf s.data.toList)) ∧ w = w' := by
  go_enter Tryd.func37, Tryd.ntmps37
  go_wp2
  go_loop [3, 4] (fun t i => ∃ k : Nat, k ≤ s.size ∧ i = .int .i64 k ∧ t = .int .u64 (numOf (s.data.toList.take k))) (fun _ i => s.size - (intOf i).toNat)
  case atStart => exact ⟨0, by omega, rfl, rfl⟩
  case round =>
    obtain ⟨k, hk, rfl, rfl⟩ := hrel
    by_cases hlt : k < s.size
    · have hn := Lib.hid (show (numOf (s.data.toList.take (k + 1)) : Int) = bits .or .u64 (IntKind.u64.wrap ((numOf (s.data.toList.take k) : Int) * 256)) (IntKind.u64.wrap (s[k].toNat : Int)) by
        rw [bytes_take s k hlt, numOf_snoc, wrapb, stepU _ _ (numOf_take_lt _ k 7 (by omega)) s[k].toNat_lt])
      go_wp2
      go_round
      case rel => exact ⟨k + 1, by omega, by go_num, by rw [hn.out]⟩
      case measure => simp [intOf]; omega
    · go_wp2
      go_ret
      exact ⟨by rw [List.take_of_length_le (by rw [bytes_size]; omega)]; rfl, rfl⟩
theorem chop (x : UInt8) (b : Nat) (W : World) (h : W.cell? ⟨b, 0, none⟩ = some (.int .u8 (x.toNat : Int))) :
    (convert 59 9 (.slice (some ⟨b, 0, none⟩) 1 1)).run Tryd.prog W = .ok (.string (strOf [x])) W :=
  run_convert_bytes_back W _ _ _ ⟨b, 0, none⟩ 1 [x] Tryd.underlying59 Tryd.underlying5 Tryd.underlying9 (fun j hj => by
    have : j = 0 := by simpa using hj
    subst this
    exact h)
end Go.Proofs.YtcmdndgaggbhoaaDoor.Ev
