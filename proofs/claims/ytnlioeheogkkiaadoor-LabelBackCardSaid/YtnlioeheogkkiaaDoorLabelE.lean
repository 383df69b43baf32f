/- Walks: bytes of labels, in the program and in its reference; OwnInts of the kit. -/
import Derived.Test.YtnlioeheogkkiaaDoorLabelD
import Derived.Laws.AppendOwnNone
import Derived.Deep.LoopGhost
import Derived.WalkMore
import Derived.Laws.OwnMore
namespace Go.Proofs.YtnlioeheogkkiaaDoor
open Go.RowKit
open Lb

theorem infoByte : (Tryd.prog.info? 5).map (fun i => (i.zero, i.size, i.bytes)) = some (some (.int .u8 0), 1, 1) := by kernel_rfl

theorem refBytes_any (l : Int) (w : World) :
    Calls Tryd.prog 36 #[.int .u64 l] w fun e w' => e = .returned (.string (strOf (bytesI l))) ∧ Below w.heap.size w w' := by
  obtain ⟨i0, hi, hz0, hz1, hz2⟩ := info_parts infoByte
  go_enter Tryd.func36, Tryd.ntmps36
  go_wp2
  go_loopw [3, 4] (fun v i wr => ∃ k : Nat, k ≤ 8 ∧ i = .int .i64 (7 - (k : Int)) ∧ Own1 w.heap.size 5 w (bvals (preBytes l k)) v wr) (fun _ i _ => (intOf i + 1).toNat)
  case atStart => exact ⟨0, by omega, rfl, Own1.nil _⟩
  case round =>
    obtain ⟨k, hk, rfl, hown⟩ := hrel
    have hlen := Lib.hid (show (bvals (preBytes l k)).length = k by rw [bvals_length, preBytes_length])
    by_cases hlt : k < 8
    · have hn := Lib.hid (show bvals (preBytes l (k + 1)) = bvals (preBytes l k) ++ [.int .u8 (l / 2 ^ (8 * (7 - k)) % 256)] by rw [preBytes_succ, bvals_snoc, byteI_val])
      go_wp2_with (at_builtin; refine wpList_append_own _ rfl _ _ 61 rfl w.heap.size 5 i0 (.int .u8 0) 1 1 Tryd.underlying61 hi hz0 hz1 hz2 rfl (by decide) _ _ _ rfl (hown.1.alloc _) ⟨wr.heap.size, 0, none⟩ 1 1 [.int .u8 (l / 2 ^ (8 * (7 - k)) % 256)] rfl rfl (cell_one_new _ _ _) (by simp [Value.oneCell']) (by have := hlen.out; unfold maxLen; omega) (by have := hlen.out; omega) (by have := hown.2.2; simp; omega) ?_; intro v' w1 hown' hgrow _)
      have hown1 := hown.snoc hown' hgrow
      clear hown hown' hgrow
      go_wp2
      go_roundw
      case rel => exact ⟨k + 1, by omega, by first | go_num | (congr 1; omega), by rw [hn.out]; exact hown1⟩
      case measure => simp [intOf]; omega
    · obtain rfl : k = 8 := by omega
      have hconv := conv_bytes Tryd.underlying61 Tryd.underlying5 Tryd.underlying9 hown.slc (by intro h; have := hlen.out; rw [h] at this; simp [bvals] at this)
      go_wp2
      go_ret
      exact ⟨rfl, hown.2.1⟩

theorem bytes_any (l : Int) (w : World) :
    Calls Tryd.prog 35 #[.int .u64 l] w fun e w' => e = .returned (.string (strOf (bytesI l))) ∧ Below w.heap.size w w' := by
  obtain ⟨i0, hi, hz0, hz1, hz2⟩ := info_parts infoByte
  have hmk : ∀ w, (Instr.makeSlice 61 (.int .i64 0) (.int .i64 8)).run Tryd.prog w = .ok (.slice (some ⟨w.heap.size, 0, none⟩) 0 8) (w.alloc (.cells #[.int .u8 0, .int .u8 0, .int .u8 0, .int .u8 0, .int .u8 0, .int .u8 0, .int .u8 0, .int .u8 0] 5)) := fun _ => by kernel_rfl
  go_enter Tryd.func35, Tryd.ntmps35
  go_wp2
  go_step3
  go_wp2
  go_step3
  go_wp2
  go_loopw [3, 4] (fun v i wr => ∃ (k : Nat) (s : Int), k < 8 ∧ s + 8 * k = 56 ∧ i = .int .i64 s ∧ Own1 w.heap.size 5 w (bvals (preBytes l k)) v wr) (fun _ i _ => (intOf i).toNat)
  case atStart => exact ⟨0, 56, by omega, rfl, rfl, Own1.made _ _ _ (by decide) rfl⟩
  case round =>
    obtain ⟨k, s, hlt, hs, rfl, hown⟩ := hrel
    have hlen := Lib.hid (show (bvals (preBytes l k)).length = k by rw [bvals_length, preBytes_length])
    have hn := Lib.hid (show bvals (preBytes l (k + 1)) = bvals (preBytes l k) ++ [.int .u8 (l / 2 ^ s.toNat % 256)] by rw [preBytes_succ, bvals_snoc, byteI_val]; congr; omega)
    obtain ⟨us, hus⟩ : ∃ us, us = bvals (preBytes l k) := ⟨_, rfl⟩
    rw [← hus] at hown hlen hn
    clear hus
    by_cases h7 : s = 0
    · subst h7
      obtain rfl : k = 7 := by omega
      clear hs
      have hn7 := Lib.hid (show us ++ [.int .u8 (l % 256)] = bvals (preBytes l 8) by have h := hn.out; rw [show (0 : Int).toNat = 0 from rfl, Int.pow_zero, Int.ediv_one] at h; exact h.symm)
      go_wp2_with (at_builtin; refine wpList_append_own _ rfl _ _ 61 rfl w.heap.size 5 i0 (.int .u8 0) 1 1 Tryd.underlying61 hi hz0 hz1 hz2 rfl (by decide) _ _ _ rfl (hown.1.alloc _) ⟨wr.heap.size, 0, none⟩ 1 1 [.int .u8 (l % 256)] rfl rfl (cell_one_new _ _ _) (by simp [Value.oneCell']) (by have := hlen.out; unfold maxLen; omega) (by have := hlen.out; omega) (by have := hown.2.2; simp; omega) ?_; intro v' w1 hown' hgrow hnil; clear hnil; have hown1 := hown.snoc hown' hgrow; rw [hn7.out] at hown1; have hconv := conv_bytes Tryd.underlying61 Tryd.underlying5 Tryd.underlying9 hown1.slc (by intro h; have := preBytes_length l 8; rw [h] at this; cases this))
      rw [Exit.noGoto_ret]
      go_ret
      exact ⟨rfl, hown1.2.1⟩
    · have hs' := Lib.hid hs
      have h8 : 8 ≤ s := by omega
      have h9 : s ≤ 56 := by omega
      have h0 : (s == 0) = false := by simpa using h7
      clear hs h7
      go_wp2_with (at_builtin; refine wpList_append_own _ rfl _ _ 61 rfl w.heap.size 5 i0 (.int .u8 0) 1 1 Tryd.underlying61 hi hz0 hz1 hz2 rfl (by decide) _ _ _ rfl (hown.1.alloc _) ⟨wr.heap.size, 0, none⟩ 1 1 [.int .u8 (l / 2 ^ s.toNat % 256)] rfl rfl (cell_one_new _ _ _) (by simp [Value.oneCell']) (by have := hlen.out; unfold maxLen; omega) (by have := hlen.out; omega) (by have := hown.2.2; simp; omega) ?_; intro v' w1 hown' hgrow hnil; clear hnil)
      have hown1 := hown.snoc hown' hgrow
      clear hown hown' hgrow
      go_wp2
      go_roundw
      case rel => exact ⟨k + 1, s - 8, by have := hs'.out; omega, by have := hs'.out; omega, rfl, by rw [hn.out]; exact hown1⟩
      case measure => simp [intOf]; omega
end Go.Proofs.YtnlioeheogkkiaaDoor
