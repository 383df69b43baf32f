/- Walks: the program's cursor goes on. -/
import Derived.Test.YtmdlndmibodimaaDoorTokB
namespace Go.Proofs.YtmdlndmibodimaaDoor
open Go.RowKit
open Tk7

set_option maxRecDepth 100000 in
set_option maxHeartbeats 2000000 in
theorem skip_blank {w : World} {R : Nat} {s : ByteArray} {k f : Nat} (h : Cur w R s k f) (hk : k ≤ s.size) (hs : s.size ≤ maxLen) :
    Calls Tryd.prog 44 #[.pointer (some ⟨R, 0, none⟩), .func (.func 45) #[] #[]] w fun e w' => e = .returned (.tuple #[]) ∧ Only R w w' ∧ Cur w' R s (k + ((restAt s k).takeWhile blankB).length) f := by
  have hs' := hs
  unfold maxLen at hs'
  go_enter Tryd.func44, Tryd.ntmps44
  go_wp2
  go_loopg [] (s.size - k) (fun g wr => ∃ j : Nat, k ≤ j ∧ j ≤ s.size ∧ g = s.size - j ∧ Hid (Cur wr R s j f) ∧ Only R w wr ∧ Hid (k + ((restAt s k).takeWhile blankB).length = j + ((restAt s j).takeWhile blankB).length))
  case atStart => exact ⟨k, Nat.le_refl _, hk, rfl, h, Only.refl _ _, Lib.hid rfl⟩
  case round =>
    obtain ⟨j, hkj, hj, hg, hC, hO, hL⟩ := hrel
    by_cases hz : j = s.size
    · have hD := fun n => isDone_any (hC.out.drewN n) true (by rw [beq_iff_eq]; omega)
      have he := Lib.hid (show k + ((restAt s k).takeWhile blankB).length = j by rw [hL.out, rest_nil (by omega)]; rfl)
      clear hL hz hg hs hs'
      obtain ⟨hlt, c0, c1, c2, q0, q1, q2⟩ := hC.out.parts
      go_wp2_with fail
      go_quiet ((go_at_call 32; exact Calls.quiet_of (hD _)))
      go_wp2
      go_end0
      exact ⟨rfl, hO.drewN _, by rw [he.out]; exact hC.out.drewN _⟩
    · have hjl : j < s.size := by omega
      have hD := fun n => isDone_any (hC.out.drewN n) false (by rw [beq_eq_false_iff_ne]; omega)
      have hr := rest_cons hjl
      have hB := fun w => isBlank_any (s[j]'hjl) w
      have hL1 := Lib.hid (fun (h : blankB (s[j]'hjl) = true) => show k + ((restAt s k).takeWhile blankB).length = (j + 1) + ((restAt s (j + 1)).takeWhile blankB).length by rw [hL.out, hr, while_true h]; omega)
      have hL2 := Lib.hid (fun (h : blankB (s[j]'hjl) = false) => show k + ((restAt s k).takeWhile blankB).length = j by rw [hL.out, hr, while_false h]; omega)
      obtain ⟨q, hq⟩ : ∃ q, q = blankB (s[j]'hjl) := ⟨_, rfl⟩
      rw [← hq] at hB
      have HQ := Lib.hid hq
      have g1 : (0 : Int) ≤ (j : Int) := by omega
      have g2 : (j : Int) < (s.size : Int) := by omega
      have hw : IntKind.i64.wrap ((j : Int) + 1) = (j : Int) + 1 := IntWalk.i64_in _ ⟨by omega, by omega⟩
      obtain ⟨hlt, c0, c1, c2, q0, q1, q2⟩ := hC.out.parts
      clear hq hr hL hz hs hs'
      cases q with
      | true =>
        go_wp2_with fail
        go_quiet (first | (go_at_call 32; exact Calls.quiet_of (hD _)) | (go_at_call 45; exact quiet_same (hB _)))
        go_wp2
        go_roundg (s.size - (j + 1))
        case rel => exact ⟨j + 1, by omega, by omega, rfl, Lib.hid ((hC.out.drewN _).step _ _ (by go_num)), (hO.drewN _).setCell _ _, Lib.hid (hL1.out HQ.out.symm)⟩
        case measure => omega
      | false =>
        go_wp2_with fail
        go_quiet (first | (go_at_call 32; exact Calls.quiet_of (hD _)) | (go_at_call 45; exact quiet_same (hB _)))
        go_wp2
        go_end0
        exact ⟨rfl, hO.drewN _, by rw [hL2.out HQ.out.symm]; exact hC.out.drewN _⟩
set_option maxRecDepth 100000 in
set_option maxHeartbeats 2000000 in
theorem skip_small {w : World} {R : Nat} {s : ByteArray} {k f : Nat} (h : Cur w R s k f) (hk : k ≤ s.size) (hs : s.size ≤ maxLen) :
    Calls Tryd.prog 44 #[.pointer (some ⟨R, 0, none⟩), .func (.func 47) #[] #[]] w fun e w' => e = .returned (.tuple #[]) ∧ Only R w w' ∧ Cur w' R s (k + ((restAt s k).takeWhile smallB).length) f := by
  have hs' := hs
  unfold maxLen at hs'
  go_enter Tryd.func44, Tryd.ntmps44
  go_wp2
  go_loopg [] (s.size - k) (fun g wr => ∃ j : Nat, k ≤ j ∧ j ≤ s.size ∧ g = s.size - j ∧ Hid (Cur wr R s j f) ∧ Only R w wr ∧ Hid (k + ((restAt s k).takeWhile smallB).length = j + ((restAt s j).takeWhile smallB).length))
  case atStart => exact ⟨k, Nat.le_refl _, hk, rfl, h, Only.refl _ _, Lib.hid rfl⟩
  case round =>
    obtain ⟨j, hkj, hj, hg, hC, hO, hL⟩ := hrel
    by_cases hz : j = s.size
    · have hD := fun n => isDone_any (hC.out.drewN n) true (by rw [beq_iff_eq]; omega)
      have he := Lib.hid (show k + ((restAt s k).takeWhile smallB).length = j by rw [hL.out, rest_nil (by omega)]; rfl)
      clear hL hz hg hs hs'
      obtain ⟨hlt, c0, c1, c2, q0, q1, q2⟩ := hC.out.parts
      go_wp2_with fail
      go_quiet ((go_at_call 32; exact Calls.quiet_of (hD _)))
      go_wp2
      go_end0
      exact ⟨rfl, hO.drewN _, by rw [he.out]; exact hC.out.drewN _⟩
    · have hjl : j < s.size := by omega
      have hD := fun n => isDone_any (hC.out.drewN n) false (by rw [beq_eq_false_iff_ne]; omega)
      have hr := rest_cons hjl
      have hB := fun w => isSmall_any (s[j]'hjl) w
      have hL1 := Lib.hid (fun (h : smallB (s[j]'hjl) = true) => show k + ((restAt s k).takeWhile smallB).length = (j + 1) + ((restAt s (j + 1)).takeWhile smallB).length by rw [hL.out, hr, while_true h]; omega)
      have hL2 := Lib.hid (fun (h : smallB (s[j]'hjl) = false) => show k + ((restAt s k).takeWhile smallB).length = j by rw [hL.out, hr, while_false h]; omega)
      obtain ⟨q, hq⟩ : ∃ q, q = smallB (s[j]'hjl) := ⟨_, rfl⟩
      rw [← hq] at hB
      have HQ := Lib.hid hq
      have g1 : (0 : Int) ≤ (j : Int) := by omega
      have g2 : (j : Int) < (s.size : Int) := by omega
      have hw : IntKind.i64.wrap ((j : Int) + 1) = (j : Int) + 1 := IntWalk.i64_in _ ⟨by omega, by omega⟩
      obtain ⟨hlt, c0, c1, c2, q0, q1, q2⟩ := hC.out.parts
      clear hq hr hL hz hs hs'
      cases q with
      | true =>
        go_wp2_with fail
        go_quiet (first | (go_at_call 32; exact Calls.quiet_of (hD _)) | (go_at_call 47; exact quiet_same (hB _)))
        go_wp2
        go_roundg (s.size - (j + 1))
        case rel => exact ⟨j + 1, by omega, by omega, rfl, Lib.hid ((hC.out.drewN _).step _ _ (by go_num)), (hO.drewN _).setCell _ _, Lib.hid (hL1.out HQ.out.symm)⟩
        case measure => omega
      | false =>
        go_wp2_with fail
        go_quiet (first | (go_at_call 32; exact Calls.quiet_of (hD _)) | (go_at_call 47; exact quiet_same (hB _)))
        go_wp2
        go_end0
        exact ⟨rfl, hO.drewN _, by rw [hL2.out HQ.out.symm]; exact hC.out.drewN _⟩
set_option maxRecDepth 100000 in
set_option maxHeartbeats 2000000 in
theorem skip_digit {w : World} {R : Nat} {s : ByteArray} {k f : Nat} (h : Cur w R s k f) (hk : k ≤ s.size) (hs : s.size ≤ maxLen) :
    Calls Tryd.prog 44 #[.pointer (some ⟨R, 0, none⟩), .func (.func 48) #[] #[]] w fun e w' => e = .returned (.tuple #[]) ∧ Only R w w' ∧ Cur w' R s (k + ((restAt s k).takeWhile digB).length) f := by
  have hs' := hs
  unfold maxLen at hs'
  go_enter Tryd.func44, Tryd.ntmps44
  go_wp2
  go_loopg [] (s.size - k) (fun g wr => ∃ j : Nat, k ≤ j ∧ j ≤ s.size ∧ g = s.size - j ∧ Hid (Cur wr R s j f) ∧ Only R w wr ∧ Hid (k + ((restAt s k).takeWhile digB).length = j + ((restAt s j).takeWhile digB).length))
  case atStart => exact ⟨k, Nat.le_refl _, hk, rfl, h, Only.refl _ _, Lib.hid rfl⟩
  case round =>
    obtain ⟨j, hkj, hj, hg, hC, hO, hL⟩ := hrel
    by_cases hz : j = s.size
    · have hD := fun n => isDone_any (hC.out.drewN n) true (by rw [beq_iff_eq]; omega)
      have he := Lib.hid (show k + ((restAt s k).takeWhile digB).length = j by rw [hL.out, rest_nil (by omega)]; rfl)
      clear hL hz hg hs hs'
      obtain ⟨hlt, c0, c1, c2, q0, q1, q2⟩ := hC.out.parts
      go_wp2_with fail
      go_quiet ((go_at_call 32; exact Calls.quiet_of (hD _)))
      go_wp2
      go_end0
      exact ⟨rfl, hO.drewN _, by rw [he.out]; exact hC.out.drewN _⟩
    · have hjl : j < s.size := by omega
      have hD := fun n => isDone_any (hC.out.drewN n) false (by rw [beq_eq_false_iff_ne]; omega)
      have hr := rest_cons hjl
      have hB := fun w => isDigit_any (s[j]'hjl) w
      have hL1 := Lib.hid (fun (h : digB (s[j]'hjl) = true) => show k + ((restAt s k).takeWhile digB).length = (j + 1) + ((restAt s (j + 1)).takeWhile digB).length by rw [hL.out, hr, while_true h]; omega)
      have hL2 := Lib.hid (fun (h : digB (s[j]'hjl) = false) => show k + ((restAt s k).takeWhile digB).length = j by rw [hL.out, hr, while_false h]; omega)
      obtain ⟨q, hq⟩ : ∃ q, q = digB (s[j]'hjl) := ⟨_, rfl⟩
      rw [← hq] at hB
      have HQ := Lib.hid hq
      have g1 : (0 : Int) ≤ (j : Int) := by omega
      have g2 : (j : Int) < (s.size : Int) := by omega
      have hw : IntKind.i64.wrap ((j : Int) + 1) = (j : Int) + 1 := IntWalk.i64_in _ ⟨by omega, by omega⟩
      obtain ⟨hlt, c0, c1, c2, q0, q1, q2⟩ := hC.out.parts
      clear hq hr hL hz hs hs'
      cases q with
      | true =>
        go_wp2_with fail
        go_quiet (first | (go_at_call 32; exact Calls.quiet_of (hD _)) | (go_at_call 48; exact quiet_same (hB _)))
        go_wp2
        go_roundg (s.size - (j + 1))
        case rel => exact ⟨j + 1, by omega, by omega, rfl, Lib.hid ((hC.out.drewN _).step _ _ (by go_num)), (hO.drewN _).setCell _ _, Lib.hid (hL1.out HQ.out.symm)⟩
        case measure => omega
      | false =>
        go_wp2_with fail
        go_quiet (first | (go_at_call 32; exact Calls.quiet_of (hD _)) | (go_at_call 48; exact quiet_same (hB _)))
        go_wp2
        go_end0
        exact ⟨rfl, hO.drewN _, by rw [hL2.out HQ.out.symm]; exact hC.out.drewN _⟩
end Go.Proofs.YtmdlndmibodimaaDoor
