/- Walks: faulty texts and numbers of the chapter's examples. -/
import Derived.Test.YtmdlndmibodimaaDoorTokNm
import Derived.Test.YtmdlndmibodimaaDoorTokS
import Derived.Test.YtmdlndmibodimaaDoorTokWd
import Derived.Test.YtmdlndmibodimaaDoorTokO
namespace Go.Proofs.YtmdlndmibodimaaDoor
open Go.RowKit
open Tk7

set_option maxRecDepth 100000 in
theorem faulty_true (l : List UInt8) (a : Nat) (h : toksR l = .error (3, a)) (w : World) (hG : SG w) :
    Calls Tryd.prog 11 #[.string (strOf l), .int .i64 (a : Int)] w fun e w' => e = .returned (.bool true) ∧ Below w.heap.size w w' := by
  have hT := fun w hG => tokens_err h w hG
  clear h
  go_enter Tryd.func11, Tryd.ntmps11
  go_wp2_with (go_at_call 9; refine (hT _ hG).mono ?_; rintro e w1 ⟨rfl, hb1⟩)
  go_ret
  exact ⟨rfl, bstep hb1 (below1 _ _)⟩
set_option maxRecDepth 100000 in
theorem number_true (l : List UInt8) (lo hi n e : Int) (hl : l.length ≤ 100000000) (h : numE (3, l, 0) lo hi = (n, e)) (w : World) (hG : SG w) (hR : ER w) :
    Calls Tryd.prog 15 #[.string (strOf l), .int .i64 lo, .int .i64 hi, .int .i64 n, .int .i64 e] w fun e w' => e = .returned (.bool true) ∧ Below w.heap.size w w' := by
  have hN := fun w hG hR => number_any 3 l 0 lo hi hl w hG hR
  rw [h] at hN
  clear h
  go_enter Tryd.func15, Tryd.ntmps15
  go_wp2_with (go_at_call 13; refine (hN _ hG hR).mono ?_; rintro e w1 ⟨rfl, hb1⟩)
  go_ret
  exact ⟨rfl, hb1⟩
theorem R1 : toksR [65, 66, 60, 61, 45, 53, 120] = .ok [(2, [65], 0), (2, [66], 1), (4, [60, 61], 2), (3, [45, 53], 4), (1, [120], 6)] := by rfl
theorem R2 : toksR [] = .ok [] := by rfl
theorem R3 : toksR [60, 32, 61] = .ok [(4, [60], 0), (4, [61], 2)] := by rfl
theorem F1 : toksR [65, 32, 45] = .error (3, 2) := by rfl
theorem F2 : toksR [65, 32, 48, 55] = .error (3, 2) := by rfl
theorem F3 : toksR [45, 48] = .error (3, 0) := by rfl
theorem F4 : toksR [65, 32, 33, 66] = .error (3, 2) := by rfl
theorem F5 : toksR [195, 169] = .error (3, 0) := by rfl
theorem X1 : nextX [65, 32, 66] 1 = ⟨2, [66], 2, 3, 0, 0⟩ := by rfl
theorem X2 : nextX [65] 1 = ⟨0, [], 0, 0, 5, 1⟩ := by rfl
theorem X3 : nextX [65] 2 = ⟨0, [], 0, 0, 2, 0⟩ := by rfl
theorem N0 : numE (1, [97], 0) 0 9 = (0, 11) := by decide +kernel
theorem N1 : numE (3, [45, 53], 0) (-9) 9 = (-5, 0) := by decide +kernel
theorem N2 : numE (3, [49, 48], 0) 0 9 = (0, 2) := by decide +kernel
theorem N3 : numE (3, [57, 57, 57, 57, 57, 57, 57, 57, 57, 57, 57, 57, 57, 57, 57, 57, 57, 57, 57, 57], 0) 0 4611686018427387904 = (0, 2) := by decide +kernel
theorem T0 : errK [(4, [60], 0), (4, [61], 2)] = 0 := by decide +kernel
theorem T1 : textK [(4, [60], 0), (4, [61], 2)] = [60, 32, 61] := by decide +kernel
theorem V1 : wordB (strOf [110, 111, 116]) = true := by decide +kernel
theorem V2 : wordB (strOf [78, 111, 116]) = false := by decide +kernel
theorem V3 : wordB (strOf [120]) = false := by decide +kernel
end Go.Proofs.YtmdlndmibodimaaDoor
