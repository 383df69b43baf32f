/- Walks: what the calls of the chapter's examples give. -/
import Derived.Test.YtkmkhegekonbmaaDoorRowLL
namespace Go.Proofs.YtkmkhegekonbmaaDoor
open Go.RowKit
open Rw6

theorem rowsK1 (w : World) : Calls Tryd.prog 25 #[.string ⟨#[]⟩] w fun e w' => Below w.heap.size w w' ∧ ∃ A c, e = .returned (.tuple #[.slice A 0 c, .agg #[.int .i64 0, .int .i64 0]]) := by
  have h : readG [] = .ok [] := readF (by decide) (by kernel_rfl)
  refine (rows_ok h w).mono ?_
  rintro e w' ⟨hb, A, c, he, _⟩
  exact ⟨hb, A, c, he⟩
theorem rowsK2 (w : World) : Calls Tryd.prog 25 #[.string ⟨#[35, 32, 111, 110, 108, 121]⟩] w fun e w' => Below w.heap.size w w' ∧ ∃ A c, e = .returned (.tuple #[.slice A 0 c, .agg #[.int .i64 0, .int .i64 0]]) := by
  have h : readG [35, 32, 111, 110, 108, 121] = .ok [] := readF (by decide) (by kernel_rfl)
  refine (rows_ok h w).mono ?_
  rintro e w' ⟨hb, A, c, he, _⟩
  exact ⟨hb, A, c, he⟩
theorem failsK1 (w : World) : Calls Tryd.prog 28 #[.string ⟨#[97, 34, 98]⟩] w fun e w' => e = .returned (.bool true) ∧ Below w.heap.size w w' :=
  fails_any (t := [97, 34, 98]) (by decide) (readF (by decide) (by kernel_rfl)) w
theorem failsK2 (w : World) : Calls Tryd.prog 28 #[.string ⟨#[34, 97, 34, 98]⟩] w fun e w' => e = .returned (.bool true) ∧ Below w.heap.size w w' :=
  fails_any (t := [34, 97, 34, 98]) (by decide) (readF (by decide) (by kernel_rfl)) w
theorem failsK3 (w : World) : Calls Tryd.prog 28 #[.string ⟨#[34, 97]⟩] w fun e w' => e = .returned (.bool true) ∧ Below w.heap.size w w' :=
  fails_any (t := [34, 97]) (by decide) (readF (by decide) (by kernel_rfl)) w
theorem failsK4 (w : World) : Calls Tryd.prog 28 #[.string ⟨#[97, 92, 98]⟩] w fun e w' => e = .returned (.bool true) ∧ Below w.heap.size w w' :=
  fails_any (t := [97, 92, 98]) (by decide) (readF (by decide) (by kernel_rfl)) w
theorem failsK5 (w : World) : Calls Tryd.prog 28 #[.string ⟨#[34, 92, 110, 34]⟩] w fun e w' => e = .returned (.bool true) ∧ Below w.heap.size w w' :=
  fails_any (t := [34, 92, 110, 34]) (by decide) (readF (by decide) (by kernel_rfl)) w
theorem singleK (w : World) : Calls Tryd.prog 26 #[.string ⟨#[34, 92, 120, 52, 49, 92, 34, 34]⟩, .agg #[.bool true, .string ⟨#[65, 34]⟩, .int .i64 0]] w fun e w' => e = .returned (.bool true) ∧ Below w.heap.size w w' :=
  single_any (t := [34, 92, 120, 52, 49, 92, 34, 34]) (q := true) (x := [65, 34]) (readF (by decide) (by kernel_rfl)) w
theorem wordK1 (w : World) : Calls Tryd.prog 15 #[.agg #[.bool true, .string ⟨#[255]⟩, .int .i64 0]] w fun e w' => e = .returned (.tuple #[.string ⟨#[34, 92, 120, 102, 102, 34]⟩, .int .i64 0]) ∧ Below w.heap.size w w' := by
  have h := word_is true ⟨#[255]⟩ 0 (by decide) w
  rw [show wordG true (⟨#[255]⟩ : ByteArray).data.toList = ([34, 92, 120, 102, 102, 34], 0) by decide +kernel] at h
  exact h
theorem wordK2 (w : World) : Calls Tryd.prog 15 #[.agg #[.bool false, .string ⟨#[]⟩, .int .i64 0]] w fun e w' => e = .returned (.tuple #[.string ⟨#[]⟩, .int .i64 3]) ∧ Below w.heap.size w w' := by
  have h := word_is false ⟨#[]⟩ 0 (by decide) w
  rw [show wordG false (⟨#[]⟩ : ByteArray).data.toList = ([], 3) by decide +kernel] at h
  exact h
theorem bareK1 (w : World) : Calls Tryd.prog 29 #[.string ⟨#[97, 35]⟩] w fun e w' => e = .returned (.bool true) ∧ w = w' := by
  have h := bare_any ⟨#[97, 35]⟩ (by decide) w
  rw [show bareB (⟨#[97, 35]⟩ : ByteArray).data.toList = true by decide +kernel] at h
  exact h
theorem bareK2 (w : World) : Calls Tryd.prog 29 #[.string ⟨#[35, 97]⟩] w fun e w' => e = .returned (.bool false) ∧ w = w' := by
  have h := bare_any ⟨#[35, 97]⟩ (by decide) w
  rw [show bareB (⟨#[35, 97]⟩ : ByteArray).data.toList = false by decide +kernel] at h
  exact h
theorem numK1 (w : World) : Calls Tryd.prog 30 #[.agg #[.bool false, .string ⟨#[48, 55]⟩, .int .i64 0], .int .u64 0, .int .u64 9] w fun e w' => e = .returned (.int .i64 3) ∧ Below w.heap.size w w' := by
  have h := numberL_any false ⟨#[48, 55]⟩ 0 0 9 (by decide) w
  rw [show (numG false (⟨#[48, 55]⟩ : ByteArray).data.toList 0 9).2 = 3 by decide +kernel] at h
  exact h
theorem numK2 (w : World) : Calls Tryd.prog 30 #[.agg #[.bool false, .string ⟨#[49, 56, 52, 52, 54, 55, 52, 52, 48, 55, 51, 55, 48, 57, 53, 53, 49, 54, 49, 54]⟩, .int .i64 0], .int .u64 0, .int .u64 18446744073709551615] w fun e w' => e = .returned (.int .i64 2) ∧ Below w.heap.size w w' := by
  have h := numberL_any false ⟨#[49, 56, 52, 52, 54, 55, 52, 52, 48, 55, 51, 55, 48, 57, 53, 53, 49, 54, 49, 54]⟩ 0 0 18446744073709551615 (by decide) w
  rw [show (numG false (⟨#[49, 56, 52, 52, 54, 55, 52, 52, 48, 55, 51, 55, 48, 57, 53, 53, 49, 54, 49, 54]⟩ : ByteArray).data.toList 0 18446744073709551615).2 = 2 by decide +kernel] at h
  exact h
theorem numK3 (w : World) : Calls Tryd.prog 30 #[.agg #[.bool false, .string ⟨#[53]⟩, .int .i64 0], .int .u64 6, .int .u64 9] w fun e w' => e = .returned (.int .i64 2) ∧ Below w.heap.size w w' := by
  have h := numberL_any false ⟨#[53]⟩ 0 6 9 (by decide) w
  rw [show (numG false (⟨#[53]⟩ : ByteArray).data.toList 6 9).2 = 2 by decide +kernel] at h
  exact h
theorem numK4 (w : World) : Calls Tryd.prog 30 #[.agg #[.bool true, .string ⟨#[53]⟩, .int .i64 0], .int .u64 0, .int .u64 9] w fun e w' => e = .returned (.int .i64 3) ∧ Below w.heap.size w w' := by
  have h := numberL_any true ⟨#[53]⟩ 0 0 9 (by decide) w
  rw [show (numG true (⟨#[53]⟩ : ByteArray).data.toList 0 9).2 = 3 by decide +kernel] at h
  exact h
theorem sgnK1 (w : World) : Calls Tryd.prog 31 #[.string ⟨#[45, 53]⟩] w fun e w' => e = .returned (.tuple #[.int .i64 (-5), .int .i64 0]) ∧ Below w.heap.size w w' := by
  have h := signedL_any ⟨#[45, 53]⟩ (by decide) w
  rw [show sgnG false (⟨#[45, 53]⟩ : ByteArray).data.toList = ((-5), 0) by decide +kernel] at h
  exact h
theorem sgnK2 (w : World) : Calls Tryd.prog 31 #[.string ⟨#[45, 48]⟩] w fun e w' => e = .returned (.tuple #[.int .i64 0, .int .i64 3]) ∧ Below w.heap.size w w' := by
  have h := signedL_any ⟨#[45, 48]⟩ (by decide) w
  rw [show sgnG false (⟨#[45, 48]⟩ : ByteArray).data.toList = (0, 3) by decide +kernel] at h
  exact h
theorem sgnK3 (w : World) : Calls Tryd.prog 31 #[.string ⟨#[45, 57, 50, 50, 51, 51, 55, 50, 48, 51, 54, 56, 53, 52, 55, 55, 53, 56, 48, 56]⟩] w fun e w' => e = .returned (.tuple #[.int .i64 (-9223372036854775808), .int .i64 0]) ∧ Below w.heap.size w w' := by
  have h := signedL_any ⟨#[45, 57, 50, 50, 51, 51, 55, 50, 48, 51, 54, 56, 53, 52, 55, 55, 53, 56, 48, 56]⟩ (by decide) w
  rw [show sgnG false (⟨#[45, 57, 50, 50, 51, 51, 55, 50, 48, 51, 54, 56, 53, 52, 55, 55, 53, 56, 48, 56]⟩ : ByteArray).data.toList = ((-9223372036854775808), 0) by decide +kernel] at h
  exact h
theorem sgnK4 (w : World) : Calls Tryd.prog 31 #[.string ⟨#[57, 50, 50, 51, 51, 55, 50, 48, 51, 54, 56, 53, 52, 55, 55, 53, 56, 48, 56]⟩] w fun e w' => e = .returned (.tuple #[.int .i64 0, .int .i64 2]) ∧ Below w.heap.size w w' := by
  have h := signedL_any ⟨#[57, 50, 50, 51, 51, 55, 50, 48, 51, 54, 56, 53, 52, 55, 55, 53, 56, 48, 56]⟩ (by decide) w
  rw [show sgnG false (⟨#[57, 50, 50, 51, 51, 55, 50, 48, 51, 54, 56, 53, 52, 55, 55, 53, 56, 48, 56]⟩ : ByteArray).data.toList = (0, 2) by decide +kernel] at h
  exact h
theorem whichK1 (w W : World) (b : Nat) (hW : W = w.alloc (.cells #[.string ⟨#[97]⟩, .string ⟨#[98]⟩, .string ⟨#[98]⟩] 9)) (hb : b = w.heap.size) :
    Calls Tryd.prog 19 #[.agg #[.bool false, .string ⟨#[98]⟩, .int .i64 0], .slice (some ⟨b, 0, none⟩) 3 3] W fun e w' => e = .returned (.tuple #[.int .i64 1, .int .i64 0]) ∧ Below w.heap.size w w' := by
  subst hW hb
  have h := which_is false ⟨#[98]⟩ 0 _ [⟨#[97]⟩, ⟨#[98]⟩, ⟨#[98]⟩] _ (Slc.lit w [.string ⟨#[97]⟩, .string ⟨#[98]⟩, .string ⟨#[98]⟩] 9 3 rfl (by decide))
  rw [show whichG false ⟨#[98]⟩ [⟨#[97]⟩, ⟨#[98]⟩, ⟨#[98]⟩] = (1, 0) by decide +kernel] at h
  refine h.mono ?_
  rintro e w' ⟨rfl, hb⟩
  exact ⟨rfl, (below1 _ _).trans (hb.mono (by rw [World.size_alloc]; omega))⟩
theorem whichK2 (w W : World) (b : Nat) (hW : W = w.alloc (.cells #[.string ⟨#[97]⟩] 9)) (hb : b = w.heap.size) :
    Calls Tryd.prog 19 #[.agg #[.bool false, .string ⟨#[99]⟩, .int .i64 0], .slice (some ⟨b, 0, none⟩) 1 1] W fun e w' => e = .returned (.tuple #[.int .i64 0, .int .i64 7]) ∧ Below w.heap.size w w' := by
  subst hW hb
  have h := which_is false ⟨#[99]⟩ 0 _ [⟨#[97]⟩] _ (Slc.lit w [.string ⟨#[97]⟩] 9 1 rfl (by decide))
  rw [show whichG false ⟨#[99]⟩ [⟨#[97]⟩] = (0, 7) by decide +kernel] at h
  refine h.mono ?_
  rintro e w' ⟨rfl, hb⟩
  exact ⟨rfl, (below1 _ _).trans (hb.mono (by rw [World.size_alloc]; omega))⟩
theorem whichK3 (w W : World) (b : Nat) (hW : W = w.alloc (.cells #[.string ⟨#[97]⟩] 9)) (hb : b = w.heap.size) :
    Calls Tryd.prog 19 #[.agg #[.bool true, .string ⟨#[97]⟩, .int .i64 0], .slice (some ⟨b, 0, none⟩) 1 1] W fun e w' => e = .returned (.tuple #[.int .i64 0, .int .i64 7]) ∧ Below w.heap.size w w' := by
  subst hW hb
  have h := which_is true ⟨#[97]⟩ 0 _ [⟨#[97]⟩] _ (Slc.lit w [.string ⟨#[97]⟩] 9 1 rfl (by decide))
  rw [show whichG true ⟨#[97]⟩ [⟨#[97]⟩] = (0, 7) by decide +kernel] at h
  refine h.mono ?_
  rintro e w' ⟨rfl, hb⟩
  exact ⟨rfl, (below1 _ _).trans (hb.mono (by rw [World.size_alloc]; omega))⟩
end Go.Proofs.YtkmkhegekonbmaaDoor
