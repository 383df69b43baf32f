/- Walks: the document's own texts of events and Ids. -/
import Derived.Test.YtcmdndgaggbhoaaGreatDoorEventTa
import Derived.Deep.RegionHeld3
namespace Go.Proofs.YtcmdndgaggbhoaaGreatDoor.Ev
open Go.RowKit Go.Shelf
open Lb

theorem refLabelText (l : Nat) (hl : l < 18446744073709551616) (w : World) (_ : Tab2 w) :
    Calls Tryz.prog 41 #[.int .u64 (l : Int)] w fun e w' => e = .returned (.string (strOf (textOf (cats l)))) ∧ Below w.heap.size w w' :=
  Go.Proofs.YtcmdndgaggbhoaaGreatDoor.refText_any l w hl
theorem refSigned_b (v : Int) (h0 : -9223372036854775808 ≤ v) (h1 : v ≤ 9223372036854775807) (w : World) (_ : Tab2 w) :
    Calls Tryz.prog 42 #[.int .i64 v] w fun e w' => e = .returned (.string (strOf (Lib.itoa v))) ∧ Below w.heap.size w w' :=
  (refSigned_any v h0 h1 w).mono fun _ _ ⟨he, m, hm⟩ => ⟨he, by rw [hm]; exact below_drewN (Below.refl _ _) m⟩
theorem refDecimal_b (n : Nat) (hn : n < 18446744073709551616) (w : World) (_ : Tab2 w) :
    Calls Tryz.prog 47 #[.int .u64 (n : Int)] w fun e w' => e = .returned (.string (strOf (Lib.decDigits n))) ∧ Below w.heap.size w w' :=
  (refDecimal3_any n hn w).mono fun _ _ ⟨he, m, hm⟩ => ⟨he, by rw [hm]; exact below_drewN (Below.refl _ _) m⟩
attribute [local go_sem] tab2_drew below_drew_eq
attribute [local simp] tab2_drew below_drew_eq

set_option maxHeartbeats 2000000 in
theorem refTextYes (l : Nat) (k v : Int) (hl : l < 18446744073709551616) (hk : isKindB k = true) (h0 : -9223372036854775808 ≤ v) (h1 : v ≤ 9223372036854775807) (w : World) (ht : Tab2 w) :
    Calls Tryz.prog 18 #[ev l k v] w fun e w' => e = .returned (.tuple #[.string (strOf (evT l k v)), .int .i64 0]) ∧ Below w.heap.size w w' := by
  obtain ⟨k0, k1⟩ := isKindB_iff.1 hk
  obtain ⟨n, rfl⟩ := Int.eq_ofNat_of_zero_le k0
  have hn : n < 26 := by omega
  have hL := refLetter_any (n : Int)
  rw [letterS_at hn, show checkI (n : Int) = 0 by simp [checkI, hk]] at hL
  have hT := refLabelText l hl
  have hTs := text_size l
  have hI := refSigned_b v h0 h1
  have hIs : (strOf (Lib.itoa v)).size ≤ 21 := by
    have := Lib.itoa_length_le v h0 h1
    simpa [strOf, ByteArray.size] using this
  have hres : (letL n ++ ⟨#[32]⟩ ++ strOf (textOf (cats l)) ++ ⟨#[32]⟩ ++ strOf (Lib.itoa v)) = strOf (evT l n v) := by
    apply ByteArray.ext
    simp [strOf, letL, evT]
  have hLs : (letL n).size = 1 := by simp [letL, strOf, ByteArray.size]
  rw [← hres]
  clear hres hk k0 k1 h0 h1 hn hl
  obtain ⟨T, hTe⟩ : ∃ T, T = strOf (textOf (cats l)) := ⟨_, rfl⟩
  obtain ⟨I, hIe⟩ : ∃ T, T = strOf (Lib.itoa v) := ⟨_, rfl⟩
  obtain ⟨L, hLe⟩ : ∃ T, T = letL n := ⟨_, rfl⟩
  rw [← hTe, ← hIe, ← hLe]
  rw [← hTe] at hT hTs
  rw [← hIe] at hI hIs
  rw [← hLe] at hL hLs
  clear hTe hIe hLe
  have hLs2 : L.size ≤ 1 := by omega
  clear hLs
  obtain ⟨A1, hA1⟩ : ∃ A, A = L ++ ⟨#[32]⟩ := ⟨_, rfl⟩
  obtain ⟨A2, hA2⟩ : ∃ A, A = A1 ++ T := ⟨_, rfl⟩
  obtain ⟨A3, hA3⟩ : ∃ A, A = A2 ++ ⟨#[32]⟩ := ⟨_, rfl⟩
  obtain ⟨A4, hA4⟩ : ∃ A, A = A3 ++ I := ⟨_, rfl⟩
  have z1 : A1.size ≤ 2 := by rw [hA1, ByteArray.size_append']; show L.size + 1 ≤ 2; omega
  have z2 : A2.size ≤ 196 := by rw [hA2, ByteArray.size_append']; omega
  have z3 : A3.size ≤ 197 := by rw [hA3, ByteArray.size_append']; show A2.size + 1 ≤ 197; omega
  have s1 : ∀ w, (Op.stringOp .add L ⟨#[32]⟩).run Tryz.prog w = .ok (.string A1) w := fun w => by rw [hA1]; exact run_string_add_sum w L _ (by show L.size + 1 ≤ _; omega)
  have s2 : ∀ w, (Op.stringOp .add A1 T).run Tryz.prog w = .ok (.string A2) w := fun w => by rw [hA2]; exact run_string_add_sum w A1 _ (by omega)
  have s3 : ∀ w, (Op.stringOp .add A2 ⟨#[32]⟩).run Tryz.prog w = .ok (.string A3) w := fun w => by rw [hA3]; exact run_string_add_sum w A2 _ (by show A2.size + 1 ≤ _; omega)
  have s4 : ∀ w, (Op.stringOp .add A3 I).run Tryz.prog w = .ok (.string A4) w := fun w => by rw [hA4]; exact run_string_add_sum w A3 _ (by omega)
  rw [show L ++ ⟨#[32]⟩ ++ T ++ ⟨#[32]⟩ ++ I = A4 by rw [hA4, hA3, hA2, hA1]]
  clear hA1 hA2 hA3 hA4 z1 z2 z3 hTs hIs hLs2
  obtain ⟨m, hm⟩ : ∃ m : Int, m = (l : Int) := ⟨_, rfl⟩
  rw [← hm] at hT ⊢
  clear hm
  unfold ev
  go_enter Tryz.func18, Tryz.ntmps18
  go_wp2_with (go_at_call 40; refine (hL _).mono ?_; rintro e w' ⟨rfl, rfl⟩)
  refine named_wp fun W hW => ?_
  have hB : Below w.heap.size w W := by rw [hW]; go_grown
  have hE : Blk W w.heap.size [.int .u64 m, .int .i64 n, .int .i64 v] := by rw [hW]; exact Blk.is _ rfl
  have ht1 : Tab2 W := ht.below hB
  clear hW
  have c0 := hE.cell 0 _ rfl
  have c1 := hE.cell 1 _ rfl
  have c2 := hE.cell 2 _ rfl
  clear hE ht
  go_region_held3 (fun w' => w'.cell? ⟨w.heap.size, 0, none⟩ = some (.int .u64 m) ∧ w'.cell? ⟨w.heap.size, 1, none⟩ = some (.int .i64 n) ∧ w'.cell? ⟨w.heap.size, 2, none⟩ = some (.int .i64 v) ∧ Tab2 w' ∧ Below w.heap.size w w') (go_keep)
    (first
      | (go_at_call 41; refine (held3t (W := w) (a0 := ⟨w.heap.size, 0, none⟩) (a1 := ⟨w.heap.size, 1, none⟩) (a2 := ⟨w.heap.size, 2, none⟩) (c0 := .int .u64 m) (c1 := .int .i64 n) (c2 := .int .i64 v) hT ?_ ?_ ?_ ?_ ?_).mono ?_; (simp [*]); (simp [*]); (simp [*]); (simp [*]); (simp [*]); rintro e w9 ⟨rfl, g0, g1, g2, g3, g4⟩)
      | (go_at_call 42; refine (held3t (W := w) (a0 := ⟨w.heap.size, 0, none⟩) (a1 := ⟨w.heap.size, 1, none⟩) (a2 := ⟨w.heap.size, 2, none⟩) (c0 := .int .u64 m) (c1 := .int .i64 n) (c2 := .int .i64 v) hI ?_ ?_ ?_ ?_ ?_).mono ?_; (simp [*]); (simp [*]); (simp [*]); (simp [*]); (simp [*]); rintro e w9 ⟨rfl, g0, g1, g2, g3, g4⟩))
  go_wp2
  go_ret2
  exact ⟨rfl, g4⟩
set_option maxHeartbeats 1000000 in
theorem refTextNo (l k v : Int) (hk : isKindB k = false) (w : World) :
    Calls Tryz.prog 18 #[ev l k v] w fun e w' => e = .returned (.tuple #[.string ⟨#[]⟩, .int .i64 11]) ∧ Below w.heap.size w w' := by
  have hL := refLetter_any k
  rw [show letterS k = ⟨#[]⟩ by simp [letterS, hk], show checkI k = 11 by simp [checkI, hk]] at hL
  clear hk
  unfold ev
  go_enter Tryz.func18, Tryz.ntmps18
  go_wp2_with (go_at_call 40; refine (hL _).mono ?_; rintro e w' ⟨rfl, rfl⟩)
  go_ret2
  exact ⟨rfl, by go_grown⟩
theorem refEvText_any (l : Nat) (k v : Int) (hl : l < 18446744073709551616) (h0 : -9223372036854775808 ≤ v) (h1 : v ≤ 9223372036854775807) (w : World) (ht : Tab2 w) :
    Calls Tryz.prog 18 #[ev l k v] w fun e w' => e = .returned (.tuple #[.string (textE l k v).1, .int .i64 (textE l k v).2]) ∧ Below w.heap.size w w' := by
  unfold textE
  by_cases hk : isKindB k = true
  · rw [if_pos hk]
    exact refTextYes l k v hl hk h0 h1 w ht
  · rw [if_neg hk]
    exact refTextNo l k v (by simpa using hk) w
set_option maxHeartbeats 2000000 in
theorem refIdTextYes (l n : Nat) (hl : l < 18446744073709551616) (hn : n < 18446744073709551616) (hk : isCountB n = true) (w : World) (ht : Tab2 w) :
    Calls Tryz.prog 20 #[idv l n] w fun e w' => e = .returned (.tuple #[.string (strOf (idT l n)), .int .i64 0]) ∧ Below w.heap.size w w' := by
  have hC := refCheckId_is (l : Int) (by omega) (show checkIdI (n : Int) = 0 by simp [checkIdI, hk])
  have hT := refLabelText l hl
  have hTs := text_size l
  have hI := refDecimal_b n hn
  have hIs := dec_size n hn
  have hres : (strOf (textOf (cats l)) ++ ⟨#[35]⟩ ++ strOf (Lib.decDigits n)) = strOf (idT l n) := by
    apply ByteArray.ext
    simp [strOf, idT]
  rw [← hres]
  clear hres hk hl hn
  obtain ⟨T, hTe⟩ : ∃ T, T = strOf (textOf (cats l)) := ⟨_, rfl⟩
  obtain ⟨I, hIe⟩ : ∃ T, T = strOf (Lib.decDigits n) := ⟨_, rfl⟩
  rw [← hTe, ← hIe]
  rw [← hTe] at hT hTs
  rw [← hIe] at hI hIs
  clear hTe hIe
  obtain ⟨A1, hA1⟩ : ∃ A, A = T ++ ⟨#[35]⟩ := ⟨_, rfl⟩
  obtain ⟨A2, hA2⟩ : ∃ A, A = A1 ++ I := ⟨_, rfl⟩
  have z1 : A1.size ≤ 195 := by rw [hA1, ByteArray.size_append']; show T.size + 1 ≤ 195; omega
  have s1 : ∀ w, (Op.stringOp .add T ⟨#[35]⟩).run Tryz.prog w = .ok (.string A1) w := fun w => by rw [hA1]; exact run_string_add_sum w T _ (by show T.size + 1 ≤ _; omega)
  have s2 : ∀ w, (Op.stringOp .add A1 I).run Tryz.prog w = .ok (.string A2) w := fun w => by rw [hA2]; exact run_string_add_sum w A1 _ (by omega)
  rw [show T ++ ⟨#[35]⟩ ++ I = A2 by rw [hA2, hA1]]
  clear hA1 hA2 z1 hTs hIs
  obtain ⟨m, hm⟩ : ∃ m : Int, m = (l : Int) := ⟨_, rfl⟩
  obtain ⟨q, hq⟩ : ∃ m : Int, m = (n : Int) := ⟨_, rfl⟩
  rw [← hm] at hT hC ⊢
  rw [← hq] at hI hC ⊢
  clear hm hq
  simp only [idv] at hC ⊢
  go_enter Tryz.func20, Tryz.ntmps20
  go_wp2_with fail
  refine named fun W hW => ?_
  have hB : Below w.heap.size w W := by rw [hW]; go_grown
  have hE : Blk W w.heap.size [.int .u64 m, .int .u64 q] := by rw [hW]; exact Blk.is _ rfl
  clear hW
  refine (hC _).mono ?_
  rintro e w1 ⟨rfl, hb1⟩
  replace hB := bstep hB hb1
  replace hE := hE.later hb1
  have ht1 : Tab2 w1 := ht.below hB
  clear hb1 hC ht
  go_wp2_with fail
  have c0 := hE.cell 0 _ rfl
  have c1 := hE.cell 1 _ rfl
  clear hE
  go_region_held3 (fun w' => w'.cell? ⟨w.heap.size, 0, none⟩ = some (.int .u64 m) ∧ w'.cell? ⟨w.heap.size, 1, none⟩ = some (.int .u64 q) ∧ Tab2 w' ∧ Below w.heap.size w w') (go_keep)
    (first
      | (go_at_call 41; refine (held2t (W := w) (a0 := ⟨w.heap.size, 0, none⟩) (a1 := ⟨w.heap.size, 1, none⟩) (c0 := .int .u64 m) (c1 := .int .u64 q) hT ?_ ?_ ?_ ?_).mono ?_; (simp [*]); (simp [*]); (simp [*]); (simp [*]); rintro e w9 ⟨rfl, g0, g1, g3, g4⟩)
      | (go_at_call 47; refine (held2t (W := w) (a0 := ⟨w.heap.size, 0, none⟩) (a1 := ⟨w.heap.size, 1, none⟩) (c0 := .int .u64 m) (c1 := .int .u64 q) hI ?_ ?_ ?_ ?_).mono ?_; (simp [*]); (simp [*]); (simp [*]); (simp [*]); rintro e w9 ⟨rfl, g0, g1, g3, g4⟩))
  go_wp2
  go_ret2
  exact ⟨rfl, g4⟩
set_option maxHeartbeats 1000000 in
theorem refIdTextNo (l n : Int) (hn : 0 ≤ n) (hk : isCountB n = false) (w : World) :
    Calls Tryz.prog 20 #[idv l n] w fun e w' => e = .returned (.tuple #[.string ⟨#[]⟩, .int .i64 2]) ∧ Below w.heap.size w w' := by
  have hC := refCheckId_is l hn (show checkIdI n = 2 by simp [checkIdI, hk])
  clear hk hn
  simp only [idv] at hC ⊢
  go_enter Tryz.func20, Tryz.ntmps20
  go_wp2_with fail
  refine (hC _).mono ?_
  rintro e w1 ⟨rfl, hb1⟩
  go_wp2
  go_ret2
  exact ⟨rfl, bstep (by go_grown) hb1⟩
theorem refIdText_any (l n : Nat) (hl : l < 18446744073709551616) (hn : n < 18446744073709551616) (w : World) (ht : Tab2 w) :
    Calls Tryz.prog 20 #[idv l n] w fun e w' => e = .returned (.tuple #[.string (idTextE l n).1, .int .i64 (idTextE l n).2]) ∧ Below w.heap.size w w' := by
  unfold idTextE
  by_cases hk : isCountB (n : Int) = true
  · rw [if_pos hk]
    exact refIdTextYes l n hl hn hk w ht
  · rw [if_neg hk]
    exact refIdTextNo l n (by omega) (by simpa using hk) w
end Go.Proofs.YtcmdndgaggbhoaaGreatDoor.Ev
