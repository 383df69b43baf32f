/- Walk: Text. -/
import Derived.Test.YtcmdndgaggbhoaaGreatDoorEventD
import Derived.Test.YtcmdndgaggbhoaaGreatDoorLabelAll
import Derived.Test.YtcmdndgaggbhoaaGreatDoorShelf
import Derived.Lib.SmallJoins
import Derived.Lib.ItoaLen
import Derived.Lib.AppendIntMem
import Derived.Deep.RegionHeld3
namespace Go.Proofs.YtcmdndgaggbhoaaGreatDoor.Ev
open Go.RowKit Go.Shelf
open Lb

theorem gPow : Tryz.prog.globalNamed "internal/strconv.uint64pow10" = some 4 := by kernel_rfl
/-- The two tables of the library that the texts read lie where their initialisers laid them. -/
def Tab2 (w : World) : Prop := Tabs w ∧ Lib.TabIs Tryz.prog w "internal/strconv.uint64pow10" .u64 Lib.pow10Tab
theorem Tab2.below {w w' : World} (h : Tab2 w) (hb : Below w.heap.size w w') : Tab2 w' := ⟨h.1.below hb, Go.Joins.tab_stays gPow h.2 hb (Nat.le_refl _)⟩
theorem Tab2.alloc {w : World} (h : Tab2 w) (o : Obj) : Tab2 (w.alloc o) := h.below ((Below.refl _ _).alloc (Nat.le_refl _) o)
theorem tab2_drew (w : World) : Tab2 w.drew = Tab2 w := by
  apply propext
  exact ⟨fun h => h.below ⟨rfl, rfl, rfl, Nat.le_refl _, fun _ _ => rfl⟩, fun h => h.below (Below.refl _ _).drew⟩
/-- What a region holds fast beside the tables and what lay: three cells. -/
theorem held3t {P : Program} {f : FuncId} {args : Array Value} {v : Value} {W wx : World} {a0 a1 a2 : Addr} {c0 c1 c2 : Value} (hc : ∀ w, Tab2 w → Calls P f args w fun e w' => e = .returned v ∧ Below w.heap.size w w')
    (h0 : wx.cell? a0 = some c0) (h1 : wx.cell? a1 = some c1) (h2 : wx.cell? a2 = some c2) (ht : Tab2 wx) (h4 : Below W.heap.size W wx) :
    Calls P f args wx fun e w' => e = .returned v ∧ w'.cell? a0 = some c0 ∧ w'.cell? a1 = some c1 ∧ w'.cell? a2 = some c2 ∧ Tab2 w' ∧ Below W.heap.size W w' :=
  (hc wx ht).mono fun _ w' hh =>
    have hl : ∀ {p : Addr} {v : Value}, wx.cell? p = some v → w'.cell? p = some v := fun {_ _} h => (hh.2.cell (World.block_lt_of_cell? wx _ h)).trans h
    ⟨hh.1, hl h0, hl h1, hl h2, ht.below hh.2, bstep h4 hh.2⟩
/-- The text of an event. -/
def evT (l : Nat) (k v : Int) : List UInt8 := [UInt8.ofNat (65 + k.toNat)] ++ [32] ++ textOf (cats l) ++ [32] ++ Lib.itoa v
def textE (l : Nat) (k v : Int) : ByteArray × Int := if isKindB k = true then (strOf (evT l k v), 0) else (⟨#[]⟩, 11)
theorem text_size (l : Nat) : (strOf (textOf (cats l))).size ≤ 194 := by
  have h1 := textOf_length (cats l) (fun k hk => cats_lt hk)
  have h2 := cats_le l
  have h3 : (strOf (textOf (cats l))).size = (textOf (cats l)).length := by simp [strOf, ByteArray.size]
  rw [h3]
  unfold textOf
  simp only [List.length_append, List.length_cons, List.length_nil]
  omega
theorem labelText_any (l : Nat) (hl : l < 18446744073709551616) (w : World) (ht : Tab2 w) :
    Calls Tryz.prog 32 #[.int .u64 (l : Int)] w fun e w' => e = .returned (.string (strOf (textOf (cats l)))) ∧ Below w.heap.size w w' :=
  text_any l w hl ht.1.1 ht.1.2
theorem formatInt_any (v : Int) (h0 : -9223372036854775808 ≤ v) (h1 : v ≤ 9223372036854775807) (w : World) (ht : Tab2 w) :
    Calls Tryz.prog 39 #[.int .i64 v, .int .i64 10] w fun e w' => e = .returned (.string (strOf (Lib.itoa v))) ∧ Below w.heap.size w w' :=
  (Tryz.strconv_FormatInt_10 v h0 h1 w ht.2).mono fun _ _ ⟨he, k, os, hw⟩ => ⟨he, by rw [hw]; exact Lib.below_grow _ _ (Nat.le_refl _) _ _⟩
attribute [local go_sem] tab2_drew below_drew_eq
attribute [local simp] tab2_drew below_drew_eq

set_option maxHeartbeats 2000000 in
theorem textYes (l : Nat) (k v : Int) (hl : l < 18446744073709551616) (hk : isKindB k = true) (h0 : -9223372036854775808 ≤ v) (h1 : v ≤ 9223372036854775807) (w : World) (ht : Tab2 w) :
    Calls Tryz.prog 17 #[ev l k v] w fun e w' => e = .returned (.tuple #[.string (strOf (evT l k v)), .int .i64 0]) ∧ Below w.heap.size w w' := by
  obtain ⟨k0, k1⟩ := isKindB_iff.1 hk
  obtain ⟨n, rfl⟩ := Int.eq_ofNat_of_zero_le k0
  have hn : n < 26 := by omega
  have hL := letter_any (n : Int)
  rw [letterS_at hn, show checkI (n : Int) = 0 by simp [checkI, hk]] at hL
  have hT := labelText_any l hl
  have hTs := text_size l
  have hI := formatInt_any v h0 h1
  have hIs : (strOf (Lib.itoa v)).size ≤ 21 := by
    have := Lib.itoa_length_le v h0 h1
    simpa [strOf, ByteArray.size] using this
  have hres : (letL n ++ ⟨#[32]⟩ ++ strOf (textOf (cats l)) ++ ⟨#[32]⟩ ++ strOf (Lib.itoa v)) = strOf (evT l n v) := by
    apply ByteArray.ext
    simp [strOf, letL, evT]
  have hLs : (letL n).size = 1 := by simp [letL, strOf, ByteArray.size]
  rw [← hres]
  clear hres hk k0 k1 h0 h1 hn hl
  obtain ⟨T, hTe⟩ : ∃ T, T = strOf (textOf (cats l)) := ⟨_, rfl⟩
  obtain ⟨I, hIe⟩ : ∃ T, T = strOf (Lib.itoa v) := ⟨_, rfl⟩
  obtain ⟨L, hLe⟩ : ∃ T, T = letL n := ⟨_, rfl⟩
  rw [← hTe, ← hIe, ← hLe]
  rw [← hTe] at hT hTs
  rw [← hIe] at hI hIs
  rw [← hLe] at hL hLs
  clear hTe hIe hLe
  have hLs2 : L.size ≤ 1 := by omega
  clear hLs
  obtain ⟨A1, hA1⟩ : ∃ A, A = L ++ ⟨#[32]⟩ := ⟨_, rfl⟩
  obtain ⟨A2, hA2⟩ : ∃ A, A = A1 ++ T := ⟨_, rfl⟩
  obtain ⟨A3, hA3⟩ : ∃ A, A = A2 ++ ⟨#[32]⟩ := ⟨_, rfl⟩
  obtain ⟨A4, hA4⟩ : ∃ A, A = A3 ++ I := ⟨_, rfl⟩
  have z1 : A1.size ≤ 2 := by rw [hA1, ByteArray.size_append']; show L.size + 1 ≤ 2; omega
  have z2 : A2.size ≤ 196 := by rw [hA2, ByteArray.size_append']; omega
  have z3 : A3.size ≤ 197 := by rw [hA3, ByteArray.size_append']; show A2.size + 1 ≤ 197; omega
  have s1 : ∀ w, (Op.stringOp .add L ⟨#[32]⟩).run Tryz.prog w = .ok (.string A1) w := fun w => by rw [hA1]; exact run_string_add_sum w L _ (by show L.size + 1 ≤ _; omega)
  have s2 : ∀ w, (Op.stringOp .add A1 T).run Tryz.prog w = .ok (.string A2) w := fun w => by rw [hA2]; exact run_string_add_sum w A1 _ (by omega)
  have s3 : ∀ w, (Op.stringOp .add A2 ⟨#[32]⟩).run Tryz.prog w = .ok (.string A3) w := fun w => by rw [hA3]; exact run_string_add_sum w A2 _ (by show A2.size + 1 ≤ _; omega)
  have s4 : ∀ w, (Op.stringOp .add A3 I).run Tryz.prog w = .ok (.string A4) w := fun w => by rw [hA4]; exact run_string_add_sum w A3 _ (by omega)
  rw [show L ++ ⟨#[32]⟩ ++ T ++ ⟨#[32]⟩ ++ I = A4 by rw [hA4, hA3, hA2, hA1]]
  clear hA1 hA2 hA3 hA4 z1 z2 z3 hTs hIs hLs2
  obtain ⟨m, hm⟩ : ∃ m : Int, m = (l : Int) := ⟨_, rfl⟩
  rw [← hm] at hT ⊢
  clear hm
  unfold ev
  go_enter Tryz.func17, Tryz.ntmps17
  go_wp2_with (go_at_call 13; refine (hL _).mono ?_; rintro e w' ⟨rfl, rfl⟩)
  refine named_wp fun W hW => ?_
  have hB : Below w.heap.size w W := by rw [hW]; go_grown
  have hE : Blk W w.heap.size [.int .u64 m, .int .i64 n, .int .i64 v] := by rw [hW]; exact Blk.is _ rfl
  have ht1 : Tab2 W := ht.below hB
  clear hW
  have c0 := hE.cell 0 _ rfl
  have c1 := hE.cell 1 _ rfl
  have c2 := hE.cell 2 _ rfl
  clear hE ht
  go_region_held3 (fun w' => w'.cell? ⟨w.heap.size, 0, none⟩ = some (.int .u64 m) ∧ w'.cell? ⟨w.heap.size, 1, none⟩ = some (.int .i64 n) ∧ w'.cell? ⟨w.heap.size, 2, none⟩ = some (.int .i64 v) ∧ Tab2 w' ∧ Below w.heap.size w w') (go_keep)
    (first
      | (go_at_call 32; refine (held3t (W := w) (a0 := ⟨w.heap.size, 0, none⟩) (a1 := ⟨w.heap.size, 1, none⟩) (a2 := ⟨w.heap.size, 2, none⟩) (c0 := .int .u64 m) (c1 := .int .i64 n) (c2 := .int .i64 v) hT ?_ ?_ ?_ ?_ ?_).mono ?_; (simp [*]); (simp [*]); (simp [*]); (simp [*]); (simp [*]); rintro e w9 ⟨rfl, g0, g1, g2, g3, g4⟩)
      | (go_at_call 39; refine (held3t (W := w) (a0 := ⟨w.heap.size, 0, none⟩) (a1 := ⟨w.heap.size, 1, none⟩) (a2 := ⟨w.heap.size, 2, none⟩) (c0 := .int .u64 m) (c1 := .int .i64 n) (c2 := .int .i64 v) hI ?_ ?_ ?_ ?_ ?_).mono ?_; (simp [*]); (simp [*]); (simp [*]); (simp [*]); (simp [*]); rintro e w9 ⟨rfl, g0, g1, g2, g3, g4⟩))
  go_wp2
  go_ret2
  exact ⟨rfl, g4⟩
set_option maxHeartbeats 1000000 in
theorem textNo (l k v : Int) (hk : isKindB k = false) (w : World) :
    Calls Tryz.prog 17 #[ev l k v] w fun e w' => e = .returned (.tuple #[.string ⟨#[]⟩, .int .i64 11]) ∧ Below w.heap.size w w' := by
  have hL := letter_any k
  rw [show letterS k = ⟨#[]⟩ by simp [letterS, hk], show checkI k = 11 by simp [checkI, hk]] at hL
  clear hk
  unfold ev
  go_enter Tryz.func17, Tryz.ntmps17
  go_wp2_with (go_at_call 13; refine (hL _).mono ?_; rintro e w' ⟨rfl, rfl⟩)
  go_ret2
  exact ⟨rfl, by go_grown⟩
theorem evText_any (l : Nat) (k v : Int) (hl : l < 18446744073709551616) (h0 : -9223372036854775808 ≤ v) (h1 : v ≤ 9223372036854775807) (w : World) (ht : Tab2 w) :
    Calls Tryz.prog 17 #[ev l k v] w fun e w' => e = .returned (.tuple #[.string (textE l k v).1, .int .i64 (textE l k v).2]) ∧ Below w.heap.size w w' := by
  unfold textE
  by_cases hk : isKindB k = true
  · rw [if_pos hk]
    exact textYes l k v hl hk h0 h1 w ht
  · rw [if_neg hk]
    exact textNo l k v (by simpa using hk) w
end Go.Proofs.YtcmdndgaggbhoaaGreatDoor.Ev
