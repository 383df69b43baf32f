/- Walks: the program's reader of bare and of quoted words. -/
import Derived.Test.YtkmkhegekonbmaaDoorRowP
import Derived.Laws.BytesArg
import Derived.Maps.Range
namespace Go.Proofs.YtkmkhegekonbmaaDoor
open Go.RowKit
open Rw6

/-- What reading a bare word gives. -/
def BareP (w : World) (R : Nat) (s : ByteArray) (k : Nat) (f : Int) (e : Ending) (w' : World) : Prop :=
  ∃ k' : Nat, k ≤ k' ∧ k' ≤ s.size ∧ e = .returned (.tuple #[.string (strOf (wordL (restAt s k))), .bool (bareB (wordL (restAt s k)))]) ∧ Cur w' R s k' f ∧ Only R w w' ∧ restAt s k' = pastL (restAt s k)
theorem ext_take (s : ByteArray) (k j : Nat) : s.extract k j = strOf ((restAt s k).take (j - k)) := by
  apply str_is
  rw [ByteArray.data_extract, Array.toList_extract]
  simp only [List.extract_eq_take_drop]
  rfl
theorem word_end {l : List UInt8} (h : endB l = true) : wordL l = [] ∧ pastL l = l := by
  cases l with
  | nil => exact ⟨rfl, rfl⟩
  | cons b r =>
    have hb : blankB b = true := h
    unfold wordL pastL
    rw [List.takeWhile_cons, List.dropWhile_cons, hb]
    exact ⟨rfl, rfl⟩
theorem word_go {b : UInt8} {r : List UInt8} (h : blankB b = false) : wordL (b :: r) = b :: wordL r ∧ pastL (b :: r) = pastL r := by
  unfold wordL pastL
  rw [List.takeWhile_cons, List.dropWhile_cons, h]
  exact ⟨rfl, rfl⟩
set_option maxRecDepth 100000 in
set_option maxHeartbeats 2000000 in
theorem bareM_any {w : World} {R : Nat} {s : ByteArray} {k : Nat} {f : Int} (h : Cur w R s k f) (hk : k ≤ s.size) (hs : s.size ≤ 100000) (hf : flat s) :
    Calls Tryd.prog 73 #[.pointer (some ⟨R, 0, none⟩)] w (BareP w R s k f) := by
  obtain ⟨hlt0, z0, z1, z2, y0, y1, y2⟩ := h.parts
  go_enter Tryd.func73, Tryd.ntmps73
  go_wp2
  clear hlt0 z0 z1 z2 y0 y1 y2
  go_loopg [] (s.size - k) (fun g wr => ∃ j : Nat, k ≤ j ∧ j ≤ s.size ∧ g = s.size - j ∧ Hid (Cur wr R s j f) ∧ Only R w wr ∧ Hid (pastL (restAt s k) = pastL (restAt s j) ∧ wordL (restAt s k) = (restAt s k).take (j - k) ++ wordL (restAt s j)))
  case atStart => exact ⟨k, Nat.le_refl _, hk, rfl, h, Only.refl _ _, Lib.hid ⟨rfl, by rw [Nat.sub_self]; rfl⟩⟩
  case round =>
    obtain ⟨j, hkj, hj, hg, hC, hO, hL⟩ := hrel
    have hB := isBehind_any hC.out hj hs hf
    obtain ⟨p, hp⟩ : ∃ p, p = endB (restAt s j) := ⟨_, rfl⟩
    rw [← hp] at hB
    cases p with
    | true =>
      obtain ⟨e1, e2⟩ := word_end hp.symm
      have hw : wordL (restAt s k) = (restAt s k).take (j - k) := by have := hL.out.2; rw [e1, List.append_nil] at this; exact this
      have hpast : restAt s j = pastL (restAt s k) := by rw [hL.out.1, e2]
      have hex : s.extract k j = strOf (wordL (restAt s k)) := by rw [ext_take, hw]
      have hbl : (wordL (restAt s k)).length ≤ s.size := by rw [hw, List.length_take, restAt_len]; omega
      obtain ⟨t, ht⟩ : ∃ t, t = wordL (restAt s k) := ⟨_, rfl⟩
      rw [← ht] at hex hbl
      have hBa := fun w => bare_any (strOf t) (by rw [strOf_size]; omega) w
      have hdat : (strOf t).data.toList = t := strOf_dat t
      rw [hdat] at hBa
      have HT := Lib.hid ht
      have HP := Lib.hid hpast
      have HX := Lib.hid hex
      clear hp e1 e2 hw hpast ht hdat hL hex
      have f1 : (k : Int) ≤ (j : Int) := by omega
      have f2 : (j : Int) ≤ (s.size : Int) := by omega
      have f4 : (0 : Int) ≤ (k : Int) := by omega
      obtain ⟨hlt, c0, c1, c2, q0, q1, q2⟩ := hC.out.parts
      go_wp2_with (go_at_call 80; refine hB.mono ?_; rintro e w1 ⟨rfl, n, rfl⟩)
      go_quiet (fail)
      have hex := HX.out
      go_wp2_with (go_at_call 29; refine (hBa _).mono ?_; rintro e w' ⟨rfl, rfl⟩)
      go_ret2
      refine ⟨j, hkj, hj, ?_, hC.out.drewN _, hO.drewN _, HP.out⟩
      rw [← HT.out]; rfl
    | false =>
      have hjl : j < s.size := by
        by_cases hz : j < s.size
        · exact hz
        · rw [rest_nil (by omega)] at hp; cases hp
      have hr := rest_cons hjl
      have hbl : blankB (s[j]'hjl) = false := by rw [hr] at hp; exact hp.symm
      obtain ⟨e1, e2⟩ := word_go (r := restAt s (j + 1)) hbl
      have htk : (restAt s k).take (j + 1 - k) = (restAt s k).take (j - k) ++ [s[j]'hjl] := by
        rw [show j + 1 - k = (j - k) + 1 by omega, List.take_add, rest_drop, show k + (j - k) = j by omega, hr]
        rfl
      have hL2 := Lib.hid (show pastL (restAt s k) = pastL (restAt s (j + 1)) ∧ wordL (restAt s k) = (restAt s k).take (j + 1 - k) ++ wordL (restAt s (j + 1)) from ⟨by rw [hL.out.1, hr, e2], by rw [htk, hL.out.2, hr, e1, List.append_assoc]; rfl⟩)
      have hw : IntKind.i64.wrap ((j : Int) + 1) = (j : Int) + 1 := IntWalk.i64_in _ ⟨by omega, by omega⟩
      clear hp hr hbl e1 e2 htk hL
      go_wp2_with (go_at_call 80; refine hB.mono ?_; rintro e w1 ⟨rfl, n, rfl⟩; obtain ⟨hlt, c0, c1, c2, f0, f1, f2⟩ := (hC.out.drewN n).parts)
      go_roundg (s.size - (j + 1))
      case rel => exact ⟨j + 1, by omega, by omega, rfl, Lib.hid ((hC.out.drewN _).step _ (by go_num)), (hO.drewN _).setCell _ _, hL2⟩
      case measure => omega
end Go.Proofs.YtkmkhegekonbmaaDoor
