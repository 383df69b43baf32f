/- Walks: letters. -/
import Derived.Test.YtcmdndgaggbhoaaGreatDoorEventC
import Derived.Laws.RangeString
import Derived.Laws.Runes
import Derived.Lib.OthersKept
namespace Go.Proofs.YtcmdndgaggbhoaaGreatDoor.Ev
open Go.RowKit
/-- The string of the letter number k. -/
def letL (k : Nat) : ByteArray := strOf [UInt8.ofNat (65 + k)]
def lettersS : ByteArray := ⟨#[65, 66, 67, 68, 69, 70, 71, 72, 73, 74, 75, 76, 77, 78, 79, 80, 81, 82, 83, 84, 85, 86, 87, 88, 89, 90]⟩
theorem letters_at (k : Nat) (h : k < 26) : (lettersS[k]'h).toNat = 65 + k := by
  have : ∀ i : Fin 26, (lettersS[i.val]'i.isLt).toNat = 65 + i.val := by decide +kernel
  exact this ⟨k, h⟩
theorem letters_cut (k : Nat) (h : k < 26) : lettersS.extract k (k + 1) = letL k := by
  have : ∀ i : Fin 26, lettersS.extract i.val (i.val + 1) = letL i.val := by decide +kernel
  exact this ⟨k, h⟩
theorem letter_code (k : Nat) (h : k < 26) : Utf8.encode (65 + (k : Int)) = letL k := by
  have : ∀ i : Fin 26, Utf8.encode (65 + (i.val : Int)) = letL i.val := by decide +kernel
  exact this ⟨k, h⟩
def kindGo (s : ByteArray) : Nat → Nat → Int × Int
  | 0, _ => (0, 11)
  | n + 1, k => if s = letL k then (k, 0) else kindGo s n (k + 1)
/-- The number of a letter. -/
def kindI (s : ByteArray) : Int × Int := kindGo s 26 0
theorem kindGo_at {s : ByteArray} : ∀ (n k j : Nat), k ≤ j → j < k + n → (∀ i, k ≤ i → i < j → s ≠ letL i) → s = letL j → kindGo s n k = ((j : Int), 0)
  | 0, k, j, h1, h2, _, _ => by omega
  | n + 1, k, j, h1, h2, h3, h4 => by
    unfold kindGo
    by_cases hk : k = j
    · subst hk; rw [if_pos h4]
    · rw [if_neg (h3 k (Nat.le_refl _) (by omega))]
      exact kindGo_at n (k + 1) j (by omega) (by omega) (fun i hi hj => h3 i (by omega) hj) h4
theorem kindGo_none {s : ByteArray} : ∀ (n k : Nat), (∀ i, k ≤ i → i < k + n → s ≠ letL i) → kindGo s n k = (0, 11)
  | 0, k, _ => rfl
  | n + 1, k, h => by
    unfold kindGo
    rw [if_neg (h k (Nat.le_refl _) (by omega))]
    exact kindGo_none n (k + 1) (fun i hi hj => h i (by omega) (by omega))
theorem kindI_at {s : ByteArray} {j : Nat} (h : j < 26) (h3 : ∀ i, i < j → s ≠ letL i) (h4 : s = letL j) : kindI s = ((j : Int), 0) :=
  kindGo_at 26 0 j (by omega) (by omega) (fun i _ hj => h3 i hj) h4
theorem kindI_none {s : ByteArray} (h : ∀ i, i < 26 → s ≠ letL i) : kindI s = (0, 11) := kindGo_none 26 0 (fun i _ hi => h i (by omega))
theorem letL_inj {i j : Nat} (hi : i < 26) (hj : j < 26) (h : letL i = letL j) : i = j := by
  have : ∀ (a b : Fin 26), letL a.val = letL b.val → a = b := by decide +kernel
  exact congrArg Fin.val (this ⟨i, hi⟩ ⟨j, hj⟩ h)
theorem kindI_letL {j : Nat} (h : j < 26) : kindI (letL j) = ((j : Int), 0) :=
  kindI_at h (fun i hi e => by have := letL_inj h (by omega) e; omega) rfl
theorem kindI_cases (s : ByteArray) : (∃ j : Nat, j < 26 ∧ s = letL j ∧ kindI s = ((j : Int), 0)) ∨ ((∀ i, i < 26 → s ≠ letL i) ∧ kindI s = (0, 11)) := by
  by_cases h : ∃ j, j < 26 ∧ s = letL j
  · obtain ⟨j, hj, e⟩ := h
    exact .inl ⟨j, hj, e, by rw [e]; exact kindI_letL hj⟩
  · have h' : ∀ i, i < 26 → s ≠ letL i := fun i hi e => h ⟨i, hi, e⟩
    exact .inr ⟨h', kindI_none h'⟩
theorem letterS_at {k : Nat} (h : k < 26) : letterS (k : Int) = letL k := by
  unfold letterS
  rw [if_pos (isKindB_iff.2 (by omega))]
  rfl
theorem toList_eq {a b : ByteArray} (h : a = b) : (a.toList == b.toList) = true := by rw [h]; simp

theorem letter_any (k : Int) (w : World) :
    Calls Tryz.prog 13 #[.int .i64 k] w fun e w' => e = .returned (.tuple #[.string (letterS k), .int .i64 (checkI k)]) ∧ w = w' := by
  by_cases h : isKindB k = true
  · obtain ⟨h0, h1⟩ := isKindB_iff.1 h
    obtain ⟨n, rfl⟩ := Int.eq_ofNat_of_zero_le h0
    have hn : n < 26 := by omega
    rw [letterS_at hn, show checkI (n : Int) = 0 by simp [checkI, h]]
    have hc := @isKind_is (n : Int) true h
    clear h h0
    go_enter Tryz.func13, Tryz.ntmps13
    go_wp2_with (go_at_call 36; refine (hc _).mono ?_; rintro e w' ⟨rfl, rfl⟩)
    go_ret2
    refine ⟨?_, rfl⟩
    rw [← letters_cut n hn]
    simp [lettersS]
    try rfl
  · rw [show letterS k = ⟨#[]⟩ by simp [letterS, h], show checkI k = 11 by simp [checkI, h]]
    have hc := @isKind_is k false (by simpa using h)
    clear h
    go_enter Tryz.func13, Tryz.ntmps13
    go_wp2_with (go_at_call 36; refine (hc _).mono ?_; rintro e w' ⟨rfl, rfl⟩)
    go_ret2
    exact ⟨rfl, rfl⟩
theorem refLetter_any (k : Int) (w : World) :
    Calls Tryz.prog 40 #[.int .i64 k] w fun e w' => e = .returned (.tuple #[.string (letterS k), .int .i64 (checkI k)]) ∧ w = w' := by
  by_cases h0 : k < 0
  · have h : ¬ isKindB k = true := fun h => by have := isKindB_iff.1 h; omega
    rw [show letterS k = ⟨#[]⟩ by simp [letterS, h], show checkI k = 11 by simp [checkI, h]]
    clear h
    go_enter Tryz.func40, Tryz.ntmps40
    go_wp2
    go_ret2
    exact ⟨rfl, rfl⟩
  · by_cases h1 : 26 ≤ k
    · have h : ¬ isKindB k = true := fun h => by have := isKindB_iff.1 h; omega
      rw [show letterS k = ⟨#[]⟩ by simp [letterS, h], show checkI k = 11 by simp [checkI, h]]
      clear h
      go_enter Tryz.func40, Tryz.ntmps40
      go_wp2
      go_ret2
      exact ⟨rfl, rfl⟩
    · obtain ⟨n, rfl⟩ := Int.eq_ofNat_of_zero_le (show 0 ≤ k by omega)
      have hn : n < 26 := by omega
      rw [letterS_at hn, show checkI (n : Int) = 0 by simp [checkI, isKindB]; omega]
      go_enter Tryz.func40, Tryz.ntmps40
      go_wp2
      go_ret2
      refine ⟨?_, rfl⟩
      rw [← letters_cut n hn]
      simp [lettersS]
      try rfl

set_option maxHeartbeats 1000000 in
theorem kind_any (s : ByteArray) (w : World) :
    Calls Tryz.prog 14 #[.string s] w fun e w' => e = .returned (.tuple #[.int .i64 (kindI s).1, .int .i64 (kindI s).2]) ∧ Below w.heap.size w w' := by
  have hs0 : ∀ W : World, W.iterPos w.heap.size = W.iterPos w.heap.size := fun _ => rfl
  clear hs0
  go_enter Tryz.func14, Tryz.ntmps14
  go_wp2
  go_loopw [5] (fun _ wr => ∃ pos : Nat, pos ≤ 26 ∧ wr = w.iter lettersS pos ∧ Hid (∀ i, i < pos → s ≠ letL i)) (fun _ wr => 26 - wr.iterPos w.heap.size)
  case atStart => exact ⟨0, by omega, rfl, Lib.hid (fun i hi => by omega)⟩
  case round =>
    obtain ⟨pos, hp, rfl, HN⟩ := hrel
    by_cases h : pos < 26
    · have hnext := fun ty => run_next_ascii (P := Tryz.prog) w lettersS pos ty h (by rw [letters_at pos h]; omega)
      rw [letters_at pos h] at hnext
      by_cases hq : s = letL pos
      · have hres := Lib.hid (kindI_at h HN.out hq)
        have hb : (s.toList == (Utf8.encode (65 + (pos : Int))).toList) = true := toList_eq (hq.trans (letter_code pos h).symm)
        clear hq
        go_wp2
        go_ret2
        exact ⟨by rw [hres.out]; rfl, (Below.refl _ _).alloc (Nat.le_refl _) _⟩
      · have hb : (s.toList == (Utf8.encode (65 + (pos : Int))).toList) = false := str_ne (fun e => hq (e.trans (letter_code pos h)))
        have HQ := Lib.hid hq
        clear hq
        go_wp2
        go_roundw
        case rel =>
          refine ⟨pos + 1, by omega, rfl, Lib.hid (fun i hi => ?_)⟩
          by_cases hip : i = pos
          · subst hip; exact HQ.out
          · exact HN.out i (by omega)
        case measure => simp [World.iterPos, World.iter_heap]; omega
    · have hnext := fun ty => run_next_end (P := Tryz.prog) w lettersS pos ty h
      have hres := Lib.hid (kindI_none (s := s) (fun i hi => HN.out i (by omega)))
      go_wp2
      go_ret2
      exact ⟨by rw [hres.out]; rfl, (Below.refl _ _).alloc (Nat.le_refl _) _⟩
theorem refKind_any (s : ByteArray) (w : World) :
    Calls Tryz.prog 44 #[.string s] w fun e w' => e = .returned (.tuple #[.int .i64 (kindI s).1, .int .i64 (kindI s).2]) ∧ w = w' := by
  go_enter Tryz.func44, Tryz.ntmps44
  go_wp2
  go_loop [4] (fun i => ∃ pos : Nat, pos ≤ 26 ∧ i = .int .i64 pos ∧ Hid (∀ i, i < pos → s ≠ letL i)) (fun i => 26 - (intOf i).toNat)
  case atStart => exact ⟨0, by omega, rfl, Lib.hid (fun i hi => by omega)⟩
  case round =>
    obtain ⟨pos, hp, rfl, HN⟩ := hrel
    by_cases h : pos < 26
    · by_cases hq : s = letL pos
      · have hres := Lib.hid (kindI_at h HN.out hq)
        have hb : ((⟨#[65, 66, 67, 68, 69, 70, 71, 72, 73, 74, 75, 76, 77, 78, 79, 80, 81, 82, 83, 84, 85, 86, 87, 88, 89, 90]⟩ : ByteArray).extract pos (pos + 1)).toList == s.toList := toList_eq ((letters_cut pos h).trans hq.symm)
        clear hq
        go_wp2
        go_ret2
        exact ⟨by rw [hres.out]; rfl, rfl⟩
      · have hb : (((⟨#[65, 66, 67, 68, 69, 70, 71, 72, 73, 74, 75, 76, 77, 78, 79, 80, 81, 82, 83, 84, 85, 86, 87, 88, 89, 90]⟩ : ByteArray).extract pos (pos + 1)).toList == s.toList) = false := str_ne (fun e => hq (e.symm.trans (letters_cut pos h)))
        have HQ := Lib.hid hq
        clear hq
        go_wp2
        go_round
        case rel =>
          refine ⟨pos + 1, by omega, by go_num, Lib.hid (fun i hi => ?_)⟩
          by_cases hip : i = pos
          · subst hip; exact HQ.out
          · exact HN.out i (by omega)
        case measure => simp [intOf]; omega
    · have hres := Lib.hid (kindI_none (s := s) (fun i hi => HN.out i (by omega)))
      go_wp2
      go_ret2
      exact ⟨by rw [hres.out]; rfl, rfl⟩
end Go.Proofs.YtcmdndgaggbhoaaGreatDoor.Ev
