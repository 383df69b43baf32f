/- Walks: the reference's bare words. -/
import Derived.Test.YtkmkhegekonbmaaDoorRowA
namespace Go.Proofs.YtkmkhegekonbmaaDoor
open Go.RowKit
open Rw6

theorem bareB_cons {b : UInt8} {r : List UInt8} : bareB (b :: r) = true ↔ ¬ (b.toNat : Int) = 35 ∧ ∀ c ∈ b :: r, plainB c = true := by
  unfold bareB
  rw [Bool.and_eq_true, Bool.and_eq_true, List.all_eq_true, bne_iff_ne, List.head?_cons]
  have h : (some b ≠ some (35 : UInt8)) ↔ ¬ (b.toNat : Int) = 35 := by
    have h1 : b ≠ UInt8.ofNat 35 ↔ ¬ (b.toNat : Int) = 35 := u8_ne (by decide)
    rw [← h1]
    exact ⟨fun h e => h (by rw [e]; rfl), fun h e => h (Option.some.inj e)⟩
  rw [h]
  exact ⟨fun h => ⟨h.1.2, h.2⟩, fun h => ⟨⟨rfl, h.1⟩, h.2⟩⟩
theorem bareB_no {s : ByteArray} {k : Nat} (h : k < s.size) (hp : plainB (s[k]'h) = false) : bareB s.data.toList = false := by
  cases e : bareB s.data.toList with
  | false => rfl
  | true =>
    have hm : s[k]'h ∈ s.data.toList := by
      have : s[k]'h ∈ s.data.toList.take (k + 1) := by rw [byte_at s k h]; simp
      exact List.mem_of_mem_take this
    cases hl : s.data.toList with
    | nil => rw [hl] at hm; cases hm
    | cons b r =>
      rw [hl] at e hm
      rw [(bareB_cons.1 e).2 _ hm] at hp
      cases hp
theorem byte_zero {s : ByteArray} (h : 0 < s.size) : ∃ r, s.data.toList = (s[0]'h) :: r := by
  have h1 := byte_at s 0 h
  have h2 := List.take_append_drop 1 s.data.toList
  rw [h1] at h2
  exact ⟨_, h2.symm⟩
set_option maxRecDepth 100000 in
set_option maxHeartbeats 2000000 in
theorem refBare_any (s : ByteArray) (hs : s.size ≤ 100000) (w : World) :
    Calls Tryd.prog 38 #[.string s] w fun e w' => e = .returned (.bool (bareB s.data.toList)) ∧ w = w' := by
  have hP := fun b w => refPlain_any b w
  by_cases h0 : s.size = 0
  · have hl : s.data.toList = [] := List.eq_nil_of_length_eq_zero (by rw [bytes_size]; exact h0)
    obtain rfl : s = ⟨#[]⟩ := str_is hl
    clear h0 hs hP hl
    go_enter Tryd.func38, Tryd.ntmps38
    go_wp2
    go_ret
    exact ⟨rfl, rfl⟩
  · have n0 : ¬ s.toList = [] := fun e => h0 (by rw [← bytes_size, ← toL, e]; rfl)
    have n0b := strEmpty n0
    have hp : 0 < s.size := by omega
    by_cases h35 : ((s[0]'hp).toNat : Int) = 35
    · have hb : bareB s.data.toList = false := by
        obtain ⟨r, hr⟩ := byte_zero hp
        rw [hr]
        cases e : bareB ((s[0]'hp) :: r) with
        | false => rfl
        | true => exact absurd h35 (bareB_cons.1 e).1
      rw [hb]
      clear hb h0 hP
      go_enter Tryd.func38, Tryd.ntmps38
      go_wp2
      go_ret
      exact ⟨rfl, rfl⟩
    · have hbb : (((s[0]'hp).toNat : Int) == 35) = false := by rw [beq_eq_false_iff_ne]; exact h35
      have hend : (∀ c ∈ s.data.toList, plainB c = true) → bareB s.data.toList = true := fun h => by
        obtain ⟨r, hr⟩ := byte_zero hp
        rw [hr] at h ⊢
        exact bareB_cons.2 ⟨h35, h⟩
      have hno : ∀ k (h : k < s.size), plainB (s[k]'h) = false → bareB s.data.toList = false := fun k h hb => bareB_no h hb
      have HEND := Lib.hid hend
      have HNO := Lib.hid hno
      clear hend hno h0
      go_enter Tryd.func38, Tryd.ntmps38
      go_wp2
      go_loop [3] (fun i => ∃ k : Nat, k ≤ s.size ∧ i = .int .i64 (k : Int) ∧ Hid (∀ b ∈ s.data.toList.take k, plainB b = true)) (fun i => s.size - (intOf i).toNat)
      case atStart => exact ⟨0, Nat.zero_le _, rfl, Lib.hid (by simp)⟩
      case round =>
        obtain ⟨k, hk, rfl, hA⟩ := hrel
        by_cases hlt : k < s.size
        · have htk := byte_at s k hlt
          have hAo := hA.out
          have hPk := fun w => hP (s[k]'hlt) w
          obtain ⟨p, hpe⟩ : ∃ p, p = plainB (s[k]'hlt) := ⟨_, rfl⟩
          rw [← hpe] at hPk
          cases p with
          | true =>
            have hA2 := Lib.hid (show ∀ b ∈ s.data.toList.take (k + 1), plainB b = true from fun b hb => by
              rw [htk] at hb
              rcases List.mem_append.1 hb with hb | hb
              · exact hAo b hb
              · obtain rfl := List.mem_singleton.1 hb
                exact hpe.symm)
            clear hA hAo htk hpe hP
            go_wp2_with (go_at_call 56; refine (hPk _).mono ?_; rintro e w' ⟨rfl, rfl⟩)
            go_round
            case rel => exact ⟨k + 1, by omega, by go_num, hA2⟩
            case measure => simp [intOf]; omega
          | false =>
            have e1 := Lib.hid (HNO.out k hlt hpe.symm)
            clear hA hAo htk hpe hP
            go_wp2_with (go_at_call 56; refine (hPk _).mono ?_; rintro e w' ⟨rfl, rfl⟩)
            go_ret
            exact ⟨by rw [e1.out]; rfl, rfl⟩
        · have hkz : k = s.size := by omega
          have hall : s.data.toList.take k = s.data.toList := List.take_of_length_le (by rw [bytes_size]; omega)
          rw [hall] at hA
          have e1 := Lib.hid (HEND.out hA.out)
          have hlt' : ¬ (k : Int) < (s.size : Int) := by omega
          clear hA hall hkz hlt hP
          go_wp2
          go_ret
          exact ⟨by rw [e1.out]; rfl, rfl⟩
end Go.Proofs.YtkmkhegekonbmaaDoor
