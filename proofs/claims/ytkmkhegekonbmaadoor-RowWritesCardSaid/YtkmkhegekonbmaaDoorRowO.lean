/- Walks: the program's bare words; how its cursor goes to the next word. -/
import Derived.Test.YtkmkhegekonbmaaDoorRowN
import Derived.Deep.RegionWith
namespace Go.Proofs.YtkmkhegekonbmaaDoor
open Go.RowKit
open Rw6

set_option maxRecDepth 100000 in
set_option maxHeartbeats 2000000 in
theorem bare_any (s : ByteArray) (hs : s.size ≤ 100000) (w : World) :
    Calls Tryd.prog 29 #[.string s] w fun e w' => e = .returned (.bool (bareB s.data.toList)) ∧ w = w' := by
  have hP := fun b w => isPlain_any b w
  have hno : ∀ k (h : k < s.size), plainB (s[k]'h) = false → bareB s.data.toList = false := fun k h hb => bareB_no h hb
  have hend : ∀ (h : 0 < s.size), ¬ ((s[0]'h).toNat : Int) = 35 → (∀ c ∈ s.data.toList, plainB c = true) → bareB s.data.toList = true := fun hp h35 h => by
    obtain ⟨r, hr⟩ := byte_zero hp
    rw [hr] at h ⊢
    exact bareB_cons.2 ⟨h35, h⟩
  have hrem : ∀ (h : 0 < s.size), ((s[0]'h).toNat : Int) = 35 → bareB s.data.toList = false := fun hp h35 => by
    obtain ⟨r, hr⟩ := byte_zero hp
    rw [hr]
    cases e : bareB ((s[0]'hp) :: r) with
    | false => rfl
    | true => exact absurd h35 (bareB_cons.1 e).1
  have hnil : s.size = 0 → bareB s.data.toList = false := fun h => by
    have : s.data.toList = [] := List.eq_nil_of_length_eq_zero (by rw [bytes_size]; exact h)
    rw [this]; rfl
  obtain ⟨P, hPe⟩ : ∃ P, P = bareB s.data.toList := ⟨_, rfl⟩
  rw [← hPe] at hno hend hrem hnil ⊢
  have HNO := Lib.hid hno
  have HEND := Lib.hid hend
  have HREM := Lib.hid hrem
  have HNIL := Lib.hid hnil
  clear hno hend hrem hnil hPe
  go_enter Tryd.func29, Tryd.ntmps29
  go_wp2
  go_loop [6] (fun i => ∃ k : Nat, k ≤ s.size ∧ i = .int .i64 (k : Int) ∧ Hid (∀ b ∈ s.data.toList.take k, plainB b = true)) (fun i => s.size - (intOf i).toNat)
  case atStart => exact ⟨0, Nat.zero_le _, rfl, Lib.hid (by simp)⟩
  case round =>
    obtain ⟨k, hk, rfl, hA⟩ := hrel
    by_cases hlt : k < s.size
    · have hlt' : (k : Int) < (s.size : Int) := by omega
      have htk := byte_at s k hlt
      have hAo := hA.out
      have hPk := fun w => hP (s[k]'hlt) w
      have hpl := plain_self (b := s[k]'hlt)
      have hnk := HNO.out k hlt
      have hA2 : plainB (s[k]'hlt) = true → Hid (∀ b ∈ s.data.toList.take (k + 1), plainB b = true) := fun hp => Lib.hid (fun b hb => by
        rw [htk] at hb
        rcases List.mem_append.1 hb with hb | hb
        · exact hAo b hb
        · obtain rfl := List.mem_singleton.1 hb
          exact hp)
      obtain ⟨c, hc⟩ : ∃ c : Int, c = ((s[k]'hlt).toNat : Int) := ⟨_, rfl⟩
      have hcb : ((s[k]'hlt).toNat : Int) = c := hc.symm
      obtain ⟨p, hpe⟩ : ∃ p, p = selfB (s[k]'hlt) := ⟨_, rfl⟩
      obtain ⟨q, hqe⟩ : ∃ q, q = plainB (s[k]'hlt) := ⟨_, rfl⟩
      rw [← hpe] at hPk hpl
      rw [← hqe] at hpl hnk hA2
      rw [← hc] at hPk hpl
      clear hA hAo htk hpe hqe hP hc
      cases p with
      | false =>
        have hq : q = false := by
          cases hq : q with
          | false => rfl
          | true => cases (hpl.1 hq).1
        have e1 := Lib.hid (hnk hq)
        clear hpl hnk hA2 hq
        go_wp2_with (go_at_call 51; refine (hPk _).mono ?_; rintro e w' ⟨rfl, rfl⟩)
        go_ret
        exact ⟨by rw [e1.out]; rfl, rfl⟩
      | true =>
        by_cases h32 : c = 32
        · have hq : q = false := by
            cases hq : q with
            | false => rfl
            | true => exact absurd h32 (hpl.1 hq).2
          have e1 := Lib.hid (hnk hq)
          subst h32
          clear hpl hnk hA2 hq
          go_wp2_with (go_at_call 51; refine (hPk _).mono ?_; rintro e w' ⟨rfl, rfl⟩)
          go_ret
          exact ⟨by rw [e1.out]; rfl, rfl⟩
        · have e1 := hA2 (hpl.2 ⟨rfl, h32⟩)
          have h32b : (c == 32) = false := by rw [beq_eq_false_iff_ne]; exact h32
          clear hpl hnk hA2
          go_wp2_with (go_at_call 51; refine (hPk _).mono ?_; rintro e w' ⟨rfl, rfl⟩)
          go_round
          case rel => exact ⟨k + 1, by omega, by go_num, e1⟩
          case measure => simp [intOf]; omega
    · have hkz : k = s.size := by omega
      have hall : s.data.toList.take k = s.data.toList := List.take_of_length_le (by rw [bytes_size]; omega)
      rw [hall] at hA
      have hlt' : ¬ (k : Int) < (s.size : Int) := by omega
      have hAo := hA.out
      by_cases h0 : s.size = 0
      · have hl : s.data.toList = [] := List.eq_nil_of_length_eq_zero (by rw [bytes_size]; exact h0)
        have e1 := Lib.hid (HNIL.out h0)
        obtain rfl : s = ⟨#[]⟩ := str_is hl
        clear hA hall hkz hlt hP hAo hl h0
        go_wp2
        go_ret
        exact ⟨by rw [e1.out]; rfl, rfl⟩
      · have hp : 0 < s.size := by omega
        have n0 : ¬ s.toList = [] := fun e => h0 (by rw [← bytes_size, ← toL, e]; rfl)
        have n0b := strEmpty n0
        by_cases h35 : ((s[0]'hp).toNat : Int) = 35
        · have e1 := Lib.hid (HREM.out hp h35)
          clear hA hall hkz hlt hP hAo h0
          go_wp2
          go_ret
          exact ⟨by rw [e1.out]; rfl, rfl⟩
        · have e1 := Lib.hid (HEND.out hp h35 hAo)
          have h35b : (((s[0]'hp).toNat : Int) != 35) = true := by simpa using h35
          clear hA hall hkz hlt hP hAo h0
          go_wp2
          go_ret
          exact ⟨by rw [e1.out]; rfl, rfl⟩
/-- What going to the next word gives. -/
def DoneP (w : World) (R : Nat) (s : ByteArray) (k : Nat) (f : Int) (e : Ending) (w' : World) : Prop :=
  ∃ k', k ≤ k' ∧ k' ≤ s.size ∧ e = .returned (.bool (doneB (restAt s k'))) ∧ Cur w' R s k' f ∧ Only R w w' ∧ (∀ a : Nat, lineG (restAt s k) (a + k) = lineG (restAt s k') (a + k')) ∧ (∀ b r, restAt s k' = b :: r → blankB b = false)
set_option maxRecDepth 100000 in
set_option maxHeartbeats 2000000 in
theorem isDone_any {w : World} {R : Nat} {s : ByteArray} {k : Nat} {f : Int} (h : Cur w R s k f) (hk : k ≤ s.size) (hs : s.size ≤ 100000) (hf : flat s) :
    Calls Tryd.prog 61 #[.pointer (some ⟨R, 0, none⟩)] w (DoneP w R s k f) := by
  go_enter Tryd.func61, Tryd.ntmps61
  go_wp2
  go_loopg [] (s.size - k) (fun g wr => ∃ j : Nat, k ≤ j ∧ j ≤ s.size ∧ g = s.size - j ∧ Hid (Cur wr R s j f) ∧ Only R w wr ∧ Hid (∀ a : Nat, lineG (restAt s k) (a + k) = lineG (restAt s j) (a + j)))
  case atStart => exact ⟨k, Nat.le_refl _, hk, rfl, h, Only.refl _ _, Lib.hid (fun _ => rfl)⟩
  case round =>
    obtain ⟨j, hkj, hj, hg, hC, hO, hL⟩ := hrel
    have hN := fun n => next_any (hC.out.drewN n) hj hs
    cases hr : restAt s j with
    | nil =>
      rw [hr] at hN
      have hNc : nextI [] = 10 := rfl
      rw [hNc] at hN
      have hB := fun w => isBlank_any 10 w
      have hB2 : blankB 10 = false := by decide
      have hB3 : ((10 : UInt8).toNat : Int) = 10 := rfl
      rw [hB2, hB3] at hB
      have HR := Lib.hid hr
      have hd : doneB ([] : List UInt8) = true := rfl
      clear hr hNc hB2 hB3 hg
      go_wp2_with (first | (go_at_call 71; with_reducible refine (hN _).mono ?_; rintro e w' ⟨rfl, n, rfl⟩) | (go_at_call 71; refine (hN 0).mono ?_; rintro e w' ⟨rfl, n, rfl⟩) | (go_at_call 70; refine (hB _).mono ?_; rintro e w' ⟨rfl, rfl⟩))
      go_ret
      exact ⟨j, hkj, hj, by rw [HR.out]; rfl, hC.out.drewN _, hO.drewN _, hL.out, fun b r e => by rw [HR.out] at e; cases e⟩
    | cons b r =>
      have hjl : j < s.size := by
        have := restAt_len s j
        rw [hr] at this
        simp only [List.length_cons] at this
        omega
      have hb := flat_rest hf j b (by rw [hr]; simp)
      have hB := fun w => isBlank_any b w
      rw [hr] at hN
      have hNc : nextI (b :: r) = (b.toNat : Int) := rfl
      rw [hNc] at hN
      have hr1 : restAt s (j + 1) = r := by rw [← rest_drop, hr]; rfl
      have hst := Lib.hid (fun (h : blankB b = true) => show ∀ a : Nat, lineG (restAt s k) (a + k) = lineG (restAt s (j + 1)) (a + (j + 1)) from fun a => by rw [hL.out, hr, lineG_blank h, hr1, Nat.add_assoc])
      obtain ⟨p, hp⟩ : ∃ p, p = blankB b := ⟨_, rfl⟩
      rw [← hp] at hB
      have HP := Lib.hid hp
      have HR := Lib.hid hr
      have hd : (doneB (b :: r) = true) ↔ (b.toNat : Int) = 35 := by
        have := u8_ne (b := b) (k := 35) (by decide)
        rw [Decidable.not_iff_not] at this
        show (b == 35) = true ↔ _
        rw [beq_iff_eq]
        exact this
      obtain ⟨dn, hdn⟩ : ∃ dn, dn = doneB (b :: r) := ⟨_, rfl⟩
      rw [← hdn] at hd
      have HDN := Lib.hid hdn
      obtain ⟨c, hc⟩ : ∃ c : Int, c = (b.toNat : Int) := ⟨_, rfl⟩
      rw [← hc] at hB hb hN hd
      have hbb : (c == 10) = false := by rw [beq_eq_false_iff_ne]; exact hb
      have hw : IntKind.i64.wrap ((j : Int) + 1) = (j : Int) + 1 := IntWalk.i64_in _ ⟨by omega, by omega⟩
      clear hc hNc hr hp hdn hr1
      cases p with
      | true =>
        clear hd
        go_wp2_with (first | (go_at_call 71; refine (hN 0).mono ?_; rintro e w' ⟨rfl, n, rfl⟩; obtain ⟨hlt, c0, c1, c2, f0, f1, f2⟩ := (hC.out.drewN n).parts) | (go_at_call 70; refine (hB _).mono ?_; rintro e w' ⟨rfl, rfl⟩))
        go_roundg (s.size - (j + 1))
        case rel => exact ⟨j + 1, by omega, by omega, rfl, Lib.hid ((hC.out.drewN _).step _ (by go_num)), (hO.drewN _).setCell _ _, Lib.hid (hst.out HP.out.symm)⟩
        case measure => omega
      | false =>
        by_cases h35 : c = 35
        · have e1 := hd.2 h35
          subst e1
          subst h35
          clear hd hst hg
          go_wp2_with (first | (go_at_call 71; with_reducible refine (hN _).mono ?_; rintro e w' ⟨rfl, n, rfl⟩) | (go_at_call 71; refine (hN 0).mono ?_; rintro e w' ⟨rfl, n, rfl⟩) | (go_at_call 70; refine (hB _).mono ?_; rintro e w' ⟨rfl, rfl⟩))
          go_ret
          exact ⟨j, hkj, hj, by rw [HR.out, ← HDN.out]; rfl, hC.out.drewN _, hO.drewN _, hL.out, fun b' r' e => by rw [HR.out] at e; cases e; exact HP.out.symm⟩
        · have e1 : dn = false := bool_not hd h35
          subst e1
          have h35b : (c == 35) = false := by rw [beq_eq_false_iff_ne]; exact h35
          clear hd hst hg
          go_wp2_with (first | (go_at_call 71; with_reducible refine (hN _).mono ?_; rintro e w' ⟨rfl, n, rfl⟩) | (go_at_call 71; refine (hN 0).mono ?_; rintro e w' ⟨rfl, n, rfl⟩) | (go_at_call 70; refine (hB _).mono ?_; rintro e w' ⟨rfl, rfl⟩))
          go_ret
          exact ⟨j, hkj, hj, by rw [HR.out, ← HDN.out]; rfl, hC.out.drewN _, hO.drewN _, hL.out, fun b' r' e => by rw [HR.out] at e; cases e; exact HP.out.symm⟩
end Go.Proofs.YtkmkhegekonbmaaDoor
