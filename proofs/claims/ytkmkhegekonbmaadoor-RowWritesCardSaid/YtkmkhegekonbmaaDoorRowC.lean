/- Walks: the reference's reader of digits. -/
import Derived.Test.YtkmkhegekonbmaaDoorRowB
namespace Go.Proofs.YtkmkhegekonbmaaDoor
open Go.RowKit
open Rw6

/-- What the reader of digits answers. -/
def natuN (l : List UInt8) : Nat := if digB l = true then decN 0 l % 18446744073709551616 else 0
def natuG (l : List UInt8) : Bool := if digB l = true then decide (18446744073709551616 ≤ decN 0 l) else false
def natuE (l : List UInt8) : Bool := digB l
theorem natu_no {l : List UInt8} (h : digB l = false) : natuN l = 0 ∧ natuG l = false ∧ natuE l = false := by unfold natuN natuG natuE; exact ⟨by rw [h]; rfl, by rw [h]; rfl, h⟩
theorem natu_yes {l : List UInt8} (h : digB l = true) : natuN l = decN 0 l % 18446744073709551616 ∧ natuG l = decide (18446744073709551616 ≤ decN 0 l) ∧ natuE l = true := by unfold natuN natuG natuE; exact ⟨by rw [h]; rfl, by rw [h]; rfl, h⟩
theorem great_step (N d q : Nat) (hd : d ≤ 9) (hq : q = (18446744073709551615 - d) / 10) :
    decide (18446744073709551616 ≤ 10 * N + d) = (decide (18446744073709551616 ≤ N) || decide (q < N % 18446744073709551616)) := by
  subst hq
  by_cases h : 18446744073709551616 ≤ N
  · have : 18446744073709551616 ≤ 10 * N + d := by omega
    simp [h, this]
  · rw [Nat.mod_eq_of_lt (by omega)]
    by_cases h2 : 18446744073709551616 ≤ 10 * N + d
    · have : (18446744073709551615 - d) / 10 < N := by omega
      simp [h2, this]
    · have : ¬ (18446744073709551615 - d) / 10 < N := by omega
      simp [h, h2, this]
set_option maxRecDepth 100000 in
set_option maxHeartbeats 2000000 in
theorem refDig_loop (s : ByteArray) (hs : s.size ≤ 20) (w : World) (h0 : s.size ≠ 0) (h1 : s.size ≠ 1 → ∀ h : 0 < s.size, (s[0]'h).toNat ≠ 48) :
    Calls Tryd.prog 44 #[.string s] w fun e w' => e = .returned (.tuple #[.int .u64 ((natuN s.data.toList : Nat) : Int), .bool (natuG s.data.toList), .bool (natuE s.data.toList)]) ∧ w = w' := by
  have n0 : ¬ s.toList = [] := fun e => h0 (by rw [← bytes_size, ← toL, e]; rfl)
  have n0b := strEmpty n0
  have z2 : ¬ (20 : Int) < (s.size : Int) := by omega
  have hdig : (∀ b ∈ s.data.toList, isD b = true) → digB s.data.toList = true := fun ha => by
    cases e : s.data.toList with
    | nil => rw [toL] at n0; exact absurd e n0
    | cons d ds =>
      rw [e] at ha
      refine digB_cons.2 ⟨ha, fun hd => ?_⟩
      by_cases hz : s.size = 1
      · have := bytes_size s
        rw [e, hz] at this
        simpa using this
      · have hp : 0 < s.size := by omega
        have := byte_at s 0 hp
        rw [e] at this
        simp at this
        have h2 := h1 hz hp
        rw [← this] at h2
        exact absurd hd h2
  have hno : ∀ k (h : k < s.size), isD (s[k]'h) = false → digB s.data.toList = false := fun k h hb => by
    cases e : digB s.data.toList
    · rfl
    · have hm : s[k]'h ∈ s.data.toList.take (k + 1) := by rw [byte_at s k h]; simp
      have := digB_all e _ (List.mem_of_mem_take hm)
      rw [hb] at this
      cases this
  have hstart : ¬ s.size = 1 → ∀ h : 0 < s.size, ((s[0]'h).toNat : Int) ≠ 48 := fun hz h e => h1 hz h (by omega)
  have HDIG := Lib.hid hdig
  have HNO := Lib.hid hno
  clear hdig hno h1
  by_cases hz : s.size = 1
  · have z1 : ¬ (1 : Int) < (s.size : Int) := by omega
    clear hstart
    go_enter Tryd.func44, Tryd.ntmps44
    go_wp2
    go_loop [5, 6, 7] (fun n g i => ∃ k : Nat, k ≤ s.size ∧ i = .int .i64 (k : Int) ∧ Hid (∀ b ∈ s.data.toList.take k, isD b = true) ∧ n = .int .u64 ((decN 0 (s.data.toList.take k) % 18446744073709551616 : Nat) : Int) ∧ g = .bool (decide (18446744073709551616 ≤ decN 0 (s.data.toList.take k)))) (fun _ _ i => s.size - (intOf i).toNat)
    case atStart => exact ⟨0, Nat.zero_le _, rfl, Lib.hid (by simp), by simp [decN], by simp [decN]⟩
    case round =>
      obtain ⟨k, hk, rfl, hA, rfl, rfl⟩ := hrel
      obtain ⟨N, hN⟩ : ∃ N, N = decN 0 (s.data.toList.take k) := ⟨_, rfl⟩
      rw [← hN]
      obtain ⟨M, hM⟩ : ∃ M, M = N % 18446744073709551616 := ⟨_, rfl⟩
      obtain ⟨G, hG⟩ : ∃ G, G = decide (18446744073709551616 ≤ N) := ⟨_, rfl⟩
      rw [← hM, ← hG]
      by_cases hlt : k < s.size
      · have htk := byte_at s k hlt
        obtain ⟨c, hc⟩ : ∃ c : Nat, c = (s[k]'hlt).toNat := ⟨_, rfl⟩
        have hcz : ((s[k]'hlt).toNat : Int) = (c : Int) := by rw [hc]
        have hAo := hA.out
        by_cases hd : 48 ≤ c ∧ c ≤ 57
        · obtain ⟨d, hdd⟩ : ∃ d, d = c - 48 := ⟨_, rfl⟩
          have hnx : decN 0 (s.data.toList.take (k + 1)) = 10 * N + d := by rw [htk, decN_snoc, ← hN, hdd, hc]
          have hA2 := Lib.hid (show ∀ b ∈ s.data.toList.take (k + 1), isD b = true from fun b hb => by
            rw [htk] at hb
            rcases List.mem_append.1 hb with hb | hb
            · exact hAo b hb
            · obtain rfl := List.mem_singleton.1 hb
              exact isD_iff.2 (by rw [← hc]; exact hd))
          have hg2 := great_step N d _ (by omega) rfl
          obtain ⟨q, hq⟩ : ∃ q, q = (18446744073709551615 - d) / 10 := ⟨_, rfl⟩
          rw [← hq, ← hM, ← hG] at hg2
          have f1 : ¬ (c : Int) < 48 := by omega
          have f2 : ¬ (57 : Int) < (c : Int) := by omega
          have f3 : IntKind.u8.wrap ((c : Int) - 48) = (d : Int) := by rw [IntWalk.u8_in _ ⟨by omega, by omega⟩]; omega
          have f4 : IntKind.u64.wrap (d : Int) = (d : Int) := IntWalk.u64_in _ ⟨by omega, by omega⟩
          obtain ⟨E, hE⟩ : ∃ E : Int, E = 18446744073709551615 - (d : Int) := ⟨_, rfl⟩
          have f5 : IntKind.u64.wrap (18446744073709551615 - (d : Int)) = E := by rw [IntWalk.u64_in _ ⟨by omega, by omega⟩, hE]
          have f6 : E / 10 = (q : Int) := by omega
          have f6b : (0 : Int) ≤ E := by omega
          have f6c : E ≤ 18446744073709551615 := by omega
          obtain ⟨P, hP⟩ : ∃ P : Int, P = IntKind.u64.wrap (10 * (M : Int)) := ⟨_, rfl⟩
          obtain ⟨r, hr⟩ : ∃ r : Nat, r = (10 * N + d) % 18446744073709551616 := ⟨_, rfl⟩
          have f8 : IntKind.u64.wrap (P + (d : Int)) = (r : Int) := by rw [hP, IntKind.wrap_u64, IntKind.wrap_u64]; omega
          have f9 : (0 : Int) ≤ (q : Int) := by omega
          replace hP := hP.symm
          have HN := Lib.hid hnx
          have HR := Lib.hid hr
          have HG2 := Lib.hid hg2
          clear hE hr hnx hg2 hq hdd hc htk hN hM hA hAo hd
          cases hGc : G
          · rw [hGc] at hG HG2
            clear hG hGc
            by_cases hqm : q < M
            · have f10 : (q : Int) < (M : Int) := by omega
              have HQ := Lib.hid (decide_eq_true hqm)
              clear hqm
              go_wp2
              go_round
              case rel => exact ⟨k + 1, by omega, by go_num, hA2, by rw [HN.out, ← HR.out], by rw [HN.out, HG2.out, HQ.out]; rfl⟩
              case measure => simp [intOf]; omega
            · have f10 : ¬ (q : Int) < (M : Int) := by omega
              have HQ := Lib.hid (decide_eq_false hqm)
              clear hqm
              go_wp2
              go_round
              case rel => exact ⟨k + 1, by omega, by go_num, hA2, by rw [HN.out, ← HR.out], by rw [HN.out, HG2.out, HQ.out]; rfl⟩
              case measure => simp [intOf]; omega
          · rw [hGc] at hG HG2
            clear hG hGc
            by_cases hqm : q < M
            · have f10 : (q : Int) < (M : Int) := by omega
              clear hqm
              go_wp2
              go_round
              case rel => exact ⟨k + 1, by omega, by go_num, hA2, by rw [HN.out, ← HR.out], by rw [HN.out, HG2.out]; rfl⟩
              case measure => simp [intOf]; omega
            · have f10 : ¬ (q : Int) < (M : Int) := by omega
              clear hqm
              go_wp2
              go_round
              case rel => exact ⟨k + 1, by omega, by go_num, hA2, by rw [HN.out, ← HR.out], by rw [HN.out, HG2.out]; rfl⟩
              case measure => simp [intOf]; omega
        · have hb0 : isD (s[k]'hlt) = false := by
            cases e : isD (s[k]'hlt)
            · rfl
            · exact absurd (by have := isD_iff.1 e; rw [← hc] at this; exact this) hd
          obtain ⟨e1, e2, e3⟩ := natu_no (HNO.out k hlt hb0)
          have E1 := Lib.hid e1
          have E2 := Lib.hid e2
          have E3 := Lib.hid e3
          clear e1 e2 e3 hb0 hA hAo hN hM hG hc htk
          by_cases h48 : (c : Int) < 48
          · clear hd
            go_wp2
            go_ret3
            exact ⟨by rw [E1.out, E2.out, E3.out]; rfl, rfl⟩
          · have h57 : (57 : Int) < (c : Int) := by omega
            clear hd
            go_wp2
            go_ret3
            exact ⟨by rw [E1.out, E2.out, E3.out]; rfl, rfl⟩
      · have hkz : k = s.size := by omega
        have hall : s.data.toList.take k = s.data.toList := List.take_of_length_le (by rw [bytes_size]; omega)
        rw [hall] at hN hA
        obtain ⟨e1, e2, e3⟩ := natu_yes (HDIG.out hA.out)
        rw [← hN, ← hM] at e1
        rw [← hN, ← hG] at e2
        have E1 := Lib.hid e1
        have E2 := Lib.hid e2
        have E3 := Lib.hid e3
        have hlt' : ¬ (k : Int) < (s.size : Int) := by omega
        clear e1 e2 e3 hA hN hM hG hall hkz hlt
        go_wp2
        go_ret3
        exact ⟨by rw [E1.out, E2.out, E3.out]; rfl, rfl⟩
  · have z1 : (1 : Int) < (s.size : Int) := by omega
    have hp : 0 < s.size := by omega
    have hb := hstart hz hp
    have hbb : (((s[0]'hp).toNat : Int) == 48) = false := by rw [beq_eq_false_iff_ne]; exact hb
    clear hstart
    go_enter Tryd.func44, Tryd.ntmps44
    go_wp2
    go_loop [5, 6, 7] (fun n g i => ∃ k : Nat, k ≤ s.size ∧ i = .int .i64 (k : Int) ∧ Hid (∀ b ∈ s.data.toList.take k, isD b = true) ∧ n = .int .u64 ((decN 0 (s.data.toList.take k) % 18446744073709551616 : Nat) : Int) ∧ g = .bool (decide (18446744073709551616 ≤ decN 0 (s.data.toList.take k)))) (fun _ _ i => s.size - (intOf i).toNat)
    case atStart => exact ⟨0, Nat.zero_le _, rfl, Lib.hid (by simp), by simp [decN], by simp [decN]⟩
    case round =>
      obtain ⟨k, hk, rfl, hA, rfl, rfl⟩ := hrel
      obtain ⟨N, hN⟩ : ∃ N, N = decN 0 (s.data.toList.take k) := ⟨_, rfl⟩
      rw [← hN]
      obtain ⟨M, hM⟩ : ∃ M, M = N % 18446744073709551616 := ⟨_, rfl⟩
      obtain ⟨G, hG⟩ : ∃ G, G = decide (18446744073709551616 ≤ N) := ⟨_, rfl⟩
      rw [← hM, ← hG]
      by_cases hlt : k < s.size
      · have htk := byte_at s k hlt
        obtain ⟨c, hc⟩ : ∃ c : Nat, c = (s[k]'hlt).toNat := ⟨_, rfl⟩
        have hcz : ((s[k]'hlt).toNat : Int) = (c : Int) := by rw [hc]
        have hAo := hA.out
        by_cases hd : 48 ≤ c ∧ c ≤ 57
        · obtain ⟨d, hdd⟩ : ∃ d, d = c - 48 := ⟨_, rfl⟩
          have hnx : decN 0 (s.data.toList.take (k + 1)) = 10 * N + d := by rw [htk, decN_snoc, ← hN, hdd, hc]
          have hA2 := Lib.hid (show ∀ b ∈ s.data.toList.take (k + 1), isD b = true from fun b hb => by
            rw [htk] at hb
            rcases List.mem_append.1 hb with hb | hb
            · exact hAo b hb
            · obtain rfl := List.mem_singleton.1 hb
              exact isD_iff.2 (by rw [← hc]; exact hd))
          have hg2 := great_step N d _ (by omega) rfl
          obtain ⟨q, hq⟩ : ∃ q, q = (18446744073709551615 - d) / 10 := ⟨_, rfl⟩
          rw [← hq, ← hM, ← hG] at hg2
          have f1 : ¬ (c : Int) < 48 := by omega
          have f2 : ¬ (57 : Int) < (c : Int) := by omega
          have f3 : IntKind.u8.wrap ((c : Int) - 48) = (d : Int) := by rw [IntWalk.u8_in _ ⟨by omega, by omega⟩]; omega
          have f4 : IntKind.u64.wrap (d : Int) = (d : Int) := IntWalk.u64_in _ ⟨by omega, by omega⟩
          obtain ⟨E, hE⟩ : ∃ E : Int, E = 18446744073709551615 - (d : Int) := ⟨_, rfl⟩
          have f5 : IntKind.u64.wrap (18446744073709551615 - (d : Int)) = E := by rw [IntWalk.u64_in _ ⟨by omega, by omega⟩, hE]
          have f6 : E / 10 = (q : Int) := by omega
          have f6b : (0 : Int) ≤ E := by omega
          have f6c : E ≤ 18446744073709551615 := by omega
          obtain ⟨P, hP⟩ : ∃ P : Int, P = IntKind.u64.wrap (10 * (M : Int)) := ⟨_, rfl⟩
          obtain ⟨r, hr⟩ : ∃ r : Nat, r = (10 * N + d) % 18446744073709551616 := ⟨_, rfl⟩
          have f8 : IntKind.u64.wrap (P + (d : Int)) = (r : Int) := by rw [hP, IntKind.wrap_u64, IntKind.wrap_u64]; omega
          have f9 : (0 : Int) ≤ (q : Int) := by omega
          replace hP := hP.symm
          have HN := Lib.hid hnx
          have HR := Lib.hid hr
          have HG2 := Lib.hid hg2
          clear hE hr hnx hg2 hq hdd hc htk hN hM hA hAo hd
          cases hGc : G
          · rw [hGc] at hG HG2
            clear hG hGc
            by_cases hqm : q < M
            · have f10 : (q : Int) < (M : Int) := by omega
              have HQ := Lib.hid (decide_eq_true hqm)
              clear hqm
              go_wp2
              go_round
              case rel => exact ⟨k + 1, by omega, by go_num, hA2, by rw [HN.out, ← HR.out], by rw [HN.out, HG2.out, HQ.out]; rfl⟩
              case measure => simp [intOf]; omega
            · have f10 : ¬ (q : Int) < (M : Int) := by omega
              have HQ := Lib.hid (decide_eq_false hqm)
              clear hqm
              go_wp2
              go_round
              case rel => exact ⟨k + 1, by omega, by go_num, hA2, by rw [HN.out, ← HR.out], by rw [HN.out, HG2.out, HQ.out]; rfl⟩
              case measure => simp [intOf]; omega
          · rw [hGc] at hG HG2
            clear hG hGc
            by_cases hqm : q < M
            · have f10 : (q : Int) < (M : Int) := by omega
              clear hqm
              go_wp2
              go_round
              case rel => exact ⟨k + 1, by omega, by go_num, hA2, by rw [HN.out, ← HR.out], by rw [HN.out, HG2.out]; rfl⟩
              case measure => simp [intOf]; omega
            · have f10 : ¬ (q : Int) < (M : Int) := by omega
              clear hqm
              go_wp2
              go_round
              case rel => exact ⟨k + 1, by omega, by go_num, hA2, by rw [HN.out, ← HR.out], by rw [HN.out, HG2.out]; rfl⟩
              case measure => simp [intOf]; omega
        · have hb0 : isD (s[k]'hlt) = false := by
            cases e : isD (s[k]'hlt)
            · rfl
            · exact absurd (by have := isD_iff.1 e; rw [← hc] at this; exact this) hd
          obtain ⟨e1, e2, e3⟩ := natu_no (HNO.out k hlt hb0)
          have E1 := Lib.hid e1
          have E2 := Lib.hid e2
          have E3 := Lib.hid e3
          clear e1 e2 e3 hb0 hA hAo hN hM hG hc htk
          by_cases h48 : (c : Int) < 48
          · clear hd
            go_wp2
            go_ret3
            exact ⟨by rw [E1.out, E2.out, E3.out]; rfl, rfl⟩
          · have h57 : (57 : Int) < (c : Int) := by omega
            clear hd
            go_wp2
            go_ret3
            exact ⟨by rw [E1.out, E2.out, E3.out]; rfl, rfl⟩
      · have hkz : k = s.size := by omega
        have hall : s.data.toList.take k = s.data.toList := List.take_of_length_le (by rw [bytes_size]; omega)
        rw [hall] at hN hA
        obtain ⟨e1, e2, e3⟩ := natu_yes (HDIG.out hA.out)
        rw [← hN, ← hM] at e1
        rw [← hN, ← hG] at e2
        have E1 := Lib.hid e1
        have E2 := Lib.hid e2
        have E3 := Lib.hid e3
        have hlt' : ¬ (k : Int) < (s.size : Int) := by omega
        clear e1 e2 e3 hA hN hM hG hall hkz hlt
        go_wp2
        go_ret3
        exact ⟨by rw [E1.out, E2.out, E3.out]; rfl, rfl⟩

def digN (l : List UInt8) : Nat := if numB l = true then decN 0 l % 18446744073709551616 else 0
def digG (l : List UInt8) : Bool := if numB l = true then decide (18446744073709551616 ≤ decN 0 l) else false
theorem numB_long {l : List UInt8} (h : 20 < l.length) : numB l = false := by
  cases e : numB l with
  | false => rfl
  | true => have := (numB_iff.1 e).2; omega
theorem numB_short {l : List UInt8} (h : l.length ≤ 20) : numB l = digB l := by
  rw [Bool.eq_iff_iff, numB_iff]
  exact ⟨fun h => h.1, fun e => ⟨e, h⟩⟩
theorem dig_no {l : List UInt8} (h : numB l = false) : digN l = 0 ∧ digG l = false := by unfold digN digG; rw [h]; exact ⟨rfl, rfl⟩
set_option maxRecDepth 100000 in
set_option maxHeartbeats 2000000 in
theorem refDigits_any (s : ByteArray) (hs : s.size ≤ 100000) (w : World) :
    Calls Tryd.prog 44 #[.string s] w fun e w' => e = .returned (.tuple #[.int .u64 ((digN s.data.toList : Nat) : Int), .bool (digG s.data.toList), .bool (numB s.data.toList)]) ∧ w = w' := by
  by_cases h0 : s.size = 0
  · have hl : s.data.toList = [] := List.eq_nil_of_length_eq_zero (by rw [bytes_size]; exact h0)
    obtain rfl : s = ⟨#[]⟩ := str_is hl
    clear h0 hs hl
    go_enter Tryd.func44, Tryd.ntmps44
    go_wp2
    go_ret3
    exact ⟨rfl, rfl⟩
  · have n0 : ¬ s.toList = [] := fun e => h0 (by rw [← bytes_size, ← toL, e]; rfl)
    have n0b := strEmpty n0
    by_cases h20 : 20 < s.size
    · have hn := numB_long (l := s.data.toList) (by rw [bytes_size]; exact h20)
      obtain ⟨d1, d2⟩ := dig_no hn
      rw [hn, d1, d2]
      have z2 : (20 : Int) < (s.size : Int) := by omega
      clear h0 h20 hn d1 d2
      go_enter Tryd.func44, Tryd.ntmps44
      go_wp2
      go_ret3
      exact ⟨rfl, rfl⟩
    · have hnb := numB_short (l := s.data.toList) (by rw [bytes_size]; omega)
      by_cases hz : s.size ≠ 1 ∧ ∃ h : 0 < s.size, (s[0]'h).toNat = 48
      · obtain ⟨hz, hp, h48⟩ := hz
        have hn : numB s.data.toList = false := by
          rw [hnb]
          obtain ⟨r, hr⟩ := byte_zero hp
          cases e : digB s.data.toList with
          | false => rfl
          | true =>
            rw [hr] at e
            have h1 := (digB_cons.1 e).2 h48
            have h2 := bytes_size s
            rw [hr, h1] at h2
            exact absurd h2.symm hz
        obtain ⟨d1, d2⟩ := dig_no hn
        rw [hn, d1, d2]
        have z1 : (1 : Int) < (s.size : Int) := by omega
        have z2 : ¬ (20 : Int) < (s.size : Int) := by omega
        have hb : ((s[0]'hp).toNat : Int) = 48 := by omega
        clear h0 h20 hn d1 d2 hnb h48 hz
        go_enter Tryd.func44, Tryd.ntmps44
        go_wp2
        go_ret3
        exact ⟨rfl, rfl⟩
      · have h := refDig_loop s (by omega) w h0 (fun h1 h2 h3 => hz ⟨h1, h2, h3⟩)
        have e1 : digN s.data.toList = natuN s.data.toList := by unfold digN natuN; rw [hnb]
        have e2 : digG s.data.toList = natuG s.data.toList := by unfold digG natuG; rw [hnb]
        rw [hnb, e1, e2]
        exact h
end Go.Proofs.YtkmkhegekonbmaaDoor
