/- Walks: the reference's Text; its reader of digits. -/
import Derived.Test.YtlembnpplnbagaaDoorSumK
namespace Go.Proofs.YtlembnpplnbagaaDoor
open Go.RowKit Go.Shelf
open Sm

theorem refText5_any (v : Int) (h : okI v = true) (w : World) :
    Calls Tryd.prog 39 #[.int .i64 v] w fun e w' => e = .returned (.string (strOf (Lib.itoa v))) ∧ Below w.heap.size w w' := by
  have hs := fun w => refSize5_any v h w
  have hA := abs_ok h
  have hd := fun w => refDigits_any v.natAbs (by omega) w
  have hl := dec_len v.natAbs (by omega)
  by_cases h0 : v < 0
  · have hsum : ∀ w, (Op.stringOp .add ⟨#[45]⟩ (strOf (Lib.decDigits v.natAbs))).run Tryd.prog w = .ok (.string (strOf (Lib.itoa v))) w := fun w => by
      have e : strOf (Lib.itoa v) = (⟨#[45]⟩ : ByteArray) ++ strOf (Lib.decDigits v.natAbs) := by
        rw [itoa_neg h0]
        show _ = strOf [45] ++ _
        rw [← strOf_app]
        rfl
      rw [e]
      exact run_string_add_sum w _ _ (by rw [strOf_size]; show 1 + _ ≤ _; omega)
    obtain ⟨D, hD⟩ : ∃ D, D = strOf (Lib.decDigits v.natAbs) := ⟨_, rfl⟩
    obtain ⟨R, hR⟩ : ∃ D, D = strOf (Lib.itoa v) := ⟨_, rfl⟩
    rw [← hD] at hd hsum
    rw [← hR] at hsum ⊢
    obtain ⟨a, ha⟩ : ∃ a : Int, a = ((v.natAbs : Nat) : Int) := ⟨_, rfl⟩
    rw [← ha] at hs hd
    clear hD hR ha hl hA h
    go_enter Tryd.func39, Tryd.ntmps39
    go_wp2_with (first | (go_at_call 51; refine (hs _).mono ?_; rintro e w' ⟨rfl, rfl⟩) | (go_at_call 63; refine (hd _).mono ?_; rintro e w' ⟨rfl, hb1⟩))
    go_ret
    exact ⟨rfl, hb1⟩
  · have e : Lib.itoa v = Lib.decDigits v.natAbs := by rw [itoa_pos (by omega)]; congr 1; omega
    rw [e]
    obtain ⟨D, hD⟩ : ∃ D, D = strOf (Lib.decDigits v.natAbs) := ⟨_, rfl⟩
    rw [← hD] at hd ⊢
    obtain ⟨a, ha⟩ : ∃ a : Int, a = ((v.natAbs : Nat) : Int) := ⟨_, rfl⟩
    rw [← ha] at hs hd
    clear hD ha hl hA h e
    go_enter Tryd.func39, Tryd.ntmps39
    go_wp2_with (first | (go_at_call 51; refine (hs _).mono ?_; rintro e w' ⟨rfl, rfl⟩) | (go_at_call 63; refine (hd _).mono ?_; rintro e w' ⟨rfl, hb1⟩))
    go_ret
    exact ⟨rfl, hb1⟩

/-- What the reader of digits answers. -/
def natuN (l : List UInt8) : Nat := if digB l = true then decN 0 l % 18446744073709551616 else 0
def natuG (l : List UInt8) : Bool := if digB l = true then decide (18446744073709551616 ≤ decN 0 l) else false
def natuE (l : List UInt8) : Int := if digB l = true then 0 else 3
theorem natu_no {l : List UInt8} (h : digB l = false) : natuN l = 0 ∧ natuG l = false ∧ natuE l = 3 := by unfold natuN natuG natuE; rw [h]; exact ⟨rfl, rfl, rfl⟩
theorem natu_yes {l : List UInt8} (h : digB l = true) : natuN l = decN 0 l % 18446744073709551616 ∧ natuG l = decide (18446744073709551616 ≤ decN 0 l) ∧ natuE l = 0 := by unfold natuN natuG natuE; rw [h]; exact ⟨rfl, rfl, rfl⟩
theorem great_step (N d q : Nat) (hd : d ≤ 9) (hq : q = (18446744073709551615 - d) / 10) :
    decide (18446744073709551616 ≤ 10 * N + d) = (decide (18446744073709551616 ≤ N) || decide (q < N % 18446744073709551616)) := by
  subst hq
  by_cases h : 18446744073709551616 ≤ N
  · have : 18446744073709551616 ≤ 10 * N + d := by omega
    simp [h, this]
  · rw [Nat.mod_eq_of_lt (by omega)]
    by_cases h2 : 18446744073709551616 ≤ 10 * N + d
    · have : (18446744073709551615 - d) / 10 < N := by omega
      simp [h2, this]
    · have : ¬ (18446744073709551615 - d) / 10 < N := by omega
      simp [h, h2, this]
theorem byte_at (s : ByteArray) (k : Nat) (h : k < s.size) : s.data.toList.take (k + 1) = s.data.toList.take k ++ [s[k]'h] := bytes_take s k h
set_option maxRecDepth 100000 in
set_option maxHeartbeats 2000000 in
theorem natural_loop (s : ByteArray) (hs : s.size ≤ 100000) (w : World) (h0 : s.size ≠ 0) (h1 : s.size ≠ 1 → ∀ h : 0 < s.size, (s[0]'h).toNat ≠ 48) :
    Calls Tryd.prog 60 #[.string s] w fun e w' => e = .returned (.tuple #[.int .u64 ((natuN s.data.toList : Nat) : Int), .bool (natuG s.data.toList), .int .i64 (natuE s.data.toList)]) ∧ w = w' := by
  have n0 : ¬ s.toList = [] := fun e => h0 (by rw [← bytes_size, ← toL, e]; rfl)
  have n0b := strEmpty n0
  have hdig : (∀ b ∈ s.data.toList, isD b = true) → digB s.data.toList = true := fun ha => by
    cases e : s.data.toList with
    | nil => rw [toL] at n0; exact absurd e n0
    | cons d ds =>
      rw [e] at ha
      refine digB_cons.2 ⟨ha, fun hd => ?_⟩
      by_cases hz : s.size = 1
      · have := bytes_size s
        rw [e, hz] at this
        simpa using this
      · have hp : 0 < s.size := by omega
        have := byte_at s 0 hp
        rw [e] at this
        simp at this
        have h2 := h1 hz hp
        rw [← this] at h2
        exact absurd hd h2
  have hno : ∀ k (h : k < s.size), isD (s[k]'h) = false → digB s.data.toList = false := fun k h hb => by
    cases e : digB s.data.toList
    · rfl
    · have hm : s[k]'h ∈ s.data.toList.take (k + 1) := by rw [byte_at s k h]; simp
      have := digB_all e _ (List.mem_of_mem_take hm)
      rw [hb] at this
      cases this
  have hstart : ¬ s.size = 1 → ∀ h : 0 < s.size, ((s[0]'h).toNat : Int) ≠ 48 := fun hz h e => h1 hz h (by omega)
  have HDIG := Lib.hid hdig
  have HNO := Lib.hid hno
  clear hdig hno h1
  by_cases hz : s.size = 1
  · have z1 : ¬ (1 : Int) < (s.size : Int) := by omega
    clear hstart
    go_enter Tryd.func60, Tryd.ntmps60
    go_wp2
    go_loop [5, 6, 7] (fun n g i => ∃ k : Nat, k ≤ s.size ∧ i = .int .i64 (k : Int) ∧ Hid (∀ b ∈ s.data.toList.take k, isD b = true) ∧ n = .int .u64 ((decN 0 (s.data.toList.take k) % 18446744073709551616 : Nat) : Int) ∧ g = .bool (decide (18446744073709551616 ≤ decN 0 (s.data.toList.take k)))) (fun _ _ i => s.size - (intOf i).toNat)
    case atStart => exact ⟨0, Nat.zero_le _, rfl, Lib.hid (by simp), by simp [decN], by simp [decN]⟩
    case round =>
      obtain ⟨k, hk, rfl, hA, rfl, rfl⟩ := hrel
      obtain ⟨N, hN⟩ : ∃ N, N = decN 0 (s.data.toList.take k) := ⟨_, rfl⟩
      rw [← hN]
      obtain ⟨M, hM⟩ : ∃ M, M = N % 18446744073709551616 := ⟨_, rfl⟩
      obtain ⟨G, hG⟩ : ∃ G, G = decide (18446744073709551616 ≤ N) := ⟨_, rfl⟩
      rw [← hM, ← hG]
      by_cases hlt : k < s.size
      · have htk := byte_at s k hlt
        obtain ⟨c, hc⟩ : ∃ c : Nat, c = (s[k]'hlt).toNat := ⟨_, rfl⟩
        have hcz : ((s[k]'hlt).toNat : Int) = (c : Int) := by rw [hc]
        have hAo := hA.out
        by_cases hd : 48 ≤ c ∧ c ≤ 57
        · obtain ⟨d, hdd⟩ : ∃ d, d = c - 48 := ⟨_, rfl⟩
          have hnx : decN 0 (s.data.toList.take (k + 1)) = 10 * N + d := by rw [htk, decN_snoc, ← hN, hdd, hc]
          have hA2 := Lib.hid (show ∀ b ∈ s.data.toList.take (k + 1), isD b = true from fun b hb => by
            rw [htk] at hb
            rcases List.mem_append.1 hb with hb | hb
            · exact hAo b hb
            · obtain rfl := List.mem_singleton.1 hb
              exact isD_iff.2 (by rw [← hc]; exact hd))
          have hg2 := great_step N d _ (by omega) rfl
          obtain ⟨q, hq⟩ : ∃ q, q = (18446744073709551615 - d) / 10 := ⟨_, rfl⟩
          rw [← hq, ← hM, ← hG] at hg2
          have f1 : ¬ (c : Int) < 48 := by omega
          have f2 : ¬ (57 : Int) < (c : Int) := by omega
          have f3 : IntKind.u8.wrap ((c : Int) - 48) = (d : Int) := by rw [IntWalk.u8_in _ ⟨by omega, by omega⟩]; omega
          have f4 : IntKind.u64.wrap (d : Int) = (d : Int) := IntWalk.u64_in _ ⟨by omega, by omega⟩
          obtain ⟨E, hE⟩ : ∃ E : Int, E = 18446744073709551615 - (d : Int) := ⟨_, rfl⟩
          have f5 : IntKind.u64.wrap (18446744073709551615 - (d : Int)) = E := by rw [IntWalk.u64_in _ ⟨by omega, by omega⟩, hE]
          have f6 : E / 10 = (q : Int) := by omega
          have f6b : (0 : Int) ≤ E := by omega
          have f6c : E ≤ 18446744073709551615 := by omega
          obtain ⟨P, hP⟩ : ∃ P : Int, P = IntKind.u64.wrap (10 * (M : Int)) := ⟨_, rfl⟩
          obtain ⟨r, hr⟩ : ∃ r : Nat, r = (10 * N + d) % 18446744073709551616 := ⟨_, rfl⟩
          have f8 : IntKind.u64.wrap (P + (d : Int)) = (r : Int) := by rw [hP, IntKind.wrap_u64, IntKind.wrap_u64]; omega
          have f9 : (0 : Int) ≤ (q : Int) := by omega
          replace hP := hP.symm
          have HN := Lib.hid hnx
          have HR := Lib.hid hr
          have HG2 := Lib.hid hg2
          clear hE hr hnx hg2 hq hdd hc htk hN hM hA hAo hd
          cases hGc : G
          · rw [hGc] at hG HG2
            clear hG hGc
            by_cases hqm : q < M
            · have f10 : (q : Int) < (M : Int) := by omega
              have HQ := Lib.hid (decide_eq_true hqm)
              clear hqm
              go_wp2
              go_round
              case rel => exact ⟨k + 1, by omega, by go_num, hA2, by rw [HN.out, ← HR.out], by rw [HN.out, HG2.out, HQ.out]; rfl⟩
              case measure => simp [intOf]; omega
            · have f10 : ¬ (q : Int) < (M : Int) := by omega
              have HQ := Lib.hid (decide_eq_false hqm)
              clear hqm
              go_wp2
              go_round
              case rel => exact ⟨k + 1, by omega, by go_num, hA2, by rw [HN.out, ← HR.out], by rw [HN.out, HG2.out, HQ.out]; rfl⟩
              case measure => simp [intOf]; omega
          · rw [hGc] at hG HG2
            clear hG hGc
            go_wp2
            go_round
            case rel => exact ⟨k + 1, by omega, by go_num, hA2, by rw [HN.out, ← HR.out], by rw [HN.out, HG2.out]; rfl⟩
            case measure => simp [intOf]; omega
        · have hb0 : isD (s[k]'hlt) = false := by
            cases e : isD (s[k]'hlt)
            · rfl
            · exact absurd (by have := isD_iff.1 e; rw [← hc] at this; exact this) hd
          obtain ⟨e1, e2, e3⟩ := natu_no (HNO.out k hlt hb0)
          have E1 := Lib.hid e1
          have E2 := Lib.hid e2
          have E3 := Lib.hid e3
          clear e1 e2 e3 hb0 hA hAo hN hM hG hc htk
          by_cases h48 : (c : Int) < 48
          · clear hd
            go_wp2
            go_ret3
            exact ⟨by rw [E1.out, E2.out, E3.out]; rfl, rfl⟩
          · have h57 : (57 : Int) < (c : Int) := by omega
            clear hd
            go_wp2
            go_ret3
            exact ⟨by rw [E1.out, E2.out, E3.out]; rfl, rfl⟩
      · have hkz : k = s.size := by omega
        have hall : s.data.toList.take k = s.data.toList := List.take_of_length_le (by rw [bytes_size]; omega)
        rw [hall] at hN hA
        obtain ⟨e1, e2, e3⟩ := natu_yes (HDIG.out hA.out)
        rw [← hN, ← hM] at e1
        rw [← hN, ← hG] at e2
        have E1 := Lib.hid e1
        have E2 := Lib.hid e2
        have E3 := Lib.hid e3
        have hlt' : ¬ (k : Int) < (s.size : Int) := by omega
        clear e1 e2 e3 hA hN hM hG hall hkz hlt
        go_wp2
        go_ret3
        exact ⟨by rw [E1.out, E2.out, E3.out]; rfl, rfl⟩
  · have z1 : (1 : Int) < (s.size : Int) := by omega
    have hp : 0 < s.size := by omega
    have hb := hstart hz hp
    have hbb : (((s[0]'hp).toNat : Int) == 48) = false := by rw [beq_eq_false_iff_ne]; exact hb
    clear hstart
    go_enter Tryd.func60, Tryd.ntmps60
    go_wp2
    go_loop [5, 6, 7] (fun n g i => ∃ k : Nat, k ≤ s.size ∧ i = .int .i64 (k : Int) ∧ Hid (∀ b ∈ s.data.toList.take k, isD b = true) ∧ n = .int .u64 ((decN 0 (s.data.toList.take k) % 18446744073709551616 : Nat) : Int) ∧ g = .bool (decide (18446744073709551616 ≤ decN 0 (s.data.toList.take k)))) (fun _ _ i => s.size - (intOf i).toNat)
    case atStart => exact ⟨0, Nat.zero_le _, rfl, Lib.hid (by simp), by simp [decN], by simp [decN]⟩
    case round =>
      obtain ⟨k, hk, rfl, hA, rfl, rfl⟩ := hrel
      obtain ⟨N, hN⟩ : ∃ N, N = decN 0 (s.data.toList.take k) := ⟨_, rfl⟩
      rw [← hN]
      obtain ⟨M, hM⟩ : ∃ M, M = N % 18446744073709551616 := ⟨_, rfl⟩
      obtain ⟨G, hG⟩ : ∃ G, G = decide (18446744073709551616 ≤ N) := ⟨_, rfl⟩
      rw [← hM, ← hG]
      by_cases hlt : k < s.size
      · have htk := byte_at s k hlt
        obtain ⟨c, hc⟩ : ∃ c : Nat, c = (s[k]'hlt).toNat := ⟨_, rfl⟩
        have hcz : ((s[k]'hlt).toNat : Int) = (c : Int) := by rw [hc]
        have hAo := hA.out
        by_cases hd : 48 ≤ c ∧ c ≤ 57
        · obtain ⟨d, hdd⟩ : ∃ d, d = c - 48 := ⟨_, rfl⟩
          have hnx : decN 0 (s.data.toList.take (k + 1)) = 10 * N + d := by rw [htk, decN_snoc, ← hN, hdd, hc]
          have hA2 := Lib.hid (show ∀ b ∈ s.data.toList.take (k + 1), isD b = true from fun b hb => by
            rw [htk] at hb
            rcases List.mem_append.1 hb with hb | hb
            · exact hAo b hb
            · obtain rfl := List.mem_singleton.1 hb
              exact isD_iff.2 (by rw [← hc]; exact hd))
          have hg2 := great_step N d _ (by omega) rfl
          obtain ⟨q, hq⟩ : ∃ q, q = (18446744073709551615 - d) / 10 := ⟨_, rfl⟩
          rw [← hq, ← hM, ← hG] at hg2
          have f1 : ¬ (c : Int) < 48 := by omega
          have f2 : ¬ (57 : Int) < (c : Int) := by omega
          have f3 : IntKind.u8.wrap ((c : Int) - 48) = (d : Int) := by rw [IntWalk.u8_in _ ⟨by omega, by omega⟩]; omega
          have f4 : IntKind.u64.wrap (d : Int) = (d : Int) := IntWalk.u64_in _ ⟨by omega, by omega⟩
          obtain ⟨E, hE⟩ : ∃ E : Int, E = 18446744073709551615 - (d : Int) := ⟨_, rfl⟩
          have f5 : IntKind.u64.wrap (18446744073709551615 - (d : Int)) = E := by rw [IntWalk.u64_in _ ⟨by omega, by omega⟩, hE]
          have f6 : E / 10 = (q : Int) := by omega
          have f6b : (0 : Int) ≤ E := by omega
          have f6c : E ≤ 18446744073709551615 := by omega
          obtain ⟨P, hP⟩ : ∃ P : Int, P = IntKind.u64.wrap (10 * (M : Int)) := ⟨_, rfl⟩
          obtain ⟨r, hr⟩ : ∃ r : Nat, r = (10 * N + d) % 18446744073709551616 := ⟨_, rfl⟩
          have f8 : IntKind.u64.wrap (P + (d : Int)) = (r : Int) := by rw [hP, IntKind.wrap_u64, IntKind.wrap_u64]; omega
          have f9 : (0 : Int) ≤ (q : Int) := by omega
          replace hP := hP.symm
          have HN := Lib.hid hnx
          have HR := Lib.hid hr
          have HG2 := Lib.hid hg2
          clear hE hr hnx hg2 hq hdd hc htk hN hM hA hAo hd
          cases hGc : G
          · rw [hGc] at hG HG2
            clear hG hGc
            by_cases hqm : q < M
            · have f10 : (q : Int) < (M : Int) := by omega
              have HQ := Lib.hid (decide_eq_true hqm)
              clear hqm
              go_wp2
              go_round
              case rel => exact ⟨k + 1, by omega, by go_num, hA2, by rw [HN.out, ← HR.out], by rw [HN.out, HG2.out, HQ.out]; rfl⟩
              case measure => simp [intOf]; omega
            · have f10 : ¬ (q : Int) < (M : Int) := by omega
              have HQ := Lib.hid (decide_eq_false hqm)
              clear hqm
              go_wp2
              go_round
              case rel => exact ⟨k + 1, by omega, by go_num, hA2, by rw [HN.out, ← HR.out], by rw [HN.out, HG2.out, HQ.out]; rfl⟩
              case measure => simp [intOf]; omega
          · rw [hGc] at hG HG2
            clear hG hGc
            go_wp2
            go_round
            case rel => exact ⟨k + 1, by omega, by go_num, hA2, by rw [HN.out, ← HR.out], by rw [HN.out, HG2.out]; rfl⟩
            case measure => simp [intOf]; omega
        · have hb0 : isD (s[k]'hlt) = false := by
            cases e : isD (s[k]'hlt)
            · rfl
            · exact absurd (by have := isD_iff.1 e; rw [← hc] at this; exact this) hd
          obtain ⟨e1, e2, e3⟩ := natu_no (HNO.out k hlt hb0)
          have E1 := Lib.hid e1
          have E2 := Lib.hid e2
          have E3 := Lib.hid e3
          clear e1 e2 e3 hb0 hA hAo hN hM hG hc htk
          by_cases h48 : (c : Int) < 48
          · clear hd
            go_wp2
            go_ret3
            exact ⟨by rw [E1.out, E2.out, E3.out]; rfl, rfl⟩
          · have h57 : (57 : Int) < (c : Int) := by omega
            clear hd
            go_wp2
            go_ret3
            exact ⟨by rw [E1.out, E2.out, E3.out]; rfl, rfl⟩
      · have hkz : k = s.size := by omega
        have hall : s.data.toList.take k = s.data.toList := List.take_of_length_le (by rw [bytes_size]; omega)
        rw [hall] at hN hA
        obtain ⟨e1, e2, e3⟩ := natu_yes (HDIG.out hA.out)
        rw [← hN, ← hM] at e1
        rw [← hN, ← hG] at e2
        have E1 := Lib.hid e1
        have E2 := Lib.hid e2
        have E3 := Lib.hid e3
        have hlt' : ¬ (k : Int) < (s.size : Int) := by omega
        clear e1 e2 e3 hA hN hM hG hall hkz hlt
        go_wp2
        go_ret3
        exact ⟨by rw [E1.out, E2.out, E3.out]; rfl, rfl⟩
end Go.Proofs.YtlembnpplnbagaaDoor
