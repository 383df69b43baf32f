/- Walks: the program's numbers: which words have their form. -/
import Derived.Test.YtkmkhegekonbmaaDoorRowT
namespace Go.Proofs.YtkmkhegekonbmaaDoor
open Go.RowKit
open Rw6

theorem digV_isD (b : UInt8) : digV b ≤ 9 ↔ isD b = true := by
  rw [isD_iff]
  have h := digV_is b
  have hb := b.toNat_lt
  by_cases h1 : 48 ≤ (b.toNat : Int) ∧ (b.toNat : Int) ≤ 57
  · rw [if_pos h1] at h; omega
  · rw [if_neg h1] at h
    by_cases h2 : 97 ≤ (b.toNat : Int) ∧ (b.toNat : Int) ≤ 102
    · rw [if_pos h2] at h; omega
    · rw [if_neg h2] at h
      by_cases h3 : 65 ≤ (b.toNat : Int) ∧ (b.toNat : Int) ≤ 70
      · rw [if_pos h3] at h; omega
      · rw [if_neg h3] at h; omega
theorem digV_val {b : UInt8} (h : isD b = true) : digV b = b.toNat - 48 := by
  have h1 := digV_is b
  have h2 := isD_iff.1 h
  rw [if_pos (by omega)] at h1
  omega
theorem numB_head {s : ByteArray} (hp : 0 < s.size) (h1 : s ≠ ⟨#[48]⟩) (h : ((s[0]'hp).toNat : Int) = 48) : numB s.data.toList = false := by
  obtain ⟨r, hr⟩ := byte_zero hp
  cases e : numB s.data.toList with
  | false => rfl
  | true =>
    have h2 := (numB_iff.1 e).1
    rw [hr] at h2
    have h3 := (digB_cons.1 h2).2 (by omega)
    rw [h3] at hr
    have e48 : s[0]'hp = 48 := (u8_lit (n := 48) (by decide)).2 h
    rw [e48] at hr
    exact absurd (str_is hr) h1
theorem numB_all {s : ByteArray} (hp : 0 < s.size) (h20 : s.size ≤ 20) (h : s = ⟨#[48]⟩ ∨ ¬ ((s[0]'hp).toNat : Int) = 48) (ha : ∀ b ∈ s.data.toList, isD b = true) : numB s.data.toList = true := by
  obtain ⟨r, hr⟩ := byte_zero hp
  refine numB_iff.2 ⟨?_, by rw [bytes_size]; exact h20⟩
  rw [hr] at ha ⊢
  refine digB_cons.2 ⟨ha, fun e => ?_⟩
  rcases h with h | h
  · subst h
    have : (⟨#[48]⟩ : ByteArray).data.toList = [48] := rfl
    rw [this] at hr
    cases hr
    rfl
  · exact absurd (by omega) h
theorem numB_bad {s : ByteArray} {k : Nat} (h : k < s.size) (hd : isD (s[k]'h) = false) : numB s.data.toList = false := by
  cases e : numB s.data.toList with
  | false => rfl
  | true =>
    have hm : s[k]'h ∈ s.data.toList := by
      have : s[k]'h ∈ s.data.toList.take (k + 1) := by rw [byte_at s k h]; simp
      exact List.mem_of_mem_take this
    rw [digB_all (numB_iff.1 e).1 _ hm] at hd
    cases hd
theorem ext_first {s : ByteArray} (hp : 0 < s.size) : s.extract 0 1 = strOf [s[0]'hp] := ext_one s 0 hp
set_option maxRecDepth 100000 in
set_option maxHeartbeats 2000000 in
theorem isNumber_any (s : ByteArray) (hs : s.size ≤ 100000) (w : World) :
    Calls Tryd.prog 42 #[.string s] w fun e w' => e = .returned (.bool (numB s.data.toList)) ∧ w = w' := by
  by_cases h0 : s.size = 0
  · have hl : s.data.toList = [] := List.eq_nil_of_length_eq_zero (by rw [bytes_size]; exact h0)
    obtain rfl : s = ⟨#[]⟩ := str_is hl
    clear h0 hs hl
    go_enter Tryd.func42, Tryd.ntmps42
    go_wp2
    go_ret
    exact ⟨rfl, rfl⟩
  · have hp : 0 < s.size := by omega
    have n0 : ¬ s.toList = [] := fun e => h0 (by rw [← bytes_size, ← toL, e]; rfl)
    have n0b := strEmpty n0
    by_cases h20 : (20 : Int) < (s.size : Int)
    · have hb : numB s.data.toList = false := numB_long (by rw [bytes_size]; omega)
      rw [hb]
      clear h0 hb
      go_enter Tryd.func42, Tryd.ntmps42
      go_wp2
      go_ret
      exact ⟨rfl, rfl⟩
    · have hD := fun b w => digit_any b w
      have g1 : (1 : Int) ≤ (s.size : Int) := by omega
      have hex := ext_first hp
      have htl : (strOf [s[0]'hp]).toList = [s[0]'hp] := by rw [toL, strOf_dat]
      by_cases hz : s = ⟨#[48]⟩ ∨ ¬ ((s[0]'hp).toNat : Int) = 48
      · have hall := fun h => numB_all hp (by omega) hz h
        have hbad := fun k (h : k < s.size) hd => numB_bad h hd
        obtain ⟨R, hR⟩ : ∃ R, R = numB s.data.toList := ⟨_, rfl⟩
        rw [← hR] at hall hbad ⊢
        have HALL := Lib.hid hall
        have HBAD := Lib.hid hbad
        have z1 : (s.toList == [48]) = true ∨ ((s.toList == [48]) = false ∧ ([s[0]'hp] == [48]) = false) := by
          by_cases hy : s = ⟨#[48]⟩
          · left; rw [hy, toL]; rfl
          · right
            refine ⟨?_, ?_⟩
            · rw [beq_eq_false_iff_ne]
              intro e
              exact hy (str_is (by rw [← toL, e]))
            · rw [beq_eq_false_iff_ne]
              intro e
              have e2 : s[0]'hp = 48 := by simpa using e
              exact (hz.resolve_left hy) ((u8_lit (n := 48) (by decide)).1 e2)
        clear hall hbad hR h0 hz
        rcases z1 with z1 | ⟨z1, z2⟩
        all_goals
          go_enter Tryd.func42, Tryd.ntmps42
          go_wp2
          go_loop [22] (fun i => ∃ k : Nat, k ≤ s.size ∧ i = .int .i64 (k : Int) ∧ Hid (∀ b ∈ s.data.toList.take k, isD b = true)) (fun i => s.size - (intOf i).toNat)
          case atStart => exact ⟨0, Nat.zero_le _, rfl, Lib.hid (by simp)⟩
          case round =>
            obtain ⟨k, hk, rfl, hA⟩ := hrel
            by_cases hlt : k < s.size
            · have hlt' : (k : Int) < (s.size : Int) := by omega
              have hDk := fun w => hD (s[k]'hlt) w
              have hiff := digV_isD (s[k]'hlt)
              have htk := byte_at s k hlt
              have hAo := hA.out
              have hnb := HBAD.out k hlt
              have hA2 : isD (s[k]'hlt) = true → Hid (∀ b ∈ s.data.toList.take (k + 1), isD b = true) := fun hp => Lib.hid (fun b hb => by
                rw [htk] at hb
                rcases List.mem_append.1 hb with hb | hb
                · exact hAo b hb
                · obtain rfl := List.mem_singleton.1 hb
                  exact hp)
              obtain ⟨v, hv⟩ : ∃ v, v = digV (s[k]'hlt) := ⟨_, rfl⟩
              obtain ⟨d, hd⟩ : ∃ d, d = isD (s[k]'hlt) := ⟨_, rfl⟩
              rw [← hv] at hDk hiff
              rw [← hd] at hiff hnb hA2
              clear hv hd htk hAo hA hD
              by_cases h9 : (9 : Int) < (v : Int)
              · have hdf : d = false := by
                  cases hd : d with
                  | false => rfl
                  | true => have := hiff.2 hd; omega
                have e1 := Lib.hid (hnb hdf)
                clear hiff hnb hA2 hdf
                go_wp2_with (go_at_call 58; refine (hDk _).mono ?_; rintro e w' ⟨rfl, rfl⟩)
                go_ret
                exact ⟨by rw [e1.out]; rfl, rfl⟩
              · have e1 := hA2 (hiff.1 (by omega))
                clear hiff hnb hA2
                go_wp2_with (go_at_call 58; refine (hDk _).mono ?_; rintro e w' ⟨rfl, rfl⟩)
                go_round
                case rel => exact ⟨k + 1, by omega, by go_num, e1⟩
                case measure => simp [intOf]; omega
            · have hlt' : ¬ (k : Int) < (s.size : Int) := by omega
              have hall : s.data.toList.take k = s.data.toList := List.take_of_length_le (by rw [bytes_size]; omega)
              rw [hall] at hA
              have e1 := Lib.hid (HALL.out hA.out)
              clear hA hall hD
              go_wp2
              go_ret
              exact ⟨by rw [e1.out]; rfl, rfl⟩
      · have h48 : ((s[0]'hp).toNat : Int) = 48 := Decidable.by_contra fun h => hz (.inr h)
        have hne : s ≠ ⟨#[48]⟩ := fun h => hz (.inl h)
        have hb := numB_head hp hne h48
        have z1 : (s.toList == [48]) = false := by
          rw [beq_eq_false_iff_ne]
          intro e
          exact hne (str_is (by rw [← toL, e]))
        have z2 : ([s[0]'hp] == [48]) = true := by rw [(u8_lit (n := 48) (by decide)).2 h48]; decide
        rw [hb]
        clear h0 hz h48 hne hb hD
        go_enter Tryd.func42, Tryd.ntmps42
        go_wp2
        go_ret
        exact ⟨rfl, rfl⟩
theorem nat_step (N v : Nat) (hN : N ≤ top) (hv : v ≤ 9) : ∃ E8 E2 T V : Int, IntKind.u64.wrap ((N : Int) * 8) = E8 ∧ IntKind.u64.wrap ((N : Int) * 2) = E2 ∧ IntKind.u64.wrap (E8 + E2) = T ∧ IntKind.u64.wrap (T + (v : Int)) = V ∧ 0 ≤ E8 ∧
    ((10 * N + v ≤ top ∧ E8 / 8 = (N : Int) ∧ ¬ T < E8 ∧ ¬ V < T ∧ V = ((10 * N + v : Nat) : Int)) ∨ (top < 10 * N + v ∧ (¬ E8 / 8 = (N : Int) ∨ (E8 / 8 = (N : Int) ∧ T < E8) ∨ (E8 / 8 = (N : Int) ∧ ¬ T < E8 ∧ V < T)))) := by
  have hw : ∀ x : Int, IntKind.u64.wrap x = x % 18446744073709551616 := fun x => rfl
  refine ⟨_, _, _, _, rfl, rfl, rfl, rfl, ?_⟩
  simp only [hw]
  unfold top at *
  refine ⟨by omega, ?_⟩
  by_cases hf : 10 * N + v ≤ 18446744073709551615
  · left
    have a1 : (N : Int) * 8 % 18446744073709551616 = (N : Int) * 8 := by omega
    have a2 : (N : Int) * 2 % 18446744073709551616 = (N : Int) * 2 := by omega
    have a3 : ((N : Int) * 8 + (N : Int) * 2) % 18446744073709551616 = (N : Int) * 10 := by omega
    have a4 : ((N : Int) * 10 + (v : Int)) % 18446744073709551616 = (N : Int) * 10 + (v : Int) := by omega
    rw [a1, a2, a3, a4]
    exact ⟨hf, by omega, by omega, by omega, by omega⟩
  · right
    refine ⟨by omega, ?_⟩
    by_cases h8 : (N : Int) * 8 < 18446744073709551616
    · have a1 : (N : Int) * 8 % 18446744073709551616 = (N : Int) * 8 := by omega
      have a2 : (N : Int) * 2 % 18446744073709551616 = (N : Int) * 2 := by omega
      rw [a1, a2]
      right
      by_cases h10 : (N : Int) * 10 < 18446744073709551616
      · have a3 : ((N : Int) * 8 + (N : Int) * 2) % 18446744073709551616 = (N : Int) * 10 := by omega
        have a4 : ((N : Int) * 10 + (v : Int)) % 18446744073709551616 = (N : Int) * 10 + (v : Int) - 18446744073709551616 := by omega
        rw [a3, a4]
        right
        exact ⟨by omega, by omega, by omega⟩
      · have a3 : ((N : Int) * 8 + (N : Int) * 2) % 18446744073709551616 = (N : Int) * 10 - 18446744073709551616 := by omega
        rw [a3]
        left
        exact ⟨by omega, by omega⟩
    · left
      omega
set_option maxRecDepth 100000 in
set_option maxHeartbeats 2000000 in
theorem natural_any (s : ByteArray) (hs : s.size ≤ 20) (ha : ∀ b ∈ s.data.toList, isD b = true) (w : World) :
    Calls Tryd.prog 43 #[.string s] w fun e w' => e = .returned (.tuple #[.int .u64 ((if decN 0 s.data.toList ≤ top then decN 0 s.data.toList else 0 : Nat) : Int), .bool (decide (decN 0 s.data.toList ≤ top))]) ∧ w = w' := by
  obtain ⟨X, hX⟩ : ∃ X : Nat × Bool, X = (if decN 0 s.data.toList ≤ top then decN 0 s.data.toList else 0, decide (decN 0 s.data.toList ≤ top)) := ⟨_, rfl⟩
  have e1 : (if decN 0 s.data.toList ≤ top then decN 0 s.data.toList else 0) = X.1 := by rw [hX]
  have e2 : decide (decN 0 s.data.toList ≤ top) = X.2 := by rw [hX]
  rw [e1, e2]
  have hbig : ∀ k, top < decN 0 (s.data.toList.take k) → X = (0, false) := fun k h => by
    have := decN_mono s.data.toList k
    rw [hX, if_neg (by omega), decide_eq_false (by omega)]
  have hfit : decN 0 s.data.toList ≤ top → X = (decN 0 s.data.toList, true) := fun h => by rw [hX, if_pos h, decide_eq_true h]
  have HBIG := Lib.hid hbig
  have HFIT := Lib.hid hfit
  have HA := Lib.hid ha
  clear hX e1 e2 hbig hfit ha
  go_enter Tryd.func43, Tryd.ntmps43
  go_wp2
  go_loop [4, 12] (fun n i => ∃ k N : Nat, k ≤ s.size ∧ i = .int .i64 (k : Int) ∧ n = .int .u64 (N : Int) ∧ Hid (N = decN 0 (s.data.toList.take k)) ∧ N ≤ top) (fun _ i => s.size - (intOf i).toNat)
  case atStart => exact ⟨0, 0, Nat.zero_le _, rfl, rfl, Lib.hid rfl, Nat.zero_le _⟩
  case round =>
    obtain ⟨k, N, hk, rfl, rfl, hNe, hN⟩ := hrel
    by_cases hlt : k < s.size
    · have hlt' : (k : Int) < (s.size : Int) := by omega
      have hD := fun w => digit_any (s[k]'hlt) w
      have hmem : s[k]'hlt ∈ s.data.toList := by
        have : s[k]'hlt ∈ s.data.toList.take (k + 1) := by rw [byte_at s k hlt]; simp
        exact List.mem_of_mem_take this
      have hdv := digV_val (HA.out _ hmem)
      have hkl : k < s.data.toList.length := by rw [bytes_size]; exact hlt
      have hnx : decN 0 (s.data.toList.take (k + 1)) = 10 * N + digV (s[k]'hlt) := by
        rw [decN_take _ _ hkl, ← hNe.out, hdv]
        rfl
      have h9 : digV (s[k]'hlt) ≤ 9 := (digV_isD _).2 (HA.out _ hmem)
      obtain ⟨v, hv⟩ : ∃ v, v = digV (s[k]'hlt) := ⟨_, rfl⟩
      rw [← hv] at hD hnx h9
      obtain ⟨E8, E2, T, V, w8, w2, wt, wv, p8, hc⟩ := nat_step N v hN h9
      have HNX := Lib.hid hnx
      clear hv hnx hmem hdv hkl hN hNe
      rcases hc with ⟨hfit, c1, c2, c3, c4⟩ | ⟨hbg, hc⟩
      · have b1 : (E8 / 8 != (N : Int)) = false := by rw [bne_eq_false_iff_eq]; exact c1
        have HV := Lib.hid c4
        have HF := Lib.hid hfit
        clear c1 c4 hfit
        go_wp2_with (go_at_call 58; refine (hD _).mono ?_; rintro e w' ⟨rfl, rfl⟩)
        go_round
        case rel => exact ⟨k + 1, 10 * N + v, by omega, by go_num, by rw [HV.out], Lib.hid HNX.out.symm, HF.out⟩
        case measure => simp [intOf]; omega
      · have hX := Lib.hid (HBIG.out (k + 1) (by rw [HNX.out]; exact hbg))
        rcases hc with c1 | ⟨c1, c2⟩ | ⟨c1, c2, c3⟩
        · have b1 : (E8 / 8 != (N : Int)) = true := by rw [bne_iff_ne]; exact c1
          clear c1 hbg
          go_wp2_with (go_at_call 58; refine (hD _).mono ?_; rintro e w' ⟨rfl, rfl⟩)
          go_ret2
          exact ⟨by rw [hX.out]; rfl, rfl⟩
        · have b1 : (E8 / 8 != (N : Int)) = false := by rw [bne_eq_false_iff_eq]; exact c1
          clear c1 hbg
          go_wp2_with (go_at_call 58; refine (hD _).mono ?_; rintro e w' ⟨rfl, rfl⟩)
          go_ret2
          exact ⟨by rw [hX.out]; rfl, rfl⟩
        · have b1 : (E8 / 8 != (N : Int)) = false := by rw [bne_eq_false_iff_eq]; exact c1
          clear c1 hbg
          go_wp2_with (go_at_call 58; refine (hD _).mono ?_; rintro e w' ⟨rfl, rfl⟩)
          go_ret2
          exact ⟨by rw [hX.out]; rfl, rfl⟩
    · have hlt' : ¬ (k : Int) < (s.size : Int) := by omega
      have hall : s.data.toList.take k = s.data.toList := List.take_of_length_le (by rw [bytes_size]; omega)
      rw [hall] at hNe
      have hX := Lib.hid (HFIT.out (by rw [← hNe.out]; exact hN))
      clear hall hN
      go_wp2
      go_ret2
      exact ⟨by rw [hX.out, ← hNe.out]; rfl, rfl⟩
end Go.Proofs.YtkmkhegekonbmaaDoor
