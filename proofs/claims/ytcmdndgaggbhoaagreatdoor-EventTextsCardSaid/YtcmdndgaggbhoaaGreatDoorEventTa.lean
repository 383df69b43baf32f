/- Walks: the document's own decimal numbers; where a byte stands. -/
import Derived.Test.YtcmdndgaggbhoaaGreatDoorEventTm
import Derived.Deep.LoopGhost
import Derived.WalkMore
import Derived.IntWalk
import Derived.Deep.QuietTactic
namespace Go.Proofs.YtcmdndgaggbhoaaGreatDoor.Ev
open Go.RowKit
open Lb Wr

def tenS : ByteArray := ⟨#[48, 49, 50, 51, 52, 53, 54, 55, 56, 57]⟩
theorem ten_cut (k : Nat) (h : k < 10) : tenS.extract k (k + 1) = strOf [UInt8.ofNat (48 + k)] := by
  have : ∀ i : Fin 10, tenS.extract i.val (i.val + 1) = strOf [UInt8.ofNat (48 + i.val)] := by decide +kernel
  exact this ⟨k, h⟩
set_option maxRecDepth 100000 in
set_option maxHeartbeats 1000000 in
theorem refDecimal3_any (u : Nat) : u < 18446744073709551616 → ∀ w, Calls Tryz.prog 47 #[.int .u64 (u : Int)] w fun e w' => e = .returned (.string (strOf (Lib.decDigits u))) ∧ ∃ m, w' = w.drewN m := by
  induction u using Nat.strongRecOn with
  | ind u ih =>
    intro hu w
    by_cases h1 : u < 10
    · rw [dec_one h1, ← ten_cut u h1]
      have c1 : (u : Int) < 10 := by omega
      have c2 : (0 : Int) ≤ (u : Int) := by omega
      have c3 : IntKind.u64.wrap ((u : Int) + 1) = (u : Int) + 1 := IntWalk.u64_in _ ⟨by omega, by omega⟩
      have c4 : (u : Int) ≤ (u : Int) + 1 := by omega
      have c5 : (u : Int) + 1 ≤ 10 := by omega
      have c6 : ((u : Int) + 1).toNat = u + 1 := by omega
      have hT : tenS.size = 10 := rfl
      unfold tenS
      clear ih hu h1
      go_enter Tryz.func47, Tryz.ntmps47
      go_wp2
      go_ret
      exact ⟨rfl, 0, rfl⟩
    · have hq := dec_size (u / 10) (by omega)
      have hc := ih (u / 10) (by omega) (by omega)
      have hsum : ∀ w, (Op.stringOp .add (strOf (Lib.decDigits (u / 10))) (tenS.extract (u % 10) (u % 10 + 1))).run Tryz.prog w = .ok (.string (strOf (Lib.decDigits u))) w := fun w => by
        have e : strOf (Lib.decDigits u) = strOf (Lib.decDigits (u / 10)) ++ tenS.extract (u % 10) (u % 10 + 1) := by rw [ten_cut _ (by omega), dec_more h1, strOf_append]
        rw [e]
        exact run_string_add_sum w _ _ (by rw [ten_cut _ (by omega)]; have e1 : (strOf [UInt8.ofNat (48 + u % 10)]).size = 1 := rfl; omega)
      obtain ⟨D, hD⟩ : ∃ D, D = strOf (Lib.decDigits (u / 10)) := ⟨_, rfl⟩
      obtain ⟨R, hR⟩ : ∃ D, D = strOf (Lib.decDigits u) := ⟨_, rfl⟩
      rw [← hD] at hc hsum
      rw [← hR] at hsum ⊢
      clear hD hR
      obtain ⟨q, hqe⟩ : ∃ q : Int, q = ((u / 10 : Nat) : Int) := ⟨_, rfl⟩
      obtain ⟨r, hre⟩ : ∃ r : Nat, r = u % 10 := ⟨_, rfl⟩
      rw [← hqe] at hc
      rw [← hre] at hsum
      have c0 : ¬ (u : Int) < 10 := by omega
      have c1 : (u : Int) / 10 = q := by omega
      have c1w : IntKind.u64.wrap q = q := IntWalk.u64_in _ ⟨by omega, by omega⟩
      have c2 : (u : Int) % 10 = (r : Int) := by omega
      have c3 : IntKind.u64.wrap ((r : Int) + 1) = (r : Int) + 1 := IntWalk.u64_in _ ⟨by omega, by omega⟩
      have c4 : (0 : Int) ≤ (r : Int) := by omega
      have c5 : (r : Int) ≤ (r : Int) + 1 := by omega
      have c6 : (r : Int) + 1 ≤ 10 := by omega
      have c7 : ((r : Int) + 1).toNat = r + 1 := by omega
      have c8 : IntKind.u64.wrap (r : Int) = (r : Int) := IntWalk.u64_in _ ⟨by omega, by omega⟩
      unfold tenS at hsum
      clear ih hq h1 hqe hre hu
      go_enter Tryz.func47, Tryz.ntmps47
      go_wp2_with fail
      go_quiet ((go_at_call 47; with_reducible exact Calls.quiet_of (hc _)))
      go_wp2
      go_ret
      exact ⟨rfl, _, rfl⟩
set_option maxRecDepth 100000 in
set_option maxHeartbeats 1000000 in
theorem refSigned_any (v : Int) (h0 : -9223372036854775808 ≤ v) (h1 : v ≤ 9223372036854775807) (w : World) :
    Calls Tryz.prog 42 #[.int .i64 v] w fun e w' => e = .returned (.string (strOf (Lib.itoa v))) ∧ ∃ m, w' = w.drewN m := by
  by_cases hv : v < 0
  · have hD := refDecimal3_any v.natAbs (by omega)
    have hz := dec_size v.natAbs (by omega)
    rw [itoa_neg hv]
    have hsum : ∀ w, (Op.stringOp .add ⟨#[45]⟩ (strOf (Lib.decDigits v.natAbs))).run Tryz.prog w = .ok (.string (strOf (45 :: Lib.decDigits v.natAbs))) w := fun w => by
      have e : strOf (45 :: Lib.decDigits v.natAbs) = (⟨#[45]⟩ : ByteArray) ++ strOf (Lib.decDigits v.natAbs) := by
        show _ = strOf [45] ++ _
        rw [strOf_append]
        rfl
      rw [e]
      exact run_string_add_sum w _ _ (by show 1 + _ ≤ _; omega)
    obtain ⟨D, hDe⟩ : ∃ D, D = strOf (Lib.decDigits v.natAbs) := ⟨_, rfl⟩
    obtain ⟨R, hR⟩ : ∃ D, D = strOf (45 :: Lib.decDigits v.natAbs) := ⟨_, rfl⟩
    rw [← hDe] at hD hsum
    rw [← hR] at hsum ⊢
    obtain ⟨a, ha⟩ : ∃ a : Int, a = (v.natAbs : Int) := ⟨_, rfl⟩
    rw [← ha] at hD
    obtain ⟨p, hp⟩ : ∃ p, p = v + 1 := ⟨_, rfl⟩
    obtain ⟨q, hq⟩ : ∃ q, q = -p := ⟨_, rfl⟩
    have c1 : IntKind.i64.wrap (v + 1) = p := by rw [IntWalk.i64_in _ ⟨by omega, by omega⟩, hp]
    have c2 : IntKind.i64.wrap (-p) = q := by rw [IntWalk.i64_in _ ⟨by omega, by omega⟩, hq]
    have c3 : IntKind.u64.wrap q = q := IntWalk.u64_in _ ⟨by omega, by omega⟩
    have c4 : IntKind.u64.wrap (q + 1) = a := by rw [IntWalk.u64_in _ ⟨by omega, by omega⟩]; omega
    clear hDe hR ha hp hq hz h0 h1
    go_enter Tryz.func42, Tryz.ntmps42
    go_wp2_with fail
    refine (hD _).mono ?_
    rintro e w1 ⟨rfl, m, rfl⟩
    go_wp2
    go_ret
    exact ⟨rfl, _, rfl⟩
  · have hD := refDecimal3_any v.toNat (by omega)
    rw [itoa_pos (by omega)]
    have e : (v.toNat : Int) = v := by omega
    rw [e] at hD
    obtain ⟨R, hR⟩ : ∃ D, D = strOf (Lib.decDigits v.toNat) := ⟨_, rfl⟩
    rw [← hR] at hD ⊢
    have c3 : IntKind.u64.wrap v = v := IntWalk.u64_in _ ⟨by omega, by omega⟩
    clear hR e h0 h1
    go_enter Tryz.func42, Tryz.ntmps42
    go_wp2_with fail
    refine (hD _).mono ?_
    rintro e w1 ⟨rfl, m, rfl⟩
    go_wp2
    go_ret
    exact ⟨rfl, _, rfl⟩
theorem cutA_get {l : List UInt8} {c : UInt8} {k : Nat} (h : k < (cutA l c).length) : ∃ b, l[k]? = some b ∧ b ≠ c := by
  have e : l[k]? = (cutA l c)[k]? := by
    have := List.takeWhile_append_dropWhile (p := (· != c)) (l := l)
    conv => lhs; rw [← this]
    exact List.getElem?_append_left h
  rw [List.getElem?_eq_getElem h] at e
  have hmem := List.getElem_mem h
  exact ⟨_, e, fun hb => cutA_no l c (by rw [hb] at hmem; exact hmem)⟩
theorem cutA_end {l : List UInt8} {c : UInt8} (h : (cutA l c).length < l.length) : l[(cutA l c).length]? = some c := by
  by_cases hm : c ∈ l
  · have e := (index_some hm).2
    have e2 : (cutA l c ++ c :: cutR l c)[(cutA l c).length]? = some c := by
      rw [List.getElem?_append_right (Nat.le_refl _)]
      simp
    rw [← e] at e2
    exact e2
  · rw [(index_none hm).2.1] at h
    omega
theorem byte_get (s : ByteArray) (k : Nat) (h : k < s.size) : s.data.toList[k]? = some (s[k]'h) := by
  rw [List.getElem?_eq_getElem (by rw [bytes_size]; exact h)]
  simp [ByteArray.getElem_eq_getElem_data]
set_option maxRecDepth 100000 in
theorem refFind_any (s : ByteArray) (c : UInt8) (w : World) (hs : s.size ≤ 100000) :
    Calls Tryz.prog 43 #[.string s, .int .u8 (c.toNat : Int)] w fun e w' => e = .returned (.int .i64 ((cutA s.data.toList c).length : Int)) ∧ w = w' := by
  have hlen : (cutA s.data.toList c).length ≤ s.size := by
    have := (cut_len s.data.toList c).1
    rw [bytes_size] at this
    exact this
  obtain ⟨n, hn⟩ : ∃ n, n = (cutA s.data.toList c).length := ⟨_, rfl⟩
  have hat : ∀ k, k < n → ∀ h : k < s.size, ¬ ((s[k]'h).toNat : Int) = (c.toNat : Int) := fun k hk h e => by
    obtain ⟨b, h1, h2⟩ := cutA_get (l := s.data.toList) (c := c) (k := k) (by omega)
    rw [byte_get s k h] at h1
    obtain rfl := Option.some.inj h1
    exact h2 (UInt8.toNat_inj.1 (by omega))
  have hend : ∀ h : n < s.size, ((s[n]'h).toNat : Int) = (c.toNat : Int) := fun h => by
    have h1 := cutA_end (l := s.data.toList) (c := c) (by rw [bytes_size]; omega)
    rw [← hn, byte_get s n h] at h1
    rw [Option.some.inj h1]
  rw [← hn] at hlen ⊢
  clear hn
  have HA := Lib.hid hat
  have HE := Lib.hid hend
  clear hat hend
  obtain ⟨d, hd⟩ : ∃ d : Int, d = (c.toNat : Int) := ⟨_, rfl⟩
  rw [← hd] at HA HE ⊢
  clear hd
  go_enter Tryz.func43, Tryz.ntmps43
  go_wp2
  go_loop [5] (fun i => ∃ k : Nat, k ≤ n ∧ i = .int .i64 (k : Int)) (fun i => n - (intOf i).toNat)
  case atStart => exact ⟨0, by omega, rfl⟩
  case round =>
    obtain ⟨k, hk, rfl⟩ := hrel
    by_cases hlt : k < s.size
    · by_cases hkn : k < n
      · have hne := HA.out k hkn hlt
        go_wp2
        go_round
        case rel => exact ⟨k + 1, by omega, by go_num⟩
        case measure => simp [intOf]; omega
      · obtain rfl : k = n := by omega
        have hne := HE.out hlt
        go_wp2
        go_ret
        exact ⟨rfl, rfl⟩
    · obtain rfl : k = n := by omega
      have e : (k : Int) = (s.size : Int) := by omega
      rw [e]
      have hlt' : ¬ (s.size : Int) < (s.size : Int) := by omega
      go_wp2
      go_ret
      exact ⟨rfl, rfl⟩
/-- What value answers: a number, and whether the string is its digits. -/
def ValOut (s : ByteArray) (w : World) (e : Ending) (w' : World) : Prop :=
  ∃ (n : Nat) (b : Bool), e = .returned (.tuple #[.int .u64 (n : Int), .bool b]) ∧ n < 18446744073709551616 ∧ (b = true → s.data.toList = Lib.decDigits n) ∧
    (b = false → ∀ u, u < 18446744073709551616 → s.data.toList ≠ Lib.decDigits u) ∧ ∃ m, w' = w.drewN m
theorem ValOut.of {s : ByteArray} {w : World} {e : Ending} {w' : World} (n : Nat) (b : Bool) (h1 : e = .returned (.tuple #[.int .u64 (n : Int), .bool b])) (h2 : n < 18446744073709551616) (h3 : b = true → s.data.toList = Lib.decDigits n)
    (h4 : b = false → ∀ u, u < 18446744073709551616 → s.data.toList ≠ Lib.decDigits u) (h5 : ∃ m, w' = w.drewN m) : ValOut s w e w' := ⟨n, b, h1, h2, h3, h4, h5⟩
set_option maxRecDepth 100000 in
set_option maxHeartbeats 2000000 in
theorem refValue_any (s : ByteArray) (w : World) (hs : s.size ≤ 100000) : Calls Tryz.prog 46 #[.string s] w (ValOut s w) := by
  go_enter Tryz.func46, Tryz.ntmps46
  go_wp2
  go_loop [4, 5] (fun n i => ∃ k : Nat, k ≤ s.size ∧ k ≤ 20 ∧ i = .int .i64 (k : Int) ∧ n = .int .u64 (decN 0 (s.data.toList.take k) : Int) ∧ decN 0 (s.data.toList.take k) < 18446744073709551616 ∧ ∀ j b, j < k → s.data.toList[j]? = some b → isD b = true) (fun _ i => s.size - (intOf i).toNat)
  case atStart => exact ⟨0, by omega, by omega, rfl, rfl, (by show (0 : Nat) < _; decide), fun _ _ h => by omega⟩
  case round =>
    obtain ⟨k, hk, hk20, rfl, rfl, hN, hd⟩ := hrel
    have HD := Lib.hid hd
    clear hd
    by_cases hlt : k < s.size
    · have hb := byte_get s k hlt
      have HB := Lib.hid hb
      obtain ⟨x, hx⟩ : ∃ x : Nat, x = (s[k]'hlt).toNat := ⟨_, rfl⟩
      have hxI : ((s[k]'hlt).toNat : Int) = (x : Int) := by rw [hx]
      have hx256 : x < 256 := by rw [hx]; exact (s[k]'hlt).toNat_lt
      have htk : decN 0 (s.data.toList.take (k + 1)) = 10 * decN 0 (s.data.toList.take k) + (x - 48) := by
        rw [List.take_add_one, hb, Option.toList_some, decN_snoc, hx]
      have HT := Lib.hid htk
      have HX := Lib.hid hx
      clear hx htk hb
      by_cases h48 : x < 48
      · have c1 : (x : Int) < 48 := by omega
        go_wp2
        go_returns
        exact ValOut.of 0 false rfl (by decide) (fun h => by cases h) (fun _ u _ => dec_not_digit HB.out (by unfold isD; rw [← HX.out]; simp; omega) u) ⟨0, rfl⟩
      · have c1 : ¬ (x : Int) < 48 := by omega
        by_cases h57 : 57 < x
        · have c2 : (57 : Int) < (x : Int) := by omega
          go_wp2
          go_returns
          exact ValOut.of 0 false rfl (by decide) (fun h => by cases h) (fun _ u _ => dec_not_digit HB.out (by unfold isD; rw [← HX.out]; simp; omega) u) ⟨0, rfl⟩
        · have c2 : ¬ (57 : Int) < (x : Int) := by omega
          by_cases h20 : 19 < k
          · have c3 : (19 : Int) < (k : Int) := by omega
            go_wp2
            go_returns
            exact ValOut.of 0 false rfl (by decide) (fun h => by cases h) (fun _ u hu => dec_not_long (by rw [bytes_size]; omega) hu) ⟨0, rfl⟩
          · have c3 : ¬ (19 : Int) < (k : Int) := by omega
            obtain ⟨N, hNe⟩ : ∃ N, N = decN 0 (s.data.toList.take k) := ⟨_, rfl⟩
            rw [← hNe] at hN HT ⊢
            obtain ⟨d, hde⟩ : ∃ d : Nat, d = x - 48 := ⟨_, rfl⟩
            have c4 : IntKind.u8.wrap ((x : Int) - 48) = (d : Int) := by rw [IntWalk.u8_in _ ⟨by omega, by omega⟩]; omega
            have c5 : IntKind.u64.wrap (d : Int) = (d : Int) := IntWalk.u64_in _ ⟨by omega, by omega⟩
            obtain ⟨m, hm⟩ : ∃ m : Int, m = 18446744073709551615 - (d : Int) := ⟨_, rfl⟩
            have c6 : IntKind.u64.wrap (18446744073709551615 - (d : Int)) = m := by rw [IntWalk.u64_in _ ⟨by omega, by omega⟩, hm]
            have c6b : 0 ≤ m := by omega
            have c6c : m ≤ 18446744073709551615 := by omega
            obtain ⟨q, hq⟩ : ∃ q : Int, q = m / 10 := ⟨_, rfl⟩
            have c7 : m / 10 = q := hq.symm
            have c8 : IntKind.u64.wrap q = q := IntWalk.u64_in _ ⟨by omega, by omega⟩
            have HDe := Lib.hid hde
            have HNe := Lib.hid hNe
            by_cases hov : (N : Int) ≤ q
            · have c9 : ¬ q < (N : Int) := by omega
              have hsm : 10 * N + d < 18446744073709551616 := by omega
              have c10 : IntKind.u64.wrap (10 * (N : Int)) = 10 * (N : Int) := IntWalk.u64_in _ ⟨by omega, by omega⟩
              have c11 : IntKind.u64.wrap (10 * (N : Int) + (d : Int)) = 10 * (N : Int) + (d : Int) := IntWalk.u64_in _ ⟨by omega, by omega⟩
              clear hde hNe hm hq
              go_wp2
              go_round
              case rel =>
                have e : decN 0 (s.data.toList.take (k + 1)) = 10 * N + d := by rw [HT.out, HDe.out]
                refine ⟨k + 1, by omega, by omega, by go_num, by rw [e]; simp, by rw [e]; exact hsm, fun j b hj hjb => ?_⟩
                by_cases hjk : j < k
                · exact HD.out j b hjk hjb
                · obtain rfl : j = k := by omega
                  rw [HB.out] at hjb
                  obtain rfl := Option.some.inj hjb
                  exact isD_iff.2 (by rw [← HX.out]; omega)
              case measure => simp [intOf]; omega
            · have c9 : q < (N : Int) := by omega
              have hgr : 18446744073709551616 ≤ 10 * N + d := by omega
              clear hde hNe hm hq
              go_wp2
              go_returns
              exact ValOut.of 0 false rfl (by decide) (fun h => by cases h) (fun _ u hu => dec_not_great (k := k + 1) (by rw [HT.out, ← HDe.out]; exact hgr) hu) ⟨0, rfl⟩
    · obtain rfl : k = s.size := by omega
      have htake : s.data.toList.take s.size = s.data.toList := List.take_of_length_le (by rw [bytes_size]; omega)
      rw [htake] at hN ⊢
      obtain ⟨N, hNe⟩ : ∃ N, N = decN 0 s.data.toList := ⟨_, rfl⟩
      rw [← hNe] at hN ⊢
      have HNe := Lib.hid hNe
      clear hNe
      have hD := refDecimal3_any N hN
      obtain ⟨D, hDe⟩ : ∃ D, D = strOf (Lib.decDigits N) := ⟨_, rfl⟩
      rw [← hDe] at hD
      have HDe := Lib.hid hDe
      clear hDe
      by_cases h0 : 0 < s.size
      · have c1 : (0 : Int) < (s.size : Int) := by omega
        by_cases he : D = s
        · have hq := toList_eq he
          go_wp2_with fail
          refine (hD _).mono ?_
          rintro e w1 ⟨rfl, m, rfl⟩
          go_wp2
          go_returns
          exact ValOut.of N true rfl hN (fun _ => (strOf_eta _ _).1 (by rw [← he, HDe.out])) (fun h => by cases h) ⟨m, rfl⟩
        · have hq := str_ne he
          go_wp2_with fail
          refine (hD _).mono ?_
          rintro e w1 ⟨rfl, m, rfl⟩
          go_wp2
          go_returns
          refine ValOut.of N false rfl hN (fun h => by cases h) (fun _ u hu e => he ?_) ⟨m, rfl⟩
          have : N = u := by rw [HNe.out, e, dec_val]
          rw [HDe.out, this, ← e, strOf_same]
      · have c1 : ¬ (0 : Int) < (s.size : Int) := by omega
        have hz : s.data.toList = [] := List.eq_nil_of_length_eq_zero (by rw [bytes_size]; omega)
        go_wp2
        go_returns
        exact ValOut.of N false rfl hN (fun h => by cases h) (fun _ u _ e => dec_ne u (by rw [← e, hz])) ⟨0, rfl⟩
end Go.Proofs.YtcmdndgaggbhoaaGreatDoor.Ev
