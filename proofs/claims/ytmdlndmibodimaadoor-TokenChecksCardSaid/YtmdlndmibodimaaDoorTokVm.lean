/- Walk: the document's own value of a number. -/
import Derived.Test.YtmdlndmibodimaaDoorTokVl
namespace Go.Proofs.YtmdlndmibodimaaDoor
open Go.RowKit
open Tk7

theorem neg_wrap (n : Nat) (h : n ≤ 9223372036854775808) : IntKind.i64.wrap (-(IntKind.i64.wrap (n : Int))) = -(n : Int) := by
  rcases Nat.lt_or_ge n 9223372036854775808 with h1 | h1
  · rw [IntWalk.i64_in (n : Int) ⟨by omega, by omega⟩, IntWalk.i64_in _ ⟨by omega, by omega⟩]
  · obtain rfl : n = 9223372036854775808 := by omega
    decide
set_option maxRecDepth 100000 in
set_option maxHeartbeats 4000000 in
theorem rvalue_dig (l : List UInt8) (h0 : 0 < l.length) (hl : l.length ≤ 1000000) (hm : Sm.minB l = false) (hd : ∀ b ∈ Sm.restL l, digB b = true) (w : World) :
    Calls Tryd.prog 42 #[.string (strOf l)] w fun e w' => e = .returned (.tuple #[.int .i64 (valR l).1, .bool (valR l).2]) ∧ w = w' := by
  have hsz : (strOf l).size = l.length := strOf_size l
  have q0 : 0 < (strOf l).size := by omega
  have hx0 : ((strOf l)[0]'q0) = l[0]'h0 := rfl
  have hm45 : Sm.minB l = true ↔ l[0]'h0 = 45 := by
    cases l with
    | nil => cases h0
    | cons b l => simp [Sm.minB]
  obtain ⟨c, hc⟩ : ∃ c : Int, ((((strOf l)[0]'q0).toNat : Nat) : Int) = c := ⟨_, rfl⟩
  have hc45 : (c == 45) = false := by
    have h1 := u8_is (b := l[0]'h0) (n := 45) (by decide)
    rw [← hc, hx0]
    rw [beq_eq_false_iff_ne]; intro e; have := hm45.2 (h1.2 e); rw [hm] at this; cases this
  have g1 : (0 : Int) < (l.length : Int) := by omega
  have hrest : Sm.restL l = l := by unfold Sm.restL; rw [hm]; rfl
  have hV : valR l = if 9223372036854775808 < Sm.decN 0 (Sm.restL l) then (0, false) else (IntKind.i64.wrap (Sm.decN 0 (Sm.restL l) : Int), decide (Sm.decN 0 (Sm.restL l) < 9223372036854775808)) := by unfold valR; rw [hm]; rfl
  rw [hrest] at hV hd
  have hrs : (strOf l).size = l.length := strOf_size l
  have g2 : (1 : Int) ≤ (l.length : Int) := by omega
  have HV := Lib.hid hV
  have HD := Lib.hid hd
  clear hx0 hm hm45 hrest hV hd
  go_enter Tryd.func42, Tryd.ntmps42
  go_wp2
  go_loopg [5, 6] l.length (fun g xv iv wr => ∃ (j n : Nat), j ≤ l.length ∧ g = l.length - j ∧ xv = .int .u64 (n : Int) ∧ iv = .int .i64 (j : Int) ∧ w = wr ∧ n ≤ 9223372036854775808 ∧ Hid (n = Sm.decN 0 (l.take j)))
  case atStart => exact ⟨0, 0, by omega, rfl, rfl, rfl, by first | rfl | trivial, by omega, Lib.hid rfl⟩
  case round =>
    obtain ⟨j, n, hj, hg, rfl, rfl, rfl, hn, hN⟩ := hrel
    have k1 : (0 : Int) ≤ (j : Int) := by omega
    by_cases hz : j < l.length
    · have k2 : (j : Int) < (l.length : Int) := by omega
      have qj : j < (strOf l).size := by rw [hrs]; exact hz
      have hb := (digB_iff (b := l[j]'hz)).1 (HD.out _ (List.getElem_mem hz))
      have hxj : ((strOf l)[j]'qj) = l[j]'hz := rfl
      have hdt := dec_take l j hz
      have hmo := dec_mono l (j + 1)
      rw [← hN.out] at hdt
      obtain ⟨x, hx⟩ : ∃ x : Int, ((((strOf l)[j]'qj).toNat : Nat) : Int) = x := ⟨_, rfl⟩
      obtain ⟨d, hd⟩ : ∃ d : Nat, d = (l[j]'hz).toNat - 48 := ⟨_, rfl⟩
      have hxd : x = (d : Int) + 48 := by rw [← hx, hxj]; omega
      rw [← hd] at hdt
      have hd9 : d ≤ 9 := by omega
      have w1 : IntKind.u8.wrap (x - 48) = (d : Int) := by rw [hxd, IntKind.wrap_u8]; omega
      have w2 : IntKind.u64.wrap (d : Int) = (d : Int) := by rw [IntKind.wrap_u64]; omega
      obtain ⟨q, hq⟩ : ∃ q : Nat, q = (9223372036854775808 - d) / 10 := ⟨_, rfl⟩
      have w3 : IntKind.u64.wrap (9223372036854775808 - (d : Int)) = ((9223372036854775808 - d : Nat) : Int) := by rw [IntKind.wrap_u64]; omega
      have w4 : IntKind.u64.wrap (Int.tdiv ((9223372036854775808 - d : Nat) : Int) 10) = (q : Int) := by rw [Int.tdiv_eq_ediv_of_nonneg (by omega), IntKind.wrap_u64]; omega
      obtain ⟨y, hy⟩ : ∃ y : Int, y = ((9223372036854775808 - d : Nat) : Int) := ⟨_, rfl⟩
      rw [← hy] at w3 w4
      have hwi : IntKind.i64.wrap ((j : Int) + 1) = (j : Int) + 1 := IntWalk.i64_in _ ⟨by omega, by omega⟩
      by_cases hov : q < n
      · have k3 : (q : Int) < (n : Int) := by omega
        have e1 := Lib.hid (show valR l = (0, false) by rw [HV.out, if_pos (by omega)])
        clear hxj hdt hmo hd hxd hq hy hb
        go_wp2
        exact bodyPost_ret (v := .tuple #[.int .i64 0, .bool false]) (by simp [results, Tryd.results42, go_sem]; try rfl) rfl ⟨by rw [e1.out], by first | rfl | trivial⟩
      · have k3 : ¬ (q : Int) < (n : Int) := by omega
        have w5 : IntKind.u64.wrap (10 * (n : Int)) = ((10 * n : Nat) : Int) := by rw [IntKind.wrap_u64]; omega
        have w6 : IntKind.u64.wrap (((10 * n : Nat) : Int) + (d : Int)) = ((10 * n + d : Nat) : Int) := by rw [IntKind.wrap_u64]; omega
        have hn2 : 10 * n + d ≤ 9223372036854775808 := by omega
        have hN2 := Lib.hid hdt.symm
        obtain ⟨z, hz1⟩ : ∃ z : Int, z = ((10 * n : Nat) : Int) := ⟨_, rfl⟩
        rw [← hz1] at w5 w6
        obtain ⟨n2, hz2⟩ : ∃ n2 : Nat, n2 = 10 * n + d := ⟨_, rfl⟩
        rw [← hz2] at w6 hn2 hN2
        clear hxj hdt hmo hd hxd hq hy hb hz1 hz2 hN
        go_wp2
        go_roundg (l.length - (j + 1))
        case rel => exact ⟨j + 1, n2, by omega, rfl, rfl, by go_num, by first | rfl | trivial, hn2, hN2⟩
        case measure => omega
    · have k2 : ¬ (j : Int) < (l.length : Int) := by omega
      have hjr : l.take j = l := List.take_of_length_le (by omega)
      have hN2 : n = Sm.decN 0 l := by rw [hN.out, hjr]
      have e1 := Lib.hid (show valR l = (IntKind.i64.wrap (n : Int), decide (n < 9223372036854775808)) by rw [HV.out, ← hN2, if_neg (by omega)])
      obtain ⟨y, hy⟩ : ∃ y : Int, y = IntKind.i64.wrap (n : Int) := ⟨_, rfl⟩
      have w1 : IntKind.i64.wrap (n : Int) = y := hy.symm
      rw [← hy] at e1
      obtain ⟨p, hp⟩ : ∃ p : Bool, p = decide (n < 9223372036854775808) := ⟨_, rfl⟩
      have p1 : decide ((n : Int) < 9223372036854775808) = p := by rw [hp]; simp only [decide_eq_decide]; omega
      rw [← hp] at e1
      have p2 : decide (n < 9223372036854775808) = p := hp.symm
      clear hN hN2 hjr hy hp
      go_wp2
      exact bodyPost_ret (v := .tuple #[.int .i64 y, .bool p]) (by simp [results, Tryd.results42, go_sem]; try rfl) rfl ⟨by rw [e1.out], by first | rfl | trivial⟩
set_option maxRecDepth 100000 in
set_option maxHeartbeats 4000000 in
theorem rvalue_min (l : List UInt8) (h0 : 0 < l.length) (hl : l.length ≤ 1000000) (hm : Sm.minB l = true) (hd : ∀ b ∈ Sm.restL l, digB b = true) (w : World) :
    Calls Tryd.prog 42 #[.string (strOf l)] w fun e w' => e = .returned (.tuple #[.int .i64 (valR l).1, .bool (valR l).2]) ∧ w = w' := by
  have hsz : (strOf l).size = l.length := strOf_size l
  have q0 : 0 < (strOf l).size := by omega
  have hx0 : ((strOf l)[0]'q0) = l[0]'h0 := rfl
  have hm45 : Sm.minB l = true ↔ l[0]'h0 = 45 := by
    cases l with
    | nil => cases h0
    | cons b r => simp [Sm.minB]
  obtain ⟨c, hc⟩ : ∃ c : Int, ((((strOf l)[0]'q0).toNat : Nat) : Int) = c := ⟨_, rfl⟩
  have hc45 : (c == 45) = true := by
    have h1 := u8_is (b := l[0]'h0) (n := 45) (by decide)
    rw [← hc, hx0]
    rw [beq_iff_eq]; exact h1.1 (hm45.1 hm)
  have g1 : (0 : Int) < (l.length : Int) := by omega
  have hrest : Sm.restL l = l.drop 1 := by unfold Sm.restL; rw [hm]; cases l <;> rfl
  have hV : valR l = if 9223372036854775808 < Sm.decN 0 (Sm.restL l) then (0, false) else (-(Sm.decN 0 (Sm.restL l) : Int), true) := by unfold valR; rw [hm]; rfl
  obtain ⟨r, hr⟩ : ∃ r, r = Sm.restL l := ⟨_, rfl⟩
  rw [← hr] at hV hd hrest
  have hrl : r.length = l.length - 1 := by rw [hrest]; exact List.length_drop
  have hex : (strOf l).extract 1 l.length = strOf r := by rw [hrest]; exact ext_from l 1
  have hrs : (strOf r).size = r.length := strOf_size r
  have g2 : (1 : Int) ≤ (l.length : Int) := by omega
  have HV := Lib.hid hV
  have HD := Lib.hid hd
  clear hx0 hm hm45 hr hrest hV hd
  go_enter Tryd.func42, Tryd.ntmps42
  go_wp2
  go_loopg [5, 6] r.length (fun g xv iv wr => ∃ (j n : Nat), j ≤ r.length ∧ g = r.length - j ∧ xv = .int .u64 (n : Int) ∧ iv = .int .i64 (j : Int) ∧ w = wr ∧ n ≤ 9223372036854775808 ∧ Hid (n = Sm.decN 0 (r.take j)))
  case atStart => exact ⟨0, 0, by omega, rfl, rfl, rfl, by first | rfl | trivial, by omega, Lib.hid rfl⟩
  case round =>
    obtain ⟨j, n, hj, hg, rfl, rfl, rfl, hn, hN⟩ := hrel
    have k1 : (0 : Int) ≤ (j : Int) := by omega
    by_cases hz : j < r.length
    · have k2 : (j : Int) < (r.length : Int) := by omega
      have qj : j < (strOf r).size := by rw [hrs]; exact hz
      have hb := (digB_iff (b := r[j]'hz)).1 (HD.out _ (List.getElem_mem hz))
      have hxj : ((strOf r)[j]'qj) = r[j]'hz := rfl
      have hdt := dec_take r j hz
      have hmo := dec_mono r (j + 1)
      rw [← hN.out] at hdt
      obtain ⟨x, hx⟩ : ∃ x : Int, ((((strOf r)[j]'qj).toNat : Nat) : Int) = x := ⟨_, rfl⟩
      obtain ⟨d, hd⟩ : ∃ d : Nat, d = (r[j]'hz).toNat - 48 := ⟨_, rfl⟩
      have hxd : x = (d : Int) + 48 := by rw [← hx, hxj]; omega
      rw [← hd] at hdt
      have hd9 : d ≤ 9 := by omega
      have w1 : IntKind.u8.wrap (x - 48) = (d : Int) := by rw [hxd, IntKind.wrap_u8]; omega
      have w2 : IntKind.u64.wrap (d : Int) = (d : Int) := by rw [IntKind.wrap_u64]; omega
      obtain ⟨q, hq⟩ : ∃ q : Nat, q = (9223372036854775808 - d) / 10 := ⟨_, rfl⟩
      have w3 : IntKind.u64.wrap (9223372036854775808 - (d : Int)) = ((9223372036854775808 - d : Nat) : Int) := by rw [IntKind.wrap_u64]; omega
      have w4 : IntKind.u64.wrap (Int.tdiv ((9223372036854775808 - d : Nat) : Int) 10) = (q : Int) := by rw [Int.tdiv_eq_ediv_of_nonneg (by omega), IntKind.wrap_u64]; omega
      obtain ⟨y, hy⟩ : ∃ y : Int, y = ((9223372036854775808 - d : Nat) : Int) := ⟨_, rfl⟩
      rw [← hy] at w3 w4
      have hwi : IntKind.i64.wrap ((j : Int) + 1) = (j : Int) + 1 := IntWalk.i64_in _ ⟨by omega, by omega⟩
      by_cases hov : q < n
      · have k3 : (q : Int) < (n : Int) := by omega
        have e1 := Lib.hid (show valR l = (0, false) by rw [HV.out, if_pos (by omega)])
        clear hxj hdt hmo hd hxd hq hy hb
        go_wp2
        exact bodyPost_ret (v := .tuple #[.int .i64 0, .bool false]) (by simp [results, Tryd.results42, go_sem]; try rfl) rfl ⟨by rw [e1.out], by first | rfl | trivial⟩
      · have k3 : ¬ (q : Int) < (n : Int) := by omega
        have w5 : IntKind.u64.wrap (10 * (n : Int)) = ((10 * n : Nat) : Int) := by rw [IntKind.wrap_u64]; omega
        have w6 : IntKind.u64.wrap (((10 * n : Nat) : Int) + (d : Int)) = ((10 * n + d : Nat) : Int) := by rw [IntKind.wrap_u64]; omega
        have hn2 : 10 * n + d ≤ 9223372036854775808 := by omega
        have hN2 := Lib.hid hdt.symm
        obtain ⟨z, hz1⟩ : ∃ z : Int, z = ((10 * n : Nat) : Int) := ⟨_, rfl⟩
        rw [← hz1] at w5 w6
        obtain ⟨n2, hz2⟩ : ∃ n2 : Nat, n2 = 10 * n + d := ⟨_, rfl⟩
        rw [← hz2] at w6 hn2 hN2
        clear hxj hdt hmo hd hxd hq hy hb hz1 hz2 hN
        go_wp2
        go_roundg (r.length - (j + 1))
        case rel => exact ⟨j + 1, n2, by omega, rfl, rfl, by go_num, by first | rfl | trivial, hn2, hN2⟩
        case measure => omega
    · have k2 : ¬ (j : Int) < (r.length : Int) := by omega
      have hjr : r.take j = r := List.take_of_length_le (by omega)
      have hN2 : n = Sm.decN 0 r := by rw [hN.out, hjr]
      have e1 := Lib.hid (show valR l = (-(n : Int), true) by rw [HV.out, ← hN2, if_neg (by omega)])
      obtain ⟨y, hy⟩ : ∃ y : Int, y = IntKind.i64.wrap (n : Int) := ⟨_, rfl⟩
      have w1 : IntKind.i64.wrap (n : Int) = y := hy.symm
      have w2 : IntKind.i64.wrap (-y) = -(n : Int) := by rw [hy]; exact neg_wrap n hn
      clear hN hN2 hjr hy
      go_wp2
      exact bodyPost_ret (v := .tuple #[.int .i64 (-(n : Int)), .bool true]) (by simp [results, Tryd.results42, go_sem]; try rfl) rfl ⟨by rw [e1.out], by first | rfl | trivial⟩
end Go.Proofs.YtmdlndmibodimaaDoor
