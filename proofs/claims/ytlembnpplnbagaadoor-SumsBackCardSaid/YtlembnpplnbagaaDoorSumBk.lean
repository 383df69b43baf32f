/- Walk: SumsBack: texts are read back, cut twice is cut once, Ceil is the least number. -/
import Derived.Test.YtlembnpplnbagaaDoorSumQ
import Derived.Test.YtlembnpplnbagaaDoorKitMod
namespace Go.Proofs.YtlembnpplnbagaaDoor
open Go.RowKit Go.Shelf
open Sm

theorem ceil_facts (a b q : Int) (ha : 0 ≤ a) (hb : 1 ≤ b) (hq : q = (a + b - 1) / b) : 0 ≤ q ∧ q ≤ a ∧ a ≤ q * b ∧ q * b ≤ a + b - 1 ∧ (q - 1) * b < a := by
  have h1 := Int.mul_ediv_self_le (x := a + b - 1) (k := b) (by omega)
  have h2 := Int.lt_mul_ediv_self_add (x := a + b - 1) (k := b) (by omega)
  have h0 : 0 ≤ (a + b - 1) / b := Int.ediv_nonneg (by omega) (by omega)
  rw [← hq] at h1 h2 h0
  rw [Int.mul_comm] at h1 h2
  have h3 : (q - 1) * b = q * b - b := by rw [Int.sub_mul, Int.one_mul]
  refine ⟨h0, ?_, by omega, h1, by omega⟩
  have h4 : q ≤ q * b := by
    have : q * 1 ≤ q * b := Int.mul_le_mul_of_nonneg_left hb h0
    omega
  by_cases h5 : a < q
  · have h6 : (a + 1) * b ≤ q * b := Int.mul_le_mul_of_nonneg_right (by omega) (by omega)
    have h7 : (a + 1) * b = a * b + b := by rw [Int.add_mul, Int.one_mul]
    have h8 : a * 1 ≤ a * b := Int.mul_le_mul_of_nonneg_left hb ha
    omega
  · omega
theorem intN_ok (l : List UInt8) : okI (intN l) = true := by
  unfold intN numI
  split
  · split
    · rename_i h; exact h
    · decide
  · decide
set_option maxRecDepth 100000 in
set_option maxHeartbeats 4000000 in
theorem back_any (n : Int) (s : ByteArray) (bits a b : Int) (hn : okI n = true) (w : World) (ht : Laid5 w) :
    Calls Tryd.prog 10 #[.int .i64 n, .string s, .int .i64 bits, .int .i64 a, .int .i64 b] w fun e w' => e = .returned (.bool true) ∧ Below w.heap.size w w' := by
  have hK := known5_any w ht
  by_cases hs : 100 < s.size
  · have c1 : (100 : Int) < (s.size : Int) := by omega
    clear hs hn ht
    go_enter Tryd.func10, Tryd.ntmps10
    go_wp2_with (go_at_call 7; refine hK.mono ?_; rintro e w1 ⟨rfl, hb1⟩)
    go_ret
    exact ⟨rfl, hb1⟩
  · have c1 : ¬ (100 : Int) < (s.size : Int) := by omega
    have hT := fun w ht => text5_any n hn w ht
    have hlen := Lib.itoa_length_le n (okI_iff.1 hn).1 (okI_iff.1 hn).2
    have hI : ∀ w, Laid5 w → Calls Tryd.prog 34 #[.string (strOf (Lib.itoa n))] w fun e w' => e = .returned (.tuple #[.int .i64 n, .int .i64 0]) ∧ Below w.heap.size w w' := fun w ht => by
      have h := int_any (strOf (Lib.itoa n)) (by rw [strOf_size]; omega) w ht
      rw [strOf_dat, (int_itoa n hn).1, (int_itoa n hn).2] at h
      exact h
    have hI2 := fun w ht => int_any s (by omega) w ht
    have hback : intE s.data.toList = 0 → ∀ w, Laid5 w → Calls Tryd.prog 38 #[.int .i64 (intN s.data.toList)] w fun e w' => e = .returned (.string s) ∧ Below w.heap.size w w' := fun h0 w ht => by
      have h := text5_any (intN s.data.toList) (intN_ok _) w ht
      rw [int_back h0, ← str_is (s := s) rfl] at h
      exact h
    obtain ⟨T, hTe⟩ : ∃ T, T = strOf (Lib.itoa n) := ⟨_, rfl⟩
    rw [← hTe] at hT hI
    obtain ⟨y, hy⟩ : ∃ y, y = intN s.data.toList := ⟨_, rfl⟩
    obtain ⟨f, hf⟩ : ∃ y, y = intE s.data.toList := ⟨_, rfl⟩
    rw [← hy] at hI2 hback
    rw [← hf] at hI2 hback
    have hm1 := fun w => mod_any bits 64 w (by decide) (by decide)
    have hm2 := fun w => mod_any a 1099511627776 w (by decide) (by decide)
    have hm3 := fun w => mod_any b 1048576 w (by decide) (by decide)
    obtain ⟨r1, hr1⟩ : ∃ r, r = bits % 64 := ⟨_, rfl⟩
    obtain ⟨a', ha'⟩ : ∃ r, r = a % 1099511627776 := ⟨_, rfl⟩
    obtain ⟨r3, hr3⟩ : ∃ r, r = b % 1048576 := ⟨_, rfl⟩
    rw [← hr1] at hm1
    rw [← ha'] at hm2
    rw [← hr3] at hm3
    obtain ⟨B, hB⟩ : ∃ r, r = 1 + r1 := ⟨_, rfl⟩
    obtain ⟨b', hb'⟩ : ∃ r, r = 1 + r3 := ⟨_, rfl⟩
    have hBb : 1 ≤ B ∧ B ≤ 64 := by omega
    have wB : IntKind.i64.wrap (1 + r1) = B := by rw [IntWalk.i64_in _ ⟨by omega, by omega⟩, hB]
    have wb : IntKind.i64.wrap (1 + r3) = b' := by rw [IntWalk.i64_in _ ⟨by omega, by omega⟩, hb']
    have bb1 : 1 ≤ b' := by omega
    have bb2 : b' ≤ 1048576 := by omega
    have aa1 : 0 ≤ a' := by omega
    have aa2 : a' ≤ 1099511627776 := by omega
    have BB1 : 1 ≤ B := hBb.1
    have BB2 : B ≤ 64 := hBb.2
    have wB2 : 1 + r1 = B := hB.symm
    have wb2 : 1 + r3 = b' := hb'.symm
    have hin : inB B = true := inB_iff.2 hBb
    obtain ⟨k, hk⟩ : ∃ k, k = (64 - B).toNat := ⟨_, rfl⟩
    obtain ⟨c, hc⟩ : ∃ c, c = cutI n k := ⟨_, rfl⟩
    have hC1 : ∀ w, Calls Tryd.prog 19 #[.int .i64 n, .int .i64 B] w fun e w' => e = .returned (.tuple #[.int .i64 c, .bool (c == n), .int .i64 0]) ∧ w = w' := fun w => by
      have h := cut_any n B w
      unfold cutN cutS cutE at h
      rw [if_pos hin, if_pos hin, if_pos hin, ← hk, ← hc] at h
      exact h
    have hC2 : ∀ w, Calls Tryd.prog 19 #[.int .i64 c, .int .i64 B] w fun e w' => e = .returned (.tuple #[.int .i64 c, .bool true, .int .i64 0]) ∧ w = w' := fun w => by
      have h := cut_any c B w
      unfold cutN cutS cutE at h
      have e : cutI c k = c := by rw [hc]; exact cut_cut n k (by omega)
      rw [if_pos hin, if_pos hin, if_pos hin, ← hk, e] at h
      simpa using h
    have hall : B = 64 → c = n := fun e => by
      have : k = 0 := by omega
      rw [hc, this]
      exact cut_all hn
    obtain ⟨q, hq⟩ : ∃ q, q = (a' + b' - 1) / b' := ⟨_, rfl⟩
    have hce : ∀ w, Calls Tryd.prog 30 #[.int .i64 a', .int .i64 b'] w fun e w' => e = .returned (.tuple #[.int .i64 q, .int .i64 0]) ∧ w = w' := fun w => by
      have h := ceil_any a' b' w
      have hcb : ceilB a' b' = true := by unfold ceilB; rw [btw_iff.2 ⟨by omega, by omega⟩, btw_iff.2 ⟨by omega, by omega⟩]; rfl
      rw [(ceil_yes hcb).1, (ceil_yes hcb).2, ← hq] at h
      exact h
    obtain ⟨q0, q1, q2, q3, q4⟩ := ceil_facts a' b' q (by omega) (by omega) hq
    obtain ⟨P, hP⟩ : ∃ P, P = q * b' := ⟨_, rfl⟩
    obtain ⟨Q, hQ⟩ : ∃ P, P = (q - 1) * b' := ⟨_, rfl⟩
    obtain ⟨p, hp⟩ : ∃ P, P = q - 1 := ⟨_, rfl⟩
    rw [← hp] at hQ q4
    rw [← hP] at q2 q3
    rw [← hQ] at q4
    have hQb : Q = P - b' := by rw [hQ, hp, hP, Int.sub_mul, Int.one_mul]
    have wP : IntKind.i64.wrap (q * b') = P := by rw [← hP]; exact IntWalk.i64_in _ ⟨by omega, by omega⟩
    have wp : IntKind.i64.wrap (q - 1) = p := by rw [← hp]; exact IntWalk.i64_in _ ⟨by omega, by omega⟩
    have wQ : IntKind.i64.wrap (p * b') = Q := by rw [← hQ]; exact IntWalk.i64_in _ ⟨by omega, by omega⟩
    have wP2 : q * b' = P := hP.symm
    have wp2 : q - 1 = p := hp.symm
    have wQ2 : p * b' = Q := hQ.symm
    have w64 : IntKind.i64.wrap P = P := IntWalk.i64_in _ ⟨by omega, by omega⟩
    have w64b : IntKind.i64.wrap p = p := IntWalk.i64_in _ ⟨by omega, by omega⟩
    have w64c : IntKind.i64.wrap Q = Q := IntWalk.i64_in _ ⟨by omega, by omega⟩
    clear hlen hTe hy hf hr1 ha' hr3 hB hb' hin hk hc hq hP hQ hp hQb hn hs
    by_cases hf0 : f = 0
    · have hbk := hback hf0
      subst hf0
      clear hback
      by_cases hB64 : B = 64
      · obtain rfl := hall hB64
        subst hB64
        clear hall
        by_cases hq0 : q = 0
        · subst hq0
          obtain rfl : P = 0 := by rw [← wP2]; omega
          obtain rfl : a' = 0 := by omega
          clear wP wp wQ wP2 wp2 wQ2 w64 w64b w64c q0 q1 q2 q3 q4
          go_enter Tryd.func10, Tryd.ntmps10
          go_wp2_with (first
            | (go_at_call 7; with_reducible refine (hK).mono ?_; rintro e w1 ⟨rfl, B1⟩; have t1 := ht.below B1)
            | (go_at_call 34; with_reducible refine (hI _ t2).mono ?_; rintro e w3 ⟨rfl, hb3⟩; have B3 := bstep B2 hb3; have t3 := ht.below B3)
            | (go_at_call 34; with_reducible refine (hI2 _ t3).mono ?_; rintro e w4 ⟨rfl, hb4⟩; have B4 := bstep B3 hb4; have t4 := ht.below B4)
            | (go_at_call 45; with_reducible refine (hm1 _).mono ?_; rintro e w' ⟨rfl, rfl⟩)
            | (go_at_call 45; with_reducible refine (hm2 _).mono ?_; rintro e w' ⟨rfl, rfl⟩)
            | (go_at_call 45; with_reducible refine (hm3 _).mono ?_; rintro e w' ⟨rfl, rfl⟩)
            | (go_at_call 19; with_reducible refine (hC1 _).mono ?_; rintro e w' ⟨rfl, rfl⟩)
            | (go_at_call 19; with_reducible refine (hC2 _).mono ?_; rintro e w' ⟨rfl, rfl⟩)
            | (go_at_call 30; with_reducible refine (hce _).mono ?_; rintro e w' ⟨rfl, rfl⟩)
            | (go_at_call 38; with_reducible refine (hbk _ t4).mono ?_; rintro e w5 ⟨rfl, hb5⟩; have B5 := bstep B4 hb5; have t5 := ht.below B5)
            | (go_at_call 38; with_reducible refine (hT _ t1).mono ?_; rintro e w2 ⟨rfl, hb2⟩; have B2 := bstep B1 hb2; have t2 := ht.below B2))
          go_ret
          exact ⟨rfl, B5⟩
        · have hq0b : (q == 0) = false := by rw [beq_eq_false_iff_ne]; exact hq0
          go_enter Tryd.func10, Tryd.ntmps10
          go_wp2_with (first
            | (go_at_call 7; with_reducible refine (hK).mono ?_; rintro e w1 ⟨rfl, B1⟩; have t1 := ht.below B1)
            | (go_at_call 34; with_reducible refine (hI _ t2).mono ?_; rintro e w3 ⟨rfl, hb3⟩; have B3 := bstep B2 hb3; have t3 := ht.below B3)
            | (go_at_call 34; with_reducible refine (hI2 _ t3).mono ?_; rintro e w4 ⟨rfl, hb4⟩; have B4 := bstep B3 hb4; have t4 := ht.below B4)
            | (go_at_call 45; with_reducible refine (hm1 _).mono ?_; rintro e w' ⟨rfl, rfl⟩)
            | (go_at_call 45; with_reducible refine (hm2 _).mono ?_; rintro e w' ⟨rfl, rfl⟩)
            | (go_at_call 45; with_reducible refine (hm3 _).mono ?_; rintro e w' ⟨rfl, rfl⟩)
            | (go_at_call 19; with_reducible refine (hC1 _).mono ?_; rintro e w' ⟨rfl, rfl⟩)
            | (go_at_call 19; with_reducible refine (hC2 _).mono ?_; rintro e w' ⟨rfl, rfl⟩)
            | (go_at_call 30; with_reducible refine (hce _).mono ?_; rintro e w' ⟨rfl, rfl⟩)
            | (go_at_call 38; with_reducible refine (hbk _ t4).mono ?_; rintro e w5 ⟨rfl, hb5⟩; have B5 := bstep B4 hb5; have t5 := ht.below B5)
            | (go_at_call 38; with_reducible refine (hT _ t1).mono ?_; rintro e w2 ⟨rfl, hb2⟩; have B2 := bstep B1 hb2; have t2 := ht.below B2))
          go_ret
          exact ⟨rfl, B5⟩
      · have hB64b : (B == 64) = false := by rw [beq_eq_false_iff_ne]; exact hB64
        obtain ⟨S, hS⟩ : ∃ S, S = (c == n) := ⟨_, rfl⟩
        rw [← hS] at hC1
        replace hS := hS.symm
        clear hall
        by_cases hq0 : q = 0
        · subst hq0
          obtain rfl : P = 0 := by rw [← wP2]; omega
          obtain rfl : a' = 0 := by omega
          clear wP wp wQ wP2 wp2 wQ2 w64 w64b w64c q0 q1 q2 q3 q4
          go_enter Tryd.func10, Tryd.ntmps10
          go_wp2_with (first
            | (go_at_call 7; with_reducible refine (hK).mono ?_; rintro e w1 ⟨rfl, B1⟩; have t1 := ht.below B1)
            | (go_at_call 34; with_reducible refine (hI _ t2).mono ?_; rintro e w3 ⟨rfl, hb3⟩; have B3 := bstep B2 hb3; have t3 := ht.below B3)
            | (go_at_call 34; with_reducible refine (hI2 _ t3).mono ?_; rintro e w4 ⟨rfl, hb4⟩; have B4 := bstep B3 hb4; have t4 := ht.below B4)
            | (go_at_call 45; with_reducible refine (hm1 _).mono ?_; rintro e w' ⟨rfl, rfl⟩)
            | (go_at_call 45; with_reducible refine (hm2 _).mono ?_; rintro e w' ⟨rfl, rfl⟩)
            | (go_at_call 45; with_reducible refine (hm3 _).mono ?_; rintro e w' ⟨rfl, rfl⟩)
            | (go_at_call 19; with_reducible refine (hC1 _).mono ?_; rintro e w' ⟨rfl, rfl⟩)
            | (go_at_call 19; with_reducible refine (hC2 _).mono ?_; rintro e w' ⟨rfl, rfl⟩)
            | (go_at_call 30; with_reducible refine (hce _).mono ?_; rintro e w' ⟨rfl, rfl⟩)
            | (go_at_call 38; with_reducible refine (hbk _ t4).mono ?_; rintro e w5 ⟨rfl, hb5⟩; have B5 := bstep B4 hb5; have t5 := ht.below B5)
            | (go_at_call 38; with_reducible refine (hT _ t1).mono ?_; rintro e w2 ⟨rfl, hb2⟩; have B2 := bstep B1 hb2; have t2 := ht.below B2))
          go_ret
          exact ⟨rfl, B5⟩
        · have hq0b : (q == 0) = false := by rw [beq_eq_false_iff_ne]; exact hq0
          go_enter Tryd.func10, Tryd.ntmps10
          go_wp2_with (first
            | (go_at_call 7; with_reducible refine (hK).mono ?_; rintro e w1 ⟨rfl, B1⟩; have t1 := ht.below B1)
            | (go_at_call 34; with_reducible refine (hI _ t2).mono ?_; rintro e w3 ⟨rfl, hb3⟩; have B3 := bstep B2 hb3; have t3 := ht.below B3)
            | (go_at_call 34; with_reducible refine (hI2 _ t3).mono ?_; rintro e w4 ⟨rfl, hb4⟩; have B4 := bstep B3 hb4; have t4 := ht.below B4)
            | (go_at_call 45; with_reducible refine (hm1 _).mono ?_; rintro e w' ⟨rfl, rfl⟩)
            | (go_at_call 45; with_reducible refine (hm2 _).mono ?_; rintro e w' ⟨rfl, rfl⟩)
            | (go_at_call 45; with_reducible refine (hm3 _).mono ?_; rintro e w' ⟨rfl, rfl⟩)
            | (go_at_call 19; with_reducible refine (hC1 _).mono ?_; rintro e w' ⟨rfl, rfl⟩)
            | (go_at_call 19; with_reducible refine (hC2 _).mono ?_; rintro e w' ⟨rfl, rfl⟩)
            | (go_at_call 30; with_reducible refine (hce _).mono ?_; rintro e w' ⟨rfl, rfl⟩)
            | (go_at_call 38; with_reducible refine (hbk _ t4).mono ?_; rintro e w5 ⟨rfl, hb5⟩; have B5 := bstep B4 hb5; have t5 := ht.below B5)
            | (go_at_call 38; with_reducible refine (hT _ t1).mono ?_; rintro e w2 ⟨rfl, hb2⟩; have B2 := bstep B1 hb2; have t2 := ht.below B2))
          go_ret
          exact ⟨rfl, B5⟩
    · have hf0b : (f == 0) = false := by rw [beq_eq_false_iff_ne]; exact hf0
      clear hback
      by_cases hB64 : B = 64
      · obtain rfl := hall hB64
        subst hB64
        clear hall
        by_cases hq0 : q = 0
        · subst hq0
          obtain rfl : P = 0 := by rw [← wP2]; omega
          obtain rfl : a' = 0 := by omega
          clear wP wp wQ wP2 wp2 wQ2 w64 w64b w64c q0 q1 q2 q3 q4
          go_enter Tryd.func10, Tryd.ntmps10
          go_wp2_with (first
            | (go_at_call 7; with_reducible refine (hK).mono ?_; rintro e w1 ⟨rfl, B1⟩; have t1 := ht.below B1)
            | (go_at_call 34; with_reducible refine (hI _ t2).mono ?_; rintro e w3 ⟨rfl, hb3⟩; have B3 := bstep B2 hb3; have t3 := ht.below B3)
            | (go_at_call 34; with_reducible refine (hI2 _ t3).mono ?_; rintro e w4 ⟨rfl, hb4⟩; have B4 := bstep B3 hb4; have t4 := ht.below B4)
            | (go_at_call 45; with_reducible refine (hm1 _).mono ?_; rintro e w' ⟨rfl, rfl⟩)
            | (go_at_call 45; with_reducible refine (hm2 _).mono ?_; rintro e w' ⟨rfl, rfl⟩)
            | (go_at_call 45; with_reducible refine (hm3 _).mono ?_; rintro e w' ⟨rfl, rfl⟩)
            | (go_at_call 19; with_reducible refine (hC1 _).mono ?_; rintro e w' ⟨rfl, rfl⟩)
            | (go_at_call 19; with_reducible refine (hC2 _).mono ?_; rintro e w' ⟨rfl, rfl⟩)
            | (go_at_call 30; with_reducible refine (hce _).mono ?_; rintro e w' ⟨rfl, rfl⟩)
            | (go_at_call 38; with_reducible refine (hT _ t1).mono ?_; rintro e w2 ⟨rfl, hb2⟩; have B2 := bstep B1 hb2; have t2 := ht.below B2))
          go_ret
          exact ⟨rfl, B4⟩
        · have hq0b : (q == 0) = false := by rw [beq_eq_false_iff_ne]; exact hq0
          go_enter Tryd.func10, Tryd.ntmps10
          go_wp2_with (first
            | (go_at_call 7; with_reducible refine (hK).mono ?_; rintro e w1 ⟨rfl, B1⟩; have t1 := ht.below B1)
            | (go_at_call 34; with_reducible refine (hI _ t2).mono ?_; rintro e w3 ⟨rfl, hb3⟩; have B3 := bstep B2 hb3; have t3 := ht.below B3)
            | (go_at_call 34; with_reducible refine (hI2 _ t3).mono ?_; rintro e w4 ⟨rfl, hb4⟩; have B4 := bstep B3 hb4; have t4 := ht.below B4)
            | (go_at_call 45; with_reducible refine (hm1 _).mono ?_; rintro e w' ⟨rfl, rfl⟩)
            | (go_at_call 45; with_reducible refine (hm2 _).mono ?_; rintro e w' ⟨rfl, rfl⟩)
            | (go_at_call 45; with_reducible refine (hm3 _).mono ?_; rintro e w' ⟨rfl, rfl⟩)
            | (go_at_call 19; with_reducible refine (hC1 _).mono ?_; rintro e w' ⟨rfl, rfl⟩)
            | (go_at_call 19; with_reducible refine (hC2 _).mono ?_; rintro e w' ⟨rfl, rfl⟩)
            | (go_at_call 30; with_reducible refine (hce _).mono ?_; rintro e w' ⟨rfl, rfl⟩)
            | (go_at_call 38; with_reducible refine (hT _ t1).mono ?_; rintro e w2 ⟨rfl, hb2⟩; have B2 := bstep B1 hb2; have t2 := ht.below B2))
          go_ret
          exact ⟨rfl, B4⟩
      · have hB64b : (B == 64) = false := by rw [beq_eq_false_iff_ne]; exact hB64
        obtain ⟨S, hS⟩ : ∃ S, S = (c == n) := ⟨_, rfl⟩
        rw [← hS] at hC1
        replace hS := hS.symm
        clear hall
        by_cases hq0 : q = 0
        · subst hq0
          obtain rfl : P = 0 := by rw [← wP2]; omega
          obtain rfl : a' = 0 := by omega
          clear wP wp wQ wP2 wp2 wQ2 w64 w64b w64c q0 q1 q2 q3 q4
          go_enter Tryd.func10, Tryd.ntmps10
          go_wp2_with (first
            | (go_at_call 7; with_reducible refine (hK).mono ?_; rintro e w1 ⟨rfl, B1⟩; have t1 := ht.below B1)
            | (go_at_call 34; with_reducible refine (hI _ t2).mono ?_; rintro e w3 ⟨rfl, hb3⟩; have B3 := bstep B2 hb3; have t3 := ht.below B3)
            | (go_at_call 34; with_reducible refine (hI2 _ t3).mono ?_; rintro e w4 ⟨rfl, hb4⟩; have B4 := bstep B3 hb4; have t4 := ht.below B4)
            | (go_at_call 45; with_reducible refine (hm1 _).mono ?_; rintro e w' ⟨rfl, rfl⟩)
            | (go_at_call 45; with_reducible refine (hm2 _).mono ?_; rintro e w' ⟨rfl, rfl⟩)
            | (go_at_call 45; with_reducible refine (hm3 _).mono ?_; rintro e w' ⟨rfl, rfl⟩)
            | (go_at_call 19; with_reducible refine (hC1 _).mono ?_; rintro e w' ⟨rfl, rfl⟩)
            | (go_at_call 19; with_reducible refine (hC2 _).mono ?_; rintro e w' ⟨rfl, rfl⟩)
            | (go_at_call 30; with_reducible refine (hce _).mono ?_; rintro e w' ⟨rfl, rfl⟩)
            | (go_at_call 38; with_reducible refine (hT _ t1).mono ?_; rintro e w2 ⟨rfl, hb2⟩; have B2 := bstep B1 hb2; have t2 := ht.below B2))
          go_ret
          exact ⟨rfl, B4⟩
        · have hq0b : (q == 0) = false := by rw [beq_eq_false_iff_ne]; exact hq0
          go_enter Tryd.func10, Tryd.ntmps10
          go_wp2_with (first
            | (go_at_call 7; with_reducible refine (hK).mono ?_; rintro e w1 ⟨rfl, B1⟩; have t1 := ht.below B1)
            | (go_at_call 34; with_reducible refine (hI _ t2).mono ?_; rintro e w3 ⟨rfl, hb3⟩; have B3 := bstep B2 hb3; have t3 := ht.below B3)
            | (go_at_call 34; with_reducible refine (hI2 _ t3).mono ?_; rintro e w4 ⟨rfl, hb4⟩; have B4 := bstep B3 hb4; have t4 := ht.below B4)
            | (go_at_call 45; with_reducible refine (hm1 _).mono ?_; rintro e w' ⟨rfl, rfl⟩)
            | (go_at_call 45; with_reducible refine (hm2 _).mono ?_; rintro e w' ⟨rfl, rfl⟩)
            | (go_at_call 45; with_reducible refine (hm3 _).mono ?_; rintro e w' ⟨rfl, rfl⟩)
            | (go_at_call 19; with_reducible refine (hC1 _).mono ?_; rintro e w' ⟨rfl, rfl⟩)
            | (go_at_call 19; with_reducible refine (hC2 _).mono ?_; rintro e w' ⟨rfl, rfl⟩)
            | (go_at_call 30; with_reducible refine (hce _).mono ?_; rintro e w' ⟨rfl, rfl⟩)
            | (go_at_call 38; with_reducible refine (hT _ t1).mono ?_; rintro e w2 ⟨rfl, hb2⟩; have B2 := bstep B1 hb2; have t2 := ht.below B2))
          go_ret
          exact ⟨rfl, B4⟩
end Go.Proofs.YtlembnpplnbagaaDoor
