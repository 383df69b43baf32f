/- Walk: SumsUndo: sums and products in both orders, differences, negatives twice. -/
import Derived.Test.YtlembnpplnbagaaDoorSumQ
namespace Go.Proofs.YtlembnpplnbagaaDoor
open Go.RowKit Go.Shelf
open Sm

theorem two_is {n : Int} (h : okI n = true) : (.tuple #[.int .i64 (numI n), .int .i64 (errI n)] : Value) = .tuple #[.int .i64 n, .int .i64 0] := two_ok h
theorem two_isn {n : Int} (h : okI n = false) : (.tuple #[.int .i64 (numI n), .int .i64 (errI n)] : Value) = .tuple #[.int .i64 0, .int .i64 16] := two_no h
set_option maxRecDepth 100000 in
set_option maxHeartbeats 4000000 in
theorem undo_any (a b : Int) (ha : okI a = true) (hb : okI b = true) (w : World) (ht : Laid5 w) :
    Calls Tryd.prog 8 #[.int .i64 a, .int .i64 b] w fun e w' => e = .returned (.bool true) ∧ Below w.heap.size w w' := by
  have hK := known5_any w ht
  have h1 := fun w => add_any a b ha hb w
  have h1' := fun w => add_any b a hb ha w
  have h3 := fun w => mul_any a b ha hb w
  have h3' := fun w => mul_any b a hb ha w
  have h4 := fun w => neg_any a ha w
  rw [Int.add_comm b a] at h1'
  rw [Int.mul_comm b a] at h3'
  have oa := okI_iff.1 ha
  have ob := okI_iff.1 hb
  unfold two at h1 h1' h3 h3' h4
  generalize numI (a * b) = n3 at h3 h3'
  generalize errI (a * b) = e3 at h3 h3'
  clear ht
  cases ho : okI (a + b)
  · rw [two_isn ho] at h1 h1'
    have hs := okI_not.1 ho
    by_cases s1 : a < 0
    · have s2 : b < 0 := by omega
      have d1 := decide_eq_true s1
      have d2 := decide_eq_true s2
      cases hn : okI (-a)
      · rw [two_isn hn] at h4
        obtain rfl : a = -9223372036854775808 := by have := okI_not.1 hn; omega
        clear hn ha hb oa ob hs ho
        go_enter Tryd.func8, Tryd.ntmps8
        go_wp2_with (first
          | (go_at_call 7; refine hK.mono ?_; rintro e w1 ⟨rfl, hb1⟩)
          | (go_at_call 11; with_reducible refine (h1 _).mono ?_; rintro e w' ⟨rfl, rfl⟩)
          | (go_at_call 11; with_reducible refine (h1' _).mono ?_; rintro e w' ⟨rfl, rfl⟩)
          | (go_at_call 15; with_reducible refine (h3 _).mono ?_; rintro e w' ⟨rfl, rfl⟩)
          | (go_at_call 15; with_reducible refine (h3' _).mono ?_; rintro e w' ⟨rfl, rfl⟩)
          | (go_at_call 17; with_reducible refine (h4 _).mono ?_; rintro e w' ⟨rfl, rfl⟩))
        go_ret
        exact ⟨rfl, hb1⟩
      · rw [two_is hn] at h4
        obtain ⟨n, hne⟩ : ∃ n, n = -a := ⟨_, rfl⟩
        rw [← hne] at h4 hn
        have h5 := fun w => neg_any n hn w
        have h6 := fun w => add_any a n ha hn w
        have e5 : -n = a := by omega
        have e6 : a + n = 0 := by omega
        rw [e5, two_ok ha] at h5
        rw [e6, two_ok (by decide)] at h6
        clear hn hne e5 e6 ha hb oa ob hs ho
        go_enter Tryd.func8, Tryd.ntmps8
        go_wp2_with (first
          | (go_at_call 7; refine hK.mono ?_; rintro e w1 ⟨rfl, hb1⟩)
          | (go_at_call 11; with_reducible refine (h1 _).mono ?_; rintro e w' ⟨rfl, rfl⟩)
          | (go_at_call 11; with_reducible refine (h1' _).mono ?_; rintro e w' ⟨rfl, rfl⟩)
          | (go_at_call 15; with_reducible refine (h3 _).mono ?_; rintro e w' ⟨rfl, rfl⟩)
          | (go_at_call 15; with_reducible refine (h3' _).mono ?_; rintro e w' ⟨rfl, rfl⟩)
          | (go_at_call 17; with_reducible refine (h4 _).mono ?_; rintro e w' ⟨rfl, rfl⟩)
          | (go_at_call 17; with_reducible refine (h5 _).mono ?_; rintro e w' ⟨rfl, rfl⟩)
          | (go_at_call 11; with_reducible refine (h6 _).mono ?_; rintro e w' ⟨rfl, rfl⟩))
        go_ret
        exact ⟨rfl, hb1⟩
    · have s2 : ¬ b < 0 := by omega
      have d1 := decide_eq_false s1
      have d2 := decide_eq_false s2
      cases hn : okI (-a)
      · exact absurd (okI_not.1 hn) (by omega)
      · rw [two_is hn] at h4
        obtain ⟨n, hne⟩ : ∃ n, n = -a := ⟨_, rfl⟩
        rw [← hne] at h4 hn
        have h5 := fun w => neg_any n hn w
        have h6 := fun w => add_any a n ha hn w
        have e5 : -n = a := by omega
        have e6 : a + n = 0 := by omega
        rw [e5, two_ok ha] at h5
        rw [e6, two_ok (by decide)] at h6
        clear hn hne e5 e6 ha hb oa ob hs ho
        go_enter Tryd.func8, Tryd.ntmps8
        go_wp2_with (first
          | (go_at_call 7; refine hK.mono ?_; rintro e w1 ⟨rfl, hb1⟩)
          | (go_at_call 11; with_reducible refine (h1 _).mono ?_; rintro e w' ⟨rfl, rfl⟩)
          | (go_at_call 11; with_reducible refine (h1' _).mono ?_; rintro e w' ⟨rfl, rfl⟩)
          | (go_at_call 15; with_reducible refine (h3 _).mono ?_; rintro e w' ⟨rfl, rfl⟩)
          | (go_at_call 15; with_reducible refine (h3' _).mono ?_; rintro e w' ⟨rfl, rfl⟩)
          | (go_at_call 17; with_reducible refine (h4 _).mono ?_; rintro e w' ⟨rfl, rfl⟩)
          | (go_at_call 17; with_reducible refine (h5 _).mono ?_; rintro e w' ⟨rfl, rfl⟩)
          | (go_at_call 11; with_reducible refine (h6 _).mono ?_; rintro e w' ⟨rfl, rfl⟩))
        go_ret
        exact ⟨rfl, hb1⟩
  · rw [two_is ho] at h1 h1'
    obtain ⟨s, hs⟩ : ∃ s, s = a + b := ⟨_, rfl⟩
    rw [← hs] at h1 h1' ho
    have h2 := fun w => sub_any s b ho hb w
    have e2 : s - b = a := by omega
    rw [e2, two_ok ha] at h2
    cases hn : okI (-a)
    · rw [two_isn hn] at h4
      obtain rfl : a = -9223372036854775808 := by have := okI_not.1 hn; omega
      clear hn ha hb oa ob hs ho e2
      go_enter Tryd.func8, Tryd.ntmps8
      go_wp2_with (first
        | (go_at_call 7; refine hK.mono ?_; rintro e w1 ⟨rfl, hb1⟩)
        | (go_at_call 11; with_reducible refine (h1 _).mono ?_; rintro e w' ⟨rfl, rfl⟩)
        | (go_at_call 11; with_reducible refine (h1' _).mono ?_; rintro e w' ⟨rfl, rfl⟩)
        | (go_at_call 15; with_reducible refine (h3 _).mono ?_; rintro e w' ⟨rfl, rfl⟩)
        | (go_at_call 15; with_reducible refine (h3' _).mono ?_; rintro e w' ⟨rfl, rfl⟩)
        | (go_at_call 17; with_reducible refine (h4 _).mono ?_; rintro e w' ⟨rfl, rfl⟩)
        | (go_at_call 13; with_reducible refine (h2 _).mono ?_; rintro e w' ⟨rfl, rfl⟩))
      go_ret
      exact ⟨rfl, hb1⟩
    · rw [two_is hn] at h4
      obtain ⟨n, hne⟩ : ∃ n, n = -a := ⟨_, rfl⟩
      rw [← hne] at h4 hn
      have h5 := fun w => neg_any n hn w
      have h6 := fun w => add_any a n ha hn w
      have e5 : -n = a := by omega
      have e6 : a + n = 0 := by omega
      rw [e5, two_ok ha] at h5
      rw [e6, two_ok (by decide)] at h6
      clear hn hne e5 e6 ha hb oa ob hs ho e2
      go_enter Tryd.func8, Tryd.ntmps8
      go_wp2_with (first
        | (go_at_call 7; refine hK.mono ?_; rintro e w1 ⟨rfl, hb1⟩)
        | (go_at_call 11; with_reducible refine (h1 _).mono ?_; rintro e w' ⟨rfl, rfl⟩)
        | (go_at_call 11; with_reducible refine (h1' _).mono ?_; rintro e w' ⟨rfl, rfl⟩)
        | (go_at_call 15; with_reducible refine (h3 _).mono ?_; rintro e w' ⟨rfl, rfl⟩)
        | (go_at_call 15; with_reducible refine (h3' _).mono ?_; rintro e w' ⟨rfl, rfl⟩)
        | (go_at_call 17; with_reducible refine (h4 _).mono ?_; rintro e w' ⟨rfl, rfl⟩)
        | (go_at_call 13; with_reducible refine (h2 _).mono ?_; rintro e w' ⟨rfl, rfl⟩)
        | (go_at_call 17; with_reducible refine (h5 _).mono ?_; rintro e w' ⟨rfl, rfl⟩)
        | (go_at_call 11; with_reducible refine (h6 _).mono ?_; rintro e w' ⟨rfl, rfl⟩))
      go_ret
      exact ⟨rfl, hb1⟩
end Go.Proofs.YtlembnpplnbagaaDoor
