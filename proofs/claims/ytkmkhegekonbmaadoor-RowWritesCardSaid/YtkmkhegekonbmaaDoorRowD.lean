/- Walks: the reference's numbers. -/
import Derived.Test.YtkmkhegekonbmaaDoorRowC
namespace Go.Proofs.YtkmkhegekonbmaaDoor
open Go.RowKit
open Rw6

/-- A word as a value. -/
def wordV (q : Bool) (s : ByteArray) (a : Int) : Value := .agg #[.bool q, .string s, .int .i64 a]
theorem digN_lt (l : List UInt8) : digN l < 18446744073709551616 := by
  unfold digN
  split
  · exact Nat.mod_lt _ (by decide)
  · decide
theorem dig_yes {l : List UInt8} (h : numB l = true) : (digG l = true ↔ top < decN 0 l) ∧ (digG l = false → digN l = decN 0 l) := by
  unfold digN digG top
  rw [h]
  simp only [if_true]
  refine ⟨by rw [decide_eq_true_iff]; omega, fun h2 => ?_⟩
  rw [decide_eq_false_iff_not] at h2
  exact Nat.mod_eq_of_lt (by omega)
set_option maxRecDepth 100000 in
set_option maxHeartbeats 2000000 in
theorem refNumber_any (q : Bool) (s : ByteArray) (a : Int) (lo hi : Nat) (hs : s.size ≤ 100000) (w : World) :
    Calls Tryd.prog 18 #[wordV q s a, .int .u64 (lo : Int), .int .u64 (hi : Int)] w
      fun e w' => e = .returned (.tuple #[.int .u64 ((numG q s.data.toList lo hi).1 : Int), .int .i64 (numG q s.data.toList lo hi).2]) ∧ Below w.heap.size w w' := by
  have hD := fun w => refDigits_any s hs w
  have hlt := digN_lt s.data.toList
  have hy := fun h => dig_yes (l := s.data.toList) h
  unfold numG wordV
  obtain ⟨n, hn⟩ : ∃ n, n = digN s.data.toList := ⟨_, rfl⟩
  obtain ⟨g, hg⟩ : ∃ g, g = digG s.data.toList := ⟨_, rfl⟩
  obtain ⟨b, hb⟩ : ∃ b, b = numB s.data.toList := ⟨_, rfl⟩
  obtain ⟨N, hN⟩ : ∃ N, N = decN 0 s.data.toList := ⟨_, rfl⟩
  rw [← hn, ← hg, ← hb] at hD
  rw [← hn] at hlt
  rw [← hn, ← hg, ← hb, ← hN] at hy
  rw [← hb, ← hN]
  clear hn hg hb hN
  cases q with
  | true =>
    rw [if_pos (Or.inl rfl)]
    clear hy
    cases b
    all_goals
      go_enter Tryd.func18, Tryd.ntmps18
      go_wp2_with (go_at_call 44; refine (hD _).mono ?_; rintro e w' ⟨rfl, rfl⟩)
      go_ret2
      exact ⟨rfl, (Below.refl _ _).alloc (Nat.le_refl _) _⟩
  | false =>
    cases b with
    | false =>
      rw [if_pos (Or.inr rfl)]
      clear hy
      go_enter Tryd.func18, Tryd.ntmps18
      go_wp2_with (go_at_call 44; refine (hD _).mono ?_; rintro e w' ⟨rfl, rfl⟩)
      go_ret2
      exact ⟨rfl, (Below.refl _ _).alloc (Nat.le_refl _) _⟩
    | true =>
      obtain ⟨y1, y2⟩ := hy rfl
      clear hy
      rw [if_neg (by decide)]
      cases g with
      | true =>
        rw [if_pos (Or.inl (y1.1 rfl))]
        clear y1 y2
        go_enter Tryd.func18, Tryd.ntmps18
        go_wp2_with (go_at_call 44; refine (hD _).mono ?_; rintro e w' ⟨rfl, rfl⟩)
        go_ret2
        exact ⟨rfl, (Below.refl _ _).alloc (Nat.le_refl _) _⟩
      | false =>
        have e1 := y2 rfl
        subst e1
        have hnt : ¬ top < n := fun h => by have := y1.2 h; cases this
        clear y1 y2
        by_cases h1 : n < lo
        · rw [if_pos (Or.inr (Or.inl h1))]
          have f1 : (n : Int) < (lo : Int) := by omega
          clear hnt h1
          go_enter Tryd.func18, Tryd.ntmps18
          go_wp2_with (go_at_call 44; refine (hD _).mono ?_; rintro e w' ⟨rfl, rfl⟩)
          go_ret2
          exact ⟨rfl, (Below.refl _ _).alloc (Nat.le_refl _) _⟩
        · have f1 : ¬ (n : Int) < (lo : Int) := by omega
          by_cases h2 : hi < n
          · rw [if_pos (Or.inr (Or.inr h2))]
            have f2 : (hi : Int) < (n : Int) := by omega
            clear hnt h1 h2
            go_enter Tryd.func18, Tryd.ntmps18
            go_wp2_with (go_at_call 44; refine (hD _).mono ?_; rintro e w' ⟨rfl, rfl⟩)
            go_ret2
            exact ⟨rfl, (Below.refl _ _).alloc (Nat.le_refl _) _⟩
          · have f2 : ¬ (hi : Int) < (n : Int) := by omega
            rw [if_neg (fun h => h.elim hnt fun h => h.elim h1 h2)]
            clear hnt h1 h2
            go_enter Tryd.func18, Tryd.ntmps18
            go_wp2_with (go_at_call 44; refine (hD _).mono ?_; rintro e w' ⟨rfl, rfl⟩)
            go_ret2
            exact ⟨rfl, (Below.refl _ _).alloc (Nat.le_refl _) _⟩
end Go.Proofs.YtkmkhegekonbmaaDoor
