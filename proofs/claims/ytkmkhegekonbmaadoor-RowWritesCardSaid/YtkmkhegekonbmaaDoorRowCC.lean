/- Walks: the program's numbers, with a sign and without; which of some names. -/
import Derived.Test.YtkmkhegekonbmaaDoorRowBB
import Derived.Test.YtkmkhegekonbmaaDoorShelf
namespace Go.Proofs.YtkmkhegekonbmaaDoor
open Go.RowKit
open Rw6

theorem num_digits {s : ByteArray} (h : numB s.data.toList = true) : s.size ≤ 20 ∧ ∀ b ∈ s.data.toList, isD b = true := by
  have := numB_iff.1 h
  exact ⟨by rw [← bytes_size]; exact this.2, digB_all this.1⟩
set_option maxRecDepth 100000 in
set_option maxHeartbeats 2000000 in
theorem number_is (q : Bool) (s : ByteArray) (a : Int) (lo hi : Nat) (hs : s.size ≤ 100000) (w : World) :
    Calls Tryd.prog 17 #[wordV q s a, .int .u64 (lo : Int), .int .u64 (hi : Int)] w
      fun e w' => e = .returned (.tuple #[.int .u64 ((numG q s.data.toList lo hi).1 : Int), .int .i64 (numG q s.data.toList lo hi).2]) ∧ Below w.heap.size w w' := by
  have hI := fun w => isNumber_any s hs w
  have hB : ∀ (c : Value) (t : TypeId), Below w.heap.size w (w.alloc (.cells #[.bool q, .string s, .int .i64 a] t)) := fun _ t => (Below.refl _ _).alloc (Nat.le_refl _) _
  unfold wordV
  cases q with
  | true =>
    have hr : numG true s.data.toList lo hi = (0, 3) := by unfold numG; rw [if_pos (Or.inl rfl)]
    rw [hr]
    clear hr hI
    go_enter Tryd.func17, Tryd.ntmps17
    go_wp2
    go_ret2
    exact ⟨rfl, hB .nilFunc _⟩
  | false =>
    cases hn : numB s.data.toList with
    | false =>
      rw [hn] at hI
      have hr : numG false s.data.toList lo hi = (0, 3) := by unfold numG; rw [if_pos (Or.inr hn)]
      rw [hr]
      clear hr hn
      go_enter Tryd.func17, Tryd.ntmps17
      go_wp2_with (go_at_call 42; refine (hI _).mono ?_; rintro e w' ⟨rfl, rfl⟩)
      go_ret2
      exact ⟨rfl, hB .nilFunc _⟩
    | true =>
      rw [hn] at hI
      obtain ⟨h20, had⟩ := num_digits hn
      have hN := fun w => natural_any s h20 had w
      have hr : numG false s.data.toList lo hi = if top < decN 0 s.data.toList ∨ decN 0 s.data.toList < lo ∨ hi < decN 0 s.data.toList then (0, 2) else (decN 0 s.data.toList, 0) := by
        unfold numG; rw [if_neg (by rw [hn]; rintro (h | h) <;> cases h)]
      rw [hr]
      obtain ⟨D, hD⟩ : ∃ D, D = decN 0 s.data.toList := ⟨_, rfl⟩
      rw [← hD] at hN ⊢
      clear hr hn hD had
      by_cases ht : top < D
      · rw [if_pos (Or.inl ht)]
        have e1 : (if D ≤ top then D else 0) = 0 := if_neg (by omega)
        have e2 : decide (D ≤ top) = false := decide_eq_false (by omega)
        rw [e1, e2] at hN
        clear e1 e2
        go_enter Tryd.func17, Tryd.ntmps17
        go_wp2_with (first | (go_at_call 42; refine (hI _).mono ?_; rintro e w' ⟨rfl, rfl⟩) | (go_at_call 43; refine (hN _).mono ?_; rintro e w' ⟨rfl, rfl⟩))
        go_ret2
        exact ⟨rfl, hB .nilFunc _⟩
      · have e1 : (if D ≤ top then D else 0) = D := if_pos (by omega)
        have e2 : decide (D ≤ top) = true := decide_eq_true (by omega)
        rw [e1, e2] at hN
        clear e1 e2
        by_cases hl : D < lo
        · rw [if_pos (Or.inr (Or.inl hl))]
          have hli : (D : Int) < (lo : Int) := by omega
          clear ht
          go_enter Tryd.func17, Tryd.ntmps17
          go_wp2_with (first | (go_at_call 42; refine (hI _).mono ?_; rintro e w' ⟨rfl, rfl⟩) | (go_at_call 43; refine (hN _).mono ?_; rintro e w' ⟨rfl, rfl⟩))
          go_ret2
          exact ⟨rfl, hB .nilFunc _⟩
        · have hl2 : decide (D < lo) = false := decide_eq_false hl
          by_cases hh : hi < D
          · rw [if_pos (Or.inr (Or.inr hh))]
            have hhi : (hi : Int) < (D : Int) := by omega
            clear ht
            go_enter Tryd.func17, Tryd.ntmps17
            go_wp2_with (first | (go_at_call 42; refine (hI _).mono ?_; rintro e w' ⟨rfl, rfl⟩) | (go_at_call 43; refine (hN _).mono ?_; rintro e w' ⟨rfl, rfl⟩))
            go_ret2
            exact ⟨rfl, hB .nilFunc _⟩
          · rw [if_neg (fun h => h.elim ht fun h => h.elim hl hh)]
            have hh2 : decide (hi < D) = false := decide_eq_false hh
            clear ht
            go_enter Tryd.func17, Tryd.ntmps17
            go_wp2_with (first | (go_at_call 42; refine (hI _).mono ?_; rintro e w' ⟨rfl, rfl⟩) | (go_at_call 43; refine (hN _).mono ?_; rintro e w' ⟨rfl, rfl⟩))
            go_ret2
            exact ⟨rfl, hB .nilFunc _⟩
theorem cut_min (l : List UInt8) : Lib.hasPrefix l [45] = minB l ∧ Lib.trimPrefix l [45] = restL l := by
  have h1 : Lib.hasPrefix l [45] = minB l := by
    unfold Lib.hasPrefix minB
    cases l with
    | nil => rfl
    | cons b r =>
      show (45 == b && true) = (some b == some 45)
      rw [Bool.and_true]
      by_cases h : b = 45
      · subst h; rfl
      · have a1 : ((45 : UInt8) == b) = false := by rw [beq_eq_false_iff_ne]; exact fun e => h e.symm
        have a2 : (some b == some (45 : UInt8)) = false := by rw [beq_eq_false_iff_ne]; exact fun e => h (Option.some.inj e)
        rw [a1, a2]
  refine ⟨h1, ?_⟩
  unfold Lib.trimPrefix restL
  rw [h1]
  cases h : minB l with
  | true => rw [if_pos rfl, if_pos rfl]; exact List.drop_one
  | false => rw [if_neg (by decide), if_neg (by decide)]
theorem cut_any (s : ByteArray) (w : World) : Calls Tryd.prog 46 #[.string s, .string ⟨#[45]⟩] w fun e w' => e = .returned (.tuple #[.string (strOf (restL s.data.toList)), .bool (minB s.data.toList)]) ∧ w = w' := by
  have := Tryd.strings_CutPrefix s ⟨#[45]⟩ w
  rw [show (⟨#[45]⟩ : ByteArray).data.toList = [45] from rfl, (cut_min _).1, (cut_min _).2] at this
  exact this.mono fun _ _ ⟨h1, h2⟩ => ⟨h1, h2.symm⟩
theorem neg_conv (D : Nat) (h1 : 0 < D) (h2 : D ≤ 9223372036854775808) : ∃ Z, IntKind.u64.wrap (-(D : Int)) = Z ∧ IntKind.i64.wrap Z = -(D : Int) ∧ wrap64 Z = -(D : Int) := by
  have hw : ∀ x : Int, IntKind.u64.wrap x = x % 18446744073709551616 := fun x => rfl
  refine ⟨_, rfl, ?_, ?_⟩
  · rw [IntKind.wrap_i64, hw]; omega
  · rw [hw]; unfold wrap64; omega
set_option maxRecDepth 100000 in
set_option maxHeartbeats 4000000 in
theorem signed_is (q : Bool) (s : ByteArray) (a : Int) (hs : s.size ≤ 100000) (w : World) :
    Calls Tryd.prog 21 #[wordV q s a] w
      fun e w' => e = .returned (.tuple #[.int .i64 (sgnG q s.data.toList).1, .int .i64 (sgnG q s.data.toList).2]) ∧ Below w.heap.size w w' := by
  have hC := fun w => cut_any s w
  have hrl := rest_len s.data.toList
  rw [bytes_size] at hrl
  have hI := fun w => isNumber_any (strOf (restL s.data.toList)) (by rw [strOf_size]; omega) w
  rw [strOf_dat] at hI
  have hB : ∀ (c : Value) (t : TypeId), Below w.heap.size w (w.alloc (.cells #[.bool q, .string s, .int .i64 a] t)) := fun _ t => (Below.refl _ _).alloc (Nat.le_refl _) _
  have hG : sgnG q s.data.toList = if q = true ∨ numB (restL s.data.toList) = false ∨ (minB s.data.toList = true ∧ restL s.data.toList = [48]) then (0, 3)
      else if 9223372036854775808 < decN 0 (restL s.data.toList) ∨ (decN 0 (restL s.data.toList) = 9223372036854775808 ∧ minB s.data.toList = false) then (0, 2)
      else (if minB s.data.toList = true then -(decN 0 (restL s.data.toList) : Int) else (decN 0 (restL s.data.toList) : Int), 0) := rfl
  rw [hG]
  obtain ⟨m, hm⟩ : ∃ m, m = minB s.data.toList := ⟨_, rfl⟩
  obtain ⟨r, hr⟩ : ∃ r, r = restL s.data.toList := ⟨_, rfl⟩
  rw [← hm, ← hr] at hC ⊢
  rw [← hr] at hI
  clear hG hm hr hrl
  have hrt : (strOf r).toList = r := by rw [toL, strOf_dat]
  unfold wordV
  cases q with
  | true =>
    rw [if_pos (Or.inl rfl)]
    have hN : True := trivial
    clear hI hN
    go_enter Tryd.func21, Tryd.ntmps21
    go_wp2_with (first | (go_at_call 46; refine (hC _).mono ?_; rintro e w' ⟨rfl, rfl⟩))
    go_ret2
    exact ⟨rfl, hB .nilFunc _⟩
  | false =>
    cases hn : numB r with
    | false =>
      rw [if_pos (Or.inr (Or.inl rfl))]
      rw [hn] at hI
      clear hn
      go_enter Tryd.func21, Tryd.ntmps21
      go_wp2_with (first | (go_at_call 46; refine (hC _).mono ?_; rintro e w' ⟨rfl, rfl⟩) | (go_at_call 42; refine (hI _).mono ?_; rintro e w' ⟨rfl, rfl⟩))
      go_ret2
      exact ⟨rfl, hB .nilFunc _⟩
    | true =>
      rw [hn] at hI
      have hn2 : numB (strOf r).data.toList = true := by rw [strOf_dat]; exact hn
      obtain ⟨h20, had⟩ := num_digits hn2
      have hN := fun w => natural_any (strOf r) h20 had w
      rw [strOf_dat] at hN
      have hz := digB_zero (numB_iff.1 hn).1
      cases m with
      | true =>
        by_cases h48 : r = [48]
        · rw [if_pos (Or.inr (Or.inr ⟨rfl, h48⟩))]
          have hb : (r == [48]) = true := by rw [h48]; decide
          clear hz had hn hn2 h48
          go_enter Tryd.func21, Tryd.ntmps21
          go_wp2_with (first | (go_at_call 46; refine (hC _).mono ?_; rintro e w' ⟨rfl, rfl⟩) | (go_at_call 42; refine (hI _).mono ?_; rintro e w' ⟨rfl, rfl⟩) | (go_at_call 43; refine (hN _).mono ?_; rintro e w' ⟨rfl, rfl⟩))
          go_ret2
          exact ⟨rfl, hB .nilFunc _⟩
        · have hb : (r == [48]) = false := by rw [beq_eq_false_iff_ne]; exact h48
          rw [if_neg (fun h => by rcases h with h | h | h <;> first | exact h48 h.2 | cases h)]
          have hD0 : 0 < decN 0 r := Nat.pos_of_ne_zero fun e => h48 (hz.2 e)
          obtain ⟨D, hD⟩ : ∃ D, D = decN 0 r := ⟨_, rfl⟩
          rw [← hD] at hN hD0 ⊢
          clear hz had hn hn2 h48 hD
          by_cases hbig : 9223372036854775808 < D
          · rw [if_pos (Or.inl hbig)]
            by_cases ht : top < D
            · have e1 : (if D ≤ top then D else 0) = 0 := if_neg (by omega)
              have e2 : decide (D ≤ top) = false := decide_eq_false (by omega)
              rw [e1, e2] at hN
              clear e1 e2 ht hbig
              go_enter Tryd.func21, Tryd.ntmps21
              go_wp2_with (first | (go_at_call 46; refine (hC _).mono ?_; rintro e w' ⟨rfl, rfl⟩) | (go_at_call 42; refine (hI _).mono ?_; rintro e w' ⟨rfl, rfl⟩) | (go_at_call 43; refine (hN _).mono ?_; rintro e w' ⟨rfl, rfl⟩))
              go_ret2
              exact ⟨rfl, hB .nilFunc _⟩
            · have e1 : (if D ≤ top then D else 0) = D := if_pos (by omega)
              have e2 : decide (D ≤ top) = true := decide_eq_true (by omega)
              rw [e1, e2] at hN
              have hbi : (9223372036854775808 : Int) < (D : Int) := by omega
              clear e1 e2 ht hbig
              go_enter Tryd.func21, Tryd.ntmps21
              go_wp2_with (first | (go_at_call 46; refine (hC _).mono ?_; rintro e w' ⟨rfl, rfl⟩) | (go_at_call 42; refine (hI _).mono ?_; rintro e w' ⟨rfl, rfl⟩) | (go_at_call 43; refine (hN _).mono ?_; rintro e w' ⟨rfl, rfl⟩))
              go_ret2
              exact ⟨rfl, hB .nilFunc _⟩
          · rw [if_neg (fun h => h.elim hbig fun h => by cases h.2), if_pos rfl]
            have e1 : (if D ≤ top then D else 0) = D := if_pos (by unfold top; omega)
            have e2 : decide (D ≤ top) = true := decide_eq_true (by unfold top; omega)
            rw [e1, e2] at hN
            have hbi : ¬ (9223372036854775808 : Int) < (D : Int) := by omega
            obtain ⟨Z, z1, z2, z3⟩ := neg_conv D hD0 (by omega)
            clear e1 e2 hbig
            go_enter Tryd.func21, Tryd.ntmps21
            go_wp2_with (first | (go_at_call 46; refine (hC _).mono ?_; rintro e w' ⟨rfl, rfl⟩) | (go_at_call 42; refine (hI _).mono ?_; rintro e w' ⟨rfl, rfl⟩) | (go_at_call 43; refine (hN _).mono ?_; rintro e w' ⟨rfl, rfl⟩))
            go_ret2
            exact ⟨rfl, hB .nilFunc _⟩
      | false =>
        rw [if_neg (fun h => by rcases h with h | h | h <;> first | exact absurd h.1 (by decide) | cases h)]
        obtain ⟨D, hD⟩ : ∃ D, D = decN 0 r := ⟨_, rfl⟩
        rw [← hD] at hN ⊢
        clear hz had hn hn2 hD
        by_cases hbig : 9223372036854775807 < D
        · rw [if_pos (show 9223372036854775808 < D ∨ D = 9223372036854775808 ∧ false = false from (Nat.lt_or_ge 9223372036854775808 D).elim .inl fun h => .inr ⟨by omega, rfl⟩)]
          by_cases ht : top < D
          · have e1 : (if D ≤ top then D else 0) = 0 := if_neg (by omega)
            have e2 : decide (D ≤ top) = false := decide_eq_false (by omega)
            rw [e1, e2] at hN
            clear e1 e2 ht hbig
            go_enter Tryd.func21, Tryd.ntmps21
            go_wp2_with (first | (go_at_call 46; refine (hC _).mono ?_; rintro e w' ⟨rfl, rfl⟩) | (go_at_call 42; refine (hI _).mono ?_; rintro e w' ⟨rfl, rfl⟩) | (go_at_call 43; refine (hN _).mono ?_; rintro e w' ⟨rfl, rfl⟩))
            go_ret2
            exact ⟨rfl, hB .nilFunc _⟩
          · have e1 : (if D ≤ top then D else 0) = D := if_pos (by omega)
            have e2 : decide (D ≤ top) = true := decide_eq_true (by omega)
            rw [e1, e2] at hN
            have hbi : (9223372036854775807 : Int) < (D : Int) := by omega
            clear e1 e2 ht hbig
            go_enter Tryd.func21, Tryd.ntmps21
            go_wp2_with (first | (go_at_call 46; refine (hC _).mono ?_; rintro e w' ⟨rfl, rfl⟩) | (go_at_call 42; refine (hI _).mono ?_; rintro e w' ⟨rfl, rfl⟩) | (go_at_call 43; refine (hN _).mono ?_; rintro e w' ⟨rfl, rfl⟩))
            go_ret2
            exact ⟨rfl, hB .nilFunc _⟩
        · rw [if_neg (fun h => by omega), if_neg (by decide)]
          have e1 : (if D ≤ top then D else 0) = D := if_pos (by unfold top; omega)
          have e2 : decide (D ≤ top) = true := decide_eq_true (by unfold top; omega)
          rw [e1, e2] at hN
          have hbi : ¬ (9223372036854775807 : Int) < (D : Int) := by omega
          have hle : (D : Int) ≤ 9223372036854775807 := by omega
          have z1 : IntKind.i64.wrap (D : Int) = (D : Int) := IntWalk.i64_in _ ⟨by omega, by omega⟩
          clear e1 e2 hbig
          go_enter Tryd.func21, Tryd.ntmps21
          go_wp2_with (first | (go_at_call 46; refine (hC _).mono ?_; rintro e w' ⟨rfl, rfl⟩) | (go_at_call 42; refine (hI _).mono ?_; rintro e w' ⟨rfl, rfl⟩) | (go_at_call 43; refine (hN _).mono ?_; rintro e w' ⟨rfl, rfl⟩))
          go_ret2
          exact ⟨rfl, hB .nilFunc _⟩
end Go.Proofs.YtkmkhegekonbmaaDoor
