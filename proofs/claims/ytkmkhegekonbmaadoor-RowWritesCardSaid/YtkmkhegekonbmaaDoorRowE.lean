/- Walks: the reference's numbers with a sign. -/
import Derived.Test.YtkmkhegekonbmaaDoorRowD
namespace Go.Proofs.YtkmkhegekonbmaaDoor
open Go.RowKit
open Rw6

theorem min_first {s : ByteArray} (h : 0 < s.size) : minB s.data.toList = true ↔ ((s[0]'h).toNat : Int) = 45 := by
  obtain ⟨r, hr⟩ := byte_zero h
  rw [hr]
  have e : minB ((s[0]'h) :: r) = ((s[0]'h) == 45) := by unfold minB; rw [List.head?_cons]; rfl
  rw [e, beq_iff_eq]
  constructor
  · intro h; rw [h]; rfl
  · intro h2
    apply UInt8.toNat_inj.1
    have : (s[0]'h).toNat = 45 := by omega
    rw [this]; rfl
theorem rest_cut {s : ByteArray} (hm : minB s.data.toList = true) : s.extract 1 s.size = strOf (restL s.data.toList) := by
  apply str_is
  have h1 : (s.extract 1 s.size).data.toList = (s.data.toList.take s.size).drop 1 := by
    rw [ByteArray.data_extract, Array.toList_extract]
    simp [List.extract_eq_take_drop, List.drop_take]
  rw [h1, List.take_of_length_le (by rw [bytes_size]; omega)]
  unfold restL
  rw [if_pos hm, List.drop_one]
theorem rest_len (l : List UInt8) : (restL l).length ≤ l.length := by unfold restL; split <;> simp
set_option maxRecDepth 100000 in
set_option maxHeartbeats 4000000 in
/-- Signed, where the digits' text is t: with - in front or without. -/
theorem refSigned_form (q m : Bool) (s t : ByteArray) (a : Int) (ht : t.size ≤ 100000)
    (hs : s.size ≤ 100000) (h0 : m = false → (0 < s.size → ∀ h : 0 < s.size, ¬ ((s[0]'h).toNat : Int) = 45) ∧ t = s)
    (h1 : m = true → ∃ h : 0 < s.size, ((s[0]'h).toNat : Int) = 45 ∧ s.extract 1 s.size = t) (z : Bool) (hz : z = (t.toList == [48])) (w : World)
    (V : Int × Int) (hV : V = (if q = true ∨ numB t.data.toList = false ∨ (m = true ∧ z = true) then ((0 : Int), (3 : Int))
      else if digG t.data.toList = true ∨ 9223372036854775808 < digN t.data.toList ∨ (digN t.data.toList = 9223372036854775808 ∧ m = false) then (0, 2)
      else (if m = true then -(digN t.data.toList : Int) else (digN t.data.toList : Int), 0))) :
    Calls Tryd.prog 22 #[wordV q s a] w
      fun e w' => e = .returned (.tuple #[.int .i64 V.1, .int .i64 V.2]) ∧ Below w.heap.size w w' := by
  have hD := fun w => refDigits_any t ht w
  have hlt := digN_lt t.data.toList
  unfold wordV
  obtain ⟨n, hn⟩ : ∃ n, n = digN t.data.toList := ⟨_, rfl⟩
  obtain ⟨g, hg⟩ : ∃ g, g = digG t.data.toList := ⟨_, rfl⟩
  obtain ⟨b, hb⟩ : ∃ b, b = numB t.data.toList := ⟨_, rfl⟩
  rw [← hn, ← hg, ← hb] at hD
  rw [← hn] at hlt
  rw [← hn, ← hg, ← hb] at hV
  clear hn hg hb
  cases m with
  | false =>
    obtain ⟨h2, rfl⟩ := h0 rfl
    clear h0 h1 hz
    by_cases hp : 0 < t.size
    · have h45 := h2 hp hp
      have h45b : (((t[0]'hp).toNat : Int) == 45) = false := by rw [beq_eq_false_iff_ne]; exact h45
      have hpz : (0 : Int) < (t.size : Int) := by omega
      clear h2
      cases q with
      | true =>
        rw [if_pos (Or.inl rfl)] at hV
        subst hV
        clear hlt
        go_enter Tryd.func22, Tryd.ntmps22
        go_wp2_with (go_at_call 44; refine (hD _).mono ?_; rintro e w' ⟨rfl, rfl⟩)
        go_ret2
        exact ⟨rfl, (Below.refl _ _).alloc (Nat.le_refl _) _⟩
      | false =>
        cases b with
        | false =>
          rw [if_pos (Or.inr (Or.inl rfl))] at hV
          subst hV
          clear hlt
          go_enter Tryd.func22, Tryd.ntmps22
          go_wp2_with (go_at_call 44; refine (hD _).mono ?_; rintro e w' ⟨rfl, rfl⟩)
          go_ret2
          exact ⟨rfl, (Below.refl _ _).alloc (Nat.le_refl _) _⟩
        | true =>
          rw [if_neg (by intro h; revert h; simp)] at hV
          cases g with
          | true =>
            rw [if_pos (Or.inl rfl)] at hV
            subst hV
            clear hlt
            go_enter Tryd.func22, Tryd.ntmps22
            go_wp2_with (go_at_call 44; refine (hD _).mono ?_; rintro e w' ⟨rfl, rfl⟩)
            go_ret2
            exact ⟨rfl, (Below.refl _ _).alloc (Nat.le_refl _) _⟩
          | false =>
            by_cases n1 : 9223372036854775808 < n
            · rw [if_pos (Or.inr (Or.inl n1))] at hV
              subst hV
              have f1 : (9223372036854775808 : Int) < (n : Int) := by omega
              clear hlt n1
              go_enter Tryd.func22, Tryd.ntmps22
              go_wp2_with (go_at_call 44; refine (hD _).mono ?_; rintro e w' ⟨rfl, rfl⟩)
              go_ret2
              exact ⟨rfl, (Below.refl _ _).alloc (Nat.le_refl _) _⟩
            · have f1 : ¬ (9223372036854775808 : Int) < (n : Int) := by omega
              by_cases n2 : n = 9223372036854775808
              · rw [if_pos (Or.inr (Or.inr ⟨n2, rfl⟩))] at hV
                subst hV
                have f2 : (n : Int) = 9223372036854775808 := by omega
                clear hlt n1 n2
                go_enter Tryd.func22, Tryd.ntmps22
                go_wp2_with (go_at_call 44; refine (hD _).mono ?_; rintro e w' ⟨rfl, rfl⟩)
                go_ret2
                exact ⟨rfl, (Below.refl _ _).alloc (Nat.le_refl _) _⟩
              · have f2 : ¬ (n : Int) = 9223372036854775808 := by omega
                rw [if_neg (fun h => h.elim (by decide) fun h => h.elim n1 fun h => n2 h.1), if_neg (by decide)] at hV
                subst hV
                have c1 : IntKind.i64.wrap (n : Int) = (n : Int) := IntWalk.i64_in _ ⟨by omega, by omega⟩
                clear hlt n1 n2
                go_enter Tryd.func22, Tryd.ntmps22
                go_wp2_with (go_at_call 44; refine (hD _).mono ?_; rintro e w' ⟨rfl, rfl⟩)
                go_ret2
                exact ⟨rfl, (Below.refl _ _).alloc (Nat.le_refl _) _⟩
    · have hl : t.data.toList = [] := List.eq_nil_of_length_eq_zero (by rw [bytes_size]; omega)
      obtain rfl : t = ⟨#[]⟩ := str_is hl
      clear h2 hp hl
      cases q with
      | true =>
        rw [if_pos (Or.inl rfl)] at hV
        subst hV
        clear hlt
        go_enter Tryd.func22, Tryd.ntmps22
        go_wp2_with (go_at_call 44; refine (hD _).mono ?_; rintro e w' ⟨rfl, rfl⟩)
        go_ret2
        exact ⟨rfl, (Below.refl _ _).alloc (Nat.le_refl _) _⟩
      | false =>
        cases b with
        | false =>
          rw [if_pos (Or.inr (Or.inl rfl))] at hV
          subst hV
          clear hlt
          go_enter Tryd.func22, Tryd.ntmps22
          go_wp2_with (go_at_call 44; refine (hD _).mono ?_; rintro e w' ⟨rfl, rfl⟩)
          go_ret2
          exact ⟨rfl, (Below.refl _ _).alloc (Nat.le_refl _) _⟩
        | true =>
          rw [if_neg (by intro h; revert h; simp)] at hV
          cases g with
          | true =>
            rw [if_pos (Or.inl rfl)] at hV
            subst hV
            clear hlt
            go_enter Tryd.func22, Tryd.ntmps22
            go_wp2_with (go_at_call 44; refine (hD _).mono ?_; rintro e w' ⟨rfl, rfl⟩)
            go_ret2
            exact ⟨rfl, (Below.refl _ _).alloc (Nat.le_refl _) _⟩
          | false =>
            by_cases n1 : 9223372036854775808 < n
            · rw [if_pos (Or.inr (Or.inl n1))] at hV
              subst hV
              have f1 : (9223372036854775808 : Int) < (n : Int) := by omega
              clear hlt n1
              go_enter Tryd.func22, Tryd.ntmps22
              go_wp2_with (go_at_call 44; refine (hD _).mono ?_; rintro e w' ⟨rfl, rfl⟩)
              go_ret2
              exact ⟨rfl, (Below.refl _ _).alloc (Nat.le_refl _) _⟩
            · have f1 : ¬ (9223372036854775808 : Int) < (n : Int) := by omega
              by_cases n2 : n = 9223372036854775808
              · rw [if_pos (Or.inr (Or.inr ⟨n2, rfl⟩))] at hV
                subst hV
                have f2 : (n : Int) = 9223372036854775808 := by omega
                clear hlt n1 n2
                go_enter Tryd.func22, Tryd.ntmps22
                go_wp2_with (go_at_call 44; refine (hD _).mono ?_; rintro e w' ⟨rfl, rfl⟩)
                go_ret2
                exact ⟨rfl, (Below.refl _ _).alloc (Nat.le_refl _) _⟩
              · have f2 : ¬ (n : Int) = 9223372036854775808 := by omega
                rw [if_neg (fun h => h.elim (by decide) fun h => h.elim n1 fun h => n2 h.1), if_neg (by decide)] at hV
                subst hV
                have c1 : IntKind.i64.wrap (n : Int) = (n : Int) := IntWalk.i64_in _ ⟨by omega, by omega⟩
                clear hlt n1 n2
                go_enter Tryd.func22, Tryd.ntmps22
                go_wp2_with (go_at_call 44; refine (hD _).mono ?_; rintro e w' ⟨rfl, rfl⟩)
                go_ret2
                exact ⟨rfl, (Below.refl _ _).alloc (Nat.le_refl _) _⟩
  | true =>
    obtain ⟨hp, h45, hc⟩ := h1 rfl
    have hpz : (0 : Int) < (s.size : Int) := by omega
    have hle : (1 : Int) ≤ (s.size : Int) := by omega
    clear h0 h1
    cases q with
    | true =>
      rw [if_pos (Or.inl rfl)] at hV
      subst hV
      clear hlt
      go_enter Tryd.func22, Tryd.ntmps22
      go_wp2_with (go_at_call 44; refine (hD _).mono ?_; rintro e w' ⟨rfl, rfl⟩)
      go_ret2
      exact ⟨rfl, (Below.refl _ _).alloc (Nat.le_refl _) _⟩
    | false =>
      cases b with
      | false =>
        rw [if_pos (Or.inr (Or.inl rfl))] at hV
        subst hV
        clear hlt
        go_enter Tryd.func22, Tryd.ntmps22
        go_wp2_with (go_at_call 44; refine (hD _).mono ?_; rintro e w' ⟨rfl, rfl⟩)
        go_ret2
        exact ⟨rfl, (Below.refl _ _).alloc (Nat.le_refl _) _⟩
      | true =>
        cases z with
        | true =>
          rw [if_pos (Or.inr (Or.inr ⟨rfl, rfl⟩))] at hV
          subst hV
          clear hlt
          have hz1 : t.toList = [48] := eq_of_beq hz.symm
          clear hz
          go_enter Tryd.func22, Tryd.ntmps22
          go_wp2_with (go_at_call 44; refine (hD _).mono ?_; rintro e w' ⟨rfl, rfl⟩)
          go_ret2
          exact ⟨rfl, (Below.refl _ _).alloc (Nat.le_refl _) _⟩
        | false =>
          have hz1 : ¬ t.toList = [48] := by have h3 := hz.symm; rw [beq_eq_false_iff_ne] at h3; exact h3
          replace hz := hz.symm
          rw [if_neg (by intro h; revert h; simp)] at hV
          cases g with
          | true =>
            rw [if_pos (Or.inl rfl)] at hV
            subst hV
            clear hlt
            go_enter Tryd.func22, Tryd.ntmps22
            go_wp2_with (go_at_call 44; refine (hD _).mono ?_; rintro e w' ⟨rfl, rfl⟩)
            go_ret2
            exact ⟨rfl, (Below.refl _ _).alloc (Nat.le_refl _) _⟩
          | false =>
            by_cases n1 : 9223372036854775808 < n
            · rw [if_pos (Or.inr (Or.inl n1))] at hV
              subst hV
              have f1 : (9223372036854775808 : Int) < (n : Int) := by omega
              clear hlt n1
              go_enter Tryd.func22, Tryd.ntmps22
              go_wp2_with (go_at_call 44; refine (hD _).mono ?_; rintro e w' ⟨rfl, rfl⟩)
              go_ret2
              exact ⟨rfl, (Below.refl _ _).alloc (Nat.le_refl _) _⟩
            · have f1 : ¬ (9223372036854775808 : Int) < (n : Int) := by omega
              rw [if_neg (fun h => h.elim (by decide) fun h => h.elim n1 fun h => absurd h.2 (by decide)), if_pos rfl] at hV
              subst hV
              obtain ⟨A, hA⟩ : ∃ A : Int, A = IntKind.u64.wrap ((n : Int) - 1) := ⟨_, rfl⟩
              obtain ⟨B, hB⟩ : ∃ B : Int, B = IntKind.i64.wrap A := ⟨_, rfl⟩
              obtain ⟨C, hC⟩ : ∃ C : Int, C = IntKind.i64.wrap (-B) := ⟨_, rfl⟩
              have c4 : IntKind.i64.wrap (C - 1) = -(n : Int) := by
                by_cases h0 : n = 0
                · subst h0; rw [hC, hB, hA]; decide
                · have e1 : A = (n : Int) - 1 := by rw [hA]; exact IntWalk.u64_in _ ⟨by omega, by omega⟩
                  have e2 : B = A := by rw [hB]; exact IntWalk.i64_in _ ⟨by omega, by omega⟩
                  have e3 : C = -B := by rw [hC]; exact IntWalk.i64_in _ ⟨by omega, by omega⟩
                  rw [IntWalk.i64_in _ ⟨by omega, by omega⟩]; omega
              replace hA := hA.symm
              replace hB := hB.symm
              replace hC := hC.symm
              have f2 : (n : Int) = 9223372036854775808 ∨ ¬ (n : Int) = 9223372036854775808 := Classical.em _
              clear hlt n1
              rcases f2 with f2 | f2
              all_goals
                go_enter Tryd.func22, Tryd.ntmps22
                go_wp2_with (go_at_call 44; refine (hD _).mono ?_; rintro e w' ⟨rfl, rfl⟩)
                go_ret2
                first | exact ⟨rfl, (Below.refl _ _).alloc (Nat.le_refl _) _⟩ | exact ⟨by rw [f2]; rfl, (Below.refl _ _).alloc (Nat.le_refl _) _⟩
end Go.Proofs.YtkmkhegekonbmaaDoor
