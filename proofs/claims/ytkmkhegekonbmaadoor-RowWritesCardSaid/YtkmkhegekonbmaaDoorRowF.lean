/- The reference's numbers with a sign, in closed form; its two digits of a byte. -/
import Derived.Test.YtkmkhegekonbmaaDoorRowE
namespace Go.Proofs.YtkmkhegekonbmaaDoor
open Go.RowKit
open Rw6

theorem sgn_form (q : Bool) (l t : List UInt8) (ht : t = restL l) :
    sgnG q l = (if q = true ∨ numB t = false ∨ (minB l = true ∧ (t == [48]) = true) then ((0 : Int), (3 : Int))
      else if digG t = true ∨ 9223372036854775808 < digN t ∨ (digN t = 9223372036854775808 ∧ minB l = false) then (0, 2)
      else (if minB l = true then -(digN t : Int) else (digN t : Int), 0)) := by
  subst ht
  unfold sgnG
  have e1 : ((restL l == [48]) = true) ↔ restL l = [48] := beq_iff_eq
  by_cases h : q = true ∨ numB (restL l) = false ∨ (minB l = true ∧ restL l = [48])
  · rw [if_pos h, if_pos (h.imp id (Or.imp id fun h => ⟨h.1, e1.2 h.2⟩))]
  · have h' : ¬ (q = true ∨ numB (restL l) = false ∨ (minB l = true ∧ (restL l == [48]) = true)) := fun h2 => h (h2.imp id (Or.imp id fun h => ⟨h.1, e1.1 h.2⟩))
    rw [if_neg h, if_neg h']
    have hn : numB (restL l) = true := by
      cases e : numB (restL l) with
      | true => rfl
      | false => exact absurd (Or.inr (Or.inl e)) h
    obtain ⟨y1, y2⟩ := dig_yes hn
    cases hg : digG (restL l) with
    | true =>
      have := y1.1 hg
      unfold top at this
      have h3 : 9223372036854775808 < decN 0 (restL l) ∨ (decN 0 (restL l) = 9223372036854775808 ∧ minB l = false) := Or.inl (by omega)
      rw [if_pos h3, if_pos (Or.inl rfl)]
    | false =>
      have e2 := y2 hg
      rw [e2]
      by_cases h3 : 9223372036854775808 < decN 0 (restL l) ∨ (decN 0 (restL l) = 9223372036854775808 ∧ minB l = false)
      · rw [if_pos h3, if_pos (Or.inr h3)]
      · have h4 : ¬ (false = true ∨ 9223372036854775808 < decN 0 (restL l) ∨ (decN 0 (restL l) = 9223372036854775808 ∧ minB l = false)) := fun h => h.elim (by decide) h3
        rw [if_neg h3, if_neg h4]
theorem refSigned_any (q : Bool) (s : ByteArray) (a : Int) (hs : s.size ≤ 100000) (w : World) :
    Calls Tryd.prog 22 #[wordV q s a] w
      fun e w' => e = .returned (.tuple #[.int .i64 (sgnG q s.data.toList).1, .int .i64 (sgnG q s.data.toList).2]) ∧ Below w.heap.size w w' := by
  cases hm : minB s.data.toList with
  | false =>
    refine refSigned_form q false s s a hs hs (fun _ => ⟨fun h0 h e => ?_, rfl⟩) (fun h => by cases h) _ rfl w _ ?_
    · rw [(min_first h0).2 e] at hm; cases hm
    · rw [sgn_form q _ _ (not_min hm).symm, hm, toL]
  | true =>
    have hp : 0 < s.size := by
      by_cases h : 0 < s.size
      · exact h
      · have hl : s.data.toList = [] := List.eq_nil_of_length_eq_zero (by rw [bytes_size]; omega)
        rw [hl] at hm
        cases hm
    have hl := rest_len s.data.toList
    rw [bytes_size] at hl
    refine refSigned_form q true s (strOf (restL s.data.toList)) a (by rw [strOf_size]; omega) hs (fun h => by cases h) (fun _ => ⟨hp, (min_first hp).1 hm, rest_cut hm⟩) _ rfl w _ ?_
    rw [sgn_form q _ _ rfl, hm, toL, strOf_dat]
end Go.Proofs.YtkmkhegekonbmaaDoor
