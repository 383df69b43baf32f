/- Walks: which of some names a word is; the program's. -/
import Derived.Test.YtkmkhegekonbmaaDoorRowCC
namespace Go.Proofs.YtkmkhegekonbmaaDoor
open Go.RowKit
open Rw6

def idxI (s : ByteArray) (l : List ByteArray) : Int := match idxG s l 0 with | some i => (i : Int) | none => -1
set_option maxRecDepth 100000 in
set_option maxHeartbeats 2000000 in
theorem index_any (s : ByteArray) (v : Value) (l : List ByteArray) (w : World) (hv : Slc w v (l.map Value.string)) :
    Calls Tryd.prog 45 #[v, .string s] w fun e w' => e = .returned (.int .i64 (idxI s l)) ∧ w = w' := by
  have hlen := hv.len
  simp only [List.length_map] at hlen
  obtain ⟨A, cap, rfl, _, _, hc⟩ := hv
  have hll : (l.map Value.string).length = l.length := by simp
  rw [hll]
  have HC := Lib.hid hc
  have hW := fun k h hk he => idxG_at (s := s) (l := l) (k := k) h hk he
  have hN := fun h => idxG_none (s := s) (l := l) h
  unfold idxI
  obtain ⟨R, hR⟩ : ∃ R, R = idxG s l 0 := ⟨_, rfl⟩
  rw [← hR] at hW hN ⊢
  have HW := Lib.hid hW
  have HN := Lib.hid hN
  clear hc hll hR hW hN
  go_enter Tryd.func45, Tryd.ntmps45
  go_wp2
  go_loop [8] (fun i => ∃ k : Nat, k ≤ l.length ∧ i = .int .i64 (k : Int) ∧ Hid (∀ j (h : j < l.length), j < k → l[j] ≠ s)) (fun i => l.length - (intOf i).toNat)
  case atStart => exact ⟨0, Nat.zero_le _, rfl, Lib.hid (fun j _ h => by omega)⟩
  case round =>
    obtain ⟨k, hk, rfl, hA⟩ := hrel
    by_cases hlt : k < l.length
    · obtain ⟨p, rfl, _, hcell⟩ := HC.out k (by simpa using hlt)
      rw [List.getElem_map] at hcell
      have hi : (k : Int) < (l.length : Int) := by omega
      by_cases hx : l[k] = s
      · have hr := HW.out k hA.out hlt hx
        rw [hx] at hcell
        clear HN HW
        subst hr
        clear hx hA
        go_wp2
        go_ret
        exact ⟨rfl, rfl⟩
      · have hA2 := Lib.hid (show ∀ j (h : j < l.length), j < k + 1 → l[j] ≠ s from fun j hj h => by
          by_cases e : j = k
          · subst e; exact hx
          · exact hA.out j hj (by omega))
        obtain ⟨x, hxe⟩ : ∃ x, x = l[k] := ⟨_, rfl⟩
        rw [← hxe] at hcell hx
        have hx2 : ¬ s.toList = x.toList := fun e => hx (by rw [toL, toL] at e; rw [str_is e.symm, ← str_is rfl])
        have hx3 : (s.toList == x.toList) = false := by rw [beq_eq_false_iff_ne]; exact hx2
        clear hA hxe
        go_wp2
        go_round
        case rel => exact ⟨k + 1, by omega, by go_num, hA2⟩
        case measure => simp [intOf]; omega
    · have hi : ¬ (k : Int) < (l.length : Int) := by omega
      have hr := HN.out (fun j hj => hA.out j hj (by omega))
      clear HN HW
      subst hr
      clear hA
      go_wp2
      go_ret
      exact ⟨rfl, rfl⟩
theorem idxG_nat (s : ByteArray) (l : List ByteArray) : idxI s l = -1 ∨ 0 ≤ idxI s l := by
  unfold idxI
  cases idxG s l 0 with
  | none => exact .inl rfl
  | some i => exact .inr (by simp only; omega)
set_option maxRecDepth 100000 in
set_option maxHeartbeats 2000000 in
theorem which_is (q : Bool) (s : ByteArray) (a : Int) (v : Value) (l : List ByteArray) (w : World) (hv : Slc w v (l.map Value.string)) :
    Calls Tryd.prog 19 #[wordV q s a, v] w
      fun e w' => e = .returned (.tuple #[.int .i64 (whichG q s l).1, .int .i64 (whichG q s l).2]) ∧ Below w.heap.size w w' := by
  have hI := index_any s v l _ (hv.alloc (.cells #[.bool q, .string s, .int .i64 a] 31))
  have hB : ∀ (c : Value) (t : TypeId), Below w.heap.size w (w.alloc (.cells #[.bool q, .string s, .int .i64 a] t)) := fun _ t => (Below.refl _ _).alloc (Nat.le_refl _) _
  have hG : whichG q s l = if q = true ∨ idxI s l < 0 then (0, 7) else (idxI s l, 0) := by
    unfold whichG idxI
    cases q with
    | true => rw [if_pos rfl, if_pos (Or.inl rfl)]
    | false =>
      rw [if_neg (by decide)]
      cases idxG s l 0 with
      | none => rw [if_pos (Or.inr (by decide))]
      | some i => rw [if_neg (fun h => h.elim (by decide) (fun h => by simp only at h; omega))]
  rw [hG]
  have hn := idxG_nat s l
  obtain ⟨X, hX⟩ : ∃ X, X = idxI s l := ⟨_, rfl⟩
  rw [← hX] at hI hn ⊢
  unfold wordV
  clear hG hX hv
  cases q with
  | true =>
    rw [if_pos (Or.inl rfl)]
    clear hn
    go_enter Tryd.func19, Tryd.ntmps19
    go_wp2_with (go_at_call 45; refine hI.mono ?_; rintro e w' ⟨rfl, rfl⟩)
    go_ret2
    exact ⟨rfl, hB .nilFunc _⟩
  | false =>
    rcases hn with rfl | hn
    · rw [if_pos (Or.inr (by decide))]
      go_enter Tryd.func19, Tryd.ntmps19
      go_wp2_with (go_at_call 45; refine hI.mono ?_; rintro e w' ⟨rfl, rfl⟩)
      go_ret2
      exact ⟨rfl, hB .nilFunc _⟩
    · rw [if_neg (fun h => h.elim (by decide) (fun h => by omega))]
      have hn2 : ¬ X < 0 := by omega
      go_enter Tryd.func19, Tryd.ntmps19
      go_wp2_with (go_at_call 45; refine hI.mono ?_; rintro e w' ⟨rfl, rfl⟩)
      go_ret2
      exact ⟨rfl, hB .nilFunc _⟩
end Go.Proofs.YtkmkhegekonbmaaDoor
