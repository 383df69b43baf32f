/- Walks: the reference's Which. -/
import Derived.Test.YtkmkhegekonbmaaDoorRowF
namespace Go.Proofs.YtkmkhegekonbmaaDoor
open Go.RowKit
open Rw6

/-- Which of the names a text is: the number of the first one from k on. -/
def idxG (s : ByteArray) : List ByteArray → Nat → Option Nat
  | [], _ => none
  | x :: xs, k => if x = s then some k else idxG s xs (k + 1)
theorem idxG_skip (s : ByteArray) (l : List ByteArray) : ∀ k n, (∀ j (h : j < l.length), j < k → l[j] ≠ s) → k ≤ l.length → idxG s l n = idxG s (l.drop k) (n + k) := by
  induction l with
  | nil => intro k n _ h; simp at h; subst h; rfl
  | cons x xs ih =>
    intro k n h hk
    cases k with
    | zero => rfl
    | succ k =>
      have h0 := h 0 (by simp) (by omega)
      simp only [List.getElem_cons_zero] at h0
      show (if x = s then _ else idxG s xs (n + 1)) = idxG s (xs.drop k) _
      rw [if_neg h0, ih k (n + 1) (fun j hj hk => by have := h (j + 1) (by simpa using hj) (by omega); simpa using this) (by simpa using hk), Nat.add_assoc, Nat.add_comm 1 k]
theorem idxG_at {s : ByteArray} {l : List ByteArray} {k : Nat} (h : ∀ j (h : j < l.length), j < k → l[j] ≠ s) (hk : k < l.length) (he : l[k] = s) : idxG s l 0 = some k := by
  rw [idxG_skip s l k 0 h (by omega), List.drop_eq_getElem_cons hk, Nat.zero_add]
  show (if l[k] = s then _ else _) = _
  rw [if_pos he]
theorem idxG_none {s : ByteArray} {l : List ByteArray} (h : ∀ j (h : j < l.length), l[j] ≠ s) : idxG s l 0 = none := by
  rw [idxG_skip s l l.length 0 (fun j hj _ => h j hj) (Nat.le_refl _), List.drop_length]
  rfl
def whichG (q : Bool) (s : ByteArray) (l : List ByteArray) : Int × Int := if q = true then (0, 7) else match idxG s l 0 with | some i => ((i : Int), 0) | none => (0, 7)
set_option maxRecDepth 100000 in
set_option maxHeartbeats 2000000 in
theorem refWhich_any (q : Bool) (s : ByteArray) (a : Int) (v : Value) (l : List ByteArray) (w : World) (hv : Slc w v (l.map Value.string)) :
    Calls Tryd.prog 20 #[wordV q s a, v] w
      fun e w' => e = .returned (.tuple #[.int .i64 (whichG q s l).1, .int .i64 (whichG q s l).2]) ∧ Below w.heap.size w w' := by
  have hlen := hv.len
  simp only [List.length_map] at hlen
  have hv' := hv.alloc (.cells #[.bool q, .string s, .int .i64 a] 31)
  obtain ⟨A, cap, rfl, _, _, hc⟩ := hv'
  have hll : (l.map Value.string).length = l.length := by simp
  rw [hll]
  have HC := Lib.hid hc
  unfold wordV
  clear hc hll hv
  cases q with
  | true =>
    by_cases h0 : (0 : Int) < (l.length : Int)
    all_goals
      go_enter Tryd.func20, Tryd.ntmps20
      go_wp2
      go_loop [6] (fun i => i = .int .i64 0) (fun _ => 0)
      case atStart => rfl
      case round =>
        subst hrel
        go_wp2
        go_ret2
        exact ⟨rfl, (Below.refl _ _).alloc (Nat.le_refl _) _⟩
  | false =>
    have hW := fun k h hk he => idxG_at (s := s) (l := l) (k := k) h hk he
    have hN := fun h => idxG_none (s := s) (l := l) h
    unfold whichG
    rw [if_neg (by decide)]
    obtain ⟨R, hR⟩ : ∃ R, R = idxG s l 0 := ⟨_, rfl⟩
    rw [← hR] at hW hN ⊢
    have HW := Lib.hid hW
    have HN := Lib.hid hN
    clear hR hW hN
    go_enter Tryd.func20, Tryd.ntmps20
    go_wp2
    go_loopw [6] (fun i wr => ∃ k n : Nat, k ≤ l.length ∧ i = .int .i64 (k : Int) ∧ wr = (w.alloc (.cells #[.bool false, .string s, .int .i64 a] 31)).drewN n ∧ Hid (∀ j (h : j < l.length), j < k → l[j] ≠ s)) (fun i _ => l.length - (intOf i).toNat)
    case atStart => exact ⟨0, 0, Nat.zero_le _, rfl, rfl, Lib.hid (fun j _ h => by omega)⟩
    case round =>
      obtain ⟨k, n, hk, rfl, rfl, hA⟩ := hrel
      have hB : ∀ n, Below w.heap.size w ((w.alloc (.cells #[.bool false, .string s, .int .i64 a] 31)).drewN n) := fun n => below_drewN ((Below.refl _ _).alloc (Nat.le_refl _) _) n
      by_cases hlt : k < l.length
      · obtain ⟨p, rfl, _, hcell⟩ := HC.out k (by simpa using hlt)
        rw [List.getElem_map] at hcell
        have hi : (k : Int) < (l.length : Int) := by omega
        by_cases hx : l[k] = s
        · have hr := HW.out k hA.out hlt hx
          rw [hx] at hcell
          clear HN HW
          subst hr
          clear hx hA
          go_wp2
          go_quiet (fail)
          go_wp2
          go_ret2
          exact ⟨rfl, hB _⟩
        · have hA2 := Lib.hid (show ∀ j (h : j < l.length), j < k + 1 → l[j] ≠ s from fun j hj h => by
            by_cases e : j = k
            · subst e; exact hx
            · exact hA.out j hj (by omega))
          obtain ⟨x, hxe⟩ : ∃ x, x = l[k] := ⟨_, rfl⟩
          rw [← hxe] at hcell hx
          have hx2 : ¬ x.toList = s.toList := fun e => hx (by rw [toL, toL] at e; rw [str_is e, ← str_is rfl])
          have hx3 : (x.toList == s.toList) = false := by rw [beq_eq_false_iff_ne]; exact hx2
          clear hA hxe
          go_wp2
          go_quiet (fail)
          go_wp2
          go_roundw
          case rel => exact ⟨k + 1, _, by omega, by go_num, rfl, hA2⟩
          case measure => simp [intOf]; omega
      · have hi : ¬ (k : Int) < (l.length : Int) := by omega
        have hr := HN.out (fun j hj => hA.out j hj (by omega))
        clear HN HW
        subst hr
        clear hA
        go_wp2
        go_ret2
        exact ⟨rfl, hB _⟩
end Go.Proofs.YtkmkhegekonbmaaDoor
