/- Walks: the program's cursor in a line. -/
import Derived.Test.YtkmkhegekonbmaaDoorRowL
import Derived.Test.YtkmkhegekonbmaaDoorRowK
import Derived.Deep.DeepCutAuto
namespace Go.Proofs.YtkmkhegekonbmaaDoor
open Go.RowKit
open Rw6

/-- The cursor in block R: the line, the place, and where the line begins. -/
def Cur (w : World) (R : Nat) (s : ByteArray) (k : Nat) (f : Int) : Prop := Blk w R [.string s, .int .i64 (k : Int), .int .i64 f]
/-- What stands behind the place. -/
def restAt (s : ByteArray) (k : Nat) : List UInt8 := s.data.toList.drop k
/-- The byte at which a cursor stands: a line feed behind the line. -/
def nextI (l : List UInt8) : Int := match l with | [] => 10 | b :: _ => (b.toNat : Int)
theorem rest_cons {s : ByteArray} {k : Nat} (h : k < s.size) : restAt s k = s[k]'h :: restAt s (k + 1) := by
  unfold restAt
  have h2 : k < s.data.toList.length := by rw [bytes_size]; exact h
  rw [List.drop_eq_getElem_cons h2]
  rfl
theorem rest_nil {s : ByteArray} {k : Nat} (h : s.size ≤ k) : restAt s k = [] := List.drop_eq_nil_of_le (by rw [bytes_size]; exact h)
theorem Cur.parts {w : World} {R : Nat} {s : ByteArray} {k : Nat} {f : Int} (h : Cur w R s k f) : R < w.heap.size ∧ w.cell? ⟨R, 0, none⟩ = some (.string s) ∧ w.cell? ⟨R, 1, none⟩ = some (.int .i64 (k : Int)) ∧ w.cell? ⟨R, 2, none⟩ = some (.int .i64 f) ∧ w.frozen? ⟨R, 0, none⟩ = false ∧ w.frozen? ⟨R, 1, none⟩ = false ∧ w.frozen? ⟨R, 2, none⟩ = false :=
  ⟨h.lt, h.cell 0 _ rfl, h.cell 1 _ rfl, h.cell 2 _ rfl, h.fr 0 _ rfl, h.fr 1 _ rfl, h.fr 2 _ rfl⟩
theorem Cur.drewN {w : World} {R : Nat} {s : ByteArray} {k : Nat} {f : Int} (h : Cur w R s k f) (n : Nat) : Cur (w.drewN n) R s k f := Blk.drewN h n
theorem Cur.step {w : World} {R : Nat} {s : ByteArray} {k : Nat} {f : Int} (h : Cur w R s k f) (k' : Int) (e : k' = ((k + 1 : Nat) : Int)) : Cur (w.setCell ⟨R, 1, none⟩ (.int .i64 k')) R s (k + 1) f := by
  subst e; exact Blk.set h 1 _
set_option maxRecDepth 100000 in
theorem next_any {w : World} {R : Nat} {s : ByteArray} {k : Nat} {f : Int} (h : Cur w R s k f) (hk : k ≤ s.size) (_hs : s.size ≤ 100000) :
    Calls Tryd.prog 71 #[.pointer (some ⟨R, 0, none⟩)] w fun e w' => e = .returned (.int .u8 (nextI (restAt s k))) ∧ ∃ n, w' = w.drewN n := by
  obtain ⟨hlt, c0, c1, c2, f0, f1, f2⟩ := h.parts
  by_cases hz : k = s.size
  · subst hz
    rw [rest_nil (Nat.le_refl _)]
    go_enter Tryd.func71, Tryd.ntmps71
    go_wp2
    go_quiet (fail)
    go_wp2
    go_ret
    exact ⟨rfl, _, rfl⟩
  · have hkl : k < s.size := by omega
    rw [rest_cons hkl]
    have hn : ((k : Int) == (s.size : Int)) = false := by rw [beq_eq_false_iff_ne]; omega
    have hn2 : ¬ (k : Int) = (s.size : Int) := by omega
    have g1 : (0 : Int) ≤ (k : Int) := by omega
    have g2 : (k : Int) < (s.size : Int) := by omega
    clear hz
    go_enter Tryd.func71, Tryd.ntmps71
    go_wp2
    go_quiet (fail)
    go_wp2
    go_quiet (fail)
    go_wp2
    go_ret
    exact ⟨rfl, _, World.drewN_drewN _ _ _⟩
/-- The place behind the byte at which a cursor stands. -/
def stepK (s : ByteArray) (k : Nat) : Nat := if k < s.size then k + 1 else k
theorem only_grown {b : Nat} {w w' : World} (h : Only b w w') : w.grownBy w' (some b) := ⟨h.os, h.tape, h.output, Nat.le_of_eq h.size.symm, fun k _ hk => h.block k (fun e => hk (by rw [e]))⟩
/-- No line feed. -/
def flat (s : ByteArray) : Prop := ∀ b ∈ s.data.toList, ¬ (b.toNat : Int) = 10
theorem flat_at {s : ByteArray} (h : flat s) {k : Nat} (hk : k < s.size) : ¬ ((s[k]'hk).toNat : Int) = 10 := h _ (by
  have h2 := byte_at s k hk
  exact List.mem_of_mem_take (by rw [h2]; simp))
set_option maxRecDepth 100000 in
theorem take_any {w : World} {R : Nat} {s : ByteArray} {k : Nat} {f : Int} (h : Cur w R s k f) (hk : k ≤ s.size) (hs : s.size ≤ 100000) (hf : flat s) :
    Calls Tryd.prog 78 #[.pointer (some ⟨R, 0, none⟩)] w fun e w' => e = .returned (.int .u8 (nextI (restAt s k))) ∧ Only R w w' ∧ Cur w' R s (stepK s k) f := by
  have hN := next_any h hk hs
  by_cases hkl : k < s.size
  · have e1 : stepK s k = k + 1 := if_pos hkl
    have hb := flat_at hf hkl
    rw [rest_cons hkl] at hN ⊢
    rw [e1]
    obtain ⟨c, hc⟩ : ∃ c : Int, c = ((s[k]'hkl).toNat : Int) := ⟨_, rfl⟩
    have hNc : nextI (s[k]'hkl :: restAt s (k + 1)) = c := hc.symm
    rw [hNc] at hN ⊢
    rw [← hc] at hb
    have hbb : (c != 10) = true := by simpa using hb
    have hw : IntKind.i64.wrap ((k : Int) + 1) = (k : Int) + 1 := IntWalk.i64_in _ ⟨by omega, by omega⟩
    clear hc hNc hf e1
    go_enter Tryd.func78, Tryd.ntmps78
    go_wp2_with (go_at_call 71; refine hN.mono ?_; rintro e w' ⟨rfl, n, rfl⟩; obtain ⟨hlt, c0, c1, c2, f0, f1, f2⟩ := (h.drewN n).parts)
    go_ret
    exact ⟨rfl, ((Only.refl _ _).drewN _).setCell _ _, (h.drewN _).step _ (by go_num)⟩
  · have hz : k = s.size := by omega
    have e1 : stepK s k = k := if_neg hkl
    rw [rest_nil (by omega)] at hN ⊢
    rw [e1]
    have hNc : nextI [] = 10 := rfl
    rw [hNc] at hN ⊢
    clear hz e1 hNc hf
    go_enter Tryd.func78, Tryd.ntmps78
    go_wp2_with (go_at_call 71; refine hN.mono ?_; rintro e w' ⟨rfl, n, rfl⟩)
    go_ret
    exact ⟨rfl, (Only.refl _ _).drewN _, h.drewN _⟩
theorem flat_rest {s : ByteArray} (h : flat s) (k : Nat) : ∀ b ∈ restAt s k, ¬ (b.toNat : Int) = 10 := fun b hb => h b (List.mem_of_mem_drop hb)
set_option maxRecDepth 100000 in
theorem isBehind_any {w : World} {R : Nat} {s : ByteArray} {k : Nat} {f : Int} (h : Cur w R s k f) (hk : k ≤ s.size) (hs : s.size ≤ 100000) (hf : flat s) :
    Calls Tryd.prog 80 #[.pointer (some ⟨R, 0, none⟩)] w fun e w' => e = .returned (.bool (endB (restAt s k))) ∧ ∃ n, w' = w.drewN n := by
  have hN := fun n => next_any (h.drewN n) hk hs
  cases hr : restAt s k with
  | nil =>
    rw [hr] at hN
    have hNc : nextI [] = 10 := rfl
    rw [hNc] at hN
    clear hr hNc hf
    go_enter Tryd.func80, Tryd.ntmps80
    go_wp2_with (go_at_call 71; refine (hN 0).mono ?_; rintro e w' ⟨rfl, n, rfl⟩)
    go_ret
    exact ⟨rfl, _, rfl⟩
  | cons b r =>
    have hb := flat_rest hf k b (by rw [hr]; simp)
    rw [hr] at hN
    have hNc : nextI (b :: r) = (b.toNat : Int) := rfl
    have he : endB (b :: r) = blankB b := rfl
    rw [hNc] at hN
    rw [he]
    have hB := fun w => isBlank_any b w
    obtain ⟨p, hp⟩ : ∃ p, p = blankB b := ⟨_, rfl⟩
    rw [← hp] at hB ⊢
    obtain ⟨c, hc⟩ : ∃ c : Int, c = (b.toNat : Int) := ⟨_, rfl⟩
    rw [← hc] at hB hb hN
    have hbb : (c == 10) = false := by rw [beq_eq_false_iff_ne]; exact hb
    clear hc hNc hr he hp hf
    go_enter Tryd.func80, Tryd.ntmps80
    go_wp2_with (first | (go_at_call 71; with_reducible refine (hN _).mono ?_; rintro e w' ⟨rfl, n, rfl⟩) | (go_at_call 71; refine (hN 0).mono ?_; rintro e w' ⟨rfl, n, rfl⟩) | (go_at_call 70; refine (hB _).mono ?_; rintro e w' ⟨rfl, rfl⟩))
    go_ret
    exact ⟨rfl, _, rfl⟩
end Go.Proofs.YtkmkhegekonbmaaDoor
