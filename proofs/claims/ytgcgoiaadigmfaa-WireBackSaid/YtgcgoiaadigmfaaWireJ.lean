/- Walks: the reference's readers. -/
import Derived.Test.YtgcgoiaadigmfaaWireI
namespace Go.Proofs.Ytgcgoiaadigmfaa
open Go.RowKit
open Wr

theorem soundI {s : ByteArray} {at_ err fat : Int} : (Rd.sp ⟨s, at_, err, fat⟩).sound = true ↔ 0 ≤ at_ ∧ at_ ≤ s.size ∧ (err = 0 ∧ fat = 0 ∨ 1 ≤ err ∧ err ≤ 23 ∧ 0 ≤ fat ∧ fat ≤ s.size) := by
  have e : (Rd.sp ⟨s, at_, err, fat⟩).sound = (within at_ s.size && (if err = 0 then decide (fat = 0) else isErr err && within fat s.size)) := rfl
  rw [e, Bool.and_eq_true]
  have e1 : ∀ a b : Int, within a b = true ↔ 0 ≤ a ∧ a ≤ b := fun a b => by simp [within]
  have e2 : isErr err = true ↔ 0 < err ∧ err ≤ 23 := by simp [isErr]
  by_cases h : err = 0
  · rw [if_pos h, e1, decide_eq_true_iff]; omega
  · rw [if_neg h, Bool.and_eq_true, e1, e1, e2]; omega
def openB (s : ByteArray) (at_ err fat : Int) (b : Bool) : Prop := (Rd.opened ⟨s, at_, err, fat⟩) = if b then Rd.sp ⟨s, at_, err, fat⟩ else Sp.bad
theorem openB_of {s : ByteArray} {at_ err fat : Int} {b : Bool} (h : (Rd.sp ⟨s, at_, err, fat⟩).sound = true ↔ b = true) : openB s at_ err fat b := by
  unfold openB Rd.opened
  by_cases hb : b = true
  · rw [if_pos (h.2 hb), if_pos hb]
  · rw [if_neg (fun e => hb (h.1 e)), if_neg hb]
set_option maxHeartbeats 4000000 in
theorem refReader_any (r : Rd) (w : World) :
    Calls Try.prog 48 #[r.val] w fun e w' => e = .returned r.opened.given.val ∧ Below w.heap.size w w' := by
  obtain ⟨s, at_, err, fat⟩ := r
  have hd : ∃ b, openB s at_ err fat b ∧ ((0 ≤ at_ ∧ at_ ≤ s.size ∧ (err = 0 ∧ fat = 0 ∨ 1 ≤ err ∧ err ≤ 23 ∧ 0 ≤ fat ∧ fat ≤ s.size)) ↔ b = true) :=
    ⟨_, openB_of (Iff.rfl), soundI.symm⟩
  obtain ⟨b, hb, hbi⟩ := hd
  have HB := Lib.hid hb
  clear hb
  simp only [Rd.val]
  have ha : at_ < 0 ∨ 0 ≤ at_ ∧ (s.size : Int) < at_ ∨ 0 ≤ at_ ∧ at_ ≤ s.size := by omega
  have hc : err = 0 ∧ fat = 0 ∨ err = 0 ∧ fat ≠ 0 ∨ err ≠ 0 ∧ err < 1 ∨ err ≠ 0 ∧ 1 ≤ err ∧ 23 < err ∨ err ≠ 0 ∧ 1 ≤ err ∧ err ≤ 23 ∧ fat < 0 ∨ err ≠ 0 ∧ 1 ≤ err ∧ err ≤ 23 ∧ 0 ≤ fat ∧ (s.size : Int) < fat ∨ err ≠ 0 ∧ 1 ≤ err ∧ err ≤ 23 ∧ 0 ≤ fat ∧ fat ≤ s.size := by omega
  rcases ha with ha | ⟨ha, ha'⟩ | ⟨ha, ha'⟩ <;> rcases hc with ⟨h0, h0'⟩ | ⟨h0, hf⟩ | ⟨he, he'⟩ | ⟨he, he', he''⟩ | ⟨he, he', he'', hf⟩ | ⟨he, he', he'', hf, hf'⟩ | ⟨he, he', he'', hf, hf'⟩ <;> cases b
  all_goals
    have h4 := hbi.1
    have h5 := hbi.2
    clear hbi
    simp only [Bool.false_eq_true, imp_false, false_imp_iff, forall_const] at h4 h5
    try (exfalso; omega)
  all_goals
    try clear h4
    try clear h5
    try subst h0
    try subst h0'
    try (have hfd : decide (fat ≤ (s.size : Int)) = false := by simpa using hf')
    try (have had : decide (at_ ≤ (s.size : Int)) = false := by simpa using ha')
    try (have hfb : (fat == 0) = false := by simpa using hf)
    try (have heb : (err == 0) = false := by simpa using he)
    try clear he
    go_enter Try.func48, Try.ntmps48
    go_wp2
    go_returns
    exact ⟨by rw [HB.out]; rfl, by go_grown⟩
end Go.Proofs.Ytgcgoiaadigmfaa
