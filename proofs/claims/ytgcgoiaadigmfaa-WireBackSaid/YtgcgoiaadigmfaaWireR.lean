/- Walks: the reference's writers: writer, put, digits. -/
import Derived.Test.YtgcgoiaadigmfaaWireP
namespace Go.Proofs.Ytgcgoiaadigmfaa
open Go.RowKit
open Wr
namespace Wr
def putWt (w : Wt) (s : ByteArray) (refused : Int) : Wt :=
  if w.err ≠ 0 then w else if refused ≠ 0 then { w with err := refused } else if w.most - w.s.size < s.size then { w with err := 4 } else { w with s := w.s ++ s }
theorem put_fail (x : Sp) (s : ByteArray) (e a : Int) (he : e ≠ 0) : putWt x.wgiven s e = (x.failAt e a).wgiven := by
  obtain ⟨u, m, e0, a0, s0⟩ := x
  by_cases h : e0 = 0
  · simp [putWt, Sp.failAt, Sp.wgiven, h, he]
  · simp [putWt, Sp.failAt, Sp.wgiven, h]
theorem put_add (x : Sp) (l : List ByteArray) (hu : x.u = x.s.size) : putWt x.wgiven (strOf (flat l)) 0 = (x.add l).wgiven := by
  have hs : (strOf (flat l)).size = total l := by rw [strOf_size, flat_length]
  obtain ⟨u, m, e0, a0, s0⟩ := x
  simp only at hu
  subst hu
  by_cases h : e0 = 0
  · by_cases h2 : m - (s0.size : Int) < total l
    · simp [putWt, Sp.add, Sp.failAt, Sp.wgiven, h, hs, h2]
    · simp [putWt, Sp.add, Sp.wgiven, h, hs, h2]
  · simp [putWt, Sp.add, Sp.wgiven, h]
theorem wsoundI {s : ByteArray} {most err : Int} : (most ≤ 20000 ∧ (Wt.sp ⟨s, most, err⟩).sound = true) ↔ 0 ≤ most ∧ most ≤ 20000 ∧ s.size ≤ most ∧ 0 ≤ err ∧ err ≤ 23 := by
  have e : (Wt.sp ⟨s, most, err⟩).sound = (within s.size most && (if err = 0 then decide ((0 : Int) = 0) else isErr err && within 0 most)) := rfl
  rw [e, Bool.and_eq_true]
  have e1 : ∀ a b : Int, within a b = true ↔ 0 ≤ a ∧ a ≤ b := fun a b => by simp [within]
  have e2 : isErr err = true ↔ 0 < err ∧ err ≤ 23 := by simp [isErr]
  by_cases h : err = 0
  · rw [if_pos h, e1, decide_eq_true_iff]; omega
  · rw [if_neg h, Bool.and_eq_true, e1, e1, e2]; omega
def wopenB (s : ByteArray) (most err : Int) (b : Bool) : Prop := (Wt.opened ⟨s, most, err⟩) = if b then Wt.sp ⟨s, most, err⟩ else Sp.bad
theorem wopenB_of {s : ByteArray} {most err : Int} {b : Bool} (h : (most ≤ 20000 ∧ (Wt.sp ⟨s, most, err⟩).sound = true) ↔ b = true) : wopenB s most err b := by
  unfold wopenB Wt.opened
  by_cases hb : b = true
  · rw [if_pos (h.2 hb), if_pos hb]
  · rw [if_neg (fun e => hb (h.1 e)), if_neg hb]
theorem wopened_u (r : Wt) : r.opened.u = r.opened.s.size := by
  unfold Wt.opened
  split <;> rfl
end Wr
set_option maxHeartbeats 4000000 in
theorem refWriter_any (r : Wt) (w : World) :
    Calls Try.prog 62 #[r.val] w fun e w' => e = .returned r.opened.wgiven.val ∧ Below w.heap.size w w' := by
  obtain ⟨s, most, err⟩ := r
  have hd : ∃ b, wopenB s most err b ∧ ((0 ≤ most ∧ most ≤ 20000 ∧ s.size ≤ most ∧ 0 ≤ err ∧ err ≤ 23) ↔ b = true) :=
    ⟨decide (0 ≤ most ∧ most ≤ 20000 ∧ s.size ≤ most ∧ 0 ≤ err ∧ err ≤ 23), wopenB_of (wsoundI.trans (by simp)), by simp⟩
  obtain ⟨b, hb, hbi⟩ := hd
  have HB := Lib.hid hb
  clear hb
  simp only [Wt.val]
  have ha : most < 0 ∨ 0 ≤ most ∧ 20000 < most ∨ 0 ≤ most ∧ most ≤ 20000 ∧ most < s.size ∨ 0 ≤ most ∧ most ≤ 20000 ∧ s.size ≤ most ∧ err < 0 ∨ 0 ≤ most ∧ most ≤ 20000 ∧ s.size ≤ most ∧ 0 ≤ err ∧ 23 < err ∨ 0 ≤ most ∧ most ≤ 20000 ∧ s.size ≤ most ∧ 0 ≤ err ∧ err ≤ 23 := by omega
  rcases ha with ha | ⟨ha, ha1⟩ | ⟨ha, ha1, ha2⟩ | ⟨ha, ha1, ha2, ha3⟩ | ⟨ha, ha1, ha2, ha3, ha4⟩ | ⟨ha, ha1, ha2, ha3, ha4⟩ <;> cases b
  all_goals
    have h4 := hbi.1
    have h5 := hbi.2
    clear hbi
    simp only [Bool.false_eq_true, imp_false, false_imp_iff, forall_const] at h4 h5
    try (exfalso; omega)
  all_goals
    try clear h4
    try clear h5
    try (have hd1 : decide (most < (s.size : Int)) = false := by simpa using ha2)
    go_enter Try.func62, Try.ntmps62
    go_wp2
    go_returns
    exact ⟨by rw [HB.out]; rfl, by go_grown⟩
theorem refPut_any (r : Wt) (t : ByteArray) (q : Int) (w : World) (hs : r.s.size ≤ 1000000) (ht : t.size ≤ 1000000) (hm : 0 ≤ r.most) (hm' : r.most ≤ 20000) :
    Calls Try.prog 68 #[r.val, .string t, .int .i64 q] w fun e w' => e = .returned (putWt r t q).val ∧ Below w.heap.size w w' := by
  obtain ⟨s, most, err⟩ := r
  simp only at hs hm hm'
  by_cases he : err = 0
  · subst he
    by_cases hq : q = 0
    · subst hq
      by_cases hl : most - (s.size : Int) < t.size
      · have hx := Lib.hid (show putWt ⟨s, most, 0⟩ t 0 = ⟨s, most, 4⟩ by unfold putWt; rw [if_neg (fun h => h rfl), if_neg (fun h => h rfl)]; exact if_pos hl)
        simp only [Wt.val]
        go_enter Try.func68, Try.ntmps68
        go_wp2
        go_returns
        exact ⟨by rw [hx.out], by go_grown⟩
      · have hx := Lib.hid (show putWt ⟨s, most, 0⟩ t 0 = ⟨s ++ t, most, 0⟩ by unfold putWt; rw [if_neg (fun h => h rfl), if_neg (fun h => h rfl)]; exact if_neg hl)
        simp only [Wt.val]
        go_enter Try.func68, Try.ntmps68
        go_wp2
        go_returns
        exact ⟨by rw [hx.out], by go_grown⟩
    · have hx := Lib.hid (show putWt ⟨s, most, 0⟩ t q = ⟨s, most, q⟩ by unfold putWt; rw [if_neg (fun h => h rfl)]; exact if_pos hq)
      have hqb : (q != 0) = true := by simpa using hq
      clear hq
      simp only [Wt.val]
      go_enter Try.func68, Try.ntmps68
      go_wp2
      go_returns
      exact ⟨by rw [hx.out], by go_grown⟩
  · have hx := Lib.hid (show putWt ⟨s, most, err⟩ t q = ⟨s, most, err⟩ by unfold putWt; exact if_pos he)
    have heb : (err != 0) = true := by simpa using he
    clear he
    simp only [Wt.val]
    go_enter Try.func68, Try.ntmps68
    go_wp2
    go_returns
    exact ⟨by rw [hx.out], by go_grown⟩
theorem strOf_append (a b : List UInt8) : strOf a ++ strOf b = strOf (a ++ b) := by
  apply ByteArray.ext
  rw [ByteArray.data_append]
  show a.toArray ++ b.toArray = (a ++ b).toArray
  simp
theorem refDigits_any (n : Nat) (size : Nat) (w : World) (hn : n < 18446744073709551616) (h8 : size ≤ 8) :
    Calls Try.prog 67 #[.int .u64 n, .int .i64 size] w fun e w' => e = .returned (.string (strOf (digI n size))) ∧ Below w.heap.size w w' := by
  go_enter Try.func67, Try.ntmps67
  go_wp2
  go_loopw [5, 0, 6] (fun out m i wr => ∃ k : Nat, k ≤ size ∧ i = .int .i64 k ∧ m = .int .u64 ((n / 256 ^ k : Nat) : Int) ∧ out = .string (strOf (digI n k)) ∧ Below w.heap.size w wr) (fun _ _ i _ => size - (intOf i).toNat)
  case atStart => exact ⟨0, by omega, rfl, by simp, rfl, Below.refl _ _⟩
  case round =>
    obtain ⟨k, hk, rfl, rfl, rfl, hB⟩ := hrel
    by_cases hlt : k < size
    · obtain ⟨m, hm⟩ : ∃ m, m = n / 256 ^ k := ⟨_, rfl⟩
      have hm64 : m < 18446744073709551616 := by rw [hm]; exact Nat.lt_of_le_of_lt (Nat.div_le_self _ _) hn
      have hbv := byteAt_val n k
      have hb : ((byteAt n k).toNat : Int) = ((m % 256 : Nat) : Int) := by rw [hbv, hm]; simp
      have hnext := Lib.hid (show n / 256 ^ (k + 1) = m / 256 by rw [hm, Nat.pow_succ, Nat.div_div_eq_div_mul])
      rw [← hm]
      have HM := Lib.hid hm
      have Hb := Lib.hid hb
      clear hm hb hbv
      have hsz : (strOf (digI n k)).size ≤ 8 := by rw [strOf_size, digI_length]; omega
      have hsz1 : (strOf [byteAt n k]).size ≤ 8 := by rw [strOf_size]; simp
      have hcat := Lib.hid (show strOf [byteAt n k] ++ strOf (digI n k) = strOf (digI n (k + 1)) by rw [digI_succ, strOf_append]; rfl)
      obtain ⟨s1, hs1⟩ : ∃ s1, s1 = strOf [byteAt n k] := ⟨_, rfl⟩
      have hconv := conv_bytes Try.underlying102 Try.underlying5 Try.underlying9 (Slc.lit wr (bvals [byteAt n k]) 5 1 rfl (by decide)) (by simp)
      rw [show bvals [byteAt n k] = [.int .u8 ((m : Int) % 256)] by rw [bvals, List.map_cons, List.map_nil, Hb.out]; congr 1] at hconv
      rw [← hs1] at hconv hsz1 hcat
      clear hs1
      go_wp2
      go_roundw
      case rel => exact ⟨k + 1, by omega, by go_num, by rw [hnext.out]; simp, by rw [hcat.out], hB.alloc hB.size _⟩
      case measure => simp [intOf]; omega
    · obtain rfl : k = size := by omega
      go_wp2
      go_returns
      exact ⟨rfl, hB⟩
end Go.Proofs.Ytgcgoiaadigmfaa
