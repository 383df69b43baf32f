/- Walks: the reference's texts of numbers. -/
import Derived.Test.YtlembnpplnbagaaDoorSumJ
import Derived.Test.YtlembnpplnbagaaDoorSumC
import Derived.Deep.LoopGhost
import Derived.IntWalk
namespace Go.Proofs.YtlembnpplnbagaaDoor
open Go.RowKit Go.Shelf
open Sm

theorem conv5_lit (w : World) (xs : List UInt8) (ys : List Value) (n : Nat) (hy : ys = bvals xs) (hn : xs.length = n) (h0 : xs ≠ []) (hl : n ≤ 100) :
    (convert 83 9 (.slice (some ⟨w.heap.size, 0, none⟩) n n)).run Tryd.prog (w.alloc (.cells ys.toArray 5)) = .ok (.string (strOf xs)) (w.alloc (.cells ys.toArray 5)) := by
  subst hy
  exact conv_bytes Tryd.underlying83 Tryd.underlying5 Tryd.underlying9 (Slc.lit w (bvals xs) 5 n (by simpa [bvals] using hn) (by omega)) h0
theorem strOf_app (a b : List UInt8) : strOf (a ++ b) = strOf a ++ strOf b := by
  apply ByteArray.ext
  simp [strOf]
theorem dec_len (n : Nat) (h : n < 18446744073709551616) : (Lib.decDigits n).length ≤ 20 := by
  have h1 : (Lib.decDigits n).length = Lib.nDigits n := Lib.decDigits_length n
  rw [h1]
  by_cases h0 : n = 0
  · subst h0; rw [Lib.nDigits_small (by decide)]; decide
  · have := Lib.numDigits_eq n (by omega) h
    split at this <;> omega
/-- The digits of u are those of m, which may have gone, and then these. -/
def tailB (u m : Nat) (out : List UInt8) : Prop := Lib.decDigits u = (if m = 0 ∧ out ≠ [] then [] else Lib.decDigits m) ++ out
theorem tail_step {u m : Nat} {out : List UInt8} (h : tailB u m out) (hgo : 1 ≤ m ∨ out = []) : tailB u (m / 10) (UInt8.ofNat (48 + m % 10) :: out) := by
  unfold tailB at *
  rw [if_neg (fun e => by rcases hgo with h1 | h1; omega; exact e.2 h1)] at h
  rw [h]
  by_cases h1 : m < 10
  · rw [dec_one h1, if_pos ⟨by omega, by simp⟩, Nat.mod_eq_of_lt h1]; rfl
  · rw [dec_more h1, if_neg (fun e => by have := e.1; omega), List.append_assoc]; rfl
theorem tail_len {u m : Nat} {out : List UInt8} (h : tailB u m out) (hu : u < 18446744073709551616) : out.length ≤ 20 := by
  have := dec_len u hu
  rw [h, List.length_append] at this
  omega
theorem meas5 {m k : Nat} {out : List UInt8} (h1 : out = [] → m + 1 ≤ k) (h2 : out ≠ [] → m ≤ k) (hgo : 1 ≤ m ∨ out = []) : m / 10 < k := by
  by_cases h : out = []
  · have := h1 h; omega
  · have := h2 h
    have := hgo.resolve_right h
    omega
theorem strEmpty {s : ByteArray} (h : s.toList ≠ []) : s.toList.isEmpty = false := by
  cases e : s.toList with
  | nil => exact absurd e h
  | cons _ _ => rfl
set_option maxRecDepth 100000 in
set_option maxHeartbeats 1000000 in
theorem refDigits_any (u : Nat) (hu : u < 18446744073709551616) (w : World) :
    Calls Tryd.prog 63 #[.int .u64 (u : Int)] w fun e w' => e = .returned (.string (strOf (Lib.decDigits u))) ∧ Below w.heap.size w w' := by
  go_enter Tryd.func63, Tryd.ntmps63
  go_wp2
  go_loopg [0, 3] (u + 1) (fun k s0 s3 wr => ∃ (m : Nat) (out : List UInt8), s0 = .int .u64 (m : Int) ∧ s3 = .string (strOf out) ∧ m < 18446744073709551616 ∧ Hid (tailB u m out) ∧ (out = [] → m + 1 ≤ k) ∧ (out ≠ [] → m ≤ k) ∧ Below w.heap.size w wr)
  case atStart => exact ⟨u, [], rfl, rfl, hu, Lib.hid (by simp [tailB]), fun _ => Nat.le_refl _, fun h => absurd rfl h, Below.refl _ _⟩
  case round =>
    obtain ⟨m, out, rfl, rfl, hm, hT, hk1, hk2, hB⟩ := hrel
    have hlen := tail_len hT.out hu
    obtain ⟨O, hO⟩ : ∃ O, O = strOf out := ⟨_, rfl⟩
    have hOl : O.toList = out := by rw [hO, strOf_toL]
    by_cases hgo : 1 ≤ m ∨ out = []
    · have hT2 := Lib.hid (tail_step hT.out hgo)
      have HKK := Lib.hid (meas5 hk1 hk2 hgo)
      obtain ⟨d, hd⟩ : ∃ d, d = m % 10 := ⟨_, rfl⟩
      rw [← hd] at hT2
      have hconv := conv5_lit wr [UInt8.ofNat (48 + d)] [.int .u8 (48 + (d : Int))] 1 (by simp only [bvals, List.map_cons, List.map_nil]; rw [digit_val d (by omega)]; rfl) rfl (by simp) (by decide)
      have hsum : ∀ w, (Op.stringOp .add (strOf [UInt8.ofNat (48 + d)]) O).run Tryd.prog w = .ok (.string (strOf (UInt8.ofNat (48 + d) :: out))) w := fun w => by
        have e : strOf (UInt8.ofNat (48 + d) :: out) = strOf [UInt8.ofNat (48 + d)] ++ O := by rw [hO, ← strOf_app]; rfl
        rw [e]
        exact run_string_add_sum w _ _ (by rw [hO, strOf_size, strOf_size]; simp; omega)
      rw [← hO]
      obtain ⟨C, hC⟩ : ∃ C, C = strOf [UInt8.ofNat (48 + d)] := ⟨_, rfl⟩
      rw [← hC] at hconv hsum
      obtain ⟨R, hR⟩ : ∃ R, R = strOf (UInt8.ofNat (48 + d) :: out) := ⟨_, rfl⟩
      rw [← hR] at hsum
      have HR := Lib.hid hR
      have c1 : (m : Int) % 10 = (d : Int) := by omega
      have c2 : (d : Int) ≤ 9 := by omega
      have c3 : (0 : Int) ≤ (d : Int) := by omega
      have hq : m / 10 < 18446744073709551616 := by omega
      have HB := Lib.hid (hB.alloc hB.size (.cells #[.int .u8 (48 + (d : Int))] 5))
      have HD := Lib.hid hd
      clear hk1 hk2 hlen hC hR hO hT hd
      by_cases h1 : 1 ≤ m
      · have z1 : (0 : Int) < (m : Int) := by omega
        clear hgo h1
        go_wp2
        go_roundg (m / 10)
        case measure => exact HKK.out
        case rel => exact ⟨m / 10, _, by go_num, congrArg Value.string HR.out, hq, hT2, fun h => (by cases h), fun _ => Nat.le_refl _, HB.out⟩
      · obtain rfl : m = 0 := by omega
        have hOe : O.toList = [] := by rw [hOl]; exact hgo.resolve_left h1
        obtain rfl : d = 0 := HD.out
        have hconv0 : (convert 83 9 (.slice (some ⟨wr.heap.size, 0, none⟩) 1 1)).run Tryd.prog (wr.alloc (.cells #[.int .u8 48] 5)) = .ok (.string C) (wr.alloc (.cells #[.int .u8 48] 5)) := hconv
        have HB0 : Hid (Below w.heap.size w (wr.alloc (.cells #[.int .u8 48] 5))) := HB
        clear hgo h1 hOl hconv HB c1 c2 c3
        go_wp2
        go_roundg (0 / 10)
        case measure => exact HKK.out
        case rel => exact ⟨0 / 10, _, rfl, congrArg Value.string HR.out, hq, hT2, fun h => (by cases h), fun _ => Nat.le_refl _, HB0.out⟩
    · obtain rfl : m = 0 := by omega
      have hne : out ≠ [] := fun h => hgo (.inr h)
      have hOn : ¬ O.toList = [] := by rw [hOl]; exact hne
      have hOb := strEmpty hOn
      have hend : strOf (Lib.decDigits u) = O := by
        have := hT.out
        unfold tailB at this
        rw [if_pos ⟨rfl, hne⟩] at this
        rw [this, hO]; rfl
      rw [← hO]
      have HE := Lib.hid hend
      have HB := Lib.hid hB
      clear hT hk1 hk2 hlen hO hOl hgo hne hend hB
      go_wp2
      go_ret
      exact ⟨by rw [HE.out]; rfl, HB.out⟩
end Go.Proofs.YtlembnpplnbagaaDoor
