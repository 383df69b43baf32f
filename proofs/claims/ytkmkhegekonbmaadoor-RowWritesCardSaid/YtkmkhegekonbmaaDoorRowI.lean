/- Walks: the reference's words as they are written. -/
import Derived.Test.YtkmkhegekonbmaaDoorRowH
namespace Go.Proofs.YtkmkhegekonbmaaDoor
open Go.RowKit
open Rw6

def wordG (q : Bool) (l : List UInt8) : List UInt8 × Int := if q = true then (wordW true l, 0) else if bareB l = true then (l, 0) else ([], 3)
theorem ext_one (s : ByteArray) (k : Nat) (h : k < s.size) : s.extract k (k + 1) = strOf [s[k]'h] := by
  apply str_is
  rw [ByteArray.data_extract, Array.toList_extract]
  simp only [List.extract_eq_take_drop]
  have e : k + 1 - k = 1 := by omega
  have h2 : k < s.data.toList.length := by rw [bytes_size]; exact h
  rw [e, List.drop_eq_getElem_cons h2]
  simp
  rfl
theorem escL_snoc (l : List UInt8) (b : UInt8) : escL (l ++ [b]) = escL l ++ escB b := by unfold escL; simp
theorem sum_is (x y : List UInt8) (h : x.length + y.length ≤ 1000000) (w : World) : (Op.stringOp .add (strOf x) (strOf y)).run Tryd.prog w = .ok (.string (strOf (x ++ y))) w := by
  rw [strOf_app]
  exact run_string_add_sum w _ _ (by rw [strOf_size, strOf_size]; omega)
theorem take_len_le (s : ByteArray) (k : Nat) (hs : s.size ≤ 100000) : (escL (s.data.toList.take k)).length ≤ 400000 := by
  have h1 := escL_len (s.data.toList.take k)
  have h2 : (s.data.toList.take k).length ≤ s.data.toList.length := by rw [List.length_take]; omega
  rw [bytes_size] at h2
  omega
set_option maxRecDepth 100000 in
set_option maxHeartbeats 4000000 in
theorem refWord_quoted (s : ByteArray) (a : Int) (hs : s.size ≤ 100000) (w : World) :
    Calls Tryd.prog 16 #[wordV true s a] w
      fun e w' => e = .returned (.tuple #[.string (strOf (wordW true s.data.toList)), .int .i64 0]) ∧ Below w.heap.size w w' := by
  have hP := fun b w => refPrint_any b w
  have hT := fun b w => refTwo_any b w
  have hend : ∀ w, (Op.stringOp .add ⟨#[34]⟩ (strOf (escL s.data.toList))).run Tryd.prog w = .ok (.string (strOf (34 :: escL s.data.toList))) w := fun w =>
    sum_is [34] _ (by have := take_len_le s s.size hs; rw [List.take_of_length_le (by rw [bytes_size]; omega)] at this; show 1 + _ ≤ _; omega) w
  have hend2 : ∀ w, (Op.stringOp .add (strOf (34 :: escL s.data.toList)) ⟨#[34]⟩).run Tryd.prog w = .ok (.string (strOf (wordW true s.data.toList))) w := fun w =>
    sum_is (34 :: escL s.data.toList) [34] (by have := take_len_le s s.size hs; rw [List.take_of_length_le (by rw [bytes_size]; omega)] at this; rw [List.length_cons]; show _ + 1 + 1 ≤ _; omega) w
  have HE := Lib.hid hend
  have HE2 := Lib.hid hend2
  clear hend hend2
  unfold wordV
  go_enter Tryd.func16, Tryd.ntmps16
  go_wp2
  go_loopw [4, 5] (fun o i wr => ∃ k n : Nat, k ≤ s.size ∧ i = .int .i64 (k : Int) ∧ o = .string (strOf (escL (s.data.toList.take k))) ∧ wr = (w.alloc (.cells #[.bool true, .string s, .int .i64 a] 31)).drewN n) (fun _ i _ => s.size - (intOf i).toNat)
  case atStart => exact ⟨0, 0, Nat.zero_le _, rfl, rfl, rfl⟩
  case round =>
    obtain ⟨k, n, hk, rfl, rfl, rfl⟩ := hrel
    have hB : ∀ n, Below w.heap.size w ((w.alloc (.cells #[.bool true, .string s, .int .i64 a] 31)).drewN n) := fun n => below_drewN ((Below.refl _ _).alloc (Nat.le_refl _) _) n
    by_cases hlt : k < s.size
    · have hi : (k : Int) < (s.size : Int) := by omega
      have hPk := fun w => hP (s[k]'hlt) w
      have hTk := fun w => hT (s[k]'hlt) w
      have hex := ext_one s k hlt
      have hlen := take_len_le s k hs
      have hnx : escL (s.data.toList.take (k + 1)) = escL (s.data.toList.take k) ++ escB (s[k]'hlt) := by rw [byte_at s k hlt, escL_snoc]
      obtain ⟨O, hO⟩ : ∃ O, O = escL (s.data.toList.take k) := ⟨_, rfl⟩
      rw [← hO] at hlen hnx ⊢
      obtain ⟨b, hbe⟩ : ∃ b, b = s[k]'hlt := ⟨_, rfl⟩
      have hbz : ((s[k]'hlt).toNat : Int) = (b.toNat : Int) := by rw [hbe]
      rw [← hbe] at hPk hTk hex hnx
      have f1 : (k : Int) ≤ (k : Int) + 1 := by omega
      have f2 : (k : Int) + 1 ≤ (s.size : Int) := by omega
      have f3 : ((k : Int) + 1).toNat = k + 1 := by omega
      have f4 : (0 : Int) ≤ (k : Int) := by omega
      have f5 : IntKind.i64.wrap ((k : Int) + 1) = (k : Int) + 1 := IntWalk.i64_in _ ⟨by omega, by omega⟩
      have s1 : ∀ w, (Op.stringOp .add (strOf O) ⟨#[92]⟩).run Tryd.prog w = .ok (.string (strOf (O ++ [92]))) w := sum_is O [92] (by show _ + 1 ≤ _; omega)
      have s2 : ∀ w, (Op.stringOp .add (strOf (O ++ [92])) (strOf [b])).run Tryd.prog w = .ok (.string (strOf (O ++ [92] ++ [b]))) w := sum_is (O ++ [92]) [b] (by rw [List.length_append]; show _ + 1 + 1 ≤ _; omega)
      have s3 : ∀ w, (Op.stringOp .add (strOf O) (strOf [b])).run Tryd.prog w = .ok (.string (strOf (O ++ [b]))) w := sum_is O [b] (by show _ + 1 ≤ _; omega)
      have s4 : ∀ w, (Op.stringOp .add (strOf O) ⟨#[92, 120]⟩).run Tryd.prog w = .ok (.string (strOf (O ++ [92, 120]))) w := sum_is O [92, 120] (by show _ + 2 ≤ _; omega)
      have s5 : ∀ w, (Op.stringOp .add (strOf (O ++ [92, 120])) (strOf (twoG b))).run Tryd.prog w = .ok (.string (strOf (O ++ [92, 120] ++ twoG b))) w := sum_is (O ++ [92, 120]) (twoG b) (by rw [List.length_append]; show _ + 2 + 2 ≤ _; omega)
      obtain ⟨p, hp⟩ : ∃ p, p = printB b := ⟨_, rfl⟩
      rw [← hp] at hPk
      rw [← hex] at s2 s3
      have q34 : b = 34 ↔ (b.toNat : Int) = 34 := by
        have := u8_ne (b := b) (k := 34) (by decide)
        exact Decidable.not_iff_not.1 this
      have q92 : b = 92 ↔ (b.toNat : Int) = 92 := by
        have := u8_ne (b := b) (k := 92) (by decide)
        exact Decidable.not_iff_not.1 this
      obtain ⟨c, hc⟩ : ∃ c : Int, c = (b.toNat : Int) := ⟨_, rfl⟩
      rw [← hc] at q34 q92 hbz hPk hTk
      clear hlen hex hO hP hT hbe
      by_cases c34 : c = 34
      · have hE : escB b = [92] ++ [b] := by unfold escB; rw [if_pos (Or.inl (q34.2 c34))]; rfl
        rw [hE, ← List.append_assoc] at hnx
        have HN := Lib.hid hnx
        clear q34 q92 hE hnx hp hc s3 s4 s5
        go_wp2
        go_roundw
        case rel => exact ⟨k + 1, _, by omega, by go_num, by first | (rw [HN.out]; done) | (rw [HN.out]; simp), rfl⟩
        case measure => simp [intOf]; omega
      · by_cases c92 : c = 92
        · have hE : escB b = [92] ++ [b] := by unfold escB; rw [if_pos (Or.inr (q92.2 c92))]; rfl
          rw [hE, ← List.append_assoc] at hnx
          have HN := Lib.hid hnx
          clear q34 q92 hE hnx hp hc s3 s4 s5
          go_wp2
          go_roundw
          case rel => exact ⟨k + 1, _, by omega, by go_num, by first | (rw [HN.out]; done) | (rw [HN.out]; simp), rfl⟩
          case measure => simp [intOf]; omega
        · have hn : ¬ (b = 34 ∨ b = 92) := fun h => h.elim (fun h => c34 (q34.1 h)) (fun h => c92 (q92.1 h))
          have c34b : (c == 34) = false := by rw [beq_eq_false_iff_ne]; exact c34
          have c92b : (c == 92) = false := by rw [beq_eq_false_iff_ne]; exact c92
          cases p with
          | true =>
            have hE : escB b = [b] := by unfold escB; rw [if_neg hn, if_pos hp.symm]
            rw [hE] at hnx
            have HN := Lib.hid hnx
            clear q34 q92 hE hnx hp hc s1 s2 s4 s5 hn
            go_wp2_with (go_at_call 40; refine (hPk _).mono ?_; rintro e w' ⟨rfl, rfl⟩)
            go_roundw
            case rel => exact ⟨k + 1, _, by omega, by go_num, by first | (rw [HN.out]; done) | (rw [HN.out]; simp), rfl⟩
            case measure => simp [intOf]; omega
          | false =>
            have hE : escB b = [92, 120] ++ twoG b := by unfold escB; rw [if_neg hn, if_neg (by rw [← hp]; decide)]; rfl
            rw [hE, ← List.append_assoc] at hnx
            have HN := Lib.hid hnx
            clear q34 q92 hE hnx hp hc s1 s2 s3 hn
            go_wp2_with (first | (go_at_call 40; refine (hPk _).mono ?_; rintro e w' ⟨rfl, rfl⟩) | (go_at_call 41; refine (hTk _).mono ?_; rintro e w' ⟨rfl, m, rfl⟩))
            go_roundw
            case rel => exact ⟨k + 1, _, by omega, by go_num, by first | (rw [HN.out]; done) | (rw [HN.out]; simp), rfl⟩
            case measure => simp [intOf]; omega
    · have hi : ¬ (k : Int) < (s.size : Int) := by omega
      have hall : s.data.toList.take k = s.data.toList := List.take_of_length_le (by rw [bytes_size]; omega)
      rw [hall]
      have e1 := HE.out
      have e2 := HE2.out
      clear hP hT hall
      go_wp2
      go_ret2
      exact ⟨rfl, hB _⟩
end Go.Proofs.YtkmkhegekonbmaaDoor
