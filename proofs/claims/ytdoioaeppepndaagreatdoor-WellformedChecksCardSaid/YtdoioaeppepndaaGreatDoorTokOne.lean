/- Package token: the next token, first part. -/
import Derived.Test.YtdoioaeppepndaaGreatDoorProg
import Derived.Test.YtdoioaeppepndaaGreatDoorTokSm
import Derived.Test.YtdoioaeppepndaaGreatDoorBlk
import Derived.Outline
import Derived.Deep.DeepCutAuto
import Derived.BigQuiet
import Derived.Test.YtdoioaeppepndaaGreatDoorShelf
import Derived.Deep.LoopGhost
namespace Go.Proofs.YtdoioaeppepndaaGreatDoor
open Go.RowKit
open Tk7

theorem bool_not {p : Bool} {Q : Prop} (h : p = true ↔ Q) (hq : ¬ Q) : p = false := by
  cases hp : p with
  | false => rfl
  | true => exact absurd (h.1 hp) hq
theorem u8_is {b : UInt8} {n : Nat} (hn : n < 256) : b = UInt8.ofNat n ↔ (b.toNat : Int) = n := by
  constructor
  · rintro rfl
    rw [UInt8.toNat_ofNat', Nat.mod_eq_of_lt hn]
  · intro h
    apply UInt8.toNat_inj.1
    rw [UInt8.toNat_ofNat', Nat.mod_eq_of_lt hn]
    omega
theorem beq_is {b : UInt8} (n : Nat) (hn : n < 256) : (b == UInt8.ofNat n) = true ↔ (b.toNat : Int) = n := by rw [beq_iff_eq, u8_is hn]
theorem blankB_iff {b : UInt8} : blankB b = true ↔ (b.toNat : Int) = 9 ∨ (b.toNat : Int) = 10 ∨ (b.toNat : Int) = 13 ∨ (b.toNat : Int) = 32 := by
  have h := @beq_is b
  unfold blankB
  rw [Bool.or_eq_true, Bool.or_eq_true, Bool.or_eq_true, show (9 : UInt8) = UInt8.ofNat 9 from rfl, show (10 : UInt8) = UInt8.ofNat 10 from rfl, show (13 : UInt8) = UInt8.ofNat 13 from rfl, show (32 : UInt8) = UInt8.ofNat 32 from rfl, h 9 (by decide), h 10 (by decide), h 13 (by decide), h 32 (by decide)]
  constructor
  · rintro (((h | h) | h) | h)
    · exact .inl h
    · exact .inr (.inl h)
    · exact .inr (.inr (.inl h))
    · exact .inr (.inr (.inr h))
  · rintro (h | h | h | h)
    · exact .inl (.inl (.inl h))
    · exact .inl (.inl (.inr h))
    · exact .inl (.inr h)
    · exact .inr h
theorem byte_lt (b : UInt8) : (b.toNat : Int) < 256 ∧ 0 ≤ (b.toNat : Int) := by have := b.toNat_lt; omega
theorem smallB_iff {b : UInt8} : smallB b = true ↔ 97 ≤ (b.toNat : Int) ∧ (b.toNat : Int) ≤ 122 := by
  unfold smallB
  rw [Bool.and_eq_true, decide_eq_true_eq, decide_eq_true_eq]
  omega
theorem largeB_iff {b : UInt8} : largeB b = true ↔ 65 ≤ (b.toNat : Int) ∧ (b.toNat : Int) ≤ 90 := by
  unfold largeB
  rw [Bool.and_eq_true, decide_eq_true_eq, decide_eq_true_eq]
  omega
theorem digB_iff {b : UInt8} : digB b = true ↔ 48 ≤ (b.toNat : Int) ∧ (b.toNat : Int) ≤ 57 := by
  unfold digB
  rw [Bool.and_eq_true, decide_eq_true_eq, decide_eq_true_eq]
  omega
theorem isSmall_any (b : UInt8) (w : World) :
    Calls Tryz.prog 169 #[.int .u8 (b.toNat : Int)] w fun e w' => e = .returned (.bool (smallB b)) ∧ w = w' := by
  have hj := smallB_iff (b := b)
  obtain ⟨p, hp⟩ : ∃ p, p = smallB b := ⟨_, rfl⟩
  rw [← hp] at hj ⊢
  obtain ⟨c, hc⟩ : ∃ c : Int, c = (b.toNat : Int) := ⟨_, rfl⟩
  rw [← hc] at hj ⊢
  clear hp hc
  by_cases h1 : 97 ≤ c
  · by_cases h2 : c ≤ 122
    · have := hj.2 ⟨h1, h2⟩
      subst this
      clear hj
      go_enter Tryz.func169, Tryz.ntmps169
      go_wp2
      go_ret
      exact ⟨rfl, rfl⟩
    · have := bool_not hj (fun h => h2 h.2)
      subst this
      clear hj
      go_enter Tryz.func169, Tryz.ntmps169
      go_wp2
      go_ret
      exact ⟨rfl, rfl⟩
  · have := bool_not hj (fun h => h1 h.1)
    subst this
    clear hj
    go_enter Tryz.func169, Tryz.ntmps169
    go_wp2
    go_ret
    exact ⟨rfl, rfl⟩
theorem isDigit_any (b : UInt8) (w : World) :
    Calls Tryz.prog 170 #[.int .u8 (b.toNat : Int)] w fun e w' => e = .returned (.bool (digB b)) ∧ w = w' := by
  have hj := digB_iff (b := b)
  obtain ⟨p, hp⟩ : ∃ p, p = digB b := ⟨_, rfl⟩
  rw [← hp] at hj ⊢
  obtain ⟨c, hc⟩ : ∃ c : Int, c = (b.toNat : Int) := ⟨_, rfl⟩
  rw [← hc] at hj ⊢
  clear hp hc
  by_cases h1 : 48 ≤ c
  · by_cases h2 : c ≤ 57
    · have := hj.2 ⟨h1, h2⟩
      subst this
      clear hj
      go_enter Tryz.func170, Tryz.ntmps170
      go_wp2
      go_ret
      exact ⟨rfl, rfl⟩
    · have := bool_not hj (fun h => h2 h.2)
      subst this
      clear hj
      go_enter Tryz.func170, Tryz.ntmps170
      go_wp2
      go_ret
      exact ⟨rfl, rfl⟩
  · have := bool_not hj (fun h => h1 h.1)
    subst this
    clear hj
    go_enter Tryz.func170, Tryz.ntmps170
    go_wp2
    go_ret
    exact ⟨rfl, rfl⟩
theorem isBlank_any (b : UInt8) (w : World) :
    Calls Tryz.prog 167 #[.int .u8 (b.toNat : Int)] w fun e w' => e = .returned (.bool (blankB b)) ∧ w = w' := by
  have hj := blankB_iff (b := b)
  obtain ⟨p, hp⟩ : ∃ p, p = blankB b := ⟨_, rfl⟩
  rw [← hp] at hj ⊢
  obtain ⟨c, hc⟩ : ∃ c : Int, c = (b.toNat : Int) := ⟨_, rfl⟩
  rw [← hc] at hj ⊢
  clear hp hc
  by_cases h9 : c = 9
  · subst h9
    have := hj.2 (.inl rfl)
    subst this
    clear hj
    go_enter Tryz.func167, Tryz.ntmps167
    go_wp2
    go_ret
    exact ⟨rfl, rfl⟩
  by_cases h10 : c = 10
  · subst h10
    have := hj.2 (.inr (.inl rfl))
    subst this
    clear hj
    go_enter Tryz.func167, Tryz.ntmps167
    go_wp2
    go_ret
    exact ⟨rfl, rfl⟩
  by_cases h13 : c = 13
  · subst h13
    have := hj.2 (.inr (.inr (.inl rfl)))
    subst this
    clear hj
    go_enter Tryz.func167, Tryz.ntmps167
    go_wp2
    go_ret
    exact ⟨rfl, rfl⟩
  by_cases h32 : c = 32
  · subst h32
    have := hj.2 (.inr (.inr (.inr rfl)))
    subst this
    clear hj
    go_enter Tryz.func167, Tryz.ntmps167
    go_wp2
    go_ret
    exact ⟨rfl, rfl⟩
  have := bool_not hj (fun h => h.elim h9 (fun h => h.elim h10 (fun h => h.elim h13 h32)))
  subst this
  have b9 : (c == 9) = false := by rw [beq_eq_false_iff_ne]; exact h9
  have b10 : (c == 10) = false := by rw [beq_eq_false_iff_ne]; exact h10
  have b13 : (c == 13) = false := by rw [beq_eq_false_iff_ne]; exact h13
  have b32 : (c == 32) = false := by rw [beq_eq_false_iff_ne]; exact h32
  clear hj
  go_enter Tryz.func167, Tryz.ntmps167
  go_wp2
  go_ret
  exact ⟨rfl, rfl⟩
end Go.Proofs.YtdoioaeppepndaaGreatDoor
namespace Go.Proofs.YtdoioaeppepndaaGreatDoor
open Go.RowKit
open Tk7

theorem str_is {s : ByteArray} {l : List UInt8} (h : s.data.toList = l) : s = strOf l := by
  subst h; rfl
theorem strOf_size (l : List UInt8) : (strOf l).size = l.length := by simp [strOf, ByteArray.size]
theorem strOf_dat (l : List UInt8) : (strOf l).data.toList = l := by simp [strOf]
/-- The cursor in block R: the text, the place, and where the token begins. -/
def Cur (w : World) (R : Nat) (s : ByteArray) (k f : Nat) : Prop := Blk w R [.string s, .int .i64 (k : Int), .int .i64 (f : Int)]
/-- What stands behind the place. -/
def restAt (s : ByteArray) (k : Nat) : List UInt8 := s.data.toList.drop k
theorem restAt_len (s : ByteArray) (k : Nat) : (restAt s k).length = s.size - k := by unfold restAt; rw [List.length_drop, bytes_size]
theorem rest_cons {s : ByteArray} {k : Nat} (h : k < s.size) : restAt s k = s[k]'h :: restAt s (k + 1) := by
  unfold restAt
  have h2 : k < s.data.toList.length := by rw [bytes_size]; exact h
  rw [List.drop_eq_getElem_cons h2]
  rfl
theorem rest_nil {s : ByteArray} {k : Nat} (h : s.size ≤ k) : restAt s k = [] := List.drop_eq_nil_of_le (by rw [bytes_size]; exact h)
theorem rest_drop (s : ByteArray) (k j : Nat) : (restAt s k).drop j = restAt s (k + j) := by unfold restAt; rw [List.drop_drop]
theorem ext_take (s : ByteArray) (k j : Nat) : s.extract k j = strOf ((restAt s k).take (j - k)) := by
  apply str_is
  rw [ByteArray.data_extract, Array.toList_extract]
  simp only [List.extract_eq_take_drop]
  rfl
theorem Cur.parts {w : World} {R : Nat} {s : ByteArray} {k f : Nat} (h : Cur w R s k f) : R < w.heap.size ∧ w.cell? ⟨R, 0, none⟩ = some (.string s) ∧ w.cell? ⟨R, 1, none⟩ = some (.int .i64 (k : Int)) ∧ w.cell? ⟨R, 2, none⟩ = some (.int .i64 (f : Int)) ∧ w.frozen? ⟨R, 0, none⟩ = false ∧ w.frozen? ⟨R, 1, none⟩ = false ∧ w.frozen? ⟨R, 2, none⟩ = false :=
  ⟨h.lt, h.cell 0 _ rfl, h.cell 1 _ rfl, h.cell 2 _ rfl, h.fr 0 _ rfl, h.fr 1 _ rfl, h.fr 2 _ rfl⟩
theorem Cur.drewN {w : World} {R : Nat} {s : ByteArray} {k f : Nat} (h : Cur w R s k f) (n : Nat) : Cur (w.drewN n) R s k f := Blk.drewN h n
theorem Cur.step {w : World} {R : Nat} {s : ByteArray} {k f : Nat} (h : Cur w R s k f) (k' : Nat) (x : Int) (e : x = (k' : Int)) : Cur (w.setCell ⟨R, 1, none⟩ (.int .i64 x)) R s k' f := by
  subst e; exact Blk.set h 1 _
theorem Cur.from_ {w : World} {R : Nat} {s : ByteArray} {k f : Nat} (h : Cur w R s k f) (f' : Nat) : Cur (w.setCell ⟨R, 2, none⟩ (.int .i64 (f' : Int))) R s k f' := Blk.set h 2 _
set_option maxRecDepth 100000 in
theorem isDone_any {w : World} {R : Nat} {s : ByteArray} {k f : Nat} (h : Cur w R s k f) (p : Bool) (hp : ((k : Int) == (s.size : Int)) = p) :
    Calls Tryz.prog 162 #[.pointer (some ⟨R, 0, none⟩)] w fun e w' => e = .returned (.bool p) ∧ ∃ n, w' = w.drewN n := by
  obtain ⟨hlt, c0, c1, c2, f0, f1, f2⟩ := h.parts
  go_enter Tryz.func162, Tryz.ntmps162
  go_wp2
  go_quiet (fail)
  go_wp2
  go_ret
  exact ⟨rfl, _, rfl⟩
set_option maxRecDepth 100000 in
theorem taken_any {w : World} {R : Nat} {s : ByteArray} {k f : Nat} (h : Cur w R s k f) (hk : k ≤ s.size) (hf : f ≤ k) (t : List UInt8) (ht : (restAt s f).take (k - f) = t) :
    Calls Tryz.prog 164 #[.pointer (some ⟨R, 0, none⟩)] w fun e w' => e = .returned (.string (strOf t)) ∧ ∃ n, w' = w.drewN n := by
  obtain ⟨hlt, c0, c1, c2, f0, f1, f2⟩ := h.parts
  have g1 : (f : Int) ≤ (k : Int) := by omega
  have g2 : (k : Int) ≤ (s.size : Int) := by omega
  have g3 : (0 : Int) ≤ (f : Int) := by omega
  have hex := Lib.hid (show s.extract f k = strOf t by rw [ext_take, ht])
  clear ht
  go_enter Tryz.func164, Tryz.ntmps164
  go_wp2
  go_quiet (fail)
  go_wp2
  go_ret
  exact ⟨by rw [← hex.out]; rfl, _, rfl⟩
theorem while_true {p : UInt8 → Bool} {b : UInt8} {r : List UInt8} (h : p b = true) : ((b :: r).takeWhile p).length = (r.takeWhile p).length + 1 := by rw [List.takeWhile_cons, if_pos h, List.length_cons]
theorem while_false {p : UInt8 → Bool} {b : UInt8} {r : List UInt8} (h : p b = false) : ((b :: r).takeWhile p).length = 0 := by rw [List.takeWhile_cons, if_neg (by rw [h]; decide)]; rfl
end Go.Proofs.YtdoioaeppepndaaGreatDoor
namespace Go.Proofs.YtdoioaeppepndaaGreatDoor
open Go.RowKit
open Tk7

set_option maxRecDepth 100000 in
set_option maxHeartbeats 2000000 in
theorem skip_blank {w : World} {R : Nat} {s : ByteArray} {k f : Nat} (h : Cur w R s k f) (hk : k ≤ s.size) (hs : s.size ≤ maxLen) :
    Calls Tryz.prog 166 #[.pointer (some ⟨R, 0, none⟩), .func (.func 167) #[] #[]] w fun e w' => e = .returned (.tuple #[]) ∧ Only R w w' ∧ Cur w' R s (k + ((restAt s k).takeWhile blankB).length) f := by
  have hs' := hs
  unfold maxLen at hs'
  go_enter Tryz.func166, Tryz.ntmps166
  go_wp2
  go_loopg [] (s.size - k) (fun g wr => ∃ j : Nat, k ≤ j ∧ j ≤ s.size ∧ g = s.size - j ∧ Hid (Cur wr R s j f) ∧ Only R w wr ∧ Hid (k + ((restAt s k).takeWhile blankB).length = j + ((restAt s j).takeWhile blankB).length))
  case atStart => exact ⟨k, Nat.le_refl _, hk, rfl, h, Only.refl _ _, Lib.hid rfl⟩
  case round =>
    obtain ⟨j, hkj, hj, hg, hC, hO, hL⟩ := hrel
    by_cases hz : j = s.size
    · have hD := fun n => isDone_any (hC.out.drewN n) true (by rw [beq_iff_eq]; omega)
      have he := Lib.hid (show k + ((restAt s k).takeWhile blankB).length = j by rw [hL.out, rest_nil (by omega)]; rfl)
      clear hL hz hg hs hs'
      obtain ⟨hlt, c0, c1, c2, q0, q1, q2⟩ := hC.out.parts
      go_wp2_with fail
      go_quiet ((go_at_call 162; exact Calls.quiet_of (hD _)))
      go_wp2
      go_end0
      exact ⟨rfl, hO.drewN _, by rw [he.out]; exact hC.out.drewN _⟩
    · have hjl : j < s.size := by omega
      have hD := fun n => isDone_any (hC.out.drewN n) false (by rw [beq_eq_false_iff_ne]; omega)
      have hr := rest_cons hjl
      have hB := fun w => isBlank_any (s[j]'hjl) w
      have hL1 := Lib.hid (fun (h : blankB (s[j]'hjl) = true) => show k + ((restAt s k).takeWhile blankB).length = (j + 1) + ((restAt s (j + 1)).takeWhile blankB).length by rw [hL.out, hr, while_true h]; omega)
      have hL2 := Lib.hid (fun (h : blankB (s[j]'hjl) = false) => show k + ((restAt s k).takeWhile blankB).length = j by rw [hL.out, hr, while_false h]; omega)
      obtain ⟨q, hq⟩ : ∃ q, q = blankB (s[j]'hjl) := ⟨_, rfl⟩
      rw [← hq] at hB
      have HQ := Lib.hid hq
      have g1 : (0 : Int) ≤ (j : Int) := by omega
      have g2 : (j : Int) < (s.size : Int) := by omega
      have hw : IntKind.i64.wrap ((j : Int) + 1) = (j : Int) + 1 := IntWalk.i64_in _ ⟨by omega, by omega⟩
      obtain ⟨hlt, c0, c1, c2, q0, q1, q2⟩ := hC.out.parts
      clear hq hr hL hz hs hs'
      cases q with
      | true =>
        go_wp2_with fail
        go_quiet (first | (go_at_call 162; exact Calls.quiet_of (hD _)) | (go_at_call 167; exact quiet_same (hB _)))
        go_wp2
        go_roundg (s.size - (j + 1))
        case rel => exact ⟨j + 1, by omega, by omega, rfl, Lib.hid ((hC.out.drewN _).step _ _ (by go_num)), (hO.drewN _).setCell _ _, Lib.hid (hL1.out HQ.out.symm)⟩
        case measure => omega
      | false =>
        go_wp2_with fail
        go_quiet (first | (go_at_call 162; exact Calls.quiet_of (hD _)) | (go_at_call 167; exact quiet_same (hB _)))
        go_wp2
        go_end0
        exact ⟨rfl, hO.drewN _, by rw [hL2.out HQ.out.symm]; exact hC.out.drewN _⟩
set_option maxRecDepth 100000 in
set_option maxHeartbeats 2000000 in
theorem skip_small {w : World} {R : Nat} {s : ByteArray} {k f : Nat} (h : Cur w R s k f) (hk : k ≤ s.size) (hs : s.size ≤ maxLen) :
    Calls Tryz.prog 166 #[.pointer (some ⟨R, 0, none⟩), .func (.func 169) #[] #[]] w fun e w' => e = .returned (.tuple #[]) ∧ Only R w w' ∧ Cur w' R s (k + ((restAt s k).takeWhile smallB).length) f := by
  have hs' := hs
  unfold maxLen at hs'
  go_enter Tryz.func166, Tryz.ntmps166
  go_wp2
  go_loopg [] (s.size - k) (fun g wr => ∃ j : Nat, k ≤ j ∧ j ≤ s.size ∧ g = s.size - j ∧ Hid (Cur wr R s j f) ∧ Only R w wr ∧ Hid (k + ((restAt s k).takeWhile smallB).length = j + ((restAt s j).takeWhile smallB).length))
  case atStart => exact ⟨k, Nat.le_refl _, hk, rfl, h, Only.refl _ _, Lib.hid rfl⟩
  case round =>
    obtain ⟨j, hkj, hj, hg, hC, hO, hL⟩ := hrel
    by_cases hz : j = s.size
    · have hD := fun n => isDone_any (hC.out.drewN n) true (by rw [beq_iff_eq]; omega)
      have he := Lib.hid (show k + ((restAt s k).takeWhile smallB).length = j by rw [hL.out, rest_nil (by omega)]; rfl)
      clear hL hz hg hs hs'
      obtain ⟨hlt, c0, c1, c2, q0, q1, q2⟩ := hC.out.parts
      go_wp2_with fail
      go_quiet ((go_at_call 162; exact Calls.quiet_of (hD _)))
      go_wp2
      go_end0
      exact ⟨rfl, hO.drewN _, by rw [he.out]; exact hC.out.drewN _⟩
    · have hjl : j < s.size := by omega
      have hD := fun n => isDone_any (hC.out.drewN n) false (by rw [beq_eq_false_iff_ne]; omega)
      have hr := rest_cons hjl
      have hB := fun w => isSmall_any (s[j]'hjl) w
      have hL1 := Lib.hid (fun (h : smallB (s[j]'hjl) = true) => show k + ((restAt s k).takeWhile smallB).length = (j + 1) + ((restAt s (j + 1)).takeWhile smallB).length by rw [hL.out, hr, while_true h]; omega)
      have hL2 := Lib.hid (fun (h : smallB (s[j]'hjl) = false) => show k + ((restAt s k).takeWhile smallB).length = j by rw [hL.out, hr, while_false h]; omega)
      obtain ⟨q, hq⟩ : ∃ q, q = smallB (s[j]'hjl) := ⟨_, rfl⟩
      rw [← hq] at hB
      have HQ := Lib.hid hq
      have g1 : (0 : Int) ≤ (j : Int) := by omega
      have g2 : (j : Int) < (s.size : Int) := by omega
      have hw : IntKind.i64.wrap ((j : Int) + 1) = (j : Int) + 1 := IntWalk.i64_in _ ⟨by omega, by omega⟩
      obtain ⟨hlt, c0, c1, c2, q0, q1, q2⟩ := hC.out.parts
      clear hq hr hL hz hs hs'
      cases q with
      | true =>
        go_wp2_with fail
        go_quiet (first | (go_at_call 162; exact Calls.quiet_of (hD _)) | (go_at_call 169; exact quiet_same (hB _)))
        go_wp2
        go_roundg (s.size - (j + 1))
        case rel => exact ⟨j + 1, by omega, by omega, rfl, Lib.hid ((hC.out.drewN _).step _ _ (by go_num)), (hO.drewN _).setCell _ _, Lib.hid (hL1.out HQ.out.symm)⟩
        case measure => omega
      | false =>
        go_wp2_with fail
        go_quiet (first | (go_at_call 162; exact Calls.quiet_of (hD _)) | (go_at_call 169; exact quiet_same (hB _)))
        go_wp2
        go_end0
        exact ⟨rfl, hO.drewN _, by rw [hL2.out HQ.out.symm]; exact hC.out.drewN _⟩
set_option maxRecDepth 100000 in
set_option maxHeartbeats 2000000 in
theorem skip_digit {w : World} {R : Nat} {s : ByteArray} {k f : Nat} (h : Cur w R s k f) (hk : k ≤ s.size) (hs : s.size ≤ maxLen) :
    Calls Tryz.prog 166 #[.pointer (some ⟨R, 0, none⟩), .func (.func 170) #[] #[]] w fun e w' => e = .returned (.tuple #[]) ∧ Only R w w' ∧ Cur w' R s (k + ((restAt s k).takeWhile digB).length) f := by
  have hs' := hs
  unfold maxLen at hs'
  go_enter Tryz.func166, Tryz.ntmps166
  go_wp2
  go_loopg [] (s.size - k) (fun g wr => ∃ j : Nat, k ≤ j ∧ j ≤ s.size ∧ g = s.size - j ∧ Hid (Cur wr R s j f) ∧ Only R w wr ∧ Hid (k + ((restAt s k).takeWhile digB).length = j + ((restAt s j).takeWhile digB).length))
  case atStart => exact ⟨k, Nat.le_refl _, hk, rfl, h, Only.refl _ _, Lib.hid rfl⟩
  case round =>
    obtain ⟨j, hkj, hj, hg, hC, hO, hL⟩ := hrel
    by_cases hz : j = s.size
    · have hD := fun n => isDone_any (hC.out.drewN n) true (by rw [beq_iff_eq]; omega)
      have he := Lib.hid (show k + ((restAt s k).takeWhile digB).length = j by rw [hL.out, rest_nil (by omega)]; rfl)
      clear hL hz hg hs hs'
      obtain ⟨hlt, c0, c1, c2, q0, q1, q2⟩ := hC.out.parts
      go_wp2_with fail
      go_quiet ((go_at_call 162; exact Calls.quiet_of (hD _)))
      go_wp2
      go_end0
      exact ⟨rfl, hO.drewN _, by rw [he.out]; exact hC.out.drewN _⟩
    · have hjl : j < s.size := by omega
      have hD := fun n => isDone_any (hC.out.drewN n) false (by rw [beq_eq_false_iff_ne]; omega)
      have hr := rest_cons hjl
      have hB := fun w => isDigit_any (s[j]'hjl) w
      have hL1 := Lib.hid (fun (h : digB (s[j]'hjl) = true) => show k + ((restAt s k).takeWhile digB).length = (j + 1) + ((restAt s (j + 1)).takeWhile digB).length by rw [hL.out, hr, while_true h]; omega)
      have hL2 := Lib.hid (fun (h : digB (s[j]'hjl) = false) => show k + ((restAt s k).takeWhile digB).length = j by rw [hL.out, hr, while_false h]; omega)
      obtain ⟨q, hq⟩ : ∃ q, q = digB (s[j]'hjl) := ⟨_, rfl⟩
      rw [← hq] at hB
      have HQ := Lib.hid hq
      have g1 : (0 : Int) ≤ (j : Int) := by omega
      have g2 : (j : Int) < (s.size : Int) := by omega
      have hw : IntKind.i64.wrap ((j : Int) + 1) = (j : Int) + 1 := IntWalk.i64_in _ ⟨by omega, by omega⟩
      obtain ⟨hlt, c0, c1, c2, q0, q1, q2⟩ := hC.out.parts
      clear hq hr hL hz hs hs'
      cases q with
      | true =>
        go_wp2_with fail
        go_quiet (first | (go_at_call 162; exact Calls.quiet_of (hD _)) | (go_at_call 170; exact quiet_same (hB _)))
        go_wp2
        go_roundg (s.size - (j + 1))
        case rel => exact ⟨j + 1, by omega, by omega, rfl, Lib.hid ((hC.out.drewN _).step _ _ (by go_num)), (hO.drewN _).setCell _ _, Lib.hid (hL1.out HQ.out.symm)⟩
        case measure => omega
      | false =>
        go_wp2_with fail
        go_quiet (first | (go_at_call 162; exact Calls.quiet_of (hD _)) | (go_at_call 170; exact quiet_same (hB _)))
        go_wp2
        go_end0
        exact ⟨rfl, hO.drewN _, by rw [hL2.out HQ.out.symm]; exact hC.out.drewN _⟩
end Go.Proofs.YtdoioaeppepndaaGreatDoor
namespace Go.Proofs.YtdoioaeppepndaaGreatDoor
open Go.RowKit
open Tk7

/-- The kind that a byte alone tells. -/
def kindB (b : UInt8) : Nat := if smallB b then 1 else if largeB b then 2 else if digB b then 3 else if b == 45 then 5 else 4
theorem kindOf_any (b : UInt8) (w : World) :
    Calls Tryz.prog 168 #[.int .u8 (b.toNat : Int)] w fun e w' => e = .returned (.int .i64 (kindB b : Int)) ∧ w = w' := by
  have hS := fun w => isSmall_any b w
  have hD := fun w => isDigit_any b w
  have hk : kindB b = if smallB b then 1 else if largeB b then 2 else if digB b then 3 else if b == 45 then 5 else 4 := rfl
  have hlb := largeB_iff (b := b)
  have h45 := beq_is (b := b) 45 (by decide)
  rw [show UInt8.ofNat 45 = 45 from rfl] at h45
  obtain ⟨p, hp⟩ : ∃ p, p = smallB b := ⟨_, rfl⟩
  obtain ⟨q, hq⟩ : ∃ q, q = largeB b := ⟨_, rfl⟩
  obtain ⟨d, hd⟩ : ∃ d, d = digB b := ⟨_, rfl⟩
  obtain ⟨m, hm⟩ : ∃ m, m = (b == 45) := ⟨_, rfl⟩
  rw [← hp] at hS hk
  rw [← hq] at hk hlb
  rw [← hd] at hk hD
  rw [← hm] at hk h45
  obtain ⟨c, hc⟩ : ∃ c : Int, c = (b.toNat : Int) := ⟨_, rfl⟩
  rw [← hc] at hlb h45 hS hD ⊢
  have h0 : ((⟨#[45]⟩ : ByteArray)[0]'(by decide)).toNat = 45 := rfl
  have HK := Lib.hid hk
  clear hk hp hq hd hm hc
  cases p with
  | true =>
    have e1 := Lib.hid HK.out
    go_enter Tryz.func168, Tryz.ntmps168
    go_wp2_with (first | (go_at_call 169; refine (hS _).mono ?_; rintro e w' ⟨rfl, rfl⟩))
    go_ret
    exact ⟨by rw [e1.out]; rfl, rfl⟩
  | false =>
    have hx : q = true ∨ q = false ∧ (¬ 65 ≤ c ∨ 65 ≤ c ∧ ¬ c ≤ 90) := by
      cases q with
      | true => exact .inl rfl
      | false => exact .inr ⟨rfl, by have := hlb.2; simp at this; omega⟩
    rcases hx with rfl | ⟨rfl, hx⟩
    · obtain ⟨h1, h2⟩ := hlb.1 rfl
      clear hlb h45
      go_enter Tryz.func168, Tryz.ntmps168
      go_wp2_with (first | (go_at_call 169; refine (hS _).mono ?_; rintro e w' ⟨rfl, rfl⟩))
      go_ret
      exact ⟨by rw [HK.out]; rfl, rfl⟩
    · clear hlb
      cases d with
      | true =>
        clear h45
        rcases hx with hx | ⟨hx, hx2⟩
        · go_enter Tryz.func168, Tryz.ntmps168
          go_wp2_with (first | (go_at_call 169; refine (hS _).mono ?_; rintro e w' ⟨rfl, rfl⟩) | (go_at_call 170; refine (hD _).mono ?_; rintro e w' ⟨rfl, rfl⟩))
          go_ret
          exact ⟨by rw [HK.out]; rfl, rfl⟩
        · go_enter Tryz.func168, Tryz.ntmps168
          go_wp2_with (first | (go_at_call 169; refine (hS _).mono ?_; rintro e w' ⟨rfl, rfl⟩) | (go_at_call 170; refine (hD _).mono ?_; rintro e w' ⟨rfl, rfl⟩))
          go_ret
          exact ⟨by rw [HK.out]; rfl, rfl⟩
      | false =>
        have e45 : (c == 45) = m := by
          cases m with
          | true => rw [beq_iff_eq]; exact h45.1 rfl
          | false => rw [beq_eq_false_iff_ne]; exact fun e => by have := h45.2 e; cases this
        clear h45
        have hc : c = 45 ∨ ¬ c = 45 := by omega
        rcases hc with rfl | hc
        · obtain rfl : true = m := e45
          clear hx
          go_enter Tryz.func168, Tryz.ntmps168
          go_wp2_with (first | (go_at_call 169; refine (hS _).mono ?_; rintro e w' ⟨rfl, rfl⟩) | (go_at_call 170; refine (hD _).mono ?_; rintro e w' ⟨rfl, rfl⟩))
          go_ret
          exact ⟨by rw [HK.out]; rfl, rfl⟩
        · have hcb : (c == 45) = false := by rw [beq_eq_false_iff_ne]; exact hc
          rw [hcb] at e45
          subst e45
          rcases hx with hx | ⟨hx, hx2⟩
          · go_enter Tryz.func168, Tryz.ntmps168
            go_wp2_with (first | (go_at_call 169; refine (hS _).mono ?_; rintro e w' ⟨rfl, rfl⟩) | (go_at_call 170; refine (hD _).mono ?_; rintro e w' ⟨rfl, rfl⟩))
            go_ret
            exact ⟨by rw [HK.out]; rfl, rfl⟩
          · go_enter Tryz.func168, Tryz.ntmps168
            go_wp2_with (first | (go_at_call 169; refine (hS _).mono ?_; rintro e w' ⟨rfl, rfl⟩) | (go_at_call 170; refine (hD _).mono ?_; rintro e w' ⟨rfl, rfl⟩))
            go_ret
            exact ⟨by rw [HK.out]; rfl, rfl⟩

/-- What stands behind a minus sign, if there is one. -/
def stripG (l : List UInt8) : List UInt8 := Lib.trimPrefix l [45]
theorem strip_nil : stripG [] = [] := rfl
theorem strip_cons (b : UInt8) (r : List UInt8) : stripG (b :: r) = if b == 45 then r else b :: r := by
  unfold stripG Lib.trimPrefix Lib.hasPrefix
  by_cases h : b = 45
  · subst h; simp
  · have h2 : ¬ 45 = b := fun e => h e.symm
    simp [h, h2]
/-- The bytes are a number as it is written. -/
def isNumG (l : List UInt8) : Bool := !(stripG l).isEmpty && ((stripG l).head? != some 48 || l == [48])
theorem toL (s : ByteArray) : s.toList = s.data.toList := ByteArray.toList_eq s
theorem strOf_toL (l : List UInt8) : (strOf l).toList = l := by rw [toL, strOf_dat]
theorem strip_len (l : List UInt8) : (stripG l).length ≤ l.length := by
  cases l with
  | nil => simp [strip_nil]
  | cons b r => rw [strip_cons]; split <;> simp
set_option maxRecDepth 100000 in
theorem isNumber_any (l : List UInt8) (w : World) :
    Calls Tryz.prog 171 #[.string (strOf l)] w fun e w' => e = .returned (.bool (isNumG l)) ∧ w = w' := by
  have hT := fun w => Tryz.strings_TrimPrefix (strOf l) ⟨#[45]⟩ w
  have hn : isNumG l = (!(stripG l).isEmpty && ((stripG l).head? != some 48 || l == [48])) := rfl
  have hz := strip_len l
  rw [strOf_dat, show (⟨(Lib.trimPrefix l (ByteArray.mk #[45]).data.toList).toArray⟩ : ByteArray) = strOf (stripG l) from rfl] at hT
  have h48 : ((strOf l).toList == [48]) = (l == [48]) := by rw [strOf_toL]
  obtain ⟨d, hd⟩ : ∃ d, d = stripG l := ⟨_, rfl⟩
  obtain ⟨S, hS⟩ : ∃ S, S = strOf l := ⟨_, rfl⟩
  obtain ⟨z, hzz⟩ : ∃ z, z = (l == [48]) := ⟨_, rfl⟩
  rw [← hzz] at h48
  rw [← hS] at h48 hT ⊢
  rw [← hd] at hT hn hz
  rw [← hzz] at hn
  have HN := Lib.hid hn
  clear hn hd hS hzz
  cases d with
  | nil =>
    rw [show strOf [] = ⟨#[]⟩ from rfl] at hT
    go_enter Tryz.func171, Tryz.ntmps171
    go_wp2_with (first | (go_at_call 173; refine (hT _).mono ?_; rintro e w' ⟨rfl, rfl⟩))
    go_ret
    exact ⟨by rw [HN.out]; rfl, rfl⟩
  | cons c r =>
    have hex : (strOf (c :: r)).extract 0 1 = strOf [c] := by rw [ext_take]; rfl
    have n1 : ¬ (strOf (c :: r)).toList = [] := by rw [strOf_toL]; simp
    have n2 : (strOf (c :: r)).toList.isEmpty = false := by rw [strOf_toL]; rfl
    have n3 : 1 ≤ (strOf (c :: r)).size := by rw [strOf_size]; simp
    have n4 : (1 : Int) ≤ ((strOf (c :: r)).size : Int) := by omega
    have n5 : ((strOf [c]).toList == [48]) = (c == 48) := by rw [strOf_toL]; show ([c] == [48]) = _; simp [List.cons_beq_cons]
    obtain ⟨D, hD⟩ : ∃ D, D = strOf (c :: r) := ⟨_, rfl⟩
    obtain ⟨X, hX⟩ : ∃ X, X = strOf [c] := ⟨_, rfl⟩
    obtain ⟨y, hy⟩ : ∃ y, y = (c == 48) := ⟨_, rfl⟩
    have e1 := Lib.hid (show isNumG l = (!y || z) by rw [HN.out, hy]; simp [bne, Option.some_beq_some])
    rw [← hD] at hex n1 n2 n3 n4 hT
    rw [← hX] at hex n5
    rw [← hy] at n5
    clear HN hD hX hy hz
    cases y with
    | false =>
      go_enter Tryz.func171, Tryz.ntmps171
      go_wp2_with (first | (go_at_call 173; refine (hT _).mono ?_; rintro e w' ⟨rfl, rfl⟩))
      go_ret
      exact ⟨by rw [e1.out]; rfl, rfl⟩
    | true =>
      go_enter Tryz.func171, Tryz.ntmps171
      go_wp2_with (first | (go_at_call 173; refine (hT _).mono ?_; rintro e w' ⟨rfl, rfl⟩))
      go_ret
      exact ⟨by rw [e1.out]; rfl, rfl⟩
end Go.Proofs.YtdoioaeppepndaaGreatDoor
namespace Go.Proofs.YtdoioaeppepndaaGreatDoor
open Go.RowKit
open Tk7

/-- The signs in the program's order. -/
def signsL : List (List UInt8) := [[33, 61], [60, 61], [62, 61], [61], [60], [62], [59], [124], [123], [125], [44], [40], [41], [91], [93], [64], [58]]
/-- The first sign of a list with which l begins. -/
def firstS (L : List (List UInt8)) (l : List UInt8) : List UInt8 := (L.find? fun c => c.isPrefixOf l).getD []
def firstQ (b : UInt8) (q : Bool) : List UInt8 :=
  if b == 33 && q then [33, 61] else if b == 60 && q then [60, 61] else if b == 62 && q then [62, 61] else
  if oneB b then [b] else []
def firstN (b : UInt8) (q : Bool) : Nat := if twoB b && q then 2 else if oneB b then 1 else 0
theorem firstN_len : ∀ b : Fin 256, ∀ q : Bool, (firstQ (UInt8.ofNat b.val) q).length = firstN (UInt8.ofNat b.val) q := by decide +kernel
/-- The variable holds the signs. -/
def SG (w : World) : Prop := 0 < w.heap.size ∧ ∀ (i : Nat) (c : List UInt8), signsL[i]? = some c → w.cell? ⟨0, i, none⟩ = some (.string (strOf c))
theorem SG.later {w w' : World} (h : SG w) (hb : Below w.heap.size w w') : SG w' :=
  ⟨Nat.lt_of_lt_of_le h.1 hb.size, fun i c hc => (hb.cell (p := ⟨0, i, none⟩) h.1).trans (h.2 i c hc)⟩
theorem SG.grown {w w' : World} {row : Option Nat} (h : SG w) (hg : w.grownBy w' row) (hne : some 0 ≠ row) : SG w' := by
  refine ⟨Nat.lt_of_lt_of_le h.1 hg.size, fun i c hc => ?_⟩
  exact (World.cell?_of_block (w := w) (a := ⟨0, i, none⟩) (hg.block _ h.1 hne)).trans (h.2 i c hc)
theorem SG.drewN {w : World} (h : SG w) (n : Nat) : SG (w.drewN n) := h.later (below_drewN (Below.refl _ _) n)
def signA : Array Value := #[Value.string (strOf [33, 61]), .string (strOf [60, 61]), .string (strOf [62, 61]), .string (strOf [61]), .string (strOf [60]), .string (strOf [62]), .string (strOf [59]), .string (strOf [124]), .string (strOf [123]), .string (strOf [125]), .string (strOf [44]), .string (strOf [40]), .string (strOf [41]), .string (strOf [91]), .string (strOf [93]), .string (strOf [64]), .string (strOf [58])]
theorem arr_idx : ∀ (i : Nat) (c : List UInt8), signsL[i]? = some c → ∀ w : World, (Instr.index 203 (.agg signA) (.int .i64 (i : Int))).run Tryz.prog w = .ok (.string (strOf c)) w := by
  have x0 : ∀ w : World, (Instr.index 203 (.agg #[Value.string (strOf [33, 61]), .string (strOf [60, 61]), .string (strOf [62, 61]), .string (strOf [61]), .string (strOf [60]), .string (strOf [62]), .string (strOf [59]), .string (strOf [124]), .string (strOf [123]), .string (strOf [125]), .string (strOf [44]), .string (strOf [40]), .string (strOf [41]), .string (strOf [91]), .string (strOf [93]), .string (strOf [64]), .string (strOf [58])]) (.int .i64 0)).run Tryz.prog w = .ok (.string (strOf [33, 61])) w := fun _ => by kernel_rfl
  have x1 : ∀ w : World, (Instr.index 203 (.agg #[Value.string (strOf [33, 61]), .string (strOf [60, 61]), .string (strOf [62, 61]), .string (strOf [61]), .string (strOf [60]), .string (strOf [62]), .string (strOf [59]), .string (strOf [124]), .string (strOf [123]), .string (strOf [125]), .string (strOf [44]), .string (strOf [40]), .string (strOf [41]), .string (strOf [91]), .string (strOf [93]), .string (strOf [64]), .string (strOf [58])]) (.int .i64 1)).run Tryz.prog w = .ok (.string (strOf [60, 61])) w := fun _ => by kernel_rfl
  have x2 : ∀ w : World, (Instr.index 203 (.agg #[Value.string (strOf [33, 61]), .string (strOf [60, 61]), .string (strOf [62, 61]), .string (strOf [61]), .string (strOf [60]), .string (strOf [62]), .string (strOf [59]), .string (strOf [124]), .string (strOf [123]), .string (strOf [125]), .string (strOf [44]), .string (strOf [40]), .string (strOf [41]), .string (strOf [91]), .string (strOf [93]), .string (strOf [64]), .string (strOf [58])]) (.int .i64 2)).run Tryz.prog w = .ok (.string (strOf [62, 61])) w := fun _ => by kernel_rfl
  have x3 : ∀ w : World, (Instr.index 203 (.agg #[Value.string (strOf [33, 61]), .string (strOf [60, 61]), .string (strOf [62, 61]), .string (strOf [61]), .string (strOf [60]), .string (strOf [62]), .string (strOf [59]), .string (strOf [124]), .string (strOf [123]), .string (strOf [125]), .string (strOf [44]), .string (strOf [40]), .string (strOf [41]), .string (strOf [91]), .string (strOf [93]), .string (strOf [64]), .string (strOf [58])]) (.int .i64 3)).run Tryz.prog w = .ok (.string (strOf [61])) w := fun _ => by kernel_rfl
  have x4 : ∀ w : World, (Instr.index 203 (.agg #[Value.string (strOf [33, 61]), .string (strOf [60, 61]), .string (strOf [62, 61]), .string (strOf [61]), .string (strOf [60]), .string (strOf [62]), .string (strOf [59]), .string (strOf [124]), .string (strOf [123]), .string (strOf [125]), .string (strOf [44]), .string (strOf [40]), .string (strOf [41]), .string (strOf [91]), .string (strOf [93]), .string (strOf [64]), .string (strOf [58])]) (.int .i64 4)).run Tryz.prog w = .ok (.string (strOf [60])) w := fun _ => by kernel_rfl
  have x5 : ∀ w : World, (Instr.index 203 (.agg #[Value.string (strOf [33, 61]), .string (strOf [60, 61]), .string (strOf [62, 61]), .string (strOf [61]), .string (strOf [60]), .string (strOf [62]), .string (strOf [59]), .string (strOf [124]), .string (strOf [123]), .string (strOf [125]), .string (strOf [44]), .string (strOf [40]), .string (strOf [41]), .string (strOf [91]), .string (strOf [93]), .string (strOf [64]), .string (strOf [58])]) (.int .i64 5)).run Tryz.prog w = .ok (.string (strOf [62])) w := fun _ => by kernel_rfl
  have x6 : ∀ w : World, (Instr.index 203 (.agg #[Value.string (strOf [33, 61]), .string (strOf [60, 61]), .string (strOf [62, 61]), .string (strOf [61]), .string (strOf [60]), .string (strOf [62]), .string (strOf [59]), .string (strOf [124]), .string (strOf [123]), .string (strOf [125]), .string (strOf [44]), .string (strOf [40]), .string (strOf [41]), .string (strOf [91]), .string (strOf [93]), .string (strOf [64]), .string (strOf [58])]) (.int .i64 6)).run Tryz.prog w = .ok (.string (strOf [59])) w := fun _ => by kernel_rfl
  have x7 : ∀ w : World, (Instr.index 203 (.agg #[Value.string (strOf [33, 61]), .string (strOf [60, 61]), .string (strOf [62, 61]), .string (strOf [61]), .string (strOf [60]), .string (strOf [62]), .string (strOf [59]), .string (strOf [124]), .string (strOf [123]), .string (strOf [125]), .string (strOf [44]), .string (strOf [40]), .string (strOf [41]), .string (strOf [91]), .string (strOf [93]), .string (strOf [64]), .string (strOf [58])]) (.int .i64 7)).run Tryz.prog w = .ok (.string (strOf [124])) w := fun _ => by kernel_rfl
  have x8 : ∀ w : World, (Instr.index 203 (.agg #[Value.string (strOf [33, 61]), .string (strOf [60, 61]), .string (strOf [62, 61]), .string (strOf [61]), .string (strOf [60]), .string (strOf [62]), .string (strOf [59]), .string (strOf [124]), .string (strOf [123]), .string (strOf [125]), .string (strOf [44]), .string (strOf [40]), .string (strOf [41]), .string (strOf [91]), .string (strOf [93]), .string (strOf [64]), .string (strOf [58])]) (.int .i64 8)).run Tryz.prog w = .ok (.string (strOf [123])) w := fun _ => by kernel_rfl
  have x9 : ∀ w : World, (Instr.index 203 (.agg #[Value.string (strOf [33, 61]), .string (strOf [60, 61]), .string (strOf [62, 61]), .string (strOf [61]), .string (strOf [60]), .string (strOf [62]), .string (strOf [59]), .string (strOf [124]), .string (strOf [123]), .string (strOf [125]), .string (strOf [44]), .string (strOf [40]), .string (strOf [41]), .string (strOf [91]), .string (strOf [93]), .string (strOf [64]), .string (strOf [58])]) (.int .i64 9)).run Tryz.prog w = .ok (.string (strOf [125])) w := fun _ => by kernel_rfl
  have x10 : ∀ w : World, (Instr.index 203 (.agg #[Value.string (strOf [33, 61]), .string (strOf [60, 61]), .string (strOf [62, 61]), .string (strOf [61]), .string (strOf [60]), .string (strOf [62]), .string (strOf [59]), .string (strOf [124]), .string (strOf [123]), .string (strOf [125]), .string (strOf [44]), .string (strOf [40]), .string (strOf [41]), .string (strOf [91]), .string (strOf [93]), .string (strOf [64]), .string (strOf [58])]) (.int .i64 10)).run Tryz.prog w = .ok (.string (strOf [44])) w := fun _ => by kernel_rfl
  have x11 : ∀ w : World, (Instr.index 203 (.agg #[Value.string (strOf [33, 61]), .string (strOf [60, 61]), .string (strOf [62, 61]), .string (strOf [61]), .string (strOf [60]), .string (strOf [62]), .string (strOf [59]), .string (strOf [124]), .string (strOf [123]), .string (strOf [125]), .string (strOf [44]), .string (strOf [40]), .string (strOf [41]), .string (strOf [91]), .string (strOf [93]), .string (strOf [64]), .string (strOf [58])]) (.int .i64 11)).run Tryz.prog w = .ok (.string (strOf [40])) w := fun _ => by kernel_rfl
  have x12 : ∀ w : World, (Instr.index 203 (.agg #[Value.string (strOf [33, 61]), .string (strOf [60, 61]), .string (strOf [62, 61]), .string (strOf [61]), .string (strOf [60]), .string (strOf [62]), .string (strOf [59]), .string (strOf [124]), .string (strOf [123]), .string (strOf [125]), .string (strOf [44]), .string (strOf [40]), .string (strOf [41]), .string (strOf [91]), .string (strOf [93]), .string (strOf [64]), .string (strOf [58])]) (.int .i64 12)).run Tryz.prog w = .ok (.string (strOf [41])) w := fun _ => by kernel_rfl
  have x13 : ∀ w : World, (Instr.index 203 (.agg #[Value.string (strOf [33, 61]), .string (strOf [60, 61]), .string (strOf [62, 61]), .string (strOf [61]), .string (strOf [60]), .string (strOf [62]), .string (strOf [59]), .string (strOf [124]), .string (strOf [123]), .string (strOf [125]), .string (strOf [44]), .string (strOf [40]), .string (strOf [41]), .string (strOf [91]), .string (strOf [93]), .string (strOf [64]), .string (strOf [58])]) (.int .i64 13)).run Tryz.prog w = .ok (.string (strOf [91])) w := fun _ => by kernel_rfl
  have x14 : ∀ w : World, (Instr.index 203 (.agg #[Value.string (strOf [33, 61]), .string (strOf [60, 61]), .string (strOf [62, 61]), .string (strOf [61]), .string (strOf [60]), .string (strOf [62]), .string (strOf [59]), .string (strOf [124]), .string (strOf [123]), .string (strOf [125]), .string (strOf [44]), .string (strOf [40]), .string (strOf [41]), .string (strOf [91]), .string (strOf [93]), .string (strOf [64]), .string (strOf [58])]) (.int .i64 14)).run Tryz.prog w = .ok (.string (strOf [93])) w := fun _ => by kernel_rfl
  have x15 : ∀ w : World, (Instr.index 203 (.agg #[Value.string (strOf [33, 61]), .string (strOf [60, 61]), .string (strOf [62, 61]), .string (strOf [61]), .string (strOf [60]), .string (strOf [62]), .string (strOf [59]), .string (strOf [124]), .string (strOf [123]), .string (strOf [125]), .string (strOf [44]), .string (strOf [40]), .string (strOf [41]), .string (strOf [91]), .string (strOf [93]), .string (strOf [64]), .string (strOf [58])]) (.int .i64 15)).run Tryz.prog w = .ok (.string (strOf [64])) w := fun _ => by kernel_rfl
  have x16 : ∀ w : World, (Instr.index 203 (.agg #[Value.string (strOf [33, 61]), .string (strOf [60, 61]), .string (strOf [62, 61]), .string (strOf [61]), .string (strOf [60]), .string (strOf [62]), .string (strOf [59]), .string (strOf [124]), .string (strOf [123]), .string (strOf [125]), .string (strOf [44]), .string (strOf [40]), .string (strOf [41]), .string (strOf [91]), .string (strOf [93]), .string (strOf [64]), .string (strOf [58])]) (.int .i64 16)).run Tryz.prog w = .ok (.string (strOf [58])) w := fun _ => by kernel_rfl
  intro i c hc w
  match i with
  | 0 => cases hc; exact x0 w
  | 1 => cases hc; exact x1 w
  | 2 => cases hc; exact x2 w
  | 3 => cases hc; exact x3 w
  | 4 => cases hc; exact x4 w
  | 5 => cases hc; exact x5 w
  | 6 => cases hc; exact x6 w
  | 7 => cases hc; exact x7 w
  | 8 => cases hc; exact x8 w
  | 9 => cases hc; exact x9 w
  | 10 => cases hc; exact x10 w
  | 11 => cases hc; exact x11 w
  | 12 => cases hc; exact x12 w
  | 13 => cases hc; exact x13 w
  | 14 => cases hc; exact x14 w
  | 15 => cases hc; exact x15 w
  | 16 => cases hc; exact x16 w
  | i + 17 => exact absurd hc (by rw [List.getElem?_eq_none (by show 17 ≤ i + 17; omega)]; simp)
theorem arr_is {A : Array Value} (hA : (#[Value.string (strOf [33, 61]), .string (strOf [60, 61]), .string (strOf [62, 61]), .string (strOf [61]), .string (strOf [60]), .string (strOf [62]), .string (strOf [59]), .string (strOf [124]), .string (strOf [123]), .string (strOf [125]), .string (strOf [44]), .string (strOf [40]), .string (strOf [41]), .string (strOf [91]), .string (strOf [93]), .string (strOf [64]), .string (strOf [58])] : Array Value) = A) :
    ∀ (i : Nat) (c : List UInt8), signsL[i]? = some c → ∀ w : World, (Instr.index 203 (.agg A) (.int .i64 (i : Int))).run Tryz.prog w = .ok (.string (strOf c)) w := by
  subst hA
  exact arr_idx
theorem strOf_get {l : List UInt8} {k : Nat} (h : k < (strOf l).size) (h2 : k < l.length) : (strOf l)[k]'h = l[k] := rfl
theorem prefix_not {c l : List UInt8} {k : Nat} (h1 : k < c.length) (h2 : k < l.length) (h : ¬ l[k] = c[k]) : c.isPrefixOf l = false := by
  cases hp : c.isPrefixOf l with
  | false => rfl
  | true =>
    obtain ⟨t, rfl⟩ := List.isPrefixOf_iff_prefix.1 hp
    exact absurd (List.getElem_append_left h1) h
theorem int_eq_byte (a b : UInt8) : (a.toNat : Int) = (b.toNat : Int) ↔ a = b :=
  ⟨fun h => UInt8.toNat_inj.1 (by omega), fun h => by rw [h]⟩
theorem drop_sign {i : Nat} {c : List UInt8} (h : signsL[i]? = some c) : signsL.drop i = c :: signsL.drop (i + 1) := by
  obtain ⟨hi, rfl⟩ := List.getElem?_eq_some_iff.1 h
  exact List.drop_eq_getElem_cons hi
theorem first_skip {c l : List UInt8} {L : List (List UInt8)} (h : c.isPrefixOf l = false) : firstS (c :: L) l = firstS L l := by
  unfold firstS
  rw [List.find?_cons, h]
theorem first_is {c l : List UInt8} {L : List (List UInt8)} (h : c.isPrefixOf l = true) : firstS (c :: L) l = c := by
  unfold firstS
  rw [List.find?_cons, h]
  rfl
theorem not_prefix_long {c l : List UInt8} (h : l.length < c.length) : c.isPrefixOf l = false := by
  cases hp : c.isPrefixOf l with
  | false => rfl
  | true => have := (List.isPrefixOf_iff_prefix.1 hp).length_le; omega
theorem signs_len : ∀ (i : Nat) (c : List UInt8), signsL[i]? = some c → c.length ≤ 2 ∧ 1 ≤ c.length := by
  have h : ∀ c ∈ signsL, c.length ≤ 2 ∧ 1 ≤ c.length := by decide
  exact fun i c hc => h c (List.mem_of_getElem? hc)
set_option maxRecDepth 100000 in
set_option maxHeartbeats 2000000 in
theorem signOf_any (l : List UInt8) (hl : l.length ≤ maxLen) (w : World) (h : SG w) :
    Calls Tryz.prog 172 #[.string (strOf l)] w fun e w' => e = .returned (.string (strOf (firstS signsL l))) ∧ ∃ n, w' = w.drewN n := by
  have d0 := h.2 0 _ rfl
  have d1 := h.2 1 _ rfl
  have d2 := h.2 2 _ rfl
  have d3 := h.2 3 _ rfl
  have d4 := h.2 4 _ rfl
  have d5 := h.2 5 _ rfl
  have d6 := h.2 6 _ rfl
  have d7 := h.2 7 _ rfl
  have d8 := h.2 8 _ rfl
  have d9 := h.2 9 _ rfl
  have d10 := h.2 10 _ rfl
  have d11 := h.2 11 _ rfl
  have d12 := h.2 12 _ rfl
  have d13 := h.2 13 _ rfl
  have d14 := h.2 14 _ rfl
  have d15 := h.2 15 _ rfl
  have d16 := h.2 16 _ rfl
  have hlt := h.1
  go_enter Tryz.func172, Tryz.ntmps172
  go_wp2
  go_step3
  go_wp2
  go_step3
  go_wp2
  generalize hA : (#[Value.string (strOf [33, 61]), .string (strOf [60, 61]), .string (strOf [62, 61]), .string (strOf [61]), .string (strOf [60]), .string (strOf [62]), .string (strOf [59]), .string (strOf [124]), .string (strOf [123]), .string (strOf [125]), .string (strOf [44]), .string (strOf [40]), .string (strOf [41]), .string (strOf [91]), .string (strOf [93]), .string (strOf [64]), .string (strOf [58])] : Array Value) = A
  have hA2 := Lib.hid (arr_is hA)
  clear hA d0 d1 d2 d3 d4 d5 d6 d7 d8 d9 d10 d11 d12 d13 d14 d15 d16
  have hsz : (strOf l).size = l.length := strOf_size l
  unfold maxLen at hl
  go_loopg [7] 17 (fun g iv wr => ∃ (i n : Nat), i ≤ 17 ∧ g = 17 - i ∧ iv = .int .i64 (i : Int) ∧ wr = w.drewN n ∧ Hid (firstS signsL l = firstS (signsL.drop i) l))
  case atStart => exact ⟨0, 0, by omega, rfl, rfl, rfl, Lib.hid rfl⟩
  case round =>
    obtain ⟨i, n, hi, hg, rfl, rfl, hF⟩ := hrel
    by_cases hz : i = 17
    · subst hz
      have e1 := Lib.hid hF.out
      go_wp2
      rw [Exit.noGoto_ret]
      go_ret
      exact ⟨by rw [e1.out]; rfl, _, rfl⟩
    · have hi17 : i < 17 := by omega
      have h1 : (i : Int) < 17 := by omega
      obtain ⟨c, hc⟩ : ∃ c, signsL[i]? = some c := ⟨_, List.getElem?_eq_getElem hi17⟩
      have hAi := hA2.out i c hc
      have hdr := Lib.hid (drop_sign hc)
      have hcl := signs_len i c hc
      have hcs : (strOf c).size = c.length := strOf_size c
      obtain ⟨C, hC⟩ : ∃ C, C = strOf c := ⟨_, rfl⟩
      rw [← hC] at hAi hcs
      have HC := Lib.hid hC
      have hC2 := hC
      clear hC
      have hwi : IntKind.i64.wrap ((i : Int) + 1) = (i : Int) + 1 := IntWalk.i64_in _ ⟨by omega, by omega⟩
      clear hz hc hA2
      by_cases hlong : l.length < c.length
      · have h2 : (l.length : Int) < (c.length : Int) := by omega
        have hF2 := Lib.hid (show firstS signsL l = firstS (signsL.drop (i + 1)) l by rw [hF.out, hdr.out, first_skip (not_prefix_long hlong)])
        clear hC2
        go_wp2
        go_roundg (17 - (i + 1))
        case rel => exact ⟨i + 1, n, by omega, rfl, by go_num, rfl, hF2⟩
        case measure => omega
      · have h2 : ¬ (l.length : Int) < (c.length : Int) := by omega
        have HC2 := Lib.hid hC2
        clear hC2
        go_wp2
        go_loopg [17] c.length (fun g kv wr => ∃ (k n : Nat), k ≤ c.length ∧ g = c.length - k ∧ kv = .int .i64 (k : Int) ∧ wr = w.drewN n ∧ Hid (c.take k = l.take k))
        case atStart => exact ⟨0, n, by omega, rfl, rfl, rfl, Lib.hid rfl⟩
        case round =>
          obtain ⟨k, n, hk, hgk, rfl, rfl, hT⟩ := hrel
          by_cases hkc : k = c.length
          · subst hkc
            have hpre : c.isPrefixOf l = true := by
              have := hT.out
              rw [List.take_length] at this
              rw [List.isPrefixOf_iff_prefix, this]
              exact List.take_prefix _ _
            have e1 := Lib.hid (show firstS signsL l = c by rw [hF.out, hdr.out, first_is hpre])
            clear hpre
            go_wp2
            rw [Exit.noGoto_ret]
            go_ret
            exact ⟨by rw [e1.out, ← HC.out]; rfl, _, rfl⟩
          · have hkc2 : k < c.length := by omega
            have hkl : k < l.length := by omega
            have g1 : (k : Int) < (c.length : Int) := by omega
            have g2 : (0 : Int) ≤ (k : Int) := by omega
            have g3 : (k : Int) < (l.length : Int) := by omega
            have q1 : k < (strOf l).size := by rw [hsz]; exact hkl
            have q2 : k < C.size := by rw [hcs]; exact hkc2
            have hcx : (C[k]'q2) = c[k] := by have hC2 := HC2.out; subst hC2; rfl
            have hlx : ((strOf l)[k]'q1) = l[k] := rfl
            have hT2 := Lib.hid (fun (h : l[k] = c[k]) => show c.take (k + 1) = l.take (k + 1) by rw [take_snoc _ _ hkc2, take_snoc _ _ hkl, hT.out]; exact congrArg (fun z => l.take k ++ [z]) h.symm)
            have hF2 := Lib.hid (fun (h : ¬ l[k] = c[k]) => show firstS signsL l = firstS (signsL.drop (i + 1)) l by rw [hF.out, hdr.out, first_skip (prefix_not hkc2 hkl h)])
            obtain ⟨x, hx⟩ : ∃ x : Int, ((((strOf l)[k]'q1).toNat : Nat) : Int) = x := ⟨_, rfl⟩
            obtain ⟨y, hy⟩ : ∃ y : Int, (((C[k]'q2).toNat : Nat) : Int) = y := ⟨_, rfl⟩
            have hxy := Lib.hid (show x = y ↔ l[k] = c[k] by rw [← hx, ← hy, hcx, hlx]; exact int_eq_byte _ _)
            have hwk : IntKind.i64.wrap ((k : Int) + 1) = (k : Int) + 1 := IntWalk.i64_in _ ⟨by omega, by omega⟩
            clear hcx hlx hkc
            by_cases he : x = y
            · have HE := Lib.hid (hxy.out.1 he)
              subst he
              clear hxy
              go_wp2
              go_quiet (fail)
              go_wp2
              go_roundg (c.length - (k + 1))
              case rel => exact ⟨k + 1, _, by omega, rfl, by go_num, rfl, Lib.hid (hT2.out HE.out)⟩
              case measure => omega
            · have HE := Lib.hid (fun h => he (hxy.out.2 h))
              have heb : (x == y) = false := by rw [beq_eq_false_iff_ne]; exact he
              have heb2 : (x != y) = true := by simp [heb, bne]
              clear hxy
              go_wp2
              go_quiet (fail)
              go_wp2
              go_roundg (17 - (i + 1))
              case rel => exact ⟨i + 1, _, by omega, rfl, by go_num, rfl, Lib.hid (hF2.out HE.out)⟩
              case measure => omega
end Go.Proofs.YtdoioaeppepndaaGreatDoor
