/- Package token, first part: the next token. -/
import Derived.Test.YtfibmdbplfghcaaGreatDoorProg
import Derived.Test.YtfibmdbplfghcaaGreatDoorTokSpec
import Derived.Test.YtfibmdbplfghcaaGreatDoorBlk
import Derived.Outline
import Derived.Deep.DeepCutAuto
import Derived.BigQuiet
import Derived.Test.YtfibmdbplfghcaaGreatDoorShelf
import Derived.Deep.LoopGhost
import Derived.Deep.RegionHeld3
import Derived.Deep.RegionWith
namespace Go.Proofs.YtfibmdbplfghcaaGreatDoor
open Go.RowKit
open Tk7

theorem bool_not {p : Bool} {Q : Prop} (h : p = true ↔ Q) (hq : ¬ Q) : p = false := by
  cases hp : p with
  | false => rfl
  | true => exact absurd (h.1 hp) hq
theorem u8_is {b : UInt8} {n : Nat} (hn : n < 256) : b = UInt8.ofNat n ↔ (b.toNat : Int) = n := by
  constructor
  · rintro rfl
    rw [UInt8.toNat_ofNat', Nat.mod_eq_of_lt hn]
  · intro h
    apply UInt8.toNat_inj.1
    rw [UInt8.toNat_ofNat', Nat.mod_eq_of_lt hn]
    omega
theorem beq_is {b : UInt8} (n : Nat) (hn : n < 256) : (b == UInt8.ofNat n) = true ↔ (b.toNat : Int) = n := by rw [beq_iff_eq, u8_is hn]
theorem blankB_iff {b : UInt8} : blankB b = true ↔ (b.toNat : Int) = 9 ∨ (b.toNat : Int) = 10 ∨ (b.toNat : Int) = 13 ∨ (b.toNat : Int) = 32 := by
  have h := @beq_is b
  unfold blankB
  rw [Bool.or_eq_true, Bool.or_eq_true, Bool.or_eq_true, show (9 : UInt8) = UInt8.ofNat 9 from rfl, show (10 : UInt8) = UInt8.ofNat 10 from rfl, show (13 : UInt8) = UInt8.ofNat 13 from rfl, show (32 : UInt8) = UInt8.ofNat 32 from rfl, h 9 (by decide), h 10 (by decide), h 13 (by decide), h 32 (by decide)]
  constructor
  · rintro (((h | h) | h) | h)
    · exact .inl h
    · exact .inr (.inl h)
    · exact .inr (.inr (.inl h))
    · exact .inr (.inr (.inr h))
  · rintro (h | h | h | h)
    · exact .inl (.inl (.inl h))
    · exact .inl (.inl (.inr h))
    · exact .inl (.inr h)
    · exact .inr h
theorem byte_lt (b : UInt8) : (b.toNat : Int) < 256 ∧ 0 ≤ (b.toNat : Int) := by have := b.toNat_lt; omega
theorem smallB_iff {b : UInt8} : smallB b = true ↔ 97 ≤ (b.toNat : Int) ∧ (b.toNat : Int) ≤ 122 := by
  unfold smallB
  rw [Bool.and_eq_true, decide_eq_true_eq, decide_eq_true_eq]
  omega
theorem largeB_iff {b : UInt8} : largeB b = true ↔ 65 ≤ (b.toNat : Int) ∧ (b.toNat : Int) ≤ 90 := by
  unfold largeB
  rw [Bool.and_eq_true, decide_eq_true_eq, decide_eq_true_eq]
  omega
theorem digB_iff {b : UInt8} : digB b = true ↔ 48 ≤ (b.toNat : Int) ∧ (b.toNat : Int) ≤ 57 := by
  unfold digB
  rw [Bool.and_eq_true, decide_eq_true_eq, decide_eq_true_eq]
  omega
theorem isSmall_any (b : UInt8) (w : World) :
    Calls Tryz.prog 129 #[.int .u8 (b.toNat : Int)] w fun e w' => e = .returned (.bool (smallB b)) ∧ w = w' := by
  have hj := smallB_iff (b := b)
  obtain ⟨p, hp⟩ : ∃ p, p = smallB b := ⟨_, rfl⟩
  rw [← hp] at hj ⊢
  obtain ⟨c, hc⟩ : ∃ c : Int, c = (b.toNat : Int) := ⟨_, rfl⟩
  rw [← hc] at hj ⊢
  clear hp hc
  by_cases h1 : 97 ≤ c
  · by_cases h2 : c ≤ 122
    · have := hj.2 ⟨h1, h2⟩
      subst this
      clear hj
      go_enter Tryz.func129, Tryz.ntmps129
      go_wp2
      go_ret
      exact ⟨rfl, rfl⟩
    · have := bool_not hj (fun h => h2 h.2)
      subst this
      clear hj
      go_enter Tryz.func129, Tryz.ntmps129
      go_wp2
      go_ret
      exact ⟨rfl, rfl⟩
  · have := bool_not hj (fun h => h1 h.1)
    subst this
    clear hj
    go_enter Tryz.func129, Tryz.ntmps129
    go_wp2
    go_ret
    exact ⟨rfl, rfl⟩
theorem isDigit_any (b : UInt8) (w : World) :
    Calls Tryz.prog 130 #[.int .u8 (b.toNat : Int)] w fun e w' => e = .returned (.bool (digB b)) ∧ w = w' := by
  have hj := digB_iff (b := b)
  obtain ⟨p, hp⟩ : ∃ p, p = digB b := ⟨_, rfl⟩
  rw [← hp] at hj ⊢
  obtain ⟨c, hc⟩ : ∃ c : Int, c = (b.toNat : Int) := ⟨_, rfl⟩
  rw [← hc] at hj ⊢
  clear hp hc
  by_cases h1 : 48 ≤ c
  · by_cases h2 : c ≤ 57
    · have := hj.2 ⟨h1, h2⟩
      subst this
      clear hj
      go_enter Tryz.func130, Tryz.ntmps130
      go_wp2
      go_ret
      exact ⟨rfl, rfl⟩
    · have := bool_not hj (fun h => h2 h.2)
      subst this
      clear hj
      go_enter Tryz.func130, Tryz.ntmps130
      go_wp2
      go_ret
      exact ⟨rfl, rfl⟩
  · have := bool_not hj (fun h => h1 h.1)
    subst this
    clear hj
    go_enter Tryz.func130, Tryz.ntmps130
    go_wp2
    go_ret
    exact ⟨rfl, rfl⟩
theorem isBlank_any (b : UInt8) (w : World) :
    Calls Tryz.prog 127 #[.int .u8 (b.toNat : Int)] w fun e w' => e = .returned (.bool (blankB b)) ∧ w = w' := by
  have hj := blankB_iff (b := b)
  obtain ⟨p, hp⟩ : ∃ p, p = blankB b := ⟨_, rfl⟩
  rw [← hp] at hj ⊢
  obtain ⟨c, hc⟩ : ∃ c : Int, c = (b.toNat : Int) := ⟨_, rfl⟩
  rw [← hc] at hj ⊢
  clear hp hc
  by_cases h9 : c = 9
  · subst h9
    have := hj.2 (.inl rfl)
    subst this
    clear hj
    go_enter Tryz.func127, Tryz.ntmps127
    go_wp2
    go_ret
    exact ⟨rfl, rfl⟩
  by_cases h10 : c = 10
  · subst h10
    have := hj.2 (.inr (.inl rfl))
    subst this
    clear hj
    go_enter Tryz.func127, Tryz.ntmps127
    go_wp2
    go_ret
    exact ⟨rfl, rfl⟩
  by_cases h13 : c = 13
  · subst h13
    have := hj.2 (.inr (.inr (.inl rfl)))
    subst this
    clear hj
    go_enter Tryz.func127, Tryz.ntmps127
    go_wp2
    go_ret
    exact ⟨rfl, rfl⟩
  by_cases h32 : c = 32
  · subst h32
    have := hj.2 (.inr (.inr (.inr rfl)))
    subst this
    clear hj
    go_enter Tryz.func127, Tryz.ntmps127
    go_wp2
    go_ret
    exact ⟨rfl, rfl⟩
  have := bool_not hj (fun h => h.elim h9 (fun h => h.elim h10 (fun h => h.elim h13 h32)))
  subst this
  have b9 : (c == 9) = false := by rw [beq_eq_false_iff_ne]; exact h9
  have b10 : (c == 10) = false := by rw [beq_eq_false_iff_ne]; exact h10
  have b13 : (c == 13) = false := by rw [beq_eq_false_iff_ne]; exact h13
  have b32 : (c == 32) = false := by rw [beq_eq_false_iff_ne]; exact h32
  clear hj
  go_enter Tryz.func127, Tryz.ntmps127
  go_wp2
  go_ret
  exact ⟨rfl, rfl⟩
end Go.Proofs.YtfibmdbplfghcaaGreatDoor
namespace Go.Proofs.YtfibmdbplfghcaaGreatDoor
open Go.RowKit
open Tk7

theorem str_is {s : ByteArray} {l : List UInt8} (h : s.data.toList = l) : s = strOf l := by
  subst h; rfl
theorem strOf_size (l : List UInt8) : (strOf l).size = l.length := by simp [strOf, ByteArray.size]
theorem strOf_dat (l : List UInt8) : (strOf l).data.toList = l := by simp [strOf]
/-- The cursor in block R: the text, the place, and where the token begins. -/
def Cur (w : World) (R : Nat) (s : ByteArray) (k f : Nat) : Prop := Blk w R [.string s, .int .i64 (k : Int), .int .i64 (f : Int)]
/-- What stands behind the place. -/
def restAt (s : ByteArray) (k : Nat) : List UInt8 := s.data.toList.drop k
theorem restAt_len (s : ByteArray) (k : Nat) : (restAt s k).length = s.size - k := by unfold restAt; rw [List.length_drop, bytes_size]
theorem rest_cons {s : ByteArray} {k : Nat} (h : k < s.size) : restAt s k = s[k]'h :: restAt s (k + 1) := by
  unfold restAt
  have h2 : k < s.data.toList.length := by rw [bytes_size]; exact h
  rw [List.drop_eq_getElem_cons h2]
  rfl
theorem rest_nil {s : ByteArray} {k : Nat} (h : s.size ≤ k) : restAt s k = [] := List.drop_eq_nil_of_le (by rw [bytes_size]; exact h)
theorem rest_drop (s : ByteArray) (k j : Nat) : (restAt s k).drop j = restAt s (k + j) := by unfold restAt; rw [List.drop_drop]
theorem ext_take (s : ByteArray) (k j : Nat) : s.extract k j = strOf ((restAt s k).take (j - k)) := by
  apply str_is
  rw [ByteArray.data_extract, Array.toList_extract]
  simp only [List.extract_eq_take_drop]
  rfl
theorem Cur.parts {w : World} {R : Nat} {s : ByteArray} {k f : Nat} (h : Cur w R s k f) : R < w.heap.size ∧ w.cell? ⟨R, 0, none⟩ = some (.string s) ∧ w.cell? ⟨R, 1, none⟩ = some (.int .i64 (k : Int)) ∧ w.cell? ⟨R, 2, none⟩ = some (.int .i64 (f : Int)) ∧ w.frozen? ⟨R, 0, none⟩ = false ∧ w.frozen? ⟨R, 1, none⟩ = false ∧ w.frozen? ⟨R, 2, none⟩ = false :=
  ⟨h.lt, h.cell 0 _ rfl, h.cell 1 _ rfl, h.cell 2 _ rfl, h.fr 0 _ rfl, h.fr 1 _ rfl, h.fr 2 _ rfl⟩
theorem Cur.drewN {w : World} {R : Nat} {s : ByteArray} {k f : Nat} (h : Cur w R s k f) (n : Nat) : Cur (w.drewN n) R s k f := Blk.drewN h n
theorem Cur.step {w : World} {R : Nat} {s : ByteArray} {k f : Nat} (h : Cur w R s k f) (k' : Nat) (x : Int) (e : x = (k' : Int)) : Cur (w.setCell ⟨R, 1, none⟩ (.int .i64 x)) R s k' f := by
  subst e; exact Blk.set h 1 _
theorem Cur.from_ {w : World} {R : Nat} {s : ByteArray} {k f : Nat} (h : Cur w R s k f) (f' : Nat) : Cur (w.setCell ⟨R, 2, none⟩ (.int .i64 (f' : Int))) R s k f' := Blk.set h 2 _
set_option maxRecDepth 100000 in
theorem isDone_any {w : World} {R : Nat} {s : ByteArray} {k f : Nat} (h : Cur w R s k f) (p : Bool) (hp : ((k : Int) == (s.size : Int)) = p) :
    Calls Tryz.prog 116 #[.pointer (some ⟨R, 0, none⟩)] w fun e w' => e = .returned (.bool p) ∧ ∃ n, w' = w.drewN n := by
  obtain ⟨hlt, c0, c1, c2, f0, f1, f2⟩ := h.parts
  go_enter Tryz.func116, Tryz.ntmps116
  go_wp2
  go_quiet (fail)
  go_wp2
  go_ret
  exact ⟨rfl, _, rfl⟩
set_option maxRecDepth 100000 in
theorem taken_any {w : World} {R : Nat} {s : ByteArray} {k f : Nat} (h : Cur w R s k f) (hk : k ≤ s.size) (hf : f ≤ k) (t : List UInt8) (ht : (restAt s f).take (k - f) = t) :
    Calls Tryz.prog 118 #[.pointer (some ⟨R, 0, none⟩)] w fun e w' => e = .returned (.string (strOf t)) ∧ ∃ n, w' = w.drewN n := by
  obtain ⟨hlt, c0, c1, c2, f0, f1, f2⟩ := h.parts
  have g1 : (f : Int) ≤ (k : Int) := by omega
  have g2 : (k : Int) ≤ (s.size : Int) := by omega
  have g3 : (0 : Int) ≤ (f : Int) := by omega
  have hex := Lib.hid (show s.extract f k = strOf t by rw [ext_take, ht])
  clear ht
  go_enter Tryz.func118, Tryz.ntmps118
  go_wp2
  go_quiet (fail)
  go_wp2
  go_ret
  exact ⟨by rw [← hex.out]; rfl, _, rfl⟩
theorem while_true {p : UInt8 → Bool} {b : UInt8} {r : List UInt8} (h : p b = true) : ((b :: r).takeWhile p).length = (r.takeWhile p).length + 1 := by rw [List.takeWhile_cons, if_pos h, List.length_cons]
theorem while_false {p : UInt8 → Bool} {b : UInt8} {r : List UInt8} (h : p b = false) : ((b :: r).takeWhile p).length = 0 := by rw [List.takeWhile_cons, if_neg (by rw [h]; decide)]; rfl
end Go.Proofs.YtfibmdbplfghcaaGreatDoor
namespace Go.Proofs.YtfibmdbplfghcaaGreatDoor
open Go.RowKit
open Tk7

set_option maxRecDepth 100000 in
set_option maxHeartbeats 2000000 in
theorem skip_blank {w : World} {R : Nat} {s : ByteArray} {k f : Nat} (h : Cur w R s k f) (hk : k ≤ s.size) (hs : s.size ≤ maxLen) :
    Calls Tryz.prog 126 #[.pointer (some ⟨R, 0, none⟩), .func (.func 127) #[] #[]] w fun e w' => e = .returned (.tuple #[]) ∧ Only R w w' ∧ Cur w' R s (k + ((restAt s k).takeWhile blankB).length) f := by
  have hs' := hs
  unfold maxLen at hs'
  go_enter Tryz.func126, Tryz.ntmps126
  go_wp2
  go_loopg [] (s.size - k) (fun g wr => ∃ j : Nat, k ≤ j ∧ j ≤ s.size ∧ g = s.size - j ∧ Hid (Cur wr R s j f) ∧ Only R w wr ∧ Hid (k + ((restAt s k).takeWhile blankB).length = j + ((restAt s j).takeWhile blankB).length))
  case atStart => exact ⟨k, Nat.le_refl _, hk, rfl, h, Only.refl _ _, Lib.hid rfl⟩
  case round =>
    obtain ⟨j, hkj, hj, hg, hC, hO, hL⟩ := hrel
    by_cases hz : j = s.size
    · have hD := fun n => isDone_any (hC.out.drewN n) true (by rw [beq_iff_eq]; omega)
      have he := Lib.hid (show k + ((restAt s k).takeWhile blankB).length = j by rw [hL.out, rest_nil (by omega)]; rfl)
      clear hL hz hg hs hs'
      obtain ⟨hlt, c0, c1, c2, q0, q1, q2⟩ := hC.out.parts
      go_wp2_with fail
      go_quiet ((go_at_call 116; exact Calls.quiet_of (hD _)))
      go_wp2
      go_end0
      exact ⟨rfl, hO.drewN _, by rw [he.out]; exact hC.out.drewN _⟩
    · have hjl : j < s.size := by omega
      have hD := fun n => isDone_any (hC.out.drewN n) false (by rw [beq_eq_false_iff_ne]; omega)
      have hr := rest_cons hjl
      have hB := fun w => isBlank_any (s[j]'hjl) w
      have hL1 := Lib.hid (fun (h : blankB (s[j]'hjl) = true) => show k + ((restAt s k).takeWhile blankB).length = (j + 1) + ((restAt s (j + 1)).takeWhile blankB).length by rw [hL.out, hr, while_true h]; omega)
      have hL2 := Lib.hid (fun (h : blankB (s[j]'hjl) = false) => show k + ((restAt s k).takeWhile blankB).length = j by rw [hL.out, hr, while_false h]; omega)
      obtain ⟨q, hq⟩ : ∃ q, q = blankB (s[j]'hjl) := ⟨_, rfl⟩
      rw [← hq] at hB
      have HQ := Lib.hid hq
      have g1 : (0 : Int) ≤ (j : Int) := by omega
      have g2 : (j : Int) < (s.size : Int) := by omega
      have hw : IntKind.i64.wrap ((j : Int) + 1) = (j : Int) + 1 := IntWalk.i64_in _ ⟨by omega, by omega⟩
      obtain ⟨hlt, c0, c1, c2, q0, q1, q2⟩ := hC.out.parts
      clear hq hr hL hz hs hs'
      cases q with
      | true =>
        go_wp2_with fail
        go_quiet (first | (go_at_call 116; exact Calls.quiet_of (hD _)) | (go_at_call 127; exact quiet_same (hB _)))
        go_wp2
        go_roundg (s.size - (j + 1))
        case rel => exact ⟨j + 1, by omega, by omega, rfl, Lib.hid ((hC.out.drewN _).step _ _ (by go_num)), (hO.drewN _).setCell _ _, Lib.hid (hL1.out HQ.out.symm)⟩
        case measure => omega
      | false =>
        go_wp2_with fail
        go_quiet (first | (go_at_call 116; exact Calls.quiet_of (hD _)) | (go_at_call 127; exact quiet_same (hB _)))
        go_wp2
        go_end0
        exact ⟨rfl, hO.drewN _, by rw [hL2.out HQ.out.symm]; exact hC.out.drewN _⟩
set_option maxRecDepth 100000 in
set_option maxHeartbeats 2000000 in
theorem skip_small {w : World} {R : Nat} {s : ByteArray} {k f : Nat} (h : Cur w R s k f) (hk : k ≤ s.size) (hs : s.size ≤ maxLen) :
    Calls Tryz.prog 126 #[.pointer (some ⟨R, 0, none⟩), .func (.func 129) #[] #[]] w fun e w' => e = .returned (.tuple #[]) ∧ Only R w w' ∧ Cur w' R s (k + ((restAt s k).takeWhile smallB).length) f := by
  have hs' := hs
  unfold maxLen at hs'
  go_enter Tryz.func126, Tryz.ntmps126
  go_wp2
  go_loopg [] (s.size - k) (fun g wr => ∃ j : Nat, k ≤ j ∧ j ≤ s.size ∧ g = s.size - j ∧ Hid (Cur wr R s j f) ∧ Only R w wr ∧ Hid (k + ((restAt s k).takeWhile smallB).length = j + ((restAt s j).takeWhile smallB).length))
  case atStart => exact ⟨k, Nat.le_refl _, hk, rfl, h, Only.refl _ _, Lib.hid rfl⟩
  case round =>
    obtain ⟨j, hkj, hj, hg, hC, hO, hL⟩ := hrel
    by_cases hz : j = s.size
    · have hD := fun n => isDone_any (hC.out.drewN n) true (by rw [beq_iff_eq]; omega)
      have he := Lib.hid (show k + ((restAt s k).takeWhile smallB).length = j by rw [hL.out, rest_nil (by omega)]; rfl)
      clear hL hz hg hs hs'
      obtain ⟨hlt, c0, c1, c2, q0, q1, q2⟩ := hC.out.parts
      go_wp2_with fail
      go_quiet ((go_at_call 116; exact Calls.quiet_of (hD _)))
      go_wp2
      go_end0
      exact ⟨rfl, hO.drewN _, by rw [he.out]; exact hC.out.drewN _⟩
    · have hjl : j < s.size := by omega
      have hD := fun n => isDone_any (hC.out.drewN n) false (by rw [beq_eq_false_iff_ne]; omega)
      have hr := rest_cons hjl
      have hB := fun w => isSmall_any (s[j]'hjl) w
      have hL1 := Lib.hid (fun (h : smallB (s[j]'hjl) = true) => show k + ((restAt s k).takeWhile smallB).length = (j + 1) + ((restAt s (j + 1)).takeWhile smallB).length by rw [hL.out, hr, while_true h]; omega)
      have hL2 := Lib.hid (fun (h : smallB (s[j]'hjl) = false) => show k + ((restAt s k).takeWhile smallB).length = j by rw [hL.out, hr, while_false h]; omega)
      obtain ⟨q, hq⟩ : ∃ q, q = smallB (s[j]'hjl) := ⟨_, rfl⟩
      rw [← hq] at hB
      have HQ := Lib.hid hq
      have g1 : (0 : Int) ≤ (j : Int) := by omega
      have g2 : (j : Int) < (s.size : Int) := by omega
      have hw : IntKind.i64.wrap ((j : Int) + 1) = (j : Int) + 1 := IntWalk.i64_in _ ⟨by omega, by omega⟩
      obtain ⟨hlt, c0, c1, c2, q0, q1, q2⟩ := hC.out.parts
      clear hq hr hL hz hs hs'
      cases q with
      | true =>
        go_wp2_with fail
        go_quiet (first | (go_at_call 116; exact Calls.quiet_of (hD _)) | (go_at_call 129; exact quiet_same (hB _)))
        go_wp2
        go_roundg (s.size - (j + 1))
        case rel => exact ⟨j + 1, by omega, by omega, rfl, Lib.hid ((hC.out.drewN _).step _ _ (by go_num)), (hO.drewN _).setCell _ _, Lib.hid (hL1.out HQ.out.symm)⟩
        case measure => omega
      | false =>
        go_wp2_with fail
        go_quiet (first | (go_at_call 116; exact Calls.quiet_of (hD _)) | (go_at_call 129; exact quiet_same (hB _)))
        go_wp2
        go_end0
        exact ⟨rfl, hO.drewN _, by rw [hL2.out HQ.out.symm]; exact hC.out.drewN _⟩
set_option maxRecDepth 100000 in
set_option maxHeartbeats 2000000 in
theorem skip_digit {w : World} {R : Nat} {s : ByteArray} {k f : Nat} (h : Cur w R s k f) (hk : k ≤ s.size) (hs : s.size ≤ maxLen) :
    Calls Tryz.prog 126 #[.pointer (some ⟨R, 0, none⟩), .func (.func 130) #[] #[]] w fun e w' => e = .returned (.tuple #[]) ∧ Only R w w' ∧ Cur w' R s (k + ((restAt s k).takeWhile digB).length) f := by
  have hs' := hs
  unfold maxLen at hs'
  go_enter Tryz.func126, Tryz.ntmps126
  go_wp2
  go_loopg [] (s.size - k) (fun g wr => ∃ j : Nat, k ≤ j ∧ j ≤ s.size ∧ g = s.size - j ∧ Hid (Cur wr R s j f) ∧ Only R w wr ∧ Hid (k + ((restAt s k).takeWhile digB).length = j + ((restAt s j).takeWhile digB).length))
  case atStart => exact ⟨k, Nat.le_refl _, hk, rfl, h, Only.refl _ _, Lib.hid rfl⟩
  case round =>
    obtain ⟨j, hkj, hj, hg, hC, hO, hL⟩ := hrel
    by_cases hz : j = s.size
    · have hD := fun n => isDone_any (hC.out.drewN n) true (by rw [beq_iff_eq]; omega)
      have he := Lib.hid (show k + ((restAt s k).takeWhile digB).length = j by rw [hL.out, rest_nil (by omega)]; rfl)
      clear hL hz hg hs hs'
      obtain ⟨hlt, c0, c1, c2, q0, q1, q2⟩ := hC.out.parts
      go_wp2_with fail
      go_quiet ((go_at_call 116; exact Calls.quiet_of (hD _)))
      go_wp2
      go_end0
      exact ⟨rfl, hO.drewN _, by rw [he.out]; exact hC.out.drewN _⟩
    · have hjl : j < s.size := by omega
      have hD := fun n => isDone_any (hC.out.drewN n) false (by rw [beq_eq_false_iff_ne]; omega)
      have hr := rest_cons hjl
      have hB := fun w => isDigit_any (s[j]'hjl) w
      have hL1 := Lib.hid (fun (h : digB (s[j]'hjl) = true) => show k + ((restAt s k).takeWhile digB).length = (j + 1) + ((restAt s (j + 1)).takeWhile digB).length by rw [hL.out, hr, while_true h]; omega)
      have hL2 := Lib.hid (fun (h : digB (s[j]'hjl) = false) => show k + ((restAt s k).takeWhile digB).length = j by rw [hL.out, hr, while_false h]; omega)
      obtain ⟨q, hq⟩ : ∃ q, q = digB (s[j]'hjl) := ⟨_, rfl⟩
      rw [← hq] at hB
      have HQ := Lib.hid hq
      have g1 : (0 : Int) ≤ (j : Int) := by omega
      have g2 : (j : Int) < (s.size : Int) := by omega
      have hw : IntKind.i64.wrap ((j : Int) + 1) = (j : Int) + 1 := IntWalk.i64_in _ ⟨by omega, by omega⟩
      obtain ⟨hlt, c0, c1, c2, q0, q1, q2⟩ := hC.out.parts
      clear hq hr hL hz hs hs'
      cases q with
      | true =>
        go_wp2_with fail
        go_quiet (first | (go_at_call 116; exact Calls.quiet_of (hD _)) | (go_at_call 130; exact quiet_same (hB _)))
        go_wp2
        go_roundg (s.size - (j + 1))
        case rel => exact ⟨j + 1, by omega, by omega, rfl, Lib.hid ((hC.out.drewN _).step _ _ (by go_num)), (hO.drewN _).setCell _ _, Lib.hid (hL1.out HQ.out.symm)⟩
        case measure => omega
      | false =>
        go_wp2_with fail
        go_quiet (first | (go_at_call 116; exact Calls.quiet_of (hD _)) | (go_at_call 130; exact quiet_same (hB _)))
        go_wp2
        go_end0
        exact ⟨rfl, hO.drewN _, by rw [hL2.out HQ.out.symm]; exact hC.out.drewN _⟩
end Go.Proofs.YtfibmdbplfghcaaGreatDoor
namespace Go.Proofs.YtfibmdbplfghcaaGreatDoor
open Go.RowKit
open Tk7

/-- The kind that a byte alone tells. -/
def kindB (b : UInt8) : Nat := if smallB b then 1 else if largeB b then 2 else if digB b then 3 else if b == 45 then 5 else 4
theorem kindOf_any (b : UInt8) (w : World) :
    Calls Tryz.prog 128 #[.int .u8 (b.toNat : Int)] w fun e w' => e = .returned (.int .i64 (kindB b : Int)) ∧ w = w' := by
  have hS := fun w => isSmall_any b w
  have hD := fun w => isDigit_any b w
  have hk : kindB b = if smallB b then 1 else if largeB b then 2 else if digB b then 3 else if b == 45 then 5 else 4 := rfl
  have hlb := largeB_iff (b := b)
  have h45 := beq_is (b := b) 45 (by decide)
  rw [show UInt8.ofNat 45 = 45 from rfl] at h45
  obtain ⟨p, hp⟩ : ∃ p, p = smallB b := ⟨_, rfl⟩
  obtain ⟨q, hq⟩ : ∃ q, q = largeB b := ⟨_, rfl⟩
  obtain ⟨d, hd⟩ : ∃ d, d = digB b := ⟨_, rfl⟩
  obtain ⟨m, hm⟩ : ∃ m, m = (b == 45) := ⟨_, rfl⟩
  rw [← hp] at hS hk
  rw [← hq] at hk hlb
  rw [← hd] at hk hD
  rw [← hm] at hk h45
  obtain ⟨c, hc⟩ : ∃ c : Int, c = (b.toNat : Int) := ⟨_, rfl⟩
  rw [← hc] at hlb h45 hS hD ⊢
  have h0 : ((⟨#[45]⟩ : ByteArray)[0]'(by decide)).toNat = 45 := rfl
  have HK := Lib.hid hk
  clear hk hp hq hd hm hc
  cases p with
  | true =>
    have e1 := Lib.hid HK.out
    go_enter Tryz.func128, Tryz.ntmps128
    go_wp2_with (first | (go_at_call 129; refine (hS _).mono ?_; rintro e w' ⟨rfl, rfl⟩))
    go_ret
    exact ⟨by rw [e1.out]; rfl, rfl⟩
  | false =>
    have hx : q = true ∨ q = false ∧ (¬ 65 ≤ c ∨ 65 ≤ c ∧ ¬ c ≤ 90) := by
      cases q with
      | true => exact .inl rfl
      | false => exact .inr ⟨rfl, by have := hlb.2; simp at this; omega⟩
    rcases hx with rfl | ⟨rfl, hx⟩
    · obtain ⟨h1, h2⟩ := hlb.1 rfl
      clear hlb h45
      go_enter Tryz.func128, Tryz.ntmps128
      go_wp2_with (first | (go_at_call 129; refine (hS _).mono ?_; rintro e w' ⟨rfl, rfl⟩))
      go_ret
      exact ⟨by rw [HK.out]; rfl, rfl⟩
    · clear hlb
      cases d with
      | true =>
        clear h45
        rcases hx with hx | ⟨hx, hx2⟩
        · go_enter Tryz.func128, Tryz.ntmps128
          go_wp2_with (first | (go_at_call 129; refine (hS _).mono ?_; rintro e w' ⟨rfl, rfl⟩) | (go_at_call 130; refine (hD _).mono ?_; rintro e w' ⟨rfl, rfl⟩))
          go_ret
          exact ⟨by rw [HK.out]; rfl, rfl⟩
        · go_enter Tryz.func128, Tryz.ntmps128
          go_wp2_with (first | (go_at_call 129; refine (hS _).mono ?_; rintro e w' ⟨rfl, rfl⟩) | (go_at_call 130; refine (hD _).mono ?_; rintro e w' ⟨rfl, rfl⟩))
          go_ret
          exact ⟨by rw [HK.out]; rfl, rfl⟩
      | false =>
        have e45 : (c == 45) = m := by
          cases m with
          | true => rw [beq_iff_eq]; exact h45.1 rfl
          | false => rw [beq_eq_false_iff_ne]; exact fun e => by have := h45.2 e; cases this
        clear h45
        have hc : c = 45 ∨ ¬ c = 45 := by omega
        rcases hc with rfl | hc
        · obtain rfl : true = m := e45
          clear hx
          go_enter Tryz.func128, Tryz.ntmps128
          go_wp2_with (first | (go_at_call 129; refine (hS _).mono ?_; rintro e w' ⟨rfl, rfl⟩) | (go_at_call 130; refine (hD _).mono ?_; rintro e w' ⟨rfl, rfl⟩))
          go_ret
          exact ⟨by rw [HK.out]; rfl, rfl⟩
        · have hcb : (c == 45) = false := by rw [beq_eq_false_iff_ne]; exact hc
          rw [hcb] at e45
          subst e45
          rcases hx with hx | ⟨hx, hx2⟩
          · go_enter Tryz.func128, Tryz.ntmps128
            go_wp2_with (first | (go_at_call 129; refine (hS _).mono ?_; rintro e w' ⟨rfl, rfl⟩) | (go_at_call 130; refine (hD _).mono ?_; rintro e w' ⟨rfl, rfl⟩))
            go_ret
            exact ⟨by rw [HK.out]; rfl, rfl⟩
          · go_enter Tryz.func128, Tryz.ntmps128
            go_wp2_with (first | (go_at_call 129; refine (hS _).mono ?_; rintro e w' ⟨rfl, rfl⟩) | (go_at_call 130; refine (hD _).mono ?_; rintro e w' ⟨rfl, rfl⟩))
            go_ret
            exact ⟨by rw [HK.out]; rfl, rfl⟩

/-- What stands behind a minus sign, if there is one. -/
def stripG (l : List UInt8) : List UInt8 := Lib.trimPrefix l [45]
theorem strip_nil : stripG [] = [] := rfl
theorem strip_cons (b : UInt8) (r : List UInt8) : stripG (b :: r) = if b == 45 then r else b :: r := by
  unfold stripG Lib.trimPrefix Lib.hasPrefix
  by_cases h : b = 45
  · subst h; simp
  · have h2 : ¬ 45 = b := fun e => h e.symm
    simp [h, h2]
/-- The bytes are a number as it is written. -/
def isNumG (l : List UInt8) : Bool := !(stripG l).isEmpty && ((stripG l).head? != some 48 || l == [48])
theorem toL (s : ByteArray) : s.toList = s.data.toList := ByteArray.toList_eq s
theorem strOf_toL (l : List UInt8) : (strOf l).toList = l := by rw [toL, strOf_dat]
theorem strip_len (l : List UInt8) : (stripG l).length ≤ l.length := by
  cases l with
  | nil => simp [strip_nil]
  | cons b r => rw [strip_cons]; split <;> simp
set_option maxRecDepth 100000 in
theorem isNumber_any (l : List UInt8) (w : World) :
    Calls Tryz.prog 131 #[.string (strOf l)] w fun e w' => e = .returned (.bool (isNumG l)) ∧ w = w' := by
  have hT := fun w => Tryz.strings_TrimPrefix (strOf l) ⟨#[45]⟩ w
  have hn : isNumG l = (!(stripG l).isEmpty && ((stripG l).head? != some 48 || l == [48])) := rfl
  have hz := strip_len l
  rw [strOf_dat, show (⟨(Lib.trimPrefix l (ByteArray.mk #[45]).data.toList).toArray⟩ : ByteArray) = strOf (stripG l) from rfl] at hT
  have h48 : ((strOf l).toList == [48]) = (l == [48]) := by rw [strOf_toL]
  obtain ⟨d, hd⟩ : ∃ d, d = stripG l := ⟨_, rfl⟩
  obtain ⟨S, hS⟩ : ∃ S, S = strOf l := ⟨_, rfl⟩
  obtain ⟨z, hzz⟩ : ∃ z, z = (l == [48]) := ⟨_, rfl⟩
  rw [← hzz] at h48
  rw [← hS] at h48 hT ⊢
  rw [← hd] at hT hn hz
  rw [← hzz] at hn
  have HN := Lib.hid hn
  clear hn hd hS hzz
  cases d with
  | nil =>
    rw [show strOf [] = ⟨#[]⟩ from rfl] at hT
    go_enter Tryz.func131, Tryz.ntmps131
    go_wp2_with (first | (go_at_call 142; refine (hT _).mono ?_; rintro e w' ⟨rfl, rfl⟩))
    go_ret
    exact ⟨by rw [HN.out]; rfl, rfl⟩
  | cons c r =>
    have hex : (strOf (c :: r)).extract 0 1 = strOf [c] := by rw [ext_take]; rfl
    have n1 : ¬ (strOf (c :: r)).toList = [] := by rw [strOf_toL]; simp
    have n2 : (strOf (c :: r)).toList.isEmpty = false := by rw [strOf_toL]; rfl
    have n3 : 1 ≤ (strOf (c :: r)).size := by rw [strOf_size]; simp
    have n4 : (1 : Int) ≤ ((strOf (c :: r)).size : Int) := by omega
    have n5 : ((strOf [c]).toList == [48]) = (c == 48) := by rw [strOf_toL]; show ([c] == [48]) = _; simp [List.cons_beq_cons]
    obtain ⟨D, hD⟩ : ∃ D, D = strOf (c :: r) := ⟨_, rfl⟩
    obtain ⟨X, hX⟩ : ∃ X, X = strOf [c] := ⟨_, rfl⟩
    obtain ⟨y, hy⟩ : ∃ y, y = (c == 48) := ⟨_, rfl⟩
    have e1 := Lib.hid (show isNumG l = (!y || z) by rw [HN.out, hy]; simp [bne, Option.some_beq_some])
    rw [← hD] at hex n1 n2 n3 n4 hT
    rw [← hX] at hex n5
    rw [← hy] at n5
    clear HN hD hX hy hz
    cases y with
    | false =>
      go_enter Tryz.func131, Tryz.ntmps131
      go_wp2_with (first | (go_at_call 142; refine (hT _).mono ?_; rintro e w' ⟨rfl, rfl⟩))
      go_ret
      exact ⟨by rw [e1.out]; rfl, rfl⟩
    | true =>
      go_enter Tryz.func131, Tryz.ntmps131
      go_wp2_with (first | (go_at_call 142; refine (hT _).mono ?_; rintro e w' ⟨rfl, rfl⟩))
      go_ret
      exact ⟨by rw [e1.out]; rfl, rfl⟩
end Go.Proofs.YtfibmdbplfghcaaGreatDoor
namespace Go.Proofs.YtfibmdbplfghcaaGreatDoor
open Go.RowKit
open Tk7

/-- The signs in the program's order. -/
def signsL : List (List UInt8) := [[33, 61], [60, 61], [62, 61], [61], [60], [62], [59], [124], [123], [125], [44], [40], [41], [91], [93], [64], [58]]
/-- The first sign of a list with which l begins. -/
def firstS (L : List (List UInt8)) (l : List UInt8) : List UInt8 := (L.find? fun c => c.isPrefixOf l).getD []
def firstQ (b : UInt8) (q : Bool) : List UInt8 :=
  if b == 33 && q then [33, 61] else if b == 60 && q then [60, 61] else if b == 62 && q then [62, 61] else
  if oneB b then [b] else []
def firstN (b : UInt8) (q : Bool) : Nat := if twoB b && q then 2 else if oneB b then 1 else 0
theorem firstN_len : ∀ b : Fin 256, ∀ q : Bool, (firstQ (UInt8.ofNat b.val) q).length = firstN (UInt8.ofNat b.val) q := by decide +kernel
/-- The variable holds the signs. -/
def SG (w : World) : Prop := 2 < w.heap.size ∧ ∀ (i : Nat) (c : List UInt8), signsL[i]? = some c → w.cell? ⟨2, i, none⟩ = some (.string (strOf c))
theorem SG.later {w w' : World} (h : SG w) (hb : Below w.heap.size w w') : SG w' :=
  ⟨Nat.lt_of_lt_of_le h.1 hb.size, fun i c hc => (hb.cell (p := ⟨2, i, none⟩) h.1).trans (h.2 i c hc)⟩
theorem SG.grown {w w' : World} {row : Option Nat} (h : SG w) (hg : w.grownBy w' row) (hne : some 2 ≠ row) : SG w' := by
  refine ⟨Nat.lt_of_lt_of_le h.1 hg.size, fun i c hc => ?_⟩
  exact (World.cell?_of_block (w := w) (a := ⟨2, i, none⟩) (hg.block _ h.1 hne)).trans (h.2 i c hc)
theorem SG.drewN {w : World} (h : SG w) (n : Nat) : SG (w.drewN n) := h.later (below_drewN (Below.refl _ _) n)
def signA : Array Value := #[Value.string (strOf [33, 61]), .string (strOf [60, 61]), .string (strOf [62, 61]), .string (strOf [61]), .string (strOf [60]), .string (strOf [62]), .string (strOf [59]), .string (strOf [124]), .string (strOf [123]), .string (strOf [125]), .string (strOf [44]), .string (strOf [40]), .string (strOf [41]), .string (strOf [91]), .string (strOf [93]), .string (strOf [64]), .string (strOf [58])]
theorem arr_idx : ∀ (i : Nat) (c : List UInt8), signsL[i]? = some c → ∀ w : World, (Instr.index 172 (.agg signA) (.int .i64 (i : Int))).run Tryz.prog w = .ok (.string (strOf c)) w := by
  have x0 : ∀ w : World, (Instr.index 172 (.agg #[Value.string (strOf [33, 61]), .string (strOf [60, 61]), .string (strOf [62, 61]), .string (strOf [61]), .string (strOf [60]), .string (strOf [62]), .string (strOf [59]), .string (strOf [124]), .string (strOf [123]), .string (strOf [125]), .string (strOf [44]), .string (strOf [40]), .string (strOf [41]), .string (strOf [91]), .string (strOf [93]), .string (strOf [64]), .string (strOf [58])]) (.int .i64 0)).run Tryz.prog w = .ok (.string (strOf [33, 61])) w := fun _ => by kernel_rfl
  have x1 : ∀ w : World, (Instr.index 172 (.agg #[Value.string (strOf [33, 61]), .string (strOf [60, 61]), .string (strOf [62, 61]), .string (strOf [61]), .string (strOf [60]), .string (strOf [62]), .string (strOf [59]), .string (strOf [124]), .string (strOf [123]), .string (strOf [125]), .string (strOf [44]), .string (strOf [40]), .string (strOf [41]), .string (strOf [91]), .string (strOf [93]), .string (strOf [64]), .string (strOf [58])]) (.int .i64 1)).run Tryz.prog w = .ok (.string (strOf [60, 61])) w := fun _ => by kernel_rfl
  have x2 : ∀ w : World, (Instr.index 172 (.agg #[Value.string (strOf [33, 61]), .string (strOf [60, 61]), .string (strOf [62, 61]), .string (strOf [61]), .string (strOf [60]), .string (strOf [62]), .string (strOf [59]), .string (strOf [124]), .string (strOf [123]), .string (strOf [125]), .string (strOf [44]), .string (strOf [40]), .string (strOf [41]), .string (strOf [91]), .string (strOf [93]), .string (strOf [64]), .string (strOf [58])]) (.int .i64 2)).run Tryz.prog w = .ok (.string (strOf [62, 61])) w := fun _ => by kernel_rfl
  have x3 : ∀ w : World, (Instr.index 172 (.agg #[Value.string (strOf [33, 61]), .string (strOf [60, 61]), .string (strOf [62, 61]), .string (strOf [61]), .string (strOf [60]), .string (strOf [62]), .string (strOf [59]), .string (strOf [124]), .string (strOf [123]), .string (strOf [125]), .string (strOf [44]), .string (strOf [40]), .string (strOf [41]), .string (strOf [91]), .string (strOf [93]), .string (strOf [64]), .string (strOf [58])]) (.int .i64 3)).run Tryz.prog w = .ok (.string (strOf [61])) w := fun _ => by kernel_rfl
  have x4 : ∀ w : World, (Instr.index 172 (.agg #[Value.string (strOf [33, 61]), .string (strOf [60, 61]), .string (strOf [62, 61]), .string (strOf [61]), .string (strOf [60]), .string (strOf [62]), .string (strOf [59]), .string (strOf [124]), .string (strOf [123]), .string (strOf [125]), .string (strOf [44]), .string (strOf [40]), .string (strOf [41]), .string (strOf [91]), .string (strOf [93]), .string (strOf [64]), .string (strOf [58])]) (.int .i64 4)).run Tryz.prog w = .ok (.string (strOf [60])) w := fun _ => by kernel_rfl
  have x5 : ∀ w : World, (Instr.index 172 (.agg #[Value.string (strOf [33, 61]), .string (strOf [60, 61]), .string (strOf [62, 61]), .string (strOf [61]), .string (strOf [60]), .string (strOf [62]), .string (strOf [59]), .string (strOf [124]), .string (strOf [123]), .string (strOf [125]), .string (strOf [44]), .string (strOf [40]), .string (strOf [41]), .string (strOf [91]), .string (strOf [93]), .string (strOf [64]), .string (strOf [58])]) (.int .i64 5)).run Tryz.prog w = .ok (.string (strOf [62])) w := fun _ => by kernel_rfl
  have x6 : ∀ w : World, (Instr.index 172 (.agg #[Value.string (strOf [33, 61]), .string (strOf [60, 61]), .string (strOf [62, 61]), .string (strOf [61]), .string (strOf [60]), .string (strOf [62]), .string (strOf [59]), .string (strOf [124]), .string (strOf [123]), .string (strOf [125]), .string (strOf [44]), .string (strOf [40]), .string (strOf [41]), .string (strOf [91]), .string (strOf [93]), .string (strOf [64]), .string (strOf [58])]) (.int .i64 6)).run Tryz.prog w = .ok (.string (strOf [59])) w := fun _ => by kernel_rfl
  have x7 : ∀ w : World, (Instr.index 172 (.agg #[Value.string (strOf [33, 61]), .string (strOf [60, 61]), .string (strOf [62, 61]), .string (strOf [61]), .string (strOf [60]), .string (strOf [62]), .string (strOf [59]), .string (strOf [124]), .string (strOf [123]), .string (strOf [125]), .string (strOf [44]), .string (strOf [40]), .string (strOf [41]), .string (strOf [91]), .string (strOf [93]), .string (strOf [64]), .string (strOf [58])]) (.int .i64 7)).run Tryz.prog w = .ok (.string (strOf [124])) w := fun _ => by kernel_rfl
  have x8 : ∀ w : World, (Instr.index 172 (.agg #[Value.string (strOf [33, 61]), .string (strOf [60, 61]), .string (strOf [62, 61]), .string (strOf [61]), .string (strOf [60]), .string (strOf [62]), .string (strOf [59]), .string (strOf [124]), .string (strOf [123]), .string (strOf [125]), .string (strOf [44]), .string (strOf [40]), .string (strOf [41]), .string (strOf [91]), .string (strOf [93]), .string (strOf [64]), .string (strOf [58])]) (.int .i64 8)).run Tryz.prog w = .ok (.string (strOf [123])) w := fun _ => by kernel_rfl
  have x9 : ∀ w : World, (Instr.index 172 (.agg #[Value.string (strOf [33, 61]), .string (strOf [60, 61]), .string (strOf [62, 61]), .string (strOf [61]), .string (strOf [60]), .string (strOf [62]), .string (strOf [59]), .string (strOf [124]), .string (strOf [123]), .string (strOf [125]), .string (strOf [44]), .string (strOf [40]), .string (strOf [41]), .string (strOf [91]), .string (strOf [93]), .string (strOf [64]), .string (strOf [58])]) (.int .i64 9)).run Tryz.prog w = .ok (.string (strOf [125])) w := fun _ => by kernel_rfl
  have x10 : ∀ w : World, (Instr.index 172 (.agg #[Value.string (strOf [33, 61]), .string (strOf [60, 61]), .string (strOf [62, 61]), .string (strOf [61]), .string (strOf [60]), .string (strOf [62]), .string (strOf [59]), .string (strOf [124]), .string (strOf [123]), .string (strOf [125]), .string (strOf [44]), .string (strOf [40]), .string (strOf [41]), .string (strOf [91]), .string (strOf [93]), .string (strOf [64]), .string (strOf [58])]) (.int .i64 10)).run Tryz.prog w = .ok (.string (strOf [44])) w := fun _ => by kernel_rfl
  have x11 : ∀ w : World, (Instr.index 172 (.agg #[Value.string (strOf [33, 61]), .string (strOf [60, 61]), .string (strOf [62, 61]), .string (strOf [61]), .string (strOf [60]), .string (strOf [62]), .string (strOf [59]), .string (strOf [124]), .string (strOf [123]), .string (strOf [125]), .string (strOf [44]), .string (strOf [40]), .string (strOf [41]), .string (strOf [91]), .string (strOf [93]), .string (strOf [64]), .string (strOf [58])]) (.int .i64 11)).run Tryz.prog w = .ok (.string (strOf [40])) w := fun _ => by kernel_rfl
  have x12 : ∀ w : World, (Instr.index 172 (.agg #[Value.string (strOf [33, 61]), .string (strOf [60, 61]), .string (strOf [62, 61]), .string (strOf [61]), .string (strOf [60]), .string (strOf [62]), .string (strOf [59]), .string (strOf [124]), .string (strOf [123]), .string (strOf [125]), .string (strOf [44]), .string (strOf [40]), .string (strOf [41]), .string (strOf [91]), .string (strOf [93]), .string (strOf [64]), .string (strOf [58])]) (.int .i64 12)).run Tryz.prog w = .ok (.string (strOf [41])) w := fun _ => by kernel_rfl
  have x13 : ∀ w : World, (Instr.index 172 (.agg #[Value.string (strOf [33, 61]), .string (strOf [60, 61]), .string (strOf [62, 61]), .string (strOf [61]), .string (strOf [60]), .string (strOf [62]), .string (strOf [59]), .string (strOf [124]), .string (strOf [123]), .string (strOf [125]), .string (strOf [44]), .string (strOf [40]), .string (strOf [41]), .string (strOf [91]), .string (strOf [93]), .string (strOf [64]), .string (strOf [58])]) (.int .i64 13)).run Tryz.prog w = .ok (.string (strOf [91])) w := fun _ => by kernel_rfl
  have x14 : ∀ w : World, (Instr.index 172 (.agg #[Value.string (strOf [33, 61]), .string (strOf [60, 61]), .string (strOf [62, 61]), .string (strOf [61]), .string (strOf [60]), .string (strOf [62]), .string (strOf [59]), .string (strOf [124]), .string (strOf [123]), .string (strOf [125]), .string (strOf [44]), .string (strOf [40]), .string (strOf [41]), .string (strOf [91]), .string (strOf [93]), .string (strOf [64]), .string (strOf [58])]) (.int .i64 14)).run Tryz.prog w = .ok (.string (strOf [93])) w := fun _ => by kernel_rfl
  have x15 : ∀ w : World, (Instr.index 172 (.agg #[Value.string (strOf [33, 61]), .string (strOf [60, 61]), .string (strOf [62, 61]), .string (strOf [61]), .string (strOf [60]), .string (strOf [62]), .string (strOf [59]), .string (strOf [124]), .string (strOf [123]), .string (strOf [125]), .string (strOf [44]), .string (strOf [40]), .string (strOf [41]), .string (strOf [91]), .string (strOf [93]), .string (strOf [64]), .string (strOf [58])]) (.int .i64 15)).run Tryz.prog w = .ok (.string (strOf [64])) w := fun _ => by kernel_rfl
  have x16 : ∀ w : World, (Instr.index 172 (.agg #[Value.string (strOf [33, 61]), .string (strOf [60, 61]), .string (strOf [62, 61]), .string (strOf [61]), .string (strOf [60]), .string (strOf [62]), .string (strOf [59]), .string (strOf [124]), .string (strOf [123]), .string (strOf [125]), .string (strOf [44]), .string (strOf [40]), .string (strOf [41]), .string (strOf [91]), .string (strOf [93]), .string (strOf [64]), .string (strOf [58])]) (.int .i64 16)).run Tryz.prog w = .ok (.string (strOf [58])) w := fun _ => by kernel_rfl
  intro i c hc w
  match i with
  | 0 => cases hc; exact x0 w
  | 1 => cases hc; exact x1 w
  | 2 => cases hc; exact x2 w
  | 3 => cases hc; exact x3 w
  | 4 => cases hc; exact x4 w
  | 5 => cases hc; exact x5 w
  | 6 => cases hc; exact x6 w
  | 7 => cases hc; exact x7 w
  | 8 => cases hc; exact x8 w
  | 9 => cases hc; exact x9 w
  | 10 => cases hc; exact x10 w
  | 11 => cases hc; exact x11 w
  | 12 => cases hc; exact x12 w
  | 13 => cases hc; exact x13 w
  | 14 => cases hc; exact x14 w
  | 15 => cases hc; exact x15 w
  | 16 => cases hc; exact x16 w
  | i + 17 => exact absurd hc (by rw [List.getElem?_eq_none (by show 17 ≤ i + 17; omega)]; simp)
theorem arr_is {A : Array Value} (hA : (#[Value.string (strOf [33, 61]), .string (strOf [60, 61]), .string (strOf [62, 61]), .string (strOf [61]), .string (strOf [60]), .string (strOf [62]), .string (strOf [59]), .string (strOf [124]), .string (strOf [123]), .string (strOf [125]), .string (strOf [44]), .string (strOf [40]), .string (strOf [41]), .string (strOf [91]), .string (strOf [93]), .string (strOf [64]), .string (strOf [58])] : Array Value) = A) :
    ∀ (i : Nat) (c : List UInt8), signsL[i]? = some c → ∀ w : World, (Instr.index 172 (.agg A) (.int .i64 (i : Int))).run Tryz.prog w = .ok (.string (strOf c)) w := by
  subst hA
  exact arr_idx
theorem strOf_get {l : List UInt8} {k : Nat} (h : k < (strOf l).size) (h2 : k < l.length) : (strOf l)[k]'h = l[k] := rfl
theorem prefix_not {c l : List UInt8} {k : Nat} (h1 : k < c.length) (h2 : k < l.length) (h : ¬ l[k] = c[k]) : c.isPrefixOf l = false := by
  cases hp : c.isPrefixOf l with
  | false => rfl
  | true =>
    obtain ⟨t, rfl⟩ := List.isPrefixOf_iff_prefix.1 hp
    exact absurd (List.getElem_append_left h1) h
theorem int_eq_byte (a b : UInt8) : (a.toNat : Int) = (b.toNat : Int) ↔ a = b :=
  ⟨fun h => UInt8.toNat_inj.1 (by omega), fun h => by rw [h]⟩
theorem drop_sign {i : Nat} {c : List UInt8} (h : signsL[i]? = some c) : signsL.drop i = c :: signsL.drop (i + 1) := by
  obtain ⟨hi, rfl⟩ := List.getElem?_eq_some_iff.1 h
  exact List.drop_eq_getElem_cons hi
theorem first_skip {c l : List UInt8} {L : List (List UInt8)} (h : c.isPrefixOf l = false) : firstS (c :: L) l = firstS L l := by
  unfold firstS
  rw [List.find?_cons, h]
theorem first_is {c l : List UInt8} {L : List (List UInt8)} (h : c.isPrefixOf l = true) : firstS (c :: L) l = c := by
  unfold firstS
  rw [List.find?_cons, h]
  rfl
theorem not_prefix_long {c l : List UInt8} (h : l.length < c.length) : c.isPrefixOf l = false := by
  cases hp : c.isPrefixOf l with
  | false => rfl
  | true => have := (List.isPrefixOf_iff_prefix.1 hp).length_le; omega
theorem signs_len : ∀ (i : Nat) (c : List UInt8), signsL[i]? = some c → c.length ≤ 2 ∧ 1 ≤ c.length := by
  have h : ∀ c ∈ signsL, c.length ≤ 2 ∧ 1 ≤ c.length := by decide
  exact fun i c hc => h c (List.mem_of_getElem? hc)
set_option maxRecDepth 100000 in
set_option maxHeartbeats 2000000 in
theorem signOf_any (l : List UInt8) (hl : l.length ≤ maxLen) (w : World) (h : SG w) :
    Calls Tryz.prog 132 #[.string (strOf l)] w fun e w' => e = .returned (.string (strOf (firstS signsL l))) ∧ ∃ n, w' = w.drewN n := by
  have d0 := h.2 0 _ rfl
  have d1 := h.2 1 _ rfl
  have d2 := h.2 2 _ rfl
  have d3 := h.2 3 _ rfl
  have d4 := h.2 4 _ rfl
  have d5 := h.2 5 _ rfl
  have d6 := h.2 6 _ rfl
  have d7 := h.2 7 _ rfl
  have d8 := h.2 8 _ rfl
  have d9 := h.2 9 _ rfl
  have d10 := h.2 10 _ rfl
  have d11 := h.2 11 _ rfl
  have d12 := h.2 12 _ rfl
  have d13 := h.2 13 _ rfl
  have d14 := h.2 14 _ rfl
  have d15 := h.2 15 _ rfl
  have d16 := h.2 16 _ rfl
  have hlt := h.1
  go_enter Tryz.func132, Tryz.ntmps132
  go_wp2
  go_step3
  go_wp2
  go_step3
  go_wp2
  generalize hA : (#[Value.string (strOf [33, 61]), .string (strOf [60, 61]), .string (strOf [62, 61]), .string (strOf [61]), .string (strOf [60]), .string (strOf [62]), .string (strOf [59]), .string (strOf [124]), .string (strOf [123]), .string (strOf [125]), .string (strOf [44]), .string (strOf [40]), .string (strOf [41]), .string (strOf [91]), .string (strOf [93]), .string (strOf [64]), .string (strOf [58])] : Array Value) = A
  have hA2 := Lib.hid (arr_is hA)
  clear hA d0 d1 d2 d3 d4 d5 d6 d7 d8 d9 d10 d11 d12 d13 d14 d15 d16
  have hsz : (strOf l).size = l.length := strOf_size l
  unfold maxLen at hl
  go_loopg [7] 17 (fun g iv wr => ∃ (i n : Nat), i ≤ 17 ∧ g = 17 - i ∧ iv = .int .i64 (i : Int) ∧ wr = w.drewN n ∧ Hid (firstS signsL l = firstS (signsL.drop i) l))
  case atStart => exact ⟨0, 0, by omega, rfl, rfl, rfl, Lib.hid rfl⟩
  case round =>
    obtain ⟨i, n, hi, hg, rfl, rfl, hF⟩ := hrel
    by_cases hz : i = 17
    · subst hz
      have e1 := Lib.hid hF.out
      go_wp2
      rw [Exit.noGoto_ret]
      go_ret
      exact ⟨by rw [e1.out]; rfl, _, rfl⟩
    · have hi17 : i < 17 := by omega
      have h1 : (i : Int) < 17 := by omega
      obtain ⟨c, hc⟩ : ∃ c, signsL[i]? = some c := ⟨_, List.getElem?_eq_getElem hi17⟩
      have hAi := hA2.out i c hc
      have hdr := Lib.hid (drop_sign hc)
      have hcl := signs_len i c hc
      have hcs : (strOf c).size = c.length := strOf_size c
      obtain ⟨C, hC⟩ : ∃ C, C = strOf c := ⟨_, rfl⟩
      rw [← hC] at hAi hcs
      have HC := Lib.hid hC
      have hC2 := hC
      clear hC
      have hwi : IntKind.i64.wrap ((i : Int) + 1) = (i : Int) + 1 := IntWalk.i64_in _ ⟨by omega, by omega⟩
      clear hz hc hA2
      by_cases hlong : l.length < c.length
      · have h2 : (l.length : Int) < (c.length : Int) := by omega
        have hF2 := Lib.hid (show firstS signsL l = firstS (signsL.drop (i + 1)) l by rw [hF.out, hdr.out, first_skip (not_prefix_long hlong)])
        clear hC2
        go_wp2
        go_roundg (17 - (i + 1))
        case rel => exact ⟨i + 1, n, by omega, rfl, by go_num, rfl, hF2⟩
        case measure => omega
      · have h2 : ¬ (l.length : Int) < (c.length : Int) := by omega
        have HC2 := Lib.hid hC2
        clear hC2
        go_wp2
        go_loopg [17] c.length (fun g kv wr => ∃ (k n : Nat), k ≤ c.length ∧ g = c.length - k ∧ kv = .int .i64 (k : Int) ∧ wr = w.drewN n ∧ Hid (c.take k = l.take k))
        case atStart => exact ⟨0, n, by omega, rfl, rfl, rfl, Lib.hid rfl⟩
        case round =>
          obtain ⟨k, n, hk, hgk, rfl, rfl, hT⟩ := hrel
          by_cases hkc : k = c.length
          · subst hkc
            have hpre : c.isPrefixOf l = true := by
              have := hT.out
              rw [List.take_length] at this
              rw [List.isPrefixOf_iff_prefix, this]
              exact List.take_prefix _ _
            have e1 := Lib.hid (show firstS signsL l = c by rw [hF.out, hdr.out, first_is hpre])
            clear hpre
            go_wp2
            rw [Exit.noGoto_ret]
            go_ret
            exact ⟨by rw [e1.out, ← HC.out]; rfl, _, rfl⟩
          · have hkc2 : k < c.length := by omega
            have hkl : k < l.length := by omega
            have g1 : (k : Int) < (c.length : Int) := by omega
            have g2 : (0 : Int) ≤ (k : Int) := by omega
            have g3 : (k : Int) < (l.length : Int) := by omega
            have q1 : k < (strOf l).size := by rw [hsz]; exact hkl
            have q2 : k < C.size := by rw [hcs]; exact hkc2
            have hcx : (C[k]'q2) = c[k] := by have hC2 := HC2.out; subst hC2; rfl
            have hlx : ((strOf l)[k]'q1) = l[k] := rfl
            have hT2 := Lib.hid (fun (h : l[k] = c[k]) => show c.take (k + 1) = l.take (k + 1) by rw [take_snoc _ _ hkc2, take_snoc _ _ hkl, hT.out]; exact congrArg (fun z => l.take k ++ [z]) h.symm)
            have hF2 := Lib.hid (fun (h : ¬ l[k] = c[k]) => show firstS signsL l = firstS (signsL.drop (i + 1)) l by rw [hF.out, hdr.out, first_skip (prefix_not hkc2 hkl h)])
            obtain ⟨x, hx⟩ : ∃ x : Int, ((((strOf l)[k]'q1).toNat : Nat) : Int) = x := ⟨_, rfl⟩
            obtain ⟨y, hy⟩ : ∃ y : Int, (((C[k]'q2).toNat : Nat) : Int) = y := ⟨_, rfl⟩
            have hxy := Lib.hid (show x = y ↔ l[k] = c[k] by rw [← hx, ← hy, hcx, hlx]; exact int_eq_byte _ _)
            have hwk : IntKind.i64.wrap ((k : Int) + 1) = (k : Int) + 1 := IntWalk.i64_in _ ⟨by omega, by omega⟩
            clear hcx hlx hkc
            by_cases he : x = y
            · have HE := Lib.hid (hxy.out.1 he)
              subst he
              clear hxy
              go_wp2
              go_quiet (fail)
              go_wp2
              go_roundg (c.length - (k + 1))
              case rel => exact ⟨k + 1, _, by omega, rfl, by go_num, rfl, Lib.hid (hT2.out HE.out)⟩
              case measure => omega
            · have HE := Lib.hid (fun h => he (hxy.out.2 h))
              have heb : (x == y) = false := by rw [beq_eq_false_iff_ne]; exact he
              have heb2 : (x != y) = true := by simp [heb, bne]
              clear hxy
              go_wp2
              go_quiet (fail)
              go_wp2
              go_roundg (17 - (i + 1))
              case rel => exact ⟨i + 1, _, by omega, rfl, by go_num, rfl, Lib.hid (hF2.out HE.out)⟩
              case measure => omega
end Go.Proofs.YtfibmdbplfghcaaGreatDoor
namespace Go.Proofs.YtfibmdbplfghcaaGreatDoor
open Go.RowKit
open Tk7

theorem prefix1 (a b : UInt8) (r : List UInt8) : [a].isPrefixOf (b :: r) = (a == b) := by
  cases r <;> simp [List.isPrefixOf]
theorem prefix2 (a c b : UInt8) (r : List UInt8) : [a, c].isPrefixOf (b :: r) = (a == b && r.head? == some c) := by
  cases r with
  | nil => simp [List.isPrefixOf]
  | cons d r =>
    simp only [List.isPrefixOf, Bool.and_true, List.head?_cons]
    have : (c == d) = (some d == some c) := by
      by_cases h : c = d
      · subst h; simp
      · have h2 : ¬ d = c := fun e => h e.symm
        rw [beq_eq_false_iff_ne.2 h]
        symm
        rw [beq_eq_false_iff_ne]
        exact fun e => h2 (Option.some.inj e)
    rw [this]
def findQ (b : UInt8) (q : Bool) : List UInt8 := ((([33, 61], 33 == b && q) :: ([60, 61], 60 == b && q) :: ([62, 61], 62 == b && q) :: ([61], 61 == b) :: ([60], 60 == b) :: ([62], 62 == b) :: ([59], 59 == b) :: ([124], 124 == b) :: ([123], 123 == b) :: ([125], 125 == b) :: ([44], 44 == b) :: ([40], 40 == b) :: ([41], 41 == b) :: ([91], 91 == b) :: ([93], 93 == b) :: ([64], 64 == b) :: ([58], 58 == b) :: [] : List (List UInt8 × Bool)).find? (·.2)).elim [] (·.1)
theorem find_map (L : List (List UInt8)) (p : List UInt8 → Bool) : (L.find? p).getD [] = ((L.map fun c => (c, p c)).find? (·.2)).elim [] (·.1) := by
  induction L with
  | nil => rfl
  | cons c L ih =>
    rw [List.find?_cons, List.map_cons, List.find?_cons]
    cases p c with
    | true => rfl
    | false => exact ih
theorem first_find (b : UInt8) (r : List UInt8) : firstS signsL (b :: r) = findQ b (r.head? == some 61) := by
  unfold firstS
  rw [find_map]
  unfold signsL findQ
  simp only [List.map_cons, List.map_nil, prefix1, prefix2]
def takeQ (b : UInt8) (q : Bool) : List UInt8 := if twoB b && q then [b, 61] else if oneB b then [b] else []
theorem find_take : ∀ b : Fin 256, ∀ q : Bool, findQ (UInt8.ofNat b.val) q = takeQ (UInt8.ofNat b.val) q := by decide +kernel
theorem find_take' (b : UInt8) (q : Bool) : findQ b q = takeQ b q := by
  have := find_take ⟨b.toNat, b.toNat_lt⟩ q
  simpa using this
/-- The first sign with which l begins is its longest one. -/
theorem first_sign (l : List UInt8) : firstS signsL l = l.take (signG l) := by
  cases l with
  | nil => decide
  | cons b r =>
    rw [first_find, find_take']
    have hs : signG (b :: r) = if twoB b && r.head? == some 61 then 2 else if oneB b then 1 else 0 := rfl
    rw [hs]
    unfold takeQ
    by_cases h : (twoB b && r.head? == some 61) = true
    · rw [if_pos h, if_pos h]
      cases r with
      | nil => simp at h
      | cons c r =>
        have : c = 61 := by simp at h; exact h.2
        subst this
        rfl
    · rw [if_neg h, if_neg h]
      split <;> rfl
theorem sign_le (l : List UInt8) : signG l ≤ l.length := by
  unfold signG
  cases l with
  | nil => simp
  | cons b r =>
    simp only
    split
    · rename_i h
      cases r with
      | nil => simp at h
      | cons c r => simp
    · split <;> simp
/-- The kind that the reader tells. -/
def kindR (l : List UInt8) : Nat := if (begG l).2 = 0 then 0 else (begG l).1
/-- What going behind a token gives. -/
def PassP (w : World) (R : Nat) (s : ByteArray) (k : Nat) (e : Ending) (w' : World) : Prop :=
  ∃ k' : Nat, e = .returned (.int .i64 (kindR (restAt s k) : Int)) ∧ Only R w w' ∧ Cur w' R s k' k ∧ k' ≤ s.size ∧ k ≤ k' ∧ (kindR (restAt s k) ≠ 0 → k' = k + (begG (restAt s k)).2)
theorem kindB_1 {b : UInt8} (h : smallB b = true) : kindB b = 1 := by unfold kindB; rw [if_pos h]
theorem kindB_2 {b : UInt8} (h0 : smallB b = false) (h : largeB b = true) : kindB b = 2 := by unfold kindB; rw [if_neg (by rw [h0]; decide), if_pos h]
theorem kindB_3 {b : UInt8} (h0 : smallB b = false) (h1 : largeB b = false) (h : digB b = true) : kindB b = 3 := by unfold kindB; rw [if_neg (by rw [h0]; decide), if_neg (by rw [h1]; decide), if_pos h]
theorem kindB_5 {b : UInt8} (h0 : smallB b = false) (h1 : largeB b = false) (h2 : digB b = false) (h : (b == 45) = true) : kindB b = 5 := by unfold kindB; rw [if_neg (by rw [h0]; decide), if_neg (by rw [h1]; decide), if_neg (by rw [h2]; decide), if_pos h]
theorem kindB_4 {b : UInt8} (h0 : smallB b = false) (h1 : largeB b = false) (h2 : digB b = false) (h : (b == 45) = false) : kindB b = 4 := by unfold kindB; rw [if_neg (by rw [h0]; decide), if_neg (by rw [h1]; decide), if_neg (by rw [h2]; decide), if_neg (by rw [h]; decide)]
theorem beg_1 {b : UInt8} {r : List UInt8} (h : smallB b = true) : begG (b :: r) = (1, (r.takeWhile smallB).length + 1) := by unfold begG; simp only; rw [if_pos h]
theorem beg_2 {b : UInt8} {r : List UInt8} (h0 : smallB b = false) (h : largeB b = true) : begG (b :: r) = (2, 1) := by unfold begG; simp only; rw [if_neg (by rw [h0]; decide), if_pos h]
theorem beg_3 {b : UInt8} {r : List UInt8} (h0 : smallB b = false) (h1 : largeB b = false) (h : (digB b || b == 45) = true) : begG (b :: r) = (3, numG b r) := by unfold begG; simp only; rw [if_neg (by rw [h0]; decide), if_neg (by rw [h1]; decide), if_pos h]
theorem beg_4 {b : UInt8} {r : List UInt8} (h0 : smallB b = false) (h1 : largeB b = false) (h : (digB b || b == 45) = false) : begG (b :: r) = (4, signG (b :: r)) := by unfold begG; simp only; rw [if_neg (by rw [h0]; decide), if_neg (by rw [h1]; decide), if_neg (by rw [h]; decide)]
theorem dig_not45 {b : UInt8} (h : digB b = true) : (b == 45) = false := by
  rw [beq_eq_false_iff_ne]
  rintro rfl
  revert h
  decide
theorem num_dig {b : UInt8} {r : List UInt8} (h : digB b = true) : numG b r = if isNumG (b :: r.takeWhile digB) then (r.takeWhile digB).length + 1 else 0 := by
  have e : isNumG (b :: r.takeWhile digB) = rightD false (b :: r.takeWhile digB) := by
    unfold isNumG rightD
    rw [strip_cons, if_neg (by rw [dig_not45 h]; decide)]
    simp
  unfold numG
  rw [if_neg (by rw [dig_not45 h]; decide), e]
theorem num_min {r : List UInt8} : numG 45 r = if isNumG (45 :: r.takeWhile digB) then (r.takeWhile digB).length + 1 else 0 := by
  have e : isNumG (45 :: r.takeWhile digB) = rightD true (r.takeWhile digB) := by
    unfold isNumG rightD
    rw [strip_cons, if_pos (by decide)]
    simp
  unfold numG
  rw [if_pos (by decide), e]
theorem kindR_of {l : List UInt8} {kd n : Nat} (h : begG l = (kd, n)) : kindR l = if n = 0 then 0 else kd := by unfold kindR; rw [h]
end Go.Proofs.YtfibmdbplfghcaaGreatDoor
namespace Go.Proofs.YtfibmdbplfghcaaGreatDoor.Tk7

/-- What may follow a token without being part of it: nothing, or a blank. -/
def endB (e : List UInt8) : Bool := match e with | [] => true | b :: _ => blankB b
theorem blank_not {b : UInt8} (h : blankB b = true) : smallB b = false ∧ largeB b = false ∧ digB b = false ∧ (b == 45) = false ∧ oneB b = false ∧ twoB b = false ∧ (b == 61) = false := by
  have : b = 9 ∨ b = 10 ∨ b = 13 ∨ b = 32 := by simpa [blankB, or_assoc] using h
  rcases this with rfl | rfl | rfl | rfl <;> decide
theorem take_end (p : UInt8 → Bool) (hp : ∀ b, blankB b = true → p b = false) (r e : List UInt8) (he : endB e = true) : (r ++ e).takeWhile p = r.takeWhile p := by
  induction r with
  | nil =>
    cases e with
    | nil => rfl
    | cons b e => simp [hp b he]
  | cons c r ih =>
    rw [List.cons_append, List.takeWhile_cons, List.takeWhile_cons, ih]
theorem sign_end (b : UInt8) (r e : List UInt8) (he : endB e = true) : signG (b :: r ++ e) = signG (b :: r) := by
  cases r with
  | cons c r => rfl
  | nil =>
    cases e with
    | nil => rfl
    | cons d e =>
      have h : ((some d : Option UInt8) == some 61) = false := (blank_not (b := d) he).2.2.2.2.2.2
      have h2 : ((none : Option UInt8) == some 61) = false := rfl
      simp only [signG, List.cons_append, List.nil_append, List.head?_cons, List.head?_nil, h, h2]
theorem begG_end {l : List UInt8} (e : List UInt8) (hl : l ≠ []) (he : endB e = true) : begG (l ++ e) = begG l := by
  cases l with
  | nil => exact absurd rfl hl
  | cons b r =>
    have h1 := take_end smallB (fun b h => (blank_not h).1) r e he
    have h2 := take_end digB (fun b h => (blank_not h).2.2.1) r e he
    have h3 := sign_end b r e he
    rw [List.cons_append] at h3 ⊢
    simp only [begG, numG, h1, h2, h3]
theorem takeWhile_take (p : UInt8 → Bool) (r : List UInt8) : r.take (r.takeWhile p).length = r.takeWhile p := by
  induction r with
  | nil => rfl
  | cons c r ih =>
    rw [List.takeWhile_cons]
    split
    · simp [ih]
    · rfl
theorem takeWhile_twice (p : UInt8 → Bool) (r : List UInt8) : (r.takeWhile p).takeWhile p = r.takeWhile p := by
  induction r with
  | nil => rfl
  | cons c r ih =>
    rw [List.takeWhile_cons]
    split
    · rename_i h; rw [List.takeWhile_cons, if_pos h, ih]
    · rfl
theorem signG_take {b : UInt8} {r : List UInt8} (h : signG (b :: r) ≠ 0) : signG ((b :: r).take (signG (b :: r))) = signG (b :: r) := by
  by_cases h2 : (twoB b && r.head? == some 61) = true
  · have e : signG (b :: r) = 2 := by simp only [signG]; rw [if_pos h2]
    rw [e]
    cases r with
    | nil => simp at h2
    | cons c r =>
      simp only [List.take_succ_cons, List.take_zero, signG]
      rw [if_pos]
      simpa using h2
  · have e : signG (b :: r) = if oneB b then 1 else 0 := by simp only [signG]; rw [if_neg h2]
    rw [e] at h ⊢
    split at h
    · rename_i h1
      rw [if_pos h1]
      simp [signG, h1]
    · exact absurd rfl h
theorem begG_take {l : List UInt8} (h : (begG l).2 ≠ 0) : begG (l.take (begG l).2) = begG l := by
  cases l with
  | nil => rfl
  | cons b r =>
    simp only [begG] at h ⊢
    by_cases h1 : smallB b = true
    · simp only [h1, if_true, List.take_succ_cons, takeWhile_take, takeWhile_twice]
    · rw [if_neg h1] at h ⊢
      by_cases h2 : largeB b = true
      · rw [if_pos h2]
        simp only [List.take_succ_cons, List.take_zero]
        rw [if_neg h1, if_pos h2]
      · rw [if_neg h2] at h ⊢
        by_cases h3 : (digB b || b == 45) = true
        · rw [if_pos h3] at h ⊢
          have hn : numG b r = (r.takeWhile digB).length + 1 := by
            simp only [numG] at h ⊢
            split at h <;> split at h <;> simp_all
          have hn2 : numG b (r.takeWhile digB) = numG b r := by
            simp only [numG, takeWhile_twice]
          simp only [hn, List.take_succ_cons, takeWhile_take]
          rw [if_neg h1, if_neg h2, if_pos h3, hn2, hn]
        · rw [if_neg h3] at h ⊢
          have hs := signG_take h
          cases hx : (b :: r).take (signG (b :: r)) with
          | nil =>
            rw [hx] at hs
            exact absurd hs.symm h
          | cons c q =>
            have hc : c = b := by
              cases hz : signG (b :: r) with
              | zero => exact absurd hz h
              | succ n => rw [hz] at hx; cases hx; rfl
            subst hc
            simp only
            rw [if_neg h1, if_neg h2, if_neg h3, ← hx, hs]
/-- The bytes t are a token of this kind. -/
def isTok (kd : Nat) (t : List UInt8) : Bool := begG t == (kd, t.length) && !t.isEmpty
theorem isTok_iff {kd : Nat} {t : List UInt8} : isTok kd t = true ↔ begG t = (kd, t.length) ∧ t ≠ [] := by
  cases t <;> simp [isTok]
theorem isTok_take {l : List UInt8} (h : (begG l).2 ≠ 0) : isTok (begG l).1 (l.take (begG l).2) = true := by
  have h1 := begG_take h
  have h2 := begG_le l
  rw [isTok_iff, h1, List.length_take, Nat.min_eq_left h2]
  refine ⟨rfl, fun e => ?_⟩
  have := congrArg List.length e
  rw [List.length_take, Nat.min_eq_left h2] at this
  exact h this
theorem isTok_kind {kd : Nat} {t : List UInt8} (h : isTok kd t = true) : 1 ≤ kd ∧ kd ≤ 4 := by
  rw [isTok_iff] at h
  obtain ⟨h1, h2⟩ := h
  cases t with
  | nil => exact absurd rfl h2
  | cons b r =>
    have := congrArg Prod.fst h1
    simp only [begG] at this
    split at this
    · simp only at this; omega
    · split at this
      · simp only at this; omega
      · split at this <;> simp only at this <;> omega
theorem isTok_front {kd : Nat} {b : UInt8} {r : List UInt8} (h : isTok kd (b :: r) = true) : blankB b = false := by
  cases hb : blankB b with
  | false => rfl
  | true =>
    obtain ⟨h1, h2, h3, h4, h5, h6, _⟩ := blank_not hb
    rw [isTok_iff] at h
    have := congrArg Prod.snd h.1
    simp only [begG, h1, h2, h3, h4, signG, h5, h6] at this
    simp at this
theorem dropWhile_all {g : List UInt8} (hg : ∀ b ∈ g, blankB b = true) (l : List UInt8) : (g ++ l).dropWhile blankB = l.dropWhile blankB := by
  induction g with
  | nil => rfl
  | cons c g ih => rw [List.cons_append, List.dropWhile_cons, if_pos (hg c (by simp)), ih (fun b hb => hg b (by simp [hb]))]
theorem dropWhile_split (l : List UInt8) : ∃ g, l = g ++ l.dropWhile blankB ∧ (∀ b ∈ g, blankB b = true) ∧ g.length = l.length - (l.dropWhile blankB).length := by
  refine ⟨l.takeWhile blankB, List.takeWhile_append_dropWhile.symm, fun b hb => ?_, ?_⟩
  · have := List.all_takeWhile (l := l) (p := blankB)
    exact List.all_eq_true.1 this b hb
  · have := congrArg List.length (List.takeWhile_append_dropWhile (p := blankB) (l := l))
    rw [List.length_append] at this
    omega
theorem dropWhile_head {l : List UInt8} {b : UInt8} {r : List UInt8} (h : l.dropWhile blankB = b :: r) : blankB b = false := by
  have := List.head_dropWhile_not (p := blankB) (l := l) (by rw [h]; simp)
  simpa [h] using this
/-- A text that begins with blanks. -/
theorem toks_blank {g : List UInt8} (hg : ∀ b ∈ g, blankB b = true) (l : List UInt8) (k : Nat) : toksG (g ++ l) k = toksG l (k + g.length) := by
  rw [toksG_eq, toksG_eq, dropWhile_all hg]
  have h1 := drop_len l
  cases hd : l.dropWhile blankB with
  | nil => rfl
  | cons b r =>
    rw [hd] at h1
    simp only
    have e : k + ((g ++ l).length - (b :: r).length) = k + g.length + (l.length - (b :: r).length) := by rw [List.length_append]; omega
    rw [e]
theorem toks_nil (k : Nat) : toksG [] k = .ok [] := rfl
theorem toks_blanks {g : List UInt8} (hg : ∀ b ∈ g, blankB b = true) (k : Nat) : toksG g k = .ok [] := by
  have := toks_blank hg [] k
  rw [List.append_nil, toks_nil] at this
  exact this
/-- A token, what follows it, and blanks in front of it. -/
theorem toks_tok {g t e : List UInt8} {kd : Nat} (hg : ∀ b ∈ g, blankB b = true) (ht : isTok kd t = true) (he : endB e = true) (k : Nat) :
    toksG (g ++ (t ++ e)) k = glue (kd, t, k + g.length) (toksG e (k + g.length + t.length)) := by
  rw [toks_blank hg, toksG_eq]
  cases t with
  | nil => simp [isTok] at ht
  | cons b r =>
    have h1 := isTok_front ht
    have h2 := (isTok_iff.1 ht).1
    have h3 := begG_end e (l := b :: r) (by simp) he
    rw [h2] at h3
    rw [List.cons_append] at h3 ⊢
    rw [List.dropWhile_cons, if_neg (by rw [h1]; decide)]
    simp only
    rw [h3]
    simp only
    rw [if_neg (by simp), Nat.sub_self, Nat.add_zero, ← List.cons_append, List.take_left, List.drop_left]
/-- The tokens of one text and those of another behind it. -/
def both : Except (Int × Nat) (List T) → Except (Int × Nat) (List T) → Except (Int × Nat) (List T)
  | .error e, _ => .error e
  | .ok _, .error e => .error e
  | .ok l, .ok m => .ok (l ++ m)
theorem both_glue (t : T) (x y : Except (Int × Nat) (List T)) : both (glue t x) y = glue t (both x y) := by
  cases x with
  | error e => rfl
  | ok l => cases y <;> rfl
theorem both_nil (y : Except (Int × Nat) (List T)) : both (.ok []) y = y := by cases y <;> rfl
theorem toks_both (n : Nat) : ∀ (a b : List UInt8) (k : Nat), a.length ≤ n → toksG (a ++ 32 :: b) k = both (toksG a k) (toksG b (k + a.length + 1)) := by
  induction n with
  | zero =>
    intro a b k ha
    have : a = [] := List.eq_nil_of_length_eq_zero (by omega)
    subst this
    rw [toks_nil, both_nil]
    exact toks_blank (g := [32]) (by simp [blankB]) b k
  | succ n ih =>
    intro a b k ha
    obtain ⟨g, hg1, hg2, hg3⟩ := dropWhile_split a
    cases hd : a.dropWhile blankB with
    | nil =>
      rw [hd, List.append_nil] at hg1
      have hb : ∀ c ∈ a ++ [32], blankB c = true := by
        intro c hc
        rcases List.mem_append.1 hc with h | h
        · exact hg2 c (hg1 ▸ h)
        · simp at h; subst h; rfl
      have e1 := toks_blank hb b k
      rw [List.append_assoc, List.length_append] at e1
      rw [toks_blanks (fun c hc => hg2 c (hg1 ▸ hc)), both_nil]
      exact e1
    | cons c r =>
      have hl := begG_le (c :: r)
      have h1 := drop_len a
      rw [hd] at h1 hg1 hg3
      have h4 := begG_end (32 :: b) (l := c :: r) (by simp) rfl
      rw [toksG_eq (a ++ 32 :: b), toksG_eq a]
      have hd2 : (a ++ 32 :: b).dropWhile blankB = c :: (r ++ 32 :: b) := by
        rw [hg1, List.append_assoc, dropWhile_all hg2, List.cons_append, List.dropWhile_cons, if_neg (by rw [dropWhile_head hd]; decide)]
      rw [hd, hd2]
      rw [List.cons_append] at h4
      simp only
      rw [h4]
      have e2 : (a ++ 32 :: b).length - (c :: (r ++ 32 :: b)).length = a.length - (c :: r).length := by
        simp only [List.length_append, List.length_cons]; omega
      rw [e2]
      split
      · rfl
      · rename_i hz
        rw [both_glue]
        have e3 : List.drop (begG (c :: r)).2 (c :: (r ++ 32 :: b)) = List.drop (begG (c :: r)).2 (c :: r) ++ 32 :: b := by
          rw [← List.cons_append, List.drop_append_of_le_length hl]
        have e4 : List.take (begG (c :: r)).2 (c :: (r ++ 32 :: b)) = List.take (begG (c :: r)).2 (c :: r) := by
          rw [← List.cons_append, List.take_append_of_le_length hl]
        rw [e3, e4, ih _ _ _ (by rw [List.length_drop]; omega)]
        have e5 : k + (a.length - (c :: r).length) + (begG (c :: r)).2 + (List.drop (begG (c :: r)).2 (c :: r)).length + 1 = k + a.length + 1 := by
          rw [List.length_drop]; omega
        rw [e5]
/-- Tokens moved by d bytes. -/
def moved (d : Nat) (l : List T) : List T := l.map fun t => (t.1, t.2.1, t.2.2 + d)
def movedR (d : Nat) : Except (Int × Nat) (List T) → Except (Int × Nat) (List T)
  | .error e => .error (e.1, e.2 + d)
  | .ok l => .ok (moved d l)
theorem toks_moved (d n : Nat) : ∀ (a : List UInt8) (k : Nat), a.length ≤ n → toksG a (k + d) = movedR d (toksG a k) := by
  induction n with
  | zero =>
    intro a k ha
    have : a = [] := List.eq_nil_of_length_eq_zero (by omega)
    subst this
    rfl
  | succ n ih =>
    intro a k ha
    rw [toksG_eq a (k + d), toksG_eq a k]
    cases hd : a.dropWhile blankB with
    | nil => rfl
    | cons c r =>
      have h1 := drop_len a
      rw [hd] at h1
      have e : k + d + (a.length - (c :: r).length) = k + (a.length - (c :: r).length) + d := by omega
      simp only
      rw [e]
      split
      · rfl
      · rename_i hz
        have e2 : k + (a.length - (c :: r).length) + d + (begG (c :: r)).2 = k + (a.length - (c :: r).length) + (begG (c :: r)).2 + d := by omega
        rw [e2, ih _ _ (by rw [List.length_drop]; omega)]
        cases toksG (List.drop (begG (c :: r)).2 (c :: r)) (k + (a.length - (c :: r).length) + (begG (c :: r)).2) <;> rfl
/-- The tokens ts stand in l, which stands at k: each where it says, with blanks alone between them. -/
def Laid : List UInt8 → Nat → List T → Prop
  | l, _, [] => ∀ b ∈ l, blankB b = true
  | l, k, t :: ts => ∃ g e, l = g ++ (t.2.1 ++ e) ∧ (∀ b ∈ g, blankB b = true) ∧ t.2.2 = k + g.length ∧ isTok t.1 t.2.1 = true ∧ Laid e (t.2.2 + t.2.1.length) ts
theorem laid_of (n : Nat) : ∀ (a : List UInt8) (k : Nat) (ts : List T), a.length ≤ n → toksG a k = .ok ts → Laid a k ts := by
  induction n with
  | zero =>
    intro a k ts ha h
    have : a = [] := List.eq_nil_of_length_eq_zero (by omega)
    subst this
    cases h
    exact fun b hb => by cases hb
  | succ n ih =>
    intro a k ts ha h
    rw [toksG_eq] at h
    obtain ⟨g, hg1, hg2, hg3⟩ := dropWhile_split a
    cases hd : a.dropWhile blankB with
    | nil =>
      rw [hd] at h hg1
      cases h
      rw [List.append_nil] at hg1
      exact fun b hb => hg2 b (hg1 ▸ hb)
    | cons c r =>
      rw [hd] at h hg1 hg3
      simp only at h
      split at h
      · cases h
      · rename_i hz
        have h1 := drop_len a
        rw [hd] at h1
        rw [← hg3] at h
        have hlen : (List.take (begG (c :: r)).2 (c :: r)).length = (begG (c :: r)).2 := by rw [List.length_take]; exact Nat.min_eq_left (begG_le _)
        cases hr : toksG (List.drop (begG (c :: r)).2 (c :: r)) (k + g.length + (begG (c :: r)).2) with
        | error e => rw [hr] at h; cases h
        | ok us =>
          rw [hr] at h
          cases h
          refine ⟨g, List.drop (begG (c :: r)).2 (c :: r), ?_, hg2, rfl, isTok_take hz, ?_⟩
          · rw [List.take_append_drop]; exact hg1
          · simp only
            rw [hlen]
            exact ih _ _ _ (by rw [List.length_drop]; omega) hr
theorem fault_of (n : Nat) : ∀ (a : List UInt8) (k : Nat) (e : Int × Nat), a.length ≤ n → toksG a k = .error e → e.1 = 3 ∧ k ≤ e.2 ∧ e.2 < k + a.length := by
  induction n with
  | zero =>
    intro a k e ha h
    have : a = [] := List.eq_nil_of_length_eq_zero (by omega)
    subst this
    cases h
  | succ n ih =>
    intro a k e ha h
    rw [toksG_eq] at h
    have h1 := drop_len a
    cases hd : a.dropWhile blankB with
    | nil => rw [hd] at h; cases h
    | cons c r =>
      rw [hd] at h h1
      have hl := begG_le (c :: r)
      have hc : (c :: r).length = r.length + 1 := List.length_cons
      simp only at h
      split at h
      · cases h
        refine ⟨rfl, ?_, ?_⟩
        · show k ≤ k + (a.length - (c :: r).length); omega
        · show k + (a.length - (c :: r).length) < k + a.length; omega
      · rename_i hz
        cases hr : toksG (List.drop (begG (c :: r)).2 (c :: r)) (k + (a.length - (c :: r).length) + (begG (c :: r)).2) with
        | ok us => rw [hr] at h; cases h
        | error e' =>
          rw [hr] at h
          cases h
          have hd2 : (List.drop (begG (c :: r)).2 (c :: r)).length = (c :: r).length - (begG (c :: r)).2 := List.length_drop
          have := ih _ _ _ (by omega) hr
          obtain ⟨h4, h5, h6⟩ := this
          exact ⟨h4, by omega, by omega⟩
theorem laid_tok : ∀ (ts : List T) (l : List UInt8) (k : Nat), Laid l k ts → ∀ t ∈ ts, isTok t.1 t.2.1 = true := by
  intro ts
  induction ts with
  | nil => intro l k _ t h; cases h
  | cons x ts ih =>
    rintro l k ⟨g, e, _, _, _, h, h2⟩ t ht
    rcases List.mem_cons.1 ht with rfl | ht
    · exact h
    · exact ih _ _ h2 t ht
theorem laid_len : ∀ (ts : List T) (l : List UInt8) (k : Nat), Laid l k ts → (ts.map fun t => t.2.1.length).sum ≤ l.length := by
  intro ts
  induction ts with
  | nil => intro l k _; simp
  | cons x ts ih =>
    rintro l k ⟨g, e, rfl, _, _, h, h2⟩
    have := ih _ _ h2
    simp only [List.map_cons, List.sum_cons, List.length_append]
    omega
/-- The same kinds and texts. -/
def sameT (a b : List T) : Prop := a.map (fun t => (t.1, t.2.1)) = b.map (fun t => (t.1, t.2.1))
/-- Tokens with blanks in front of each, and e behind the last one. -/
def spread : List (List UInt8) → List T → List UInt8 → List UInt8
  | g :: gs, t :: ts, e => g ++ (t.2.1 ++ spread gs ts e)
  | _, _, e => e
theorem spread_end : ∀ (gs : List (List UInt8)) (ts : List T) (e : List UInt8), (∀ g ∈ gs, g ≠ [] ∧ ∀ b ∈ g, blankB b = true) → endB e = true → endB (spread gs ts e) = true := by
  intro gs ts e hg he
  cases gs with
  | nil => exact he
  | cons g gs =>
    cases ts with
    | nil => exact he
    | cons t ts =>
      obtain ⟨h1, h2⟩ := hg g (by simp)
      cases g with
      | nil => exact absurd rfl h1
      | cons b g => exact h2 b (by simp)
theorem toks_spread : ∀ (gs : List (List UInt8)) (ts : List T) (e : List UInt8) (k : Nat), gs.length = ts.length → (∀ g ∈ gs, g ≠ [] ∧ ∀ b ∈ g, blankB b = true) → (∀ t ∈ ts, isTok t.1 t.2.1 = true) → (∀ b ∈ e, blankB b = true) →
    ∃ us, toksG (spread gs ts e) k = .ok us ∧ sameT us ts := by
  intro gs
  induction gs with
  | nil =>
    intro ts e k hl _ _ he
    have : ts = [] := List.eq_nil_of_length_eq_zero (by simpa using hl.symm)
    subst this
    exact ⟨[], toks_blanks he k, rfl⟩
  | cons g gs ih =>
    intro ts e k hl hg ht he
    cases ts with
    | nil => simp at hl
    | cons t ts =>
      have hee : endB e = true := by
        cases e with
        | nil => rfl
        | cons b e => exact he b (by simp)
      have h1 := spread_end gs ts e (fun g h => hg g (by simp [h])) hee
      obtain ⟨us, hu, hs⟩ := ih ts e (k + g.length + t.2.1.length) (by simpa using hl) (fun g h => hg g (by simp [h])) (fun t h => ht t (by simp [h])) he
      refine ⟨(t.1, t.2.1, k + g.length) :: us, ?_, ?_⟩
      · show toksG (g ++ (t.2.1 ++ spread gs ts e)) k = _
        rw [toks_tok (hg g (by simp)).2 (ht t (by simp)) h1, hu]
        rfl
      · unfold sameT at hs ⊢
        simp [hs]
/-- The texts of tokens with one blank between two of them. -/
def joinT : List T → List UInt8
  | [] => []
  | t :: ts => t.2.1 ++ (ts.map fun u => (32 :: u.2.1 : List UInt8)).flatten
theorem joinT_spread (ts : List T) : (ts.map fun u => (32 :: u.2.1 : List UInt8)).flatten = spread (ts.map fun _ => [32]) ts [] := by
  induction ts with
  | nil => rfl
  | cons t ts ih =>
    rw [List.map_cons, List.flatten_cons, ih]
    rfl
theorem toks_join (ts : List T) (k : Nat) (ht : ∀ t ∈ ts, isTok t.1 t.2.1 = true) : ∃ us, toksG (joinT ts) k = .ok us ∧ sameT us ts := by
  cases ts with
  | nil => exact ⟨[], rfl, rfl⟩
  | cons t ts =>
    have hg : ∀ g ∈ ts.map (fun _ => ([32] : List UInt8)), g ≠ [] ∧ ∀ b ∈ g, blankB b = true := by
      intro g h
      obtain ⟨_, _, rfl⟩ := List.mem_map.1 h
      exact ⟨by simp, by simp [blankB]⟩
    obtain ⟨us, hu, hs⟩ := toks_spread (ts.map fun _ => [32]) ts [] (k + t.2.1.length) (by simp) hg (fun t h => ht t (by simp [h])) (by simp)
    refine ⟨(t.1, t.2.1, k) :: us, ?_, ?_⟩
    · have := toks_tok (g := []) (t := t.2.1) (e := spread (ts.map fun _ => [32]) ts []) (by simp) (ht t (by simp)) (spread_end _ _ _ hg rfl) k
      rw [List.nil_append, List.length_nil, Nat.add_zero, hu] at this
      show toksG (t.2.1 ++ (ts.map fun u => (32 :: u.2.1 : List UInt8)).flatten) k = _
      rw [joinT_spread, this]
      rfl
    · unfold sameT at hs ⊢
      simp [hs]
theorem joinT_len (ts : List T) : (joinT ts).length ≤ (ts.map fun t => t.2.1.length).sum + ts.length := by
  have h : ∀ us : List T, ((us.map fun u => (32 :: u.2.1 : List UInt8)).flatten).length = (us.map fun t => t.2.1.length).sum + us.length := by
    intro us
    induction us with
    | nil => rfl
    | cons u us ih =>
      rw [List.map_cons, List.flatten_cons, List.length_append, ih]
      simp only [List.map_cons, List.sum_cons, List.length_cons]
      omega
  cases ts with
  | nil => simp [joinT]
  | cons t ts =>
    have := h ts
    simp only [joinT, List.length_append, List.map_cons, List.sum_cons, List.length_cons]
    omega
end Go.Proofs.YtfibmdbplfghcaaGreatDoor.Tk7
namespace Go.Proofs.YtfibmdbplfghcaaGreatDoor
open Go.RowKit
open Tk7

theorem Only.undrewN {b : Nat} {w w1 : World} {n : Nat} (h : Only b (w.drewN n) w1) : Only b w w1 := ((Only.refl b w).drewN n).trans h
theorem while_len (p : UInt8 → Bool) (l : List UInt8) : (l.takeWhile p).length ≤ l.length := (List.takeWhile_sublist p).length_le
set_option maxRecDepth 100000 in
set_option maxHeartbeats 2000000 in
theorem pass_small {w : World} {R : Nat} {s : ByteArray} {k : Nat} (h : Cur w R s k k) (hk : k < s.size) (hs : s.size ≤ maxLen) (hb : smallB (s[k]'hk) = true) :
    Calls Tryz.prog 117 #[.pointer (some ⟨R, 0, none⟩)] w (PassP w R s k) := by
  have hr := rest_cons hk
  have hK := fun w => kindOf_any (s[k]'hk) w
  rw [kindB_1 hb] at hK
  have hS := fun n => skip_small (h.drewN n) (Nat.le_of_lt hk) hs
  have hbeg : begG (restAt s k) = (1, ((restAt s k).takeWhile smallB).length) := by rw [hr, beg_1 hb, while_true hb]
  have hz : ((restAt s k).takeWhile smallB).length ≠ 0 := by rw [hr, while_true hb]; omega
  have hle : k + ((restAt s k).takeWhile smallB).length ≤ s.size := by have := while_len smallB (restAt s k); rw [restAt_len] at this; omega
  have hkr := kindR_of hbeg
  rw [if_neg hz] at hkr
  have h2 := congrArg Prod.snd hbeg
  have HK := Lib.hid hkr
  have H2 := Lib.hid h2
  have HL := Lib.hid hle
  have HC := Lib.hid h
  have g1 : (0 : Int) ≤ (k : Int) := by omega
  have g2 : (k : Int) < (s.size : Int) := by omega
  obtain ⟨hlt, c0, c1, c2, f0, f1, f2⟩ := h.parts
  clear hr hbeg hz hle hkr h2 h
  go_enter Tryz.func117, Tryz.ntmps117
  go_wp2
  go_quiet ((go_at_call 128; exact quiet_same (hK _)))
  go_wp2_with (go_at_call 126; refine (hS _).mono ?_; rintro e w1 ⟨rfl, hO, hC⟩)
  go_ret
  exact ⟨_, by rw [HK.out]; rfl, hO.undrewN, hC, HL.out, by omega, fun _ => by rw [H2.out]⟩
set_option maxRecDepth 100000 in
set_option maxHeartbeats 2000000 in
theorem pass_large {w : World} {R : Nat} {s : ByteArray} {k : Nat} (h : Cur w R s k k) (hk : k < s.size) (hs : s.size ≤ maxLen) (h0 : smallB (s[k]'hk) = false) (hb : largeB (s[k]'hk) = true) :
    Calls Tryz.prog 117 #[.pointer (some ⟨R, 0, none⟩)] w (PassP w R s k) := by
  have hr := rest_cons hk
  have hK := fun w => kindOf_any (s[k]'hk) w
  rw [kindB_2 h0 hb] at hK
  have hbeg : begG (restAt s k) = (2, 1) := by rw [hr, beg_2 h0 hb]
  have hkr := kindR_of hbeg
  rw [if_neg (by decide)] at hkr
  have h2 := congrArg Prod.snd hbeg
  have HK := Lib.hid hkr
  have H2 := Lib.hid h2
  have HC := Lib.hid h
  have g1 : (0 : Int) ≤ (k : Int) := by omega
  have g2 : (k : Int) < (s.size : Int) := by omega
  unfold maxLen at hs
  have hw : IntKind.i64.wrap ((k : Int) + 1) = (k : Int) + 1 := IntWalk.i64_in _ ⟨by omega, by omega⟩
  obtain ⟨hlt, c0, c1, c2, f0, f1, f2⟩ := h.parts
  clear hr hbeg hkr h2 h
  go_enter Tryz.func117, Tryz.ntmps117
  go_wp2
  go_quiet ((go_at_call 128; exact quiet_same (hK _)))
  go_wp2
  go_ret
  exact ⟨k + 1, by rw [HK.out]; rfl, ((Only.refl _ _).drewN _).setCell _ _, (HC.out.drewN _).step _ _ (by go_num), by omega, by omega, fun _ => by rw [H2.out]⟩
/-- What the two kinds of numbers share, behind the digits. -/
theorem num_end {w w1 : World} {R : Nat} {s : ByteArray} {k n m : Nat} (hn : k + n ≤ s.size) (hb : begG (restAt s k) = (3, if isNumG ((restAt s k).take n) then n else 0)) (hO : Only R w w1) (hC : Cur w1 R s (k + n) k) (hpos : n ≠ 0) (e : Ending)
    (he : e = .returned (.int .i64 (if isNumG ((restAt s k).take n) then 3 else 0))) : PassP w R s k e (w1.drewN m) := by
  have hkr := kindR_of hb
  refine ⟨k + n, ?_, hO.drewN _, hC.drewN _, hn, by omega, fun h => ?_⟩
  · rw [he, hkr]
    cases isNumG ((restAt s k).take n) with
    | true => simp [hpos]
    | false => simp
  · rw [hkr] at h
    rw [hb]
    cases hz : isNumG ((restAt s k).take n) with
    | true => simp
    | false => simp [hz] at h
set_option maxRecDepth 100000 in
set_option maxHeartbeats 2000000 in
theorem pass_dig {w : World} {R : Nat} {s : ByteArray} {k : Nat} (h : Cur w R s k k) (hk : k < s.size) (hs : s.size ≤ maxLen) (h0 : smallB (s[k]'hk) = false) (h1 : largeB (s[k]'hk) = false) (hb : digB (s[k]'hk) = true) :
    Calls Tryz.prog 117 #[.pointer (some ⟨R, 0, none⟩)] w (PassP w R s k) := by
  have hr := rest_cons hk
  have hK := fun w => kindOf_any (s[k]'hk) w
  rw [kindB_3 h0 h1 hb] at hK
  have hS := fun n => skip_digit (h.drewN n) (Nat.le_of_lt hk) hs
  have hle : k + ((restAt s k).takeWhile digB).length ≤ s.size := by have := while_len digB (restAt s k); rw [restAt_len] at this; omega
  have hz : ((restAt s k).takeWhile digB).length ≠ 0 := by rw [hr, while_true hb]; omega
  have htk : (restAt s k).take ((restAt s k).takeWhile digB).length = (restAt s k).takeWhile digB := takeWhile_take _ _
  have hbeg : begG (restAt s k) = (3, if isNumG ((restAt s k).take ((restAt s k).takeWhile digB).length) then ((restAt s k).takeWhile digB).length else 0) := by
    rw [htk, hr, beg_3 h0 h1 (by rw [hb]; rfl), num_dig hb, List.takeWhile_cons, if_pos hb, List.length_cons]
  obtain ⟨n, hn⟩ : ∃ n, n = ((restAt s k).takeWhile digB).length := ⟨_, rfl⟩
  rw [← hn] at hS hle hz hbeg
  have hT := fun (w1 : World) (hC : Cur w1 R s (k + n) k) => taken_any hC hle (by omega) ((restAt s k).take n) (by rw [show k + n - k = n by omega])
  have hN := fun w => isNumber_any ((restAt s k).take n) w
  have HB := Lib.hid hbeg
  obtain ⟨T, hTT⟩ : ∃ T, T = (restAt s k).take n := ⟨_, rfl⟩
  rw [← hTT] at hT hN
  obtain ⟨q, hq⟩ : ∃ q, q = isNumG T := ⟨_, rfl⟩
  rw [← hq] at hN
  have HQ := Lib.hid (show isNumG ((restAt s k).take n) = q by rw [hq, hTT])
  have g1 : (0 : Int) ≤ (k : Int) := by omega
  have g2 : (k : Int) < (s.size : Int) := by omega
  obtain ⟨hlt, c0, c1, c2, f0, f1, f2⟩ := h.parts
  have HZ := Lib.hid hz
  clear hr hbeg htk hn hTT hq h hz
  cases q
  · go_enter Tryz.func117, Tryz.ntmps117
    go_wp2
    go_quiet ((go_at_call 128; exact quiet_same (hK _)))
    go_wp2_with (first
      | (go_at_call 126; refine (hS _).mono ?_; rintro e w1 ⟨rfl, hO, hC⟩)
      | (go_at_call 118; refine (hT _ hC).mono ?_; rintro e w2 ⟨rfl, m, rfl⟩)
      | (go_at_call 131; refine (hN _).mono ?_; rintro e w' ⟨rfl, rfl⟩))
    go_ret
    exact num_end hle HB.out hO.undrewN hC HZ.out _ (by rw [HQ.out]; rfl)
  · go_enter Tryz.func117, Tryz.ntmps117
    go_wp2
    go_quiet ((go_at_call 128; exact quiet_same (hK _)))
    go_wp2_with (first
      | (go_at_call 126; refine (hS _).mono ?_; rintro e w1 ⟨rfl, hO, hC⟩)
      | (go_at_call 118; refine (hT _ hC).mono ?_; rintro e w2 ⟨rfl, m, rfl⟩)
      | (go_at_call 131; refine (hN _).mono ?_; rintro e w' ⟨rfl, rfl⟩))
    go_ret
    exact num_end hle HB.out hO.undrewN hC HZ.out _ (by rw [HQ.out]; rfl)
set_option maxRecDepth 100000 in
set_option maxHeartbeats 2000000 in
theorem pass_min {w : World} {R : Nat} {s : ByteArray} {k : Nat} (h : Cur w R s k k) (hk : k < s.size) (hs : s.size ≤ maxLen) (hb : s[k]'hk = 45) :
    Calls Tryz.prog 117 #[.pointer (some ⟨R, 0, none⟩)] w (PassP w R s k) := by
  have hr := rest_cons hk
  have hK := fun w => kindOf_any (s[k]'hk) w
  have e0 : smallB 45 = false := by decide
  have e1 : largeB 45 = false := by decide
  have e2 : digB 45 = false := by decide
  have e3 : kindB 45 = 5 := by decide
  rw [hb, e3] at hK
  rw [hb] at hr
  have hS := fun (W : World) (hC : Cur W R s (k + 1) k) => skip_digit hC hk hs
  have hle : k + 1 + ((restAt s (k + 1)).takeWhile digB).length ≤ s.size := by have := while_len digB (restAt s (k + 1)); rw [restAt_len] at this; omega
  have htk : (restAt s k).take (((restAt s (k + 1)).takeWhile digB).length + 1) = 45 :: (restAt s (k + 1)).takeWhile digB := by rw [hr, List.take_succ_cons, takeWhile_take]
  have hbeg : begG (restAt s k) = (3, if isNumG ((restAt s k).take (((restAt s (k + 1)).takeWhile digB).length + 1)) then ((restAt s (k + 1)).takeWhile digB).length + 1 else 0) := by
    rw [htk, hr, beg_3 e0 e1 (by decide), num_min]
  obtain ⟨n, hn⟩ : ∃ n, n = ((restAt s (k + 1)).takeWhile digB).length := ⟨_, rfl⟩
  rw [← hn] at hS hle hbeg
  have hS2 : ∀ (W : World) (hC : Cur W R s (k + 1) k), Calls Tryz.prog 126 #[.pointer (some ⟨R, 0, none⟩), .func (.func 130) #[] #[]] W fun e w' => e = .returned (.tuple #[]) ∧ Only R W w' ∧ Cur w' R s (k + (n + 1)) k := fun W hC => by
    have := hS W hC
    rw [show k + 1 + n = k + (n + 1) by omega] at this
    exact this
  have hT := fun (w1 : World) (hC : Cur w1 R s (k + (n + 1)) k) => taken_any hC (by omega) (by omega) ((restAt s k).take (n + 1)) (by rw [show k + (n + 1) - k = n + 1 by omega])
  have hN := fun w => isNumber_any ((restAt s k).take (n + 1)) w
  have HB := Lib.hid hbeg
  obtain ⟨T, hTT⟩ : ∃ T, T = (restAt s k).take (n + 1) := ⟨_, rfl⟩
  rw [← hTT] at hT hN
  obtain ⟨q, hq⟩ : ∃ q, q = isNumG T := ⟨_, rfl⟩
  rw [← hq] at hN
  have HQ := Lib.hid (show isNumG ((restAt s k).take (n + 1)) = q by rw [hq, hTT])
  have g1 : (0 : Int) ≤ (k : Int) := by omega
  have g2 : (k : Int) < (s.size : Int) := by omega
  have hb45 : (((s[k]'hk).toNat : Nat) : Int) = 45 := by rw [hb]; rfl
  have h45 : (((45 : UInt8).toNat : Nat) : Int) = 45 := rfl
  rw [h45] at hK
  obtain ⟨hlt, c0, c1, c2, f0, f1, f2⟩ := h.parts
  have hs' := hs
  unfold maxLen at hs'
  have hw : IntKind.i64.wrap ((k : Int) + 1) = (k : Int) + 1 := IntWalk.i64_in _ ⟨by omega, by omega⟩
  have HC := Lib.hid h
  clear hr hbeg htk hn hTT hq hS e0 e1 e2 e3 h45 hb h
  cases q
  · go_enter Tryz.func117, Tryz.ntmps117
    go_wp2
    go_quiet ((go_at_call 128; exact quiet_same (hK _)))
    go_wp2_with (first
      | (go_at_call 126; refine (hS2 _ ((HC.out.drewN _).step _ _ (by go_num))).mono ?_; rintro e w1 ⟨rfl, hO, hC⟩)
      | (go_at_call 118; refine (hT _ hC).mono ?_; rintro e w2 ⟨rfl, m, rfl⟩)
      | (go_at_call 131; refine (hN _).mono ?_; rintro e w' ⟨rfl, rfl⟩))
    go_ret
    exact num_end (by omega) HB.out ((((Only.refl _ _).drewN _).setCell _ _).trans hO) hC (by omega) _ (by rw [HQ.out]; rfl)
  · go_enter Tryz.func117, Tryz.ntmps117
    go_wp2
    go_quiet ((go_at_call 128; exact quiet_same (hK _)))
    go_wp2_with (first
      | (go_at_call 126; refine (hS2 _ ((HC.out.drewN _).step _ _ (by go_num))).mono ?_; rintro e w1 ⟨rfl, hO, hC⟩)
      | (go_at_call 118; refine (hT _ hC).mono ?_; rintro e w2 ⟨rfl, m, rfl⟩)
      | (go_at_call 131; refine (hN _).mono ?_; rintro e w' ⟨rfl, rfl⟩))
    go_ret
    exact num_end (by omega) HB.out ((((Only.refl _ _).drewN _).setCell _ _).trans hO) hC (by omega) _ (by rw [HQ.out]; rfl)
end Go.Proofs.YtfibmdbplfghcaaGreatDoor
namespace Go.Proofs.YtfibmdbplfghcaaGreatDoor
open Go.RowKit
open Tk7

set_option maxRecDepth 100000 in
set_option maxHeartbeats 4000000 in
theorem pass_sign {w : World} {R : Nat} {s : ByteArray} {k : Nat} (h : Cur w R s k k) (hk : k < s.size) (hs : s.size ≤ maxLen) (h0 : smallB (s[k]'hk) = false) (h1 : largeB (s[k]'hk) = false) (h2 : digB (s[k]'hk) = false) (hb : ((s[k]'hk) == 45) = false) (hG : SG w) :
    Calls Tryz.prog 117 #[.pointer (some ⟨R, 0, none⟩)] w (PassP w R s k) := by
  have hr := rest_cons hk
  have hK := fun w => kindOf_any (s[k]'hk) w
  rw [kindB_4 h0 h1 h2 hb] at hK
  have hbeg : begG (restAt s k) = (4, signG (restAt s k)) := by rw [hr, beg_4 h0 h1 (by rw [h2, hb]; rfl)]
  have hle := sign_le (restAt s k)
  rw [restAt_len] at hle
  have hS := fun W hG => signOf_any (restAt s k) (by rw [restAt_len]; omega) W hG
  have hex : s.extract k s.size = strOf (restAt s k) := by rw [ext_take, List.take_of_length_le (by rw [restAt_len]; omega)]
  rw [first_sign] at hS
  have htl : (strOf ((restAt s k).take (signG (restAt s k)))).size = signG (restAt s k) := by rw [strOf_size, List.length_take, restAt_len]; omega
  have HB := Lib.hid hbeg
  obtain ⟨n, hn⟩ : ∃ n, n = signG (restAt s k) := ⟨_, rfl⟩
  rw [← hn] at hle hS htl
  have HN := Lib.hid hn
  obtain ⟨T, hT⟩ : ∃ T, T = strOf ((restAt s k).take n) := ⟨_, rfl⟩
  rw [← hT] at hS htl
  obtain ⟨X, hX⟩ : ∃ X, X = strOf (restAt s k) := ⟨_, rfl⟩
  rw [← hX] at hS hex
  have g1 : (0 : Int) ≤ (k : Int) := by omega
  have g2 : (k : Int) < (s.size : Int) := by omega
  have g3 : (k : Int) ≤ (s.size : Int) := by omega
  have hs' := hs
  unfold maxLen at hs'
  have hw : IntKind.i64.wrap ((k : Int) + (n : Int)) = ((k + n : Nat) : Int) := by rw [IntWalk.i64_in _ ⟨by omega, by omega⟩]; omega
  have HC := Lib.hid h
  have HG := Lib.hid hG
  obtain ⟨hlt, c0, c1, c2, f0, f1, f2⟩ := h.parts
  clear hr hbeg hn hT hX h0 h1 h2 hb hG h
  go_enter Tryz.func117, Tryz.ntmps117
  go_wp2
  go_quiet ((go_at_call 128; exact quiet_same (hK _)))
  go_upto_region 15 with (fail)
  go_cut [2] (fun s2 wx => s2 = .int .i64 0 ∧ Only R w wx ∧ Cur wx R s (k + n) k)
  case first =>
    go_region_with ((go_at_call 132; refine (hS _ (by exact HG.out)).mono ?_; rintro e w1 ⟨rfl, m, rfl⟩))
    all_goals
      go_wp2_with fail
      go_meet
      exact ⟨rfl, ((Only.refl _ _).drewN _).setCell _ _, (HC.out.drewN _).step _ _ (by omega)⟩
  case rest =>
    obtain ⟨rfl, hO, hC⟩ := hcut
    obtain ⟨hlt, c0, c1, c2, f0, f1, f2⟩ := hC.parts
    have hle2 : k + n ≤ s.size := by omega
    have hk2 : n = 0 ∨ 0 < n := by omega
    have HL := Lib.hid hle
    clear hle hw
    rcases hk2 with rfl | hk2
    · have hkk : ¬ (k : Int) < ((k + 0 : Nat) : Int) := by omega
      go_wp2
      go_quiet (fail)
      go_wp2
      go_ret
      refine ⟨k + 0, ?_, hO.drewN _, hC.drewN _, hle2, by omega, fun h => ?_⟩
      · rw [kindR_of HB.out, ← HN.out]; rfl
      · rw [kindR_of HB.out, ← HN.out] at h; exact absurd rfl h
    · have hkk : (k : Int) < ((k + n : Nat) : Int) := by omega
      go_wp2
      go_quiet (fail)
      go_wp2
      go_ret
      refine ⟨k + n, ?_, hO.drewN _, hC.drewN _, hle2, by omega, fun _ => ?_⟩
      · rw [kindR_of HB.out, ← HN.out, if_neg (by omega)]; rfl
      · rw [HB.out, ← HN.out]
theorem pass_any {w : World} {R : Nat} {s : ByteArray} {k : Nat} (h : Cur w R s k k) (hk : k < s.size) (hs : s.size ≤ maxLen) (hG : SG w) :
    Calls Tryz.prog 117 #[.pointer (some ⟨R, 0, none⟩)] w (PassP w R s k) := by
  cases h0 : smallB (s[k]'hk) with
  | true => exact pass_small h hk hs h0
  | false =>
    cases h1 : largeB (s[k]'hk) with
    | true => exact pass_large h hk hs h0 h1
    | false =>
      cases h2 : digB (s[k]'hk) with
      | true => exact pass_dig h hk hs h0 h1 h2
      | false =>
        cases h3 : ((s[k]'hk) == 45) with
        | true => exact pass_min h hk hs (by simpa using h3)
        | false => exact pass_sign h hk hs h0 h1 h2 h3 hG
end Go.Proofs.YtfibmdbplfghcaaGreatDoor
namespace Go.Proofs.YtfibmdbplfghcaaGreatDoor
open Go.RowKit
open Tk7

theorem below1 (w : World) (o : Obj) : Below w.heap.size w (w.alloc o) := (Below.refl _ _).alloc (Nat.le_refl _) o
theorem below2 (w : World) (o p : Obj) : Below w.heap.size w ((w.alloc o).alloc p) := (below1 w o).alloc (by simp) p
theorem below3 (w : World) (o p q : Obj) : Below w.heap.size w (((w.alloc o).alloc p).alloc q) := (below2 w o p).alloc (by simp; omega) q
theorem fault_any (er a : Int) (w : World) :
    Calls Tryz.prog 114 #[.int .i64 er, .int .i64 a] w fun e w' => e = .returned (.agg #[.int .i64 er, .int .i64 a]) ∧ Below w.heap.size w w' := by
  go_enter Tryz.func114, Tryz.ntmps114
  go_wp2
  exact bodyPost_ret (v := .agg #[.int .i64 er, .int .i64 a]) (by simp [results, Tryz.results114, go_sem]; try rfl) rfl ⟨rfl, below1 _ _⟩
/-- What the next token of the bytes l from the offset a on is: its kind, its text, its place, the place behind it, or the error and its place. -/
structure NX where
  kd : Nat
  tx : List UInt8
  at_ : Nat
  nx : Nat
  er : Int
  ea : Nat
def NX.val (x : NX) : Value := .tuple #[.agg #[.int .i64 (x.kd : Int), .string (strOf x.tx), .int .i64 (x.at_ : Int)], .int .i64 (x.nx : Int), .agg #[.int .i64 x.er, .int .i64 (x.ea : Int)]]
def nextX (l : List UInt8) (a : Int) : NX :=
  if a < 0 ∨ (l.length : Int) < a then ⟨0, [], 0, 0, 2, 0⟩ else
  match nextG (l.drop a.toNat) a.toNat with
  | .error (e, p) => ⟨0, [], 0, 0, e, p⟩
  | .ok (kd, p, n) => ⟨kd, (l.drop p).take n, p, p + n, 0, 0⟩
/-- The place of the first byte from k on that is no blank. -/
def pastK (s : ByteArray) (k : Nat) : Nat := k + ((restAt s k).takeWhile blankB).length
theorem past_le {s : ByteArray} {k : Nat} (hk : k ≤ s.size) : pastK s k ≤ s.size := by
  have := while_len blankB (restAt s k)
  rw [restAt_len] at this
  unfold pastK
  omega
theorem past_ge (s : ByteArray) (k : Nat) : k ≤ pastK s k := Nat.le_add_right _ _
theorem drop_while (l : List UInt8) : l.dropWhile blankB = l.drop (l.takeWhile blankB).length := by
  induction l with
  | nil => rfl
  | cons b r ih =>
    rw [List.dropWhile_cons, List.takeWhile_cons]
    cases blankB b with
    | true => rw [if_pos rfl, if_pos rfl, List.length_cons, List.drop_succ_cons]; exact ih
    | false => rfl
theorem past_rest (s : ByteArray) (k : Nat) : (restAt s k).dropWhile blankB = restAt s (pastK s k) := by
  rw [drop_while, rest_drop]; rfl
theorem next_in {s : ByteArray} {k : Nat} (hk : k ≤ s.size) : nextX s.data.toList (k : Int) = match nextG (restAt s k) k with
    | .error (e, p) => ⟨0, [], 0, 0, e, p⟩
    | .ok (kd, p, n) => ⟨kd, (restAt s p).take n, p, p + n, 0, 0⟩ := by
  unfold nextX
  rw [if_neg (by rw [bytes_size]; omega), Int.toNat_natCast]
  rfl
theorem next_out {l : List UInt8} {a : Int} (h : a < 0 ∨ (l.length : Int) < a) : nextX l a = ⟨0, [], 0, 0, 2, 0⟩ := if_pos h
theorem nextG_end {s : ByteArray} {k : Nat} (hk : k ≤ s.size) (h : pastK s k = s.size) : nextX s.data.toList (k : Int) = ⟨0, [], 0, 0, 5, s.size⟩ := by
  rw [next_in hk]
  unfold nextG
  rw [past_rest, h, rest_nil (Nat.le_refl _), restAt_len]
  simp only
  congr 1
  omega
theorem nextG_bad {s : ByteArray} {k : Nat} (hk : k ≤ s.size) (h : pastK s k < s.size) (hz : kindR (restAt s (pastK s k)) = 0) (_hk1 : (begG (restAt s (pastK s k))).1 ≠ 0) : nextX s.data.toList (k : Int) = ⟨0, [], 0, 0, 3, pastK s k⟩ := by
  have h2 : (begG (restAt s (pastK s k))).2 = 0 := by
    unfold kindR at hz
    split at hz
    · assumption
    · contradiction
  have hl : (restAt s k).length - (restAt s (pastK s k)).length = pastK s k - k := by rw [restAt_len, restAt_len]; have := past_ge s k; omega
  rw [next_in hk]
  unfold nextG
  rw [past_rest]
  have hp := past_ge s k
  rw [rest_cons h] at h2 hl ⊢
  simp only
  rw [if_pos h2, hl, show k + (pastK s k - k) = pastK s k by omega]
theorem nextG_good {s : ByteArray} {k : Nat} (hk : k ≤ s.size) (h : pastK s k < s.size) (hz : kindR (restAt s (pastK s k)) ≠ 0) : nextX s.data.toList (k : Int) = ⟨kindR (restAt s (pastK s k)), (restAt s (pastK s k)).take (begG (restAt s (pastK s k))).2, pastK s k, pastK s k + (begG (restAt s (pastK s k))).2, 0, 0⟩ := by
  have h2 : (begG (restAt s (pastK s k))).2 ≠ 0 := by
    intro e
    unfold kindR at hz
    rw [if_pos e] at hz
    exact hz rfl
  have h3 : kindR (restAt s (pastK s k)) = (begG (restAt s (pastK s k))).1 := by unfold kindR; rw [if_neg h2]
  have hl : (restAt s k).length - (restAt s (pastK s k)).length = pastK s k - k := by rw [restAt_len, restAt_len]; have := past_ge s k; omega
  have hp := past_ge s k
  rw [h3, next_in hk]
  unfold nextG
  rw [past_rest]
  rw [rest_cons h] at h2 hl ⊢
  simp only
  rw [if_neg h2, hl, show k + (pastK s k - k) = pastK s k by omega]
  simp only
  rw [rest_cons h]
theorem beg_kind {b : UInt8} {r : List UInt8} : (begG (b :: r)).1 ≠ 0 := by
  unfold begG
  simp only
  split
  · simp
  · split
    · simp
    · split <;> simp
theorem begR_kind {s : ByteArray} {k : Nat} (h : k < s.size) : (begG (restAt s k)).1 ≠ 0 := by rw [rest_cons h]; exact beg_kind
theorem reader_out {W : World} {B : Nat} {us : List Value} {x y z : Value} (h : Blk W B [x, y, z]) (u0 u1 u2 : Value) (V : World) (hV : V = ((W.setCell ⟨B, 0, none⟩ u0).setCell ⟨B, 1, none⟩ u1).setCell ⟨B, 2, none⟩ u2) (_hus : us = [u0, u1, u2]) : Blk V B us ∧ Only B W V := by
  subst hV _hus
  exact ⟨((h.set 0 u0).set 1 u1).set 2 u2, (((Only.refl _ _).setCell _ _).setCell _ _).setCell _ _⟩
set_option maxRecDepth 100000 in
set_option maxHeartbeats 2000000 in
theorem newReader_any (s : ByteArray) (k : Nat) (hk : k ≤ s.size) (hs : s.size ≤ maxLen) (w : World) :
    Calls Tryz.prog 115 #[.string s, .int .i64 (k : Int)] w fun e w' => e = .returned (.agg #[.string s, .int .i64 (pastK s k : Int), .int .i64 (pastK s k : Int)]) ∧ Below w.heap.size w w' := by
  have hS := fun (W : World) (R : Nat) (hC : Cur W R s k 0) => skip_blank hC hk hs
  rw [show k + ((restAt s k).takeWhile blankB).length = pastK s k from rfl] at hS
  obtain ⟨j, hj⟩ : ∃ j, j = pastK s k := ⟨_, rfl⟩
  rw [← hj] at hS ⊢
  clear hj
  obtain ⟨W, hW⟩ : ∃ W, W = (w.alloc (.cells #[.string ⟨#[]⟩, .int .i64 0, .int .i64 0] 148)).alloc (.cells #[.string s, .int .i64 (k : Int), .int .i64 0] 148) := ⟨_, rfl⟩
  have hC0 : Cur W (w.heap.size + 1) s k 0 := by
    rw [hW]
    exact Blk.is (us := [.string s, .int .i64 (k : Int), .int .i64 0]) _ (by rw [World.size_alloc])
  have hK0 : Blk W w.heap.size [.string ⟨#[]⟩, .int .i64 0, .int .i64 0] := by rw [hW]; exact (Blk.is _ rfl).alloc _
  have hWb : Below w.heap.size w W := by rw [hW]; exact below2 _ _ _
  go_enter Tryz.func115, Tryz.ntmps115
  go_wp2_with fail
  rw [← hW]
  refine (hS _ _ hC0).mono ?_
  rintro e w1 ⟨rfl, hO, hC⟩
  have hK1 := hK0.under hO.below (Nat.lt_succ_self _)
  have hB1 : Below w.heap.size w w1 := hWb.trans (hO.below.mono (Nat.le_succ _))
  have hK2 := hK1.other (p := ⟨w.heap.size + 1, 2, none⟩) (by simp) (.int .i64 (j : Int))
  have hB2 := hB1.setCell (p := ⟨w.heap.size + 1, 2, none⟩) (by simp) (.int .i64 (j : Int))
  obtain ⟨hlt, c0, c1, c2, f0, f1, f2⟩ := hC.parts
  have k0 := hK1.fr 0 _ rfl
  have k1 := hK1.fr 1 _ rfl
  have k2 := hK1.fr 2 _ rfl
  have d0 := hK1.cell 0 _ rfl
  have d1 := hK1.cell 1 _ rfl
  have d2 := hK1.cell 2 _ rfl
  go_wp2
  refine named_post fun V hV => ?_
  obtain ⟨hVb, hVo⟩ := reader_out hK2 _ _ _ V hV rfl
  clear hV c0 c1 c2 f0 f1 f2 k0 k1 k2 d0 d1 d2
  have c0 := hVb.cell 0 _ rfl
  have c1 := hVb.cell 1 _ rfl
  have c2 := hVb.cell 2 _ rfl
  exact bodyPost_ret (v := .agg #[.string s, .int .i64 (j : Int), .int .i64 (j : Int)]) (by simp [results, Tryz.results115, go_sem, c0, c1, c2]; try rfl) rfl ⟨rfl, hB2.trans hVo.below⟩
/-- What the next token gives. -/
def NextP (w : World) (s : ByteArray) (a : Int) (e : Ending) (w' : World) : Prop := e = .returned (nextX s.data.toList a).val ∧ Below w.heap.size w w'
theorem tf_out {w W : World} {B : Nat} {x0 x1 x2 y0 y1 : Value} (h0 : Blk W B [x0, x1, x2]) (h1 : Blk W (B + 1) [y0, y1]) (hB : Below B w W) (u0 u1 u2 v0 v1 : Value) (V : World)
    (hV : V = ((((W.setCell ⟨B, 0, none⟩ u0).setCell ⟨B, 1, none⟩ u1).setCell ⟨B, 2, none⟩ u2).setCell ⟨B + 1, 0, none⟩ v0).setCell ⟨B + 1, 1, none⟩ v1) : Blk V B [u0, u1, u2] ∧ Blk V (B + 1) [v0, v1] ∧ Below B w V := by
  subst hV
  refine ⟨((((h0.set 0 u0).set 1 u1).set 2 u2).other (by simp) _).other (by simp) _, ((((h1.other (p := ⟨B, 0, none⟩) (by simp) _).other (p := ⟨B, 1, none⟩) (by simp) _).other (p := ⟨B, 2, none⟩) (by simp) _).set 0 v0).set 1 v1, ?_⟩
  exact ((((hB.setCell (p := ⟨B, 0, none⟩) (by simp) _).setCell (p := ⟨B, 1, none⟩) (by simp) _).setCell (p := ⟨B, 2, none⟩) (by simp) _).setCell (p := ⟨B + 1, 0, none⟩) (by simp) _).setCell (p := ⟨B + 1, 1, none⟩) (by simp) _
set_option maxRecDepth 100000 in
set_option maxHeartbeats 2000000 in
theorem next_range (s : ByteArray) (a : Int) (h : a < 0 ∨ (s.data.toList.length : Int) < a) (w : World) :
    Calls Tryz.prog 95 #[.string s, .int .i64 a] w (NextP w s a) := by
  have HX := Lib.hid (next_out h)
  rw [bytes_size] at h
  have hF := fun w => fault_any 2 0 w
  have h2 : a < 0 ∨ 0 ≤ a ∧ (s.size : Int) < a := by omega
  obtain ⟨W, hW⟩ : ∃ W, W = (w.alloc (.cells #[.int .i64 0, .string ⟨#[]⟩, .int .i64 0] 88)).alloc (.cells #[.int .i64 0, .int .i64 0] 125) := ⟨_, rfl⟩
  have hK0 : Blk W w.heap.size [.int .i64 0, .string ⟨#[]⟩, .int .i64 0] := by rw [hW]; exact (Blk.is _ rfl).alloc _
  have hK1 : Blk W (w.heap.size + 1) [.int .i64 0, .int .i64 0] := by rw [hW]; exact Blk.is _ (by simp)
  have hWb : Below w.heap.size w W := by rw [hW]; exact below2 _ _ _
  clear h
  rcases h2 with h2 | ⟨h2, h3⟩
  · go_enter Tryz.func95, Tryz.ntmps95
    go_wp2_with fail
    rw [← hW]
    refine (hF _).mono ?_
    rintro e w1 ⟨rfl, hb1⟩
    have hZ0 := hK0.later hb1
    have hZ1 := hK1.later hb1
    have hZB := bstep hWb hb1
    clear hK0 hK1 hW
    have k0 := hZ0.fr 0 _ rfl
    have k1 := hZ0.fr 1 _ rfl
    have k2 := hZ0.fr 2 _ rfl
    have d0 := hZ0.cell 0 _ rfl
    have d1 := hZ0.cell 1 _ rfl
    have d2 := hZ0.cell 2 _ rfl
    have k3 := hZ1.fr 0 _ rfl
    have k4 := hZ1.fr 1 _ rfl
    have d3 := hZ1.cell 0 _ rfl
    have d4 := hZ1.cell 1 _ rfl
    go_wp2
    refine named_post fun V hV => ?_
    obtain ⟨hVa, hVb, hVB⟩ := tf_out hZ0 hZ1 hZB _ _ _ _ _ V hV
    clear hV d0 d1 d2 d3 d4 k0 k1 k2 k3 k4
    have c0 := hVa.cell 0 _ rfl
    have c1 := hVa.cell 1 _ rfl
    have c2 := hVa.cell 2 _ rfl
    have c3 := hVb.cell 0 _ rfl
    have c4 := hVb.cell 1 _ rfl
    exact bodyPost_ret (v := .tuple #[.agg #[.int .i64 0, .string ⟨#[]⟩, .int .i64 0], .int .i64 0, .agg #[.int .i64 2, .int .i64 0]]) (by simp [results, Tryz.results95, go_sem, c0, c1, c2, c3, c4]; try rfl) rfl ⟨by rw [HX.out]; rfl, hVB⟩
  · go_enter Tryz.func95, Tryz.ntmps95
    go_wp2_with fail
    rw [← hW]
    refine (hF _).mono ?_
    rintro e w1 ⟨rfl, hb1⟩
    have hZ0 := hK0.later hb1
    have hZ1 := hK1.later hb1
    have hZB := bstep hWb hb1
    clear hK0 hK1 hW
    have k0 := hZ0.fr 0 _ rfl
    have k1 := hZ0.fr 1 _ rfl
    have k2 := hZ0.fr 2 _ rfl
    have d0 := hZ0.cell 0 _ rfl
    have d1 := hZ0.cell 1 _ rfl
    have d2 := hZ0.cell 2 _ rfl
    have k3 := hZ1.fr 0 _ rfl
    have k4 := hZ1.fr 1 _ rfl
    have d3 := hZ1.cell 0 _ rfl
    have d4 := hZ1.cell 1 _ rfl
    go_wp2
    refine named_post fun V hV => ?_
    obtain ⟨hVa, hVb, hVB⟩ := tf_out hZ0 hZ1 hZB _ _ _ _ _ V hV
    clear hV d0 d1 d2 d3 d4 k0 k1 k2 k3 k4
    have c0 := hVa.cell 0 _ rfl
    have c1 := hVa.cell 1 _ rfl
    have c2 := hVa.cell 2 _ rfl
    have c3 := hVb.cell 0 _ rfl
    have c4 := hVb.cell 1 _ rfl
    exact bodyPost_ret (v := .tuple #[.agg #[.int .i64 0, .string ⟨#[]⟩, .int .i64 0], .int .i64 0, .agg #[.int .i64 2, .int .i64 0]]) (by simp [results, Tryz.results95, go_sem, c0, c1, c2, c3, c4]; try rfl) rfl ⟨by rw [HX.out]; rfl, hVB⟩
/-- The block that the reader lies in, behind the two results. -/
theorem reader_new (W : World) (s : ByteArray) (j : Nat) (V : World) (hV : V = W.alloc (.cells #[.string s, .int .i64 (j : Int), .int .i64 (j : Int)] 148)) (R : Nat) (hR : R = W.heap.size) : Cur V R s j j ∧ Below W.heap.size W V := by
  subst hV hR
  exact ⟨Blk.is (us := [.string s, .int .i64 (j : Int), .int .i64 (j : Int)]) _ rfl, below1 _ _⟩
set_option maxRecDepth 100000 in
set_option maxHeartbeats 4000000 in
theorem next_in_any (s : ByteArray) (k : Nat) (hk : k ≤ s.size) (hs : s.size ≤ maxLen) (w : World) (hG : SG w) :
    Calls Tryz.prog 95 #[.string s, .int .i64 (k : Int)] w (NextP w s (k : Int)) := by
  have hR := fun w => newReader_any s k hk hs w
  have hF := fun er a w => fault_any er a w
  have hp1 := past_le hk
  have HE := Lib.hid (fun h => nextG_end hk h)
  have HBad := Lib.hid (fun h1 h2 h3 => nextG_bad hk h1 h2 h3)
  have HGood := Lib.hid (fun h1 h2 => nextG_good hk h1 h2)
  obtain ⟨j, hj⟩ : ∃ j, j = pastK s k := ⟨_, rfl⟩
  rw [← hj] at hR hp1 HE HBad HGood
  have h1 : ¬ (k : Int) < 0 := by omega
  have h2 : ¬ (s.size : Int) < (k : Int) := by omega
  obtain ⟨W, hW⟩ : ∃ W, W = (w.alloc (.cells #[.int .i64 0, .string ⟨#[]⟩, .int .i64 0] 88)).alloc (.cells #[.int .i64 0, .int .i64 0] 125) := ⟨_, rfl⟩
  have hK0 : Blk W w.heap.size [.int .i64 0, .string ⟨#[]⟩, .int .i64 0] := by rw [hW]; exact (Blk.is _ rfl).alloc _
  have hK1 : Blk W (w.heap.size + 1) [.int .i64 0, .int .i64 0] := by rw [hW]; exact Blk.is _ (by simp)
  have hWb : Below w.heap.size w W := by rw [hW]; exact below2 _ _ _
  have hG1 := hG.later hWb
  clear hj hG
  go_enter Tryz.func95, Tryz.ntmps95
  go_wp2_with fail
  rw [← hW]
  refine (hR _).mono ?_
  rintro e w1 ⟨rfl, hb1⟩
  have hZ0 := hK0.later hb1
  have hZ1 := hK1.later hb1
  have hZB := bstep hWb hb1
  have hG2 := hG1.later hb1
  clear hK0 hK1 hW hb1 hWb hG1
  obtain ⟨R, hRR⟩ : ∃ R, R = w1.heap.size := ⟨_, rfl⟩
  obtain ⟨w2, hw2⟩ : ∃ w2, w2 = w1.alloc (.cells #[.string s, .int .i64 (j : Int), .int .i64 (j : Int)] 148) := ⟨_, rfl⟩
  have hR2 := reader_new w1 s j w2 hw2 R hRR
  go_wp2_with fail
  rw [← hRR, ← hw2]
  obtain ⟨hC, hb2⟩ := hR2
  have hlt1 := hZ1.lt
  have hrl : w.heap.size + 1 < R := by omega
  replace hZ0 := hZ0.later hb2
  replace hZ1 := hZ1.later hb2
  replace hZB := bstep hZB hb2
  replace hG2 := hG2.later hb2
  clear hw2 hRR hb2 hlt1
  by_cases hz : j = s.size
  · have hD := isDone_any hC true (by rw [beq_iff_eq]; omega)
    subst hz
    have HX := Lib.hid (HE.out rfl)
    clear HE HBad HGood
    refine hD.mono ?_
    rintro e w3 ⟨rfl, n, rfl⟩
    replace hC := hC.drewN n
    replace hZ0 := hZ0.drewN n
    replace hZ1 := hZ1.drewN n
    replace hZB := below_drewN hZB n
    obtain ⟨W, hW⟩ : ∃ W, W = w2.drewN n := ⟨_, rfl⟩
    rw [← hW] at hC hZ0 hZ1 hZB ⊢
    obtain ⟨hlt, r0, r1, r2, f0, f1, f2⟩ := hC.parts
    clear hW
    go_wp2_with fail
    refine (hF 5 (s.size : Int) _).mono ?_
    rintro e w4 ⟨rfl, hb4⟩
    replace hZ0 := hZ0.later hb4
    replace hZ1 := hZ1.later hb4
    replace hZB := bstep hZB hb4
    clear r0 r1 r2 f0 f1 f2 hlt
    have k0 := hZ0.fr 0 _ rfl
    have k1 := hZ0.fr 1 _ rfl
    have k2 := hZ0.fr 2 _ rfl
    have d0 := hZ0.cell 0 _ rfl
    have d1 := hZ0.cell 1 _ rfl
    have d2 := hZ0.cell 2 _ rfl
    have k3 := hZ1.fr 0 _ rfl
    have k4 := hZ1.fr 1 _ rfl
    have d3 := hZ1.cell 0 _ rfl
    have d4 := hZ1.cell 1 _ rfl
    go_wp2
    refine named_post fun V hV => ?_
    obtain ⟨hVa, hVb, hVB⟩ := tf_out hZ0 hZ1 hZB _ _ _ _ _ V hV
    clear hV d0 d1 d2 d3 d4 k0 k1 k2 k3 k4
    have c0 := hVa.cell 0 _ rfl
    have c1 := hVa.cell 1 _ rfl
    have c2 := hVa.cell 2 _ rfl
    have c3 := hVb.cell 0 _ rfl
    have c4 := hVb.cell 1 _ rfl
    exact bodyPost_ret (v := .tuple #[.agg #[.int .i64 0, .string ⟨#[]⟩, .int .i64 0], .int .i64 0, .agg #[.int .i64 5, .int .i64 (s.size : Int)]]) (by simp [results, Tryz.results95, go_sem, c0, c1, c2, c3, c4]; try rfl) rfl ⟨by rw [HX.out]; rfl, hVB⟩
  · have hjl : j < s.size := by omega
    have hD := isDone_any hC false (by rw [beq_eq_false_iff_ne]; omega)
    have hP := fun n => pass_any (hC.drewN n) hjl hs (hG2.drewN n)
    replace HBad := Lib.hid (fun h => HBad.out hjl h (begR_kind hjl))
    replace HGood := Lib.hid (HGood.out hjl)
    clear HE
    refine hD.mono ?_
    rintro e w3 ⟨rfl, n, rfl⟩
    go_wp2_with fail
    refine (hP n).mono ?_
    rintro e w4 ⟨k', rfl, hO, hC4, hk1, hk2, hk3⟩
    replace hZ0 := (hZ0.drewN n).under hO.below (by omega)
    replace hZ1 := (hZ1.drewN n).under hO.below hrl
    replace hZB := (below_drewN hZB n).trans (hO.below.mono (by omega))
    clear hP hO hG2 hC
    have HK3 := Lib.hid hk3
    clear hk3
    obtain ⟨q, hq⟩ : ∃ q, q = kindR (restAt s j) := ⟨_, rfl⟩
    rw [← hq] at HBad HGood HK3 ⊢
    by_cases hq0 : q = 0
    · subst hq0
      have HX := Lib.hid (HBad.out rfl)
      clear HBad HGood hq HK3
      obtain ⟨hlt, r0, r1, r2, f0, f1, f2⟩ := hC4.parts
      go_wp2_with fail
      refine (hF 3 (j : Int) _).mono ?_
      rintro e w5 ⟨rfl, hb5⟩
      replace hZ0 := hZ0.later hb5
      replace hZ1 := hZ1.later hb5
      replace hZB := bstep hZB hb5
      clear r0 r1 r2 f0 f1 f2 hlt
      have k0 := hZ0.fr 0 _ rfl
      have k1 := hZ0.fr 1 _ rfl
      have k2 := hZ0.fr 2 _ rfl
      have d0 := hZ0.cell 0 _ rfl
      have d1 := hZ0.cell 1 _ rfl
      have d2 := hZ0.cell 2 _ rfl
      have k3 := hZ1.fr 0 _ rfl
      have k4 := hZ1.fr 1 _ rfl
      have d3 := hZ1.cell 0 _ rfl
      have d4 := hZ1.cell 1 _ rfl
      go_wp2
      refine named_post fun V hV => ?_
      obtain ⟨hVa, hVb, hVB⟩ := tf_out hZ0 hZ1 hZB _ _ _ _ _ V hV
      clear hV d0 d1 d2 d3 d4 k0 k1 k2 k3 k4
      have c0 := hVa.cell 0 _ rfl
      have c1 := hVa.cell 1 _ rfl
      have c2 := hVa.cell 2 _ rfl
      have c3 := hVb.cell 0 _ rfl
      have c4 := hVb.cell 1 _ rfl
      exact bodyPost_ret (v := .tuple #[.agg #[.int .i64 0, .string ⟨#[]⟩, .int .i64 0], .int .i64 0, .agg #[.int .i64 3, .int .i64 (j : Int)]]) (by simp [results, Tryz.results95, go_sem, c0, c1, c2, c3, c4]; try rfl) rfl ⟨by rw [HX.out]; rfl, hVB⟩
    · have HX := Lib.hid (HGood.out hq0)
      have hk4 := HK3.out hq0
      have hT := fun (W : World) (hC : Cur W R s k' j) => taken_any hC hk1 hk2 ((restAt s j).take (begG (restAt s j)).2) (by rw [hk4, Nat.add_sub_cancel_left])
      have hqi : ¬ (q : Int) = 0 := by omega
      have hqb : ((q : Int) == 0) = false := by rw [beq_eq_false_iff_ne]; exact hqi
      obtain ⟨T, hT2⟩ : ∃ T, T = strOf ((restAt s j).take (begG (restAt s j)).2) := ⟨_, rfl⟩
      rw [← hT2] at hT
      have HT := Lib.hid hT2
      have HK4 := Lib.hid hk4
      clear HBad HGood hq hk4 hT2 HK3
      go_upto_region 9 with (fail)
      go_cut [5] (fun s5 wx => s5 = .int .i64 (k' : Int) ∧ Blk wx w.heap.size [.int .i64 (q : Int), .string T, .int .i64 (j : Int)] ∧ Blk wx (w.heap.size + 1) [.int .i64 0, .int .i64 0] ∧ Below w.heap.size w wx)
      case first =>
        obtain ⟨hlt, r0, r1, r2, f0, f1, f2⟩ := hC4.parts
        have k0 := hZ0.fr 0 _ rfl
        have k1 := hZ0.fr 1 _ rfl
        have k2 := hZ0.fr 2 _ rfl
        have d0 := hZ0.cell 0 _ rfl
        have d1 := hZ0.cell 1 _ rfl
        have d2 := hZ0.cell 2 _ rfl
        have k3 := hZ1.fr 0 _ rfl
        have k4 := hZ1.fr 1 _ rfl
        have d3 := hZ1.cell 0 _ rfl
        have d4 := hZ1.cell 1 _ rfl
        go_region_with ((go_at_call 118; refine (hT _ (by first | exact hC4 | exact Blk.drew hC4 | exact Blk.drew (Blk.drew hC4) | exact Blk.drew (Blk.drew (Blk.drew hC4)))).mono ?_; rintro e w5 ⟨rfl, m, rfl⟩))
        all_goals
          go_wp2_with fail
          go_meet
          exact ⟨rfl, tf_out (hZ0.drewN _) (hZ1.drewN _) (below_drewN hZB _) _ _ _ _ _ _ rfl⟩
      case rest =>
        obtain ⟨rfl, hZ0, hZ1, hZB⟩ := hcut
        have c0 := hZ0.cell 0 _ rfl
        have c1 := hZ0.cell 1 _ rfl
        have c2 := hZ0.cell 2 _ rfl
        have c3 := hZ1.cell 0 _ rfl
        have c4 := hZ1.cell 1 _ rfl
        go_wp2
        exact bodyPost_ret (v := .tuple #[.agg #[.int .i64 (q : Int), .string T, .int .i64 (j : Int)], .int .i64 (k' : Int), .agg #[.int .i64 0, .int .i64 0]]) (by simp [results, Tryz.results95, go_sem, c0, c1, c2, c3, c4]; try rfl) rfl ⟨by rw [HX.out, HT.out, HK4.out]; rfl, hZB⟩
theorem next_any (s : ByteArray) (a : Int) (hs : s.size ≤ maxLen) (w : World) (hG : SG w) :
    Calls Tryz.prog 95 #[.string s, .int .i64 a] w (NextP w s a) := by
  by_cases h : a < 0 ∨ (s.data.toList.length : Int) < a
  · exact next_range s a h w
  · rw [bytes_size] at h
    obtain ⟨k, rfl⟩ := Int.eq_ofNat_of_zero_le (show 0 ≤ a by omega)
    exact next_in_any s k (by omega) hs w hG
end Go.Proofs.YtfibmdbplfghcaaGreatDoor
