/- Walks: the program's cursor in a text. -/
import Derived.Test.YtmdlndmibodimaaDoorTokA
import Derived.Deep.DeepCutAuto
import Derived.BigQuiet
namespace Go.Proofs.YtmdlndmibodimaaDoor
open Go.RowKit
open Tk7

theorem str_is {s : ByteArray} {l : List UInt8} (h : s.data.toList = l) : s = strOf l := by
  subst h; rfl
theorem strOf_size (l : List UInt8) : (strOf l).size = l.length := by simp [strOf, ByteArray.size]
theorem strOf_dat (l : List UInt8) : (strOf l).data.toList = l := by simp [strOf]
/-- The cursor in block R: the text, the place, and where the token begins. -/
def Cur (w : World) (R : Nat) (s : ByteArray) (k f : Nat) : Prop := Blk w R [.string s, .int .i64 (k : Int), .int .i64 (f : Int)]
/-- What stands behind the place. -/
def restAt (s : ByteArray) (k : Nat) : List UInt8 := s.data.toList.drop k
theorem restAt_len (s : ByteArray) (k : Nat) : (restAt s k).length = s.size - k := by unfold restAt; rw [List.length_drop, bytes_size]
theorem rest_cons {s : ByteArray} {k : Nat} (h : k < s.size) : restAt s k = s[k]'h :: restAt s (k + 1) := by
  unfold restAt
  have h2 : k < s.data.toList.length := by rw [bytes_size]; exact h
  rw [List.drop_eq_getElem_cons h2]
  rfl
theorem rest_nil {s : ByteArray} {k : Nat} (h : s.size ≤ k) : restAt s k = [] := List.drop_eq_nil_of_le (by rw [bytes_size]; exact h)
theorem rest_drop (s : ByteArray) (k j : Nat) : (restAt s k).drop j = restAt s (k + j) := by unfold restAt; rw [List.drop_drop]
theorem ext_take (s : ByteArray) (k j : Nat) : s.extract k j = strOf ((restAt s k).take (j - k)) := by
  apply str_is
  rw [ByteArray.data_extract, Array.toList_extract]
  simp only [List.extract_eq_take_drop]
  rfl
theorem Cur.parts {w : World} {R : Nat} {s : ByteArray} {k f : Nat} (h : Cur w R s k f) : R < w.heap.size ∧ w.cell? ⟨R, 0, none⟩ = some (.string s) ∧ w.cell? ⟨R, 1, none⟩ = some (.int .i64 (k : Int)) ∧ w.cell? ⟨R, 2, none⟩ = some (.int .i64 (f : Int)) ∧ w.frozen? ⟨R, 0, none⟩ = false ∧ w.frozen? ⟨R, 1, none⟩ = false ∧ w.frozen? ⟨R, 2, none⟩ = false :=
  ⟨h.lt, h.cell 0 _ rfl, h.cell 1 _ rfl, h.cell 2 _ rfl, h.fr 0 _ rfl, h.fr 1 _ rfl, h.fr 2 _ rfl⟩
theorem Cur.drewN {w : World} {R : Nat} {s : ByteArray} {k f : Nat} (h : Cur w R s k f) (n : Nat) : Cur (w.drewN n) R s k f := Blk.drewN h n
theorem Cur.step {w : World} {R : Nat} {s : ByteArray} {k f : Nat} (h : Cur w R s k f) (k' : Nat) (x : Int) (e : x = (k' : Int)) : Cur (w.setCell ⟨R, 1, none⟩ (.int .i64 x)) R s k' f := by
  subst e; exact Blk.set h 1 _
theorem Cur.from_ {w : World} {R : Nat} {s : ByteArray} {k f : Nat} (h : Cur w R s k f) (f' : Nat) : Cur (w.setCell ⟨R, 2, none⟩ (.int .i64 (f' : Int))) R s k f' := Blk.set h 2 _
set_option maxRecDepth 100000 in
theorem isDone_any {w : World} {R : Nat} {s : ByteArray} {k f : Nat} (h : Cur w R s k f) (p : Bool) (hp : ((k : Int) == (s.size : Int)) = p) :
    Calls Tryd.prog 32 #[.pointer (some ⟨R, 0, none⟩)] w fun e w' => e = .returned (.bool p) ∧ ∃ n, w' = w.drewN n := by
  obtain ⟨hlt, c0, c1, c2, f0, f1, f2⟩ := h.parts
  go_enter Tryd.func32, Tryd.ntmps32
  go_wp2
  go_quiet (fail)
  go_wp2
  go_ret
  exact ⟨rfl, _, rfl⟩
set_option maxRecDepth 100000 in
theorem taken_any {w : World} {R : Nat} {s : ByteArray} {k f : Nat} (h : Cur w R s k f) (hk : k ≤ s.size) (hf : f ≤ k) (t : List UInt8) (ht : (restAt s f).take (k - f) = t) :
    Calls Tryd.prog 34 #[.pointer (some ⟨R, 0, none⟩)] w fun e w' => e = .returned (.string (strOf t)) ∧ ∃ n, w' = w.drewN n := by
  obtain ⟨hlt, c0, c1, c2, f0, f1, f2⟩ := h.parts
  have g1 : (f : Int) ≤ (k : Int) := by omega
  have g2 : (k : Int) ≤ (s.size : Int) := by omega
  have g3 : (0 : Int) ≤ (f : Int) := by omega
  have hex := Lib.hid (show s.extract f k = strOf t by rw [ext_take, ht])
  clear ht
  go_enter Tryd.func34, Tryd.ntmps34
  go_wp2
  go_quiet (fail)
  go_wp2
  go_ret
  exact ⟨by rw [← hex.out]; rfl, _, rfl⟩
theorem while_true {p : UInt8 → Bool} {b : UInt8} {r : List UInt8} (h : p b = true) : ((b :: r).takeWhile p).length = (r.takeWhile p).length + 1 := by rw [List.takeWhile_cons, if_pos h, List.length_cons]
theorem while_false {p : UInt8 → Bool} {b : UInt8} {r : List UInt8} (h : p b = false) : ((b :: r).takeWhile p).length = 0 := by rw [List.takeWhile_cons, if_neg (by rw [h]; decide)]; rfl
end Go.Proofs.YtmdlndmibodimaaDoor
