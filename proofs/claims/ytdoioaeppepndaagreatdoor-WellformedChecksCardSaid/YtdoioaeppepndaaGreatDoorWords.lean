/- Words of this seat's proofs: slices that read as lists, small laws on lists and numbers. Nothing here speaks of the program. -/
import Derived.WalkKit
import Derived.WalkLawsBesides
import Derived.WalkSpells
import Derived.Below
import Derived.Lib.Hide
import Derived.Laws.BitsAllLaws
import Derived.Deep.AppendLies
import Derived.Maps.AppendAt
import Derived.Laws.IdiomStrings
namespace Go.Proofs.YtdoioaeppepndaaGreatDoor
open Go.RowKit

/-- The slice value v holds the one-cell values us, in the world w. Nil reads as no values. -/
def Slc (w : World) (v : Value) (us : List Value) : Prop :=
  ∃ (A : Option Addr) (cap : Nat), v = .slice A us.length cap ∧ us.length ≤ maxLen ∧ (A = none → cap = 0) ∧ ∀ (i : Nat) (h : i < us.length), ∃ a, A = some a ∧ a.block < w.heap.size ∧ w.cell? (a.add i) = some us[i]

theorem add_block (a : Addr) (n : Nat) : (a.add n).block = a.block := by unfold Addr.add; split <;> rfl

theorem Slc.nil (w : World) : Slc w (.slice none 0 0) [] := ⟨none, 0, rfl, by simp, fun _ => rfl, fun i h => by simp at h⟩
theorem Slc.empty (w : World) (cap : Nat) (a : Addr) : Slc w (.slice (some a) 0 cap) [] := ⟨some a, cap, rfl, by simp, (fun h => by cases h), fun i h => by simp at h⟩

theorem Slc.len {w : World} {v : Value} {us : List Value} (h : Slc w v us) : us.length ≤ 9223372036854775807 := by
  obtain ⟨_, _, _, h, _⟩ := h; unfold maxLen at h; exact h

theorem Slc.keep {w w' : World} {v : Value} {us : List Value} (h : Slc w v us) (hs : w.heap.size ≤ w'.heap.size) (hk : ∀ p : Addr, p.block < w.heap.size → w'.cell? p = w.cell? p) : Slc w' v us := by
  obtain ⟨A, cap, hv, hl, hz, hc⟩ := h
  refine ⟨A, cap, hv, hl, hz, fun i hi => ?_⟩
  obtain ⟨a, ha, hb, hcell⟩ := hc i hi
  exact ⟨a, ha, by omega, (hk _ (by rw [add_block]; exact hb)).trans hcell⟩

theorem Slc.below {w w' : World} {v : Value} {us : List Value} (h : Slc w v us) (hb : Below w.heap.size w w') : Slc w' v us :=
  h.keep hb.size fun _ hp => hb.cell hp
theorem Slc.alloc {w : World} {v : Value} {us : List Value} (h : Slc w v us) (o : Obj) : Slc (w.alloc o) v us :=
  h.below ((Below.refl _ _).alloc (Nat.le_refl _) o)
theorem Slc.drew {w : World} {v : Value} {us : List Value} (h : Slc w v us) : Slc w.drew v us := h
theorem Slc.drewN {w : World} {v : Value} {us : List Value} (h : Slc w v us) (n : Nat) : Slc (w.drewN n) v us := h

theorem take_snoc {α : Type} (s : List α) (k : Nat) (h : k < s.length) : s.take (k + 1) = s.take k ++ [s[k]] := by
  rw [List.take_succ_eq_append_getElem (by simpa using h)]

/-- The values of a list of numbers. -/
def vals (k : IntKind) (l : List Int) : List Value := l.map (Value.int k)
theorem vals_length (k : IntKind) (l : List Int) : (vals k l).length = l.length := by simp [vals]
theorem vals_get (k : IntKind) (l : List Int) (i : Nat) (h : i < (vals k l).length) : (vals k l)[i] = .int k (l[i]'(by simpa [vals] using h)) := by simp [vals]

/-- What a slice of numbers gives a walk. -/
theorem Slc.ints {w : World} {v : Value} {k : IntKind} {l : List Int} (h : Slc w v (vals k l)) :
    ∃ (A : Option Addr) (cap : Nat), v = .slice A l.length cap ∧ l.length ≤ 9223372036854775807 ∧ ∀ (i : Nat) (h : i < l.length), ∃ a, A = some a ∧ a.block < w.heap.size ∧ w.cell? (a.add i) = some (.int k l[i]) := by
  have hm := h.len
  obtain ⟨A, cap, rfl, _, _, hc⟩ := h
  simp only [vals, List.length_map, List.getElem_map] at hm hc ⊢
  exact ⟨A, cap, rfl, hm, hc⟩

/-- Nil, or a slice with an address, whose cells are known. -/
theorem Slc.split {w : World} {v : Value} {us : List Value} (h : Slc w v us) :
    (v = .slice none 0 0 ∧ us = []) ∨ ∃ (a : Addr) (cap : Nat), v = .slice (some a) us.length cap ∧ us.length ≤ maxLen ∧ ∀ (i : Nat) (u : Value), us[i]? = some u → a.block < w.heap.size ∧ w.cell? (a.add i) = some u := by
  obtain ⟨A, cap, rfl, hl, hz, hc⟩ := h
  cases A with
  | none =>
    have h0 : us = [] := by
      cases us with
      | nil => rfl
      | cons u r => obtain ⟨a, ha, _⟩ := hc 0 (by simp); cases ha
    subst h0
    rw [hz rfl]
    exact .inl ⟨rfl, rfl⟩
  | some a =>
    refine .inr ⟨a, cap, rfl, hl, fun i u hu => ?_⟩
    obtain ⟨hi, rfl⟩ := List.getElem?_eq_some_iff.1 hu
    obtain ⟨a', ha, hb, hcell⟩ := hc i hi
    cases ha
    exact ⟨hb, hcell⟩

/-- What owns the values us reads as us. -/
theorem Slc.of_own {w : World} {base n : Nat} {e : TypeId} {v : Value} {us : List Value} (h : w.ownsRow base e 1 v n us) : Slc w v us := by
  have hl : us.length = n := by have := h.1; omega
  rcases Nat.eq_zero_or_pos n with h0 | h0
  · subst h0
    have : us = [] := List.eq_nil_of_length_eq_zero hl
    subst this
    rcases h.2 with ⟨rfl, _⟩ | ⟨g, cap, cur, rfl, _⟩
    · exact Slc.nil w
    · exact Slc.empty w cap _
  · obtain ⟨g, cap, rfl, _, hg⟩ := h.form h0
    refine ⟨some ⟨g, 0, none⟩, cap, by rw [hl], ?_, (fun h => by cases h), fun i hi => ⟨_, rfl, hg, h.cells rfl i _ (List.getElem?_eq_getElem hi)⟩⟩
    rcases h.2 with ⟨hv, _⟩ | ⟨g', cap', cur, hv, _, _, h1, h2, _⟩
    · cases hv
    · omega

/-- What a function gives that returns a slice of these values in memory of its own. -/
def OutSlc (w : World) (us : List Value) (e : Ending) (w' : World) : Prop := ∃ v, e = .returned v ∧ Slc w' v us ∧ Below w.heap.size w w'

theorem vals_snoc (k : IntKind) (l : List Int) (x : Int) : vals k (l ++ [x]) = vals k l ++ [Value.int k x] := by simp [vals]

/-- What is known of a row of the call's own: the slice in the slot owns these values, and below B all is as it was. -/
def Own1 (B : Nat) (e : TypeId) (w : World) (us : List Value) (v : Value) (wr : World) : Prop := wr.ownsRow B e 1 v us.length us ∧ Below B w wr ∧ B ≤ wr.heap.size
theorem Own1.nil {w : World} (e : TypeId) : Own1 w.heap.size e w [] (.slice none 0 0) w := ⟨World.ownsRow_nil _ _ _ _, Below.refl _ _, Nat.le_refl _⟩
theorem Own1.made {w : World} (e : TypeId) (cur : Array Value) (cap : Nat) (hc : cap ≤ maxLen) (hs : cur.size = cap) : Own1 w.heap.size e w [] (.slice (some ⟨w.heap.size, 0, none⟩) 0 cap) (w.alloc (.cells cur e)) :=
  ⟨World.ownsRow_made w cur cap (Nat.le_refl _) hc (by omega), (Below.refl _ _).alloc (Nat.le_refl _) _, by simp⟩
theorem Own1.slc {B : Nat} {e : TypeId} {w wr : World} {us : List Value} {v : Value} (h : Own1 B e w us v wr) : Slc wr v us := Slc.of_own h.1
/-- Behind an append of one value. -/
theorem Own1.snoc {B : Nat} {e te : TypeId} {w wr w1 : World} {us : List Value} {u v v1 : Value} (h : Own1 B e w us v wr) (h1 : w1.ownsRow B e 1 v1 (us.length + 1) (us ++ [u])) (hg : (wr.alloc (.cells #[u] te)).grownBy w1 v.ownBlock) : Own1 B e w (us ++ [u]) v1 w1 := by
  have hb : Below B w w1 := (h.2.1.alloc h.2.2 _).grown hg (by have := h.2.2; simp; omega) (fun k hk => (h.1.lt k hk).1)
  refine ⟨by rw [List.length_append]; exact h1, hb, Nat.le_trans h.2.2 ?_⟩
  have := hg.size
  simp at this
  omega

/-- The cells of a list of bytes; a string of them. -/
def bvals (l : List UInt8) : List Value := l.map fun b => Value.int .u8 (b.toNat : Int)
theorem bvals_snoc (l : List UInt8) (x : UInt8) : bvals (l ++ [x]) = bvals l ++ [Value.int .u8 (x.toNat : Int)] := by simp [bvals]
theorem bvals_length (l : List UInt8) : (bvals l).length = l.length := by simp [bvals]
def strOf (l : List UInt8) : ByteArray := ⟨l.toArray⟩
theorem bytes_size (s : ByteArray) : s.data.toList.length = s.size := by simp
theorem bytes_take (s : ByteArray) (k : Nat) (h : k < s.size) : s.data.toList.take (k + 1) = s.data.toList.take k ++ [s[k]] := by
  rw [List.take_succ_eq_append_getElem (by simpa using h)]; rfl
theorem conv_bytes {P : Program} {w : World} {src dst e : TypeId} {v : Value} {l : List UInt8} (hs : P.underlying src = some (.slice e)) (he : P.underlying e = some (.int .u8)) (hd : P.underlying dst = some .string)
    (h : Slc w v (bvals l)) (h0 : l ≠ []) : (convert src dst v).run P w = .ok (.string (strOf l)) w := by
  rcases h.split with ⟨_, h1⟩ | ⟨a, cap, rfl, _, hc⟩
  · exact absurd (List.map_eq_nil_iff.1 h1) h0
  · rw [bvals_length]
    exact run_convert_bytes_back w src dst e a cap l hs he hd fun j hj => (hc j _ (by simp [bvals, hj])).2

/-- A block of two cells that the call has made first, and that nothing has written since. -/
theorem cell2 {w wr : World} {a b : Value} {t : TypeId} (h : Below (w.heap.size + 1) (w.alloc (.cells #[a, b] t)) wr) :
    wr.cell? ⟨w.heap.size, 0, none⟩ = some a ∧ wr.cell? ⟨w.heap.size, 1, none⟩ = some b ∧ wr.frozen? ⟨w.heap.size, 0, none⟩ = false ∧ wr.frozen? ⟨w.heap.size, 1, none⟩ = false ∧ w.heap.size < wr.heap.size ∧ Below w.heap.size w wr := by
  have h1 := h.cell (p := ⟨w.heap.size, 0, none⟩) (by simp)
  have h2 := h.cell (p := ⟨w.heap.size, 1, none⟩) (by simp)
  have h3 := h.frozen (p := ⟨w.heap.size, 0, none⟩) (by simp)
  have h4 := h.frozen (p := ⟨w.heap.size, 1, none⟩) (by simp)
  have h5 := h.size
  simp at h5
  refine ⟨h1.trans (by go_simp), h2.trans (by go_simp), h3.trans (by go_simp), h4.trans (by go_simp), by omega, ((Below.refl w.heap.size w).alloc (Nat.le_refl _) _).trans (h.mono (by omega))⟩

/-- What such a block holds when both cells have been written, and another block made. -/
theorem cell2_read {w1 : World} {B : Nat} {a b : Value} (hc0 : w1.cell? ⟨B, 0, none⟩ = some a) (hc1 : w1.cell? ⟨B, 1, none⟩ = some b) (hz : B < w1.heap.size) (x y : Value) (o : Obj) :
    (((w1.setCell ⟨B, 0, none⟩ x).setCell ⟨B, 1, none⟩ y).alloc o).cell? ⟨B, 0, none⟩ = some x ∧ (((w1.setCell ⟨B, 0, none⟩ x).setCell ⟨B, 1, none⟩ y).alloc o).cell? ⟨B, 1, none⟩ = some y := by
  have e0 : (w1.setCell ⟨B, 0, none⟩ x).cell? ⟨B, 0, none⟩ = some x := World.cell?_setCell_same' _ _ _ (by rw [hc0]; rfl)
  have e1 : (w1.setCell ⟨B, 0, none⟩ x).cell? ⟨B, 1, none⟩ = some b := (World.cell?_setCell_other _ _ _ _ (by simp)).trans hc1
  have f0 : ((w1.setCell ⟨B, 0, none⟩ x).setCell ⟨B, 1, none⟩ y).cell? ⟨B, 0, none⟩ = some x := (World.cell?_setCell_other _ _ _ _ (by simp)).trans e0
  have f1 : ((w1.setCell ⟨B, 0, none⟩ x).setCell ⟨B, 1, none⟩ y).cell? ⟨B, 1, none⟩ = some y := World.cell?_setCell_same' _ _ _ (by rw [e1]; rfl)
  exact ⟨(World.cell?_alloc_lt _ _ _ (by simpa [World.setCell] using hz)).trans f0, (World.cell?_alloc_lt _ _ _ (by simpa [World.setCell] using hz)).trans f1⟩

theorem Slc.lit (w : World) (us : List Value) (t : TypeId) (n : Nat) (hn : us.length = n) (hm : n ≤ 1000000) : Slc (w.alloc (.cells us.toArray t)) (.slice (some ⟨w.heap.size, 0, none⟩) n n) us := by
  subst hn
  refine ⟨some ⟨w.heap.size, 0, none⟩, us.length, rfl, by unfold maxLen; omega, (fun h => by cases h), fun i hi => ⟨_, rfl, by simp, ?_⟩⟩
  have hg : (w.alloc (.cells us.toArray t)).heap[w.heap.size]? = some (.cells us.toArray t (0, 0)) := by
    show (w.heap.push _)[w.heap.size]? = some _
    simp
  have e : (⟨w.heap.size, 0, none⟩ : Addr).add i = ⟨w.heap.size, i, none⟩ := by unfold Addr.add; split <;> simp_all
  rw [e, cell_of_row _ _ i us.toArray t (0, 0) hg]
  simp [hi]

theorem ret_of {a b : Value} (h : a = b) : Ending.returned a = Ending.returned b := by rw [h]
theorem ret_int {k : IntKind} {a b : Int} (h : a = b) : Ending.returned (.int k a) = .returned (.int k b) := by rw [h]
theorem ret_bool {a b : Bool} (h : a = b) : Ending.returned (.bool a) = .returned (.bool b) := by rw [h]
end Go.Proofs.YtdoioaeppepndaaGreatDoor
