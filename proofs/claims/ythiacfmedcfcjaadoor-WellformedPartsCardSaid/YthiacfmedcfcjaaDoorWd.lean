/- Words of this seat's proofs: slices, blocks, rows, appends. -/
import Derived.WalkKit
import Derived.WalkLawsBesides
import Derived.WalkSpells
import Derived.Below
import Derived.Lib.Hide
import Derived.Laws.BitsAllLaws
import Derived.Deep.AppendLies
import Derived.Maps.AppendAt
import Derived.Laws.IdiomStrings
import Derived.WalkSmall
import Derived.Handy
import Derived.Deep.QuietTactic
import Derived.RangeFuncCalls
import Derived.Laws.AppendOwnNone
import Derived.Laws.OwnMore
namespace Go.Proofs.YthiacfmedcfcjaaDoor
open Go.RowKit

/-- The slice value v holds the one-cell values us, in the world w. Nil reads as no values. -/
def Slc (w : World) (v : Value) (us : List Value) : Prop :=
  ∃ (A : Option Addr) (cap : Nat), v = .slice A us.length cap ∧ us.length ≤ maxLen ∧ (A = none → cap = 0) ∧ ∀ (i : Nat) (h : i < us.length), ∃ a, A = some a ∧ a.block < w.heap.size ∧ w.cell? (a.add i) = some us[i]

theorem add_block (a : Addr) (n : Nat) : (a.add n).block = a.block := by unfold Addr.add; split <;> rfl

theorem Slc.nil (w : World) : Slc w (.slice none 0 0) [] := ⟨none, 0, rfl, by simp, fun _ => rfl, fun i h => by simp at h⟩
theorem Slc.empty (w : World) (cap : Nat) (a : Addr) : Slc w (.slice (some a) 0 cap) [] := ⟨some a, cap, rfl, by simp, (fun h => by cases h), fun i h => by simp at h⟩

theorem Slc.len {w : World} {v : Value} {us : List Value} (h : Slc w v us) : us.length ≤ 9223372036854775807 := by
  obtain ⟨_, _, _, h, _⟩ := h; unfold maxLen at h; exact h

theorem Slc.keep {w w' : World} {v : Value} {us : List Value} (h : Slc w v us) (hs : w.heap.size ≤ w'.heap.size) (hk : ∀ p : Addr, p.block < w.heap.size → w'.cell? p = w.cell? p) : Slc w' v us := by
  obtain ⟨A, cap, hv, hl, hz, hc⟩ := h
  refine ⟨A, cap, hv, hl, hz, fun i hi => ?_⟩
  obtain ⟨a, ha, hb, hcell⟩ := hc i hi
  exact ⟨a, ha, by omega, (hk _ (by rw [add_block]; exact hb)).trans hcell⟩

theorem Slc.below {w w' : World} {v : Value} {us : List Value} (h : Slc w v us) (hb : Below w.heap.size w w') : Slc w' v us :=
  h.keep hb.size fun _ hp => hb.cell hp
theorem Slc.alloc {w : World} {v : Value} {us : List Value} (h : Slc w v us) (o : Obj) : Slc (w.alloc o) v us :=
  h.below ((Below.refl _ _).alloc (Nat.le_refl _) o)
theorem Slc.drew {w : World} {v : Value} {us : List Value} (h : Slc w v us) : Slc w.drew v us := h
theorem Slc.drewN {w : World} {v : Value} {us : List Value} (h : Slc w v us) (n : Nat) : Slc (w.drewN n) v us := h

theorem take_snoc {α : Type} (s : List α) (k : Nat) (h : k < s.length) : s.take (k + 1) = s.take k ++ [s[k]] := by
  rw [List.take_succ_eq_append_getElem (by simpa using h)]

/-- The values of a list of numbers. -/
def vals (k : IntKind) (l : List Int) : List Value := l.map (Value.int k)
theorem vals_length (k : IntKind) (l : List Int) : (vals k l).length = l.length := by simp [vals]
theorem vals_get (k : IntKind) (l : List Int) (i : Nat) (h : i < (vals k l).length) : (vals k l)[i] = .int k (l[i]'(by simpa [vals] using h)) := by simp [vals]

/-- What a slice of numbers gives a walk. -/
theorem Slc.ints {w : World} {v : Value} {k : IntKind} {l : List Int} (h : Slc w v (vals k l)) :
    ∃ (A : Option Addr) (cap : Nat), v = .slice A l.length cap ∧ l.length ≤ 9223372036854775807 ∧ ∀ (i : Nat) (h : i < l.length), ∃ a, A = some a ∧ a.block < w.heap.size ∧ w.cell? (a.add i) = some (.int k l[i]) := by
  have hm := h.len
  obtain ⟨A, cap, rfl, _, _, hc⟩ := h
  simp only [vals, List.length_map, List.getElem_map] at hm hc ⊢
  exact ⟨A, cap, rfl, hm, hc⟩

/-- Nil, or a slice with an address, whose cells are known. -/
theorem Slc.split {w : World} {v : Value} {us : List Value} (h : Slc w v us) :
    (v = .slice none 0 0 ∧ us = []) ∨ ∃ (a : Addr) (cap : Nat), v = .slice (some a) us.length cap ∧ us.length ≤ maxLen ∧ ∀ (i : Nat) (u : Value), us[i]? = some u → a.block < w.heap.size ∧ w.cell? (a.add i) = some u := by
  obtain ⟨A, cap, rfl, hl, hz, hc⟩ := h
  cases A with
  | none =>
    have h0 : us = [] := by
      cases us with
      | nil => rfl
      | cons u r => obtain ⟨a, ha, _⟩ := hc 0 (by simp); cases ha
    subst h0
    rw [hz rfl]
    exact .inl ⟨rfl, rfl⟩
  | some a =>
    refine .inr ⟨a, cap, rfl, hl, fun i u hu => ?_⟩
    obtain ⟨hi, rfl⟩ := List.getElem?_eq_some_iff.1 hu
    obtain ⟨a', ha, hb, hcell⟩ := hc i hi
    cases ha
    exact ⟨hb, hcell⟩

/-- What owns the values us reads as us. -/
theorem Slc.of_own {w : World} {base n : Nat} {e : TypeId} {v : Value} {us : List Value} (h : w.ownsRow base e 1 v n us) : Slc w v us := by
  have hl : us.length = n := by have := h.1; omega
  rcases Nat.eq_zero_or_pos n with h0 | h0
  · subst h0
    have : us = [] := List.eq_nil_of_length_eq_zero hl
    subst this
    rcases h.2 with ⟨rfl, _⟩ | ⟨g, cap, cur, rfl, _⟩
    · exact Slc.nil w
    · exact Slc.empty w cap _
  · obtain ⟨g, cap, rfl, _, hg⟩ := h.form h0
    refine ⟨some ⟨g, 0, none⟩, cap, by rw [hl], ?_, (fun h => by cases h), fun i hi => ⟨_, rfl, hg, h.cells rfl i _ (List.getElem?_eq_getElem hi)⟩⟩
    rcases h.2 with ⟨hv, _⟩ | ⟨g', cap', cur, hv, _, _, h1, h2, _⟩
    · cases hv
    · omega

/-- What a function gives that returns a slice of these values in memory of its own. -/
def OutSlc (w : World) (us : List Value) (e : Ending) (w' : World) : Prop := ∃ v, e = .returned v ∧ Slc w' v us ∧ Below w.heap.size w w'

theorem vals_snoc (k : IntKind) (l : List Int) (x : Int) : vals k (l ++ [x]) = vals k l ++ [Value.int k x] := by simp [vals]

/-- What is known of a row of the call's own: the slice in the slot owns these values, and below B all is as it was. -/
def Own1 (B : Nat) (e : TypeId) (w : World) (us : List Value) (v : Value) (wr : World) : Prop := wr.ownsRow B e 1 v us.length us ∧ Below B w wr ∧ B ≤ wr.heap.size
theorem Own1.nil {w : World} (e : TypeId) : Own1 w.heap.size e w [] (.slice none 0 0) w := ⟨World.ownsRow_nil _ _ _ _, Below.refl _ _, Nat.le_refl _⟩
theorem Own1.made {w : World} (e : TypeId) (cur : Array Value) (cap : Nat) (hc : cap ≤ maxLen) (hs : cur.size = cap) : Own1 w.heap.size e w [] (.slice (some ⟨w.heap.size, 0, none⟩) 0 cap) (w.alloc (.cells cur e)) :=
  ⟨World.ownsRow_made w cur cap (Nat.le_refl _) hc (by omega), (Below.refl _ _).alloc (Nat.le_refl _) _, by simp⟩
theorem Own1.slc {B : Nat} {e : TypeId} {w wr : World} {us : List Value} {v : Value} (h : Own1 B e w us v wr) : Slc wr v us := Slc.of_own h.1
/-- Behind an append of one value. -/
theorem Own1.snoc {B : Nat} {e te : TypeId} {w wr w1 : World} {us : List Value} {u v v1 : Value} (h : Own1 B e w us v wr) (h1 : w1.ownsRow B e 1 v1 (us.length + 1) (us ++ [u])) (hg : (wr.alloc (.cells #[u] te)).grownBy w1 v.ownBlock) : Own1 B e w (us ++ [u]) v1 w1 := by
  have hb : Below B w w1 := (h.2.1.alloc h.2.2 _).grown hg (by have := h.2.2; simp; omega) (fun k hk => (h.1.lt k hk).1)
  refine ⟨by rw [List.length_append]; exact h1, hb, Nat.le_trans h.2.2 ?_⟩
  have := hg.size
  simp at this
  omega

/-- The cells of a list of bytes; a string of them. -/
def bvals (l : List UInt8) : List Value := l.map fun b => Value.int .u8 (b.toNat : Int)
theorem bvals_snoc (l : List UInt8) (x : UInt8) : bvals (l ++ [x]) = bvals l ++ [Value.int .u8 (x.toNat : Int)] := by simp [bvals]
theorem bvals_length (l : List UInt8) : (bvals l).length = l.length := by simp [bvals]
def strOf (l : List UInt8) : ByteArray := ⟨l.toArray⟩
theorem bytes_size (s : ByteArray) : s.data.toList.length = s.size := by simp
theorem bytes_take (s : ByteArray) (k : Nat) (h : k < s.size) : s.data.toList.take (k + 1) = s.data.toList.take k ++ [s[k]] := by
  rw [List.take_succ_eq_append_getElem (by simpa using h)]; rfl
theorem conv_bytes {P : Program} {w : World} {src dst e : TypeId} {v : Value} {l : List UInt8} (hs : P.underlying src = some (.slice e)) (he : P.underlying e = some (.int .u8)) (hd : P.underlying dst = some .string)
    (h : Slc w v (bvals l)) (h0 : l ≠ []) : (convert src dst v).run P w = .ok (.string (strOf l)) w := by
  rcases h.split with ⟨_, h1⟩ | ⟨a, cap, rfl, _, hc⟩
  · exact absurd (List.map_eq_nil_iff.1 h1) h0
  · rw [bvals_length]
    exact run_convert_bytes_back w src dst e a cap l hs he hd fun j hj => (hc j _ (by simp [bvals, hj])).2

/-- A block of two cells that the call has made first, and that nothing has written since. -/
theorem cell2 {w wr : World} {a b : Value} {t : TypeId} (h : Below (w.heap.size + 1) (w.alloc (.cells #[a, b] t)) wr) :
    wr.cell? ⟨w.heap.size, 0, none⟩ = some a ∧ wr.cell? ⟨w.heap.size, 1, none⟩ = some b ∧ wr.frozen? ⟨w.heap.size, 0, none⟩ = false ∧ wr.frozen? ⟨w.heap.size, 1, none⟩ = false ∧ w.heap.size < wr.heap.size ∧ Below w.heap.size w wr := by
  have h1 := h.cell (p := ⟨w.heap.size, 0, none⟩) (by simp)
  have h2 := h.cell (p := ⟨w.heap.size, 1, none⟩) (by simp)
  have h3 := h.frozen (p := ⟨w.heap.size, 0, none⟩) (by simp)
  have h4 := h.frozen (p := ⟨w.heap.size, 1, none⟩) (by simp)
  have h5 := h.size
  simp at h5
  refine ⟨h1.trans (by go_simp), h2.trans (by go_simp), h3.trans (by go_simp), h4.trans (by go_simp), by omega, ((Below.refl w.heap.size w).alloc (Nat.le_refl _) _).trans (h.mono (by omega))⟩

/-- What such a block holds when both cells have been written, and another block made. -/
theorem cell2_read {w1 : World} {B : Nat} {a b : Value} (hc0 : w1.cell? ⟨B, 0, none⟩ = some a) (hc1 : w1.cell? ⟨B, 1, none⟩ = some b) (hz : B < w1.heap.size) (x y : Value) (o : Obj) :
    (((w1.setCell ⟨B, 0, none⟩ x).setCell ⟨B, 1, none⟩ y).alloc o).cell? ⟨B, 0, none⟩ = some x ∧ (((w1.setCell ⟨B, 0, none⟩ x).setCell ⟨B, 1, none⟩ y).alloc o).cell? ⟨B, 1, none⟩ = some y := by
  have e0 : (w1.setCell ⟨B, 0, none⟩ x).cell? ⟨B, 0, none⟩ = some x := World.cell?_setCell_same' _ _ _ (by rw [hc0]; rfl)
  have e1 : (w1.setCell ⟨B, 0, none⟩ x).cell? ⟨B, 1, none⟩ = some b := (World.cell?_setCell_other _ _ _ _ (by simp)).trans hc1
  have f0 : ((w1.setCell ⟨B, 0, none⟩ x).setCell ⟨B, 1, none⟩ y).cell? ⟨B, 0, none⟩ = some x := (World.cell?_setCell_other _ _ _ _ (by simp)).trans e0
  have f1 : ((w1.setCell ⟨B, 0, none⟩ x).setCell ⟨B, 1, none⟩ y).cell? ⟨B, 1, none⟩ = some y := World.cell?_setCell_same' _ _ _ (by rw [e1]; rfl)
  exact ⟨(World.cell?_alloc_lt _ _ _ (by simpa [World.setCell] using hz)).trans f0, (World.cell?_alloc_lt _ _ _ (by simpa [World.setCell] using hz)).trans f1⟩

theorem Slc.lit (w : World) (us : List Value) (t : TypeId) (n : Nat) (hn : us.length = n) (hm : n ≤ 1000000) : Slc (w.alloc (.cells us.toArray t)) (.slice (some ⟨w.heap.size, 0, none⟩) n n) us := by
  subst hn
  refine ⟨some ⟨w.heap.size, 0, none⟩, us.length, rfl, by unfold maxLen; omega, (fun h => by cases h), fun i hi => ⟨_, rfl, by simp, ?_⟩⟩
  have hg : (w.alloc (.cells us.toArray t)).heap[w.heap.size]? = some (.cells us.toArray t (0, 0)) := by
    show (w.heap.push _)[w.heap.size]? = some _
    simp
  have e : (⟨w.heap.size, 0, none⟩ : Addr).add i = ⟨w.heap.size, i, none⟩ := by unfold Addr.add; split <;> simp_all
  rw [e, cell_of_row _ _ i us.toArray t (0, 0) hg]
  simp [hi]

theorem ret_of {a b : Value} (h : a = b) : Ending.returned a = Ending.returned b := by rw [h]
theorem ret_int {k : IntKind} {a b : Int} (h : a = b) : Ending.returned (.int k a) = .returned (.int k b) := by rw [h]
theorem ret_bool {a b : Bool} (h : a = b) : Ending.returned (.bool a) = .returned (.bool b) := by rw [h]
end Go.Proofs.YthiacfmedcfcjaaDoor
namespace Go.Proofs.YthiacfmedcfcjaaDoor
open Go.RowKit

theorem named {P : Program} {f : FuncId} {args : Array Value} {w : World} {Q : Ending → World → Prop} (h : ∀ W, W = w → Calls P f args W Q) : Calls P f args w Q := h w rfl
theorem named_post {P : Program} {f : Func} {Q : Ending → World → Prop} {x : Exit} {a : Act} {w : World} (h : ∀ W, W = w → bodyPost P f Q x a W) : bodyPost P f Q x a w := h w rfl
theorem named_wp {P : Program} {c : Code} {Q : Exit → Act → World → Prop} {a : Act} {w : World} (h : ∀ W, W = w → c.wp P Q a W) : c.wp P Q a w := h w rfl
theorem quiet_same {P : Program} {f : FuncId} {args : Array Value} {w : World} {n : Nat} {v : Value}
    (h : Calls P f args (w.drewN n) fun e w' => e = .returned v ∧ w.drewN n = w') : Calls P f args (w.drewN n) fun e w'' => e = .returned v ∧ ∃ m, w'' = w.drewN m :=
  h.mono fun _ _ ⟨he, hm⟩ => ⟨he, n, hm.symm⟩

/-- The block b holds these values, and may be written. -/
structure Blk (w : World) (b : Nat) (us : List Value) : Prop where
  lt : b < w.heap.size
  cell : ∀ (i : Nat) (v : Value), us[i]? = some v → w.cell? ⟨b, i, none⟩ = some v
  fr : ∀ (i : Nat) (v : Value), us[i]? = some v → w.frozen? ⟨b, i, none⟩ = false
theorem Blk.below {w w' : World} {b : Nat} {us : List Value} (h : Blk w b us) (hb : Below (b + 1) w w') : Blk w' b us :=
  ⟨Nat.lt_of_lt_of_le h.lt hb.size, fun i v hv => (hb.cell (p := ⟨b, i, none⟩) (Nat.lt_succ_self b)).trans (h.cell i v hv), fun i v hv => (hb.frozen (p := ⟨b, i, none⟩) (Nat.lt_succ_self b)).trans (h.fr i v hv)⟩
theorem Blk.later {w w' : World} {b : Nat} {us : List Value} (h : Blk w b us) (hb : Below w.heap.size w w') : Blk w' b us := h.below (hb.mono h.lt)
/-- .. behind something that left alone what lies below B. -/
theorem Blk.under {w w' : World} {b B : Nat} {us : List Value} (h : Blk w b us) (hb : Below B w w') (hB : b < B) : Blk w' b us := h.below (hb.mono hB)
theorem Blk.alloc {w : World} {b : Nat} {us : List Value} (h : Blk w b us) (o : Obj) : Blk (w.alloc o) b us := h.later ((Below.refl _ _).alloc (Nat.le_refl _) o)
theorem Blk.drewN {w : World} {b : Nat} {us : List Value} (h : Blk w b us) (n : Nat) : Blk (w.drewN n) b us := h.later (below_drewN (Below.refl _ _) n)
theorem Blk.drew {w : World} {b : Nat} {us : List Value} (h : Blk w b us) : Blk w.drew b us := h.later (Below.refl _ _).drew
theorem Blk.new (w : World) (us : List Value) (t : TypeId) : Blk (w.alloc (.cells us.toArray t)) w.heap.size us := by
  have hg : (w.alloc (.cells us.toArray t)).heap[w.heap.size]? = some (.cells us.toArray t (0, 0)) := by
    show (w.heap.push _)[w.heap.size]? = some _
    simp
  refine ⟨by simp, fun i v hv => ?_, fun i v hv => ?_⟩
  · rw [cell_of_row _ _ i us.toArray t (0, 0) hg]; simpa using hv
  · go_simp
theorem Blk.is {w : World} {us : List Value} {b : Nat} (t : TypeId) (hb : b = w.heap.size) : Blk (w.alloc (.cells us.toArray t)) b us := hb ▸ Blk.new w us t
theorem Blk.set {w : World} {b : Nat} {us : List Value} (h : Blk w b us) (i : Nat) (u : Value) : Blk (w.setCell ⟨b, i, none⟩ u) b (us.set i u) := by
  have hs : ∀ j v, (us.set i u)[j]? = some v → ∃ v', us[j]? = some v' := fun j v hv => by
    rw [List.getElem?_set] at hv
    split at hv
    · split at hv
      · rename_i h1 h2; subst h1; exact ⟨_, List.getElem?_eq_getElem h2⟩
      · cases hv
    · exact ⟨v, hv⟩
  refine ⟨by simpa [World.setCell] using h.lt, fun j v hv => ?_, fun j v hv => ?_⟩
  · rw [List.getElem?_set] at hv
    split at hv
    · rename_i h1
      subst h1
      split at hv
      · rename_i h2
        cases hv
        exact World.cell?_setCell_same' _ _ _ (by rw [h.cell i _ (List.getElem?_eq_getElem h2)]; rfl)
      · cases hv
    · rename_i h1
      exact (World.cell?_setCell_other _ _ _ _ (fun e => h1 (by cases e; rfl))).trans (h.cell j v hv)
  · obtain ⟨v', hv'⟩ := hs j v hv
    have := h.fr j v' hv'
    simpa using this
theorem Blk.other {w : World} {b : Nat} {us : List Value} (h : Blk w b us) {p : Addr} (hp : p.block ≠ b) (u : Value) : Blk (w.setCell p u) b us := by
  have hh : (w.setCell p u).heap[b]? = w.heap[b]? := Below.heap_setCell _ _ _ _ (fun e => hp e.symm)
  refine ⟨by simpa [World.setCell] using h.lt, fun i v hv => ?_, fun i v hv => ?_⟩
  · exact (World.cell?_of_block (w := w) (a := ⟨b, i, none⟩) hh).trans (h.cell i v hv)
  · exact (World.frozen?_of_block (w := w) (a := ⟨b, i, none⟩) hh).trans (h.fr i v hv)
/-- The slice v, at a plain address, holds these values. -/
def Sln (w : World) (v : Value) (us : List Value) : Prop :=
  ∃ (b o cap : Nat), v = .slice (some ⟨b, o, none⟩) us.length cap ∧ us.length ≤ cap ∧ us.length ≤ maxLen ∧ b < w.heap.size ∧ ∀ (i : Nat) (u : Value), us[i]? = some u → w.cell? ⟨b, o + i, none⟩ = some u
theorem Sln.later {w w' : World} {v : Value} {us : List Value} (h : Sln w v us) (hb : Below w.heap.size w w') : Sln w' v us := by
  obtain ⟨b, o, cap, h1, h2, h3, h4, h5⟩ := h
  exact ⟨b, o, cap, h1, h2, h3, Nat.lt_of_lt_of_le h4 hb.size, fun i u hu => (hb.cell (p := ⟨b, o + i, none⟩) h4).trans (h5 i u hu)⟩
theorem Sln.blk {w : World} {b : Nat} {us : List Value} (h : Blk w b us) (hm : us.length ≤ 1000000) : Sln w (.slice (some ⟨b, 0, none⟩) us.length us.length) us :=
  ⟨b, 0, us.length, rfl, Nat.le_refl _, by unfold maxLen; omega, h.lt, fun i u hu => by rw [Nat.zero_add]; exact h.cell i u hu⟩
/-- Nothing has turned but the block b. -/
structure Only (b : Nat) (w w' : World) : Prop where
  os : w'.os = w.os
  tape : w'.tape = w.tape
  output : w'.output = w.output
  size : w'.heap.size = w.heap.size
  block : ∀ k, k ≠ b → w'.heap[k]? = w.heap[k]?
theorem Only.refl (b : Nat) (w : World) : Only b w w := ⟨rfl, rfl, rfl, rfl, fun _ _ => rfl⟩
theorem Only.trans {b : Nat} {w w1 w2 : World} (h : Only b w w1) (k : Only b w1 w2) : Only b w w2 :=
  ⟨k.os.trans h.os, k.tape.trans h.tape, k.output.trans h.output, k.size.trans h.size, fun i hi => (k.block i hi).trans (h.block i hi)⟩
theorem Only.drewN {b : Nat} {w w1 : World} (h : Only b w w1) (n : Nat) : Only b w (w1.drewN n) := h.trans ⟨rfl, rfl, rfl, rfl, fun _ _ => rfl⟩
theorem Only.setCell {b : Nat} {w w1 : World} (h : Only b w w1) (i : Nat) (u : Value) : Only b w (w1.setCell ⟨b, i, none⟩ u) :=
  h.trans ⟨rfl, rfl, rfl, by simp [World.setCell], fun k hk => Below.heap_setCell _ _ _ _ hk⟩
theorem Only.below {b : Nat} {w w1 : World} (h : Only b w w1) : Below b w w1 := ⟨h.os, h.tape, h.output, Nat.le_of_eq h.size.symm, fun k hk => h.block k (Nat.ne_of_lt hk)⟩
theorem Only.cell {b : Nat} {w w1 : World} (h : Only b w w1) {p : Addr} (hp : p.block ≠ b) : w1.cell? p = w.cell? p := World.cell?_of_block (w := w) (h.block p.block hp)
theorem str_ne {a b : ByteArray} (h : a ≠ b) : (a.toList == b.toList) = false := by
  rw [ByteArray.toList_eq, ByteArray.toList_eq, beq_eq_false_iff_ne]
  exact fun e => h (by cases a; cases b; congr; exact Array.toList_inj.1 e)
theorem bstep {w a b : World} (h : Below w.heap.size w a) (k : Below a.heap.size a b) : Below w.heap.size w b := h.trans (k.mono h.size)
end Go.Proofs.YthiacfmedcfcjaaDoor
namespace Go.Proofs.YthiacfmedcfcjaaDoor
open Go.RowKit

theorem flat_get {α : Type} {f : α → List Value} {n : Nat} (hf : ∀ x, (f x).length = n) : ∀ (l : List α) (k : Nat) (h : k < l.length) (j : Nat), j < n → (l.flatMap f)[k * n + j]? = (f l[k])[j]? := by
  intro l
  induction l with
  | nil => intro k h; simp at h
  | cons x xs ih =>
    intro k h j hj
    rw [List.flatMap_cons]
    cases k with
    | zero =>
      rw [Nat.zero_mul, Nat.zero_add, List.getElem?_append_left (by rw [hf]; exact hj)]
      rfl
    | succ k =>
      rw [List.getElem?_append_right (by rw [hf, Nat.succ_mul]; omega), hf, List.getElem_cons_succ, ← ih k (by simpa using h) j hj]
      congr 1
      rw [Nat.succ_mul]
      omega
/-- The slice v of n elements of sz cells each holds the cells us. -/
def Sl (w : World) (sz n : Nat) (v : Value) (us : List Value) : Prop :=
  us.length = n * sz ∧ n ≤ maxLen ∧ ∃ (A : Option Addr) (cap : Nat), v = .slice A n cap ∧ n ≤ cap ∧ (A = none → cap = 0) ∧ ∀ (i : Nat) (u : Value), us[i]? = some u → ∃ a, A = some a ∧ a.block < w.heap.size ∧ w.cell? (a.add i) = some u
theorem Sl.later {w w' : World} {sz n : Nat} {v : Value} {us : List Value} (h : Sl w sz n v us) (hb : Below w.heap.size w w') : Sl w' sz n v us := by
  obtain ⟨h1, h2, A, cap, h3, h4, h5, h6⟩ := h
  refine ⟨h1, h2, A, cap, h3, h4, h5, fun i u hu => ?_⟩
  obtain ⟨a, ha, hlt, hc⟩ := h6 i u hu
  exact ⟨a, ha, Nat.lt_of_lt_of_le hlt hb.size, (hb.cell (p := a.add i) (by rw [add_block]; exact hlt)).trans hc⟩
theorem Sl.nil (w : World) (sz : Nat) : Sl w sz 0 (.slice none 0 0) [] := ⟨by simp, by unfold maxLen; omega, none, 0, rfl, Nat.le_refl _, fun _ => rfl, fun i u h => by simp at h⟩
theorem Sl.of_own {w : World} {base sz n : Nat} {e : TypeId} {v : Value} {us : List Value} (h : w.ownsRow base e sz v n us) : Sl w sz n v us := by
  have hl := h.1
  have hlt := h.lt
  have hcell := fun g => h.cells (g := g)
  rcases h.2 with ⟨rfl, rfl⟩ | ⟨g, cap, cur, rfl, _, _, h1, h2, _⟩
  · obtain rfl : us = [] := List.eq_nil_of_length_eq_zero (by simpa using hl)
    exact Sl.nil w sz
  · refine ⟨hl, Nat.le_trans h1 h2, some ⟨g, 0, none⟩, cap, rfl, h1, (fun h => by cases h), fun i u hu => ⟨_, rfl, (hlt g rfl).2, hcell g rfl i u hu⟩⟩
theorem blk_cells {w : World} {b : Nat} {us : List Value} (h : Blk w b us) : ∀ (j : Nat) (u : Value), us[j]? = some u → w.cell? ((⟨b, 0, none⟩ : Addr).add j) = some u := fun j u hu => by
  have e : (⟨b, 0, none⟩ : Addr).add j = ⟨b, j, none⟩ := by unfold Addr.add; split <;> simp_all
  rw [e]
  exact h.cell j u hu
/-- A slice literal: a block of the call's own. -/
theorem Sl.lit {w : World} {b : Nat} {us : List Value} (h : Blk w b us) (sz n : Nat) (hl : us.length = n * sz) (hm : n ≤ 1000000) : Sl w sz n (.slice (some ⟨b, 0, none⟩) n n) us :=
  ⟨hl, by unfold maxLen; omega, some ⟨b, 0, none⟩, n, rfl, Nat.le_refl _, (fun h => by cases h), fun i u hu => ⟨_, rfl, h.lt, blk_cells h i u hu⟩⟩
theorem own_mono {w : World} {base base' sz n : Nat} {e : TypeId} {v : Value} {xs : List Value} (h : w.ownsRow base e sz v n xs) (hb : base' ≤ base) : w.ownsRow base' e sz v n xs := by
  refine ⟨h.1, ?_⟩
  rcases h.2 with ⟨h1, h2⟩ | ⟨g, cap, cur, h1, h2, h3⟩
  · exact .inl ⟨h1, h2⟩
  · exact .inr ⟨g, cap, cur, h1, Nat.le_trans hb h2, h3⟩
theorem own_form {w : World} {base sz n : Nat} {e : TypeId} {v : Value} {xs : List Value} (h : w.ownsRow base e sz v n xs) : ∃ A c, v = .slice A n c := by
  rcases h.2 with ⟨h1, h2⟩ | ⟨g, cap, cur, h1, h2, h3⟩
  · exact ⟨none, 0, by rw [h1, h2]⟩
  · exact ⟨_, cap, h1⟩
theorem grown_setb (w : World) (b i : Nat) (u : Value) : w.grownBy (w.setCell ⟨b, i, none⟩ u) (some b) :=
  ⟨rfl, rfl, rfl, by simp [World.setCell], fun k _ hne => Below.heap_setCell _ _ _ _ (fun e => hne (by rw [e]))⟩
theorem own_set {w : World} {base sz n : Nat} {e : TypeId} {v : Value} {us : List Value} (h : w.ownsRow base e sz v n us) {b : Nat} (hb : b < base) (i : Nat) (u : Value) : (w.setCell ⟨b, i, none⟩ u).ownsRow base e sz v n us :=
  h.kept (grown_setb w b i u) (.inr fun e => by have := (h.lt _ e).1; omega)
theorem grown_below (w w' : World) (h : Below w.heap.size w w') : w.grownBy w' none := ⟨h.os, h.tape, h.output, h.size, fun k hk _ => h.block k hk⟩
theorem own_later {w w' : World} {base sz n : Nat} {e : TypeId} {v : Value} {us : List Value} (h : w.ownsRow base e sz v n us) (hb : Below w.heap.size w w') : w'.ownsRow base e sz v n us := by
  refine h.kept (grown_below _ _ hb) ?_
  rcases h.2 with ⟨rfl, _⟩ | ⟨g, cap, cur, rfl, _⟩
  · exact .inl rfl
  · exact .inr (by intro e; cases e)
theorem Blk.grown {w w' : World} {b : Nat} {us : List Value} {row : Option Nat} (h : Blk w b us) (hg : w.grownBy w' row) (hne : some b ≠ row) : Blk w' b us :=
  ⟨Nat.lt_of_lt_of_le h.lt hg.size, fun i v hv => (hg.cell_far ⟨b, i, none⟩ h.lt hne).trans (h.cell i v hv), fun i v hv => (hg.frozen_far ⟨b, i, none⟩ h.lt hne).trans (h.fr i v hv)⟩
/-- A row of the call's own is kept where what turns is no cells, or lies below it. -/
theorem own_far {W W' : World} {base sz n : Nat} {e : TypeId} {v : Value} {xs : List Value} {row : Option Nat} (h : W.ownsRow base e sz v n xs) (hg : W.grownBy W' row) (hr : ∀ j, row = some j → j < base ∨ ∃ o : Obj, W.heap[j]? = some o ∧ o.isCells = false) : W'.ownsRow base e sz v n xs := by
  refine h.kept hg ?_
  rcases h.2 with ⟨rfl, _⟩ | ⟨g, cap, cur, rfl, hb, hh, _⟩
  · exact .inl rfl
  · refine .inr fun e => ?_
    rcases hr g (by rw [← e]; rfl) with h1 | ⟨o, ho, hc⟩
    · omega
    · rw [hh] at ho; cases ho; cases hc
theorem own_cells {W : World} {base sz n : Nat} {e : TypeId} {v : Value} {xs : List Value} (h : W.ownsRow base e sz v n xs) : ∀ (j : Nat) (o : Obj), v.ownBlock = some j → W.heap[j]? = some o → o.isCells = true := by
  intro j o hj ho
  rcases h.2 with ⟨rfl, _⟩ | ⟨g, cap, cur, rfl, hb, hh, _⟩
  · cases hj
  · have : g = j := by simpa [Value.ownBlock] using hj
    subst this
    rw [hh] at ho
    cases ho
    rfl
theorem cells_of_cell {W : World} {b i : Nat} {v : Value} (h : W.cell? ⟨b, i, none⟩ = some v) : ∃ o : Obj, W.heap[b]? = some o ∧ o.isCells = true := by
  cases hh : W.heap[b]? with
  | none => simp [World.cell?, hh] at h
  | some o =>
    refine ⟨o, rfl, ?_⟩
    cases o <;> simp_all [World.cell?, Obj.isCells]
theorem blk_noncells {W W' : World} {b : Nat} {us : List Value} {row : Option Nat} (hne : us ≠ []) (h : Blk W b us) (hg : W.grownBy W' row) (hr : ∀ j, row = some j → ∃ o : Obj, W.heap[j]? = some o ∧ o.isCells = false) : Blk W' b us := by
  refine h.grown hg fun e => ?_
  obtain ⟨o, ho, hc⟩ := hr b e.symm
  cases us with
  | nil => exact hne rfl
  | cons u us =>
    obtain ⟨o', ho', hc'⟩ := cells_of_cell (h.cell 0 u rfl)
    rw [ho] at ho'
    cases ho'
    rw [hc] at hc'
    cases hc'
theorem blk_put {W : World} {b D : Nat} {us : List Value} {o o' : Obj} (hne : us ≠ []) (h : Blk W b us) (hK : W.heap[D]? = some o) (ho : o.isCells = false) : Blk (W.putObj D o') b us :=
  blk_noncells hne h (grownBy_putObj' W D o') fun j e => by cases e; exact ⟨o, hK, ho⟩
theorem below_put {w W : World} {D : Nat} {o o' : Obj} (hB : Below w.heap.size w W) (_hK : W.heap[D]? = some o) (hD : w.heap.size ≤ D) : Below w.heap.size w (W.putObj D o') :=
  hB.grown (grownBy_putObj' W D o') hB.size fun k e => by cases e; exact hD
theorem own_put {W : World} {base D sz n : Nat} {e : TypeId} {v : Value} {xs : List Value} {o o' : Obj} (h : W.ownsRow base e sz v n xs) (hK : W.heap[D]? = some o) (ho : o.isCells = false) : (W.putObj D o').ownsRow base e sz v n xs :=
  own_far h (grownBy_putObj' W D o') fun j e => .inr (by cases e; exact ⟨o, hK, ho⟩)
theorem own_block_ne {w : World} {b1 b2 s1 s2 n1 n2 : Nat} {e1 e2 : TypeId} {v1 v2 : Value} {x1 x2 : List Value} (h1 : w.ownsRow b1 e1 s1 v1 n1 x1) (h2 : w.ownsRow b2 e2 s2 v2 n2 x2) (hne : e1 ≠ e2) : v1.ownBlock = none ∨ v1.ownBlock ≠ v2.ownBlock := by
  rcases h1.2 with ⟨rfl, _⟩ | ⟨g1, c1, cur1, rfl, _, hh1, _⟩
  · exact .inl rfl
  · refine .inr fun e => ?_
    rcases h2.2 with ⟨rfl, _⟩ | ⟨g2, c2, cur2, rfl, _, hh2, _⟩
    · cases e
    · have : g1 = g2 := by simpa [Value.ownBlock] using e
      subst this
      rw [hh1] at hh2
      injection hh2 with hh2
      injection hh2 with _ ht
      exact hne ht
end Go.Proofs.YthiacfmedcfcjaaDoor
namespace Go.Proofs.YthiacfmedcfcjaaDoor
open Go.RowKit

end Go.Proofs.YthiacfmedcfcjaaDoor
namespace Go.Proofs.YthiacfmedcfcjaaDoor
open Go.RowKit

end Go.Proofs.YthiacfmedcfcjaaDoor
