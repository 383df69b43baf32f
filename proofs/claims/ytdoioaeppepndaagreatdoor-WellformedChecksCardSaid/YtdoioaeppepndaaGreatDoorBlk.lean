/- Words, more: a block of memory whose cells are known; worlds under a name. Nothing here speaks of the program. -/
import Derived.Test.YtdoioaeppepndaaGreatDoorWords
import Derived.WalkSmall
import Derived.Handy
import Derived.Deep.QuietTactic
namespace Go.Proofs.YtdoioaeppepndaaGreatDoor
open Go.RowKit

theorem named {P : Program} {f : FuncId} {args : Array Value} {w : World} {Q : Ending → World → Prop} (h : ∀ W, W = w → Calls P f args W Q) : Calls P f args w Q := h w rfl
theorem named_post {P : Program} {f : Func} {Q : Ending → World → Prop} {x : Exit} {a : Act} {w : World} (h : ∀ W, W = w → bodyPost P f Q x a W) : bodyPost P f Q x a w := h w rfl
theorem named_wp {P : Program} {c : Code} {Q : Exit → Act → World → Prop} {a : Act} {w : World} (h : ∀ W, W = w → c.wp P Q a W) : c.wp P Q a w := h w rfl
theorem quiet_same {P : Program} {f : FuncId} {args : Array Value} {w : World} {n : Nat} {v : Value}
    (h : Calls P f args (w.drewN n) fun e w' => e = .returned v ∧ w.drewN n = w') : Calls P f args (w.drewN n) fun e w'' => e = .returned v ∧ ∃ m, w'' = w.drewN m :=
  h.mono fun _ _ ⟨he, hm⟩ => ⟨he, n, hm.symm⟩

/-- The block b holds these values, and may be written. -/
structure Blk (w : World) (b : Nat) (us : List Value) : Prop where
  lt : b < w.heap.size
  cell : ∀ (i : Nat) (v : Value), us[i]? = some v → w.cell? ⟨b, i, none⟩ = some v
  fr : ∀ (i : Nat) (v : Value), us[i]? = some v → w.frozen? ⟨b, i, none⟩ = false
theorem Blk.below {w w' : World} {b : Nat} {us : List Value} (h : Blk w b us) (hb : Below (b + 1) w w') : Blk w' b us :=
  ⟨Nat.lt_of_lt_of_le h.lt hb.size, fun i v hv => (hb.cell (p := ⟨b, i, none⟩) (Nat.lt_succ_self b)).trans (h.cell i v hv), fun i v hv => (hb.frozen (p := ⟨b, i, none⟩) (Nat.lt_succ_self b)).trans (h.fr i v hv)⟩
theorem Blk.later {w w' : World} {b : Nat} {us : List Value} (h : Blk w b us) (hb : Below w.heap.size w w') : Blk w' b us := h.below (hb.mono h.lt)
/-- .. behind something that left alone what lies below B. -/
theorem Blk.under {w w' : World} {b B : Nat} {us : List Value} (h : Blk w b us) (hb : Below B w w') (hB : b < B) : Blk w' b us := h.below (hb.mono hB)
theorem Blk.alloc {w : World} {b : Nat} {us : List Value} (h : Blk w b us) (o : Obj) : Blk (w.alloc o) b us := h.later ((Below.refl _ _).alloc (Nat.le_refl _) o)
theorem Blk.drewN {w : World} {b : Nat} {us : List Value} (h : Blk w b us) (n : Nat) : Blk (w.drewN n) b us := h.later (below_drewN (Below.refl _ _) n)
theorem Blk.drew {w : World} {b : Nat} {us : List Value} (h : Blk w b us) : Blk w.drew b us := h.later (Below.refl _ _).drew
theorem Blk.new (w : World) (us : List Value) (t : TypeId) : Blk (w.alloc (.cells us.toArray t)) w.heap.size us := by
  have hg : (w.alloc (.cells us.toArray t)).heap[w.heap.size]? = some (.cells us.toArray t (0, 0)) := by
    show (w.heap.push _)[w.heap.size]? = some _
    simp
  refine ⟨by simp, fun i v hv => ?_, fun i v hv => ?_⟩
  · rw [cell_of_row _ _ i us.toArray t (0, 0) hg]; simpa using hv
  · go_simp
theorem Blk.is {w : World} {us : List Value} {b : Nat} (t : TypeId) (hb : b = w.heap.size) : Blk (w.alloc (.cells us.toArray t)) b us := hb ▸ Blk.new w us t
theorem Blk.set {w : World} {b : Nat} {us : List Value} (h : Blk w b us) (i : Nat) (u : Value) : Blk (w.setCell ⟨b, i, none⟩ u) b (us.set i u) := by
  have hs : ∀ j v, (us.set i u)[j]? = some v → ∃ v', us[j]? = some v' := fun j v hv => by
    rw [List.getElem?_set] at hv
    split at hv
    · split at hv
      · rename_i h1 h2; subst h1; exact ⟨_, List.getElem?_eq_getElem h2⟩
      · cases hv
    · exact ⟨v, hv⟩
  refine ⟨by simpa [World.setCell] using h.lt, fun j v hv => ?_, fun j v hv => ?_⟩
  · rw [List.getElem?_set] at hv
    split at hv
    · rename_i h1
      subst h1
      split at hv
      · rename_i h2
        cases hv
        exact World.cell?_setCell_same' _ _ _ (by rw [h.cell i _ (List.getElem?_eq_getElem h2)]; rfl)
      · cases hv
    · rename_i h1
      exact (World.cell?_setCell_other _ _ _ _ (fun e => h1 (by cases e; rfl))).trans (h.cell j v hv)
  · obtain ⟨v', hv'⟩ := hs j v hv
    have := h.fr j v' hv'
    simpa using this
theorem Blk.other {w : World} {b : Nat} {us : List Value} (h : Blk w b us) {p : Addr} (hp : p.block ≠ b) (u : Value) : Blk (w.setCell p u) b us := by
  have hh : (w.setCell p u).heap[b]? = w.heap[b]? := Below.heap_setCell _ _ _ _ (fun e => hp e.symm)
  refine ⟨by simpa [World.setCell] using h.lt, fun i v hv => ?_, fun i v hv => ?_⟩
  · exact (World.cell?_of_block (w := w) (a := ⟨b, i, none⟩) hh).trans (h.cell i v hv)
  · exact (World.frozen?_of_block (w := w) (a := ⟨b, i, none⟩) hh).trans (h.fr i v hv)
/-- The slice v, at a plain address, holds these values. -/
def Sln (w : World) (v : Value) (us : List Value) : Prop :=
  ∃ (b o cap : Nat), v = .slice (some ⟨b, o, none⟩) us.length cap ∧ us.length ≤ cap ∧ us.length ≤ maxLen ∧ b < w.heap.size ∧ ∀ (i : Nat) (u : Value), us[i]? = some u → w.cell? ⟨b, o + i, none⟩ = some u
theorem Sln.later {w w' : World} {v : Value} {us : List Value} (h : Sln w v us) (hb : Below w.heap.size w w') : Sln w' v us := by
  obtain ⟨b, o, cap, h1, h2, h3, h4, h5⟩ := h
  exact ⟨b, o, cap, h1, h2, h3, Nat.lt_of_lt_of_le h4 hb.size, fun i u hu => (hb.cell (p := ⟨b, o + i, none⟩) h4).trans (h5 i u hu)⟩
theorem Sln.blk {w : World} {b : Nat} {us : List Value} (h : Blk w b us) (hm : us.length ≤ 1000000) : Sln w (.slice (some ⟨b, 0, none⟩) us.length us.length) us :=
  ⟨b, 0, us.length, rfl, Nat.le_refl _, by unfold maxLen; omega, h.lt, fun i u hu => by rw [Nat.zero_add]; exact h.cell i u hu⟩
/-- Nothing has turned but the block b. -/
structure Only (b : Nat) (w w' : World) : Prop where
  os : w'.os = w.os
  tape : w'.tape = w.tape
  output : w'.output = w.output
  size : w'.heap.size = w.heap.size
  block : ∀ k, k ≠ b → w'.heap[k]? = w.heap[k]?
theorem Only.refl (b : Nat) (w : World) : Only b w w := ⟨rfl, rfl, rfl, rfl, fun _ _ => rfl⟩
theorem Only.trans {b : Nat} {w w1 w2 : World} (h : Only b w w1) (k : Only b w1 w2) : Only b w w2 :=
  ⟨k.os.trans h.os, k.tape.trans h.tape, k.output.trans h.output, k.size.trans h.size, fun i hi => (k.block i hi).trans (h.block i hi)⟩
theorem Only.drewN {b : Nat} {w w1 : World} (h : Only b w w1) (n : Nat) : Only b w (w1.drewN n) := h.trans ⟨rfl, rfl, rfl, rfl, fun _ _ => rfl⟩
theorem Only.setCell {b : Nat} {w w1 : World} (h : Only b w w1) (i : Nat) (u : Value) : Only b w (w1.setCell ⟨b, i, none⟩ u) :=
  h.trans ⟨rfl, rfl, rfl, by simp [World.setCell], fun k hk => Below.heap_setCell _ _ _ _ hk⟩
theorem Only.below {b : Nat} {w w1 : World} (h : Only b w w1) : Below b w w1 := ⟨h.os, h.tape, h.output, Nat.le_of_eq h.size.symm, fun k hk => h.block k (Nat.ne_of_lt hk)⟩
theorem Only.cell {b : Nat} {w w1 : World} (h : Only b w w1) {p : Addr} (hp : p.block ≠ b) : w1.cell? p = w.cell? p := World.cell?_of_block (w := w) (h.block p.block hp)
theorem str_ne {a b : ByteArray} (h : a ≠ b) : (a.toList == b.toList) = false := by
  rw [ByteArray.toList_eq, ByteArray.toList_eq, beq_eq_false_iff_ne]
  exact fun e => h (by cases a; cases b; congr; exact Array.toList_inj.1 e)
theorem bstep {w a b : World} (h : Below w.heap.size w a) (k : Below a.heap.size a b) : Below w.heap.size w b := h.trans (k.mono h.size)
end Go.Proofs.YtdoioaeppepndaaGreatDoor
