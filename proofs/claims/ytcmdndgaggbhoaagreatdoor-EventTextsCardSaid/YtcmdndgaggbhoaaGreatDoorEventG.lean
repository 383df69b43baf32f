/- Walks: how a field is read. -/
import Derived.Test.YtcmdndgaggbhoaaGreatDoorEventE
import Derived.Test.YtcmdndgaggbhoaaGreatDoorEventM
namespace Go.Proofs.YtcmdndgaggbhoaaGreatDoor.Ev
open Go.RowKit
open Wr

/-- Of what was there, nothing has turned but the block b. -/
structure But (b : Nat) (w w' : World) : Prop where
  os : w'.os = w.os
  tape : w'.tape = w.tape
  output : w'.output = w.output
  size : w.heap.size ≤ w'.heap.size
  block : ∀ k, k < w.heap.size → k ≠ b → w'.heap[k]? = w.heap[k]?
theorem But.of {b : Nat} {w w' : World} (h : Below w.heap.size w w') : But b w w' := ⟨h.os, h.tape, h.output, h.size, fun k hk _ => h.block k hk⟩
theorem But.trans {b : Nat} {w w1 w2 : World} (h : But b w w1) (k : But b w1 w2) : But b w w2 :=
  ⟨k.os.trans h.os, k.tape.trans h.tape, k.output.trans h.output, Nat.le_trans h.size k.size, fun i hi hn => (k.block i (Nat.lt_of_lt_of_le hi h.size) hn).trans (h.block i hi hn)⟩
theorem But.setCell {b : Nat} {w w1 : World} (h : But b w w1) (i : Nat) (u : Value) : But b w (w1.setCell ⟨b, i, none⟩ u) :=
  h.trans ⟨rfl, rfl, rfl, by simp [World.setCell], fun k _ hn => Below.heap_setCell _ _ _ _ hn⟩
theorem But.setNew {b : Nat} {w w1 : World} (h : But b w w1) {p : Addr} (hp : w.heap.size ≤ p.block) (u : Value) : But b w (w1.setCell p u) :=
  ⟨h.os, h.tape, h.output, by have := h.size; simpa [World.setCell] using this, fun k hk hn => (Below.heap_setCell _ _ _ _ (by omega)).trans (h.block k hk hn)⟩
theorem But.blk {b c : Nat} {w w' : World} {us : List Value} (h : But b w w') (hc : c ≠ b) (hB : Blk w c us) : Blk w' c us :=
  have e := h.block c hB.lt hc
  ⟨Nat.lt_of_lt_of_le hB.lt h.size, fun i v hv => (World.cell?_of_block (w := w) (a := ⟨c, i, none⟩) e).trans (hB.cell i v hv), fun i v hv => (World.frozen?_of_block (w := w) (a := ⟨c, i, none⟩) e).trans (hB.fr i v hv)⟩
theorem But.below {b n : Nat} {w w' : World} (h : But b w w') (hn : n ≤ b) (hb : b < w.heap.size) : Below n w w' :=
  ⟨h.os, h.tape, h.output, h.size, fun k hk => h.block k (by omega) (by omega)⟩

/-- A reader's four cells. -/
def rdl (r : Rd) : List Value := [.string r.s, .int .i64 r.at_, .int .i64 r.err, .int .i64 r.fat]
theorem uintR_s (r : Rd) (n : Int) : (uintR r n).1.s.size ≤ r.s.size := by
  refine Nat.le_trans (Nat.le_of_eq ?_) (opened_s r)
  unfold uintR Sp.field
  dsimp only
  split
  · exact congrArg ByteArray.size (take_s _ _)
  · unfold Sp.failAt Sp.given
    split <;> rfl
theorem failR_s (r : Rd) (e a : Int) : (failR r e a).s.size ≤ r.s.size := by
  refine Nat.le_trans (Nat.le_of_eq ?_) (opened_s r)
  unfold failR Sp.failAt Sp.given
  split <;> rfl
theorem uintR_lt (r : Rd) (n : Nat) (hn : isSz n = true) : (uintR r n).2 < 256 ^ n := by
  unfold uintR Sp.field
  dsimp only
  rw [if_pos hn]
  have h1 := take_size (opened_ok r) (n := (n : Int)) (by omega)
  refine Nat.lt_of_lt_of_le (numOf_lt _) (Nat.pow_le_pow_right (by decide) ?_)
  simp
  omega

set_option maxHeartbeats 1000000 in
theorem number_any (r : Rd) (n : Int) (b : Nat) (w : World) (h : Blk w b (rdl r)) (hs : r.s.size ≤ 9223372036854775807) :
    Calls Tryz.prog 76 #[.pointer (some ⟨b, 0, none⟩), .int .i64 n] w fun e w' => e = .returned (.int .u64 (uintR r n).2) ∧ Blk w' b (rdl (uintR r n).1) ∧ But b w w' := by
  have hU := fun w => uint_any r n w hs
  obtain ⟨z, hz⟩ : ∃ z, z = uintR r n := ⟨_, rfl⟩
  rw [← hz] at hU ⊢
  clear hz
  obtain ⟨s, a, e, f⟩ := r
  obtain ⟨⟨s', a', e', f'⟩, x⟩ := z
  simp only [rdl, Rd.val] at h hU ⊢
  have c0 := h.cell 0 _ rfl
  have c1 := h.cell 1 _ rfl
  have c2 := h.cell 2 _ rfl
  have c3 := h.cell 3 _ rfl
  go_enter Tryz.func76, Tryz.ntmps76
  go_wp2_with fail
  refine (hU _).mono ?_
  rintro e w1 ⟨rfl, hb1⟩
  have h1 := h.later hb1
  have hB : But b w w1 := But.of hb1
  clear hb1 c0 c1 c2 c3
  have c0 := h1.cell 0 _ rfl
  have c1 := h1.cell 1 _ rfl
  have c2 := h1.cell 2 _ rfl
  have c3 := h1.cell 3 _ rfl
  have f0 := h1.fr 0 _ rfl
  have f1 := h1.fr 1 _ rfl
  have f2 := h1.fr 2 _ rfl
  have f3 := h1.fr 3 _ rfl
  have hlt := h1.lt
  go_wp2
  refine named_post fun V hV => ?_
  have hVR : Blk V b [.string s', .int .i64 a', .int .i64 e', .int .i64 f'] := by rw [hV]; exact (((h1.set 0 _).set 1 _).set 2 _).set 3 _
  have hVB : But b w V := by rw [hV]; exact (((hB.setCell 0 _).setCell 1 _).setCell 2 _).setCell 3 _
  clear hV c0 c1 c2 c3 f0 f1 f2 f3
  go_ret
  exact ⟨rfl, hVR, hVB⟩
set_option maxHeartbeats 1000000 in
theorem rdFail_any (r : Rd) (er at_ : Int) (b : Nat) (w : World) (h : Blk w b (rdl r)) (hs : r.s.size ≤ 9223372036854775807) :
    Calls Tryz.prog 78 #[.pointer (some ⟨b, 0, none⟩), .int .i64 er, .int .i64 at_] w fun e w' => e = .returned (.tuple #[]) ∧ Blk w' b (rdl (failR r er at_)) ∧ But b w w' := by
  have hU := fun w => failR_any r er at_ w hs
  obtain ⟨z, hz⟩ : ∃ z, z = failR r er at_ := ⟨_, rfl⟩
  rw [← hz] at hU ⊢
  clear hz
  obtain ⟨s, a, e, f⟩ := r
  obtain ⟨s', a', e', f'⟩ := z
  simp only [rdl, Rd.val] at h hU ⊢
  have c0 := h.cell 0 _ rfl
  have c1 := h.cell 1 _ rfl
  have c2 := h.cell 2 _ rfl
  have c3 := h.cell 3 _ rfl
  go_enter Tryz.func78, Tryz.ntmps78
  go_wp2_with fail
  refine (hU _).mono ?_
  rintro e w1 ⟨rfl, hb1⟩
  have h1 := h.later hb1
  have hB : But b w w1 := But.of hb1
  clear hb1 c0 c1 c2 c3
  have c0 := h1.cell 0 _ rfl
  have c1 := h1.cell 1 _ rfl
  have c2 := h1.cell 2 _ rfl
  have c3 := h1.cell 3 _ rfl
  have f0 := h1.fr 0 _ rfl
  have f1 := h1.fr 1 _ rfl
  have f2 := h1.fr 2 _ rfl
  have f3 := h1.fr 3 _ rfl
  have hlt := h1.lt
  go_wp2
  refine named_post fun V hV => ?_
  have hVR : Blk V b [.string s', .int .i64 a', .int .i64 e', .int .i64 f'] := by rw [hV]; exact (((h1.set 0 _).set 1 _).set 2 _).set 3 _
  have hVB : But b w V := by rw [hV]; exact (((hB.setCell 0 _).setCell 1 _).setCell 2 _).setCell 3 _
  clear hV c0 c1 c2 c3 f0 f1 f2 f3
  go_returns
  exact ⟨rfl, hVR, hVB⟩
theorem offset_any (r : Rd) (b : Nat) (w : World) (h : Blk w b (rdl r)) :
    Calls Tryz.prog 77 #[.pointer (some ⟨b, 0, none⟩)] w fun e w' => e = .returned (.int .i64 r.at_) ∧ w = w' := by
  obtain ⟨s, a, e, f⟩ := r
  simp only [rdl] at h ⊢
  have c1 := h.cell 1 _ rfl
  go_enter Tryz.func77, Tryz.ntmps77
  go_wp2
  go_ret
  exact ⟨rfl, rfl⟩
theorem rdEnd_any (r : Rd) (b : Nat) (w : World) (h : Blk w b (rdl r)) (hs : r.s.size ≤ 9223372036854775807) :
    Calls Tryz.prog 28 #[.pointer (some ⟨b, 0, none⟩)] w fun e w' => e = .returned (.agg #[.int .i64 (endR r).e, .int .i64 (endR r).a]) ∧ Below w.heap.size w w' := by
  have hU := fun w => end_any r w hs
  obtain ⟨z, hz⟩ : ∃ z, z = (endR r).e := ⟨_, rfl⟩
  obtain ⟨y, hy⟩ : ∃ y, y = (endR r).a := ⟨_, rfl⟩
  rw [← hz, ← hy] at hU ⊢
  clear hz hy
  obtain ⟨s, a, e, f⟩ := r
  simp only [rdl, Rd.val] at h hU ⊢
  go_enter Tryz.func28, Tryz.ntmps28
  have c0 := h.cell 0 _ rfl
  have c1 := h.cell 1 _ rfl
  have c2 := h.cell 2 _ rfl
  have c3 := h.cell 3 _ rfl
  have hlt := h.lt
  go_wp2_with fail
  refine named fun W hW => ?_
  have hB : Below w.heap.size w W := by rw [hW]; go_grown
  have hR : Blk W w.heap.size [.int .i64 0, .int .i64 0] := by rw [hW]; exact Blk.is _ rfl
  clear hW c0 c1 c2 c3
  refine (hU _).mono ?_
  rintro e w1 ⟨rfl, hb1⟩
  replace hR := hR.later hb1
  replace hB := bstep hB hb1
  clear hb1
  have c0 := hR.cell 0 _ rfl
  have c1 := hR.cell 1 _ rfl
  have f0 := hR.fr 0 _ rfl
  have f1 := hR.fr 1 _ rfl
  have hltR := hR.lt
  go_wp2
  refine named_post fun V hV => ?_
  have hVR : Blk V w.heap.size [.int .i64 z, .int .i64 y] := by rw [hV]; exact (hR.set 0 _).set 1 _
  have hVB : Below w.heap.size w V := by rw [hV]; exact (hB.setCell (p := ⟨w.heap.size, 0, none⟩) (Nat.le_refl _) _).setCell (p := ⟨w.heap.size, 1, none⟩) (Nat.le_refl _) _
  clear hV c0 c1 f0 f1
  have c0 := hVR.cell 0 _ rfl
  have c1 := hVR.cell 1 _ rfl
  refine bodyPost_ret (by simp [results, Tryz.results28, go_sem, c0, c1]; try rfl) rfl ?_
  exact ⟨rfl, hVB⟩
end Go.Proofs.YtcmdndgaggbhoaaGreatDoor.Ev
