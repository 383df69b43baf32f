/- The writer: a strings.Builder inside of a struct of the program's own. Walks: its methods. -/
import Derived.Test.YtmfcjaoajanlfaaGreatDoorProg
import Derived.Test.YtmfcjaoajanlfaaGreatDoorAstSm
import Derived.Outline
import Derived.Handy
import Derived.Lib.OthersKept
import Derived.Lib.AppendStr
import Derived.Lib.OwnKind
import Derived.Lib.UnsafeStr
import Derived.Shelf.RegionOpenPlain
import Derived.Shelf.RegionOpen
import Derived.Laws.Externs
namespace Go.Proofs.YtmfcjaoajanlfaaGreatDoor
open Go.RowKit
open A8

/-- The writer in block b holds these bytes; its buffer lies from n0 on. -/
def Wt (n0 b : Nat) (l : List UInt8) (w : World) : Prop := Lib.IsBuilder 81 5 n0 b (bvals l) w
/-- What is kept by a writer's work: all below n0, and all blocks that are neither the writer's nor rows of bytes. -/
def Kept (n0 b : Nat) (w w' : World) : Prop := Below n0 w w' ∧ Lib.OthersKept 5 (some b) w w'
theorem Kept.refl (n0 b : Nat) (w : World) : Kept n0 b w w := ⟨Below.refl _ _, Lib.OthersKept.refl _ _ _⟩
theorem Kept.trans {n0 b : Nat} {w1 w2 w3 : World} (h : Kept n0 b w1 w2) (k : Kept n0 b w2 w3) : Kept n0 b w1 w3 := ⟨h.1.trans k.1, h.2.trans k.2⟩
theorem Kept.of {n0 b : Nat} {w w' : World} (h : Below w.heap.size w w') (hn : n0 ≤ w.heap.size) : Kept n0 b w w' :=
  ⟨h.mono hn, fun k _ ho _ _ => (h.block k (Array.getElem?_eq_some_iff.1 ho).1).trans ho⟩
theorem Kept.alloc {n0 b : Nat} {w w1 : World} (h : Kept n0 b w w1) (hn : n0 ≤ w.heap.size) (o : Obj) : Kept n0 b w (w1.alloc o) :=
  h.trans (Kept.of (A8.b1 _ o) (Nat.le_trans hn h.1.size))
theorem Kept.later {n0 b : Nat} {w w1 w2 : World} (h : Kept n0 b w w1) (hn : n0 ≤ w.heap.size) (hb : Below w1.heap.size w1 w2) : Kept n0 b w w2 :=
  h.trans (Kept.of hb (Nat.le_trans hn h.1.size))
theorem Kept.size {n0 b : Nat} {w w1 : World} (h : Kept n0 b w w1) : w.heap.size ≤ w1.heap.size := h.1.size
/-- A block of the call's own, with its type. -/
def Bx (w : World) (c : Nat) (t : TypeId) (us : List Value) : Prop := w.heap[c]? = some (.cells us.toArray t (0, 0))
theorem Bx.new (w : World) (us : List Value) (t : TypeId) : Bx (w.alloc (.cells us.toArray t)) w.heap.size t us := World.alloc_heap_new w _
theorem Bx.lt {w : World} {c : Nat} {t : TypeId} {us : List Value} (h : Bx w c t us) : c < w.heap.size := (Array.getElem?_eq_some_iff.1 h).1
theorem Bx.kept {n0 b : Nat} {w w' : World} {c : Nat} {t : TypeId} {us : List Value} (h : Bx w c t us) (hk : Kept n0 b w w') (hc : c ≠ b) (ht : t ≠ 5) : Bx w' c t us :=
  hk.2 c _ h (fun e => hc (by cases e; rfl)) (fun cs fz e => ht (by cases e; rfl))
theorem Bx.later {w w' : World} {c : Nat} {t : TypeId} {us : List Value} (h : Bx w c t us) (hb : Below w.heap.size w w') : Bx w' c t us := (hb.block c h.lt).trans h
theorem Bx.blk {w : World} {c : Nat} {t : TypeId} {us : List Value} (h : Bx w c t us) : Blk w c us := by
  refine ⟨h.lt, fun i v hv => ?_, fun i v _ => ?_⟩
  · rw [cell_of_row _ _ i us.toArray t (0, 0) h]; simpa using hv
  · exact Lib.frozen_of_heap h i
theorem at_later {n0 b : Nat} {T e : TypeId} {p : Value} {bs : List Value} {w w' : World} (h : Lib.BuilderAt T e n0 b p bs w) (hb : Below w.heap.size w w') : Lib.BuilderAt T e n0 b p bs w' := by
  obtain ⟨h1, v, h2, h3, h4⟩ := h
  exact ⟨h1, v, (hb.block b (Array.getElem?_eq_some_iff.1 h2).1).trans h2, own_later h3 hb, h4⟩
theorem Wt.later {n0 b : Nat} {l : List UInt8} {w w' : World} (h : Wt n0 b l w) (hb : Below w.heap.size w w') : Wt n0 b l w' := h.elim (fun x => .inl (at_later x hb)) (fun x => .inr (at_later x hb))
theorem infoByte8 : (Tryz.prog.info? 5).map (fun i => (i.zero, i.size, i.bytes)) = some (some (.int .u8 0), 1, 1) := by kernel_rfl
theorem sizeWr : (Tryz.prog.info? 79).map (·.size) = some 2 := by kernel_rfl
theorem liesWr : liesAt Tryz.prog Tryz.prog.depth 81 (2 / Tryz.prog.cellsOf 81) 0 79 1 = true := by kernel_rfl
set_option maxRecDepth 100000 in
theorem copyUsed_any (b : Nat) (w : World) (h0 : w.cell? ⟨b, 0, none⟩ = some (.pointer (some ⟨b, 0, none⟩))) :
    Calls Tryz.prog 75 #[.pointer (some ⟨b, 0, none⟩)] w fun e w' => e = .returned (.tuple #[]) ∧ w' = w := by
  obtain ⟨j, hj, _⟩ := Option.map_eq_some_iff.1 sizeWr
  go_enter Tryz.func75, Tryz.ntmps75
  go_wp2
  rw [Lib.run_neq_ptr_same w _ (te := 79) rfl hj]
  go_wp2
  go_end0
  exact ⟨rfl, rfl⟩
set_option maxRecDepth 100000 in
set_option maxHeartbeats 1000000 in
theorem copyFresh_any (b : Nat) (w : World) (h0 : w.cell? ⟨b, 0, none⟩ = some (.pointer none)) (hsh : w.shape? b = some (81, 2)) (hfz : w.frozen? ⟨b, 0, none⟩ = false) :
    Calls Tryz.prog 75 #[.pointer (some ⟨b, 0, none⟩)] w fun e w' => e = .returned (.tuple #[]) ∧ w' = w.setCell ⟨b, 0, none⟩ (.pointer (some ⟨b, 0, none⟩)) := by
  obtain ⟨j, hj, hjs⟩ := Option.map_eq_some_iff.1 sizeWr
  go_enter Tryz.func75, Tryz.ntmps75
  go_wp2
  rw [Lib.run_to_unsafe w ⟨b, 0, none⟩ (t := 79) rfl rfl hj (by rw [hjs]; decide) hsh (Nat.zero_lt_succ 1)]
  simp only [Result.andThen]
  rw [Oper.upon_value]
  go_wp2
  rw [run_callFunc_extern Tryz.func94 (by kernel_rfl) (by kernel_rfl) (by kernel_rfl) (e := Extern.AbiNoEscape.same) (by kernel_rfl)]
  rw [Lib.run_noEscape]
  simp only [Result.andThen]
  rw [Oper.upon_value]
  go_wp2
  rw [Lib.run_from_unsafe w ⟨b, 0, none⟩ (u := 79) rfl rfl hj hsh liesWr]
  simp only [Result.andThen]
  rw [Oper.upon_value]
  go_wp2
  go_end0
  exact ⟨rfl, rfl⟩
theorem Kept.set {n0 b : Nat} {w w1 : World} (h : Kept n0 b w w1) (hb : n0 ≤ b) (i : Nat) (v : Value) : Kept n0 b w (w1.setCell ⟨b, i, none⟩ v) :=
  ⟨h.1.setCell (p := ⟨b, i, none⟩) hb _, h.2.setCell ⟨b, i, none⟩ rfl _⟩
theorem copy_any {n0 b : Nat} {l : List UInt8} {w : World} (h : Wt n0 b l w) :
    Calls Tryz.prog 75 #[.pointer (some ⟨b, 0, none⟩)] w fun e w' => e = .returned (.tuple #[]) ∧ Lib.BuilderAt 81 5 n0 b (.pointer (some ⟨b, 0, none⟩)) (bvals l) w' ∧ Kept n0 b w w' := by
  rcases h with h | h
  · refine (copyFresh_any b w h.cell0 h.shape h.frozen0).mono ?_
    rintro e w' ⟨rfl, rfl⟩
    exact ⟨rfl, h.used _, (Kept.refl _ _ _).set h.1 _ _⟩
  · refine (copyUsed_any b w h.cell0).mono ?_
    rintro e w' ⟨rfl, rfl⟩
    exact ⟨rfl, h, Kept.refl _ _ _⟩
theorem strCells8 (l : List UInt8) : Lib.strCells (strOf l) = bvals l := by
  unfold Lib.strCells bvals strOf
  simp
theorem strSize8 (l : List UInt8) : (strOf l).size = l.length := by simp [strOf, ByteArray.size]
theorem bvalsApp8 (a b : List UInt8) : bvals (a ++ b) = bvals a ++ bvals b := by simp [bvals]
set_option maxHeartbeats 2000000 in
set_option maxRecDepth 100000 in
theorem writeStr_any (n0 b : Nat) (l x : List UInt8) (w : World) (h : Wt n0 b l w) (hl : l.length + x.length ≤ 1000000) (hn : n0 ≤ w.heap.size) :
    Calls Tryz.prog 52 #[.pointer (some ⟨b, 0, none⟩), .string (strOf x)] w fun e w' => e = .returned (.tuple #[.int .i64 x.length, .nilIface]) ∧ Wt n0 b (l ++ x) w' ∧ Kept n0 b w w' := by
  obtain ⟨i0, hi, hz0, hz1, hz2⟩ := info_parts infoByte8
  have hcc := copy_any h
  have hxs := strSize8 x
  have hxc := strCells8 x
  obtain ⟨s, hs⟩ : ∃ s, s = strOf x := ⟨_, rfl⟩
  rw [← hs] at hxs hxc ⊢
  clear hs h
  go_enter Tryz.func52, Tryz.ntmps52
  go_wp2_with (go_at_call 75; refine hcc.mono ?_)
  rintro e w1 ⟨rfl, h1, hk1⟩
  obtain ⟨hB, v, hbk, hown, hne⟩ := h1
  have c0 : w1.cell? ⟨b, 0, none⟩ = some (.pointer (some ⟨b, 0, none⟩)) := by rw [Lib.cell_of_heap hbk]; rfl
  have c1 : w1.cell? ⟨b, 1, none⟩ = some v := by rw [Lib.cell_of_heap hbk]; rfl
  rw [bvals_length] at hown
  go_wp2_with (at_builtin; refine Lib.wpList_append_own_string _ rfl _ _ 77 9 rfl n0 5 i0 rfl rfl hi hz0 hz1 hz2 _ _ _ rfl hown s rfl ?c3 ?c4 ?c5 ?_)
  case c3 => unfold maxLen; omega
  case c4 => omega
  case c5 => have := hk1.size; omega
  intro v' w2 hown' hgrow _
  have hlt : b < w1.heap.size := (Array.getElem?_eq_some_iff.1 hbk).1
  have hb2 : w2.heap[b]? = some (.cells #[.pointer (some ⟨b, 0, none⟩), v] 81 (0, 0)) := by
    rw [hgrow.block b hlt (fun e => hne e.symm)]
    exact hbk
  have d0 : w2.cell? ⟨b, 0, none⟩ = some (.pointer (some ⟨b, 0, none⟩)) := by rw [Lib.cell_of_heap hb2]; rfl
  have d1 : w2.cell? ⟨b, 1, none⟩ = some v := by rw [Lib.cell_of_heap hb2]; rfl
  have f1 : w2.frozen? ⟨b, 1, none⟩ = false := Lib.frozen_of_heap hb2 1
  obtain ⟨A', c', rfl⟩ := own_form hown'
  go_wp2
  go_ret2
  refine ⟨rfl, .inr ?_, Kept.set ⟨hk1.1.grown hgrow (by have := hk1.size; omega) (fun k hk => (hown.lt k hk).1), hk1.2.grown hgrow (Lib.ownsRow_kind hown)⟩ hB _ _⟩
  refine Lib.BuilderAt.put hB hb2 ?_ (by decide)
  rw [bvalsApp8, List.length_append, bvals_length, bvals_length]
  exact hown'
set_option maxHeartbeats 2000000 in
set_option maxRecDepth 100000 in
theorem writeByte_any (n0 b : Nat) (l : List UInt8) (x : UInt8) (c : Int) (hc : c = (x.toNat : Int)) (w : World) (h : Wt n0 b l w) (hl : l.length + 1 ≤ 1000000) (hn : n0 ≤ w.heap.size) :
    Calls Tryz.prog 77 #[.pointer (some ⟨b, 0, none⟩), .int .u8 c] w fun e w' => e = .returned .nilIface ∧ Wt n0 b (l ++ [x]) w' ∧ Kept n0 b w w' := by
  subst hc
  obtain ⟨i0, hi, hz0, hz1, hz2⟩ := info_parts infoByte8
  have hcc := copy_any h
  clear h
  obtain ⟨c, hc⟩ : ∃ c : Int, c = (x.toNat : Int) := ⟨_, rfl⟩
  rw [← hc]
  have HC := Lib.hid hc
  clear hc
  go_enter Tryz.func77, Tryz.ntmps77
  go_wp2_with (go_at_call 75; refine hcc.mono ?_)
  rintro e w1 ⟨rfl, h1, hk1⟩
  obtain ⟨hB, v, hbk, hown, hne⟩ := h1
  have c0 : w1.cell? ⟨b, 0, none⟩ = some (.pointer (some ⟨b, 0, none⟩)) := by rw [Lib.cell_of_heap hbk]; rfl
  have c1 : w1.cell? ⟨b, 1, none⟩ = some v := by rw [Lib.cell_of_heap hbk]; rfl
  rw [bvals_length] at hown
  go_wp2_with (at_builtin; refine wpList_append_own _ rfl _ _ 77 rfl n0 5 i0 (.int .u8 0) 1 1 rfl hi hz0 hz1 hz2 rfl (by decide) _ _ _ rfl (hown.alloc _) ⟨w1.heap.size, 0, none⟩ 1 1 [.int .u8 c] rfl rfl ?c1 ?c2 ?c3 ?c4 ?c5 ?_)
  case c1 =>
    intro j u hj
    match j, hj with
    | 0, hj => simp at hj; subst hj; simp [Addr.add]
  case c2 => intro u hu; simp at hu; subst hu; rfl
  case c3 => unfold maxLen; omega
  case c4 => omega
  case c5 => have := hk1.size; simp; omega
  intro v' w2 hown' hgrow _
  have hlt : b < w1.heap.size := (Array.getElem?_eq_some_iff.1 hbk).1
  have hb2 : w2.heap[b]? = some (.cells #[.pointer (some ⟨b, 0, none⟩), v] 81 (0, 0)) := by
    rw [hgrow.block b (by simp; omega) (fun e => hne e.symm), Lib.alloc_old w1 _ b hlt]
    exact hbk
  have d0 : w2.cell? ⟨b, 0, none⟩ = some (.pointer (some ⟨b, 0, none⟩)) := by rw [Lib.cell_of_heap hb2]; rfl
  have d1 : w2.cell? ⟨b, 1, none⟩ = some v := by rw [Lib.cell_of_heap hb2]; rfl
  have f1 : w2.frozen? ⟨b, 1, none⟩ = false := Lib.frozen_of_heap hb2 1
  obtain ⟨A', c', rfl⟩ := own_form hown'
  go_wp2
  go_ret
  have hk2 := hk1.alloc hn (.cells #[.int .u8 c] 5)
  refine ⟨rfl, .inr ?_, Kept.set ⟨hk2.1.grown hgrow (by have := hk1.size; simp; omega) (fun k hk => (hown.lt k hk).1), hk2.2.grown hgrow (Lib.ownsRow_kind (hown.alloc _))⟩ hB _ _⟩
  refine Lib.BuilderAt.put hB hb2 ?_ (by decide)
  rw [bvalsApp8, List.length_append, bvals_length]
  show _
  have : bvals [x] = [.int .u8 c] := by rw [HC.out]; rfl
  rw [this]
  exact hown'
set_option maxRecDepth 100000 in
theorem wrLen_any (n0 b : Nat) (l : List UInt8) (w : World) (h : Wt n0 b l w) :
    Calls Tryz.prog 58 #[.pointer (some ⟨b, 0, none⟩)] w fun e w' => e = .returned (.int .i64 l.length) ∧ w' = w := by
  obtain ⟨p, v, hbk, hown⟩ : ∃ p v, w.heap[b]? = some (.cells #[p, v] 81 (0, 0)) ∧ w.ownsRow n0 5 1 v l.length (bvals l) := by
    rcases h with h | h <;> obtain ⟨_, v, h2, h3, _⟩ := h <;> rw [bvals_length] at h3 <;> exact ⟨_, v, h2, h3⟩
  obtain ⟨A', c', rfl⟩ := own_form hown
  have c1 : w.cell? ⟨b, 1, none⟩ = some (.slice A' l.length c') := by rw [Lib.cell_of_heap hbk]; rfl
  clear hbk hown h
  go_enter Tryz.func58, Tryz.ntmps58
  go_wp2
  go_ret
  exact ⟨rfl, rfl⟩
set_option maxHeartbeats 2000000 in
set_option maxRecDepth 100000 in
theorem wrString_any (n0 b : Nat) (l : List UInt8) (w : World) (h : Wt n0 b l w) (h0 : l ≠ []) :
    Calls Tryz.prog 59 #[.pointer (some ⟨b, 0, none⟩)] w fun e w' => e = .returned (.string (strOf l)) ∧ Below n0 w w' := by
  obtain ⟨p, v, hbk, hown⟩ : ∃ p v, w.heap[b]? = some (.cells #[p, v] 81 (0, 0)) ∧ w.ownsRow n0 5 1 v l.length (bvals l) := by
    rcases h with h | h <;> obtain ⟨_, v, h2, h3, _⟩ := h <;> rw [bvals_length] at h3 <;> exact ⟨_, v, h2, h3⟩
  have hl0 : l.length ≠ 0 := by simpa using h0
  obtain ⟨g, cap, cur, rfl, hbg, hg, hnc, hcm, hcs⟩ : ∃ g cap cur, v = .slice (some ⟨g, 0, none⟩) l.length cap ∧ n0 ≤ g ∧ w.heap[g]? = some (.cells cur 5 (0, 0)) ∧ l.length ≤ cap ∧ cap ≤ maxLen ∧ cur.size = cap * 1 := by
    rcases hown.2 with ⟨_, hz⟩ | ⟨g, cap, cur, hv, h1, h2, h3, h4, h5, _⟩
    · exact absurd hz hl0
    · exact ⟨g, cap, cur, hv, h1, h2, h3, h4, h5⟩
  have c1 : w.drew.cell? ⟨b, 1, none⟩ = some (.slice (some ⟨g, 0, none⟩) l.length cap) := by
    have : w.drew.heap[b]? = some (.cells #[p, .slice (some ⟨g, 0, none⟩) l.length cap] 81 (0, 0)) := hbk
    rw [Lib.cell_of_heap this]; rfl
  have hSD : (Builtin.unsafeSliceData_ #[77] 123 #[.slice (some ⟨g, 0, none⟩) l.length cap]).run Tryz.prog w.drew = .ok (.pointer (some ⟨g, 0, none⟩)) w.drew :=
    Lib.run_unsafeSliceData_row _ _ _ _ _ _ (by omega)
  have hUS : (Builtin.unsafeString_ #[123, 3] 9 #[.pointer (some ⟨g, 0, none⟩), .int .i64 l.length]).run Tryz.prog w.drew = .ok (.string ⟨l.toArray⟩) (w.drew.freeze ⟨g, 0, none⟩ l.length) := by
    refine Lib.run_unsafeString_row w.drew 123 3 9 5 rfl (by kernel_rfl) g cur.size (by have hg' : w.drew.heap[g]? = some (.cells cur 5 (0, 0)) := hg; simp [World.shape?, hg']) l h0 (by omega) (by unfold maxLen at hcm; omega) ?_
    intro j x hx
    have := hown.cells (g := g) rfl j (.int .u8 x.toNat) (by simp [bvals, hx])
    exact this
  clear hbk hown h
  have mixed : Tryz.prog.follows .mixedOrders = true := by kernel_rfl
  unfold strOf
  go_enter Tryz.func59, Tryz.ntmps59
  go_wp2
  go_region_o
  all_goals (go_wp2; go_ret; exact ⟨rfl, Lib.below_freeze (Below.drew (Below.refl n0 w)) (p := ⟨g, 0, none⟩) hbg _⟩)
end Go.Proofs.YtmfcjaoajanlfaaGreatDoor
