/- Package ast: the writer of texts. -/
import Derived.Test.YtdjaijhlhhnmeaaGreatDoorProg
import Derived.Test.YtdjaijhlhhnmeaaGreatDoorAstSm
import Derived.Outline
import Derived.Handy
import Derived.Lib.OthersKept
import Derived.Lib.AppendStr
import Derived.Lib.OwnKind
import Derived.Lib.UnsafeStr
import Derived.Shelf.RegionOpenPlain
import Derived.Shelf.RegionOpen
import Derived.Laws.Externs
import Derived.Test.YtdjaijhlhhnmeaaGreatDoorAstThr
import Derived.Test.YtdjaijhlhhnmeaaGreatDoorLabelOne
import Derived.Lib.SmallJoins
import Derived.Lib.LaidTab
import Derived.Lib.AppendIntMem
import Derived.Lib.ItoaLen
import Derived.Deep.RegionWith
namespace Go.Proofs.YtdjaijhlhhnmeaaGreatDoor
open Go.RowKit
open A8

/-- The writer in block b holds these bytes; its buffer lies from n0 on. -/
def Wt (n0 b : Nat) (l : List UInt8) (w : World) : Prop := Lib.IsBuilder 90 5 n0 b (bvals l) w
/-- What is kept by a writer's work: all below n0, and all blocks that are neither the writer's nor rows of bytes. -/
def Kept (n0 b : Nat) (w w' : World) : Prop := Below n0 w w' ∧ Lib.OthersKept 5 (some b) w w'
theorem Kept.refl (n0 b : Nat) (w : World) : Kept n0 b w w := ⟨Below.refl _ _, Lib.OthersKept.refl _ _ _⟩
theorem Kept.trans {n0 b : Nat} {w1 w2 w3 : World} (h : Kept n0 b w1 w2) (k : Kept n0 b w2 w3) : Kept n0 b w1 w3 := ⟨h.1.trans k.1, h.2.trans k.2⟩
theorem Kept.of {n0 b : Nat} {w w' : World} (h : Below w.heap.size w w') (hn : n0 ≤ w.heap.size) : Kept n0 b w w' :=
  ⟨h.mono hn, fun k _ ho _ _ => (h.block k (Array.getElem?_eq_some_iff.1 ho).1).trans ho⟩
theorem Kept.alloc {n0 b : Nat} {w w1 : World} (h : Kept n0 b w w1) (hn : n0 ≤ w.heap.size) (o : Obj) : Kept n0 b w (w1.alloc o) :=
  h.trans (Kept.of (A8.b1 _ o) (Nat.le_trans hn h.1.size))
theorem Kept.later {n0 b : Nat} {w w1 w2 : World} (h : Kept n0 b w w1) (hn : n0 ≤ w.heap.size) (hb : Below w1.heap.size w1 w2) : Kept n0 b w w2 :=
  h.trans (Kept.of hb (Nat.le_trans hn h.1.size))
theorem Kept.size {n0 b : Nat} {w w1 : World} (h : Kept n0 b w w1) : w.heap.size ≤ w1.heap.size := h.1.size
/-- A block of the call's own, with its type. -/
def Bx (w : World) (c : Nat) (t : TypeId) (us : List Value) : Prop := w.heap[c]? = some (.cells us.toArray t (0, 0))
theorem Bx.new (w : World) (us : List Value) (t : TypeId) : Bx (w.alloc (.cells us.toArray t)) w.heap.size t us := World.alloc_heap_new w _
theorem Bx.lt {w : World} {c : Nat} {t : TypeId} {us : List Value} (h : Bx w c t us) : c < w.heap.size := (Array.getElem?_eq_some_iff.1 h).1
theorem Bx.kept {n0 b : Nat} {w w' : World} {c : Nat} {t : TypeId} {us : List Value} (h : Bx w c t us) (hk : Kept n0 b w w') (hc : c ≠ b) (ht : t ≠ 5) : Bx w' c t us :=
  hk.2 c _ h (fun e => hc (by cases e; rfl)) (fun cs fz e => ht (by cases e; rfl))
theorem Bx.later {w w' : World} {c : Nat} {t : TypeId} {us : List Value} (h : Bx w c t us) (hb : Below w.heap.size w w') : Bx w' c t us := (hb.block c h.lt).trans h
theorem Bx.blk {w : World} {c : Nat} {t : TypeId} {us : List Value} (h : Bx w c t us) : Blk w c us := by
  refine ⟨h.lt, fun i v hv => ?_, fun i v _ => ?_⟩
  · rw [cell_of_row _ _ i us.toArray t (0, 0) h]; simpa using hv
  · exact Lib.frozen_of_heap h i
theorem at_later {n0 b : Nat} {T e : TypeId} {p : Value} {bs : List Value} {w w' : World} (h : Lib.BuilderAt T e n0 b p bs w) (hb : Below w.heap.size w w') : Lib.BuilderAt T e n0 b p bs w' := by
  obtain ⟨h1, v, h2, h3, h4⟩ := h
  exact ⟨h1, v, (hb.block b (Array.getElem?_eq_some_iff.1 h2).1).trans h2, own_later h3 hb, h4⟩
theorem Wt.later {n0 b : Nat} {l : List UInt8} {w w' : World} (h : Wt n0 b l w) (hb : Below w.heap.size w w') : Wt n0 b l w' := h.elim (fun x => .inl (at_later x hb)) (fun x => .inr (at_later x hb))
theorem infoByte8 : (Tryz.prog.info? 5).map (fun i => (i.zero, i.size, i.bytes)) = some (some (.int .u8 0), 1, 1) := by kernel_rfl
theorem sizeWr : (Tryz.prog.info? 88).map (·.size) = some 2 := by kernel_rfl
theorem liesWr : liesAt Tryz.prog Tryz.prog.depth 90 (2 / Tryz.prog.cellsOf 90) 0 88 1 = true := by kernel_rfl
set_option maxRecDepth 100000 in
theorem copyUsed_any (b : Nat) (w : World) (h0 : w.cell? ⟨b, 0, none⟩ = some (.pointer (some ⟨b, 0, none⟩))) :
    Calls Tryz.prog 151 #[.pointer (some ⟨b, 0, none⟩)] w fun e w' => e = .returned (.tuple #[]) ∧ w' = w := by
  obtain ⟨j, hj, _⟩ := Option.map_eq_some_iff.1 sizeWr
  go_enter Tryz.func151, Tryz.ntmps151
  go_wp2
  rw [Lib.run_neq_ptr_same w _ (te := 88) rfl hj]
  go_wp2
  go_end0
  exact ⟨rfl, rfl⟩
set_option maxRecDepth 100000 in
set_option maxHeartbeats 1000000 in
theorem copyFresh_any (b : Nat) (w : World) (h0 : w.cell? ⟨b, 0, none⟩ = some (.pointer none)) (hsh : w.shape? b = some (90, 2)) (hfz : w.frozen? ⟨b, 0, none⟩ = false) :
    Calls Tryz.prog 151 #[.pointer (some ⟨b, 0, none⟩)] w fun e w' => e = .returned (.tuple #[]) ∧ w' = w.setCell ⟨b, 0, none⟩ (.pointer (some ⟨b, 0, none⟩)) := by
  obtain ⟨j, hj, hjs⟩ := Option.map_eq_some_iff.1 sizeWr
  go_enter Tryz.func151, Tryz.ntmps151
  go_wp2
  rw [Lib.run_to_unsafe w ⟨b, 0, none⟩ (t := 88) rfl rfl hj (by rw [hjs]; decide) hsh (Nat.zero_lt_succ 1)]
  simp only [Result.andThen]
  rw [Oper.upon_value]
  go_wp2
  rw [run_callFunc_extern Tryz.func184 (by kernel_rfl) (by kernel_rfl) (by kernel_rfl) (e := Extern.AbiNoEscape.same) (by kernel_rfl)]
  rw [Lib.run_noEscape]
  simp only [Result.andThen]
  rw [Oper.upon_value]
  go_wp2
  rw [Lib.run_from_unsafe w ⟨b, 0, none⟩ (u := 88) rfl rfl hj hsh liesWr]
  simp only [Result.andThen]
  rw [Oper.upon_value]
  go_wp2
  go_end0
  exact ⟨rfl, rfl⟩
theorem Kept.set {n0 b : Nat} {w w1 : World} (h : Kept n0 b w w1) (hb : n0 ≤ b) (i : Nat) (v : Value) : Kept n0 b w (w1.setCell ⟨b, i, none⟩ v) :=
  ⟨h.1.setCell (p := ⟨b, i, none⟩) hb _, h.2.setCell ⟨b, i, none⟩ rfl _⟩
theorem copy_any {n0 b : Nat} {l : List UInt8} {w : World} (h : Wt n0 b l w) :
    Calls Tryz.prog 151 #[.pointer (some ⟨b, 0, none⟩)] w fun e w' => e = .returned (.tuple #[]) ∧ Lib.BuilderAt 90 5 n0 b (.pointer (some ⟨b, 0, none⟩)) (bvals l) w' ∧ Kept n0 b w w' := by
  rcases h with h | h
  · refine (copyFresh_any b w h.cell0 h.shape h.frozen0).mono ?_
    rintro e w' ⟨rfl, rfl⟩
    exact ⟨rfl, h.used _, (Kept.refl _ _ _).set h.1 _ _⟩
  · refine (copyUsed_any b w h.cell0).mono ?_
    rintro e w' ⟨rfl, rfl⟩
    exact ⟨rfl, h, Kept.refl _ _ _⟩
theorem strCells8 (l : List UInt8) : Lib.strCells (strOf l) = bvals l := by
  unfold Lib.strCells bvals strOf
  simp
theorem strSize8 (l : List UInt8) : (strOf l).size = l.length := by simp [strOf, ByteArray.size]
theorem bvalsApp8 (a b : List UInt8) : bvals (a ++ b) = bvals a ++ bvals b := by simp [bvals]
set_option maxHeartbeats 2000000 in
set_option maxRecDepth 100000 in
theorem writeStr_any (n0 b : Nat) (l x : List UInt8) (w : World) (h : Wt n0 b l w) (hl : l.length + x.length ≤ 1000000) (hn : n0 ≤ w.heap.size) :
    Calls Tryz.prog 100 #[.pointer (some ⟨b, 0, none⟩), .string (strOf x)] w fun e w' => e = .returned (.tuple #[.int .i64 x.length, .nilIface]) ∧ Wt n0 b (l ++ x) w' ∧ Kept n0 b w w' := by
  obtain ⟨i0, hi, hz0, hz1, hz2⟩ := info_parts infoByte8
  have hcc := copy_any h
  have hxs := strSize8 x
  have hxc := strCells8 x
  obtain ⟨s, hs⟩ : ∃ s, s = strOf x := ⟨_, rfl⟩
  rw [← hs] at hxs hxc ⊢
  clear hs h
  go_enter Tryz.func100, Tryz.ntmps100
  go_wp2_with (go_at_call 151; refine hcc.mono ?_)
  rintro e w1 ⟨rfl, h1, hk1⟩
  obtain ⟨hB, v, hbk, hown, hne⟩ := h1
  have c0 : w1.cell? ⟨b, 0, none⟩ = some (.pointer (some ⟨b, 0, none⟩)) := by rw [Lib.cell_of_heap hbk]; rfl
  have c1 : w1.cell? ⟨b, 1, none⟩ = some v := by rw [Lib.cell_of_heap hbk]; rfl
  rw [bvals_length] at hown
  go_wp2_with (at_builtin; refine Lib.wpList_append_own_string _ rfl _ _ 86 9 rfl n0 5 i0 rfl rfl hi hz0 hz1 hz2 _ _ _ rfl hown s rfl ?c3 ?c4 ?c5 ?_)
  case c3 => unfold maxLen; omega
  case c4 => omega
  case c5 => have := hk1.size; omega
  intro v' w2 hown' hgrow _
  have hlt : b < w1.heap.size := (Array.getElem?_eq_some_iff.1 hbk).1
  have hb2 : w2.heap[b]? = some (.cells #[.pointer (some ⟨b, 0, none⟩), v] 90 (0, 0)) := by
    rw [hgrow.block b hlt (fun e => hne e.symm)]
    exact hbk
  have d0 : w2.cell? ⟨b, 0, none⟩ = some (.pointer (some ⟨b, 0, none⟩)) := by rw [Lib.cell_of_heap hb2]; rfl
  have d1 : w2.cell? ⟨b, 1, none⟩ = some v := by rw [Lib.cell_of_heap hb2]; rfl
  have f1 : w2.frozen? ⟨b, 1, none⟩ = false := Lib.frozen_of_heap hb2 1
  obtain ⟨A', c', rfl⟩ := own_form hown'
  go_wp2
  go_ret2
  refine ⟨rfl, .inr ?_, Kept.set ⟨hk1.1.grown hgrow (by have := hk1.size; omega) (fun k hk => (hown.lt k hk).1), hk1.2.grown hgrow (Lib.ownsRow_kind hown)⟩ hB _ _⟩
  refine Lib.BuilderAt.put hB hb2 ?_ (by decide)
  rw [bvalsApp8, List.length_append, bvals_length, bvals_length]
  exact hown'
set_option maxHeartbeats 2000000 in
set_option maxRecDepth 100000 in
theorem writeByte_any (n0 b : Nat) (l : List UInt8) (x : UInt8) (c : Int) (hc : c = (x.toNat : Int)) (w : World) (h : Wt n0 b l w) (hl : l.length + 1 ≤ 1000000) (hn : n0 ≤ w.heap.size) :
    Calls Tryz.prog 153 #[.pointer (some ⟨b, 0, none⟩), .int .u8 c] w fun e w' => e = .returned .nilIface ∧ Wt n0 b (l ++ [x]) w' ∧ Kept n0 b w w' := by
  subst hc
  obtain ⟨i0, hi, hz0, hz1, hz2⟩ := info_parts infoByte8
  have hcc := copy_any h
  clear h
  obtain ⟨c, hc⟩ : ∃ c : Int, c = (x.toNat : Int) := ⟨_, rfl⟩
  rw [← hc]
  have HC := Lib.hid hc
  clear hc
  go_enter Tryz.func153, Tryz.ntmps153
  go_wp2_with (go_at_call 151; refine hcc.mono ?_)
  rintro e w1 ⟨rfl, h1, hk1⟩
  obtain ⟨hB, v, hbk, hown, hne⟩ := h1
  have c0 : w1.cell? ⟨b, 0, none⟩ = some (.pointer (some ⟨b, 0, none⟩)) := by rw [Lib.cell_of_heap hbk]; rfl
  have c1 : w1.cell? ⟨b, 1, none⟩ = some v := by rw [Lib.cell_of_heap hbk]; rfl
  rw [bvals_length] at hown
  go_wp2_with (at_builtin; refine wpList_append_own _ rfl _ _ 86 rfl n0 5 i0 (.int .u8 0) 1 1 rfl hi hz0 hz1 hz2 rfl (by decide) _ _ _ rfl (hown.alloc _) ⟨w1.heap.size, 0, none⟩ 1 1 [.int .u8 c] rfl rfl ?c1 ?c2 ?c3 ?c4 ?c5 ?_)
  case c1 =>
    intro j u hj
    match j, hj with
    | 0, hj => simp at hj; subst hj; simp [Addr.add]
  case c2 => intro u hu; simp at hu; subst hu; rfl
  case c3 => unfold maxLen; omega
  case c4 => omega
  case c5 => have := hk1.size; simp; omega
  intro v' w2 hown' hgrow _
  have hlt : b < w1.heap.size := (Array.getElem?_eq_some_iff.1 hbk).1
  have hb2 : w2.heap[b]? = some (.cells #[.pointer (some ⟨b, 0, none⟩), v] 90 (0, 0)) := by
    rw [hgrow.block b (by simp; omega) (fun e => hne e.symm), Lib.alloc_old w1 _ b hlt]
    exact hbk
  have d0 : w2.cell? ⟨b, 0, none⟩ = some (.pointer (some ⟨b, 0, none⟩)) := by rw [Lib.cell_of_heap hb2]; rfl
  have d1 : w2.cell? ⟨b, 1, none⟩ = some v := by rw [Lib.cell_of_heap hb2]; rfl
  have f1 : w2.frozen? ⟨b, 1, none⟩ = false := Lib.frozen_of_heap hb2 1
  obtain ⟨A', c', rfl⟩ := own_form hown'
  go_wp2
  go_ret
  have hk2 := hk1.alloc hn (.cells #[.int .u8 c] 5)
  refine ⟨rfl, .inr ?_, Kept.set ⟨hk2.1.grown hgrow (by have := hk1.size; simp; omega) (fun k hk => (hown.lt k hk).1), hk2.2.grown hgrow (Lib.ownsRow_kind (hown.alloc _))⟩ hB _ _⟩
  refine Lib.BuilderAt.put hB hb2 ?_ (by decide)
  rw [bvalsApp8, List.length_append, bvals_length]
  show _
  have : bvals [x] = [.int .u8 c] := by rw [HC.out]; rfl
  rw [this]
  exact hown'
set_option maxRecDepth 100000 in
theorem wrLen_any (n0 b : Nat) (l : List UInt8) (w : World) (h : Wt n0 b l w) :
    Calls Tryz.prog 106 #[.pointer (some ⟨b, 0, none⟩)] w fun e w' => e = .returned (.int .i64 l.length) ∧ w' = w := by
  obtain ⟨p, v, hbk, hown⟩ : ∃ p v, w.heap[b]? = some (.cells #[p, v] 90 (0, 0)) ∧ w.ownsRow n0 5 1 v l.length (bvals l) := by
    rcases h with h | h <;> obtain ⟨_, v, h2, h3, _⟩ := h <;> rw [bvals_length] at h3 <;> exact ⟨_, v, h2, h3⟩
  obtain ⟨A', c', rfl⟩ := own_form hown
  have c1 : w.cell? ⟨b, 1, none⟩ = some (.slice A' l.length c') := by rw [Lib.cell_of_heap hbk]; rfl
  clear hbk hown h
  go_enter Tryz.func106, Tryz.ntmps106
  go_wp2
  go_ret
  exact ⟨rfl, rfl⟩
set_option maxHeartbeats 2000000 in
set_option maxRecDepth 100000 in
theorem wrString_any (n0 b : Nat) (l : List UInt8) (w : World) (h : Wt n0 b l w) (h0 : l ≠ []) :
    Calls Tryz.prog 107 #[.pointer (some ⟨b, 0, none⟩)] w fun e w' => e = .returned (.string (strOf l)) ∧ Below n0 w w' := by
  obtain ⟨p, v, hbk, hown⟩ : ∃ p v, w.heap[b]? = some (.cells #[p, v] 90 (0, 0)) ∧ w.ownsRow n0 5 1 v l.length (bvals l) := by
    rcases h with h | h <;> obtain ⟨_, v, h2, h3, _⟩ := h <;> rw [bvals_length] at h3 <;> exact ⟨_, v, h2, h3⟩
  have hl0 : l.length ≠ 0 := by simpa using h0
  obtain ⟨g, cap, cur, rfl, hbg, hg, hnc, hcm, hcs⟩ : ∃ g cap cur, v = .slice (some ⟨g, 0, none⟩) l.length cap ∧ n0 ≤ g ∧ w.heap[g]? = some (.cells cur 5 (0, 0)) ∧ l.length ≤ cap ∧ cap ≤ maxLen ∧ cur.size = cap * 1 := by
    rcases hown.2 with ⟨_, hz⟩ | ⟨g, cap, cur, hv, h1, h2, h3, h4, h5, _⟩
    · exact absurd hz hl0
    · exact ⟨g, cap, cur, hv, h1, h2, h3, h4, h5⟩
  have c1 : w.drew.cell? ⟨b, 1, none⟩ = some (.slice (some ⟨g, 0, none⟩) l.length cap) := by
    have : w.drew.heap[b]? = some (.cells #[p, .slice (some ⟨g, 0, none⟩) l.length cap] 90 (0, 0)) := hbk
    rw [Lib.cell_of_heap this]; rfl
  have hSD : (Builtin.unsafeSliceData_ #[86] 179 #[.slice (some ⟨g, 0, none⟩) l.length cap]).run Tryz.prog w.drew = .ok (.pointer (some ⟨g, 0, none⟩)) w.drew :=
    Lib.run_unsafeSliceData_row _ _ _ _ _ _ (by omega)
  have hUS : (Builtin.unsafeString_ #[179, 3] 9 #[.pointer (some ⟨g, 0, none⟩), .int .i64 l.length]).run Tryz.prog w.drew = .ok (.string ⟨l.toArray⟩) (w.drew.freeze ⟨g, 0, none⟩ l.length) := by
    refine Lib.run_unsafeString_row w.drew 179 3 9 5 rfl (by kernel_rfl) g cur.size (by have hg' : w.drew.heap[g]? = some (.cells cur 5 (0, 0)) := hg; simp [World.shape?, hg']) l h0 (by omega) (by unfold maxLen at hcm; omega) ?_
    intro j x hx
    have := hown.cells (g := g) rfl j (.int .u8 x.toNat) (by simp [bvals, hx])
    exact this
  clear hbk hown h
  have mixed : Tryz.prog.follows .mixedOrders = true := by kernel_rfl
  unfold strOf
  go_enter Tryz.func107, Tryz.ntmps107
  go_wp2
  go_region_o
  all_goals (go_wp2; go_ret; exact ⟨rfl, Lib.below_freeze (Below.drew (Below.refl n0 w)) (p := ⟨g, 0, none⟩) hbg _⟩)
end Go.Proofs.YtdjaijhlhhnmeaaGreatDoor
namespace Go.Proofs.YtdjaijhlhhnmeaaGreatDoor
open Go.RowKit Go.Shelf
open A8 Tk7 Lb

theorem gPow8 : Tryz.prog.globalNamed "internal/strconv.uint64pow10" = some 2 := by kernel_rfl
/-- A table of texts. -/
def TabS (g : Nat) (l : List (List UInt8)) (w : World) : Prop := g < w.heap.size ∧ ∀ (i : Nat) (c : List UInt8), l[i]? = some c → w.cell? ⟨g, i, none⟩ = some (.string (strOf c))
/-- The tables lie where their initialisers laid them. -/
structure Lay (w : World) : Prop where
  sg : SG w
  ops : TabS 1 opsA w
  fns : TabS 0 funsA w
  pow : Lib.TabIs Tryz.prog w "internal/strconv.uint64pow10" .u64 Lib.pow10Tab
  bru : 3 < w.heap.size ∧ TabAt 3 Lib.deBruijn64tab w
theorem TabS.later {g : Nat} {l : List (List UInt8)} {w w' : World} (h : TabS g l w) (hb : Below w.heap.size w w') : TabS g l w' :=
  ⟨Nat.lt_of_lt_of_le h.1 hb.size, fun i c hc => (hb.cell (p := ⟨g, i, none⟩) h.1).trans (h.2 i c hc)⟩
theorem Lay.later {w w' : World} (h : Lay w) (hb : Below w.heap.size w w') : Lay w' :=
  ⟨h.sg.later hb, h.ops.later hb, h.fns.later hb, Go.Joins.tab_stays gPow8 h.pow hb (Nat.le_refl _), Nat.lt_of_lt_of_le h.bru.1 hb.size, tabAt_below h.bru.2 hb h.bru.1⟩
theorem fmt_any (v : Int) (h : okV v) (w : World) (hL : Lay w) :
    Calls Tryz.prog 152 #[.int .i64 v, .int .i64 10] w fun e w' => e = .returned (.string (strOf (Lib.itoa v))) ∧ Below w.heap.size w w' :=
  (Tryz.strconv_FormatInt_10 v h.1 h.2 w hL.pow).mono fun _ _ ⟨he, k, os, hw⟩ => ⟨he, by rw [hw]; exact Lib.below_grow _ _ (Nat.le_refl _) _ _⟩
/-- What a writing function gives. -/
def WrP (n0 b : Nat) (l x : List UInt8) (w : World) (e : Ending) (w' : World) : Prop := e = .returned (.tuple #[]) ∧ Wt n0 b (l ++ x) w' ∧ Kept n0 b w w'
theorem writeLit_any (n0 b : Nat) (l x : List UInt8) (s : ByteArray) (hs : s = strOf x) (w : World) (h : Wt n0 b l w) (hl : l.length + x.length ≤ 1000000) (hn : n0 ≤ w.heap.size) :
    Calls Tryz.prog 100 #[.pointer (some ⟨b, 0, none⟩), .string s] w fun e w' => e = .returned (.tuple #[.int .i64 x.length, .nilIface]) ∧ Wt n0 b (l ++ x) w' ∧ Kept n0 b w w' := by
  subst hs
  exact writeStr_any n0 b l x w h hl hn
theorem wt_drew {n0 b : Nat} {l : List UInt8} {w : World} (h : Wt n0 b l w) : Wt n0 b l w.drew := h.later (Below.refl _ _).drew
theorem kept_drew {n0 b : Nat} {w w' : World} (h : Kept n0 b w.drew w') : Kept n0 b w w' := ⟨⟨h.1.os, h.1.tape, h.1.output, h.1.size, h.1.block⟩, h.2⟩
theorem wt_lt {n0 b : Nat} {l : List UInt8} {w : World} (h : Wt n0 b l w) : b < w.heap.size := h.elim (fun x => x.lt) (fun x => x.lt)
theorem wt_n0 {n0 b : Nat} {l : List UInt8} {w : World} (h : Wt n0 b l w) : n0 ≤ b := h.elim (fun x => x.1) (fun x => x.1)
theorem wt_le {n0 b : Nat} {l : List UInt8} {w : World} (h : Wt n0 b l w) : n0 ≤ w.heap.size := Nat.le_of_lt (Nat.lt_of_le_of_lt (wt_n0 h) (wt_lt h))
set_option maxRecDepth 100000 in
set_option maxHeartbeats 4000000 in
theorem wnumber_any (w0 : World) (hL : Lay w0) (b : Nat) (l : List UInt8) (v : Int) (hv : okV v) (w : World) (hW : Wt w0.heap.size b l w) (hB : Below w0.heap.size w0 w) (hl : l.length + (Lib.itoa v).length ≤ 1000000) :
    Calls Tryz.prog 101 #[.pointer (some ⟨b, 0, none⟩), .int .i64 v] w (WrP w0.heap.size b l (Lib.itoa v) w) := by
  have hf := fun w1 (hb : Below w0.heap.size w0 w1) => fmt_any v hv w1 (hL.later hb)
  have hw := fun w1 (h : Wt w0.heap.size b l w1) => writeStr_any w0.heap.size b l (Lib.itoa v) w1 h hl (wt_le h)
  obtain ⟨x, hx⟩ : ∃ x, x = Lib.itoa v := ⟨_, rfl⟩
  rw [← hx] at hf hw hl ⊢
  obtain ⟨s, hs⟩ : ∃ s, s = strOf x := ⟨_, rfl⟩
  rw [← hs] at hf hw
  obtain ⟨n0, hn⟩ : ∃ n0, n0 = w0.heap.size := ⟨_, rfl⟩
  have hWd := wt_drew hW
  have hBd := hB.drew
  have hn0 := wt_le hW
  rw [← hn] at hf hw hWd hBd hn0 ⊢
  clear hx hs hn hL hW hB
  have fin : ∀ (w1 w2 : World), Below w.drew.heap.size w.drew w1 → Kept n0 b w1 w2 → Wt n0 b (l ++ x) w2 → WrP n0 b l x w (.returned (.tuple #[])) w2 := fun w1 w2 h1 h2 h3 => ⟨rfl, h3, kept_drew ((Kept.of h1 hn0).trans h2)⟩
  go_enter Tryz.func101, Tryz.ntmps101
  go_wp2
  go_region_with (first | (go_at_call 152; refine (hf _ hBd).mono ?_; rintro e w1 ⟨rfl, hb1⟩) | (go_at_call 100; refine (hw _ (hWd.later hb1)).mono ?_; rintro e w2 ⟨rfl, hW2, hk2⟩))
  all_goals
    go_wp2
    go_end0
    exact fin _ _ hb1 hk2 hW2
set_option maxRecDepth 100000 in
set_option maxHeartbeats 4000000 in
theorem cond_any (w0 : World) (hL : Lay w0) (b : Nat) (l : List UInt8) (c : Cn) (hc : condB c = true) (ho : okC c) (w : World) (hW : Wt w0.heap.size b l w) (hB : Below w0.heap.size w0 w) (hl : l.length + (condT c).length ≤ 1000000) :
    Calls Tryz.prog 154 #[.pointer (some ⟨b, 0, none⟩), .agg (cnC c).toArray] w (WrP w0.heap.size b l (condT c) w) := by
  obtain ⟨op, va⟩ := c
  have hop : 1 ≤ op ∧ op ≤ 6 := by
    simp only [condB, Bool.and_eq_true, decide_eq_true_eq] at hc
    exact hc
  have hva := ho.2
  obtain ⟨i, rfl⟩ : ∃ i : Nat, op = (i : Int) := ⟨op.toNat, by omega⟩
  obtain ⟨s, hs⟩ : ∃ s, s = opsA.getD i [] := ⟨_, rfl⟩
  have hsi : opsA[i]? = some s := by
    have h7 : i < opsA.length := by show i < 7; omega
    rw [hs, List.getD_eq_getElem?_getD, List.getElem?_eq_getElem h7]
    rfl
  have hct : condT ⟨(i : Int), va⟩ = s ++ Lib.itoa va := by rw [hs]; rfl
  rw [hct] at hl ⊢
  rw [List.length_append] at hl
  obtain ⟨n0, hn⟩ : ∃ n0, n0 = w0.heap.size := ⟨_, rfl⟩
  obtain ⟨W, hWW⟩ : ∃ W, W = w.alloc (.cells #[.int .i64 (i : Int), .int .i64 va] 72) := ⟨_, rfl⟩
  have hn0 := wt_le hW
  have hb1 : Below w.heap.size w W := hWW ▸ b1 _ _
  have hk1 : Kept n0 b w W := Kept.of hb1 (hn ▸ hn0)
  have hBx : Bx W w.heap.size 72 [.int .i64 (i : Int), .int .i64 va] := hWW ▸ Bx.new w _ _
  have hlt := wt_lt hW
  have hW1 := hW.later hb1
  have hB1 : Below w0.heap.size w0 W := hB.trans (hn ▸ hk1.1)
  have hg := (hL.ops.2 i s hsi)
  have hg2 : W.drew.cell? ⟨1, i, none⟩ = some (.string (strOf s)) := (hB1.drew.cell (p := ⟨1, i, none⟩) hL.ops.1).trans hg
  have c0 := hBx.blk.drew.cell 0 _ rfl
  have hw := fun w1 (h : Wt w0.heap.size b l w1) => writeStr_any w0.heap.size b l s w1 h (by omega) (wt_le h)
  have hnum := fun w1 (hk : Kept n0 b W.drew w1) (h : Wt w0.heap.size b (l ++ s) w1) => wnumber_any w0 hL b (l ++ s) va hva w1 h (by rw [hn] at hk; exact hB1.drew.trans hk.1) (by rw [List.length_append]; omega)
  have hcell : ∀ w1, Kept n0 b W.drew w1 → w1.cell? ⟨w.heap.size, 1, none⟩ = some (.int .i64 va) := fun w1 hk => (Bx.kept (w := W.drew) hBx hk (by omega) (by decide)).blk.cell 1 _ rfl
  obtain ⟨x, hx⟩ : ∃ x, x = Lib.itoa va := ⟨_, rfl⟩
  rw [← hx] at hnum ⊢
  have hWd := wt_drew hW1
  have h6 : (i : Int) < 7 := by omega
  have fin : ∀ (w1 w2 : World), Kept n0 b W.drew w1 → Kept n0 b w1 w2 → Wt n0 b (l ++ s ++ x) w2 → WrP n0 b l (s ++ x) w (.returned (.tuple #[])) w2 := fun w1 w2 h1 h2 h3 => ⟨rfl, by rw [← List.append_assoc]; exact h3, hk1.trans ((kept_drew h1).trans h2)⟩
  obtain ⟨S, hS⟩ : ∃ S, S = strOf s := ⟨_, rfl⟩
  rw [← hS] at hw hg2
  unfold WrP at hnum
  rw [← hn] at hw hnum hWd ⊢
  simp only [cnC]
  clear hx hs hS hsi hct hL hW hB hg hBx hB1 hW1 hb1 hk1 ho hva hc
  go_enter Tryz.func154, Tryz.ntmps154
  go_wp2_with fail
  rw [← hWW]
  clear hWW
  go_region_with (go_at_call 100; refine (hw _ hWd).mono ?_; rintro e w1 ⟨rfl, hW2, hk2⟩)
  all_goals
    have c1 := hcell _ hk2
    go_wp2_with (go_at_call 101; refine (hnum _ hk2 hW2).mono ?_; rintro e w2 ⟨rfl, hW3, hk3⟩)
    go_end0
    exact fin _ _ hk2 hk3 hW3
theorem kept_n0 {n0 b : Nat} {w w1 : World} (h : Kept n0 b w w1) (hn : n0 ≤ w.heap.size) : n0 ≤ w1.heap.size := Nat.le_trans hn h.size
set_option maxRecDepth 100000 in
set_option maxHeartbeats 8000000 in
theorem agg_any (w0 : World) (hL : Lay w0) (b : Nat) (l : List UInt8) (a : Ag) (ha : aggB a = true) (w : World) (hW : Wt w0.heap.size b l w) (hB : Below w0.heap.size w0 w) (hl : l.length + (aggT a).length ≤ 1000000) :
    Calls Tryz.prog 105 #[.pointer (some ⟨b, 0, none⟩), .agg (agC a).toArray] w (WrP w0.heap.size b l (aggT a) w) := by
  obtain ⟨fn, nm⟩ := a
  have hop : 1 ≤ fn ∧ fn ≤ 6 := by
    simp only [aggB, Bool.and_eq_true, decide_eq_true_eq] at ha
    exact ha.1
  obtain ⟨i, rfl⟩ : ∃ i : Nat, fn = (i : Int) := ⟨fn.toNat, by omega⟩
  obtain ⟨s, hs⟩ : ∃ s, s = funsA.getD i [] := ⟨_, rfl⟩
  have hsi : funsA[i]? = some s := by
    have h7 : i < funsA.length := by show i < 7; omega
    rw [hs, List.getD_eq_getElem?_getD, List.getElem?_eq_getElem h7]
    rfl
  have hct : aggT ⟨(i : Int), nm⟩ = s ++ [40] ++ nm ++ [41] := by rw [hs]; rfl
  rw [hct] at hl ⊢
  simp only [List.length_append, List.length_singleton] at hl
  obtain ⟨n0, hn⟩ : ∃ n0, n0 = w0.heap.size := ⟨_, rfl⟩
  obtain ⟨W, hWW⟩ : ∃ W, W = w.alloc (.cells #[.int .i64 (i : Int), .string (strOf nm)] 70) := ⟨_, rfl⟩
  have hn0 := wt_le hW
  have hb1 : Below w.heap.size w W := hWW ▸ b1 _ _
  have hk1 : Kept n0 b w W := Kept.of hb1 (hn ▸ hn0)
  have hBx : Bx W w.heap.size 70 [.int .i64 (i : Int), .string (strOf nm)] := hWW ▸ Bx.new w _ _
  have hlt := wt_lt hW
  have hW1 := hW.later hb1
  have hB1 : Below w0.heap.size w0 W := hB.trans (hn ▸ hk1.1)
  have hg := (hL.fns.2 i s hsi)
  have hg2 : W.drew.cell? ⟨0, i, none⟩ = some (.string (strOf s)) := (hB1.drew.cell (p := ⟨0, i, none⟩) hL.fns.1).trans hg
  have c0 := hBx.blk.drew.cell 0 _ rfl
  have hA := fun w1 (h : Wt n0 b l w1) => writeStr_any n0 b l s w1 h (by omega) (wt_le h)
  have hP := fun w1 (h : Wt n0 b (l ++ s) w1) => writeByte_any n0 b (l ++ s) 40 40 rfl w1 h (by rw [List.length_append]; omega) (wt_le h)
  have hC := fun w1 (h : Wt n0 b (l ++ s ++ [40]) w1) => writeStr_any n0 b (l ++ s ++ [40]) nm w1 h (by simp only [List.length_append, List.length_singleton]; omega) (wt_le h)
  have hD := fun w1 (h : Wt n0 b (l ++ s ++ [40] ++ nm) w1) => writeByte_any n0 b (l ++ s ++ [40] ++ nm) 41 41 rfl w1 h (by simp only [List.length_append, List.length_singleton]; omega) (wt_le h)
  have hcell : ∀ w1, Kept n0 b W.drew w1 → w1.drew.cell? ⟨w.heap.size, 1, none⟩ = some (.string (strOf nm)) := fun w1 hk => (Bx.kept (w := W.drew) hBx hk (by omega) (by decide)).blk.drew.cell 1 _ rfl
  have hWd := wt_drew hW1
  have h6 : (i : Int) < 7 := by omega
  have fin : ∀ (w1 w2 w3 w4 : World), Kept n0 b W.drew w1 → Kept n0 b w1 w2 → Kept n0 b w2.drew w3 → Kept n0 b w3 w4 → Wt n0 b (l ++ s ++ [40] ++ nm ++ [41]) w4 → WrP n0 b l (s ++ [40] ++ nm ++ [41]) w (.returned (.tuple #[])) w4 := fun w1 w2 w3 w4 h1 h2 h3 h4 h5 => ⟨rfl, by simpa only [List.append_assoc] using h5, hk1.trans ((kept_drew h1).trans (h2.trans ((kept_drew h3).trans h4)))⟩
  obtain ⟨S, hS⟩ : ∃ S, S = strOf s := ⟨_, rfl⟩
  obtain ⟨M, hM⟩ : ∃ S, S = strOf nm := ⟨_, rfl⟩
  simp only [agC]
  rw [← hS] at hA hg2
  rw [← hM] at hC hcell hWW ⊢
  rw [← hn] at hWd ⊢
  clear hs hS hM hsi hct hL hW hB hg hBx hB1 hW1 hb1 hk1 ha
  go_enter Tryz.func105, Tryz.ntmps105
  go_wp2_with fail
  rw [← hWW]
  clear hWW
  go_region_with (go_at_call 100; refine (hA _ hWd).mono ?_; rintro e w1 ⟨rfl, hW2, hk2⟩)
  all_goals
    go_wp2_with (go_at_call 153; with_reducible refine (hP _ hW2).mono ?_; rintro e w2 ⟨rfl, hW3, hk3⟩; have c1 := hcell _ (hk2.trans hk3))
    go_region_with (go_at_call 100; refine (hC _ (wt_drew hW3)).mono ?_; rintro e w3 ⟨rfl, hW4, hk4⟩)
    all_goals
      go_wp2_with (go_at_call 153; with_reducible refine (hD _ hW4).mono ?_; rintro e w4 ⟨rfl, hW5, hk5⟩)
      go_end0
      exact fin _ _ _ _ hk2 hk3 hk4 hk5 hW5
set_option maxRecDepth 100000 in
set_option maxHeartbeats 4000000 in
theorem have_any (w0 : World) (hL : Lay w0) (b : Nat) (l : List UInt8) (h : Hv) (hh : haveB h = true) (ho : okC h.cn) (w : World) (hW : Wt w0.heap.size b l w) (hB : Below w0.heap.size w0 w) (hl : l.length + (haveT h).length ≤ 1000000) :
    Calls Tryz.prog 103 #[.pointer (some ⟨b, 0, none⟩), .agg (hvC h).toArray] w (WrP w0.heap.size b l (haveT h) w) := by
  obtain ⟨⟨fn, nm⟩, ⟨op, va⟩⟩ := h
  rw [haveB, Bool.and_eq_true] at hh
  obtain ⟨h1, h2⟩ := hh
  obtain ⟨s, hs⟩ : ∃ s, s = aggT ⟨fn, nm⟩ := ⟨_, rfl⟩
  obtain ⟨t, ht⟩ : ∃ t, t = condT ⟨op, va⟩ := ⟨_, rfl⟩
  have hct : haveT ⟨⟨fn, nm⟩, ⟨op, va⟩⟩ = s ++ [32] ++ t := by rw [hs, ht]; rfl
  rw [hct] at hl ⊢
  simp only [List.length_append, List.length_singleton] at hl
  obtain ⟨n0, hn⟩ : ∃ n0, n0 = w0.heap.size := ⟨_, rfl⟩
  obtain ⟨W, hWW⟩ : ∃ W, W = w.alloc (.cells #[.int .i64 fn, .string (strOf nm), .int .i64 op, .int .i64 va] 74) := ⟨_, rfl⟩
  have hn0 := wt_le hW
  have hb1 : Below w.heap.size w W := hWW ▸ b1 _ _
  have hk1 : Kept n0 b w W := Kept.of hb1 (hn ▸ hn0)
  have hBx : Bx W w.heap.size 74 [.int .i64 fn, .string (strOf nm), .int .i64 op, .int .i64 va] := hWW ▸ Bx.new w _ _
  have hlt := wt_lt hW
  have hW1 := hW.later hb1
  have hB1 : Below w0.heap.size w0 W := hB.trans (hn ▸ hk1.1)
  have c0 := hBx.blk.cell 0 _ rfl
  have c1 := hBx.blk.cell 1 _ rfl
  have hA := agg_any w0 hL b l ⟨fn, nm⟩ h1 W hW1 hB1 (by rw [← hs]; omega)
  have hP := fun w1 (h : Wt n0 b (l ++ s) w1) => writeByte_any n0 b (l ++ s) 32 32 rfl w1 h (by rw [List.length_append]; omega) (wt_le h)
  have hC := fun w1 (hk : Kept n0 b W w1) (h : Wt w0.heap.size b (l ++ s ++ [32]) w1) => cond_any w0 hL b (l ++ s ++ [32]) ⟨op, va⟩ h2 ho w1 h (hB1.trans (hn ▸ hk.1)) (by rw [← ht]; simp only [List.length_append, List.length_singleton]; omega)
  have hcell : ∀ w1, Kept n0 b W w1 → w1.cell? ⟨w.heap.size, 2, none⟩ = some (.int .i64 op) ∧ w1.cell? ⟨w.heap.size, 3, none⟩ = some (.int .i64 va) := fun w1 hk => ⟨(hBx.kept hk (by omega) (by decide)).blk.cell 2 _ rfl, (hBx.kept hk (by omega) (by decide)).blk.cell 3 _ rfl⟩
  have fin : ∀ (w1 w2 w3 : World), Kept n0 b W w1 → Kept n0 b w1 w2 → Kept n0 b w2 w3 → Wt n0 b (l ++ s ++ [32] ++ t) w3 → WrP n0 b l (s ++ [32] ++ t) w (.returned (.tuple #[])) w3 := fun w1 w2 w3 h1 h2 h3 h5 => ⟨rfl, by simpa only [List.append_assoc] using h5, hk1.trans (h1.trans (h2.trans h3))⟩
  unfold WrP at hA hC
  simp only [agC, cnC] at hA hC
  simp only [hvC]
  rw [← hs] at hA
  rw [← ht] at hC
  rw [← hn] at hA hC ⊢
  clear hs ht hct hL hW hB hBx hB1 hW1 hb1 hk1 h1 h2 ho
  go_enter Tryz.func103, Tryz.ntmps103
  go_wp2_with fail
  rw [← hWW]
  clear hWW
  go_wp2_with (go_at_call 105; refine hA.mono ?_; rintro e w1 ⟨rfl, hW2, hk2⟩)
  go_wp2_with (go_at_call 153; refine (hP _ hW2).mono ?_; rintro e w2 ⟨rfl, hW3, hk3⟩; obtain ⟨d2, d3⟩ := hcell _ (hk2.trans hk3))
  go_wp2_with (go_at_call 154; refine (hC _ (hk2.trans hk3) hW3).mono ?_; rintro e w3 ⟨rfl, hW4, hk4⟩)
  go_end0
  exact fin _ _ _ hk2 hk3 hk4 hW4
end Go.Proofs.YtdjaijhlhhnmeaaGreatDoor
