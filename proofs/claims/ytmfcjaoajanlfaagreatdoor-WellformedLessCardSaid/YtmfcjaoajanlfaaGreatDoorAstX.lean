/- Walks: what the writer writes of numbers, conditions and aggregates. -/
import Derived.Test.YtmfcjaoajanlfaaGreatDoorAstW
import Derived.Test.YtmfcjaoajanlfaaGreatDoorAstThr
import Derived.Test.YtmfcjaoajanlfaaGreatDoorLabelOne
import Derived.Lib.SmallJoins
import Derived.Lib.LaidTab
import Derived.Lib.AppendIntMem
import Derived.Lib.ItoaLen
import Derived.Deep.RegionWith
namespace Go.Proofs.YtmfcjaoajanlfaaGreatDoor
open Go.RowKit Go.Shelf
open A8 Tk7 Lb

theorem gPow8 : Tryz.prog.globalNamed "internal/strconv.uint64pow10" = some 2 := by kernel_rfl
/-- A table of texts. -/
def TabS (g : Nat) (l : List (List UInt8)) (w : World) : Prop := g < w.heap.size ∧ ∀ (i : Nat) (c : List UInt8), l[i]? = some c → w.cell? ⟨g, i, none⟩ = some (.string (strOf c))
/-- The tables lie where their initialisers laid them. -/
structure Lay (w : World) : Prop where
  sg : SG w
  ops : TabS 1 opsA w
  fns : TabS 0 funsA w
  pow : Lib.TabIs Tryz.prog w "internal/strconv.uint64pow10" .u64 Lib.pow10Tab
  bru : 3 < w.heap.size ∧ TabAt 3 Lib.deBruijn64tab w
theorem TabS.later {g : Nat} {l : List (List UInt8)} {w w' : World} (h : TabS g l w) (hb : Below w.heap.size w w') : TabS g l w' :=
  ⟨Nat.lt_of_lt_of_le h.1 hb.size, fun i c hc => (hb.cell (p := ⟨g, i, none⟩) h.1).trans (h.2 i c hc)⟩
theorem Lay.later {w w' : World} (h : Lay w) (hb : Below w.heap.size w w') : Lay w' :=
  ⟨h.sg.later hb, h.ops.later hb, h.fns.later hb, Go.Joins.tab_stays gPow8 h.pow hb (Nat.le_refl _), Nat.lt_of_lt_of_le h.bru.1 hb.size, tabAt_below h.bru.2 hb h.bru.1⟩
theorem fmt_any (v : Int) (h : okV v) (w : World) (hL : Lay w) :
    Calls Tryz.prog 76 #[.int .i64 v, .int .i64 10] w fun e w' => e = .returned (.string (strOf (Lib.itoa v))) ∧ Below w.heap.size w w' :=
  (Tryz.strconv_FormatInt_10 v h.1 h.2 w hL.pow).mono fun _ _ ⟨he, k, os, hw⟩ => ⟨he, by rw [hw]; exact Lib.below_grow _ _ (Nat.le_refl _) _ _⟩
/-- What a writing function gives. -/
def WrP (n0 b : Nat) (l x : List UInt8) (w : World) (e : Ending) (w' : World) : Prop := e = .returned (.tuple #[]) ∧ Wt n0 b (l ++ x) w' ∧ Kept n0 b w w'
theorem writeLit_any (n0 b : Nat) (l x : List UInt8) (s : ByteArray) (hs : s = strOf x) (w : World) (h : Wt n0 b l w) (hl : l.length + x.length ≤ 1000000) (hn : n0 ≤ w.heap.size) :
    Calls Tryz.prog 52 #[.pointer (some ⟨b, 0, none⟩), .string s] w fun e w' => e = .returned (.tuple #[.int .i64 x.length, .nilIface]) ∧ Wt n0 b (l ++ x) w' ∧ Kept n0 b w w' := by
  subst hs
  exact writeStr_any n0 b l x w h hl hn
theorem wt_drew {n0 b : Nat} {l : List UInt8} {w : World} (h : Wt n0 b l w) : Wt n0 b l w.drew := h.later (Below.refl _ _).drew
theorem kept_drew {n0 b : Nat} {w w' : World} (h : Kept n0 b w.drew w') : Kept n0 b w w' := ⟨⟨h.1.os, h.1.tape, h.1.output, h.1.size, h.1.block⟩, h.2⟩
theorem wt_lt {n0 b : Nat} {l : List UInt8} {w : World} (h : Wt n0 b l w) : b < w.heap.size := h.elim (fun x => x.lt) (fun x => x.lt)
theorem wt_n0 {n0 b : Nat} {l : List UInt8} {w : World} (h : Wt n0 b l w) : n0 ≤ b := h.elim (fun x => x.1) (fun x => x.1)
theorem wt_le {n0 b : Nat} {l : List UInt8} {w : World} (h : Wt n0 b l w) : n0 ≤ w.heap.size := Nat.le_of_lt (Nat.lt_of_le_of_lt (wt_n0 h) (wt_lt h))
set_option maxRecDepth 100000 in
set_option maxHeartbeats 4000000 in
theorem wnumber_any (w0 : World) (hL : Lay w0) (b : Nat) (l : List UInt8) (v : Int) (hv : okV v) (w : World) (hW : Wt w0.heap.size b l w) (hB : Below w0.heap.size w0 w) (hl : l.length + (Lib.itoa v).length ≤ 1000000) :
    Calls Tryz.prog 53 #[.pointer (some ⟨b, 0, none⟩), .int .i64 v] w (WrP w0.heap.size b l (Lib.itoa v) w) := by
  have hf := fun w1 (hb : Below w0.heap.size w0 w1) => fmt_any v hv w1 (hL.later hb)
  have hw := fun w1 (h : Wt w0.heap.size b l w1) => writeStr_any w0.heap.size b l (Lib.itoa v) w1 h hl (wt_le h)
  obtain ⟨x, hx⟩ : ∃ x, x = Lib.itoa v := ⟨_, rfl⟩
  rw [← hx] at hf hw hl ⊢
  obtain ⟨s, hs⟩ : ∃ s, s = strOf x := ⟨_, rfl⟩
  rw [← hs] at hf hw
  obtain ⟨n0, hn⟩ : ∃ n0, n0 = w0.heap.size := ⟨_, rfl⟩
  have hWd := wt_drew hW
  have hBd := hB.drew
  have hn0 := wt_le hW
  rw [← hn] at hf hw hWd hBd hn0 ⊢
  clear hx hs hn hL hW hB
  have fin : ∀ (w1 w2 : World), Below w.drew.heap.size w.drew w1 → Kept n0 b w1 w2 → Wt n0 b (l ++ x) w2 → WrP n0 b l x w (.returned (.tuple #[])) w2 := fun w1 w2 h1 h2 h3 => ⟨rfl, h3, kept_drew ((Kept.of h1 hn0).trans h2)⟩
  go_enter Tryz.func53, Tryz.ntmps53
  go_wp2
  go_region_with (first | (go_at_call 76; refine (hf _ hBd).mono ?_; rintro e w1 ⟨rfl, hb1⟩) | (go_at_call 52; refine (hw _ (hWd.later hb1)).mono ?_; rintro e w2 ⟨rfl, hW2, hk2⟩))
  all_goals
    go_wp2
    go_end0
    exact fin _ _ hb1 hk2 hW2
theorem itoa_len {v : Int} (h : okV v) : (Lib.itoa v).length ≤ 21 := Lib.itoa_length_le v h.1 h.2
set_option maxRecDepth 100000 in
set_option maxHeartbeats 4000000 in
theorem cond_any (w0 : World) (hL : Lay w0) (b : Nat) (l : List UInt8) (c : Cn) (hc : condB c = true) (ho : okC c) (w : World) (hW : Wt w0.heap.size b l w) (hB : Below w0.heap.size w0 w) (hl : l.length + (condT c).length ≤ 1000000) :
    Calls Tryz.prog 78 #[.pointer (some ⟨b, 0, none⟩), .agg (cnC c).toArray] w (WrP w0.heap.size b l (condT c) w) := by
  obtain ⟨op, va⟩ := c
  have hop : 1 ≤ op ∧ op ≤ 6 := by
    simp only [condB, Bool.and_eq_true, decide_eq_true_eq] at hc
    exact hc
  have hva := ho.2
  obtain ⟨i, rfl⟩ : ∃ i : Nat, op = (i : Int) := ⟨op.toNat, by omega⟩
  obtain ⟨s, hs⟩ : ∃ s, s = opsA.getD i [] := ⟨_, rfl⟩
  have hsi : opsA[i]? = some s := by
    have h7 : i < opsA.length := by show i < 7; omega
    rw [hs, List.getD_eq_getElem?_getD, List.getElem?_eq_getElem h7]
    rfl
  have hct : condT ⟨(i : Int), va⟩ = s ++ Lib.itoa va := by rw [hs]; rfl
  rw [hct] at hl ⊢
  rw [List.length_append] at hl
  obtain ⟨n0, hn⟩ : ∃ n0, n0 = w0.heap.size := ⟨_, rfl⟩
  obtain ⟨W, hWW⟩ : ∃ W, W = w.alloc (.cells #[.int .i64 (i : Int), .int .i64 va] 59) := ⟨_, rfl⟩
  have hn0 := wt_le hW
  have hb1 : Below w.heap.size w W := hWW ▸ b1 _ _
  have hk1 : Kept n0 b w W := Kept.of hb1 (hn ▸ hn0)
  have hBx : Bx W w.heap.size 59 [.int .i64 (i : Int), .int .i64 va] := hWW ▸ Bx.new w _ _
  have hlt := wt_lt hW
  have hW1 := hW.later hb1
  have hB1 : Below w0.heap.size w0 W := hB.trans (hn ▸ hk1.1)
  have hg := (hL.ops.2 i s hsi)
  have hg2 : W.drew.cell? ⟨1, i, none⟩ = some (.string (strOf s)) := (hB1.drew.cell (p := ⟨1, i, none⟩) hL.ops.1).trans hg
  have c0 := hBx.blk.drew.cell 0 _ rfl
  have hw := fun w1 (h : Wt w0.heap.size b l w1) => writeStr_any w0.heap.size b l s w1 h (by omega) (wt_le h)
  have hnum := fun w1 (hk : Kept n0 b W.drew w1) (h : Wt w0.heap.size b (l ++ s) w1) => wnumber_any w0 hL b (l ++ s) va hva w1 h (by rw [hn] at hk; exact hB1.drew.trans hk.1) (by rw [List.length_append]; omega)
  have hcell : ∀ w1, Kept n0 b W.drew w1 → w1.cell? ⟨w.heap.size, 1, none⟩ = some (.int .i64 va) := fun w1 hk => (Bx.kept (w := W.drew) hBx hk (by omega) (by decide)).blk.cell 1 _ rfl
  obtain ⟨x, hx⟩ : ∃ x, x = Lib.itoa va := ⟨_, rfl⟩
  rw [← hx] at hnum ⊢
  have hWd := wt_drew hW1
  have h6 : (i : Int) < 7 := by omega
  have fin : ∀ (w1 w2 : World), Kept n0 b W.drew w1 → Kept n0 b w1 w2 → Wt n0 b (l ++ s ++ x) w2 → WrP n0 b l (s ++ x) w (.returned (.tuple #[])) w2 := fun w1 w2 h1 h2 h3 => ⟨rfl, by rw [← List.append_assoc]; exact h3, hk1.trans ((kept_drew h1).trans h2)⟩
  obtain ⟨S, hS⟩ : ∃ S, S = strOf s := ⟨_, rfl⟩
  rw [← hS] at hw hg2
  unfold WrP at hnum
  rw [← hn] at hw hnum hWd ⊢
  simp only [cnC]
  clear hx hs hS hsi hct hL hW hB hg hBx hB1 hW1 hb1 hk1 ho hva hc
  go_enter Tryz.func78, Tryz.ntmps78
  go_wp2_with fail
  rw [← hWW]
  clear hWW
  go_region_with (go_at_call 52; refine (hw _ hWd).mono ?_; rintro e w1 ⟨rfl, hW2, hk2⟩)
  all_goals
    have c1 := hcell _ hk2
    go_wp2_with (go_at_call 53; refine (hnum _ hk2 hW2).mono ?_; rintro e w2 ⟨rfl, hW3, hk3⟩)
    go_end0
    exact fin _ _ hk2 hk3 hW3
theorem kept_n0 {n0 b : Nat} {w w1 : World} (h : Kept n0 b w w1) (hn : n0 ≤ w.heap.size) : n0 ≤ w1.heap.size := Nat.le_trans hn h.size
set_option maxRecDepth 100000 in
set_option maxHeartbeats 8000000 in
theorem agg_any (w0 : World) (hL : Lay w0) (b : Nat) (l : List UInt8) (a : Ag) (ha : aggB a = true) (w : World) (hW : Wt w0.heap.size b l w) (hB : Below w0.heap.size w0 w) (hl : l.length + (aggT a).length ≤ 1000000) :
    Calls Tryz.prog 57 #[.pointer (some ⟨b, 0, none⟩), .agg (agC a).toArray] w (WrP w0.heap.size b l (aggT a) w) := by
  obtain ⟨fn, nm⟩ := a
  have hop : 1 ≤ fn ∧ fn ≤ 6 := by
    simp only [aggB, Bool.and_eq_true, decide_eq_true_eq] at ha
    exact ha.1
  obtain ⟨i, rfl⟩ : ∃ i : Nat, fn = (i : Int) := ⟨fn.toNat, by omega⟩
  obtain ⟨s, hs⟩ : ∃ s, s = funsA.getD i [] := ⟨_, rfl⟩
  have hsi : funsA[i]? = some s := by
    have h7 : i < funsA.length := by show i < 7; omega
    rw [hs, List.getD_eq_getElem?_getD, List.getElem?_eq_getElem h7]
    rfl
  have hct : aggT ⟨(i : Int), nm⟩ = s ++ [40] ++ nm ++ [41] := by rw [hs]; rfl
  rw [hct] at hl ⊢
  simp only [List.length_append, List.length_singleton] at hl
  obtain ⟨n0, hn⟩ : ∃ n0, n0 = w0.heap.size := ⟨_, rfl⟩
  obtain ⟨W, hWW⟩ : ∃ W, W = w.alloc (.cells #[.int .i64 (i : Int), .string (strOf nm)] 55) := ⟨_, rfl⟩
  have hn0 := wt_le hW
  have hb1 : Below w.heap.size w W := hWW ▸ b1 _ _
  have hk1 : Kept n0 b w W := Kept.of hb1 (hn ▸ hn0)
  have hBx : Bx W w.heap.size 55 [.int .i64 (i : Int), .string (strOf nm)] := hWW ▸ Bx.new w _ _
  have hlt := wt_lt hW
  have hW1 := hW.later hb1
  have hB1 : Below w0.heap.size w0 W := hB.trans (hn ▸ hk1.1)
  have hg := (hL.fns.2 i s hsi)
  have hg2 : W.drew.cell? ⟨0, i, none⟩ = some (.string (strOf s)) := (hB1.drew.cell (p := ⟨0, i, none⟩) hL.fns.1).trans hg
  have c0 := hBx.blk.drew.cell 0 _ rfl
  have hA := fun w1 (h : Wt n0 b l w1) => writeStr_any n0 b l s w1 h (by omega) (wt_le h)
  have hP := fun w1 (h : Wt n0 b (l ++ s) w1) => writeByte_any n0 b (l ++ s) 40 40 rfl w1 h (by rw [List.length_append]; omega) (wt_le h)
  have hC := fun w1 (h : Wt n0 b (l ++ s ++ [40]) w1) => writeStr_any n0 b (l ++ s ++ [40]) nm w1 h (by simp only [List.length_append, List.length_singleton]; omega) (wt_le h)
  have hD := fun w1 (h : Wt n0 b (l ++ s ++ [40] ++ nm) w1) => writeByte_any n0 b (l ++ s ++ [40] ++ nm) 41 41 rfl w1 h (by simp only [List.length_append, List.length_singleton]; omega) (wt_le h)
  have hcell : ∀ w1, Kept n0 b W.drew w1 → w1.drew.cell? ⟨w.heap.size, 1, none⟩ = some (.string (strOf nm)) := fun w1 hk => (Bx.kept (w := W.drew) hBx hk (by omega) (by decide)).blk.drew.cell 1 _ rfl
  have hWd := wt_drew hW1
  have h6 : (i : Int) < 7 := by omega
  have fin : ∀ (w1 w2 w3 w4 : World), Kept n0 b W.drew w1 → Kept n0 b w1 w2 → Kept n0 b w2.drew w3 → Kept n0 b w3 w4 → Wt n0 b (l ++ s ++ [40] ++ nm ++ [41]) w4 → WrP n0 b l (s ++ [40] ++ nm ++ [41]) w (.returned (.tuple #[])) w4 := fun w1 w2 w3 w4 h1 h2 h3 h4 h5 => ⟨rfl, by simpa only [List.append_assoc] using h5, hk1.trans ((kept_drew h1).trans (h2.trans ((kept_drew h3).trans h4)))⟩
  obtain ⟨S, hS⟩ : ∃ S, S = strOf s := ⟨_, rfl⟩
  obtain ⟨M, hM⟩ : ∃ S, S = strOf nm := ⟨_, rfl⟩
  simp only [agC]
  rw [← hS] at hA hg2
  rw [← hM] at hC hcell hWW ⊢
  rw [← hn] at hWd ⊢
  clear hs hS hM hsi hct hL hW hB hg hBx hB1 hW1 hb1 hk1 ha
  go_enter Tryz.func57, Tryz.ntmps57
  go_wp2_with fail
  rw [← hWW]
  clear hWW
  go_region_with (go_at_call 52; refine (hA _ hWd).mono ?_; rintro e w1 ⟨rfl, hW2, hk2⟩)
  all_goals
    go_wp2_with (go_at_call 77; with_reducible refine (hP _ hW2).mono ?_; rintro e w2 ⟨rfl, hW3, hk3⟩; have c1 := hcell _ (hk2.trans hk3))
    go_region_with (go_at_call 52; refine (hC _ (wt_drew hW3)).mono ?_; rintro e w3 ⟨rfl, hW4, hk4⟩)
    all_goals
      go_wp2_with (go_at_call 77; with_reducible refine (hD _ hW4).mono ?_; rintro e w4 ⟨rfl, hW5, hk5⟩)
      go_end0
      exact fin _ _ _ _ hk2 hk3 hk4 hk5 hW5
set_option maxRecDepth 100000 in
set_option maxHeartbeats 4000000 in
theorem have_any (w0 : World) (hL : Lay w0) (b : Nat) (l : List UInt8) (h : Hv) (hh : haveB h = true) (ho : okC h.cn) (w : World) (hW : Wt w0.heap.size b l w) (hB : Below w0.heap.size w0 w) (hl : l.length + (haveT h).length ≤ 1000000) :
    Calls Tryz.prog 55 #[.pointer (some ⟨b, 0, none⟩), .agg (hvC h).toArray] w (WrP w0.heap.size b l (haveT h) w) := by
  obtain ⟨⟨fn, nm⟩, ⟨op, va⟩⟩ := h
  rw [haveB, Bool.and_eq_true] at hh
  obtain ⟨h1, h2⟩ := hh
  obtain ⟨s, hs⟩ : ∃ s, s = aggT ⟨fn, nm⟩ := ⟨_, rfl⟩
  obtain ⟨t, ht⟩ : ∃ t, t = condT ⟨op, va⟩ := ⟨_, rfl⟩
  have hct : haveT ⟨⟨fn, nm⟩, ⟨op, va⟩⟩ = s ++ [32] ++ t := by rw [hs, ht]; rfl
  rw [hct] at hl ⊢
  simp only [List.length_append, List.length_singleton] at hl
  obtain ⟨n0, hn⟩ : ∃ n0, n0 = w0.heap.size := ⟨_, rfl⟩
  obtain ⟨W, hWW⟩ : ∃ W, W = w.alloc (.cells #[.int .i64 fn, .string (strOf nm), .int .i64 op, .int .i64 va] 61) := ⟨_, rfl⟩
  have hn0 := wt_le hW
  have hb1 : Below w.heap.size w W := hWW ▸ b1 _ _
  have hk1 : Kept n0 b w W := Kept.of hb1 (hn ▸ hn0)
  have hBx : Bx W w.heap.size 61 [.int .i64 fn, .string (strOf nm), .int .i64 op, .int .i64 va] := hWW ▸ Bx.new w _ _
  have hlt := wt_lt hW
  have hW1 := hW.later hb1
  have hB1 : Below w0.heap.size w0 W := hB.trans (hn ▸ hk1.1)
  have c0 := hBx.blk.cell 0 _ rfl
  have c1 := hBx.blk.cell 1 _ rfl
  have hA := agg_any w0 hL b l ⟨fn, nm⟩ h1 W hW1 hB1 (by rw [← hs]; omega)
  have hP := fun w1 (h : Wt n0 b (l ++ s) w1) => writeByte_any n0 b (l ++ s) 32 32 rfl w1 h (by rw [List.length_append]; omega) (wt_le h)
  have hC := fun w1 (hk : Kept n0 b W w1) (h : Wt w0.heap.size b (l ++ s ++ [32]) w1) => cond_any w0 hL b (l ++ s ++ [32]) ⟨op, va⟩ h2 ho w1 h (hB1.trans (hn ▸ hk.1)) (by rw [← ht]; simp only [List.length_append, List.length_singleton]; omega)
  have hcell : ∀ w1, Kept n0 b W w1 → w1.cell? ⟨w.heap.size, 2, none⟩ = some (.int .i64 op) ∧ w1.cell? ⟨w.heap.size, 3, none⟩ = some (.int .i64 va) := fun w1 hk => ⟨(hBx.kept hk (by omega) (by decide)).blk.cell 2 _ rfl, (hBx.kept hk (by omega) (by decide)).blk.cell 3 _ rfl⟩
  have fin : ∀ (w1 w2 w3 : World), Kept n0 b W w1 → Kept n0 b w1 w2 → Kept n0 b w2 w3 → Wt n0 b (l ++ s ++ [32] ++ t) w3 → WrP n0 b l (s ++ [32] ++ t) w (.returned (.tuple #[])) w3 := fun w1 w2 w3 h1 h2 h3 h5 => ⟨rfl, by simpa only [List.append_assoc] using h5, hk1.trans (h1.trans (h2.trans h3))⟩
  unfold WrP at hA hC
  simp only [agC, cnC] at hA hC
  simp only [hvC]
  rw [← hs] at hA
  rw [← ht] at hC
  rw [← hn] at hA hC ⊢
  clear hs ht hct hL hW hB hBx hB1 hW1 hb1 hk1 h1 h2 ho
  go_enter Tryz.func55, Tryz.ntmps55
  go_wp2_with fail
  rw [← hWW]
  clear hWW
  go_wp2_with (go_at_call 57; refine hA.mono ?_; rintro e w1 ⟨rfl, hW2, hk2⟩)
  go_wp2_with (go_at_call 77; refine (hP _ hW2).mono ?_; rintro e w2 ⟨rfl, hW3, hk3⟩; obtain ⟨d2, d3⟩ := hcell _ (hk2.trans hk3))
  go_wp2_with (go_at_call 78; refine (hC _ (hk2.trans hk3) hW3).mono ?_; rintro e w3 ⟨rfl, hW4, hk4⟩)
  go_end0
  exact fin _ _ _ hk2 hk3 hk4 hW4
end Go.Proofs.YtmfcjaoajanlfaaGreatDoor
