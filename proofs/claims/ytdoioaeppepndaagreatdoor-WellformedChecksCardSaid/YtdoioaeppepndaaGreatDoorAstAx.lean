/- Package ast: copies of conditions, leaves, atoms. -/
import Derived.Test.YtdoioaeppepndaaGreatDoorAstSm
import Derived.Test.YtdoioaeppepndaaGreatDoorProg
import Derived.Test.YtdoioaeppepndaaGreatDoorAppRun
import Derived.Outline
import Derived.Handy
import Derived.Deep.RegionLaw
import Derived.Lib.SliceRun
import Derived.Test.YtdoioaeppepndaaGreatDoorAstDe
import Derived.Test.YtdoioaeppepndaaGreatDoorLabelOne
import Derived.Deep.LoopGhost
import Derived.BigQuiet
import Derived.Deep.QuietTactic
import Derived.Deep.DeepCutAuto
namespace Go.Proofs.YtdoioaeppepndaaGreatDoor
open Go.RowKit
open A8

theorem infoCond : (Tryz.prog.info? 94).map (fun i => (i.zero, i.size, i.bytes)) = some (some (.agg #[.int .i64 0, .int .i64 0]), 2, 16) := by kernel_rfl
theorem cn_one (l : List Cn) : ∀ u ∈ l.flatMap cnC, u.oneCell' = true := by
  intro u hu
  obtain ⟨c, _, h⟩ := List.mem_flatMap.1 hu
  simp only [cnC, List.mem_cons, List.not_mem_nil, or_false] at h
  rcases h with rfl | rfl <;> rfl
set_option maxRecDepth 100000 in
set_option maxHeartbeats 4000000 in
theorem clone_any (v : Value) (cs : List Cn) (w : World) (h : Sl w 2 cs.length v (cs.flatMap cnC)) (hs : cs.length ≤ 1000000) :
    Calls Tryz.prog 97 #[v] w fun e w' => ∃ (A : Option Addr) (c : Nat), e = .returned (.slice A cs.length c) ∧ w'.ownsRow w.heap.size 94 2 (.slice A cs.length c) cs.length (cs.flatMap cnC) ∧ Below w.heap.size w w' := by
  obtain ⟨i0, hi, hz0, hz1, hz2⟩ := info_parts infoCond
  have hq : ∀ (w : World) (a : Option Addr) (n c : Nat), (binOp .eql 26 (.slice a n c) (.slice none 0 0)).run Tryz.prog w = .ok (.bool a.isNone) w := fun w a n c => Lib.run_eql_slice_nil w _ _ a n c 0 0 Tryz.underlying26
  have hX := h
  obtain ⟨hl, hm, A, cap, rfl, hc, hn, hcell⟩ := h
  cases A with
  | none =>
    obtain rfl : cap = 0 := hn rfl
    have h0 : cs.length = 0 := by omega
    obtain rfl : cs = [] := List.eq_nil_of_length_eq_zero h0
    have own : w.ownsRow w.heap.size 94 2 (.slice none 0 0) 0 [] := World.ownsRow_nil _ _ _ _
    clear hcell hX hl
    simp only [List.length_nil]
    go_enter Tryz.func97, Tryz.ntmps97
    go_wp2
    go_ret
    exact ⟨_, _, rfl, own, Below.refl _ _⟩
  | some a =>
    have hb1 := b1 w (.cells #[] 94)
    have hown : (w.alloc (.cells #[] 94)).ownsRow w.heap.size 94 2 (.slice (some ⟨w.heap.size, 0, none⟩) 0 0) 0 [] := World.ownsRow_made w #[] 0 (Nat.le_refl _) (by unfold maxLen; omega) rfl
    obtain ⟨A', c', w', hrun, hown', hgrow⟩ := run_append_any (P := Tryz.prog) (w.alloc (.cells #[] 94)) w.heap.size 26 26 94 i0 (.agg #[.int .i64 0, .int .i64 0]) 2 16 Tryz.underlying26 hi hz0 hz1 hz2 rfl (by decide) _ 0 [] hown _ cs.length _ (hX.later hb1) (cn_one cs) (by unfold maxLen; omega) (by omega) (by simp) cs.length _ (Nat.zero_add _) rfl
    have hb : Below w.heap.size w w' := hb1.grown hgrow (by simp) (fun k e => by cases e; exact Nat.le_refl _)
    obtain ⟨xs, hxs⟩ : ∃ xs, xs = [] ++ cs.flatMap cnC := ⟨_, rfl⟩
    rw [← hxs] at hown'
    have HO := Lib.hid hown'
    have HX := Lib.hid hxs
    clear hX hcell hl hown hown' hgrow hxs
    go_enter Tryz.func97, Tryz.ntmps97
    go_wp2_with (at_builtin; refine wpList_append_run rfl _ _ _ rfl rfl rfl hrun ?_)
    go_ret
    refine ⟨A', c', rfl, ?_, hb⟩
    have := HO.out
    rw [HX.out, List.nil_append] at this
    exact this
set_option maxRecDepth 100000 in
set_option maxHeartbeats 4000000 in
/-- What Atoms takes of a leaf: its atom, with conditions of its own. -/
theorem atoms1_any (T : Tr) (g : GA) (w : World) (hg : ∃ k mn mx sk ks, T = .mk k mn mx g sk ks) (hT : OneA w g) (hs : g.a.cs.length ≤ 1000000) :
    Calls Tryz.prog 126 #[.agg T.row.toArray] w fun e w' => ∃ g' : GA, g'.a = g.a ∧ e = .returned (.agg (gaC g').toArray) ∧ w'.ownsRow w.heap.size 94 2 g'.sc g.a.cs.length (g.a.cs.flatMap cnC) ∧ Below w.heap.size w w' := by
  obtain ⟨k, mn, mx, sk, ks, rfl⟩ := hg
  obtain ⟨-, hsl⟩ := hT
  obtain ⟨⟨kd, bd, bn, cs, nm⟩, sc⟩ := g
  simp only at hsl hs
  have hC := fun w1 (hb : Below w.heap.size w w1) => clone_any sc cs w1 (hsl.later hb) hs
  obtain ⟨A, c, rfl, -, -⟩ := sl_get (by decide) hsl
  simp only [Tr.row]
  have HC := Lib.hid hC
  have HG : ∀ (A' : Option Addr) (c' : Nat), ∃ g' : GA, g' = ⟨⟨kd, bd, bn, cs, nm⟩, .slice A' cs.length c'⟩ := fun _ _ => ⟨_, rfl⟩
  have HL := Lib.hid hsl
  clear hC hsl hs
  obtain ⟨N, hN⟩ : ∃ N, N = cs.length := ⟨_, rfl⟩
  rw [← hN]
  rw [← hN] at HC HL
  clear hN
  obtain ⟨w3, hw3⟩ : ∃ w3, w3 = ((w.alloc (.cells #[.int .i64 k, .int .i64 mn, .int .i64 mx, .int .i64 kd, .bool bd, .int .u64 bn, .slice A N c, .string (strOf nm), sk] 31)).alloc (.cells #[.int .i64 0, .bool false, .int .u64 0, .slice none 0 0, .string ⟨#[]⟩] 28)).alloc (.cells #[.int .i64 kd, .bool bd, .int .u64 bn, .slice A N c, .string (strOf nm)] 28) := ⟨_, rfl⟩
  go_enter Tryz.func126, Tryz.ntmps126
  go_wp2_with fail
  rw [← hw3]
  have hb3 : Below w.heap.size w w3 := hw3 ▸ b3 w _ _ _
  have hs3 : w3.heap.size = w.heap.size + 3 := by rw [hw3]; simp
  have B1 : Blk w3 (w.heap.size + 1) [.int .i64 0, .bool false, .int .u64 0, .slice none 0 0, .string ⟨#[]⟩] := by rw [hw3]; exact (Blk.is (us := [.int .i64 0, .bool false, .int .u64 0, .slice none 0 0, .string ⟨#[]⟩]) _ (by simp)).alloc _
  have B2 : Blk w3 (w.heap.size + 2) [.int .i64 kd, .bool bd, .int .u64 bn, .slice A N c, .string (strOf nm)] := by rw [hw3]; exact Blk.is (us := [.int .i64 kd, .bool bd, .int .u64 bn, .slice A N c, .string (strOf nm)]) _ (by simp)
  clear hw3
  refine (HC.out w3 hb3).mono ?_
  rintro e w4 ⟨A', c', rfl, hown, hb4⟩
  replace B1 := B1.later hb4
  replace B2 := B2.later hb4
  have p0 := B1.fr 0 _ rfl
  have p1 := B1.fr 1 _ rfl
  have p2 := B1.fr 2 _ rfl
  have p3 := B1.fr 3 _ rfl
  have p4 := B1.fr 4 _ rfl
  have v0 := B1.cell 0 _ rfl
  have v1 := B1.cell 1 _ rfl
  have v2 := B1.cell 2 _ rfl
  have v3 := B1.cell 3 _ rfl
  have v4 := B1.cell 4 _ rfl
  have q0 := B2.cell 0 _ rfl
  have q1 := B2.cell 1 _ rfl
  have q2 := B2.cell 2 _ rfl
  have q3 := B2.cell 3 _ rfl
  have q4 := B2.cell 4 _ rfl
  have f3 := B2.fr 3 _ rfl
  have HO := Lib.hid hown
  have HB := Lib.hid (bstep hb3 hb4)
  have hlt := B2.lt
  clear HC hown hb3 hb4 B1 B2
  go_wp2
  refine bodyPost_ret (v := .agg #[.int .i64 kd, .bool bd, .int .u64 bn, .slice A' N c', .string (strOf nm)]) (by simp [results, Tryz.results126, go_sem, v0, v1, v2, v3, v4]; try rfl) rfl ?_
  refine ⟨⟨⟨kd, bd, bn, cs, nm⟩, .slice A' N c'⟩, rfl, rfl, ?_, ?_⟩
  · refine own_mono (base := w.heap.size + 3) ?_ (by omega)
    rw [← hs3]
    repeat (refine own_set ?_ (by omega) _ _)
    exact HO.out
  · repeat (refine Below.setCell (p := ⟨_, _, none⟩) ?_ (by simp <;> omega) _)
    exact HB.out
end Go.Proofs.YtdoioaeppepndaaGreatDoor
namespace Go.Proofs.YtdoioaeppepndaaGreatDoor
open Go.RowKit Go.Shelf
open A8 Tk7 Lb
attribute [local go_sem] Oper.semAt_some

theorem below_drew {W w1 : World} (h : Below W.drew.heap.size W.drew w1) : Below W.heap.size W w1 := ⟨h.os, h.tape, h.output, h.size, h.block⟩
/-- What is taken of the leaves. -/
def leafF {β : Type} (φ : Nd → β) (pre : List (Nat × Tr)) : List β := (((pre.map Prod.snd).map Tr.nd).filter fun t => t.kids.isEmpty).map φ
theorem leafF_snoc {β : Type} (φ : Nd → β) (pre : List (Nat × Tr)) (x : Nat × Tr) : leafF φ (pre ++ [x]) = leafF φ pre ++ (if x.2.nd.kids.isEmpty = true then [φ x.2.nd] else []) := by
  unfold leafF
  simp only [List.map_append, List.filter_append, List.map_cons, List.map_nil]
  congr 1
  cases h : x.2.nd.kids.isEmpty
  · simp [List.filter, h]
  · simp [List.filter, h]
theorem leafF_leaf {β : Type} (φ : Nd → β) (pre : List (Nat × Tr)) (x : Nat × Tr) (h : x.2.nd.kids.isEmpty = true) : leafF φ (pre ++ [x]) = leafF φ pre ++ [φ x.2.nd] := by
  rw [leafF_snoc, h]
  rfl
theorem leafF_non {β : Type} (φ : Nd → β) (pre : List (Nat × Tr)) (x : Nat × Tr) (h : x.2.nd.kids.isEmpty = false) : leafF φ (pre ++ [x]) = leafF φ pre := by
  rw [leafF_snoc, h]
  exact List.append_nil _
theorem leafF_all {β : Type} (φ : Nd → β) (T : Tr) (d : Nat) : leafF φ (preT d T) = (leavesN T.nd).map φ := by
  unfold leafF leavesN
  rw [preT_snd, subsT_nd]
theorem leafF_le {β : Type} (φ : Nd → β) (pre : List (Nat × Tr)) : (leafF φ pre).length ≤ pre.length := by
  unfold leafF
  rw [List.length_map]
  refine Nat.le_trans (List.length_filter_le _ _) ?_
  simp
/-- What stands between two rounds: the row of what was taken, in its box, and the rows that its elements bear. -/
structure LR {α : Type} (t e ft : TypeId) (sz : Nat) (fv : Value) (f : α → List Value) (sd : α → List (Value × Nat × List Value)) (P : Nat) (w : World) (gs : List α) (v : Value) (W : World) : Prop where
  out : Bx W P t [v]
  row : W.ownsRow (P + 2) e sz v gs.length (gs.flatMap f)
  cns : ∀ g ∈ gs, ∀ r ∈ sd g, W.ownsRow (P + 2) 94 2 r.1 r.2.1 r.2.2
  fn : Bx W (w.heap.size + 1) ft [fv]
  bel : Below w.heap.size w W
  big : P + 2 ≤ W.heap.size
section
variable {α : Type} {t e ft : TypeId} {sz P : Nat} {fv v v' : Value} {f : α → List Value} {sd : α → List (Value × Nat × List Value)} {w W W' : World} {gs : List α}
theorem LR.grown {row : Option Nat} (h : LR t e ft sz fv f sd P w gs v W) (hmP : w.heap.size ≤ P) (hg : W.grownBy W' row) (hr : ∀ j, row = some j → P + 2 ≤ j ∧ ∃ o : Obj, W.heap[j]? = some o ∧ o.isCells = false) : LR t e ft sz fv f sd P w gs v W' :=
  ⟨h.out.noncells hg fun j e => (hr j e).2, own_far h.row hg fun j e => .inr (hr j e).2, fun g hg' r hr' => own_far (h.cns g hg' r hr') hg fun j e => .inr (hr j e).2, h.fn.noncells hg fun j e => (hr j e).2,
    h.bel.grown hg h.bel.size fun j e => by have := (hr j e).1; omega, Nat.le_trans h.big hg.size⟩
theorem LR.later (h : LR t e ft sz fv f sd P w gs v W) (hmP : w.heap.size ≤ P) (hb : Below W.heap.size W W') : LR t e ft sz fv f sd P w gs v W' :=
  h.grown hmP (grown_below _ _ hb) fun j e => by cases e
theorem LR.round {w1 w2 : World} {o : Obj} {g : α} (h : LR t e ft sz fv f sd P w gs v W) (hmP : w.heap.size + 2 ≤ P) (het : t ≠ 31) (hen : e ≠ 31) (hec : 94 ≠ e) (hb1 : Below W.heap.size W w1)
    (hc : ∀ r ∈ sd g, w1.ownsRow W.heap.size 94 2 r.1 r.2.1 r.2.2) (hown : w2.ownsRow (P + 2) e sz v' (gs.length + 1) (gs.flatMap f ++ f g)) (hgrow : (w1.alloc o).grownBy w2 v.ownBlock) :
    Bx w2 P t [v] ∧ KeepsOthers W (w2.setCell ⟨P, 0, none⟩ v') ∧ KeepN w.heap.size W (w2.setCell ⟨P, 0, none⟩ v') ∧ LR t e ft sz fv f sd P w (gs ++ [g]) v' (w2.setCell ⟨P, 0, none⟩ v') := by
  have hbX : Below W.heap.size W (w1.alloc o) := bstep hb1 (b1 w1 o)
  have hX := h.later (by omega) hbX
  have hlt : ∀ j, v.ownBlock = some j → P + 2 ≤ j := fun j e => (hX.row.lt j e).1
  have hbig := h.big
  have o2 : Bx w2 P t [v] := (hgrow.block P hX.out.lt fun e => by have := hlt P e.symm; omega).trans hX.out
  have f2 : Bx w2 (w.heap.size + 1) ft [fv] := (hgrow.block _ hX.fn.lt fun e => by have := hlt _ e.symm; omega).trans hX.fn
  have c2 : ∀ g' ∈ gs ++ [g], ∀ r ∈ sd g', w2.ownsRow (P + 2) 94 2 r.1 r.2.1 r.2.2 := fun g' hg' r hr => by
    have hr1 : (w1.alloc o).ownsRow (P + 2) 94 2 r.1 r.2.1 r.2.2 := by
      rcases List.mem_append.1 hg' with hg' | hg'
      · exact hX.cns g' hg' r hr
      · rw [List.mem_singleton.1 hg'] at hr
        exact own_mono (own_later (hc r hr) (b1 w1 o)) hbig
    exact hr1.kept hgrow (own_block_ne hr1 hX.row hec)
  have bel2 : Below w.heap.size w w2 := hX.bel.grown hgrow hX.bel.size fun j e => by have := hlt j e; omega
  have k1 : KeepN w.heap.size (w1.alloc o) w2 := by
    refine ⟨hgrow.size, fun k hk hx => hgrow.block k hk fun e => ?_⟩
    have h3 := hlt k e.symm
    rcases hx with hx | ⟨cs, fr, ho⟩
    · omega
    · rcases hX.row.2 with ⟨rfl, _⟩ | ⟨g', cap, cur, rfl, _, hh, _⟩
      · cases e
      · have : k = g' := by simpa [Value.ownBlock] using e
        subst this
        rw [ho] at hh
        injection hh with hh
        injection hh with _ ht
        exact hen ht.symm
  refine ⟨o2, ?_, ?_, ?_⟩
  · exact ((others_below hbX).trans (KeepsOthers.of_grownBy hgrow fun j o' ej ho => own_cells hX.row j o' ej ho)).trans (KeepsOthers.setCell _ _ _)
  · exact ((KeepN.of _ _ hbX).trans k1).trans (KeepN.set (by omega) o2 het 0 _)
  · refine ⟨o2.set _, ?_, fun g' hg' r hr => own_set (c2 g' hg' r hr) (by omega) _ _, ?_, bel2.setCell (p := ⟨P, 0, none⟩) (by simp; omega) _, ?_⟩
    · rw [List.length_append, List.flatMap_append]
      have := own_set hown (b := P) (by omega) 0 v'
      simpa using this
    · refine (Below.heap_setCell _ _ _ _ ?_).trans f2
      show w.heap.size + 1 ≠ P
      omega
    · have h1 := hbX.size
      have h2 := hgrow.size
      simp [World.setCell]
      omega
end
theorem infoAtom : (Tryz.prog.info? 28).map (fun i => (i.zero, i.size, i.bytes)) = some (some (.agg #[.int .i64 0, .bool false, .int .u64 0, .slice none 0 0, .string ⟨#[]⟩]), 5, 64) := by kernel_rfl
theorem infoBool8 : (Tryz.prog.info? 4).map (fun i => (i.zero, i.size, i.bytes)) = some (some (.bool false), 1, 1) := by kernel_rfl
/-- The same list. -/
def IsL {β : Type} (a b : List β) : Prop := a = b
theorem blk_new' (w : World) (us : List Value) (t : TypeId) : Blk (w.alloc (.cells us.toArray t)) w.heap.size us := Blk.new w us t
end Go.Proofs.YtdoioaeppepndaaGreatDoor
namespace Go.Proofs.YtdoioaeppepndaaGreatDoor
open Go.RowKit Go.Shelf
open A8 Tk7 Lb
attribute [local go_sem] Oper.semAt_some

set_option maxRecDepth 100000 in
set_option maxHeartbeats 16000000 in
theorem leavesA_any (T : Tr) (w : World) (hT : TrW w T) (hlen : (subsT T).length ≤ 999999) (hG : SG w) (hcs : ∀ t ∈ subsT T, t.nd.atom.cs.length ≤ 1000000) :
    Calls Tryz.prog 125 #[.agg T.row.toArray, .func (.func 126) #[] #[]] w fun e w' => ∃ (gs : List GA) (v : Value), IsL (gs.map (fun g => g.a)) (if soundN 1 T.nd = true then (leavesN T.nd).map Nd.atom else []) ∧ e = .returned (.tuple #[v, .int .i64 (soundE T.nd)]) ∧ w'.ownsRow w.heap.size 28 5 v gs.length (gs.flatMap gaC) ∧ (∀ g ∈ gs, w'.ownsRow w.heap.size 94 2 g.sc g.a.cs.length (g.a.cs.flatMap cnC)) ∧ Below w.heap.size w w' := by
  obtain ⟨i0, hi, hz0, hz1, hz2⟩ := info_parts infoAtom
  have hS := fun w1 (hb : Below w.heap.size w w1) => sound_any T w1 (hT.later hb) hlen (hG.later hb)
  have hse : soundE T.nd = if soundN 1 T.nd = true then 0 else 3 := rfl
  rw [hse] at hS ⊢
  cases hs : soundN 1 T.nd with
  | false =>
    rw [hs] at hS
    clear hse hs hT hlen hG hcs
    obtain ⟨k, mn, mx, ⟨⟨kd, bd, bn, cs, nm⟩, sc⟩, sk, ks⟩ := T
    simp only [Tr.row] at hS ⊢
    go_enter Tryz.func125, Tryz.ntmps125
    go_wp2_with (go_at_call 123; refine (hS _ (b2 _ _ _)).mono ?_; rintro e w2 ⟨rfl, hb2⟩)
    go_ret2
    exact ⟨[], rfl, .slice none 0 0, rfl, World.ownsRow_nil _ _ _ _, (by intro g hg; cases hg), bstep (b2 _ _ _) hb2⟩
  | true =>
    rw [hs, if_pos rfl] at hS
    rw [if_pos rfl, if_pos rfl]
    have hval : leafF Nd.atom (preT 1 T) = (leavesN T.nd).map Nd.atom := leafF_all _ T 1
    have hpl : (preT 1 T).length ≤ 999999 := by rw [← List.length_map (f := Prod.snd), preT_snd]; exact hlen
    have hnd := fun w => nodes_any T w
    have hst := fun (b : Nat) (W : World) (hS : SameB w.heap.size w W) (hB : Blk W b T.row) => nodes_stops 2 w T hT hlen b W hS hB
    obtain ⟨L, hLL⟩ : ∃ L, L = preT 1 T := ⟨_, rfl⟩
    have hmem : ∀ x ∈ L, TrW w x.2 ∧ x.2.nd.atom.cs.length ≤ 1000000 := fun x hx => by
      rw [hLL] at hx
      have h1 := preT_mem hx
      exact ⟨fun u hu => hT u (subs_trans h1 hu), hcs _ h1⟩
    have HV := Lib.hid hval
    rw [← hLL] at hst hpl HV
    clear hse hs hT hlen hG hcs hval hLL
    have hbx : ∀ w1, Below ((w.alloc (.cells T.row.toArray 31)).alloc (.cells #[.func (.func 126) #[] #[]] 166)).heap.size ((w.alloc (.cells T.row.toArray 31)).alloc (.cells #[.func (.func 126) #[] #[]] 166)) w1 → Blk w1 w.heap.size T.row ∧ Bx w1 (w.heap.size + 1) 166 [.func (.func 126) #[] #[]] := fun w1 hb => ⟨((Blk.new w _ _).alloc _).later hb, by
      have := (Bx.new (w.alloc (.cells T.row.toArray 31)) [.func (.func 126) #[] #[]] 166).later hb
      rw [World.size_alloc] at this
      exact this⟩
    obtain ⟨S, hSS⟩ : ∃ S, S = (leavesN T.nd).map Nd.atom := ⟨_, rfl⟩
    rw [← hSS] at HV ⊢
    clear hSS
    obtain ⟨k, mn, mx, ⟨⟨kd, bd, bn, cs, nm⟩, sc⟩, sk, ks⟩ := T
    replace hst : ∀ (b : Nat) (W : World), SameB w.heap.size w W → Blk W b [.int .i64 k, .int .i64 mn, .int .i64 mx, .int .i64 kd, .bool bd, .int .u64 bn, sc, .string (strOf nm), sk] → SeqL Fence.wide 2 Tryz.prog 138 #[.pointer (some ⟨b, 0, none⟩)] (fun x : Nat × Tr => #[.int .i64 (x.1 : Int), .agg x.2.row.toArray]) (KeepN w.heap.size) L W := hst
    simp only [Tr.row] at hnd hS hbx ⊢
    refine (callsIn_wide (n := 3)).1 ?_
    refine callsIn_of_wp_marks Tryz.func125 rfl trivial ?_ rfl
    simp only [Tryz.ntmps125, List.size_toArray, List.length_cons, List.length_nil, Nat.reduceAdd, Nat.reduceSub, Array.replicate_succ, Array.replicate_zero, List.push_toArray, List.append_toArray, List.nil_append, List.cons_append]
    gi_wp2_with (first | (refine ⟨trivial, ?_⟩; gi_at_call 123; refine (callsIn_wide.2 (hS _ (b2 _ _ _))).mono ?_; rintro e w2 ⟨rfl, hb2⟩; obtain ⟨hB, hFn⟩ := hbx _ hb2; have c0 := hB.cell 0 _ rfl; have c1 := hB.cell 1 _ rfl; have c2 := hB.cell 2 _ rfl; have c3 := hB.cell 3 _ rfl; have c4 := hB.cell 4 _ rfl; have c5 := hB.cell 5 _ rfl; have c6 := hB.cell 6 _ rfl; have c7 := hB.cell 7 _ rfl; have c8 := hB.cell 8 _ rfl; have clt := hB.lt; clear hB) | (refine ⟨trivial, ?_⟩; gi_at_call 124; refine (callsIn_wide.2 (hnd _)).mono ?_; rintro e w' ⟨rfl, rfl⟩))
    clear c0 c1 c2 c3 c4 c5 c6 c7 c8
    have hb3 := bstep (b2 w _ _) hb2
    have hmB : w.heap.size + 2 ≤ w2.heap.size := by have := hb2.size; simp at this; omega
    obtain ⟨W0, hW0⟩ : ∃ W0, W0 = (w2.alloc (.cells #[.slice none 0 0] 79)).alloc (.cells #[.int .i64 k, .int .i64 mn, .int .i64 mx, .int .i64 kd, .bool bd, .int .u64 bn, sc, .string (strOf nm), sk] 31) := ⟨_, rfl⟩
    rw [show ((w2.alloc (.cells #[.slice none 0 0] 79)).alloc (.cells #[.int .i64 k, .int .i64 mn, .int .i64 mx, .int .i64 kd, .bool bd, .int .u64 bn, sc, .string (strOf nm), sk] 31)) = W0 from hW0.symm]
    have hb0 : Below w2.heap.size w2 W0 := hW0 ▸ b2 w2 _ _
    have hsz : W0.heap.size = w2.heap.size + 2 := by rw [hW0]; simp
    have hK0 : Bx W0 w2.heap.size 79 [.slice none 0 0] := by rw [hW0]; exact (Bx.new w2 [.slice none 0 0] 79).later (b1 _ _)
    have hK1 : Blk W0 (w2.heap.size + 1) [.int .i64 k, .int .i64 mn, .int .i64 mx, .int .i64 kd, .bool bd, .int .u64 bn, sc, .string (strOf nm), sk] := by rw [hW0]; exact Blk.is (us := [.int .i64 k, .int .i64 mn, .int .i64 mx, .int .i64 kd, .bool bd, .int .u64 bn, sc, .string (strOf nm), sk]) _ (by simp)
    have hbw : Below w.heap.size w W0 := bstep hb3 hb0
    replace hFn := hFn.later hb0
    clear hW0 hbx hb2 clt
    refine wpIn_range_list rfl (by decide) (gf := 138) (lb := #[.pointer (some ⟨w2.heap.size + 1, 0, none⟩)]) rfl trivial (enters_of Tryz.func138 (by kernel_rfl) rfl)
      (hst (w2.heap.size + 1) W0 (SameB.of hbw) hK1)
      (fun h k => KeepN.trans h k) (KeepN.put (by omega)) (fun W W' h => KeepN.of W W' h) (Below.refl _ _) (fun _ => rfl)
      (fun pre W => ∃ (gs : List GA) (v : Value), IsL (gs.map (fun g => g.a)) (leafF Nd.atom pre) ∧ LR 79 28 166 5 (.func (.func 126) #[] #[]) gaC (fun g : GA => [(g.sc, g.a.cs.length, g.a.cs.flatMap cnC)]) w2.heap.size w gs v W) (fun _ _ => False)
      ?hI ?hIx ?h0 (fun x act W => ∃ b, w2.heap.size + 2 ≤ b ∧ act = { tmps := #[.agg #[.int .i64 k, .int .i64 mn, .int .i64 mx, .int .i64 kd, .bool bd, .int .u64 bn, sc, .string (strOf nm), sk], .func (.func 126) #[] #[], .pointer (some ⟨w.heap.size, 0, none⟩), .pointer (some ⟨w.heap.size + 1, 0, none⟩), .slice none 0 0, .int .i64 0, .int .i64 0, .pointer (some ⟨w2.heap.size, 0, none⟩), undef, .pointer (some ⟨b, 0, none⟩), .agg #[.int .i64 k, .int .i64 mn, .int .i64 mx, .int .i64 kd, .bool bd, .int .u64 bn, sc, .string (strOf nm), sk], .int .i64 0, .int .i64 0, .bool false, undef, .agg #[.int .i64 k, .int .i64 mn, .int .i64 mx, .int .i64 kd, .bool bd, .int .u64 bn, sc, .string (strOf nm), sk], .func (.func 138) #[] #[.pointer (some ⟨w2.heap.size + 1, 0, none⟩)], .int .i64 (x.1 : Int), .agg x.2.row.toArray, undef, undef, undef, undef, undef, undef, undef, undef, undef, undef, undef], defers := [] } ∧ Blk W b x.2.row) ?hA ?assign ?body ?done ?stop
    case hI =>
      rintro s A B row ⟨gs, v, h1, h2⟩ hg hr
      exact ⟨gs, v, h1, h2.grown (by omega) hg fun j e => by have := hr j e; rw [hsz] at this; exact this⟩
    case hIx => intro s A B row h; exact h.elim
    case h0 => exact ⟨[], _, rfl, hK0, World.ownsRow_nil _ _ _ _, (by intro g hg; cases hg), hFn, hbw, by omega⟩
    case hA =>
      rintro x act s A B row ⟨b, h1, h2, h3⟩ hg hr
      exact ⟨b, h1, h2, blk_noncells (by cases x.2; simp [Tr.row]) h3 hg fun j e => (hr j e).2⟩
    case assign =>
      intro l pre x W K hp hW hK
      have ho := (hmem x (hp.subset (by simp))).1.one
      rw [hsz] at hW
      obtain ⟨d, k', mn', mx', ⟨⟨kd', bd', bn', cs', nm'⟩, sc'⟩, sk', ks'⟩ := x
      obtain ⟨-, ⟨-, h1⟩, h2⟩ := ho
      simp only at h1
      obtain ⟨A1, c1, rfl, -, -⟩ := sl_get (by decide) h1
      obtain ⟨A2, c2, rfl, -, -⟩ := sl_get (by decide) h2
      simp only [Tr.row] at hK ⊢
      clear h1 h2 hst hnd hmem
      gi_wp2
      exact hK _ _ ⟨W.heap.size, by omega, rfl, Blk.new _ _ _⟩ (b1 _ _)
    case body =>
      rintro l pre x act W hp ⟨gs, v, hgs, h⟩ ⟨b, hb4, rfl, hB⟩
      have ho := (hmem x (hp.subset (by simp))).1.one
      have hcx := (hmem x (hp.subset (by simp))).2
      have hgl : gs.length ≤ 999999 := by
        have h1 := leafF_le Nd.atom pre
        unfold IsL at hgs; rw [← hgs, List.length_map] at h1
        have h2 := hp.length_le
        rw [List.length_append] at h2
        omega
      obtain ⟨d, k', mn', mx', ⟨⟨kd', bd', bn', cs', nm'⟩, sc'⟩, sk', ks'⟩ := x
      simp only [Tr.row] at hB ⊢
      obtain ⟨-, hoA, hsk⟩ := ho.same (SameB.of h.bel)
      obtain ⟨A9, cp9, rfl, -, -⟩ := sl_get (by decide) hsk
      have c0 := hB.cell 0 _ rfl
      have c1 := hB.cell 1 _ rfl
      have c2 := hB.cell 2 _ rfl
      have c3 := hB.cell 3 _ rfl
      have c4 := hB.cell 4 _ rfl
      have c5 := hB.cell 5 _ rfl
      have c6 := hB.cell 6 _ rfl
      have c7 := hB.cell 7 _ rfl
      have c8 := hB.cell 8 _ rfl
      have r0 := h.out.blk.cell 0 _ rfl
      have r1 := h.out.blk.fr 0 _ rfl
      have p0 := h.fn.blk.cell 0 _ rfl
      have H := Lib.hid h
      by_cases hk : ks' = []
      · subst hk
        have hF : Calls Tryz.prog 126 #[.agg #[.int .i64 k', .int .i64 mn', .int .i64 mx', .int .i64 kd', .bool bd', .int .u64 bn', sc', .string (strOf nm'), .slice A9 0 cp9]] W.drew fun e w' => ∃ (A3 : Option Addr) (c3 : Nat), e = .returned (.agg #[.int .i64 kd', .bool bd', .int .u64 bn', .slice A3 cs'.length c3, .string (strOf nm')]) ∧ w'.ownsRow W.heap.size 94 2 (.slice A3 cs'.length c3) cs'.length (cs'.flatMap cnC) ∧ Below W.heap.size W w' := by
          have hoD : OneA W.drew ⟨⟨kd', bd', bn', cs', nm'⟩, sc'⟩ := ⟨hoA.1, hoA.2⟩
          refine (atoms1_any (.mk k' mn' mx' ⟨⟨kd', bd', bn', cs', nm'⟩, sc'⟩ (.slice A9 0 cp9) []) ⟨⟨kd', bd', bn', cs', nm'⟩, sc'⟩ W.drew ⟨_, _, _, _, _, rfl⟩ hoD hcx).mono ?_
          rintro e w' ⟨⟨ga, gsc⟩, rfl, rfl, h1, h2⟩
          obtain ⟨A3, c3, rfl⟩ := own_form h1
          exact ⟨A3, c3, rfl, h1, below_drew h2⟩
        have hSn : ∀ g : GA, g.a = ⟨kd', bd', bn', cs', nm'⟩ → IsL ((gs ++ [g]).map (fun g => g.a)) (leafF Nd.atom (pre ++ [(d, Tr.mk k' mn' mx' ⟨⟨kd', bd', bn', cs', nm'⟩, sc'⟩ (.slice A9 0 cp9) [])])) := fun g hg => by
          unfold IsL at hgs ⊢
          rw [leafF_leaf _ _ _ rfl, List.map_append, hgs, List.map_cons, List.map_nil, hg]
          rfl
        have HF := Lib.hid hF
        have HS := Lib.hid hSn
        clear hst hnd hmem hB h ho hoA hsk hF hSn hgs hp hcx
        simp only [List.length_nil]
        gi_wp2
        refine wpIn_region_any (by kernel_rfl) ?_
        change wpAnyIn _ _ _ _ _ _ _ _ _ (World.drew _)
        refine wpAnyIn_ready (rs := [0, 1, 2]) (by kernel_rfl) (by simp) ?_
        refine AllReadyIn.cons rfl (fun K hK => ?_) ?_
        · go_simp
          refine hK _ _ ?_
          clear hK K
          refine wpAnyIn_ready (rs := [1, 2]) (by kernel_rfl) (by simp) ?_
          refine AllReadyIn.cons rfl (fun K hK => ?_) ?_
          · go_simp
            refine hK _ _ ?_
            clear hK K
            refine wpAnyIn_ready (rs := [2]) (by kernel_rfl) (by simp) ?_
            refine AllReadyIn.cons rfl (fun K hK => ?_) ?_
            · go_simp
              refine hK _ _ ?_
              clear hK K
              refine wpAnyIn_ready (rs := [3]) (by kernel_rfl) (by simp) ?_
              refine AllReadyIn.cons rfl (fun K hK => ?_) ?_
              · go_simp
                refine ⟨trivial, ?_⟩
                refine (CallsIn.inRound l (callsIn_wide.2 HF.out)).mono ?_
                rintro e w1 ⟨A3, c3, rfl, hcr, hb1⟩
                have r0 := (H.out.out.later hb1).blk.cell 0 _ rfl
                have rp := fun o => ((H.out.out.later hb1).later (b1 w1 o)).blk.cell 0 _ rfl
                refine hK _ _ ?_
                clear hK K
                refine wpAnyIn_ready (rs := [4]) (by kernel_rfl) (by simp) ?_
                refine AllReadyIn.cons rfl (fun K hK => ?_) ?_
                · go_simp
                  refine hK _ _ ?_
                  clear hK K
                  refine wpAnyIn_ready (rs := [5]) (by kernel_rfl) (by simp) ?_
                  refine AllReadyIn.cons rfl (fun K hK => ?_) ?_
                  · refine stepIn_append_own rfl _ _ 79 rfl (w2.heap.size + 2) 28 i0 (.agg #[.int .i64 0, .bool false, .int .u64 0, .slice none 0 0, .string ⟨#[]⟩]) 5 64 Tryz.underlying79 hi hz0 hz1 hz2 rfl (by decide) v gs.length (gs.flatMap gaC) rfl (own_later (own_later H.out.row hb1) (b1 _ _)) ⟨w1.heap.size, 0, none⟩ 1 1 [.int .i64 kd', .bool bd', .int .u64 bn', .slice A3 cs'.length c3, .string (strOf nm')] rfl rfl (blk_cells (blk_new' w1 [.int .i64 kd', .bool bd', .int .u64 bn', .slice A3 cs'.length c3, .string (strOf nm')] 28)) (by simp [Value.oneCell']) (by unfold maxLen; omega) (by omega) (by have := H.out.big; have := hb1.size; simp; omega) ?_
                    intro v' w3 hown' hgrow _
                    refine hK _ _ ?_
                    clear hK K
                    obtain ⟨g', cap', rfl⟩ := ownsRow_succ hown'
                    obtain ⟨ho2, hk2, hkN2, hv2⟩ := H.out.round (g := (⟨⟨kd', bd', bn', cs', nm'⟩, .slice A3 cs'.length c3⟩ : GA)) (by omega) (by decide) (by decide) (by decide) hb1 (by intro r hr; rw [List.mem_singleton.1 hr]; exact hcr) hown' hgrow
                    have hgs2 := HS.out ⟨⟨kd', bd', bn', cs', nm'⟩, .slice A3 cs'.length c3⟩ rfl
                    have z0 := ho2.blk.cell 0 _ rfl
                    have z1 := ho2.blk.fr 0 _ rfl
                    refine wpAnyIn_ready (rs := [6]) (by kernel_rfl) (by simp) ?_
                    refine AllReadyIn.cons rfl (fun K hK => ?_) ?_
                    · go_simp
                      refine hK _ _ ?_
                      clear hK K
                      refine wpAnyIn_done (by kernel_rfl) ?_ _
                      exact ⟨hk2, hkN2, _, _, hgs2, hv2⟩
                    exact AllReadyIn.nil
                  exact AllReadyIn.nil
                exact AllReadyIn.nil
              exact AllReadyIn.nil
            exact AllReadyIn.nil
          refine AllReadyIn.cons rfl (fun K hK => ?_) ?_
          · go_simp
            refine hK _ _ ?_
            clear hK K
            refine wpAnyIn_ready (rs := [1]) (by kernel_rfl) (by simp) ?_
            refine AllReadyIn.cons rfl (fun K hK => ?_) ?_
            · go_simp
              refine hK _ _ ?_
              clear hK K
              refine wpAnyIn_ready (rs := [3]) (by kernel_rfl) (by simp) ?_
              refine AllReadyIn.cons rfl (fun K hK => ?_) ?_
              · go_simp
                refine ⟨trivial, ?_⟩
                refine (CallsIn.inRound l (callsIn_wide.2 HF.out)).mono ?_
                rintro e w1 ⟨A3, c3, rfl, hcr, hb1⟩
                have r0 := (H.out.out.later hb1).blk.cell 0 _ rfl
                have rp := fun o => ((H.out.out.later hb1).later (b1 w1 o)).blk.cell 0 _ rfl
                refine hK _ _ ?_
                clear hK K
                refine wpAnyIn_ready (rs := [4]) (by kernel_rfl) (by simp) ?_
                refine AllReadyIn.cons rfl (fun K hK => ?_) ?_
                · go_simp
                  refine hK _ _ ?_
                  clear hK K
                  refine wpAnyIn_ready (rs := [5]) (by kernel_rfl) (by simp) ?_
                  refine AllReadyIn.cons rfl (fun K hK => ?_) ?_
                  · refine stepIn_append_own rfl _ _ 79 rfl (w2.heap.size + 2) 28 i0 (.agg #[.int .i64 0, .bool false, .int .u64 0, .slice none 0 0, .string ⟨#[]⟩]) 5 64 Tryz.underlying79 hi hz0 hz1 hz2 rfl (by decide) v gs.length (gs.flatMap gaC) rfl (own_later (own_later H.out.row hb1) (b1 _ _)) ⟨w1.heap.size, 0, none⟩ 1 1 [.int .i64 kd', .bool bd', .int .u64 bn', .slice A3 cs'.length c3, .string (strOf nm')] rfl rfl (blk_cells (blk_new' w1 [.int .i64 kd', .bool bd', .int .u64 bn', .slice A3 cs'.length c3, .string (strOf nm')] 28)) (by simp [Value.oneCell']) (by unfold maxLen; omega) (by omega) (by have := H.out.big; have := hb1.size; simp; omega) ?_
                    intro v' w3 hown' hgrow _
                    refine hK _ _ ?_
                    clear hK K
                    obtain ⟨g', cap', rfl⟩ := ownsRow_succ hown'
                    obtain ⟨ho2, hk2, hkN2, hv2⟩ := H.out.round (g := (⟨⟨kd', bd', bn', cs', nm'⟩, .slice A3 cs'.length c3⟩ : GA)) (by omega) (by decide) (by decide) (by decide) hb1 (by intro r hr; rw [List.mem_singleton.1 hr]; exact hcr) hown' hgrow
                    have hgs2 := HS.out ⟨⟨kd', bd', bn', cs', nm'⟩, .slice A3 cs'.length c3⟩ rfl
                    have z0 := ho2.blk.cell 0 _ rfl
                    have z1 := ho2.blk.fr 0 _ rfl
                    refine wpAnyIn_ready (rs := [6]) (by kernel_rfl) (by simp) ?_
                    refine AllReadyIn.cons rfl (fun K hK => ?_) ?_
                    · go_simp
                      refine hK _ _ ?_
                      clear hK K
                      refine wpAnyIn_done (by kernel_rfl) ?_ _
                      exact ⟨hk2, hkN2, _, _, hgs2, hv2⟩
                    exact AllReadyIn.nil
                  exact AllReadyIn.nil
                exact AllReadyIn.nil
              exact AllReadyIn.nil
            exact AllReadyIn.nil
          exact AllReadyIn.nil
        refine AllReadyIn.cons rfl (fun K hK => ?_) ?_
        · go_simp
          refine hK _ _ ?_
          clear hK K
          refine wpAnyIn_ready (rs := [0, 2]) (by kernel_rfl) (by simp) ?_
          refine AllReadyIn.cons rfl (fun K hK => ?_) ?_
          · go_simp
            refine hK _ _ ?_
            clear hK K
            refine wpAnyIn_ready (rs := [2]) (by kernel_rfl) (by simp) ?_
            refine AllReadyIn.cons rfl (fun K hK => ?_) ?_
            · go_simp
              refine hK _ _ ?_
              clear hK K
              refine wpAnyIn_ready (rs := [3]) (by kernel_rfl) (by simp) ?_
              refine AllReadyIn.cons rfl (fun K hK => ?_) ?_
              · go_simp
                refine ⟨trivial, ?_⟩
                refine (CallsIn.inRound l (callsIn_wide.2 HF.out)).mono ?_
                rintro e w1 ⟨A3, c3, rfl, hcr, hb1⟩
                have r0 := (H.out.out.later hb1).blk.cell 0 _ rfl
                have rp := fun o => ((H.out.out.later hb1).later (b1 w1 o)).blk.cell 0 _ rfl
                refine hK _ _ ?_
                clear hK K
                refine wpAnyIn_ready (rs := [4]) (by kernel_rfl) (by simp) ?_
                refine AllReadyIn.cons rfl (fun K hK => ?_) ?_
                · go_simp
                  refine hK _ _ ?_
                  clear hK K
                  refine wpAnyIn_ready (rs := [5]) (by kernel_rfl) (by simp) ?_
                  refine AllReadyIn.cons rfl (fun K hK => ?_) ?_
                  · refine stepIn_append_own rfl _ _ 79 rfl (w2.heap.size + 2) 28 i0 (.agg #[.int .i64 0, .bool false, .int .u64 0, .slice none 0 0, .string ⟨#[]⟩]) 5 64 Tryz.underlying79 hi hz0 hz1 hz2 rfl (by decide) v gs.length (gs.flatMap gaC) rfl (own_later (own_later H.out.row hb1) (b1 _ _)) ⟨w1.heap.size, 0, none⟩ 1 1 [.int .i64 kd', .bool bd', .int .u64 bn', .slice A3 cs'.length c3, .string (strOf nm')] rfl rfl (blk_cells (blk_new' w1 [.int .i64 kd', .bool bd', .int .u64 bn', .slice A3 cs'.length c3, .string (strOf nm')] 28)) (by simp [Value.oneCell']) (by unfold maxLen; omega) (by omega) (by have := H.out.big; have := hb1.size; simp; omega) ?_
                    intro v' w3 hown' hgrow _
                    refine hK _ _ ?_
                    clear hK K
                    obtain ⟨g', cap', rfl⟩ := ownsRow_succ hown'
                    obtain ⟨ho2, hk2, hkN2, hv2⟩ := H.out.round (g := (⟨⟨kd', bd', bn', cs', nm'⟩, .slice A3 cs'.length c3⟩ : GA)) (by omega) (by decide) (by decide) (by decide) hb1 (by intro r hr; rw [List.mem_singleton.1 hr]; exact hcr) hown' hgrow
                    have hgs2 := HS.out ⟨⟨kd', bd', bn', cs', nm'⟩, .slice A3 cs'.length c3⟩ rfl
                    have z0 := ho2.blk.cell 0 _ rfl
                    have z1 := ho2.blk.fr 0 _ rfl
                    refine wpAnyIn_ready (rs := [6]) (by kernel_rfl) (by simp) ?_
                    refine AllReadyIn.cons rfl (fun K hK => ?_) ?_
                    · go_simp
                      refine hK _ _ ?_
                      clear hK K
                      refine wpAnyIn_done (by kernel_rfl) ?_ _
                      exact ⟨hk2, hkN2, _, _, hgs2, hv2⟩
                    exact AllReadyIn.nil
                  exact AllReadyIn.nil
                exact AllReadyIn.nil
              exact AllReadyIn.nil
            exact AllReadyIn.nil
          refine AllReadyIn.cons rfl (fun K hK => ?_) ?_
          · go_simp
            refine hK _ _ ?_
            clear hK K
            refine wpAnyIn_ready (rs := [0, 3]) (by kernel_rfl) (by simp) ?_
            refine AllReadyIn.cons rfl (fun K hK => ?_) ?_
            · go_simp
              refine hK _ _ ?_
              clear hK K
              refine wpAnyIn_ready (rs := [3]) (by kernel_rfl) (by simp) ?_
              refine AllReadyIn.cons rfl (fun K hK => ?_) ?_
              · go_simp
                refine ⟨trivial, ?_⟩
                refine (CallsIn.inRound l (callsIn_wide.2 HF.out)).mono ?_
                rintro e w1 ⟨A3, c3, rfl, hcr, hb1⟩
                have r0 := (H.out.out.later hb1).blk.cell 0 _ rfl
                have rp := fun o => ((H.out.out.later hb1).later (b1 w1 o)).blk.cell 0 _ rfl
                refine hK _ _ ?_
                clear hK K
                refine wpAnyIn_ready (rs := [4]) (by kernel_rfl) (by simp) ?_
                refine AllReadyIn.cons rfl (fun K hK => ?_) ?_
                · go_simp
                  refine hK _ _ ?_
                  clear hK K
                  refine wpAnyIn_ready (rs := [5]) (by kernel_rfl) (by simp) ?_
                  refine AllReadyIn.cons rfl (fun K hK => ?_) ?_
                  · refine stepIn_append_own rfl _ _ 79 rfl (w2.heap.size + 2) 28 i0 (.agg #[.int .i64 0, .bool false, .int .u64 0, .slice none 0 0, .string ⟨#[]⟩]) 5 64 Tryz.underlying79 hi hz0 hz1 hz2 rfl (by decide) v gs.length (gs.flatMap gaC) rfl (own_later (own_later H.out.row hb1) (b1 _ _)) ⟨w1.heap.size, 0, none⟩ 1 1 [.int .i64 kd', .bool bd', .int .u64 bn', .slice A3 cs'.length c3, .string (strOf nm')] rfl rfl (blk_cells (blk_new' w1 [.int .i64 kd', .bool bd', .int .u64 bn', .slice A3 cs'.length c3, .string (strOf nm')] 28)) (by simp [Value.oneCell']) (by unfold maxLen; omega) (by omega) (by have := H.out.big; have := hb1.size; simp; omega) ?_
                    intro v' w3 hown' hgrow _
                    refine hK _ _ ?_
                    clear hK K
                    obtain ⟨g', cap', rfl⟩ := ownsRow_succ hown'
                    obtain ⟨ho2, hk2, hkN2, hv2⟩ := H.out.round (g := (⟨⟨kd', bd', bn', cs', nm'⟩, .slice A3 cs'.length c3⟩ : GA)) (by omega) (by decide) (by decide) (by decide) hb1 (by intro r hr; rw [List.mem_singleton.1 hr]; exact hcr) hown' hgrow
                    have hgs2 := HS.out ⟨⟨kd', bd', bn', cs', nm'⟩, .slice A3 cs'.length c3⟩ rfl
                    have z0 := ho2.blk.cell 0 _ rfl
                    have z1 := ho2.blk.fr 0 _ rfl
                    refine wpAnyIn_ready (rs := [6]) (by kernel_rfl) (by simp) ?_
                    refine AllReadyIn.cons rfl (fun K hK => ?_) ?_
                    · go_simp
                      refine hK _ _ ?_
                      clear hK K
                      refine wpAnyIn_done (by kernel_rfl) ?_ _
                      exact ⟨hk2, hkN2, _, _, hgs2, hv2⟩
                    exact AllReadyIn.nil
                  exact AllReadyIn.nil
                exact AllReadyIn.nil
              exact AllReadyIn.nil
            refine AllReadyIn.cons rfl (fun K hK => ?_) ?_
            · go_simp
              refine ⟨trivial, ?_⟩
              refine (CallsIn.inRound l (callsIn_wide.2 HF.out)).mono ?_
              rintro e w1 ⟨A3, c3, rfl, hcr, hb1⟩
              have r0 := (H.out.out.later hb1).blk.cell 0 _ rfl
              have rp := fun o => ((H.out.out.later hb1).later (b1 w1 o)).blk.cell 0 _ rfl
              refine hK _ _ ?_
              clear hK K
              refine wpAnyIn_ready (rs := [0, 4]) (by kernel_rfl) (by simp) ?_
              refine AllReadyIn.cons rfl (fun K hK => ?_) ?_
              · go_simp
                refine hK _ _ ?_
                clear hK K
                refine wpAnyIn_ready (rs := [4]) (by kernel_rfl) (by simp) ?_
                refine AllReadyIn.cons rfl (fun K hK => ?_) ?_
                · go_simp
                  refine hK _ _ ?_
                  clear hK K
                  refine wpAnyIn_ready (rs := [5]) (by kernel_rfl) (by simp) ?_
                  refine AllReadyIn.cons rfl (fun K hK => ?_) ?_
                  · refine stepIn_append_own rfl _ _ 79 rfl (w2.heap.size + 2) 28 i0 (.agg #[.int .i64 0, .bool false, .int .u64 0, .slice none 0 0, .string ⟨#[]⟩]) 5 64 Tryz.underlying79 hi hz0 hz1 hz2 rfl (by decide) v gs.length (gs.flatMap gaC) rfl (own_later (own_later H.out.row hb1) (b1 _ _)) ⟨w1.heap.size, 0, none⟩ 1 1 [.int .i64 kd', .bool bd', .int .u64 bn', .slice A3 cs'.length c3, .string (strOf nm')] rfl rfl (blk_cells (blk_new' w1 [.int .i64 kd', .bool bd', .int .u64 bn', .slice A3 cs'.length c3, .string (strOf nm')] 28)) (by simp [Value.oneCell']) (by unfold maxLen; omega) (by omega) (by have := H.out.big; have := hb1.size; simp; omega) ?_
                    intro v' w3 hown' hgrow _
                    refine hK _ _ ?_
                    clear hK K
                    obtain ⟨g', cap', rfl⟩ := ownsRow_succ hown'
                    obtain ⟨ho2, hk2, hkN2, hv2⟩ := H.out.round (g := (⟨⟨kd', bd', bn', cs', nm'⟩, .slice A3 cs'.length c3⟩ : GA)) (by omega) (by decide) (by decide) (by decide) hb1 (by intro r hr; rw [List.mem_singleton.1 hr]; exact hcr) hown' hgrow
                    have hgs2 := HS.out ⟨⟨kd', bd', bn', cs', nm'⟩, .slice A3 cs'.length c3⟩ rfl
                    have z0 := ho2.blk.cell 0 _ rfl
                    have z1 := ho2.blk.fr 0 _ rfl
                    refine wpAnyIn_ready (rs := [6]) (by kernel_rfl) (by simp) ?_
                    refine AllReadyIn.cons rfl (fun K hK => ?_) ?_
                    · go_simp
                      refine hK _ _ ?_
                      clear hK K
                      refine wpAnyIn_done (by kernel_rfl) ?_ _
                      exact ⟨hk2, hkN2, _, _, hgs2, hv2⟩
                    exact AllReadyIn.nil
                  exact AllReadyIn.nil
                exact AllReadyIn.nil
              refine AllReadyIn.cons rfl (fun K hK => ?_) ?_
              · go_simp
                refine hK _ _ ?_
                clear hK K
                refine wpAnyIn_ready (rs := [0]) (by kernel_rfl) (by simp) ?_
                refine AllReadyIn.cons rfl (fun K hK => ?_) ?_
                · go_simp
                  refine hK _ _ ?_
                  clear hK K
                  refine wpAnyIn_ready (rs := [5]) (by kernel_rfl) (by simp) ?_
                  refine AllReadyIn.cons rfl (fun K hK => ?_) ?_
                  · refine stepIn_append_own rfl _ _ 79 rfl (w2.heap.size + 2) 28 i0 (.agg #[.int .i64 0, .bool false, .int .u64 0, .slice none 0 0, .string ⟨#[]⟩]) 5 64 Tryz.underlying79 hi hz0 hz1 hz2 rfl (by decide) v gs.length (gs.flatMap gaC) rfl (own_later (own_later H.out.row hb1) (b1 _ _)) ⟨w1.heap.size, 0, none⟩ 1 1 [.int .i64 kd', .bool bd', .int .u64 bn', .slice A3 cs'.length c3, .string (strOf nm')] rfl rfl (blk_cells (blk_new' w1 [.int .i64 kd', .bool bd', .int .u64 bn', .slice A3 cs'.length c3, .string (strOf nm')] 28)) (by simp [Value.oneCell']) (by unfold maxLen; omega) (by omega) (by have := H.out.big; have := hb1.size; simp; omega) ?_
                    intro v' w3 hown' hgrow _
                    refine hK _ _ ?_
                    clear hK K
                    obtain ⟨g', cap', rfl⟩ := ownsRow_succ hown'
                    obtain ⟨ho2, hk2, hkN2, hv2⟩ := H.out.round (g := (⟨⟨kd', bd', bn', cs', nm'⟩, .slice A3 cs'.length c3⟩ : GA)) (by omega) (by decide) (by decide) (by decide) hb1 (by intro r hr; rw [List.mem_singleton.1 hr]; exact hcr) hown' hgrow
                    have hgs2 := HS.out ⟨⟨kd', bd', bn', cs', nm'⟩, .slice A3 cs'.length c3⟩ rfl
                    have z0 := ho2.blk.cell 0 _ rfl
                    have z1 := ho2.blk.fr 0 _ rfl
                    refine wpAnyIn_ready (rs := [6]) (by kernel_rfl) (by simp) ?_
                    refine AllReadyIn.cons rfl (fun K hK => ?_) ?_
                    · go_simp
                      refine hK _ _ ?_
                      clear hK K
                      refine wpAnyIn_done (by kernel_rfl) ?_ _
                      exact ⟨hk2, hkN2, _, _, hgs2, hv2⟩
                    exact AllReadyIn.nil
                  exact AllReadyIn.nil
                exact AllReadyIn.nil
              exact AllReadyIn.nil
            exact AllReadyIn.nil
          exact AllReadyIn.nil
        refine AllReadyIn.cons rfl (fun K hK => ?_) ?_
        · go_simp
          refine hK _ _ ?_
          clear hK K
          refine wpAnyIn_ready (rs := [0, 1]) (by kernel_rfl) (by simp) ?_
          refine AllReadyIn.cons rfl (fun K hK => ?_) ?_
          · go_simp
            refine hK _ _ ?_
            clear hK K
            refine wpAnyIn_ready (rs := [1]) (by kernel_rfl) (by simp) ?_
            refine AllReadyIn.cons rfl (fun K hK => ?_) ?_
            · go_simp
              refine hK _ _ ?_
              clear hK K
              refine wpAnyIn_ready (rs := [3]) (by kernel_rfl) (by simp) ?_
              refine AllReadyIn.cons rfl (fun K hK => ?_) ?_
              · go_simp
                refine ⟨trivial, ?_⟩
                refine (CallsIn.inRound l (callsIn_wide.2 HF.out)).mono ?_
                rintro e w1 ⟨A3, c3, rfl, hcr, hb1⟩
                have r0 := (H.out.out.later hb1).blk.cell 0 _ rfl
                have rp := fun o => ((H.out.out.later hb1).later (b1 w1 o)).blk.cell 0 _ rfl
                refine hK _ _ ?_
                clear hK K
                refine wpAnyIn_ready (rs := [4]) (by kernel_rfl) (by simp) ?_
                refine AllReadyIn.cons rfl (fun K hK => ?_) ?_
                · go_simp
                  refine hK _ _ ?_
                  clear hK K
                  refine wpAnyIn_ready (rs := [5]) (by kernel_rfl) (by simp) ?_
                  refine AllReadyIn.cons rfl (fun K hK => ?_) ?_
                  · refine stepIn_append_own rfl _ _ 79 rfl (w2.heap.size + 2) 28 i0 (.agg #[.int .i64 0, .bool false, .int .u64 0, .slice none 0 0, .string ⟨#[]⟩]) 5 64 Tryz.underlying79 hi hz0 hz1 hz2 rfl (by decide) v gs.length (gs.flatMap gaC) rfl (own_later (own_later H.out.row hb1) (b1 _ _)) ⟨w1.heap.size, 0, none⟩ 1 1 [.int .i64 kd', .bool bd', .int .u64 bn', .slice A3 cs'.length c3, .string (strOf nm')] rfl rfl (blk_cells (blk_new' w1 [.int .i64 kd', .bool bd', .int .u64 bn', .slice A3 cs'.length c3, .string (strOf nm')] 28)) (by simp [Value.oneCell']) (by unfold maxLen; omega) (by omega) (by have := H.out.big; have := hb1.size; simp; omega) ?_
                    intro v' w3 hown' hgrow _
                    refine hK _ _ ?_
                    clear hK K
                    obtain ⟨g', cap', rfl⟩ := ownsRow_succ hown'
                    obtain ⟨ho2, hk2, hkN2, hv2⟩ := H.out.round (g := (⟨⟨kd', bd', bn', cs', nm'⟩, .slice A3 cs'.length c3⟩ : GA)) (by omega) (by decide) (by decide) (by decide) hb1 (by intro r hr; rw [List.mem_singleton.1 hr]; exact hcr) hown' hgrow
                    have hgs2 := HS.out ⟨⟨kd', bd', bn', cs', nm'⟩, .slice A3 cs'.length c3⟩ rfl
                    have z0 := ho2.blk.cell 0 _ rfl
                    have z1 := ho2.blk.fr 0 _ rfl
                    refine wpAnyIn_ready (rs := [6]) (by kernel_rfl) (by simp) ?_
                    refine AllReadyIn.cons rfl (fun K hK => ?_) ?_
                    · go_simp
                      refine hK _ _ ?_
                      clear hK K
                      refine wpAnyIn_done (by kernel_rfl) ?_ _
                      exact ⟨hk2, hkN2, _, _, hgs2, hv2⟩
                    exact AllReadyIn.nil
                  exact AllReadyIn.nil
                exact AllReadyIn.nil
              exact AllReadyIn.nil
            exact AllReadyIn.nil
          refine AllReadyIn.cons rfl (fun K hK => ?_) ?_
          · go_simp
            refine hK _ _ ?_
            clear hK K
            refine wpAnyIn_ready (rs := [0, 3]) (by kernel_rfl) (by simp) ?_
            refine AllReadyIn.cons rfl (fun K hK => ?_) ?_
            · go_simp
              refine hK _ _ ?_
              clear hK K
              refine wpAnyIn_ready (rs := [3]) (by kernel_rfl) (by simp) ?_
              refine AllReadyIn.cons rfl (fun K hK => ?_) ?_
              · go_simp
                refine ⟨trivial, ?_⟩
                refine (CallsIn.inRound l (callsIn_wide.2 HF.out)).mono ?_
                rintro e w1 ⟨A3, c3, rfl, hcr, hb1⟩
                have r0 := (H.out.out.later hb1).blk.cell 0 _ rfl
                have rp := fun o => ((H.out.out.later hb1).later (b1 w1 o)).blk.cell 0 _ rfl
                refine hK _ _ ?_
                clear hK K
                refine wpAnyIn_ready (rs := [4]) (by kernel_rfl) (by simp) ?_
                refine AllReadyIn.cons rfl (fun K hK => ?_) ?_
                · go_simp
                  refine hK _ _ ?_
                  clear hK K
                  refine wpAnyIn_ready (rs := [5]) (by kernel_rfl) (by simp) ?_
                  refine AllReadyIn.cons rfl (fun K hK => ?_) ?_
                  · refine stepIn_append_own rfl _ _ 79 rfl (w2.heap.size + 2) 28 i0 (.agg #[.int .i64 0, .bool false, .int .u64 0, .slice none 0 0, .string ⟨#[]⟩]) 5 64 Tryz.underlying79 hi hz0 hz1 hz2 rfl (by decide) v gs.length (gs.flatMap gaC) rfl (own_later (own_later H.out.row hb1) (b1 _ _)) ⟨w1.heap.size, 0, none⟩ 1 1 [.int .i64 kd', .bool bd', .int .u64 bn', .slice A3 cs'.length c3, .string (strOf nm')] rfl rfl (blk_cells (blk_new' w1 [.int .i64 kd', .bool bd', .int .u64 bn', .slice A3 cs'.length c3, .string (strOf nm')] 28)) (by simp [Value.oneCell']) (by unfold maxLen; omega) (by omega) (by have := H.out.big; have := hb1.size; simp; omega) ?_
                    intro v' w3 hown' hgrow _
                    refine hK _ _ ?_
                    clear hK K
                    obtain ⟨g', cap', rfl⟩ := ownsRow_succ hown'
                    obtain ⟨ho2, hk2, hkN2, hv2⟩ := H.out.round (g := (⟨⟨kd', bd', bn', cs', nm'⟩, .slice A3 cs'.length c3⟩ : GA)) (by omega) (by decide) (by decide) (by decide) hb1 (by intro r hr; rw [List.mem_singleton.1 hr]; exact hcr) hown' hgrow
                    have hgs2 := HS.out ⟨⟨kd', bd', bn', cs', nm'⟩, .slice A3 cs'.length c3⟩ rfl
                    have z0 := ho2.blk.cell 0 _ rfl
                    have z1 := ho2.blk.fr 0 _ rfl
                    refine wpAnyIn_ready (rs := [6]) (by kernel_rfl) (by simp) ?_
                    refine AllReadyIn.cons rfl (fun K hK => ?_) ?_
                    · go_simp
                      refine hK _ _ ?_
                      clear hK K
                      refine wpAnyIn_done (by kernel_rfl) ?_ _
                      exact ⟨hk2, hkN2, _, _, hgs2, hv2⟩
                    exact AllReadyIn.nil
                  exact AllReadyIn.nil
                exact AllReadyIn.nil
              exact AllReadyIn.nil
            refine AllReadyIn.cons rfl (fun K hK => ?_) ?_
            · go_simp
              refine ⟨trivial, ?_⟩
              refine (CallsIn.inRound l (callsIn_wide.2 HF.out)).mono ?_
              rintro e w1 ⟨A3, c3, rfl, hcr, hb1⟩
              have r0 := (H.out.out.later hb1).blk.cell 0 _ rfl
              have rp := fun o => ((H.out.out.later hb1).later (b1 w1 o)).blk.cell 0 _ rfl
              refine hK _ _ ?_
              clear hK K
              refine wpAnyIn_ready (rs := [0, 4]) (by kernel_rfl) (by simp) ?_
              refine AllReadyIn.cons rfl (fun K hK => ?_) ?_
              · go_simp
                refine hK _ _ ?_
                clear hK K
                refine wpAnyIn_ready (rs := [4]) (by kernel_rfl) (by simp) ?_
                refine AllReadyIn.cons rfl (fun K hK => ?_) ?_
                · go_simp
                  refine hK _ _ ?_
                  clear hK K
                  refine wpAnyIn_ready (rs := [5]) (by kernel_rfl) (by simp) ?_
                  refine AllReadyIn.cons rfl (fun K hK => ?_) ?_
                  · refine stepIn_append_own rfl _ _ 79 rfl (w2.heap.size + 2) 28 i0 (.agg #[.int .i64 0, .bool false, .int .u64 0, .slice none 0 0, .string ⟨#[]⟩]) 5 64 Tryz.underlying79 hi hz0 hz1 hz2 rfl (by decide) v gs.length (gs.flatMap gaC) rfl (own_later (own_later H.out.row hb1) (b1 _ _)) ⟨w1.heap.size, 0, none⟩ 1 1 [.int .i64 kd', .bool bd', .int .u64 bn', .slice A3 cs'.length c3, .string (strOf nm')] rfl rfl (blk_cells (blk_new' w1 [.int .i64 kd', .bool bd', .int .u64 bn', .slice A3 cs'.length c3, .string (strOf nm')] 28)) (by simp [Value.oneCell']) (by unfold maxLen; omega) (by omega) (by have := H.out.big; have := hb1.size; simp; omega) ?_
                    intro v' w3 hown' hgrow _
                    refine hK _ _ ?_
                    clear hK K
                    obtain ⟨g', cap', rfl⟩ := ownsRow_succ hown'
                    obtain ⟨ho2, hk2, hkN2, hv2⟩ := H.out.round (g := (⟨⟨kd', bd', bn', cs', nm'⟩, .slice A3 cs'.length c3⟩ : GA)) (by omega) (by decide) (by decide) (by decide) hb1 (by intro r hr; rw [List.mem_singleton.1 hr]; exact hcr) hown' hgrow
                    have hgs2 := HS.out ⟨⟨kd', bd', bn', cs', nm'⟩, .slice A3 cs'.length c3⟩ rfl
                    have z0 := ho2.blk.cell 0 _ rfl
                    have z1 := ho2.blk.fr 0 _ rfl
                    refine wpAnyIn_ready (rs := [6]) (by kernel_rfl) (by simp) ?_
                    refine AllReadyIn.cons rfl (fun K hK => ?_) ?_
                    · go_simp
                      refine hK _ _ ?_
                      clear hK K
                      refine wpAnyIn_done (by kernel_rfl) ?_ _
                      exact ⟨hk2, hkN2, _, _, hgs2, hv2⟩
                    exact AllReadyIn.nil
                  exact AllReadyIn.nil
                exact AllReadyIn.nil
              refine AllReadyIn.cons rfl (fun K hK => ?_) ?_
              · go_simp
                refine hK _ _ ?_
                clear hK K
                refine wpAnyIn_ready (rs := [0]) (by kernel_rfl) (by simp) ?_
                refine AllReadyIn.cons rfl (fun K hK => ?_) ?_
                · go_simp
                  refine hK _ _ ?_
                  clear hK K
                  refine wpAnyIn_ready (rs := [5]) (by kernel_rfl) (by simp) ?_
                  refine AllReadyIn.cons rfl (fun K hK => ?_) ?_
                  · refine stepIn_append_own rfl _ _ 79 rfl (w2.heap.size + 2) 28 i0 (.agg #[.int .i64 0, .bool false, .int .u64 0, .slice none 0 0, .string ⟨#[]⟩]) 5 64 Tryz.underlying79 hi hz0 hz1 hz2 rfl (by decide) v gs.length (gs.flatMap gaC) rfl (own_later (own_later H.out.row hb1) (b1 _ _)) ⟨w1.heap.size, 0, none⟩ 1 1 [.int .i64 kd', .bool bd', .int .u64 bn', .slice A3 cs'.length c3, .string (strOf nm')] rfl rfl (blk_cells (blk_new' w1 [.int .i64 kd', .bool bd', .int .u64 bn', .slice A3 cs'.length c3, .string (strOf nm')] 28)) (by simp [Value.oneCell']) (by unfold maxLen; omega) (by omega) (by have := H.out.big; have := hb1.size; simp; omega) ?_
                    intro v' w3 hown' hgrow _
                    refine hK _ _ ?_
                    clear hK K
                    obtain ⟨g', cap', rfl⟩ := ownsRow_succ hown'
                    obtain ⟨ho2, hk2, hkN2, hv2⟩ := H.out.round (g := (⟨⟨kd', bd', bn', cs', nm'⟩, .slice A3 cs'.length c3⟩ : GA)) (by omega) (by decide) (by decide) (by decide) hb1 (by intro r hr; rw [List.mem_singleton.1 hr]; exact hcr) hown' hgrow
                    have hgs2 := HS.out ⟨⟨kd', bd', bn', cs', nm'⟩, .slice A3 cs'.length c3⟩ rfl
                    have z0 := ho2.blk.cell 0 _ rfl
                    have z1 := ho2.blk.fr 0 _ rfl
                    refine wpAnyIn_ready (rs := [6]) (by kernel_rfl) (by simp) ?_
                    refine AllReadyIn.cons rfl (fun K hK => ?_) ?_
                    · go_simp
                      refine hK _ _ ?_
                      clear hK K
                      refine wpAnyIn_done (by kernel_rfl) ?_ _
                      exact ⟨hk2, hkN2, _, _, hgs2, hv2⟩
                    exact AllReadyIn.nil
                  exact AllReadyIn.nil
                exact AllReadyIn.nil
              exact AllReadyIn.nil
            exact AllReadyIn.nil
          exact AllReadyIn.nil
        exact AllReadyIn.nil
      · have hk0 : ks'.length ≠ 0 := fun e => hk (List.eq_nil_of_length_eq_zero e)
        have hkz : ¬ ((ks'.length : Int) = 0) := by omega
        have hSn : leafF Nd.atom (pre ++ [(d, Tr.mk k' mn' mx' ⟨⟨kd', bd', bn', cs', nm'⟩, sc'⟩ (.slice A9 ks'.length cp9) ks')]) = leafF Nd.atom pre := by
          refine leafF_non _ _ _ ?_
          rw [nd_mk]
          show (ks'.map Tr.nd).isEmpty = false
          cases ks' with
          | nil => exact absurd rfl hk
          | cons y ys => rfl
        have HS := Lib.hid hSn
        have HG := Lib.hid hgs
        clear hst hnd hmem hB h ho hoA hsk hgs hp hSn hk hk0
        gi_wp2
        exact ⟨KeepsOthers.refl _, KeepN.refl _ _, gs, Eq.trans HG.out HS.out.symm, v, H.out⟩
    case done =>
      rintro D W hD ⟨gs, v, hgs, h⟩ hK
      have hDD : w.heap.size ≤ D := by omega
      have hE := HV.out
      have r0 := h.out.blk.cell 0 _ rfl
      obtain ⟨A2, c2, rfl⟩ := own_form h.row
      have H := Lib.hid h
      have HG := Lib.hid hgs
      clear h hst hnd hmem hgs
      gi_wp2
      refine ⟨by simp, .inl ⟨_, _, rfl, run_takeDeferred hK, ?_⟩⟩
      refine ⟨_, results_tmp2 rfl _ _ _, gs, _, Eq.trans HG.out hE, rfl, own_mono (own_put H.out.row hK rfl) (by omega), (fun g hg => own_mono (own_put (H.out.cns g hg _ (List.mem_singleton.2 rfl)) hK rfl) (by omega)), below_put H.out.bel hK hDD⟩
    case stop =>
      rintro D pre W hD hp h hK
      exact h.elim
end Go.Proofs.YtdoioaeppepndaaGreatDoor
namespace Go.Proofs.YtdoioaeppepndaaGreatDoor
open Go.RowKit
open A8

theorem gaC_len (g : GA) : (gaC g).length = 5 := rfl
/-- A row of atoms. -/
def Ats (w : World) (v : Value) (gs : List GA) : Prop := Sl w 5 gs.length v (gs.flatMap gaC) ∧ ∀ g ∈ gs, Sl w 2 g.a.cs.length g.sc (g.a.cs.flatMap cnC)
theorem Ats.later {w w' : World} {v : Value} {gs : List GA} (h : Ats w v gs) (hb : Below w.heap.size w w') : Ats w' v gs := ⟨h.1.later hb, fun g hg => (h.2 g hg).later hb⟩
end Go.Proofs.YtdoioaeppepndaaGreatDoor
namespace Go.Proofs.YtdoioaeppepndaaGreatDoor
open Go.RowKit Go.Shelf
open A8 Tk7

/-- The atoms of a node. -/
def atomsN (n : Nd) : List At := if soundN 1 n = true then (leavesN n).map Nd.atom else []
theorem atoms_any (T : Tr) (w : World) (hT : TrW w T) (hlen : (subsT T).length ≤ 999999) (hG : SG w) (hcs : ∀ t ∈ subsT T, t.nd.atom.cs.length ≤ 1000000) :
    Calls Tryz.prog 92 #[.agg T.row.toArray] w fun e w' => ∃ (gs : List GA) (A : Option Addr) (c : Nat), IsL (gs.map (fun g => g.a)) (atomsN T.nd) ∧ e = .returned (.tuple #[.slice A gs.length c, .int .i64 (soundE T.nd)]) ∧ Ats w' (.slice A gs.length c) gs ∧ (∀ g ∈ gs, w'.ownsRow w.heap.size 94 2 g.sc g.a.cs.length (g.a.cs.flatMap cnC)) ∧ Below w.heap.size w w' := by
  have hA := fun w1 (hb : Below w.heap.size w w1) => leavesA_any T w1 (hT.later hb) hlen (hG.later hb) hcs
  obtain ⟨E, hE⟩ : ∃ E, E = soundE T.nd := ⟨_, rfl⟩
  obtain ⟨ats, hats⟩ : ∃ ats, ats = atomsN T.nd := ⟨_, rfl⟩
  unfold atomsN at hats
  rw [← hE, ← hats] at hA
  show Calls _ _ _ _ fun e w' => ∃ (gs : List GA) (A : Option Addr) (c : Nat), IsL (gs.map (fun g => g.a)) (atomsN T.nd) ∧ _
  have hA2 : ats = atomsN T.nd := hats
  rw [← hE, ← hA2]
  clear hE hats hA2 hT hlen hG hcs
  obtain ⟨k, mn, mx, ⟨⟨kd, bd, bn, cs, nm⟩, sc⟩, sk, ks⟩ := T
  simp only [Tr.row] at hA ⊢
  have HA := Lib.hid hA
  clear hA
  go_enter Tryz.func92, Tryz.ntmps92
  go_wp2_with (go_at_call 125; refine (HA.out _ (b1 _ _)).mono ?_; rintro e w2 ⟨gs, v, hgs, rfl, ho, hc, hb2⟩; obtain ⟨A, c, rfl⟩ := own_form ho; have HO := Lib.hid ho; have HC := Lib.hid hc; have HG := Lib.hid hgs; clear ho hc hgs)
  go_ret2
  exact ⟨gs, A, c, HG.out, rfl, ⟨Sl.of_own HO.out, fun g hg => Sl.of_own (HC.out g hg)⟩, fun g hg => own_mono (HC.out g hg) (by simp), bstep (b1 _ _) hb2⟩
end Go.Proofs.YtdoioaeppepndaaGreatDoor
