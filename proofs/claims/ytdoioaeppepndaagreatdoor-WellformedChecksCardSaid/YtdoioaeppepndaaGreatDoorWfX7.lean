/- The document's own, whole; the law on which queries are well-formed. -/
import Derived.Test.YtdoioaeppepndaaGreatDoorWfX6
import Derived.Test.YtdoioaeppepndaaGreatDoorWfX5
import Derived.Test.YtdoioaeppepndaaGreatDoorAstDg
import Derived.Test.YtdoioaeppepndaaGreatDoorAstRp
import Derived.Test.YtdoioaeppepndaaGreatDoorAstCk
import Derived.Test.YtdoioaeppepndaaGreatDoorAstKm
import Derived.Test.YtdoioaeppepndaaGreatDoorWfX3
import Derived.Test.YtdoioaeppepndaaGreatDoorWfX4
import Derived.Test.YtdoioaeppepndaaGreatDoorWfOd
import Derived.Test.YtdoioaeppepndaaGreatDoorParSk
import Derived.Test.YtdoioaeppepndaaGreatDoorKitLq
import Derived.Test.YtdoioaeppepndaaGreatDoorKitSameTexts
import Derived.Deep.RegionHeld3
namespace Go.Proofs.YtdoioaeppepndaaGreatDoor
open Go.RowKit
open A8 W10

theorem subsT_len11 (T : Tr) : (subsT T).length = nodesN T.nd := by
  refine Tr.ind (P := fun T => (subsT T).length = nodesN T.nd) (fun k mn mx g sk ks ih => ?_) T
  have hl : ∀ l : List Tr, (∀ t ∈ l, (subsT t).length = nodesN t.nd) → (l.flatMap subsT).length = nodesL (l.map Tr.nd) := by
    intro l
    induction l with
    | nil => intro _; rfl
    | cons x xs ih2 =>
      intro h
      rw [List.flatMap_cons, List.map_cons, nodesL, List.length_append, h x List.mem_cons_self, ih2 fun y hy => h y (List.mem_cons_of_mem _ hy)]
  rw [subsT, subsTL_flat, nd_mk, nodesN, List.length_cons, hl ks ih]
  omega
theorem leaves_len11 (T : Tr) : (leavesN T.nd).length ≤ (subsT T).length := by
  have h : (subsN T.nd).length = (subsT T).length := by rw [← subsT_nd, List.length_map]
  unfold leavesN
  rw [← h]
  exact List.length_filter_le _ _
theorem firsts_le11 : ∀ (L S : List (List UInt8)), (firsts S L).length ≤ L.length
  | [], _ => Nat.le_refl _
  | s :: r, S => by
    unfold firsts
    split
    · exact Nat.le_succ_of_le (firsts_le11 r S)
    · simpa using firsts_le11 r (S ++ [s])
/-- The atoms and whether they are negated, of the leaves. -/
def atL11 (p : Nd) : List A8.At := (leavesN p).map Nd.atom
def ngL11 (p : Nd) : List Bool := (leavesN p).map fun n => decide (n.kind = 2)
def nmL11 (p : Nd) : List (List UInt8) := if onceF [] (leafNames p) = true then namesN p else []
theorem atL_nm (p : Nd) : (atL11 p).map (fun a => a.nm) = leafNames p := by
  unfold atL11 leafNames
  rw [List.map_map]
  rfl
theorem zip_of (l : List Nd) : (l.map Nd.atom).zip (l.map fun n => decide (n.kind = 2)) = l.map fun n => (n.atom, decide (n.kind = 2)) := by
  induction l with
  | nil => rfl
  | cons x l ih => rw [List.map_cons, List.map_cons, List.map_cons, List.zip_cons_cons, ih]
theorem namF_is (p : Nd) : namF ((atL11 p).zip (ngL11 p)) = namesN p := by
  unfold atL11 ngL11 namF namesN
  rw [zip_of, List.filter_map, List.map_map]
  congr 1
  apply List.filter_congr
  intro n _
  unfold isNmd isNotB hasNm
  simp only [Function.comp]
  rw [Bool.and_comm]
theorem bare_is (p : Nd) : ((atL11 p).zip (ngL11 p)).all (fun z => !(z.2 && !z.1.nm.isEmpty)) = bareB p := by
  unfold atL11 ngL11 bareB
  rw [zip_of, List.all_map]
  rfl
theorem seq_ref (q : Qu) (nk : Bool) (hnk : onceF [] (leafNames q.p) = true → nk = (bareB q.p && (firsts [] (useL q)).all (fun s => (namesN q.p).contains s))) :
    seqE (checkB q) (fullR q) (depthN q.p) (rangeR q) (stR true q.p) (onceF [] (leafNames q.p)) nk = refE q := by
  unfold seqE refE
  cases h : onceF [] (leafNames q.p) with
  | false => simp
  | true =>
    rw [hnk h]
    cases bareB q.p <;> cases (firsts [] (useL q)).all (fun s => (namesN q.p).contains s) <;> simp
/-- What the document's own lists of atoms need. -/
structure RB (q : GQ) : Prop where
  len : (subsT q.t).length ≤ 99999
  cs : ∀ t ∈ subsT q.t, t.nd.atom.cs.length ≤ 1000000
  hv : q.hv.length ≤ 1000
  em : q.em.length ≤ 1000
theorem check_sound {q : Qu} (h : checkB q = true) : soundN 1 q.p = true := by
  unfold checkB at h
  simp only [Bool.and_eq_true] at h
  exact h.1.1.1
theorem rats11 (q : GQ) (w : World) (hq : QW w q) (hB : RB q) (hs : soundN 1 q.t.nd = true) :
    ∀ w1, Below w.heap.size w w1 → Calls Tryz.prog 89 #[.agg q.t.row.toArray] w1 fun e w' => ∃ (gs : List GA) (A : Option Addr) (c : Nat), gs.map (fun g => g.a) = atL11 q.t.nd ∧ e = .returned (.tuple #[.slice A gs.length c, .int .i64 0]) ∧ Sl w' 5 gs.length (.slice A gs.length c) (gs.flatMap gaC) ∧ Below w1.heap.size w1 w' := by
  intro w1 hb
  have hn : nodesN q.t.nd ≤ 1000000 := by rw [← subsT_len11]; exact Nat.le_trans hB.len (by omega)
  refine (rAtoms_any q.t w1 (hq.tr.later hb) hn hB.cs).mono ?_
  rintro e w' ⟨gs, A, c, hg, he, ha, hbb⟩
  refine ⟨gs, A, c, ?_, ?_, ha.1, hbb⟩
  · have h1 : gs.map (fun g => g.a) = atomsN q.t.nd := hg
    rw [h1]
    unfold atomsN atL11
    rw [if_pos hs]
  · rw [he]
    unfold soundE
    rw [if_pos hs]
theorem rnegs11 (q : GQ) (w : World) (hq : QW w q) (hB : RB q) (hs : soundN 1 q.t.nd = true) :
    ∀ w1, Below w.heap.size w w1 → Calls Tryz.prog 116 #[.agg q.t.row.toArray] w1 fun e w' => ∃ (A : Option Addr) (c : Nat), e = .returned (.tuple #[.slice A (ngL11 q.t.nd).length c, .int .i64 0]) ∧ Sl w' 1 (ngL11 q.t.nd).length (.slice A (ngL11 q.t.nd).length c) ((ngL11 q.t.nd).flatMap fun b => [.bool b]) ∧ Below w1.heap.size w1 w' := by
  intro w1 hb
  have hn : nodesN q.t.nd ≤ 1000000 := by rw [← subsT_len11]; exact Nat.le_trans hB.len (by omega)
  refine (rNegated_any q.t w1 (hq.tr.later hb) hn).mono ?_
  rintro e w' ⟨gs, A, c, hg, he, ha, hbb⟩
  have h1 : gs = ngL11 q.t.nd := by
    have h2 : gs = negN q.t.nd := hg
    rw [h2]
    unfold negN ngL11
    rw [if_pos hs]
  subst h1
  refine ⟨A, c, ?_, ha, hbb⟩
  rw [he]
  unfold soundE
  rw [if_pos hs]
theorem rnames11 (q : GQ) (w : World) (hq : QW w q) (hB : RB q) (hs : soundN 1 q.t.nd = true) :
    Calls Tryz.prog 80 #[.agg q.row.toArray] w fun e w' => ∃ v, e = .returned (.tuple #[v, .bool (onceF [] (leafNames q.t.nd))]) ∧ w'.ownsRow w.heap.size 9 1 v (nmL11 q.t.nd).length ((nmL11 q.t.nd).map fun s => .string (strOf s)) ∧ Below w.heap.size w w' := by
  have hl : (ngL11 q.t.nd).length = (atL11 q.t.nd).length := by unfold ngL11 atL11; rw [List.length_map, List.length_map]
  have hl2 : (atL11 q.t.nd).length ≤ 100000 := by
    unfold atL11
    rw [List.length_map]
    exact Nat.le_trans (leaves_len11 q.t) (Nat.le_trans hB.len (by omega))
  have h := rnames_any q w hq (atL11 q.t.nd) (ngL11 q.t.nd) hl hl2 (rats11 q w hq hB hs) (rnegs11 q w hq hB hs)
  rw [atL_nm, namF_is] at h
  exact h
theorem rnamed11 (q : GQ) (w : World) (hq : QW w q) (hB : RB q) (hs : soundN 1 q.t.nd = true) :
    Calls Tryz.prog 83 #[.agg q.row.toArray] w fun e w' => e = .returned (.bool (bareB q.t.nd && (firsts [] (useL q.qu)).all (fun s => (nmL11 q.t.nd).contains s))) ∧ Below w.heap.size w w' := by
  have hl : (ngL11 q.t.nd).length = (atL11 q.t.nd).length := by unfold ngL11 atL11; rw [List.length_map, List.length_map]
  have hl2 : (atL11 q.t.nd).length ≤ 100000 := by
    unfold atL11
    rw [List.length_map]
    exact Nat.le_trans (leaves_len11 q.t) (Nat.le_trans hB.len (by omega))
  have hu : (firsts [] (useL q.qu)).length ≤ 100000 := by
    refine Nat.le_trans (firsts_le11 _ _) ?_
    have h1 := hB.hv
    have h2 := hB.em
    unfold useL
    rw [List.length_append, List.length_map, List.length_map]
    show q.hv.length + q.em.length ≤ 100000
    omega
  have h := rnamed_any q w hq (atL11 q.t.nd) (ngL11 q.t.nd) (nmL11 q.t.nd) (firsts [] (useL q.qu)) hl hl2 hu (rats11 q w hq hB hs) (rnegs11 q w hq hB hs)
    (fun w1 hb => (rnames11 q w1 (hq.later hb) hB hs).mono (by rintro e w' ⟨v, he, ho, hbb⟩; exact ⟨v, _, he, ho, hbb⟩))
    (fun w1 hb => (ruses_any q w1 (hq.later hb) hB.hv hB.em).mono (by rintro e w' ⟨v, he, ho, hbb⟩; exact ⟨v, he, ho, hbb⟩))
  rw [bare_is] at h
  exact h
theorem r10check_any (q : GQ) (w : World) (hq : QW w q) (hB : RB q) :
    Calls Tryz.prog 33 #[.agg q.row.toArray] w fun e w' => e = .returned (.int .i64 (wfE q.qu)) ∧ Below w.heap.size w w' := by
  have hn : nodesN q.t.nd ≤ 1000000 := by rw [← subsT_len11]; exact Nat.le_trans hB.len (by omega)
  have hle : (subsT q.t).length ≤ 999999 := Nat.le_trans hB.len (by omega)
  have hd : depthN q.t.nd ≤ 1000000 := by
    exact Nat.le_trans (depth_le q.t.nd).2 hn
  have hsd : checkB q.qu = true → soundN 1 q.t.nd = true := fun h => check_sound h
  have h := rcheck_seq q w hq (checkB q.qu) (fullR q.qu) (depthN q.t.nd) (rangeR q.qu) (stR true q.t.nd) (onceF [] (leafNames q.t.nd))
    (bareB q.t.nd && (firsts [] (useL q.qu)).all (fun s => (nmL11 q.t.nd).contains s)) hd
    (fun w1 hb => rCheck_any q w1 (hq.later hb))
    (fun _ w1 hb => rfull_any q w1 (hq.later hb) hle)
    (fun hc w1 hb => (rDepth_any q.t w1 (hq.tr.later hb) hn).mono (by
      rintro e w' ⟨he, hbb⟩
      refine ⟨?_, hbb⟩
      rw [he, if_pos (hsd hc)]
      unfold soundE
      rw [if_pos (hsd hc)]))
    (fun hc w1 hb => (rnames11 q w1 (hq.later hb) hB (hsd hc)).mono (by rintro e w' ⟨v, he, _, hbb⟩; exact ⟨v, he, hbb⟩))
    (fun _ w1 hb => rranges_any q w1 (hq.later hb) hle)
    (fun _ w1 hb => rstands_any q.t true w1 (hq.tr.later hb))
    (fun hc w1 hb => rnamed11 q w1 (hq.later hb) hB (hsd hc))
  have hr : seqE (checkB q.qu) (fullR q.qu) (depthN q.t.nd) (rangeR q.qu) (stR true q.t.nd) (onceF [] (leafNames q.t.nd)) (bareB q.t.nd && (firsts [] (useL q.qu)).all (fun s => (nmL11 q.t.nd).contains s)) = wfE q.qu := by
    rw [← ref_is]
    refine seq_ref q.qu _ fun ho => ?_
    have ho2 : onceF [] (leafNames q.t.nd) = true := ho
    have : nmL11 q.t.nd = namesN q.t.nd := by unfold nmL11; rw [if_pos ho2]
    rw [this]
    rfl
  rw [hr] at h
  exact h
end Go.Proofs.YtdoioaeppepndaaGreatDoor
namespace Go.Proofs.YtdoioaeppepndaaGreatDoor
open Go.RowKit
open A8 W10
attribute [local go_sem] Oper.semAt_some

theorem wf_sound {q : Qu} (h : wfE q = 0) : soundN 1 q.p = true ∧ onceF [] (leafNames q.p) = true := by
  unfold wfE at h
  cases hb : checkB q with
  | false => rw [hb, if_pos rfl] at h; cases h
  | true =>
    refine ⟨check_sound hb, ?_⟩
    rw [once_is]
    rw [hb, if_neg (by decide)] at h
    split at h
    · cases h
    split at h
    · cases h
    split at h
    · cases h
    split at h
    · cases h
    split at h
    · cases h
    rename_i h1
    simpa using h1
theorem RB.plain {q : GQ} (h : RB q) : RB ⟨q.t, 0, .slice none 0 0, [], .slice none 0 0, []⟩ := ⟨h.len, h.cs, Nat.zero_le _, Nat.zero_le _⟩
set_option maxRecDepth 100000 in
set_option maxHeartbeats 16000000 in
theorem r10pattern_any (T : Tr) (w : World) (hT : TrW w T) (hB : RB ⟨T, 0, .slice none 0 0, [], .slice none 0 0, []⟩) :
    Calls Tryz.prog 35 #[.agg T.row.toArray] w fun e w' => e = .returned (.int .i64 (wfE (plainQ T.nd))) ∧ Below w.heap.size w w' := by
  have hc := fun w1 (hb : Below w.heap.size w w1) => r10check_any ⟨T, 0, .slice none 0 0, [], .slice none 0 0, []⟩ w1 ⟨hT.later hb, (by show (0 : Int) ≤ 0 ∧ (0 : Int) < 18446744073709551616; decide), Sl.nil _ _, Sl.nil _ _, (fun h hm => by cases hm), (fun h hm => by cases hm)⟩ hB
  have hq : GQ.qu ⟨T, 0, .slice none 0 0, [], .slice none 0 0, []⟩ = plainQ T.nd := rfl
  rw [hq] at hc
  obtain ⟨E, hE⟩ : ∃ E, E = wfE (plainQ T.nd) := ⟨_, rfl⟩
  rw [← hE] at hc ⊢
  clear hE hq hB
  have hone := hT.one
  obtain ⟨k, mn, mx, ⟨⟨kd, bd, bn, cs, nm⟩, sc⟩, sk, ks⟩ := T
  obtain ⟨-, ⟨-, hsc⟩, hsl⟩ := hone
  simp only at hsc
  obtain ⟨A1, cap1, rfl, -, -⟩ := sl_get (by decide) hsc
  obtain ⟨A, cap, rfl, -, -⟩ := sl_get (by decide) hsl
  clear hsc hsl
  clear hT
  simp only [GQ.row, Tr.row, List.cons_append, List.nil_append] at hc ⊢
  go_enter Tryz.func35, Tryz.ntmps35
  go_wp2_with (go_at_call 33; refine (hc _ (b1 _ _)).mono ?_; rintro e w2 ⟨rfl, hb2⟩)
  go_ret
  exact ⟨rfl, bstep (b1 _ _) hb2⟩
set_option maxRecDepth 100000 in
set_option maxHeartbeats 16000000 in
theorem r10names_any (q : GQ) (w : World) (hq : QW w q) (hB : RB q) :
    Calls Tryz.prog 37 #[.agg q.row.toArray] w (TxtP w (namesL q.qu) (wfE q.qu)) := by
  have hC := fun w1 (hb : Below w.heap.size w w1) => r10check_any q w1 (hq.later hb) hB
  have hM : wfE q.qu = 0 → ∀ w1, Below w.heap.size w w1 → Calls Tryz.prog 80 #[.agg q.row.toArray] w1 fun e w' => ∃ v, e = .returned (.tuple #[v, .bool true]) ∧ w'.ownsRow w1.heap.size 9 1 v (namesN q.t.nd).length ((namesN q.t.nd).map fun s => .string (strOf s)) ∧ Below w1.heap.size w1 w' := fun h w1 hb => by
    obtain ⟨hs, ho⟩ := wf_sound h
    have ho2 : onceF [] (leafNames q.t.nd) = true := ho
    have h1 := rnames11 q w1 (hq.later hb) hB hs
    unfold nmL11 at h1
    rw [if_pos ho2, ho2] at h1
    exact h1
  obtain ⟨NL, hNL⟩ : ∃ NL, NL = namesN q.t.nd := ⟨_, rfl⟩
  rw [← hNL] at hM
  have hl : namesL q.qu = if wfE q.qu = 0 then NL else [] := by unfold namesL; rw [hNL]; try rfl
  rw [hl]
  obtain ⟨E, hE⟩ : ∃ E, E = wfE q.qu := ⟨_, rfl⟩
  rw [← hE] at hC hM ⊢
  clear hE hl hNL
  obtain ⟨T, wi, sh, hv, se, em⟩ := q
  have hsh := hq.hv
  have hse := hq.em
  have hone := hq.tr.one
  simp only at hsh hse hone
  obtain ⟨k, mn, mx, ⟨⟨kd, bd, bn, cs, nm⟩, sc⟩, sk, ks⟩ := T
  obtain ⟨-, ⟨-, hsc⟩, hsl⟩ := hone
  obtain ⟨C1, n1, c1, rfl⟩ := sl_form10 hsc
  obtain ⟨B1, m1, e1, rfl⟩ := sl_form10 hsl
  obtain ⟨H1, h1, ch, rfl⟩ := sl_form10 hsh
  obtain ⟨E1, g1e, ce, rfl⟩ := sl_form10 hse
  clear hsc hsl hsh hse hq hB
  simp only [GQ.row, Tr.row, List.cons_append, List.nil_append] at hC hM ⊢
  have HC := Lib.hid hC
  have HM := Lib.hid hM
  clear hC hM
  by_cases hE : E = 0
  · rw [if_pos hE]
    have HM0 := Lib.hid (HM.out hE)
    subst hE
    go_enter Tryz.func37, Tryz.ntmps37
    go_upto_region 1 with fail
    refine named_wp ?_
    intro W1 hW1
    have hX : Blk W1 w.heap.size [.int .i64 k, .int .i64 mn, .int .i64 mx, .int .i64 kd, .bool bd, .int .u64 bn, .slice C1 n1 c1, .string (strOf nm), .slice B1 m1 e1, .int .u64 wi, .slice H1 h1 ch, .slice E1 g1e ce] := by rw [hW1]; exact Blk.new w [.int .i64 k, .int .i64 mn, .int .i64 mx, .int .i64 kd, .bool bd, .int .u64 bn, .slice C1 n1 c1, .string (strOf nm), .slice B1 m1 e1, .int .u64 wi, .slice H1 h1 ch, .slice E1 g1e ce] 35
    have hb1 : Below w.heap.size w W1 := by rw [hW1]; exact b1 _ _
    clear hW1
    have HX := Lib.hid hX
    have HB1 := Lib.hid hb1
    clear hX hb1
    have hx := HX.out
    have x0 := hx.cell 0 _ rfl
    have x1 := hx.cell 1 _ rfl
    have x2 := hx.cell 2 _ rfl
    have x3 := hx.cell 3 _ rfl
    have x4 := hx.cell 4 _ rfl
    have x5 := hx.cell 5 _ rfl
    have x6 := hx.cell 6 _ rfl
    have x7 := hx.cell 7 _ rfl
    have x8 := hx.cell 8 _ rfl
    have x9 := hx.cell 9 _ rfl
    have x10 := hx.cell 10 _ rfl
    have x11 := hx.cell 11 _ rfl
    have xlt := hx.lt
    clear hx
    go_wp2_with fail
    refine (HC.out W1 HB1.out).mono ?_
    rintro r u2 ⟨rfl, hu2⟩
    clear xlt x0 x1 x2 x3 x4 x5 x6 x7 x8 x9 x10 x11
    have hx := HX.out.later hu2
    have x0 := hx.cell 0 _ rfl
    have x1 := hx.cell 1 _ rfl
    have x2 := hx.cell 2 _ rfl
    have x3 := hx.cell 3 _ rfl
    have x4 := hx.cell 4 _ rfl
    have x5 := hx.cell 5 _ rfl
    have x6 := hx.cell 6 _ rfl
    have x7 := hx.cell 7 _ rfl
    have x8 := hx.cell 8 _ rfl
    have x9 := hx.cell 9 _ rfl
    have x10 := hx.cell 10 _ rfl
    have x11 := hx.cell 11 _ rfl
    have xlt := hx.lt
    clear hx
    go_wp2_with fail
    refine (HM0.out u2 (bstep HB1.out hu2)).mono ?_
    rintro r u3 ⟨v, rfl, ho, hu3⟩
    obtain ⟨A5, c5, rfl⟩ := own_form ho
    have HO := Lib.hid ho
    clear ho
    clear xlt x0 x1 x2 x3 x4 x5 x6 x7 x8 x9 x10 x11
    go_wp2
    go_ret2
    exact ⟨_, rfl, own_mono HO.out (bstep HB1.out hu2).size, bstep HB1.out (bstep hu2 hu3)⟩
  · rw [if_neg hE]
    go_enter Tryz.func37, Tryz.ntmps37
    go_upto_region 1 with fail
    refine named_wp ?_
    intro W1 hW1
    have hX : Blk W1 w.heap.size [.int .i64 k, .int .i64 mn, .int .i64 mx, .int .i64 kd, .bool bd, .int .u64 bn, .slice C1 n1 c1, .string (strOf nm), .slice B1 m1 e1, .int .u64 wi, .slice H1 h1 ch, .slice E1 g1e ce] := by rw [hW1]; exact Blk.new w [.int .i64 k, .int .i64 mn, .int .i64 mx, .int .i64 kd, .bool bd, .int .u64 bn, .slice C1 n1 c1, .string (strOf nm), .slice B1 m1 e1, .int .u64 wi, .slice H1 h1 ch, .slice E1 g1e ce] 35
    have hb1 : Below w.heap.size w W1 := by rw [hW1]; exact b1 _ _
    clear hW1
    have HX := Lib.hid hX
    have HB1 := Lib.hid hb1
    clear hX hb1
    have hx := HX.out
    have x0 := hx.cell 0 _ rfl
    have x1 := hx.cell 1 _ rfl
    have x2 := hx.cell 2 _ rfl
    have x3 := hx.cell 3 _ rfl
    have x4 := hx.cell 4 _ rfl
    have x5 := hx.cell 5 _ rfl
    have x6 := hx.cell 6 _ rfl
    have x7 := hx.cell 7 _ rfl
    have x8 := hx.cell 8 _ rfl
    have x9 := hx.cell 9 _ rfl
    have x10 := hx.cell 10 _ rfl
    have x11 := hx.cell 11 _ rfl
    have xlt := hx.lt
    clear hx
    go_wp2_with fail
    refine (HC.out W1 HB1.out).mono ?_
    rintro r u2 ⟨rfl, hu2⟩
    clear xlt x0 x1 x2 x3 x4 x5 x6 x7 x8 x9 x10 x11
    go_wp2
    go_ret2
    exact ⟨_, rfl, World.ownsRow_nil _ _ _ _, bstep HB1.out hu2⟩
set_option maxRecDepth 100000 in
set_option maxHeartbeats 16000000 in
theorem r10uses_any (q : GQ) (w : World) (hq : QW w q) (hB : RB q) :
    Calls Tryz.prog 40 #[.agg q.row.toArray] w (TxtP w (usesL q.qu) (wfE q.qu)) := by
  have hC := fun w1 (hb : Below w.heap.size w w1) => r10check_any q w1 (hq.later hb) hB
  have hM : wfE q.qu = 0 → ∀ w1, Below w.heap.size w w1 → Calls Tryz.prog 86 #[.agg q.row.toArray] w1 fun e w' => ∃ v, e = .returned v ∧ w'.ownsRow w1.heap.size 9 1 v (firsts [] (useL q.qu)).length ((firsts [] (useL q.qu)).map fun s => .string (strOf s)) ∧ Below w1.heap.size w1 w' := fun h w1 hb => ruses_any q w1 (hq.later hb) hB.hv hB.em
  obtain ⟨NL, hNL⟩ : ∃ NL, NL = firsts [] (useL q.qu) := ⟨_, rfl⟩
  rw [← hNL] at hM
  have hl : usesL q.qu = if wfE q.qu = 0 then NL else [] := by unfold usesL; rw [hNL]; try rfl
  rw [hl]
  obtain ⟨E, hE⟩ : ∃ E, E = wfE q.qu := ⟨_, rfl⟩
  rw [← hE] at hC hM ⊢
  clear hE hl hNL
  obtain ⟨T, wi, sh, hv, se, em⟩ := q
  have hsh := hq.hv
  have hse := hq.em
  have hone := hq.tr.one
  simp only at hsh hse hone
  obtain ⟨k, mn, mx, ⟨⟨kd, bd, bn, cs, nm⟩, sc⟩, sk, ks⟩ := T
  obtain ⟨-, ⟨-, hsc⟩, hsl⟩ := hone
  obtain ⟨C1, n1, c1, rfl⟩ := sl_form10 hsc
  obtain ⟨B1, m1, e1, rfl⟩ := sl_form10 hsl
  obtain ⟨H1, h1, ch, rfl⟩ := sl_form10 hsh
  obtain ⟨E1, g1e, ce, rfl⟩ := sl_form10 hse
  clear hsc hsl hsh hse hq hB
  simp only [GQ.row, Tr.row, List.cons_append, List.nil_append] at hC hM ⊢
  have HC := Lib.hid hC
  have HM := Lib.hid hM
  clear hC hM
  by_cases hE : E = 0
  · rw [if_pos hE]
    have HM0 := Lib.hid (HM.out hE)
    subst hE
    go_enter Tryz.func40, Tryz.ntmps40
    go_upto_region 1 with fail
    refine named_wp ?_
    intro W1 hW1
    have hX : Blk W1 w.heap.size [.int .i64 k, .int .i64 mn, .int .i64 mx, .int .i64 kd, .bool bd, .int .u64 bn, .slice C1 n1 c1, .string (strOf nm), .slice B1 m1 e1, .int .u64 wi, .slice H1 h1 ch, .slice E1 g1e ce] := by rw [hW1]; exact Blk.new w [.int .i64 k, .int .i64 mn, .int .i64 mx, .int .i64 kd, .bool bd, .int .u64 bn, .slice C1 n1 c1, .string (strOf nm), .slice B1 m1 e1, .int .u64 wi, .slice H1 h1 ch, .slice E1 g1e ce] 35
    have hb1 : Below w.heap.size w W1 := by rw [hW1]; exact b1 _ _
    clear hW1
    have HX := Lib.hid hX
    have HB1 := Lib.hid hb1
    clear hX hb1
    have hx := HX.out
    have x0 := hx.cell 0 _ rfl
    have x1 := hx.cell 1 _ rfl
    have x2 := hx.cell 2 _ rfl
    have x3 := hx.cell 3 _ rfl
    have x4 := hx.cell 4 _ rfl
    have x5 := hx.cell 5 _ rfl
    have x6 := hx.cell 6 _ rfl
    have x7 := hx.cell 7 _ rfl
    have x8 := hx.cell 8 _ rfl
    have x9 := hx.cell 9 _ rfl
    have x10 := hx.cell 10 _ rfl
    have x11 := hx.cell 11 _ rfl
    have xlt := hx.lt
    clear hx
    go_wp2_with fail
    refine (HC.out W1 HB1.out).mono ?_
    rintro r u2 ⟨rfl, hu2⟩
    clear xlt x0 x1 x2 x3 x4 x5 x6 x7 x8 x9 x10 x11
    have hx := HX.out.later hu2
    have x0 := hx.cell 0 _ rfl
    have x1 := hx.cell 1 _ rfl
    have x2 := hx.cell 2 _ rfl
    have x3 := hx.cell 3 _ rfl
    have x4 := hx.cell 4 _ rfl
    have x5 := hx.cell 5 _ rfl
    have x6 := hx.cell 6 _ rfl
    have x7 := hx.cell 7 _ rfl
    have x8 := hx.cell 8 _ rfl
    have x9 := hx.cell 9 _ rfl
    have x10 := hx.cell 10 _ rfl
    have x11 := hx.cell 11 _ rfl
    have xlt := hx.lt
    clear hx
    go_wp2_with fail
    refine (HM0.out u2 (bstep HB1.out hu2)).mono ?_
    rintro r u3 ⟨v, rfl, ho, hu3⟩
    obtain ⟨A5, c5, rfl⟩ := own_form ho
    have HO := Lib.hid ho
    clear ho
    clear xlt x0 x1 x2 x3 x4 x5 x6 x7 x8 x9 x10 x11
    go_wp2
    go_ret2
    exact ⟨_, rfl, own_mono HO.out (bstep HB1.out hu2).size, bstep HB1.out (bstep hu2 hu3)⟩
  · rw [if_neg hE]
    go_enter Tryz.func40, Tryz.ntmps40
    go_upto_region 1 with fail
    refine named_wp ?_
    intro W1 hW1
    have hX : Blk W1 w.heap.size [.int .i64 k, .int .i64 mn, .int .i64 mx, .int .i64 kd, .bool bd, .int .u64 bn, .slice C1 n1 c1, .string (strOf nm), .slice B1 m1 e1, .int .u64 wi, .slice H1 h1 ch, .slice E1 g1e ce] := by rw [hW1]; exact Blk.new w [.int .i64 k, .int .i64 mn, .int .i64 mx, .int .i64 kd, .bool bd, .int .u64 bn, .slice C1 n1 c1, .string (strOf nm), .slice B1 m1 e1, .int .u64 wi, .slice H1 h1 ch, .slice E1 g1e ce] 35
    have hb1 : Below w.heap.size w W1 := by rw [hW1]; exact b1 _ _
    clear hW1
    have HX := Lib.hid hX
    have HB1 := Lib.hid hb1
    clear hX hb1
    have hx := HX.out
    have x0 := hx.cell 0 _ rfl
    have x1 := hx.cell 1 _ rfl
    have x2 := hx.cell 2 _ rfl
    have x3 := hx.cell 3 _ rfl
    have x4 := hx.cell 4 _ rfl
    have x5 := hx.cell 5 _ rfl
    have x6 := hx.cell 6 _ rfl
    have x7 := hx.cell 7 _ rfl
    have x8 := hx.cell 8 _ rfl
    have x9 := hx.cell 9 _ rfl
    have x10 := hx.cell 10 _ rfl
    have x11 := hx.cell 11 _ rfl
    have xlt := hx.lt
    clear hx
    go_wp2_with fail
    refine (HC.out W1 HB1.out).mono ?_
    rintro r u2 ⟨rfl, hu2⟩
    clear xlt x0 x1 x2 x3 x4 x5 x6 x7 x8 x9 x10 x11
    go_wp2
    go_ret2
    exact ⟨_, rfl, World.ownsRow_nil _ _ _ _, bstep HB1.out hu2⟩
set_option maxRecDepth 100000 in
set_option maxHeartbeats 16000000 in
theorem r10room_any (q : GQ) (w : World) (hq : QW w q) (hB : RB q) :
    Calls Tryz.prog 44 #[.agg q.row.toArray] w fun e w' => e = .returned (.tuple #[.int .i64 (roomA q.qu), .int .i64 (roomD q.qu), .int .i64 (wfE q.qu)]) ∧ Below w.heap.size w w' := by
  have hn : nodesN q.t.nd ≤ 1000000 := by rw [← subsT_len11]; exact Nat.le_trans hB.len (by omega)
  have hC := fun w1 (hb : Below w.heap.size w w1) => r10check_any q w1 (hq.later hb) hB
  have hA : wfE q.qu = 0 → ∀ w1, Below w.heap.size w w1 → Calls Tryz.prog 89 #[.agg q.t.row.toArray] w1 fun e w' => ∃ (A : Option Addr) (c : Nat), e = .returned (.tuple #[.slice A (leavesN q.t.nd).length c, .int .i64 0]) ∧ Below w1.heap.size w1 w' := fun h w1 hb => by
    refine (rats11 q w hq hB (wf_sound h).1 w1 hb).mono ?_
    rintro e w' ⟨gs, A, c, hg, rfl, -, hbb⟩
    have hl : gs.length = (leavesN q.t.nd).length := by
      have h2 := congrArg List.length hg
      unfold atL11 at h2
      rw [List.length_map, List.length_map] at h2
      exact h2
    rw [hl]
    exact ⟨A, c, rfl, hbb⟩
  have hD : wfE q.qu = 0 → ∀ w1, Below w.heap.size w w1 → Calls Tryz.prog 79 #[.agg q.t.row.toArray] w1 fun e w' => e = .returned (.tuple #[.int .i64 (depthN q.t.nd : Int), .int .i64 0]) ∧ Below w1.heap.size w1 w' := fun h w1 hb => by
    have hs : soundN 1 q.t.nd = true := (wf_sound h).1
    refine (rDepth_any q.t w1 (hq.tr.later hb) hn).mono ?_
    rintro e w' ⟨he, hbb⟩
    refine ⟨?_, hbb⟩
    rw [he, if_pos hs]
    unfold soundE
    rw [if_pos hs]
  have hrA : roomA q.qu = if wfE q.qu = 0 then ((leavesN q.t.nd).length : Int) else 0 := rfl
  have hrD : roomD q.qu = if wfE q.qu = 0 then (depthN q.t.nd : Int) else 0 := rfl
  rw [hrA, hrD]
  obtain ⟨E, hE⟩ : ∃ E, E = wfE q.qu := ⟨_, rfl⟩
  obtain ⟨ln, hln⟩ : ∃ ln, ln = (leavesN q.t.nd).length := ⟨_, rfl⟩
  obtain ⟨dn, hdn⟩ : ∃ dn, dn = depthN q.t.nd := ⟨_, rfl⟩
  rw [← hE] at hC hA hD ⊢
  rw [← hln] at hA ⊢
  rw [← hdn] at hD ⊢
  clear hE hln hdn hrA hrD hn
  obtain ⟨T, wi, sh, hv, se, em⟩ := q
  have hsh := hq.hv
  have hse := hq.em
  have hone := hq.tr.one
  simp only at hsh hse hone hA hD
  obtain ⟨k, mn, mx, ⟨⟨kd, bd, bn, cs, nm⟩, sc⟩, sk, ks⟩ := T
  obtain ⟨-, ⟨-, hsc⟩, hsl⟩ := hone
  obtain ⟨C1, n1, c1, rfl⟩ := sl_form10 hsc
  obtain ⟨B1, m1, e1, rfl⟩ := sl_form10 hsl
  obtain ⟨H1, h1, ch, rfl⟩ := sl_form10 hsh
  obtain ⟨E1, g1e, ce, rfl⟩ := sl_form10 hse
  clear hsc hsl hsh hse hq hB
  simp only [GQ.row, Tr.row, List.cons_append, List.nil_append] at hC hA hD ⊢
  have HC := Lib.hid hC
  have HA := Lib.hid hA
  have HD := Lib.hid hD
  clear hC hA hD
  by_cases hE : E = 0
  · rw [if_pos hE, if_pos hE]
    have HA0 := Lib.hid (HA.out hE)
    have HD0 := Lib.hid (HD.out hE)
    subst hE
    go_enter Tryz.func44, Tryz.ntmps44
    go_upto_region 1 with fail
    refine named_wp ?_
    intro W1 hW1
    have hX : Blk W1 w.heap.size [.int .i64 k, .int .i64 mn, .int .i64 mx, .int .i64 kd, .bool bd, .int .u64 bn, .slice C1 n1 c1, .string (strOf nm), .slice B1 m1 e1, .int .u64 wi, .slice H1 h1 ch, .slice E1 g1e ce] := by rw [hW1]; exact Blk.new w [.int .i64 k, .int .i64 mn, .int .i64 mx, .int .i64 kd, .bool bd, .int .u64 bn, .slice C1 n1 c1, .string (strOf nm), .slice B1 m1 e1, .int .u64 wi, .slice H1 h1 ch, .slice E1 g1e ce] 35
    have hb1 : Below w.heap.size w W1 := by rw [hW1]; exact b1 _ _
    clear hW1
    have HX := Lib.hid hX
    have HB1 := Lib.hid hb1
    clear hX hb1
    have hx := HX.out
    have x0 := hx.cell 0 _ rfl
    have x1 := hx.cell 1 _ rfl
    have x2 := hx.cell 2 _ rfl
    have x3 := hx.cell 3 _ rfl
    have x4 := hx.cell 4 _ rfl
    have x5 := hx.cell 5 _ rfl
    have x6 := hx.cell 6 _ rfl
    have x7 := hx.cell 7 _ rfl
    have x8 := hx.cell 8 _ rfl
    have x9 := hx.cell 9 _ rfl
    have x10 := hx.cell 10 _ rfl
    have x11 := hx.cell 11 _ rfl
    have xlt := hx.lt
    clear hx
    go_wp2_with fail
    refine (HC.out W1 HB1.out).mono ?_
    rintro r u2 ⟨rfl, hu2⟩
    clear xlt x0 x1 x2 x3 x4 x5 x6 x7 x8 x9 x10 x11
    have hx := HX.out.later hu2
    have x0 := hx.cell 0 _ rfl
    have x1 := hx.cell 1 _ rfl
    have x2 := hx.cell 2 _ rfl
    have x3 := hx.cell 3 _ rfl
    have x4 := hx.cell 4 _ rfl
    have x5 := hx.cell 5 _ rfl
    have x6 := hx.cell 6 _ rfl
    have x7 := hx.cell 7 _ rfl
    have x8 := hx.cell 8 _ rfl
    have xlt := hx.lt
    clear hx
    go_wp2_with fail
    refine (HA0.out u2 (bstep HB1.out hu2)).mono ?_
    rintro r u3 ⟨A5, c5, rfl, hu3⟩
    clear xlt x0 x1 x2 x3 x4 x5 x6 x7 x8
    have hx := HX.out.later (bstep hu2 hu3)
    have x0 := hx.cell 0 _ rfl
    have x1 := hx.cell 1 _ rfl
    have x2 := hx.cell 2 _ rfl
    have x3 := hx.cell 3 _ rfl
    have x4 := hx.cell 4 _ rfl
    have x5 := hx.cell 5 _ rfl
    have x6 := hx.cell 6 _ rfl
    have x7 := hx.cell 7 _ rfl
    have x8 := hx.cell 8 _ rfl
    have xlt := hx.lt
    clear hx
    go_wp2_with fail
    refine (HD0.out u3 (bstep HB1.out (bstep hu2 hu3))).mono ?_
    rintro r u4 ⟨rfl, hu4⟩
    clear xlt x0 x1 x2 x3 x4 x5 x6 x7 x8
    go_wp2
    go_ret3
    exact ⟨rfl, bstep HB1.out (bstep (bstep hu2 hu3) hu4)⟩
  · rw [if_neg hE, if_neg hE]
    go_enter Tryz.func44, Tryz.ntmps44
    go_upto_region 1 with fail
    refine named_wp ?_
    intro W1 hW1
    have hX : Blk W1 w.heap.size [.int .i64 k, .int .i64 mn, .int .i64 mx, .int .i64 kd, .bool bd, .int .u64 bn, .slice C1 n1 c1, .string (strOf nm), .slice B1 m1 e1, .int .u64 wi, .slice H1 h1 ch, .slice E1 g1e ce] := by rw [hW1]; exact Blk.new w [.int .i64 k, .int .i64 mn, .int .i64 mx, .int .i64 kd, .bool bd, .int .u64 bn, .slice C1 n1 c1, .string (strOf nm), .slice B1 m1 e1, .int .u64 wi, .slice H1 h1 ch, .slice E1 g1e ce] 35
    have hb1 : Below w.heap.size w W1 := by rw [hW1]; exact b1 _ _
    clear hW1
    have HX := Lib.hid hX
    have HB1 := Lib.hid hb1
    clear hX hb1
    have hx := HX.out
    have x0 := hx.cell 0 _ rfl
    have x1 := hx.cell 1 _ rfl
    have x2 := hx.cell 2 _ rfl
    have x3 := hx.cell 3 _ rfl
    have x4 := hx.cell 4 _ rfl
    have x5 := hx.cell 5 _ rfl
    have x6 := hx.cell 6 _ rfl
    have x7 := hx.cell 7 _ rfl
    have x8 := hx.cell 8 _ rfl
    have x9 := hx.cell 9 _ rfl
    have x10 := hx.cell 10 _ rfl
    have x11 := hx.cell 11 _ rfl
    have xlt := hx.lt
    clear hx
    go_wp2_with fail
    refine (HC.out W1 HB1.out).mono ?_
    rintro r u2 ⟨rfl, hu2⟩
    clear xlt x0 x1 x2 x3 x4 x5 x6 x7 x8 x9 x10 x11
    go_wp2
    go_ret3
    exact ⟨rfl, bstep HB1.out hu2⟩
end Go.Proofs.YtdoioaeppepndaaGreatDoor
namespace Go.Proofs.YtdoioaeppepndaaGreatDoor
open Go.RowKit
open A8 W10
attribute [local go_sem] Oper.semAt_some

theorem namesN_sub {p : Nd} {s : List UInt8} (h : s ∈ namesN p) : s ∈ leafNames p := by
  unfold namesN at h
  unfold leafNames
  obtain ⟨n, hn, rfl⟩ := List.mem_map.1 h
  exact List.mem_map.2 ⟨n, (List.mem_filter.1 hn).1, rfl⟩
theorem strs_slc {w : World} {base n : Nat} {v : Value} {L : List (List UInt8)} (h : w.ownsRow base 9 1 v n (L.map fun s => .string (strOf s))) : Slc w v ((L.map strOf).map Value.string) := by
  have h1 : (L.map strOf).map Value.string = L.map fun s => .string (strOf s) := by rw [List.map_map]; rfl
  rw [h1]
  exact Slc.of_own h
set_option maxRecDepth 100000 in
set_option maxHeartbeats 16000000 in
theorem r10named_any (q : GQ) (s : List UInt8) (w : World) (hq : QW w q) (hB : RB q) :
    Calls Tryz.prog 42 #[.agg q.row.toArray, .string (strOf s)] w fun e w' => e = .returned (.tuple #[.int .i64 (namedI q.qu s), .int .i64 (namedE q.qu s)]) ∧ Below w.heap.size w w' := by
  have hC := fun w1 (hb : Below w.heap.size w w1) => r10names_any q w1 (hq.later hb) hB
  have hA := fun (h : wfE q.qu = 0) w1 (hb : Below w.heap.size w w1) => rats11 q w hq hB (wf_sound h).1 w1 hb
  have hln : (leafNames q.t.nd).length ≤ 100000 := by
    unfold leafNames
    rw [List.length_map]
    exact Nat.le_trans (leaves_len11 q.t) (Nat.le_trans hB.len (by omega))
  have hAL := atL_nm q.t.nd
  obtain ⟨NL, hNL⟩ : ∃ NL, NL = namesL q.qu := ⟨_, rfl⟩
  obtain ⟨E, hE⟩ : ∃ E, E = wfE q.qu := ⟨_, rfl⟩
  obtain ⟨LN, hLN⟩ : ∃ LN, LN = leafNames q.t.nd := ⟨_, rfl⟩
  obtain ⟨AL, hALe⟩ : ∃ AL, AL = atL11 q.t.nd := ⟨_, rfl⟩
  obtain ⟨rI, hrI⟩ : ∃ rI, rI = namedI q.qu s := ⟨_, rfl⟩
  obtain ⟨rE, hrE⟩ : ∃ rE, rE = namedE q.qu s := ⟨_, rfl⟩
  have hbad : E ≠ 0 → rE = E ∧ rI = 0 := fun h => by
    have h1 : rE = E := by rw [hrE, hE]; unfold namedE; rw [if_neg (by rw [← hE]; exact h)]
    refine ⟨h1, ?_⟩
    rw [hrI]
    unfold namedI
    rw [← hrE, h1, if_neg h]
  have hno : E = 0 → s ∉ NL → rE = 12 ∧ rI = 0 := fun h hs => by
    have h0 : wfE q.qu = 0 := by rw [← hE]; exact h
    have hn : NL = namesN q.qu.p := by rw [hNL]; unfold namesL; rw [if_pos h0]
    have h1 : rE = 12 := by
      rw [hrE]
      unfold namedE
      rw [if_pos h0, ← hn, if_neg (by simpa using hs)]
    refine ⟨h1, ?_⟩
    rw [hrI]
    unfold namedI
    rw [← hrE, h1, if_neg (by decide)]
  have hyes : E = 0 → s ∈ NL → rE = 0 ∧ rI = findN s LN 0 ∧ s ∈ LN := fun h hs => by
    have h0 : wfE q.qu = 0 := by rw [← hE]; exact h
    have hn : NL = namesN q.qu.p := by rw [hNL]; unfold namesL; rw [if_pos h0]
    have h1 : rE = 0 := by
      rw [hrE]
      unfold namedE
      rw [if_pos h0, ← hn, if_pos (by simpa using hs)]
    refine ⟨h1, ?_, ?_⟩
    · rw [hrI]
      unfold namedI
      rw [← hrE, h1, if_pos rfl, hLN]
      rfl
    · rw [hLN]
      exact namesN_sub (p := q.qu.p) (by rw [← hn]; exact hs)
  rw [← hNL, ← hE] at hC
  rw [← hE, ← hALe] at hA
  rw [← hLN] at hln
  rw [← hALe, ← hLN] at hAL
  rw [← hrI, ← hrE]
  clear hNL hE hLN hALe hrI hrE
  obtain ⟨T, wi, sh, hv, se, em⟩ := q
  have hsh := hq.hv
  have hse := hq.em
  have hone := hq.tr.one
  simp only at hsh hse hone hA
  obtain ⟨k, mn, mx, ⟨⟨kd, bd, bn, cs, nm⟩, sc⟩, sk, ks⟩ := T
  obtain ⟨-, ⟨-, hsc⟩, hsl⟩ := hone
  obtain ⟨C1, n1, c1, rfl⟩ := sl_form10 hsc
  obtain ⟨B1, m1, e1, rfl⟩ := sl_form10 hsl
  obtain ⟨H1, h1, ch, rfl⟩ := sl_form10 hsh
  obtain ⟨E1, g1e, ce, rfl⟩ := sl_form10 hse
  clear hsc hsl hsh hse hq hB
  simp only [GQ.row, Tr.row, List.cons_append, List.nil_append] at hC hA ⊢
  obtain ⟨sb, hsb⟩ : ∃ sb, sb = strOf s := ⟨_, rfl⟩
  rw [← hsb]
  have HSB := Lib.hid hsb
  have HC := Lib.hid hC
  have HA := Lib.hid hA
  have HAL := Lib.hid hAL
  have HYES := Lib.hid hyes
  have HNO := Lib.hid hno
  have HBAD := Lib.hid hbad
  clear hC hA hAL hyes hno hbad hsb
  go_enter Tryz.func42, Tryz.ntmps42
  go_upto_region 1 with fail
  refine named_wp ?_
  intro W1 hW1
  have hX : Blk W1 w.heap.size [.int .i64 k, .int .i64 mn, .int .i64 mx, .int .i64 kd, .bool bd, .int .u64 bn, .slice C1 n1 c1, .string (strOf nm), .slice B1 m1 e1, .int .u64 wi, .slice H1 h1 ch, .slice E1 g1e ce] := by rw [hW1]; exact Blk.new w [.int .i64 k, .int .i64 mn, .int .i64 mx, .int .i64 kd, .bool bd, .int .u64 bn, .slice C1 n1 c1, .string (strOf nm), .slice B1 m1 e1, .int .u64 wi, .slice H1 h1 ch, .slice E1 g1e ce] 35
  have hb1 : Below w.heap.size w W1 := by rw [hW1]; exact b1 _ _
  clear hW1
  have HX := Lib.hid hX
  have HB1 := Lib.hid hb1
  clear hX hb1
  have hx := HX.out
  have x0 := hx.cell 0 _ rfl
  have x1 := hx.cell 1 _ rfl
  have x2 := hx.cell 2 _ rfl
  have x3 := hx.cell 3 _ rfl
  have x4 := hx.cell 4 _ rfl
  have x5 := hx.cell 5 _ rfl
  have x6 := hx.cell 6 _ rfl
  have x7 := hx.cell 7 _ rfl
  have x8 := hx.cell 8 _ rfl
  have x9 := hx.cell 9 _ rfl
  have x10 := hx.cell 10 _ rfl
  have x11 := hx.cell 11 _ rfl
  have xlt := hx.lt
  clear hx
  go_wp2_with fail
  refine (HC.out W1 HB1.out).mono ?_
  rintro r u2 ⟨v2, rfl, ho, hu2⟩
  clear xlt x0 x1 x2 x3 x4 x5 x6 x7 x8 x9 x10 x11
  obtain ⟨A5, c5, rfl⟩ := own_form ho
  have hsl := strs_slc ho
  clear ho
  by_cases hE : E = 0
  · have HA0 := Lib.hid (HA.out hE)
    have hat := rat_any (.slice A5 NL.length c5) NL s u2 hsl
    have HYES1 := Lib.hid (HYES.out hE)
    have HNO1 := Lib.hid (HNO.out hE)
    rw [← HSB.out] at hat
    have hin := atF_in s NL 0
    obtain ⟨at1, hat1⟩ : ∃ at1, at1 = atF s NL 0 := ⟨_, rfl⟩
    rw [← hat1] at hat hin
    have HAT := Lib.hid hat
    have HIN := Lib.hid hin
    subst hE
    clear hat hin hat1 hsl HYES HNO HBAD HA HC
    go_wp2_with fail
    refine HAT.out.mono ?_
    rintro r w' ⟨rfl, hw'⟩
    subst hw'
    by_cases hs : s ∈ NL
    · have h1 := HIN.out
      rw [if_pos hs] at h1
      have g1 : ¬ at1 < 0 := by omega
      obtain ⟨h2, h3, h4⟩ := HYES1.out hs
      subst h2
      have HRI : Hid (rI = findN s (LN.drop 0) 0) := Lib.hid h3
      have HMEM : Hid (s ∈ LN.drop 0) := Lib.hid h4
      clear h1 h3 h4 hs HIN HAT HYES1 HNO1
      have hx := HX.out.later hu2
      have x0 := hx.cell 0 _ rfl
      have x1 := hx.cell 1 _ rfl
      have x2 := hx.cell 2 _ rfl
      have x3 := hx.cell 3 _ rfl
      have x4 := hx.cell 4 _ rfl
      have x5 := hx.cell 5 _ rfl
      have x6 := hx.cell 6 _ rfl
      have x7 := hx.cell 7 _ rfl
      have x8 := hx.cell 8 _ rfl
      have xlt := hx.lt
      clear hx
      go_wp2_with fail
      refine (HA0.out w' (bstep HB1.out hu2)).mono ?_
      rintro r w3 ⟨gs, A, c, hgs, rfl, hs3, hb3⟩
      clear xlt x0 x1 x2 x3 x4 x5 x6 x7 x8
      obtain ⟨A', c', hv1, -, hels⟩ := sl_els (by decide) gaC_len10 hs3
      injection hv1 with q1 q2 q3
      subst q1
      subst q3
      have hgl : gs.length = LN.length := by rw [← HAL.out, ← hgs, List.length_map, List.length_map]
      rw [hgl]
      have HE := Lib.hid hels
      have HB := Lib.hid (bstep HB1.out (bstep hu2 hb3))
      have HGS : Hid (gs.map (fun g => g.a.nm) = LN) := Lib.hid (by rw [← HAL.out, ← hgs, List.map_map]; rfl)
      have HGL := Lib.hid hgl
      clear hels hs3 hb3 hu2 hgs hgl q2 HA0 HAL HX HB1
      go_wp2
      go_loopg [10] LN.length (fun gh iv wr => ∃ (i : Nat), i ≤ LN.length ∧ gh = LN.length - i ∧ iv = .int .i64 (i : Int) ∧ Hid (rI = findN s (LN.drop i) i) ∧ Hid (s ∈ LN.drop i) ∧ Hid (Below w3.heap.size w3 wr))
      case atStart => exact ⟨0, Nat.zero_le _, rfl, rfl, HRI, HMEM, Lib.hid (Below.refl _ _)⟩
      case round =>
        obtain ⟨i, hi, hg, rfl, hS, hM, hb⟩ := hrel
        rename World => wr
        have hij : (0 : Int) ≤ (i : Int) := by omega
        by_cases hlt : i < LN.length
        · have g2 : (i : Int) < (LN.length : Int) := by omega
          have hwk : IntKind.i64.wrap ((i : Int) + 1) = (i : Int) + 1 := IntWalk.i64_in _ ⟨by omega, by omega⟩
          obtain ⟨a, rfl, halt, E⟩ := HE.out i (by rw [HGL.out]; exact hlt)
          obtain ⟨x, hx⟩ : ∃ x, x = LN[i] := ⟨_, rfl⟩
          have hga : (gs[i]'(by rw [HGL.out]; exact hlt)).a.nm = x := by rw [hx]; simp only [← HGS.out, List.getElem_map]
          replace E := E.later hb.out
          have y1 : wr.cell? ⟨(a.add (i * 5)).block, (a.add (i * 5)).off + 4, none⟩ = some (.string (strOf x)) := by rw [← hga]; exact E.at1 4 _ (by decide) rfl
          have y2 := E.lt
          have hS2 : rI = if x = s then (i : Int) else findN s (LN.drop (i + 1)) (i + 1) := by rw [hS.out, List.drop_eq_getElem_cons hlt, findN, hx]
          have hM2 : x ≠ s → s ∈ LN.drop (i + 1) := fun h => by
            have h1 := hM.out
            rw [List.drop_eq_getElem_cons hlt] at h1
            rcases List.mem_cons.1 h1 with h1 | h1
            · exact absurd (by rw [hx, h1]) h
            · exact h1
          obtain ⟨xb, hxb⟩ : ∃ xb, xb = strOf x := ⟨_, rfl⟩
          rw [← hxb] at y1
          clear E hx hga halt
          by_cases he : x = s
          · have hxs : xb = sb := by rw [hxb, HSB.out, he]
            rw [if_pos he] at hS2
            subst hxs
            subst hS2
            clear hxb he hS hM hM2
            go_wp2
            go_ret2
            exact ⟨rfl, bstep HB.out hb.out⟩
          · have hxs : xb ≠ sb := by rw [hxb, HSB.out]; exact fun h => he (strOf_inj10 h)
            have b1 : (xb.toList == sb.toList) = false := str_ne hxs
            rw [if_neg he] at hS2
            have HS2 := Lib.hid hS2
            have HM2 := Lib.hid (hM2 he)
            clear hS2 hS hM hM2 hxb he
            go_wp2
            go_roundg (LN.length - (i + 1))
            case rel => exact ⟨i + 1, by omega, rfl, by go_num, HS2, HM2, hb⟩
            case measure => omega
        · have h1 := hM.out
          rw [List.drop_of_length_le (by omega)] at h1
          cases h1
    · have h1 := HIN.out
      rw [if_neg hs] at h1
      obtain ⟨h2, h3⟩ := HNO1.out hs
      subst h1
      subst h2
      subst h3
      clear HIN HAT HYES1 HNO1
      go_wp2
      go_ret2
      exact ⟨rfl, bstep HB1.out hu2⟩
  · obtain ⟨h1, h2⟩ := HBAD.out hE
    subst h1
    subst h2
    clear hsl
    go_wp2
    go_ret2
    exact ⟨rfl, bstep HB1.out hu2⟩
end Go.Proofs.YtdoioaeppepndaaGreatDoor
namespace Go.Proofs.YtdoioaeppepndaaGreatDoor
open Go.RowKit Go.Shelf
open A8 W10
attribute [local go_sem] Oper.semAt_some

theorem below_drewC (n : Nat) (w w' : World) : Below n w w'.drew = Below n w w' := by
  apply propext
  exact ⟨fun h => ⟨h.os, h.tape, h.output, h.size, h.block⟩, fun h => ⟨h.os, h.tape, h.output, h.size, h.block⟩⟩
attribute [local go_sem] below_drewC
attribute [local simp] below_drewC
/-- What the walk asks of the functions that the law calls. -/
structure Ck (w : World) (s : ByteArray) (Q H PQ PH : Array Value) (R9 P9 : Int) (NL UL : List (List UInt8)) (NI NE RA RD : Int) : Prop where
  c32 : ∀ w1, Below w.heap.size w w1 → Calls Tryz.prog 32 #[.agg H] w1 fun e w' => e = .returned (.int .i64 R9) ∧ Below w1.heap.size w1 w'
  c33 : ∀ w1, Below w.heap.size w w1 → Calls Tryz.prog 33 #[.agg Q] w1 fun e w' => e = .returned (.int .i64 R9) ∧ Below w1.heap.size w1 w'
  c34 : ∀ w1, Below w.heap.size w w1 → Calls Tryz.prog 34 #[.agg PH] w1 fun e w' => e = .returned (.int .i64 P9) ∧ Below w1.heap.size w1 w'
  c35 : ∀ w1, Below w.heap.size w w1 → Calls Tryz.prog 35 #[.agg PQ] w1 fun e w' => e = .returned (.int .i64 P9) ∧ Below w1.heap.size w1 w'
  c36 : ∀ w1, Below w.heap.size w w1 → Calls Tryz.prog 36 #[.agg H] w1 (TxtP w1 NL R9)
  c37 : ∀ w1, Below w.heap.size w w1 → Calls Tryz.prog 37 #[.agg Q] w1 (TxtP w1 NL R9)
  c39 : ∀ w1, Below w.heap.size w w1 → Calls Tryz.prog 39 #[.agg H] w1 (TxtP w1 UL R9)
  c40 : ∀ w1, Below w.heap.size w w1 → Calls Tryz.prog 40 #[.agg Q] w1 (TxtP w1 UL R9)
  c41 : ∀ w1, Below w.heap.size w w1 → Calls Tryz.prog 41 #[.agg H, .string s] w1 fun e w' => e = .returned (.tuple #[.int .i64 NI, .int .i64 NE]) ∧ Below w1.heap.size w1 w'
  c42 : ∀ w1, Below w.heap.size w w1 → Calls Tryz.prog 42 #[.agg Q, .string s] w1 fun e w' => e = .returned (.tuple #[.int .i64 NI, .int .i64 NE]) ∧ Below w1.heap.size w1 w'
  c43 : ∀ w1, Below w.heap.size w w1 → Calls Tryz.prog 43 #[.agg H] w1 fun e w' => e = .returned (.tuple #[.int .i64 RA, .int .i64 RD, .int .i64 R9]) ∧ Below w1.heap.size w1 w'
  c44 : ∀ w1, Below w.heap.size w w1 → Calls Tryz.prog 44 #[.agg Q] w1 fun e w' => e = .returned (.tuple #[.int .i64 RA, .int .i64 RD, .int .i64 R9]) ∧ Below w1.heap.size w1 w'
  c15 : ∀ w1, Below w.heap.size w w1 → Calls Tryz.prog 15 #[.agg H, .agg Q] w1 fun e w' => e = .returned (.bool true) ∧ Below w1.heap.size w1 w'
  c31 : ∀ w1, Below w.heap.size w w1 → Calls Tryz.prog 31 #[] w1 fun e w' => e = .returned (.bool true) ∧ Below w1.heap.size w1 w'
theorem held24 {P : Program} {f : FuncId} {args : Array Value} {v : Value} {W wx : World} {a0 a1 a2 a3 a4 a5 a6 a7 a8 a9 a10 a11 a12 a13 a14 a15 a16 a17 a18 a19 a20 a21 a22 a23 : Addr} {c0 c1 c2 c3 c4 c5 c6 c7 c8 c9 c10 c11 c12 c13 c14 c15 c16 c17 c18 c19 c20 c21 c22 c23 : Value} (hc : ∀ w1, Below W.heap.size W w1 → Calls P f args w1 fun e w' => e = .returned v ∧ Below w1.heap.size w1 w')
    (h0 : wx.cell? a0 = some c0) (h1 : wx.cell? a1 = some c1) (h2 : wx.cell? a2 = some c2) (h3 : wx.cell? a3 = some c3) (h4 : wx.cell? a4 = some c4) (h5 : wx.cell? a5 = some c5) (h6 : wx.cell? a6 = some c6) (h7 : wx.cell? a7 = some c7) (h8 : wx.cell? a8 = some c8) (h9 : wx.cell? a9 = some c9) (h10 : wx.cell? a10 = some c10) (h11 : wx.cell? a11 = some c11) (h12 : wx.cell? a12 = some c12) (h13 : wx.cell? a13 = some c13) (h14 : wx.cell? a14 = some c14) (h15 : wx.cell? a15 = some c15) (h16 : wx.cell? a16 = some c16) (h17 : wx.cell? a17 = some c17) (h18 : wx.cell? a18 = some c18) (h19 : wx.cell? a19 = some c19) (h20 : wx.cell? a20 = some c20) (h21 : wx.cell? a21 = some c21) (h22 : wx.cell? a22 = some c22) (h23 : wx.cell? a23 = some c23) (h : Below W.heap.size W wx) :
    Calls P f args wx fun e w' => e = .returned v ∧ w'.cell? a0 = some c0 ∧ w'.cell? a1 = some c1 ∧ w'.cell? a2 = some c2 ∧ w'.cell? a3 = some c3 ∧ w'.cell? a4 = some c4 ∧ w'.cell? a5 = some c5 ∧ w'.cell? a6 = some c6 ∧ w'.cell? a7 = some c7 ∧ w'.cell? a8 = some c8 ∧ w'.cell? a9 = some c9 ∧ w'.cell? a10 = some c10 ∧ w'.cell? a11 = some c11 ∧ w'.cell? a12 = some c12 ∧ w'.cell? a13 = some c13 ∧ w'.cell? a14 = some c14 ∧ w'.cell? a15 = some c15 ∧ w'.cell? a16 = some c16 ∧ w'.cell? a17 = some c17 ∧ w'.cell? a18 = some c18 ∧ w'.cell? a19 = some c19 ∧ w'.cell? a20 = some c20 ∧ w'.cell? a21 = some c21 ∧ w'.cell? a22 = some c22 ∧ w'.cell? a23 = some c23 ∧ Below W.heap.size W w' :=
  (hc wx h).mono fun _ w' hh =>
    have hl : ∀ {p : Addr} {v : Value}, wx.cell? p = some v → w'.cell? p = some v := fun {_ _} h => (hh.2.cell (World.block_lt_of_cell? wx _ h)).trans h
    ⟨hh.1, hl h0, hl h1, hl h2, hl h3, hl h4, hl h5, hl h6, hl h7, hl h8, hl h9, hl h10, hl h11, hl h12, hl h13, hl h14, hl h15, hl h16, hl h17, hl h18, hl h19, hl h20, hl h21, hl h22, hl h23, bstep h hh.2⟩
theorem texts_same {w : World} {L : List (List UInt8)} {u v : Value} (hu : Slc w u ((L.map strOf).map Value.string)) (hv : Slc w v ((L.map strOf).map Value.string)) :
    Calls Tryz.prog 38 #[u, v] w fun e w' => e = .returned (.bool true) ∧ Below w.heap.size w w' :=
  (sameTexts_same u v (L.map strOf) w hu hv).mono fun e w' hh => by
    obtain ⟨he, n, hn⟩ := hh
    exact ⟨he, hn ▸ below_drewN (Below.refl _ _) n⟩
set_option maxRecDepth 100000 in
set_option maxHeartbeats 32000000 in
theorem ck_walk (k mn mx kd : Int) (bd : Bool) (bn : Int) (C1 : Option Addr) (n1 c1 : Nat) (st : ByteArray) (B1 : Option Addr) (m1 e1 : Nat) (wi : Int) (H1 : Option Addr) (h1 ch : Nat) (E1 : Option Addr) (g1e ce : Nat) (s : ByteArray) (R9 P9 : Int) (NL UL : List (List UInt8)) (NI NE RA RD : Int) (w : World) (hs : ¬ (20 : Int) < (s.size : Int))
    (hL : ∀ w1, Below w.heap.size w w1 → Calls Tryz.prog 19 #[.agg #[.int .i64 k, .int .i64 mn, .int .i64 mx, .int .i64 kd, .bool bd, .int .u64 bn, .slice C1 n1 c1, .string st, .slice B1 m1 e1, .int .u64 wi, .slice H1 h1 ch, .slice E1 g1e ce]] w1 fun e w' => e = .returned (.bool true) ∧ Below w1.heap.size w1 w')
    (hO : ∀ w1, Below w.heap.size w w1 → Calls Tryz.prog 20 #[.agg #[.int .i64 k, .int .i64 mn, .int .i64 mx, .int .i64 kd, .bool bd, .int .u64 bn, .slice C1 n1 c1, .string st, .slice B1 m1 e1, .int .u64 wi, .slice H1 h1 ch, .slice E1 g1e ce]] w1 fun e w' => ∃ (k7 mn7 mx7 kd7 : Int) (bd7 : Bool) (bn7 : Int) (B7 : Option Addr) (p7 q7 : Nat) (st7 : ByteArray) (A7 : Option Addr) (n7 c7 : Nat) (wi7 : Int) (C7 : Option Addr) (h7 ch7 : Nat) (D7 : Option Addr) (m7 cm7 : Nat), e = .returned (.agg #[.int .i64 k7, .int .i64 mn7, .int .i64 mx7, .int .i64 kd7, .bool bd7, .int .u64 bn7, .slice B7 p7 q7, .string st7, .slice A7 n7 c7, .int .u64 wi7, .slice C7 h7 ch7, .slice D7 m7 cm7]) ∧ Ck w' s #[.int .i64 k, .int .i64 mn, .int .i64 mx, .int .i64 kd, .bool bd, .int .u64 bn, .slice C1 n1 c1, .string st, .slice B1 m1 e1, .int .u64 wi, .slice H1 h1 ch, .slice E1 g1e ce] #[.int .i64 k7, .int .i64 mn7, .int .i64 mx7, .int .i64 kd7, .bool bd7, .int .u64 bn7, .slice B7 p7 q7, .string st7, .slice A7 n7 c7, .int .u64 wi7, .slice C7 h7 ch7, .slice D7 m7 cm7] #[.int .i64 k, .int .i64 mn, .int .i64 mx, .int .i64 kd, .bool bd, .int .u64 bn, .slice C1 n1 c1, .string st, .slice B1 m1 e1] #[.int .i64 k7, .int .i64 mn7, .int .i64 mx7, .int .i64 kd7, .bool bd7, .int .u64 bn7, .slice B7 p7 q7, .string st7, .slice A7 n7 c7] R9 P9 NL UL NI NE RA RD ∧ Below w1.heap.size w1 w') :
    Calls Tryz.prog 7 #[.agg #[.int .i64 k, .int .i64 mn, .int .i64 mx, .int .i64 kd, .bool bd, .int .u64 bn, .slice C1 n1 c1, .string st, .slice B1 m1 e1, .int .u64 wi, .slice H1 h1 ch, .slice E1 g1e ce], .string s] w fun e w' => e = .returned (.bool true) ∧ Below w.heap.size w w' := by
  have HL := Lib.hid hL
  have HO := Lib.hid hO
  have es1 : (R9 != R9) = false := by simp
  have es2 : (P9 != P9) = false := by simp
  have es3 : (NI == NI) = true := by simp
  have es4 : (NE == NE) = true := by simp
  have es5 : (RA == RA) = true := by simp
  have es6 : (RD == RD) = true := by simp
  have es7 : (R9 == R9) = true := by simp
  obtain ⟨W1, hW1⟩ : ∃ W1, W1 = w.alloc (.cells #[.int .i64 k, .int .i64 mn, .int .i64 mx, .int .i64 kd, .bool bd, .int .u64 bn, .slice C1 n1 c1, .string st, .slice B1 m1 e1, .int .u64 wi, .slice H1 h1 ch, .slice E1 g1e ce] 35) := ⟨_, rfl⟩
  have hX : Blk W1 w.heap.size [.int .i64 k, .int .i64 mn, .int .i64 mx, .int .i64 kd, .bool bd, .int .u64 bn, .slice C1 n1 c1, .string st, .slice B1 m1 e1, .int .u64 wi, .slice H1 h1 ch, .slice E1 g1e ce] := by rw [hW1]; exact Blk.new w [.int .i64 k, .int .i64 mn, .int .i64 mx, .int .i64 kd, .bool bd, .int .u64 bn, .slice C1 n1 c1, .string st, .slice B1 m1 e1, .int .u64 wi, .slice H1 h1 ch, .slice E1 g1e ce] 35
  have hb1 : Below w.heap.size w W1 := by rw [hW1]; exact b1 _ _
  have HX := Lib.hid hX
  have HB1 := Lib.hid hb1
  clear hX hb1 hL hO
  go_enter Tryz.func7, Tryz.ntmps7
  go_wp2_with fail
  rw [← hW1]
  clear hW1
  refine (HL.out W1 HB1.out).mono ?_
  rintro r u2 ⟨rfl, hu2⟩
  have hx := HX.out.later hu2
  have x0 := hx.cell 0 _ rfl
  have x1 := hx.cell 1 _ rfl
  have x2 := hx.cell 2 _ rfl
  have x3 := hx.cell 3 _ rfl
  have x4 := hx.cell 4 _ rfl
  have x5 := hx.cell 5 _ rfl
  have x6 := hx.cell 6 _ rfl
  have x7 := hx.cell 7 _ rfl
  have x8 := hx.cell 8 _ rfl
  have x9 := hx.cell 9 _ rfl
  have x10 := hx.cell 10 _ rfl
  have x11 := hx.cell 11 _ rfl
  have xlt := hx.lt
  clear hx
  go_wp2_with fail
  refine (HO.out u2 (bstep HB1.out hu2)).mono ?_
  rintro r u3 ⟨k7, mn7, mx7, kd7, bd7, bn7, B7, p7, q7, st7, A7, n7, c7, wi7, C7, h7, ch7, D7, m7, cm7, rfl, hck, hu3⟩
  clear xlt x0 x1 x2 x3 x4 x5 x6 x7 x8 x9 x10 x11
  have HCK := Lib.hid hck
  have HB3 := Lib.hid (bstep (bstep HB1.out hu2) hu3)
  have HX3 := Lib.hid (HX.out.later (bstep hu2 hu3))
  clear hck hu2 hu3 HL HO HX HB1
  go_upto_region 4 with fail
  refine named_wp ?_
  intro W4 hW4
  have hK4 : Blk W4 u3.heap.size [.int .i64 k7, .int .i64 mn7, .int .i64 mx7, .int .i64 kd7, .bool bd7, .int .u64 bn7, .slice B7 p7 q7, .string st7, .slice A7 n7 c7, .int .u64 wi7, .slice C7 h7 ch7, .slice D7 m7 cm7] := by rw [hW4]; exact Blk.new u3 [.int .i64 k7, .int .i64 mn7, .int .i64 mx7, .int .i64 kd7, .bool bd7, .int .u64 bn7, .slice B7 p7 q7, .string st7, .slice A7 n7 c7, .int .u64 wi7, .slice C7 h7 ch7, .slice D7 m7 cm7] 35
  have hb4 : Below u3.heap.size u3 W4 := by rw [hW4]; exact b1 _ _
  clear hW4
  have HX4 := Lib.hid (HX3.out.later hb4)
  have HK4 := Lib.hid hK4
  have HB4 := Lib.hid (bstep HB3.out hb4)
  have c32 := Lib.hid fun w1 (hb : Below W4.heap.size W4 w1) => HCK.out.c32 w1 (bstep hb4 hb)
  have c33 := Lib.hid fun w1 (hb : Below W4.heap.size W4 w1) => HCK.out.c33 w1 (bstep hb4 hb)
  have c34 := Lib.hid fun w1 (hb : Below W4.heap.size W4 w1) => HCK.out.c34 w1 (bstep hb4 hb)
  have c35 := Lib.hid fun w1 (hb : Below W4.heap.size W4 w1) => HCK.out.c35 w1 (bstep hb4 hb)
  have c36 := Lib.hid fun w1 (hb : Below W4.heap.size W4 w1) => HCK.out.c36 w1 (bstep hb4 hb)
  have c37 := Lib.hid fun w1 (hb : Below W4.heap.size W4 w1) => HCK.out.c37 w1 (bstep hb4 hb)
  have c39 := Lib.hid fun w1 (hb : Below W4.heap.size W4 w1) => HCK.out.c39 w1 (bstep hb4 hb)
  have c40 := Lib.hid fun w1 (hb : Below W4.heap.size W4 w1) => HCK.out.c40 w1 (bstep hb4 hb)
  have c41 := Lib.hid fun w1 (hb : Below W4.heap.size W4 w1) => HCK.out.c41 w1 (bstep hb4 hb)
  have c42 := Lib.hid fun w1 (hb : Below W4.heap.size W4 w1) => HCK.out.c42 w1 (bstep hb4 hb)
  have c43 := Lib.hid fun w1 (hb : Below W4.heap.size W4 w1) => HCK.out.c43 w1 (bstep hb4 hb)
  have c44 := Lib.hid fun w1 (hb : Below W4.heap.size W4 w1) => HCK.out.c44 w1 (bstep hb4 hb)
  have c15 := Lib.hid fun w1 (hb : Below W4.heap.size W4 w1) => HCK.out.c15 w1 (bstep hb4 hb)
  have c31 := Lib.hid fun w1 (hb : Below W4.heap.size W4 w1) => HCK.out.c31 w1 (bstep hb4 hb)
  clear HCK HB3 HX3 hK4 hb4
  have hx := HX4.out
  have x0 := hx.cell 0 _ rfl
  have x1 := hx.cell 1 _ rfl
  have x2 := hx.cell 2 _ rfl
  have x3 := hx.cell 3 _ rfl
  have x4 := hx.cell 4 _ rfl
  have x5 := hx.cell 5 _ rfl
  have x6 := hx.cell 6 _ rfl
  have x7 := hx.cell 7 _ rfl
  have x8 := hx.cell 8 _ rfl
  have x9 := hx.cell 9 _ rfl
  have x10 := hx.cell 10 _ rfl
  have x11 := hx.cell 11 _ rfl
  have xlt := hx.lt
  clear hx
  have hx := HK4.out
  have y0 := hx.cell 0 _ rfl
  have y1 := hx.cell 1 _ rfl
  have y2 := hx.cell 2 _ rfl
  have y3 := hx.cell 3 _ rfl
  have y4 := hx.cell 4 _ rfl
  have y5 := hx.cell 5 _ rfl
  have y6 := hx.cell 6 _ rfl
  have y7 := hx.cell 7 _ rfl
  have y8 := hx.cell 8 _ rfl
  have y9 := hx.cell 9 _ rfl
  have y10 := hx.cell 10 _ rfl
  have y11 := hx.cell 11 _ rfl
  have ylt := hx.lt
  clear hx
  have hbs : Below W4.heap.size W4 W4 := Below.refl _ _
  go_region_held3 (fun w' => w'.cell? ⟨w.heap.size, 0, none⟩ = some (.int .i64 k) ∧ w'.cell? ⟨w.heap.size, 1, none⟩ = some (.int .i64 mn) ∧ w'.cell? ⟨w.heap.size, 2, none⟩ = some (.int .i64 mx) ∧ w'.cell? ⟨w.heap.size, 3, none⟩ = some (.int .i64 kd) ∧ w'.cell? ⟨w.heap.size, 4, none⟩ = some (.bool bd) ∧ w'.cell? ⟨w.heap.size, 5, none⟩ = some (.int .u64 bn) ∧ w'.cell? ⟨w.heap.size, 6, none⟩ = some (.slice C1 n1 c1) ∧ w'.cell? ⟨w.heap.size, 7, none⟩ = some (.string st) ∧ w'.cell? ⟨w.heap.size, 8, none⟩ = some (.slice B1 m1 e1) ∧ w'.cell? ⟨w.heap.size, 9, none⟩ = some (.int .u64 wi) ∧ w'.cell? ⟨w.heap.size, 10, none⟩ = some (.slice H1 h1 ch) ∧ w'.cell? ⟨w.heap.size, 11, none⟩ = some (.slice E1 g1e ce) ∧ w'.cell? ⟨u3.heap.size, 0, none⟩ = some (.int .i64 k7) ∧ w'.cell? ⟨u3.heap.size, 1, none⟩ = some (.int .i64 mn7) ∧ w'.cell? ⟨u3.heap.size, 2, none⟩ = some (.int .i64 mx7) ∧ w'.cell? ⟨u3.heap.size, 3, none⟩ = some (.int .i64 kd7) ∧ w'.cell? ⟨u3.heap.size, 4, none⟩ = some (.bool bd7) ∧ w'.cell? ⟨u3.heap.size, 5, none⟩ = some (.int .u64 bn7) ∧ w'.cell? ⟨u3.heap.size, 6, none⟩ = some (.slice B7 p7 q7) ∧ w'.cell? ⟨u3.heap.size, 7, none⟩ = some (.string st7) ∧ w'.cell? ⟨u3.heap.size, 8, none⟩ = some (.slice A7 n7 c7) ∧ w'.cell? ⟨u3.heap.size, 9, none⟩ = some (.int .u64 wi7) ∧ w'.cell? ⟨u3.heap.size, 10, none⟩ = some (.slice C7 h7 ch7) ∧ w'.cell? ⟨u3.heap.size, 11, none⟩ = some (.slice D7 m7 cm7) ∧ Below W4.heap.size W4 w') (go_keep)
    (first | (go_at_call 32; with_reducible refine (held24 (W := W4) (a0 := ⟨w.heap.size, 0, none⟩) (c0 := .int .i64 k) (a1 := ⟨w.heap.size, 1, none⟩) (c1 := .int .i64 mn) (a2 := ⟨w.heap.size, 2, none⟩) (c2 := .int .i64 mx) (a3 := ⟨w.heap.size, 3, none⟩) (c3 := .int .i64 kd) (a4 := ⟨w.heap.size, 4, none⟩) (c4 := .bool bd) (a5 := ⟨w.heap.size, 5, none⟩) (c5 := .int .u64 bn) (a6 := ⟨w.heap.size, 6, none⟩) (c6 := .slice C1 n1 c1) (a7 := ⟨w.heap.size, 7, none⟩) (c7 := .string st) (a8 := ⟨w.heap.size, 8, none⟩) (c8 := .slice B1 m1 e1) (a9 := ⟨w.heap.size, 9, none⟩) (c9 := .int .u64 wi) (a10 := ⟨w.heap.size, 10, none⟩) (c10 := .slice H1 h1 ch) (a11 := ⟨w.heap.size, 11, none⟩) (c11 := .slice E1 g1e ce) (a12 := ⟨u3.heap.size, 0, none⟩) (c12 := .int .i64 k7) (a13 := ⟨u3.heap.size, 1, none⟩) (c13 := .int .i64 mn7) (a14 := ⟨u3.heap.size, 2, none⟩) (c14 := .int .i64 mx7) (a15 := ⟨u3.heap.size, 3, none⟩) (c15 := .int .i64 kd7) (a16 := ⟨u3.heap.size, 4, none⟩) (c16 := .bool bd7) (a17 := ⟨u3.heap.size, 5, none⟩) (c17 := .int .u64 bn7) (a18 := ⟨u3.heap.size, 6, none⟩) (c18 := .slice B7 p7 q7) (a19 := ⟨u3.heap.size, 7, none⟩) (c19 := .string st7) (a20 := ⟨u3.heap.size, 8, none⟩) (c20 := .slice A7 n7 c7) (a21 := ⟨u3.heap.size, 9, none⟩) (c21 := .int .u64 wi7) (a22 := ⟨u3.heap.size, 10, none⟩) (c22 := .slice C7 h7 ch7) (a23 := ⟨u3.heap.size, 11, none⟩) (c23 := .slice D7 m7 cm7) c32.out ?_ ?_ ?_ ?_ ?_ ?_ ?_ ?_ ?_ ?_ ?_ ?_ ?_ ?_ ?_ ?_ ?_ ?_ ?_ ?_ ?_ ?_ ?_ ?_ ?_ ).mono ?_; (first | assumption | simp [*]); (first | assumption | simp [*]); (first | assumption | simp [*]); (first | assumption | simp [*]); (first | assumption | simp [*]); (first | assumption | simp [*]); (first | assumption | simp [*]); (first | assumption | simp [*]); (first | assumption | simp [*]); (first | assumption | simp [*]); (first | assumption | simp [*]); (first | assumption | simp [*]); (first | assumption | simp [*]); (first | assumption | simp [*]); (first | assumption | simp [*]); (first | assumption | simp [*]); (first | assumption | simp [*]); (first | assumption | simp [*]); (first | assumption | simp [*]); (first | assumption | simp [*]); (first | assumption | simp [*]); (first | assumption | simp [*]); (first | assumption | simp [*]); (first | assumption | simp [*]); (first | assumption | simp [*]); rintro e w9 ⟨rfl, g0, g1, g2, g3, g4, g5, g6, g7, g8, g9, g10, g11, g12, g13, g14, g15, g16, g17, g18, g19, g20, g21, g22, g23, g24⟩) | (go_at_call 33; with_reducible refine (held24 (W := W4) (a0 := ⟨w.heap.size, 0, none⟩) (c0 := .int .i64 k) (a1 := ⟨w.heap.size, 1, none⟩) (c1 := .int .i64 mn) (a2 := ⟨w.heap.size, 2, none⟩) (c2 := .int .i64 mx) (a3 := ⟨w.heap.size, 3, none⟩) (c3 := .int .i64 kd) (a4 := ⟨w.heap.size, 4, none⟩) (c4 := .bool bd) (a5 := ⟨w.heap.size, 5, none⟩) (c5 := .int .u64 bn) (a6 := ⟨w.heap.size, 6, none⟩) (c6 := .slice C1 n1 c1) (a7 := ⟨w.heap.size, 7, none⟩) (c7 := .string st) (a8 := ⟨w.heap.size, 8, none⟩) (c8 := .slice B1 m1 e1) (a9 := ⟨w.heap.size, 9, none⟩) (c9 := .int .u64 wi) (a10 := ⟨w.heap.size, 10, none⟩) (c10 := .slice H1 h1 ch) (a11 := ⟨w.heap.size, 11, none⟩) (c11 := .slice E1 g1e ce) (a12 := ⟨u3.heap.size, 0, none⟩) (c12 := .int .i64 k7) (a13 := ⟨u3.heap.size, 1, none⟩) (c13 := .int .i64 mn7) (a14 := ⟨u3.heap.size, 2, none⟩) (c14 := .int .i64 mx7) (a15 := ⟨u3.heap.size, 3, none⟩) (c15 := .int .i64 kd7) (a16 := ⟨u3.heap.size, 4, none⟩) (c16 := .bool bd7) (a17 := ⟨u3.heap.size, 5, none⟩) (c17 := .int .u64 bn7) (a18 := ⟨u3.heap.size, 6, none⟩) (c18 := .slice B7 p7 q7) (a19 := ⟨u3.heap.size, 7, none⟩) (c19 := .string st7) (a20 := ⟨u3.heap.size, 8, none⟩) (c20 := .slice A7 n7 c7) (a21 := ⟨u3.heap.size, 9, none⟩) (c21 := .int .u64 wi7) (a22 := ⟨u3.heap.size, 10, none⟩) (c22 := .slice C7 h7 ch7) (a23 := ⟨u3.heap.size, 11, none⟩) (c23 := .slice D7 m7 cm7) c33.out ?_ ?_ ?_ ?_ ?_ ?_ ?_ ?_ ?_ ?_ ?_ ?_ ?_ ?_ ?_ ?_ ?_ ?_ ?_ ?_ ?_ ?_ ?_ ?_ ?_ ).mono ?_; (first | assumption | simp [*]); (first | assumption | simp [*]); (first | assumption | simp [*]); (first | assumption | simp [*]); (first | assumption | simp [*]); (first | assumption | simp [*]); (first | assumption | simp [*]); (first | assumption | simp [*]); (first | assumption | simp [*]); (first | assumption | simp [*]); (first | assumption | simp [*]); (first | assumption | simp [*]); (first | assumption | simp [*]); (first | assumption | simp [*]); (first | assumption | simp [*]); (first | assumption | simp [*]); (first | assumption | simp [*]); (first | assumption | simp [*]); (first | assumption | simp [*]); (first | assumption | simp [*]); (first | assumption | simp [*]); (first | assumption | simp [*]); (first | assumption | simp [*]); (first | assumption | simp [*]); (first | assumption | simp [*]); rintro e w9 ⟨rfl, g0, g1, g2, g3, g4, g5, g6, g7, g8, g9, g10, g11, g12, g13, g14, g15, g16, g17, g18, g19, g20, g21, g22, g23, g24⟩) | (go_at_call 34; with_reducible refine (held24 (W := W4) (a0 := ⟨w.heap.size, 0, none⟩) (c0 := .int .i64 k) (a1 := ⟨w.heap.size, 1, none⟩) (c1 := .int .i64 mn) (a2 := ⟨w.heap.size, 2, none⟩) (c2 := .int .i64 mx) (a3 := ⟨w.heap.size, 3, none⟩) (c3 := .int .i64 kd) (a4 := ⟨w.heap.size, 4, none⟩) (c4 := .bool bd) (a5 := ⟨w.heap.size, 5, none⟩) (c5 := .int .u64 bn) (a6 := ⟨w.heap.size, 6, none⟩) (c6 := .slice C1 n1 c1) (a7 := ⟨w.heap.size, 7, none⟩) (c7 := .string st) (a8 := ⟨w.heap.size, 8, none⟩) (c8 := .slice B1 m1 e1) (a9 := ⟨w.heap.size, 9, none⟩) (c9 := .int .u64 wi) (a10 := ⟨w.heap.size, 10, none⟩) (c10 := .slice H1 h1 ch) (a11 := ⟨w.heap.size, 11, none⟩) (c11 := .slice E1 g1e ce) (a12 := ⟨u3.heap.size, 0, none⟩) (c12 := .int .i64 k7) (a13 := ⟨u3.heap.size, 1, none⟩) (c13 := .int .i64 mn7) (a14 := ⟨u3.heap.size, 2, none⟩) (c14 := .int .i64 mx7) (a15 := ⟨u3.heap.size, 3, none⟩) (c15 := .int .i64 kd7) (a16 := ⟨u3.heap.size, 4, none⟩) (c16 := .bool bd7) (a17 := ⟨u3.heap.size, 5, none⟩) (c17 := .int .u64 bn7) (a18 := ⟨u3.heap.size, 6, none⟩) (c18 := .slice B7 p7 q7) (a19 := ⟨u3.heap.size, 7, none⟩) (c19 := .string st7) (a20 := ⟨u3.heap.size, 8, none⟩) (c20 := .slice A7 n7 c7) (a21 := ⟨u3.heap.size, 9, none⟩) (c21 := .int .u64 wi7) (a22 := ⟨u3.heap.size, 10, none⟩) (c22 := .slice C7 h7 ch7) (a23 := ⟨u3.heap.size, 11, none⟩) (c23 := .slice D7 m7 cm7) c34.out ?_ ?_ ?_ ?_ ?_ ?_ ?_ ?_ ?_ ?_ ?_ ?_ ?_ ?_ ?_ ?_ ?_ ?_ ?_ ?_ ?_ ?_ ?_ ?_ ?_ ).mono ?_; (first | assumption | simp [*]); (first | assumption | simp [*]); (first | assumption | simp [*]); (first | assumption | simp [*]); (first | assumption | simp [*]); (first | assumption | simp [*]); (first | assumption | simp [*]); (first | assumption | simp [*]); (first | assumption | simp [*]); (first | assumption | simp [*]); (first | assumption | simp [*]); (first | assumption | simp [*]); (first | assumption | simp [*]); (first | assumption | simp [*]); (first | assumption | simp [*]); (first | assumption | simp [*]); (first | assumption | simp [*]); (first | assumption | simp [*]); (first | assumption | simp [*]); (first | assumption | simp [*]); (first | assumption | simp [*]); (first | assumption | simp [*]); (first | assumption | simp [*]); (first | assumption | simp [*]); (first | assumption | simp [*]); rintro e w9 ⟨rfl, g0, g1, g2, g3, g4, g5, g6, g7, g8, g9, g10, g11, g12, g13, g14, g15, g16, g17, g18, g19, g20, g21, g22, g23, g24⟩) | (go_at_call 35; with_reducible refine (held24 (W := W4) (a0 := ⟨w.heap.size, 0, none⟩) (c0 := .int .i64 k) (a1 := ⟨w.heap.size, 1, none⟩) (c1 := .int .i64 mn) (a2 := ⟨w.heap.size, 2, none⟩) (c2 := .int .i64 mx) (a3 := ⟨w.heap.size, 3, none⟩) (c3 := .int .i64 kd) (a4 := ⟨w.heap.size, 4, none⟩) (c4 := .bool bd) (a5 := ⟨w.heap.size, 5, none⟩) (c5 := .int .u64 bn) (a6 := ⟨w.heap.size, 6, none⟩) (c6 := .slice C1 n1 c1) (a7 := ⟨w.heap.size, 7, none⟩) (c7 := .string st) (a8 := ⟨w.heap.size, 8, none⟩) (c8 := .slice B1 m1 e1) (a9 := ⟨w.heap.size, 9, none⟩) (c9 := .int .u64 wi) (a10 := ⟨w.heap.size, 10, none⟩) (c10 := .slice H1 h1 ch) (a11 := ⟨w.heap.size, 11, none⟩) (c11 := .slice E1 g1e ce) (a12 := ⟨u3.heap.size, 0, none⟩) (c12 := .int .i64 k7) (a13 := ⟨u3.heap.size, 1, none⟩) (c13 := .int .i64 mn7) (a14 := ⟨u3.heap.size, 2, none⟩) (c14 := .int .i64 mx7) (a15 := ⟨u3.heap.size, 3, none⟩) (c15 := .int .i64 kd7) (a16 := ⟨u3.heap.size, 4, none⟩) (c16 := .bool bd7) (a17 := ⟨u3.heap.size, 5, none⟩) (c17 := .int .u64 bn7) (a18 := ⟨u3.heap.size, 6, none⟩) (c18 := .slice B7 p7 q7) (a19 := ⟨u3.heap.size, 7, none⟩) (c19 := .string st7) (a20 := ⟨u3.heap.size, 8, none⟩) (c20 := .slice A7 n7 c7) (a21 := ⟨u3.heap.size, 9, none⟩) (c21 := .int .u64 wi7) (a22 := ⟨u3.heap.size, 10, none⟩) (c22 := .slice C7 h7 ch7) (a23 := ⟨u3.heap.size, 11, none⟩) (c23 := .slice D7 m7 cm7) c35.out ?_ ?_ ?_ ?_ ?_ ?_ ?_ ?_ ?_ ?_ ?_ ?_ ?_ ?_ ?_ ?_ ?_ ?_ ?_ ?_ ?_ ?_ ?_ ?_ ?_ ).mono ?_; (first | assumption | simp [*]); (first | assumption | simp [*]); (first | assumption | simp [*]); (first | assumption | simp [*]); (first | assumption | simp [*]); (first | assumption | simp [*]); (first | assumption | simp [*]); (first | assumption | simp [*]); (first | assumption | simp [*]); (first | assumption | simp [*]); (first | assumption | simp [*]); (first | assumption | simp [*]); (first | assumption | simp [*]); (first | assumption | simp [*]); (first | assumption | simp [*]); (first | assumption | simp [*]); (first | assumption | simp [*]); (first | assumption | simp [*]); (first | assumption | simp [*]); (first | assumption | simp [*]); (first | assumption | simp [*]); (first | assumption | simp [*]); (first | assumption | simp [*]); (first | assumption | simp [*]); (first | assumption | simp [*]); rintro e w9 ⟨rfl, g0, g1, g2, g3, g4, g5, g6, g7, g8, g9, g10, g11, g12, g13, g14, g15, g16, g17, g18, g19, g20, g21, g22, g23, g24⟩))
  go_wp2_with fail
  refine (c36.out _ (by first | assumption | (simp [*]))).mono ?_
  rintro r w5 ⟨v5, rfl, ho5, hb5⟩
  obtain ⟨A5, cc5, rfl⟩ := own_form ho5
  have HB5 : Hid (Below W4.heap.size W4 w5) := Lib.hid (bstep (by first | assumption | (simp [*])) hb5)
  have HS5 := Lib.hid (strs_slc ho5)
  clear ho5 hb5
  have hx := HX4.out.later HB5.out
  have z0 := hx.cell 0 _ rfl
  have z1 := hx.cell 1 _ rfl
  have z2 := hx.cell 2 _ rfl
  have z3 := hx.cell 3 _ rfl
  have z4 := hx.cell 4 _ rfl
  have z5 := hx.cell 5 _ rfl
  have z6 := hx.cell 6 _ rfl
  have z7 := hx.cell 7 _ rfl
  have z8 := hx.cell 8 _ rfl
  have z9 := hx.cell 9 _ rfl
  have z10 := hx.cell 10 _ rfl
  have z11 := hx.cell 11 _ rfl
  have zlt := hx.lt
  clear hx
  go_wp2_with fail
  refine (c37.out _ HB5.out).mono ?_
  rintro r w6 ⟨v6, rfl, ho6, hb6⟩
  obtain ⟨A6, cc6, rfl⟩ := own_form ho6
  have HB6 : Hid (Below W4.heap.size W4 w6) := Lib.hid (bstep HB5.out hb6)
  have HS6 := Lib.hid (strs_slc ho6)
  clear zlt z0 z1 z2 z3 z4 z5 z6 z7 z8 z9 z10 z11
  go_wp2_with fail
  refine (texts_same (HS5.out.below hb6) HS6.out).mono ?_
  rintro r w7 ⟨rfl, hb7⟩
  have HB7 : Hid (Below W4.heap.size W4 w7) := Lib.hid (bstep HB6.out hb7)
  clear ho6 hb6 hb7 HS5 HS6
  have hx := HK4.out.later HB7.out
  have z0 := hx.cell 0 _ rfl
  have z1 := hx.cell 1 _ rfl
  have z2 := hx.cell 2 _ rfl
  have z3 := hx.cell 3 _ rfl
  have z4 := hx.cell 4 _ rfl
  have z5 := hx.cell 5 _ rfl
  have z6 := hx.cell 6 _ rfl
  have z7 := hx.cell 7 _ rfl
  have z8 := hx.cell 8 _ rfl
  have z9 := hx.cell 9 _ rfl
  have z10 := hx.cell 10 _ rfl
  have z11 := hx.cell 11 _ rfl
  have zlt := hx.lt
  clear hx
  go_wp2_with fail
  refine (c39.out _ HB7.out).mono ?_
  rintro r w8 ⟨v8, rfl, ho8, hb8⟩
  obtain ⟨A8, cc8, rfl⟩ := own_form ho8
  have HB8 : Hid (Below W4.heap.size W4 w8) := Lib.hid (bstep HB7.out hb8)
  have HS8 := Lib.hid (strs_slc ho8)
  clear zlt z0 z1 z2 z3 z4 z5 z6 z7 z8 z9 z10 z11
  clear ho8 hb8
  have hx := HX4.out.later HB8.out
  have z0 := hx.cell 0 _ rfl
  have z1 := hx.cell 1 _ rfl
  have z2 := hx.cell 2 _ rfl
  have z3 := hx.cell 3 _ rfl
  have z4 := hx.cell 4 _ rfl
  have z5 := hx.cell 5 _ rfl
  have z6 := hx.cell 6 _ rfl
  have z7 := hx.cell 7 _ rfl
  have z8 := hx.cell 8 _ rfl
  have z9 := hx.cell 9 _ rfl
  have z10 := hx.cell 10 _ rfl
  have z11 := hx.cell 11 _ rfl
  have zlt := hx.lt
  clear hx
  go_wp2_with fail
  refine (c40.out _ HB8.out).mono ?_
  rintro r w9 ⟨v9, rfl, ho9, hb9⟩
  obtain ⟨A9, cc9, rfl⟩ := own_form ho9
  have HB9 : Hid (Below W4.heap.size W4 w9) := Lib.hid (bstep HB8.out hb9)
  have HS9 := Lib.hid (strs_slc ho9)
  clear zlt z0 z1 z2 z3 z4 z5 z6 z7 z8 z9 z10 z11
  go_wp2_with fail
  refine (texts_same (HS8.out.below hb9) HS9.out).mono ?_
  rintro r w10 ⟨rfl, hb10⟩
  have HB10 : Hid (Below W4.heap.size W4 w10) := Lib.hid (bstep HB9.out hb10)
  clear ho9 hb9 hb10 HS8 HS9
  have hx := HK4.out.later HB10.out
  have z0 := hx.cell 0 _ rfl
  have z1 := hx.cell 1 _ rfl
  have z2 := hx.cell 2 _ rfl
  have z3 := hx.cell 3 _ rfl
  have z4 := hx.cell 4 _ rfl
  have z5 := hx.cell 5 _ rfl
  have z6 := hx.cell 6 _ rfl
  have z7 := hx.cell 7 _ rfl
  have z8 := hx.cell 8 _ rfl
  have z9 := hx.cell 9 _ rfl
  have z10 := hx.cell 10 _ rfl
  have z11 := hx.cell 11 _ rfl
  have zlt := hx.lt
  clear hx
  go_wp2_with fail
  refine (c41.out _ HB10.out).mono ?_
  rintro r w11 ⟨rfl, hb11⟩
  have HB11 : Hid (Below W4.heap.size W4 w11) := Lib.hid (bstep HB10.out hb11)
  clear hb11
  clear zlt z0 z1 z2 z3 z4 z5 z6 z7 z8 z9 z10 z11
  have hx := HX4.out.later HB11.out
  have z0 := hx.cell 0 _ rfl
  have z1 := hx.cell 1 _ rfl
  have z2 := hx.cell 2 _ rfl
  have z3 := hx.cell 3 _ rfl
  have z4 := hx.cell 4 _ rfl
  have z5 := hx.cell 5 _ rfl
  have z6 := hx.cell 6 _ rfl
  have z7 := hx.cell 7 _ rfl
  have z8 := hx.cell 8 _ rfl
  have z9 := hx.cell 9 _ rfl
  have z10 := hx.cell 10 _ rfl
  have z11 := hx.cell 11 _ rfl
  have zlt := hx.lt
  clear hx
  go_wp2_with fail
  refine (c42.out _ HB11.out).mono ?_
  rintro r w12 ⟨rfl, hb12⟩
  have HB12 : Hid (Below W4.heap.size W4 w12) := Lib.hid (bstep HB11.out hb12)
  clear hb12
  clear zlt z0 z1 z2 z3 z4 z5 z6 z7 z8 z9 z10 z11
  have hx := HK4.out.later HB12.out
  have z0 := hx.cell 0 _ rfl
  have z1 := hx.cell 1 _ rfl
  have z2 := hx.cell 2 _ rfl
  have z3 := hx.cell 3 _ rfl
  have z4 := hx.cell 4 _ rfl
  have z5 := hx.cell 5 _ rfl
  have z6 := hx.cell 6 _ rfl
  have z7 := hx.cell 7 _ rfl
  have z8 := hx.cell 8 _ rfl
  have z9 := hx.cell 9 _ rfl
  have z10 := hx.cell 10 _ rfl
  have z11 := hx.cell 11 _ rfl
  have zlt := hx.lt
  clear hx
  go_wp2_with fail
  refine (c43.out _ HB12.out).mono ?_
  rintro r w13 ⟨rfl, hb13⟩
  have HB13 : Hid (Below W4.heap.size W4 w13) := Lib.hid (bstep HB12.out hb13)
  clear hb13
  clear zlt z0 z1 z2 z3 z4 z5 z6 z7 z8 z9 z10 z11
  have hx := HX4.out.later HB13.out
  have z0 := hx.cell 0 _ rfl
  have z1 := hx.cell 1 _ rfl
  have z2 := hx.cell 2 _ rfl
  have z3 := hx.cell 3 _ rfl
  have z4 := hx.cell 4 _ rfl
  have z5 := hx.cell 5 _ rfl
  have z6 := hx.cell 6 _ rfl
  have z7 := hx.cell 7 _ rfl
  have z8 := hx.cell 8 _ rfl
  have z9 := hx.cell 9 _ rfl
  have z10 := hx.cell 10 _ rfl
  have z11 := hx.cell 11 _ rfl
  have zlt := hx.lt
  clear hx
  go_wp2_with fail
  refine (c44.out _ HB13.out).mono ?_
  rintro r w14 ⟨rfl, hb14⟩
  have HB14 : Hid (Below W4.heap.size W4 w14) := Lib.hid (bstep HB13.out hb14)
  clear hb14
  clear zlt z0 z1 z2 z3 z4 z5 z6 z7 z8 z9 z10 z11
  have hx := HX4.out.later HB14.out
  have z0 := hx.cell 0 _ rfl
  have z1 := hx.cell 1 _ rfl
  have z2 := hx.cell 2 _ rfl
  have z3 := hx.cell 3 _ rfl
  have z4 := hx.cell 4 _ rfl
  have z5 := hx.cell 5 _ rfl
  have z6 := hx.cell 6 _ rfl
  have z7 := hx.cell 7 _ rfl
  have z8 := hx.cell 8 _ rfl
  have z9 := hx.cell 9 _ rfl
  have z10 := hx.cell 10 _ rfl
  have z11 := hx.cell 11 _ rfl
  have zlt := hx.lt
  clear hx
  have hx := HK4.out.later HB14.out
  have y0 := hx.cell 0 _ rfl
  have y1 := hx.cell 1 _ rfl
  have y2 := hx.cell 2 _ rfl
  have y3 := hx.cell 3 _ rfl
  have y4 := hx.cell 4 _ rfl
  have y5 := hx.cell 5 _ rfl
  have y6 := hx.cell 6 _ rfl
  have y7 := hx.cell 7 _ rfl
  have y8 := hx.cell 8 _ rfl
  have y9 := hx.cell 9 _ rfl
  have y10 := hx.cell 10 _ rfl
  have y11 := hx.cell 11 _ rfl
  have ylt := hx.lt
  clear hx
  go_wp2_with fail
  refine (c15.out _ HB14.out).mono ?_
  rintro r w15 ⟨rfl, hb15⟩
  have HB15 : Hid (Below W4.heap.size W4 w15) := Lib.hid (bstep HB14.out hb15)
  clear zlt z0 z1 z2 z3 z4 z5 z6 z7 z8 z9 z10 z11
  clear ylt y0 y1 y2 y3 y4 y5 y6 y7 y8 y9 y10 y11
  clear hb15
  go_wp2_with fail
  refine (c31.out _ HB15.out).mono ?_
  rintro r w16 ⟨rfl, hb16⟩
  go_wp2
  go_ret
  exact ⟨rfl, bstep HB4.out (bstep HB15.out hb16)⟩
end Go.Proofs.YtdoioaeppepndaaGreatDoor
namespace Go.Proofs.YtdoioaeppepndaaGreatDoor
open Go.RowKit Go.Shelf
open A8 W10
attribute [local go_sem] Oper.semAt_some

set_option maxRecDepth 100000 in
set_option maxHeartbeats 16000000 in
theorem ck_out (k mn mx kd : Int) (bd : Bool) (bn : Int) (C1 : Option Addr) (n1 c1 : Nat) (st : ByteArray) (B1 : Option Addr) (m1 e1 : Nat) (wi : Int) (H1 : Option Addr) (h1 ch : Nat) (E1 : Option Addr) (g1e ce : Nat) (s : ByteArray) (b : Bool) (w : World) (hs : b = false ∨ (20 : Int) < (s.size : Int))
    (hL : ∀ w1, Below w.heap.size w w1 → Calls Tryz.prog 19 #[.agg #[.int .i64 k, .int .i64 mn, .int .i64 mx, .int .i64 kd, .bool bd, .int .u64 bn, .slice C1 n1 c1, .string st, .slice B1 m1 e1, .int .u64 wi, .slice H1 h1 ch, .slice E1 g1e ce]] w1 fun e w' => e = .returned (.bool b) ∧ Below w1.heap.size w1 w')
    (hA : ∀ w1, Below w.heap.size w w1 → Calls Tryz.prog 31 #[] w1 fun e w' => e = .returned (.bool true) ∧ Below w1.heap.size w1 w') :
    Calls Tryz.prog 7 #[.agg #[.int .i64 k, .int .i64 mn, .int .i64 mx, .int .i64 kd, .bool bd, .int .u64 bn, .slice C1 n1 c1, .string st, .slice B1 m1 e1, .int .u64 wi, .slice H1 h1 ch, .slice E1 g1e ce], .string s] w fun e w' => e = .returned (.bool true) ∧ Below w.heap.size w w' := by
  have HL := Lib.hid hL
  have HA := Lib.hid hA
  obtain ⟨W1, hW1⟩ : ∃ W1, W1 = w.alloc (.cells #[.int .i64 k, .int .i64 mn, .int .i64 mx, .int .i64 kd, .bool bd, .int .u64 bn, .slice C1 n1 c1, .string st, .slice B1 m1 e1, .int .u64 wi, .slice H1 h1 ch, .slice E1 g1e ce] 35) := ⟨_, rfl⟩
  have hb1 : Below w.heap.size w W1 := by rw [hW1]; exact b1 _ _
  have HB1 := Lib.hid hb1
  clear hb1 hL hA
  cases b with
  | false =>
    clear hs
    go_enter Tryz.func7, Tryz.ntmps7
    go_wp2_with fail
    rw [← hW1]
    clear hW1
    refine (HL.out W1 HB1.out).mono ?_
    rintro r u2 ⟨rfl, hu2⟩
    go_wp2_with fail
    refine (HA.out u2 (bstep HB1.out hu2)).mono ?_
    rintro r u3 ⟨rfl, hu3⟩
    go_wp2
    go_ret
    exact ⟨rfl, bstep HB1.out (bstep hu2 hu3)⟩
  | true =>
    have g20 : (20 : Int) < (s.size : Int) := by
      rcases hs with h | h
      · cases h
      · exact h
    clear hs
    go_enter Tryz.func7, Tryz.ntmps7
    go_wp2_with fail
    rw [← hW1]
    clear hW1
    refine (HL.out W1 HB1.out).mono ?_
    rintro r u2 ⟨rfl, hu2⟩
    go_wp2_with fail
    refine (HA.out u2 (bstep HB1.out hu2)).mono ?_
    rintro r u3 ⟨rfl, hu3⟩
    go_wp2
    go_ret
    exact ⟨rfl, bstep HB1.out (bstep hu2 hu3)⟩
theorem light_subs {T : Tr} {n : Nat} (h : (subsN T.nd).length ≤ n) : (subsT T).length ≤ n := by
  rw [← List.length_map (f := Tr.nd), subsT_nd]
  exact h
theorem mem_nd {T t : Tr} (h : t ∈ subsT T) : t.nd ∈ subsN T.nd := by
  rw [← subsT_nd]
  exact List.mem_map.2 ⟨t, h, rfl⟩
theorem light_use {q : Qu} (h : LightIs q) : (∀ s ∈ useL q, s.length ≤ maxLen) ∧ (useL q).length ≤ 1000000 := by
  refine ⟨fun s hs => ?_, ?_⟩
  · unfold useL at hs
    have h20 : s.length ≤ 20 := by
      rcases List.mem_append.1 hs with hs | hs
      · obtain ⟨x, hx, rfl⟩ := List.mem_map.1 hs
        exact h.hn x hx
      · obtain ⟨x, hx, rfl⟩ := List.mem_map.1 hs
        exact h.en x hx
    unfold maxLen
    omega
  · unfold useL
    have h1 := h.hl
    have h2 := h.el
    rw [List.length_append, List.length_map, List.length_map]
    omega
theorem light_RB {q : GQ} (h : LightIs q.qu) : RB q := by
  refine ⟨light_subs (Nat.le_trans h.len (by omega)), fun t ht => ?_, Nat.le_trans h.hl (by omega), Nat.le_trans h.el (by omega)⟩
  have := (h.small _ (mem_nd ht)).2.1
  omega
theorem light_Bnd {q : GQ} (h : LightIs q.qu) : Bnd q.t.nd := fun t ht => by
  have h1 := h.small t ht
  exact ⟨by have := h1.2.1; omega, by have := h1.1; omega⟩
theorem wfchecks_any (q : GQ) (s : List UInt8) (w : World) (hG : SG w) (hq : QW w q) :
    Calls Tryz.prog 7 #[.agg q.row.toArray, .string (strOf s)] w fun e w' => e = .returned (.bool true) ∧ Below w.heap.size w w' := by
  have hL := fun w1 (hb : Below w.heap.size w w1) => lightq_any q w1 (hq.later hb)
  have hA := fun w1 (hb : Below w.heap.size w w1) => wawake_any w1 (hG.later hb)
  by_cases hin : lightQ q.qu = true ∧ ¬ (20 : Int) < ((strOf s).size : Int)
  · obtain ⟨hl, hs⟩ := hin
    have hi := light_is hl
    have hB := light_RB hi
    have hO : ∀ w1, Below w.heap.size w w1 → Calls Tryz.prog 20 #[.agg q.row.toArray] w1 (OutQ w1 q.qu) := fun w1 hb => ownQuery_any q w1 (hq.later hb) (light_Bnd hi) (Nat.le_trans hi.hl (by omega)) (Nat.le_trans hi.el (by omega))
    rw [hl] at hL
    have hsl : s.length ≤ maxLen := by
      have h1 : (strOf s).size = s.length := strOf_size20 s
      rw [h1] at hs
      unfold maxLen
      omega
    have hck : ∀ (g : GQ) (w1 w' : World), Below w.heap.size w w1 → Below w1.heap.size w1 w' → g.qu = q.qu → QW w' g →
        Ck w' (strOf s) q.row.toArray g.row.toArray q.t.row.toArray g.t.row.toArray (wfE q.qu) (wfE (plainQ q.t.nd)) (namesL q.qu) (usesL q.qu) (namedI q.qu s) (namedE q.qu s) (roomA q.qu) (roomD q.qu) := by
      intro g w1 w' hb1 hb2 hgq hgw
      have hw := bstep hb1 hb2
      have hq' := hq.later hw
      have hG' := hG.later hw
      have hgt : g.t.nd = q.t.nd := congrArg Qu.p hgq
      have hgl : (subsT g.t).length ≤ 999999 := light_subs (by rw [hgt]; exact Nat.le_trans hi.len (by omega))
      obtain ⟨hu1, hu2⟩ := light_use hi
      refine ⟨fun w1 hb => ?_, fun w1 hb => ?_, fun w1 hb => ?_, fun w1 hb => ?_, fun w1 hb => ?_, fun w1 hb => ?_, fun w1 hb => ?_, fun w1 hb => ?_, fun w1 hb => ?_, fun w1 hb => ?_, fun w1 hb => ?_, fun w1 hb => ?_, fun w1 hb => ?_, fun w1 hb => ?_⟩
      · have := wcheck_any g w1 (hgw.later hb) hgl (hG'.later hb) (by rw [hgq]; exact hu1)
        rwa [hgq] at this
      · exact r10check_any q w1 (hq'.later hb) hB
      · have := wpattern_any g.t w1 (hgw.tr.later hb) hgl (hG'.later hb)
        rwa [hgt] at this
      · exact r10pattern_any q.t w1 (hq'.tr.later hb) hB.plain
      · have := wNames_any g w1 (hgw.later hb) hgl (hG'.later hb) (by rw [hgq]; exact hu1)
        rwa [hgq] at this
      · exact r10names_any q w1 (hq'.later hb) hB
      · have := wUses_any g w1 (hgw.later hb) hgl (hG'.later hb) (by rw [hgq]; exact hu1) (by rw [hgq]; exact hu2)
        rwa [hgq] at this
      · exact r10uses_any q w1 (hq'.later hb) hB
      · have := wNamed_any g s w1 (hgw.later hb) hgl (hG'.later hb) (by rw [hgq]; exact hu1) hsl
        rwa [hgq] at this
      · exact r10named_any q s w1 (hq'.later hb) hB
      · have := wRoom_any g w1 (hgw.later hb) hgl (hG'.later hb) (by rw [hgq]; exact hu1)
        rwa [hgq] at this
      · exact r10room_any q w1 (hq'.later hb) hB
      · have := ksameq_any g q w1 (hgw.later hb) (hq'.later hb)
        rwa [(sameQ_iff _ _).2 hgq] at this
      · exact wawake_any w1 (hG'.later hb)
    have hck2 : ∃ (R9 P9 : Int) (NL UL : List (List UInt8)) (NI NE RA RD : Int), ∀ (g : GQ) (w1 w' : World), Below w.heap.size w w1 → Below w1.heap.size w1 w' → g.qu = q.qu → QW w' g →
        Ck w' (strOf s) q.row.toArray g.row.toArray q.t.row.toArray g.t.row.toArray R9 P9 NL UL NI NE RA RD := ⟨_, _, _, _, _, _, _, _, hck⟩
    obtain ⟨R9, P9, NL, UL, NI, NE, RA, RD, hck3⟩ := hck2
    clear hck
    obtain ⟨T, wi, sh, hv, se, em⟩ := q
    have hsh := hq.hv
    have hse := hq.em
    have hone := hq.tr.one
    simp only at hsh hse hone
    obtain ⟨k, mn, mx, ⟨⟨kd, bd, bn, cs, nm⟩, sc⟩, sk, ks⟩ := T
    obtain ⟨-, ⟨-, hsc⟩, hsl2⟩ := hone
    obtain ⟨C1, n1, c1, rfl⟩ := sl_form10 hsc
    obtain ⟨B1, m1, e1, rfl⟩ := sl_form10 hsl2
    obtain ⟨H1, h1, ch, rfl⟩ := sl_form10 hsh
    obtain ⟨E1, g1e, ce, rfl⟩ := sl_form10 hse
    refine ck_walk k mn mx kd bd bn C1 n1 c1 (strOf nm) B1 m1 e1 wi H1 h1 ch E1 g1e ce (strOf s) R9 P9 NL UL NI NE RA RD w hs hL (fun w1 hb => (hO w1 hb).mono ?_)
    rintro e w' ⟨k7, mn7, mx7, kd7, bd7, bn7, cs7, nm7, B7, p7, q7, A7, n7, c7, ks7, wi7, C7, h7, ch7, hv7, D7, m7, cm7, em7, rfl, hn7, hq7, hb7⟩
    exact ⟨k7, mn7, mx7, kd7, bd7, bn7, B7, p7, q7, strOf nm7, A7, n7, c7, wi7, C7, h7, ch7, D7, m7, cm7, rfl, hck3 _ w1 w' hb hb7 hn7 hq7, hb7⟩
  · have hor : lightQ q.qu = false ∨ (20 : Int) < ((strOf s).size : Int) := by
      cases hl : lightQ q.qu with
      | false => exact .inl rfl
      | true =>
        right
        by_cases h : (20 : Int) < ((strOf s).size : Int)
        · exact h
        · exact absurd ⟨hl, h⟩ hin
    obtain ⟨b, hb⟩ : ∃ b, b = lightQ q.qu := ⟨_, rfl⟩
    rw [← hb] at hor hL
    clear hin hb
    obtain ⟨T, wi, sh, hv, se, em⟩ := q
    have hsh := hq.hv
    have hse := hq.em
    have hone := hq.tr.one
    simp only at hsh hse hone
    obtain ⟨k, mn, mx, ⟨⟨kd, bd, bn, cs, nm⟩, sc⟩, sk, ks⟩ := T
    obtain ⟨-, ⟨-, hsc⟩, hsl2⟩ := hone
    obtain ⟨C1, n1, c1, rfl⟩ := sl_form10 hsc
    obtain ⟨B1, m1, e1, rfl⟩ := sl_form10 hsl2
    obtain ⟨H1, h1, ch, rfl⟩ := sl_form10 hsh
    obtain ⟨E1, g1e, ce, rfl⟩ := sl_form10 hse
    exact ck_out k mn mx kd bd bn C1 n1 c1 (strOf nm) B1 m1 e1 wi H1 h1 ch E1 g1e ce (strOf s) b w hor hL hA
theorem wfchecks_s (q : GQ) (s : ByteArray) (w : World) (hG : SG w) (hq : QW w q) :
    Calls Tryz.prog 7 #[.agg q.row.toArray, .string s] w fun e w' => e = .returned (.bool true) ∧ Below w.heap.size w w' := by
  have h := wfchecks_any q s.data.toList w hG hq
  have hs : strOf s.data.toList = s := (str_is rfl).symm
  rw [hs] at h
  exact h
end Go.Proofs.YtdoioaeppepndaaGreatDoor
