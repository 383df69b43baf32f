/- Walks: the program's Depth and Nodes. Made by program (wip/tools/gen_astDe.py). -/
import Derived.Test.YtdoioaeppepndaaGreatDoorAstThr
import Derived.Test.YtdoioaeppepndaaGreatDoorAstW
namespace Go.Proofs.YtdoioaeppepndaaGreatDoor
open Go.RowKit Go.Shelf
open A8 Tk7
attribute [local go_sem] Oper.semAt_some

theorem nodes_pre (T : Tr) : ∀ d, (preT d T).length = nodesN T.nd := by
  refine Tr.ind (P := fun T => ∀ d, (preT d T).length = nodesN T.nd) (fun k mn mx g sk ks ih d => ?_) T
  have h : ∀ l : List Tr, (∀ t ∈ l, ∀ d, (preT d t).length = nodesN t.nd) → ∀ d, (preTL d l).length = nodesL (ndL l) := fun l => by
    induction l with
    | nil => intro _ _; rfl
    | cons t ts iht =>
      intro hl d
      rw [preTL, List.length_append, ndL, nodesL, hl t (by simp) d, iht (fun u hu => hl u (by simp [hu])) d]
  rw [preT, List.length_cons, Tr.nd, nodesN, h ks ih (d + 1)]
  omega
/-- The greatest of some depths. -/
def topD (l : List (Nat × Tr)) : Nat := l.foldl (fun m x => max m x.1) 0
theorem topD_snoc (l : List (Nat × Tr)) (x : Nat × Tr) : topD (l ++ [x]) = max (topD l) x.1 := by simp [topD]
theorem fold_max (l : List (Nat × Tr)) : ∀ m : Nat, l.foldl (fun m x => max m x.1) m = max m (topD l) := by
  induction l with
  | nil => intro m; simp [topD]
  | cons x xs ih =>
    intro m
    unfold topD
    rw [List.foldl_cons, List.foldl_cons, ih, ih (max 0 x.1)]
    omega
theorem topD_app (a b : List (Nat × Tr)) : topD (a ++ b) = max (topD a) (topD b) := by
  show (a ++ b).foldl (fun m x => max m x.1) 0 = _
  rw [List.foldl_append, fold_max]
  rfl
theorem depth_pre (T : Tr) : ∀ d, topD (preT d T) = d + depthN T.nd - 1 ∧ 1 ≤ depthN T.nd := by
  refine Tr.ind (P := fun T => ∀ d, topD (preT d T) = d + depthN T.nd - 1 ∧ 1 ≤ depthN T.nd) (fun k mn mx g sk ks ih d => ?_) T
  have h : ∀ l : List Tr, (∀ t ∈ l, ∀ d, topD (preT d t) = d + depthN t.nd - 1 ∧ 1 ≤ depthN t.nd) → ∀ d, topD (preTL d l) = if l = [] then 0 else d + depthL (ndL l) - 1 := fun l => by
    induction l with
    | nil => intro _ _; rfl
    | cons t ts iht =>
      intro hl d
      have h1 := hl t (by simp) d
      have h2 := iht (fun u hu => hl u (by simp [hu])) d
      rw [preTL, topD_app, ndL, depthL, h1.1, h2, if_neg (show ¬(t :: ts = []) from fun e => by cases e)]
      have h3 := h1.2
      by_cases hts : ts = []
      · subst hts
        have h4 : depthL (ndL []) = 0 := rfl
        rw [if_pos rfl, h4]
        omega
      · rw [if_neg hts]
        omega
  have hd0 : ks = [] → depthL (ndL ks) = 0 := fun e => by rw [e]; rfl
  rw [preT, Tr.nd, depthN]
  have hc : topD ((d, Tr.mk k mn mx g sk ks) :: preTL (d + 1) ks) = max d (topD (preTL (d + 1) ks)) := by
    show topD ([(d, Tr.mk k mn mx g sk ks)] ++ preTL (d + 1) ks) = _
    rw [topD_app]
    show max (max 0 d) _ = _
    rw [Nat.zero_max]
  rw [hc, h ks ih (d + 1)]
  by_cases hk : ks = []
  · rw [if_pos hk, hd0 hk]; omega
  · rw [if_neg hk]; omega
theorem KeepN.set {m b : Nat} {W : World} {cs : Array Value} {t : TypeId} {fr : Nat × Nat} (hm : m ≤ b) (ho : W.heap[b]? = some (.cells cs t fr)) (ht : t ≠ 31) (i : Nat) (v : Value) : KeepN m W (W.setCell ⟨b, i, none⟩ v) := by
  refine ⟨by simp [World.setCell], fun k _ hx => Below.heap_setCell _ _ _ _ ?_⟩
  rcases hx with hx | ⟨cs', fr', h⟩
  · show k ≠ b; omega
  · rintro rfl
    have h2 : W.heap[k]? = _ := h
    rw [ho] at h2
    cases h2
    exact ht rfl
theorem Bx.set {W : World} {b : Nat} {t : TypeId} {u : Value} (h : Bx W b t [u]) (v : Value) : Bx (W.setCell ⟨b, 0, none⟩ v) b t [v] := by
  unfold Bx at h ⊢
  simp [World.setCell, Array.getElem?_modify, h]
theorem Bx.noncells {W W' : World} {b : Nat} {t : TypeId} {us : List Value} {row : Option Nat} (h : Bx W b t us) (hg : W.grownBy W' row) (hr : ∀ j, row = some j → ∃ o : Obj, W.heap[j]? = some o ∧ o.isCells = false) : Bx W' b t us := by
  refine (hg.block b h.lt fun e => ?_).trans h
  obtain ⟨o, ho, hc⟩ := hr b e.symm
  rw [h] at ho
  cases ho
  cases hc
/-- What stands between two rounds: the number in its box. -/
structure CI (m B : Nat) (w : World) (n : Nat) (W : World) : Prop where
  out : Bx W B 3 [.int .i64 (n : Int)]
  bel : Below m w W
  big : B + 2 ≤ W.heap.size
theorem CI.grown {m B : Nat} {w W W' : World} {n : Nat} {row : Option Nat} (h : CI m B w n W) (hmB : m ≤ B) (hg : W.grownBy W' row) (hr : ∀ j, row = some j → B + 2 ≤ j ∧ ∃ o : Obj, W.heap[j]? = some o ∧ o.isCells = false) : CI m B w n W' :=
  ⟨h.out.noncells hg fun j e => (hr j e).2, h.bel.grown hg (by have := h.big; omega) fun j e => by have := (hr j e).1; omega, Nat.le_trans h.big hg.size⟩
set_option maxRecDepth 100000 in
set_option maxHeartbeats 8000000 in
theorem depthp_any (T : Tr) (w : World) (hT : TrW w T) (hlen : (subsT T).length ≤ 999999) (hG : SG w) :
    Calls Tryz.prog 91 #[.agg T.row.toArray] w fun e w' => e = .returned (.tuple #[.int .i64 ((if soundN 1 T.nd = true then depthN T.nd else 0 : Nat) : Int), .int .i64 (soundE T.nd)]) ∧ Below w.heap.size w w' := by
  have hS := fun w1 (hb : Below w.heap.size w w1) => sound_any T w1 (hT.later hb) hlen (hG.later hb)
  have hse : soundE T.nd = if soundN 1 T.nd = true then 0 else 3 := rfl
  rw [hse] at hS ⊢
  cases hs : soundN 1 T.nd with
  | false =>
    rw [hs] at hS
    clear hse hs hT hlen hG
    obtain ⟨k, mn, mx, ⟨⟨kd, bd, bn, cs, nm⟩, sc⟩, sk, ks⟩ := T
    simp only [Tr.row] at hS ⊢
    go_enter Tryz.func91, Tryz.ntmps91
    go_wp2_with (go_at_call 123; refine (hS _ (b1 _ _)).mono ?_; rintro e w2 ⟨rfl, hb2⟩)
    go_ret2
    exact ⟨rfl, bstep (b1 _ _) hb2⟩
  | true =>
    rw [hs, if_pos rfl] at hS
    rw [if_pos rfl, if_pos rfl]
    have hval : topD (preT 1 T) = depthN T.nd := by have := depth_pre T 1; omega
    have hpl : (preT 1 T).length ≤ 999999 := by rw [← List.length_map (f := Prod.snd), preT_snd]; exact hlen
    have hnd := fun w => nodes_any T w
    have hst := fun (b : Nat) (W : World) (hS : SameB w.heap.size w W) (hB : Blk W b T.row) => nodes_stops 2 w T hT hlen b W hS hB
    obtain ⟨L, hLL⟩ : ∃ L, L = preT 1 T := ⟨_, rfl⟩
    have HV := Lib.hid hval
    rw [← hLL] at hst hpl HV
    clear hse hs hT hlen hG hval hLL
    have hbx : ∀ w1, Below (w.alloc (.cells T.row.toArray 31)).heap.size (w.alloc (.cells T.row.toArray 31)) w1 → Blk w1 w.heap.size T.row := fun w1 hb => (Blk.new w _ _).later hb
    obtain ⟨S, hSS⟩ : ∃ S, S = depthN T.nd := ⟨_, rfl⟩
    rw [← hSS] at HV ⊢
    clear hSS
    obtain ⟨k, mn, mx, ⟨⟨kd, bd, bn, cs, nm⟩, sc⟩, sk, ks⟩ := T
    replace hst : ∀ (b : Nat) (W : World), SameB w.heap.size w W → Blk W b [.int .i64 k, .int .i64 mn, .int .i64 mx, .int .i64 kd, .bool bd, .int .u64 bn, sc, .string (strOf nm), sk] → SeqL Fence.wide 2 Tryz.prog 138 #[.pointer (some ⟨b, 0, none⟩)] (fun x : Nat × Tr => #[.int .i64 (x.1 : Int), .agg x.2.row.toArray]) (KeepN w.heap.size) L W := hst
    simp only [Tr.row] at hnd hS hbx ⊢
    refine (callsIn_wide (n := 3)).1 ?_
    refine callsIn_of_wp_marks Tryz.func91 rfl trivial ?_ rfl
    simp only [Tryz.ntmps91, List.size_toArray, List.length_cons, List.length_nil, Nat.reduceAdd, Nat.reduceSub, Array.replicate_succ, Array.replicate_zero, List.push_toArray, List.append_toArray, List.nil_append, List.cons_append]
    gi_wp2_with (first | (refine ⟨trivial, ?_⟩; gi_at_call 123; refine (callsIn_wide.2 (hS _ (b1 _ _))).mono ?_; rintro e w2 ⟨rfl, hb2⟩; have hB := hbx _ hb2; have c0 := hB.cell 0 _ rfl; have c1 := hB.cell 1 _ rfl; have c2 := hB.cell 2 _ rfl; have c3 := hB.cell 3 _ rfl; have c4 := hB.cell 4 _ rfl; have c5 := hB.cell 5 _ rfl; have c6 := hB.cell 6 _ rfl; have c7 := hB.cell 7 _ rfl; have c8 := hB.cell 8 _ rfl; have clt := hB.lt; clear hB) | (refine ⟨trivial, ?_⟩; gi_at_call 124; refine (callsIn_wide.2 (hnd _)).mono ?_; rintro e w' ⟨rfl, rfl⟩))
    clear c0 c1 c2 c3 c4 c5 c6 c7 c8
    have hb3 := bstep (b1 w _) hb2
    have hmB : w.heap.size ≤ w2.heap.size := hb3.size
    obtain ⟨W0, hW0⟩ : ∃ W0, W0 = (w2.alloc (.cells #[.int .i64 0] 3)).alloc (.cells #[.int .i64 k, .int .i64 mn, .int .i64 mx, .int .i64 kd, .bool bd, .int .u64 bn, sc, .string (strOf nm), sk] 31) := ⟨_, rfl⟩
    rw [show ((w2.alloc (.cells #[.int .i64 0] 3)).alloc (.cells #[.int .i64 k, .int .i64 mn, .int .i64 mx, .int .i64 kd, .bool bd, .int .u64 bn, sc, .string (strOf nm), sk] 31)) = W0 from hW0.symm]
    have hb0 : Below w2.heap.size w2 W0 := hW0 ▸ b2 w2 _ _
    have hsz : W0.heap.size = w2.heap.size + 2 := by rw [hW0]; simp
    have hK0 : Bx W0 w2.heap.size 3 [.int .i64 ((0 : Nat) : Int)] := by rw [hW0]; exact (Bx.new w2 [.int .i64 0] 3).later (b1 _ _)
    have hK1 : Blk W0 (w2.heap.size + 1) [.int .i64 k, .int .i64 mn, .int .i64 mx, .int .i64 kd, .bool bd, .int .u64 bn, sc, .string (strOf nm), sk] := by rw [hW0]; exact Blk.is (us := [.int .i64 k, .int .i64 mn, .int .i64 mx, .int .i64 kd, .bool bd, .int .u64 bn, sc, .string (strOf nm), sk]) _ (by simp)
    have hbw : Below w.heap.size w W0 := bstep hb3 hb0
    clear hW0 hbx hb2 clt
    refine wpIn_range_list rfl (by decide) (gf := 138) (lb := #[.pointer (some ⟨w2.heap.size + 1, 0, none⟩)]) rfl trivial (enters_of Tryz.func138 (by kernel_rfl) rfl)
      (hst (w2.heap.size + 1) W0 (SameB.of hbw) hK1)
      (fun h k => KeepN.trans h k) (KeepN.put (by omega)) (fun W W' h => KeepN.of W W' h) (Below.refl _ _) (fun _ => rfl)
      (fun pre W => CI w.heap.size w2.heap.size w (topD pre) W) (fun _ _ => False)
      ?hI ?hIx ?h0 (fun x act (_ : World) => act = { tmps := #[.agg #[.int .i64 k, .int .i64 mn, .int .i64 mx, .int .i64 kd, .bool bd, .int .u64 bn, sc, .string (strOf nm), sk], .pointer (some ⟨w.heap.size, 0, none⟩), .int .i64 0, .int .i64 0, .int .i64 0, .pointer (some ⟨w2.heap.size, 0, none⟩), .int .i64 (x.1 : Int), .agg #[.int .i64 k, .int .i64 mn, .int .i64 mx, .int .i64 kd, .bool bd, .int .u64 bn, sc, .string (strOf nm), sk], .int .i64 0, .int .i64 0, .bool false, undef, .agg #[.int .i64 k, .int .i64 mn, .int .i64 mx, .int .i64 kd, .bool bd, .int .u64 bn, sc, .string (strOf nm), sk], .func (.func 138) #[] #[.pointer (some ⟨w2.heap.size + 1, 0, none⟩)], .int .i64 (x.1 : Int), .agg x.2.row.toArray, undef, undef, undef, undef], defers := [] }) ?hA ?assign ?body ?done ?stop
    case hI =>
      intro s A B row h hg hr
      exact h.grown hmB hg fun j e => by have := hr j e; rw [hsz] at this; exact this
    case hIx => intro s A B row h; exact h.elim
    case h0 => exact ⟨hK0, hbw, by omega⟩
    case hA =>
      rintro x act s A B row h1 hg hr
      exact h1
    case assign =>
      intro l pre x W K hp hW hK
      clear hst hnd
      gi_wp2
      exact hK _ _ (by first | rfl | simp) (Below.refl _ _)
    case body =>
      rintro l pre x act W hp h rfl
      have hbig := h.big
      have r0 := h.out.blk.cell 0 _ rfl
      have r1 := h.out.blk.fr 0 _ rfl
      have hv : topD (pre ++ [x]) = max (topD pre) x.1 := topD_snoc pre x
      have H := Lib.hid h
      obtain ⟨d, t⟩ := x
      simp only at hv
      have hI := Lib.hid (show ((topD (pre ++ [(d, t)]) : Nat) : Int) = max (topD pre : Int) (d : Int) by rw [hv]; omega)
      clear h hv hst hnd hp
      obtain ⟨n, hn⟩ : ∃ n, n = topD pre := ⟨_, rfl⟩
      rw [← hn] at r0 H hI
      clear hn
      gi_wp2
      exact ⟨KeepsOthers.setCell _ _ _, KeepN.set hmB H.out.out (by decide) 0 _, by rw [hI.out]; exact H.out.out.set _, H.out.bel.setCell (p := ⟨w2.heap.size, 0, none⟩) hmB _, by simp [World.setCell]; omega⟩

    case done =>
      rintro D W hD h hK
      have hDD : w.heap.size ≤ D := by omega
      have hE := HV.out
      have r0 := h.out.blk.cell 0 _ rfl
      rw [hE] at r0
      have H := Lib.hid h
      clear h hst hnd hE
      gi_wp2
      refine ⟨by simp, .inl ⟨_, _, rfl, run_takeDeferred hK, ?_⟩⟩
      refine ⟨_, results_tmp2 rfl _ _ _, rfl, below_put H.out.bel hK hDD⟩
    case stop =>
      rintro D pre W hD hp h hK
      exact h.elim
end Go.Proofs.YtdoioaeppepndaaGreatDoor
