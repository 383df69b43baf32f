/- Walk: whether a node is sound. -/
import Derived.Test.YtfibmdbplfghcaaGreatDoorAstJ
import Derived.Test.YtfibmdbplfghcaaGreatDoorAstG
namespace Go.Proofs.YtfibmdbplfghcaaGreatDoor
open Go.RowKit Go.Shelf
open A8 Tk7
attribute [local go_sem] Oper.semAt_some

/-- Whether a node that was yielded is sound if its kids are. -/
def soX (x : Nat × Tr) : Bool := decide (x.1 ≤ 200) && nodeB x.2.nd.kind x.2.mn x.2.mx x.2.nd.atom x.2.nd.kids.length
theorem sound_pre (T : Tr) : ∀ d, (preT d T).all soX = soundN d T.nd := by
  refine Tr.ind (P := fun T => ∀ d, (preT d T).all soX = soundN d T.nd) (fun k mn mx g sk ks ih d => ?_) T
  have h : ∀ l : List Tr, (∀ t ∈ l, ∀ d, (preT d t).all soX = soundN d t.nd) → ∀ d, (preTL d l).all soX = soundL d (ndL l) := fun l => by
    induction l with
    | nil => intro _ _; rfl
    | cons t ts iht =>
      intro hl d
      rw [preTL, List.all_append, ndL, soundL, hl t (by simp) d, iht (fun u hu => hl u (by simp [hu])) d]
  rw [preT, List.all_cons, Tr.nd, soundN, h ks ih (d + 1)]
  congr 1
/-- What stands between two rounds. -/
structure SI (w : World) (pre : List (Nat × Tr)) (W : World) : Prop where
  ok : pre.all soX = true
  out : Blk W (w.heap.size + 1) [.int .i64 0]
  sg : SG W
  bel : Below w.heap.size w W
  big : w.heap.size + 3 ≤ W.heap.size
structure SX (w : World) (pre : List (Nat × Tr)) (W : World) : Prop where
  no : pre.all soX = false
  out : Blk W (w.heap.size + 1) [.int .i64 3]
  bel : Below w.heap.size w W
theorem sg_grown {W W' : World} {row : Option Nat} (h : SG W) (hg : W.grownBy W' row) (hr : ∀ j, row = some j → ∃ o : Obj, W.heap[j]? = some o ∧ o.isCells = false) : SG W' := by
  refine h.grown hg fun e => ?_
  obtain ⟨o, ho, hc⟩ := hr _ e.symm
  obtain ⟨o', ho', hc'⟩ := cells_of_cell (h.2 0 _ rfl)
  rw [ho] at ho'
  cases ho'
  rw [hc] at hc'
  cases hc'
theorem SI.grown {w W W' : World} {pre : List (Nat × Tr)} {row : Option Nat} (h : SI w pre W) (hg : W.grownBy W' row) (hr : ∀ j, row = some j → w.heap.size + 3 ≤ j ∧ ∃ o : Obj, W.heap[j]? = some o ∧ o.isCells = false) : SI w pre W' :=
  ⟨h.ok, blk_noncells (by simp) h.out hg fun j e => (hr j e).2, sg_grown h.sg hg fun j e => (hr j e).2, h.bel.grown hg h.bel.size fun j e => by have := (hr j e).1; omega, Nat.le_trans h.big hg.size⟩
theorem SX.grown {w W W' : World} {pre : List (Nat × Tr)} {row : Option Nat} (h : SX w pre W) (hg : W.grownBy W' row) (hr : ∀ j, row = some j → w.heap.size + 3 ≤ j ∧ ∃ o : Obj, W.heap[j]? = some o ∧ o.isCells = false) : SX w pre W' :=
  ⟨h.no, blk_noncells (by simp) h.out hg fun j e => (hr j e).2, h.bel.grown hg h.bel.size fun j e => by have := (hr j e).1; omega⟩
theorem others_below {W W' : World} (h : Below W.heap.size W W') : KeepsOthers W W' := KeepsOthers.of_grownBy (grown_below _ _ h) (fun j o e => by cases e)
/-- How the values of a round lie. -/
def SA (w : World) (R : Value) (x : Nat × Tr) (act : Act) (W : World) : Prop :=
  ∃ b, w.heap.size + 3 ≤ b ∧ act = { tmps := #[R, .pointer (some ⟨w.heap.size, 0, none⟩), .pointer (some ⟨w.heap.size + 1, 0, none⟩), .int .i64 (x.1 : Int), .pointer (some ⟨b, 0, none⟩), R, .func (.func 91) #[] #[.pointer (some ⟨w.heap.size + 1 + 1, 0, none⟩)], .int .i64 (x.1 : Int), .agg x.2.row.toArray, undef, undef, undef, undef, undef, undef, undef], defers := [] } ∧ Blk W b x.2.row
set_option maxRecDepth 100000 in
set_option maxHeartbeats 8000000 in
theorem sound_any (T : Tr) (w : World) (hT : TrW w T) (hlen : (subsT T).length ≤ 999999) (hG : SG w) :
    Calls Tryz.prog 16 #[.agg T.row.toArray] w fun e w' => e = .returned (.int .i64 (soundE T.nd)) ∧ Below w.heap.size w w' := by
  have hsp := sound_pre T 1
  have hnd := fun w => nodes_any T w
  have hst := fun (b : Nat) (W : World) (hS : SameB w.heap.size w W) (hB : Blk W b T.row) => nodes_stops 2 w T hT hlen b W hS hB
  have hL := Lib.hid hT
  obtain ⟨L, hLL⟩ : ∃ L, L = preT 1 T := ⟨_, rfl⟩
  have hmem : ∀ x ∈ L, TrW w x.2 := fun x hx => by
    intro u hu
    refine hT u ?_
    rw [hLL] at hx
    have h1 := preT_mem hx
    exact subs_trans h1 hu
  have HE := Lib.hid (show soundE T.nd = if L.all soX = true then 0 else 3 by rw [hLL, hsp]; rfl)
  rw [← hLL] at hst
  clear hsp hT hlen hLL
  obtain ⟨k, mn, mx, ⟨⟨kd, bd, bn, cs, nm⟩, sc⟩, sk, ks⟩ := T
  replace hst : ∀ (b : Nat) (W : World), SameB w.heap.size w W → Blk W b [.int .i64 k, .int .i64 mn, .int .i64 mx, .int .i64 kd, .bool bd, .int .u64 bn, sc, .string (strOf nm), sk] → SeqL Fence.wide 2 Tryz.prog 91 #[.pointer (some ⟨b, 0, none⟩)] (fun x : Nat × Tr => #[.int .i64 (x.1 : Int), .agg x.2.row.toArray]) (KeepN w.heap.size) L W := hst
  simp only [Tr.row] at hnd ⊢
  refine (callsIn_wide (n := 3)).1 ?_
  refine callsIn_of_wp_marks Tryz.func16 rfl trivial ?_ rfl
  simp only [Tryz.ntmps16, List.size_toArray, List.length_cons, List.length_nil, Nat.reduceAdd, Nat.reduceSub, Array.replicate_succ, Array.replicate_zero, List.push_toArray, List.append_toArray, List.nil_append, List.cons_append]
  gi_wp2_with (refine ⟨trivial, ?_⟩; gi_at_call 49; refine (callsIn_wide.2 (hnd _)).mono ?_; rintro e w' ⟨rfl, rfl⟩)
  obtain ⟨W0, hW0⟩ : ∃ W0, W0 = ((w.alloc (.cells #[.int .i64 k, .int .i64 mn, .int .i64 mx, .int .i64 kd, .bool bd, .int .u64 bn, sc, .string (strOf nm), sk] 28)).alloc (.cells #[.int .i64 0] 35)).alloc (.cells #[.int .i64 k, .int .i64 mn, .int .i64 mx, .int .i64 kd, .bool bd, .int .u64 bn, sc, .string (strOf nm), sk] 28) := ⟨_, rfl⟩
  rw [← hW0]
  have hb0 : Below w.heap.size w W0 := hW0 ▸ b3 w _ _ _
  have hsz : W0.heap.size = w.heap.size + 3 := by rw [hW0]; simp
  have hK0 : Blk W0 (w.heap.size + 1) [.int .i64 0] := by rw [hW0]; exact (Blk.is (us := [.int .i64 0]) _ (by simp)).alloc _
  have hK1 : Blk W0 (w.heap.size + 1 + 1) [.int .i64 k, .int .i64 mn, .int .i64 mx, .int .i64 kd, .bool bd, .int .u64 bn, sc, .string (strOf nm), sk] := by rw [hW0]; exact Blk.is (us := [.int .i64 k, .int .i64 mn, .int .i64 mx, .int .i64 kd, .bool bd, .int .u64 bn, sc, .string (strOf nm), sk]) _ (by simp)
  clear hW0
  refine wpIn_range_list rfl (by decide) (gf := 91) (lb := #[.pointer (some ⟨w.heap.size + 1 + 1, 0, none⟩)]) rfl trivial (enters_of Tryz.func91 (by kernel_rfl) rfl)
    (hst (w.heap.size + 1 + 1) W0 (SameB.of hb0) hK1)
    (fun h k => KeepN.trans h k) (KeepN.put (by omega)) (fun W W' h => KeepN.of W W' h) (Below.refl _ _) (fun _ => rfl)
    (fun pre W => SI w pre W) (fun pre W => SX w pre W)
    ?hI ?hIx ?h0 (SA w (.agg #[.int .i64 k, .int .i64 mn, .int .i64 mx, .int .i64 kd, .bool bd, .int .u64 bn, sc, .string (strOf nm), sk])) ?hA ?assign ?body ?done ?stop
  case hI =>
    intro s A B row h hg hr
    exact h.grown hg fun j e => by have := hr j e; rw [hsz] at this; exact this
  case hIx =>
    intro s A B row h hg hr
    exact h.grown hg fun j e => by have := hr j e; rw [hsz] at this; exact this
  case h0 => exact ⟨rfl, hK0, hG.later hb0, hb0, by omega⟩
  case hA =>
    rintro x act s A B row ⟨b, h1, h2, h3⟩ hg hr
    exact ⟨b, h1, h2, blk_noncells (by cases x.2; simp [Tr.row]) h3 hg fun j e => (hr j e).2⟩
  case assign =>
    intro l pre x W K hp hW hK
    have ho := (hmem x (hp.subset (by simp))).one
    rw [hsz] at hW
    obtain ⟨d, k', mn', mx', ⟨⟨kd', bd', bn', cs', nm'⟩, sc'⟩, sk', ks'⟩ := x
    obtain ⟨-, ⟨-, h1⟩, h2⟩ := ho
    simp only at h1
    obtain ⟨A1, c1, rfl, -, -⟩ := sl_get (by decide) h1
    obtain ⟨A2, c2, rfl, -, -⟩ := sl_get (by decide) h2
    unfold SA at hK
    simp only [Tr.row] at hK ⊢
    clear h1 h2 hst hnd hL hmem
    gi_wp2
    exact hK _ _ ⟨W.heap.size, by omega, rfl, Blk.new _ _ _⟩ (b1 _ _)
  case body =>
    rintro l pre x act W hp h ⟨b, hb3, rfl, hB⟩
    have ho := (hmem x (hp.subset (by simp))).one
    have hn := isNode_any x.2 W (ho.same (SameB.of h.bel)) h.sg
    have hok : soX x = (decide (x.1 ≤ 200) && nodeB x.2.nd.kind x.2.mn x.2.mx x.2.nd.atom x.2.nd.kids.length) := rfl
    have hall : (pre ++ [x]).all soX = soX x := by rw [List.all_append, h.ok]; simp
    obtain ⟨q, hq⟩ : ∃ q, q = nodeB x.2.nd.kind x.2.mn x.2.mx x.2.nd.atom x.2.nd.kids.length := ⟨_, rfl⟩
    rw [← hq] at hok hn
    rw [hok] at hall
    obtain ⟨d, k', mn', mx', ⟨⟨kd', bd', bn', cs', nm'⟩, sc'⟩, sk', ks'⟩ := x
    obtain ⟨x, hx⟩ : ∃ x, x = (d, Tr.mk k' mn' mx' ⟨⟨kd', bd', bn', cs', nm'⟩, sc'⟩ sk' ks') := ⟨_, rfl⟩
    rw [← hx] at hall ⊢
    have H := Lib.hid h
    simp only [Tr.row] at hB hn ⊢
    have c0 := hB.cell 0 _ rfl
    have c1 := hB.cell 1 _ rfl
    have c2 := hB.cell 2 _ rfl
    have c3 := hB.cell 3 _ rfl
    have c4 := hB.cell 4 _ rfl
    have c5 := hB.cell 5 _ rfl
    have c6 := hB.cell 6 _ rfl
    have c7 := hB.cell 7 _ rfl
    have c8 := hB.cell 8 _ rfl
    have hx1 : x.1 = d := by rw [hx]
    rw [hx1] at hall
    have HA := Lib.hid hall
    simp only [hx1]
    have r1 := h.out.fr 0 _ rfl
    have r0 := h.out.cell 0 _ rfl
    clear hst hnd hL hmem hB h ho hok hall hq hx1
    have hbig := H.out.big
    by_cases hd : d ≤ 200
    · have hd' : ¬ (200 : Int) < (d : Int) := by omega
      rw [decide_eq_true hd, Bool.true_and] at HA
      cases q with
      | true =>
        clear hx r0 r1
        gi_wp2_with (refine ⟨trivial, ?_⟩; gi_at_call 50; refine (callsIn_wide.2 hn).mono ?_; rintro e W2 ⟨rfl, hb2⟩)
        exact ⟨others_below hb2, KeepN.of _ _ hb2, HA.out, H.out.out.later hb2, H.out.sg.later hb2, bstep H.out.bel hb2, Nat.le_trans H.out.big hb2.size⟩
      | false =>
        have hk2 : ∀ W2, Below W.heap.size W W2 → W2.frozen? ⟨w.heap.size + 1, 0, none⟩ = false ∧ W2.cell? ⟨w.heap.size + 1, 0, none⟩ = some (.int .i64 0) := fun W2 hb => ⟨(H.out.out.later hb).fr 0 _ rfl, (H.out.out.later hb).cell 0 _ rfl⟩
        clear hx r0 r1
        gi_wp2_with (refine ⟨trivial, ?_⟩; gi_at_call 50; refine (callsIn_wide.2 hn).mono ?_; rintro e W2 ⟨rfl, hb2⟩; obtain ⟨r1, r0⟩ := hk2 W2 hb2; clear hk2)
        exact ⟨(others_below hb2).trans (KeepsOthers.setCell _ _ _), HA.out, (H.out.out.later hb2).set 0 _, (bstep H.out.bel hb2).setCell (p := ⟨w.heap.size + 1, 0, none⟩) (by simp) _⟩
    · have hd' : (200 : Int) < (d : Int) := by omega
      rw [decide_eq_false hd, Bool.false_and] at HA
      clear hx hn
      gi_wp2
      refine ⟨trivial, ?_⟩
      gi_wp2
      exact ⟨KeepsOthers.setCell _ _ _, HA.out, H.out.out.set 0 _, H.out.bel.setCell (p := ⟨w.heap.size + 1, 0, none⟩) (by simp) _⟩
  case done =>
    rintro D W hD h hK
    have hDD : w.heap.size ≤ D := by omega
    have hE : soundE (Tr.nd (.mk k mn mx ⟨⟨kd, bd, bn, cs, nm⟩, sc⟩ sk ks)) = 0 := by rw [HE.out, if_pos h.ok]
    have HE2 := Lib.hid hE
    have r1 := h.out.fr 0 _ rfl
    have r0 := h.out.cell 0 _ rfl
    have H := Lib.hid h
    clear h hst hnd hL hmem hE
    gi_wp2
    have hKV := (KeepsOthers.setCell W ⟨w.heap.size + 1, 0, none⟩ (.int .i64 0)).same D _ hK rfl
    refine ⟨by simp, .inl ⟨_, _, rfl, run_takeDeferred hKV, ?_⟩⟩
    have hZ := (blk_put (o' := .deferred none) (by simp) (H.out.out.set 0 (.int .i64 0)) hKV rfl).cell 0 _ rfl
    refine ⟨.int .i64 0, ?_, by rw [HE2.out], below_put (H.out.bel.setCell (p := ⟨w.heap.size + 1, 0, none⟩) (by simp) _) hKV hDD⟩
    simp [results, Tryz.f16, go_sem, hZ]
  case stop =>
    rintro D pre W hD hp h hK
    have hDD : w.heap.size ≤ D := by omega
    have hE : soundE (Tr.nd (.mk k mn mx ⟨⟨kd, bd, bn, cs, nm⟩, sc⟩ sk ks)) = 3 := by
      rw [HE.out, if_neg ?_]
      intro hall
      obtain ⟨r, hr⟩ := hp
      rw [← hr, List.all_append, h.no] at hall
      cases hall
    have HE2 := Lib.hid hE
    have H := Lib.hid h
    clear h hst hnd hL hmem hE hp
    gi_wp2
    refine ⟨by simp, .inl ⟨_, _, rfl, run_takeDeferred hK, ?_⟩⟩
    have hZ := (blk_put (o' := .deferred none) (by simp) H.out.out hK rfl).cell 0 _ rfl
    refine ⟨.int .i64 3, ?_, by rw [HE2.out], below_put H.out.bel hK hDD⟩
    simp [results, Tryz.f16, go_sem, hZ]
end Go.Proofs.YtfibmdbplfghcaaGreatDoor
