/- Walk: whether the pattern is too deep, and whether numbers are within their limits. Made by program (wip/tools/gen_wfG.py). -/
import Derived.Test.YtdoioaeppepndaaGreatDoorWfF
import Derived.Test.YtdoioaeppepndaaGreatDoorAstDe
namespace Go.Proofs.YtdoioaeppepndaaGreatDoor
open Go.RowKit Go.Shelf
open A8 W10
attribute [local go_sem] Oper.semAt_some

theorem lfL_fst (l : List Tr) : (lfL l).map Prod.fst = l.filter lfB := by
  unfold lfL
  exact List.zipIdx_map_fst _ _
theorem lf_nd (T : Tr) : ((subsT T).filter lfB).map Tr.nd = leavesN T.nd := by
  unfold leavesN
  rw [← subs_nd10, List.filter_map]
  congr 1
  congr 1
  exact funext fun t => lfB_nd t
/-- What is asked of all leaves. -/
theorem lf_all (T : Tr) (f : Tr → Bool) (g : Nd → Bool) (h : ∀ t, f t = g t.nd) : ((lfL (subsT T)).all fun x => f x.1) = (leavesN T.nd).all g := by
  have h1 : ((lfL (subsT T)).all fun x => f x.1) = ((lfL (subsT T)).map Prod.fst).all f := by rw [List.all_map]; rfl
  have h2 : f = g ∘ Tr.nd := funext h
  rw [h1, lfL_fst, ← lf_nd, List.all_map, ← h2]
def timesT : Tr → Bool | .mk k mn mx _ _ _ => !decide (k = 1) || (decide (1 ≤ mn) && decide (mn ≤ mx) && decide (mx ≤ 6))
def timesL (l : List (Tr × Nat)) : Bool := l.all fun x => timesT x.1
theorem timesL_app (a b : List (Tr × Nat)) : timesL (a ++ b) = (timesL a && timesL b) := List.all_append
theorem timesL_one (x : Tr × Nat) : timesL [x] = timesT x.1 := by simp [timesL]
theorem timesT_nd (t : Tr) : timesT t = timesB t.nd := by
  cases t with
  | mk k mn mx g sk ks => rw [nd_mk]; rfl

set_option maxRecDepth 100000 in
set_option maxHeartbeats 4000000 in
theorem checkDepth_any (q : GQ) (w : World) (hq : QW w q) (hlen : (subsT q.t).length ≤ 999999) (hG : SG w) (hs : soundN 1 q.t.nd = true) :
    Calls Tryz.prog 105 #[.agg q.row.toArray] w fun e w' => e = .returned (.int .i64 (if 6 < depthN q.qu.p then 22 else 0)) ∧ Below w.heap.size w w' := by
  obtain ⟨T, wi, sh, hv, se, em⟩ := q
  obtain ⟨hT, hwi, hh, he, -, -⟩ := hq
  simp only at hT hh he hlen hwi
  obtain ⟨Ah, ch, rfl, hlh, -⟩ := sl_get (by decide) hh
  obtain ⟨Ae, ce, rfl, hle, -⟩ := sl_get (by decide) he
  clear hh he
  have hD := fun w1 (hb : Below w.heap.size w w1) => depthp_any T w1 (hT.later hb) hlen (hG.later hb)
  have hp : (GQ.qu ⟨T, wi, .slice Ah hv.length ch, hv, .slice Ae em.length ce, em⟩).p = T.nd := rfl
  rw [hp]
  simp only at hs
  rw [hs, if_pos rfl] at hD
  have hse : soundE T.nd = 0 := by unfold soundE; rw [if_pos hs]
  rw [hse] at hD
  obtain ⟨d, hd⟩ : ∃ d, d = depthN T.nd := ⟨_, rfl⟩
  rw [← hd] at hD ⊢
  clear hp hs hse hd
  have hone := hT.one
  obtain ⟨k, mn, mx, ⟨⟨kd, bd, bn, cs, nm⟩, sc⟩, sk, ks⟩ := T
  obtain ⟨-, ⟨-, hsc⟩, hsl⟩ := hone
  simp only at hsc
  obtain ⟨A1, cap1, rfl, -, -⟩ := sl_get (by decide) hsc
  obtain ⟨A, cap, rfl, -, -⟩ := sl_get (by decide) hsl
  clear hsc hsl
  clear hT
  simp only [GQ.row, Tr.row, List.cons_append, List.nil_append] at hD ⊢
  have HD := Lib.hid hD
  clear hD
  by_cases h6 : 6 < d
  · have h6' : (6 : Int) < (d : Int) := by omega
    rw [if_pos h6]
    clear h6
    go_enter Tryz.func105, Tryz.ntmps105
    go_wp2_with (go_at_call 91; refine (HD.out _ (b1 _ _)).mono ?_; rintro e w2 ⟨rfl, hb2⟩)
    go_ret
    exact ⟨rfl, bstep (b1 _ _) hb2⟩
  · have h6' : ¬ (6 : Int) < (d : Int) := by omega
    rw [if_neg h6]
    clear h6
    go_enter Tryz.func105, Tryz.ntmps105
    go_wp2_with (go_at_call 91; refine (HD.out _ (b1 _ _)).mono ?_; rintro e w2 ⟨rfl, hb2⟩)
    go_ret
    exact ⟨rfl, bstep (b1 _ _) hb2⟩

set_option maxRecDepth 100000 in
set_option maxHeartbeats 8000000 in
theorem checkNumbers_any (q : GQ) (w : World) (hq : QW w q) (hlen : (subsT q.t).length ≤ 999999) :
    Calls Tryz.prog 106 #[.agg q.row.toArray] w fun e w' => e = .returned (.int .i64 (if rangeB q.qu = true then 0 else 2)) ∧ Below w.heap.size w w' := by
  obtain ⟨T, wi, sh, hv, se, em⟩ := q
  obtain ⟨hT, hwi, hh, he, -, -⟩ := hq
  simp only at hT hh he hlen hwi
  obtain ⟨Ah, ch, rfl, hlh, -⟩ := sl_get (by decide) hh
  obtain ⟨Ae, ce, rfl, hle, -⟩ := sl_get (by decide) he
  clear hh he
  have hfull : rangeB (GQ.qu ⟨T, wi, .slice Ah hv.length ch, hv, .slice Ae em.length ce, em⟩) = (decide (wi ≤ 10000) && timesL (lfL (subsT T))) := by unfold timesL; rw [lf_all T timesT timesB timesT_nd]; rfl
  rw [hfull]
  clear hfull
  obtain ⟨E, hE⟩ : ∃ E : Int, E = if (decide (wi ≤ 10000) && timesL (lfL (subsT T))) = true then 0 else 2 := ⟨_, rfl⟩
  rw [← hE]
  have hnd := fun w => wleaves_any T w
  have hseq := fun (b' : Nat) (w' : World) => wleaves_seq w T hT (by omega) b' w'
  have hmem : ∀ x ∈ lfL (subsT T), TrW w x.1 := fun x hx u hu => hT u (subs_trans (lf_mem hx) hu)
  obtain ⟨L, hL⟩ : ∃ L, L = lfL (subsT T) := ⟨_, rfl⟩
  rw [← hL] at hmem hseq hE
  have HT := hT
  have HE := Lib.hid hE
  clear hL hE
  have hone := hT.one
  obtain ⟨k, mn, mx, ⟨⟨kd, bd, bn, cs, nm⟩, sc⟩, sk, ks⟩ := T
  obtain ⟨-, ⟨-, hsc⟩, hsl⟩ := hone
  simp only at hsc
  obtain ⟨A1, cap1, rfl, -, -⟩ := sl_get (by decide) hsc
  obtain ⟨A, cap, rfl, -, -⟩ := sl_get (by decide) hsl
  clear hsc hsl
  clear HT hT hlen
  simp only [GQ.row, Tr.row, List.cons_append, List.nil_append] at hnd hseq ⊢
  have HM := Lib.hid hmem
  have HQ := Lib.hid hseq
  clear hmem hseq
  refine (callsIn_wide (n := 5)).1 ?_
  refine callsIn_of_wp_marks Tryz.func106 rfl trivial ?_ rfl
  simp only [Tryz.ntmps106, List.size_toArray, List.length_cons, List.length_nil, Nat.reduceAdd, Nat.reduceSub, Array.replicate_succ, Array.replicate_zero, List.push_toArray, List.append_toArray, List.nil_append, List.cons_append]
  have hout := fun e => show (w.alloc (.cells #[.int .i64 k, .int .i64 mn, .int .i64 mx, .int .i64 kd, .bool bd, .int .u64 bn, .slice A1 cs.length cap1, .string (strOf nm), .slice A ks.length cap, .int .u64 wi, .slice Ah hv.length ch, .slice Ae em.length ce] 35)).heap.size = w.heap.size + 1 ∧ ResP w (w.heap.size + 1) e ((w.alloc (.cells #[.int .i64 k, .int .i64 mn, .int .i64 mx, .int .i64 kd, .bool bd, .int .u64 bn, .slice A1 cs.length cap1, .string (strOf nm), .slice A ks.length cap, .int .u64 wi, .slice Ah hv.length ch, .slice Ae em.length ce] 35)).alloc (.cells #[.int .i64 e] 23)) from
    ⟨by simp, by have := Bx.new (w.alloc (.cells #[.int .i64 k, .int .i64 mn, .int .i64 mx, .int .i64 kd, .bool bd, .int .u64 bn, .slice A1 cs.length cap1, .string (strOf nm), .slice A ks.length cap, .int .u64 wi, .slice Ah hv.length ch, .slice Ae em.length ce] 35)) [.int .i64 e] 23; rw [World.size_alloc] at this; exact this, b2 _ _ _⟩
  have HO := Lib.hid hout
  have hz := fun (_ : Nat) => show (((w.alloc (.cells #[.int .i64 k, .int .i64 mn, .int .i64 mx, .int .i64 kd, .bool bd, .int .u64 bn, .slice A1 cs.length cap1, .string (strOf nm), .slice A ks.length cap, .int .u64 wi, .slice Ah hv.length ch, .slice Ae em.length ce] 35)).alloc (.cells #[.int .i64 0] 23)).alloc (.cells #[.int .i64 k, .int .i64 mn, .int .i64 mx, .int .i64 kd, .bool bd, .int .u64 bn, .slice A1 cs.length cap1, .string (strOf nm), .slice A ks.length cap] 31)).heap.size = w.heap.size + 3 ∧ ResP w (w.heap.size + 1) 0 (((w.alloc (.cells #[.int .i64 k, .int .i64 mn, .int .i64 mx, .int .i64 kd, .bool bd, .int .u64 bn, .slice A1 cs.length cap1, .string (strOf nm), .slice A ks.length cap, .int .u64 wi, .slice Ah hv.length ch, .slice Ae em.length ce] 35)).alloc (.cells #[.int .i64 0] 23)).alloc (.cells #[.int .i64 k, .int .i64 mn, .int .i64 mx, .int .i64 kd, .bool bd, .int .u64 bn, .slice A1 cs.length cap1, .string (strOf nm), .slice A ks.length cap] 31)) ∧ Bx (((w.alloc (.cells #[.int .i64 k, .int .i64 mn, .int .i64 mx, .int .i64 kd, .bool bd, .int .u64 bn, .slice A1 cs.length cap1, .string (strOf nm), .slice A ks.length cap, .int .u64 wi, .slice Ah hv.length ch, .slice Ae em.length ce] 35)).alloc (.cells #[.int .i64 0] 23)).alloc (.cells #[.int .i64 k, .int .i64 mn, .int .i64 mx, .int .i64 kd, .bool bd, .int .u64 bn, .slice A1 cs.length cap1, .string (strOf nm), .slice A ks.length cap] 31)) (w.heap.size + 1 + 1) 31 [.int .i64 k, .int .i64 mn, .int .i64 mx, .int .i64 kd, .bool bd, .int .u64 bn, .slice A1 cs.length cap1, .string (strOf nm), .slice A ks.length cap] from by
    have h1 := (hout 0).1
    have h2 := (hout 0).2
    have h4 := Bx.new ((w.alloc (.cells #[.int .i64 k, .int .i64 mn, .int .i64 mx, .int .i64 kd, .bool bd, .int .u64 bn, .slice A1 cs.length cap1, .string (strOf nm), .slice A ks.length cap, .int .u64 wi, .slice Ah hv.length ch, .slice Ae em.length ce] 35)).alloc (.cells #[.int .i64 0] 23)) [.int .i64 k, .int .i64 mn, .int .i64 mx, .int .i64 kd, .bool bd, .int .u64 bn, .slice A1 cs.length cap1, .string (strOf nm), .slice A ks.length cap] 31
    rw [World.size_alloc, h1] at h4
    exact ⟨by simp, h2.later (b1 _ _), h4⟩
  have HZ := Lib.hid hz
  clear hout hz
  by_cases h4 : 10000 < wi
  · have HH : RowKit.Hid (E = 2) := Lib.hid (by rw [HE.out, decide_eq_false (by omega)]; rfl)
    clear hnd
    gi_wp2
    exact fin_none (fun W h => by simp [results, Tryz.f106, go_sem, h.cell]) ((HO.out 2).2.eq HH.out)
  have HEE : RowKit.Hid (E = if timesL L = true then 0 else 2) := Lib.hid (by rw [HE.out, decide_eq_true (by omega), Bool.true_and])
  clear HE
  gi_wp2_with (refine ⟨trivial, ?_⟩; refine (callsIn_wide.2 (hnd _)).mono ?_; rintro e w' ⟨rfl, rfl⟩)
  clear hnd
  have hW3 := HZ.out 0
  obtain ⟨W3, hW3e⟩ : ∃ W3, W3 = ((w.alloc (.cells #[.int .i64 k, .int .i64 mn, .int .i64 mx, .int .i64 kd, .bool bd, .int .u64 bn, .slice A1 cs.length cap1, .string (strOf nm), .slice A ks.length cap, .int .u64 wi, .slice Ah hv.length ch, .slice Ae em.length ce] 35)).alloc (.cells #[.int .i64 0] 23)).alloc (.cells #[.int .i64 k, .int .i64 mn, .int .i64 mx, .int .i64 kd, .bool bd, .int .u64 bn, .slice A1 cs.length cap1, .string (strOf nm), .slice A ks.length cap] 31) := ⟨_, rfl⟩
  rw [← hW3e] at hW3
  rw [← hW3e]
  obtain ⟨hsz3, hR3, hN3⟩ := hW3
  have hseq := HQ.out (w.heap.size + 1 + 1) W3 (SameB.of hR3.2) hN3
  clear hW3e HQ hN3 HO HZ
  refine wpIn_range_own (gf := 121) (lb := #[.pointer (some ⟨w.heap.size + 1 + 1, 0, none⟩)]) rfl (enters_of Tryz.func121 (by kernel_rfl) rfl)
    hseq (by omega) (Below.refl _ _) (fun _ => rfl)
    (fun pre Wx => timesL pre = true ∧ ResP w (w.heap.size + 1) 0 Wx)
    (fun pre Wx => timesL pre = false ∧ ResP w (w.heap.size + 1) 2 Wx)
    ?hI ?hIx ?h0 (fun x act Wx => ∃ b5, w.heap.size + 1 < b5 ∧ Bx Wx b5 31 x.1.row ∧ act = { tmps := #[.agg #[.int .i64 k, .int .i64 mn, .int .i64 mx, .int .i64 kd, .bool bd, .int .u64 bn, .slice A1 cs.length cap1, .string (strOf nm), .slice A ks.length cap, .int .u64 wi, .slice Ah hv.length ch, .slice Ae em.length ce], .pointer (some ⟨w.heap.size, 0, none⟩), .pointer (some ⟨w.heap.size + 1, 0, none⟩), undef, .pointer (some ⟨b5, 0, none⟩), .pointer (some ⟨w.heap.size, 9, none⟩), .int .u64 wi, .bool false, .pointer (some ⟨w.heap.size, 0, none⟩), .agg #[.int .i64 k, .int .i64 mn, .int .i64 mx, .int .i64 kd, .bool bd, .int .u64 bn, .slice A1 cs.length cap1, .string (strOf nm), .slice A ks.length cap], .func (.func 121) #[] #[.pointer (some ⟨w.heap.size + 1 + 1, 0, none⟩)], .int .i64 (x.2 : Int), .agg x.1.row.toArray, undef, undef, undef, undef, undef, undef, undef, undef, undef, undef, undef, undef, undef, undef, undef, undef, undef, undef, undef, undef, undef], defers := [] }) ?hA ?assign ?body ?done ?stop
  case hI =>
    rintro s Wx Wy ⟨g0, g1⟩ ht
    exact ⟨g0, g1.turn ht (by omega)⟩
  case hIx =>
    rintro s Wx Wy ⟨g0, g1⟩ ht
    exact ⟨g0, g1.turn ht (by omega)⟩
  case h0 => exact ⟨rfl, hR3⟩
  case hA =>
    rintro x act s Wx Wy row ⟨b5, h1, h2, h3⟩ hg hr
    exact ⟨b5, h1, bx_noncells h2 hg (fun j e => (hr j e).2), h3⟩
  case assign =>
    intro l2 pre x Wx K hp hsz hi hK
    have ho := (HM.out x (hp.subset (by simp))).one
    obtain ⟨x, c⟩ := x
    obtain ⟨k2, mn2, mx2, ⟨⟨kd2, bd2, bn2, cs2, nm2⟩, sc2⟩, sk2, ks2⟩ := x
    obtain ⟨-, ⟨-, e1⟩, e2⟩ := ho
    simp only at e1
    obtain ⟨A5, c5, rfl, hcl, -⟩ := sl_get (by decide) e1
    obtain ⟨A6, c6, rfl, hkl, -⟩ := sl_get (by decide) e2
    simp only [Tr.row] at hK ⊢
    clear e1 e2 hi hseq
    gi_wp2
    exact hK _ _ ⟨Wx.heap.size, by omega, Bx.new _ _ _, rfl⟩ (b1 _ _)
  case body =>
    rintro l2 pre x act Wx hp hsz ⟨g0, g1⟩ ⟨b5, hb5l, hb5, rfl⟩
    have ho := (HM.out x (hp.subset (by simp))).one
    have hrs : timesL (pre ++ [x]) = timesT x.1 := by rw [timesL_app, g0, timesL_one]; rfl
    obtain ⟨xs, hxs⟩ : ∃ xs, xs = pre ++ [x] := ⟨_, rfl⟩
    rw [← hxs] at hrs ⊢
    clear hxs hp g0
    obtain ⟨x, c⟩ := x
    obtain ⟨k2, mn2, mx2, ⟨⟨kd2, bd2, bn2, cs2, nm2⟩, sc2⟩, sk2, ks2⟩ := x
    obtain ⟨-, ⟨-, e1⟩, e2⟩ := ho
    simp only at e1
    obtain ⟨A5, c5, rfl, hcl, -⟩ := sl_get (by decide) e1
    obtain ⟨A6, c6, rfl, hkl, -⟩ := sl_get (by decide) e2
    simp only [Tr.row, timesT] at hb5 hrs ⊢
    clear e1 e2 hseq
    have hK5 := hb5.blk
    have d0 := hK5.cell 0 _ rfl
    have d1 := hK5.cell 1 _ rfl
    have d2 := hK5.cell 2 _ rfl
    have r1 := g1.cell
    have r2 := g1.fr
    have HR := Lib.hid hrs
    have G1 := Lib.hid g1
    clear hK5 hb5 hrs g1
    by_cases h1 : k2 = 1
    · subst h1
      by_cases h2 : 1 ≤ mn2
      · by_cases h3 : mn2 ≤ mx2
        · by_cases h5 : mx2 ≤ 6
          · have HR2 := Lib.hid (show timesL xs = true by rw [HR.out, decide_eq_true h2, decide_eq_true h3, decide_eq_true h5]; rfl)
            clear HR
            gi_wp2
            exact ⟨KeepW.refl _ _, HR2.out, G1.out⟩
          · have HR2 := Lib.hid (show timesL xs = false by rw [HR.out, decide_eq_true h2, decide_eq_true h3, decide_eq_false h5]; rfl)
            clear HR
            gi_wp2
            exact ⟨KeepsFrom.setCell _ _ _ _, HR2.out, G1.out.set (by omega) 2⟩
        · have HR2 := Lib.hid (show timesL xs = false by rw [HR.out, decide_eq_true h2, decide_eq_false h3]; rfl)
          clear HR
          gi_wp2
          exact ⟨KeepsFrom.setCell _ _ _ _, HR2.out, G1.out.set (by omega) 2⟩
      · have HR2 := Lib.hid (show timesL xs = false by rw [HR.out, decide_eq_false h2]; rfl)
        clear HR
        gi_wp2
        exact ⟨KeepsFrom.setCell _ _ _ _, HR2.out, G1.out.set (by omega) 2⟩
    · have HR2 := Lib.hid (show timesL xs = true by rw [HR.out, decide_eq_false h1]; rfl)
      have hkb : (k2 == 1) = false := by simpa using h1
      clear HR
      gi_wp2
      exact ⟨KeepW.refl _ _, HR2.out, G1.out⟩
  case done =>
    rintro D Wx hD ⟨g0, g1⟩ hKd
    clear hseq
    have he : E = 0 := by rw [HEE.out, if_pos g0]
    have HH := Lib.hid he
    clear he
    have HG := Lib.hid g1
    have r1 := g1.cell
    have r2 := g1.fr
    have HD := Lib.hid hKd
    clear g1 hKd g0
    gi_wp2
    exact fin_one (fun W h => by simp [results, Tryz.f106, go_sem, h.cell]) (Nat.le_refl _) (show w.heap.size ≤ D by omega) (def_set HD.out) ((HG.out.set (by omega) 0).eq HH.out)
  case stop =>
    rintro D pre Wx hD hp ⟨g0, g1⟩ hKd
    clear hseq
    have he : E = 2 := by
      rw [HEE.out, if_neg]
      intro h
      obtain ⟨r, rfl⟩ := hp
      rw [timesL_app, g0] at h
      cases h
    have HH := Lib.hid he
    clear he g0 hp
    gi_wp2
    exact fin_one (fun W h => by simp [results, Tryz.f106, go_sem, h.cell]) (Nat.le_refl _) (show w.heap.size ≤ D by omega) hKd (g1.eq HH.out)
end Go.Proofs.YtdoioaeppepndaaGreatDoor
