/- Walk: the number of a name, and how much room a query takes. Made by program (wip/tools/gen_wfP.py). -/
import Derived.Test.YthiacfmedcfcjaaDoorWfN
namespace Go.Proofs.YthiacfmedcfcjaaDoor
open Go.RowKit Go.Shelf Go.Maps
open A8 W10
attribute [local go_sem] Oper.semAt_some

theorem findN_app (s : List UInt8) (a b : List (List UInt8)) (i : Nat) : findN s (a ++ b) i = if a.contains s = true then findN s a i else findN s b (i + a.length) := by
  induction a generalizing i with
  | nil => simp
  | cons x r ih =>
    rw [List.cons_append, findN, findN, ih]
    by_cases hx : x = s
    · subst hx; simp
    · rw [if_neg hx, if_neg hx]
      have : (x :: r).contains s = r.contains s := by
        rw [Bool.eq_iff_iff]
        simp [show ¬ s = x from fun e => hx e.symm]
      rw [this, List.length_cons]
      congr 2
      omega
theorem lastN_find (s : List UInt8) (hs : s ≠ []) : ∀ l : List (Tr × Nat), (∀ i (h : i < l.length), l[i].2 = i) → onceL (nmsL l) = true → bareL l = true → (nmsL l).contains s = true → (nmsL (nmL l)).contains s = true ∧ (lastN s (nmL l) : Int) = findN s (nmsL l) 0 := by
  refine snoc_ind ?_ ?_
  · intro _ _ _ h; simp [nmsL] at h
  · intro l x ih hi ho hb hc
    rw [nmsL_snoc, onceL_snoc, Bool.and_eq_true] at ho
    rw [bareL_app, bareL_one, Bool.and_eq_true] at hb
    have hil : ∀ i (h : i < l.length), l[i].2 = i := fun i h => by
      have := hi i (by simp; omega)
      rw [List.getElem_append_left h] at this
      exact this
    have hx2 : x.2 = l.length := by
      have := hi l.length (by simp)
      simpa using this
    have hnl : (nmsL l).length = l.length := by simp [nmsL]
    rw [nmsL_snoc, findN_app, hnl]
    rw [nmsL_snoc] at hc
    by_cases hm : (nmsL l).contains s = true
    · obtain ⟨h1, h2⟩ := ih hil ho.1 hb.1 hm
      have hne : nmT x.1 ≠ s := fun e => by
        have h3 := ho.2
        rw [e] at h3
        cases s with
        | nil => exact hs rfl
        | cons c cs => rw [hm] at h3; simp at h3
      rw [if_pos hm]
      cases hx : nmdB x.1 with
      | true =>
        rw [nmL_yes _ _ hx, nmsL_snoc, lastN_snoc, if_neg hne]
        exact ⟨by rw [List.contains_eq_mem] at h1 ⊢; simp at h1 ⊢; exact .inl h1, h2⟩
      | false =>
        rw [nmL_no _ _ hx]
        exact ⟨h1, h2⟩
    · have he : nmT x.1 = s := by
        rw [List.contains_eq_mem] at hc hm
        simp at hc hm
        rcases hc with h | h
        · exact absurd h hm
        · exact h.symm
      have hx : nmdB x.1 = true := by
        have h3 := hb.2
        obtain ⟨x, c⟩ := x
        cases x with
        | mk k mn mx g sk ks =>
          simp only [nmT] at he
          simp only [bareT, nmdB, he] at h3 ⊢
          cases s with
          | nil => exact absurd rfl hs
          | cons c cs => simpa using h3
      rw [if_neg hm, nmL_yes _ _ hx, nmsL_snoc, lastN_snoc, if_pos he, hx2]
      refine ⟨by rw [he, List.contains_eq_mem]; simp, ?_⟩
      simp [findN, he]
theorem lfL_idx (l : List Tr) : ∀ i (h : i < (lfL l).length), (lfL l)[i].2 = i := fun i h => by
  have h1 : (lfL l)[i]? = some ((lfL l)[i]) := List.getElem?_eq_getElem h
  have h2 : (lfL l)[i]? = ((l.filter lfB)[i]?).map fun a => (a, i) := by
    unfold lfL
    rw [List.getElem?_zipIdx]
    simp
  rw [h1] at h2
  cases hh : (l.filter lfB)[i]? with
  | none => rw [hh] at h2; cases h2
  | some a =>
    rw [hh] at h2
    injection h2 with h2
    rw [h2]
/-- What Named gives, from what the map of names gives. -/
theorem named_is (q : GQ) (s : List UInt8) (h0 : wfE q.qu = 0) : (namedI q.qu s = if (nmsL (nmL (lfL (subsT q.t)))).contains s = true then (lastN s (nmL (lfL (subsT q.t))) : Int) else 0) ∧ namedE q.qu s = if (nmsL (nmL (lfL (subsT q.t)))).contains s = true then 0 else 12 := by
  have hE : namedE q.qu s = if (nmsL (nmL (lfL (subsT q.t)))).contains s = true then 0 else 12 := by
    unfold namedE
    rw [if_pos h0, namesL_nd]
    rfl
  refine ⟨?_, hE⟩
  unfold namedI
  rw [hE]
  by_cases hc : (nmsL (nmL (lfL (subsT q.t)))).contains s = true
  · rw [if_pos hc, if_pos rfl, if_pos hc]
    have hw : onceL (leafNames q.qu.p) = true ∧ bareB q.qu.p = true := by
      unfold wfE at h0
      split at h0
      · cases h0
      split at h0
      · cases h0
      split at h0
      · cases h0
      split at h0
      · cases h0
      split at h0
      · cases h0
      split at h0
      · cases h0
      split at h0
      · cases h0
      rename_i h1 h2
      refine ⟨by simpa using h1, ?_⟩
      cases hb : bareB q.qu.p with
      | true => rfl
      | false => exact absurd (.inl hb) h2
    have hln : leafNames q.qu.p = nmsL (lfL (subsT q.t)) := (nmsL_nd q.t).symm
    have hsub : (nmsL (lfL (subsT q.t))).contains s = true := by
      rw [List.contains_eq_mem] at hc ⊢
      simp only [decide_eq_true_eq] at hc ⊢
      unfold nmsL at hc ⊢
      obtain ⟨y, hy, hy2⟩ := List.mem_map.1 hc
      exact List.mem_map.2 ⟨y, (List.mem_filter.1 hy).1, hy2⟩
    have hne : s ≠ [] := fun e => by
      subst e
      rw [List.contains_eq_mem] at hc
      simp only [decide_eq_true_eq] at hc
      unfold nmsL at hc
      obtain ⟨y, hy, hy2⟩ := List.mem_map.1 hc
      have h3 := (List.mem_filter.1 hy).2
      obtain ⟨y, c⟩ := y
      cases y with
      | mk k mn mx g sk ks =>
        simp only [nmT] at hy2
        simp [nmdB, hy2] at h3
    rw [hln] at hw ⊢
    exact (lastN_find s hne _ (lfL_idx _) hw.1 (by rw [bareL_nd]; exact hw.2) hsub).2.symm
  · rw [if_neg hc, if_neg (by decide), if_neg hc]
set_option maxRecDepth 100000 in
set_option maxHeartbeats 8000000 in
theorem wNamed_any (q : GQ) (s : List UInt8) (w : World) (hq : QW w q) (hlen : (subsT q.t).length ≤ 999999) (hG : SG w) (hnu : ∀ s ∈ useL q.qu, s.length ≤ maxLen) (hsl : s.length ≤ maxLen) :
    Calls Tryd.prog 15 #[.agg q.row.toArray, .string (strOf s)] w fun e w' => e = .returned (.tuple #[.int .i64 (namedI q.qu s), .int .i64 (namedE q.qu s)]) ∧ Below w.heap.size w w' := by
  have hc := fun w1 (hb : Below w.heap.size w w1) => wcheck_any q w1 (hq.later hb) hlen (hG.later hb) hnu
  have hnum := fun (w1 : World) (hb : Below w.heap.size w w1) => numbers_any q.t w1 (hq.tr.later hb) hlen
  have hkey := wkey s hsl
  have hni := named_is q s
  have hbad : wfE q.qu ≠ 0 → namedE q.qu s = wfE q.qu ∧ namedI q.qu s = 0 := fun h => by
    have h1 : namedE q.qu s = wfE q.qu := by unfold namedE; rw [if_neg h]
    refine ⟨h1, ?_⟩
    unfold namedI
    rw [h1, if_neg h]
  obtain ⟨M, hM⟩ : ∃ M, M = nmL (lfL (subsT q.t)) := ⟨_, rfl⟩
  obtain ⟨E, hE⟩ : ∃ E, E = wfE q.qu := ⟨_, rfl⟩
  obtain ⟨rI, hrI⟩ : ∃ rI, rI = namedI q.qu s := ⟨_, rfl⟩
  obtain ⟨rE, hrE⟩ : ∃ rE, rE = namedE q.qu s := ⟨_, rfl⟩
  rw [← hM, ← hE, ← hrI, ← hrE] at hni
  rw [← hE, ← hrI, ← hrE] at hbad
  rw [← hM] at hnum
  rw [← hE] at hc
  rw [← hrI, ← hrE]
  clear hE hM hrI hrE hG hnu
  obtain ⟨T, wi, sh, hv, se, em⟩ := q
  obtain ⟨hT, hwi, hh, he, -, -⟩ := hq
  simp only at hT hh he hlen hwi
  obtain ⟨Ah, ch, rfl, hlh, -⟩ := sl_get (by decide) hh
  obtain ⟨Ae, ce, rfl, hle, -⟩ := sl_get (by decide) he
  clear hh he
  simp only at hnum hc ⊢
  have hone := hT.one
  obtain ⟨k, mn, mx, ⟨⟨kd, bd, bn, cs, nm⟩, sc⟩, sk, ks⟩ := T
  obtain ⟨-, ⟨-, hsc⟩, hsl⟩ := hone
  simp only at hsc
  obtain ⟨A1, cap1, rfl, -, -⟩ := sl_get (by decide) hsc
  obtain ⟨A, cap, rfl, -, -⟩ := sl_get (by decide) hsl
  clear hsc hsl
  clear hT hlen
  simp only [GQ.row, Tr.row, List.cons_append, List.nil_append] at hnum hc ⊢
  have HC := Lib.hid hc
  have HNUM := Lib.hid hnum
  have HKEY := Lib.hid hkey
  have HNI := Lib.hid hni
  have HBAD := Lib.hid hbad
  clear hc hnum hkey hni hbad
  obtain ⟨st, hst⟩ : ∃ st, st = strOf s := ⟨_, rfl⟩
  rw [← hst] at HKEY ⊢
  clear hst hsl
  by_cases hE : E = 0
  · obtain ⟨hI, hEE⟩ := HNI.out hE
    subst hE
    have hbx : ∀ w1, Below (w.alloc (.cells #[.int .i64 k, .int .i64 mn, .int .i64 mx, .int .i64 kd, .bool bd, .int .u64 bn, .slice A1 cs.length cap1, .string (strOf nm), .slice A ks.length cap, .int .u64 wi, .slice Ah hv.length ch, .slice Ae em.length ce] 39)).heap.size (w.alloc (.cells #[.int .i64 k, .int .i64 mn, .int .i64 mx, .int .i64 kd, .bool bd, .int .u64 bn, .slice A1 cs.length cap1, .string (strOf nm), .slice A ks.length cap, .int .u64 wi, .slice Ah hv.length ch, .slice Ae em.length ce] 39)) w1 → Blk w1 w.heap.size [.int .i64 k, .int .i64 mn, .int .i64 mx, .int .i64 kd, .bool bd, .int .u64 bn, .slice A1 cs.length cap1, .string (strOf nm), .slice A ks.length cap, .int .u64 wi, .slice Ah hv.length ch, .slice Ae em.length ce] := fun w1 hb => ((Bx.new w [.int .i64 k, .int .i64 mn, .int .i64 mx, .int .i64 kd, .bool bd, .int .u64 bn, .slice A1 cs.length cap1, .string (strOf nm), .slice A ks.length cap, .int .u64 wi, .slice Ah hv.length ch, .slice Ae em.length ce] 39).later hb).blk
    have HX := Lib.hid hbx
    have hhas := mapI_has M s
    have hat := mapI_at M s
    obtain ⟨kk, hkk⟩ : ∃ kk, kk = (nmsL M).contains s := ⟨_, rfl⟩
    rw [← hkk] at hI hEE hhas
    have HI := Lib.hid hI
    have HE2 := Lib.hid hEE
    have HHAS := Lib.hid hhas
    have HAT := Lib.hid hat
    clear hbx hI hEE hhas hat hkk HBAD HNI
    cases kk with
    | true =>
      go_enter Tryd.func15, Tryd.ntmps15
      go_wp2_with (first | (go_at_call 12; refine (HC.out _ (b1 _ _)).mono ?_; rintro e w2 ⟨rfl, hb2⟩; have z0 := (HX.out w2 hb2).cell 0 _ rfl; have z1 := (HX.out w2 hb2).cell 1 _ rfl; have z2 := (HX.out w2 hb2).cell 2 _ rfl; have z3 := (HX.out w2 hb2).cell 3 _ rfl; have z4 := (HX.out w2 hb2).cell 4 _ rfl; have z5 := (HX.out w2 hb2).cell 5 _ rfl; have z6 := (HX.out w2 hb2).cell 6 _ rfl; have z7 := (HX.out w2 hb2).cell 7 _ rfl; have z8 := (HX.out w2 hb2).cell 8 _ rfl; have zlt := (HX.out w2 hb2).lt) | (go_at_call 28; refine (HNUM.out _ (bstep (b1 _ _) hb2)).mono ?_; rintro e w3 ⟨mb, rfl, hmb, hown, hb3⟩) | (at_lookup; refine wpList_lookup_own_ok_int _ rfl _ _ 67 rfl 9 3 .i64 wkeys Tryd.underlying67 Tryd.underlying3 (zeroInt10 _) mb _ _ rfl hown _ _ rfl HKEY.out ?_; intro c hat2 hwc; rw [HHAS.out]))
      go_ret2
      refine ⟨?_, bstep (bstep (b1 _ _) hb2) hb3⟩
      rw [HAT.out] at hat2
      cases hat2
      rw [HI.out, HE2.out]
      rfl
    | false =>
      go_enter Tryd.func15, Tryd.ntmps15
      go_wp2_with (first | (go_at_call 12; refine (HC.out _ (b1 _ _)).mono ?_; rintro e w2 ⟨rfl, hb2⟩; have z0 := (HX.out w2 hb2).cell 0 _ rfl; have z1 := (HX.out w2 hb2).cell 1 _ rfl; have z2 := (HX.out w2 hb2).cell 2 _ rfl; have z3 := (HX.out w2 hb2).cell 3 _ rfl; have z4 := (HX.out w2 hb2).cell 4 _ rfl; have z5 := (HX.out w2 hb2).cell 5 _ rfl; have z6 := (HX.out w2 hb2).cell 6 _ rfl; have z7 := (HX.out w2 hb2).cell 7 _ rfl; have z8 := (HX.out w2 hb2).cell 8 _ rfl; have zlt := (HX.out w2 hb2).lt) | (go_at_call 28; refine (HNUM.out _ (bstep (b1 _ _) hb2)).mono ?_; rintro e w3 ⟨mb, rfl, hmb, hown, hb3⟩) | (at_lookup; refine wpList_lookup_own_ok_int _ rfl _ _ 67 rfl 9 3 .i64 wkeys Tryd.underlying67 Tryd.underlying3 (zeroInt10 _) mb _ _ rfl hown _ _ rfl HKEY.out ?_; intro c hat2 hwc; rw [HHAS.out]))
      go_ret2
      refine ⟨?_, bstep (bstep (b1 _ _) hb2) hb3⟩
      rw [HI.out, HE2.out]
      rfl
  · have hEb : (E == 0) = false := by simpa using hE
    obtain ⟨h1, h2⟩ := HBAD.out hE
    have H1 := Lib.hid h1
    have H2 := Lib.hid h2
    clear h1 h2 HNUM HNI HBAD
    go_enter Tryd.func15, Tryd.ntmps15
    go_wp2_with (go_at_call 12; refine (HC.out _ (b1 _ _)).mono ?_; rintro e w2 ⟨rfl, hb2⟩)
    go_ret2
    exact ⟨by rw [H1.out, H2.out]; rfl, bstep (b1 _ _) hb2⟩
end Go.Proofs.YthiacfmedcfcjaaDoor
