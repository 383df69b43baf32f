/- Walk: whether names stand where they may. Made by program (wip/tools/gen_wfL.py). -/
import Derived.Test.YtdoioaeppepndaaGreatDoorWfK
namespace Go.Proofs.YtdoioaeppepndaaGreatDoor
open Go.RowKit Go.Shelf Go.Maps
open A8 W10
attribute [local go_sem] Oper.semAt_some

theorem zeroInt10 (w : World) : (zeroValue 3).run Tryz.prog w = .ok (.int .i64 0) w := by kernel_rfl
def bareT : Tr → Bool | .mk k _ _ g _ _ => !((k == 2) && !g.a.nm.isEmpty)
def bareL (l : List (Tr × Nat)) : Bool := l.all fun x => bareT x.1
theorem bareL_app (a b : List (Tr × Nat)) : bareL (a ++ b) = (bareL a && bareL b) := List.all_append
theorem bareL_one (x : Tr × Nat) : bareL [x] = bareT x.1 := by simp [bareL]
theorem bareT_nd (t : Tr) : bareT t = !(isNotB t.nd && hasNm t.nd) := by
  cases t with
  | mk k mn mx g sk ks => rw [nd_mk]; rfl
theorem bareL_nd (T : Tr) : bareL (lfL (subsT T)) = bareB T.nd := by
  unfold bareL bareB
  exact lf_all T bareT (fun n => !(isNotB n && hasNm n)) bareT_nd
theorem namesL_nd (T : Tr) : nmsL (nmL (lfL (subsT T))) = namesN T.nd := by
  have h1 : ∀ l : List (Tr × Nat), nmsL (nmL l) = ((l.map Prod.fst).filter nmdB).map nmT := fun l => by
    unfold nmsL nmL
    rw [List.filter_map, List.map_map]
    rfl
  rw [h1, lfL_fst]
  unfold namesN
  rw [← lf_nd, List.filter_map, List.map_map]
  have h2 : (isNmd ∘ Tr.nd) = nmdB := funext fun t => by
    cases t with
    | mk k mn mx g sk ks => show isNmd (Tr.nd _) = _; rw [nd_mk]; rfl
  rw [h2]
  exact List.map_congr_left fun t _ => nmT_nd t
def knownL (ns : List (List UInt8)) (l : List (List UInt8)) : Bool := l.all fun s => ns.contains s
theorem knownL_app (ns a b : List (List UInt8)) : knownL ns (a ++ b) = (knownL ns a && knownL ns b) := List.all_append
theorem knownL_one (ns : List (List UInt8)) (x : List UInt8) : knownL ns [x] = ns.contains x := by simp [knownL]
theorem leaves_two {P : Program} {fn : Func} {tmps : Array Value} {n b B D1 D2 : Nat} {w W : World} {e : Int} (hrun : ∀ W, ResP w b e W → (results fn tmps).run P W = .ok (.int .i64 e) W) (hB : w.heap.size ≤ B)
    (h1 : B ≤ D1) (h2 : B ≤ D2) (hne : D2 ≠ D1) (k1 : W.heap[D1]? = some (.deferred (some []))) (k2 : W.heap[D2]? = some (.deferred (some []))) (h : ResP w b e W) :
    LeavesInM Fence.wide n P fn tmps (fun x w' => x = .returned (.int .i64 e) ∧ Below w.heap.size w w') [{ target := .collected D2, args := #[] }, { target := .collected D1, args := #[] }] .returning W :=
  fin_res hrun hB [D2, D1] W (by simp [hne]) (fun E hE => by
    simp only [List.mem_cons, List.not_mem_nil, or_false] at hE
    rcases hE with rfl | rfl
    · exact ⟨h2, k2⟩
    · exact ⟨h1, k1⟩) h
set_option maxRecDepth 100000 in
set_option maxHeartbeats 16000000 in
theorem checkNames_any (q : GQ) (w : World) (hq : QW w q) (hlen : (subsT q.t).length ≤ 999999) (hnu : ∀ s ∈ useL q.qu, s.length ≤ maxLen) :
    Calls Tryz.prog 109 #[.agg q.row.toArray] w fun e w' => e = .returned (.int .i64 (if bareB q.qu.p = false ∨ knownB q.qu = false then 12 else 0)) ∧ Below w.heap.size w w' := by
  have huq := fun (b : Nat) (w2 : World) (h1 : SameB w.heap.size w w2) (h2 : Bx w2 b 35 q.row) => wuses_seq w q hq b w2 h1 h2
  have hun := fun w' ho => wuses_any q w' ho
  have hnum := fun (w1 : World) (hb : Below w.heap.size w w1) => numbers_any q.t w1 (hq.tr.later hb) hlen
  obtain ⟨U, hU⟩ : ∃ U, U = useL q.qu := ⟨_, rfl⟩
  have hkn : knownB q.qu = knownL (nmsL (nmL (lfL (subsT q.t)))) U := by rw [namesL_nd, hU]; rfl
  have hba : bareB q.qu.p = bareL (lfL (subsT q.t)) := by rw [bareL_nd]; rfl
  rw [hkn, hba]
  rw [← hU] at huq hnu
  clear hkn hba hU
  obtain ⟨T, wi, sh, hv, se, em⟩ := q
  obtain ⟨hT, hwi, hh, he, -, -⟩ := hq
  simp only at hT hh he hlen hwi
  obtain ⟨Ah, ch, rfl, hlh, -⟩ := sl_get (by decide) hh
  obtain ⟨Ae, ce, rfl, hle, -⟩ := sl_get (by decide) he
  clear hh he
  simp only at huq hun hnum
  have hnd := fun w => wleaves_any T w
  have hseq := fun (b' : Nat) (w' : World) => wleaves_seq w T hT (by omega) b' w'
  have hmem : ∀ x ∈ lfL (subsT T), TrW w x.1 := fun x hx u hu => hT u (subs_trans (lf_mem hx) hu)
  obtain ⟨M, hM⟩ : ∃ M, M = nmL (lfL (subsT T)) := ⟨_, rfl⟩
  obtain ⟨L, hL⟩ : ∃ L, L = lfL (subsT T) := ⟨_, rfl⟩
  rw [← hM] at hnum ⊢
  rw [← hL] at hmem hseq ⊢
  obtain ⟨E, hE⟩ : ∃ E : Int, E = if bareL L = false ∨ knownL (nmsL M) U = false then 12 else 0 := ⟨_, rfl⟩
  rw [← hE]
  have HE := Lib.hid hE
  clear hL hE hM
  have hone := hT.one
  obtain ⟨k, mn, mx, ⟨⟨kd, bd, bn, cs, nm⟩, sc⟩, sk, ks⟩ := T
  obtain ⟨-, ⟨-, hsc⟩, hsl⟩ := hone
  simp only at hsc
  obtain ⟨A1, cap1, rfl, -, -⟩ := sl_get (by decide) hsc
  obtain ⟨A, cap, rfl, -, -⟩ := sl_get (by decide) hsl
  clear hsc hsl
  clear hT hlen
  have hun2 := fun w' => hun w' ⟨A1, A, Ah, Ae, cap1, cap, ch, ce, _, _, _, _, _, _, _, _, _, rfl, rfl, rfl, rfl⟩
  clear hun
  simp only [GQ.row, Tr.row, List.cons_append, List.nil_append] at hnd hseq huq hun2 hnum ⊢
  have HM := Lib.hid hmem
  have HQ := Lib.hid hseq
  have HUQ := Lib.hid huq
  have HNUM := Lib.hid hnum
  have HUN := Lib.hid hun2
  have HNU := Lib.hid hnu
  clear hmem hseq huq hnum hun2 hnu
  refine (callsIn_wide (n := 5)).1 ?_
  refine callsIn_of_wp_marks Tryz.func109 rfl trivial ?_ rfl
  simp only [Tryz.ntmps109, List.size_toArray, List.length_cons, List.length_nil, Nat.reduceAdd, Nat.reduceSub, Array.replicate_succ, Array.replicate_zero, List.push_toArray, List.append_toArray, List.nil_append, List.cons_append]
  have hz := fun (_ : Nat) => show (((w.alloc (.cells #[.int .i64 k, .int .i64 mn, .int .i64 mx, .int .i64 kd, .bool bd, .int .u64 bn, .slice A1 cs.length cap1, .string (strOf nm), .slice A ks.length cap, .int .u64 wi, .slice Ah hv.length ch, .slice Ae em.length ce] 35)).alloc (.cells #[.int .i64 0] 23)).alloc (.cells #[.int .i64 k, .int .i64 mn, .int .i64 mx, .int .i64 kd, .bool bd, .int .u64 bn, .slice A1 cs.length cap1, .string (strOf nm), .slice A ks.length cap] 31)).heap.size = w.heap.size + 3 ∧ ResP w (w.heap.size + 1) 0 (((w.alloc (.cells #[.int .i64 k, .int .i64 mn, .int .i64 mx, .int .i64 kd, .bool bd, .int .u64 bn, .slice A1 cs.length cap1, .string (strOf nm), .slice A ks.length cap, .int .u64 wi, .slice Ah hv.length ch, .slice Ae em.length ce] 35)).alloc (.cells #[.int .i64 0] 23)).alloc (.cells #[.int .i64 k, .int .i64 mn, .int .i64 mx, .int .i64 kd, .bool bd, .int .u64 bn, .slice A1 cs.length cap1, .string (strOf nm), .slice A ks.length cap] 31)) ∧ Bx (((w.alloc (.cells #[.int .i64 k, .int .i64 mn, .int .i64 mx, .int .i64 kd, .bool bd, .int .u64 bn, .slice A1 cs.length cap1, .string (strOf nm), .slice A ks.length cap, .int .u64 wi, .slice Ah hv.length ch, .slice Ae em.length ce] 35)).alloc (.cells #[.int .i64 0] 23)).alloc (.cells #[.int .i64 k, .int .i64 mn, .int .i64 mx, .int .i64 kd, .bool bd, .int .u64 bn, .slice A1 cs.length cap1, .string (strOf nm), .slice A ks.length cap] 31)) w.heap.size 35 [.int .i64 k, .int .i64 mn, .int .i64 mx, .int .i64 kd, .bool bd, .int .u64 bn, .slice A1 cs.length cap1, .string (strOf nm), .slice A ks.length cap, .int .u64 wi, .slice Ah hv.length ch, .slice Ae em.length ce] ∧ Bx (((w.alloc (.cells #[.int .i64 k, .int .i64 mn, .int .i64 mx, .int .i64 kd, .bool bd, .int .u64 bn, .slice A1 cs.length cap1, .string (strOf nm), .slice A ks.length cap, .int .u64 wi, .slice Ah hv.length ch, .slice Ae em.length ce] 35)).alloc (.cells #[.int .i64 0] 23)).alloc (.cells #[.int .i64 k, .int .i64 mn, .int .i64 mx, .int .i64 kd, .bool bd, .int .u64 bn, .slice A1 cs.length cap1, .string (strOf nm), .slice A ks.length cap] 31)) (w.heap.size + 1 + 1) 31 [.int .i64 k, .int .i64 mn, .int .i64 mx, .int .i64 kd, .bool bd, .int .u64 bn, .slice A1 cs.length cap1, .string (strOf nm), .slice A ks.length cap] from by
    have h1 := Bx.new w [.int .i64 k, .int .i64 mn, .int .i64 mx, .int .i64 kd, .bool bd, .int .u64 bn, .slice A1 cs.length cap1, .string (strOf nm), .slice A ks.length cap, .int .u64 wi, .slice Ah hv.length ch, .slice Ae em.length ce] 35
    have h2 := Bx.new (w.alloc (.cells #[.int .i64 k, .int .i64 mn, .int .i64 mx, .int .i64 kd, .bool bd, .int .u64 bn, .slice A1 cs.length cap1, .string (strOf nm), .slice A ks.length cap, .int .u64 wi, .slice Ah hv.length ch, .slice Ae em.length ce] 35)) [.int .i64 0] 23
    have h5 := Bx.new ((w.alloc (.cells #[.int .i64 k, .int .i64 mn, .int .i64 mx, .int .i64 kd, .bool bd, .int .u64 bn, .slice A1 cs.length cap1, .string (strOf nm), .slice A ks.length cap, .int .u64 wi, .slice Ah hv.length ch, .slice Ae em.length ce] 35)).alloc (.cells #[.int .i64 0] 23)) [.int .i64 k, .int .i64 mn, .int .i64 mx, .int .i64 kd, .bool bd, .int .u64 bn, .slice A1 cs.length cap1, .string (strOf nm), .slice A ks.length cap] 31
    simp only [World.size_alloc] at h2 h5
    exact ⟨by simp, ⟨h2.later (b1 _ _), b3 _ _ _ _⟩, (h1.later (b1 _ _)).later (b1 _ _), h5⟩
  have HZ := Lib.hid hz
  clear hz
  gi_wp2_with (refine ⟨trivial, ?_⟩; refine (callsIn_wide.2 (hnd _)).mono ?_; rintro e w' ⟨rfl, rfl⟩)
  clear hnd
  have hW3 := HZ.out 0
  obtain ⟨W3, hW3e⟩ : ∃ W3, W3 = ((w.alloc (.cells #[.int .i64 k, .int .i64 mn, .int .i64 mx, .int .i64 kd, .bool bd, .int .u64 bn, .slice A1 cs.length cap1, .string (strOf nm), .slice A ks.length cap, .int .u64 wi, .slice Ah hv.length ch, .slice Ae em.length ce] 35)).alloc (.cells #[.int .i64 0] 23)).alloc (.cells #[.int .i64 k, .int .i64 mn, .int .i64 mx, .int .i64 kd, .bool bd, .int .u64 bn, .slice A1 cs.length cap1, .string (strOf nm), .slice A ks.length cap] 31) := ⟨_, rfl⟩
  rw [← hW3e] at hW3
  rw [← hW3e]
  obtain ⟨hsz3, hR3, hB3, hN3⟩ := hW3
  have hseq := HQ.out (w.heap.size + 1 + 1) W3 (SameB.of hR3.2) hN3
  clear hW3e HQ hN3 HZ
  refine wpIn_range_own (gf := 121) (lb := #[.pointer (some ⟨w.heap.size + 1 + 1, 0, none⟩)]) rfl (enters_of Tryz.func121 (by kernel_rfl) rfl)
    hseq (by omega) (Below.refl _ _) (fun _ => rfl)
    (fun pre Wx => bareL pre = true ∧ ResP w (w.heap.size + 1) 0 Wx ∧ Bx Wx w.heap.size 35 [.int .i64 k, .int .i64 mn, .int .i64 mx, .int .i64 kd, .bool bd, .int .u64 bn, .slice A1 cs.length cap1, .string (strOf nm), .slice A ks.length cap, .int .u64 wi, .slice Ah hv.length ch, .slice Ae em.length ce])
    (fun pre Wx => bareL pre = false ∧ ResP w (w.heap.size + 1) 12 Wx)
    ?hI ?hIx ?h0 (fun x act Wx => ∃ b5, w.heap.size + 1 < b5 ∧ Bx Wx b5 31 x.1.row ∧ act = { tmps := #[.agg #[.int .i64 k, .int .i64 mn, .int .i64 mx, .int .i64 kd, .bool bd, .int .u64 bn, .slice A1 cs.length cap1, .string (strOf nm), .slice A ks.length cap, .int .u64 wi, .slice Ah hv.length ch, .slice Ae em.length ce], .pointer (some ⟨w.heap.size, 0, none⟩), .pointer (some ⟨w.heap.size + 1, 0, none⟩), undef, .pointer (some ⟨b5, 0, none⟩), undef, undef, undef, undef, .pointer (some ⟨w.heap.size, 0, none⟩), .agg #[.int .i64 k, .int .i64 mn, .int .i64 mx, .int .i64 kd, .bool bd, .int .u64 bn, .slice A1 cs.length cap1, .string (strOf nm), .slice A ks.length cap], .func (.func 121) #[] #[.pointer (some ⟨w.heap.size + 1 + 1, 0, none⟩)], .int .i64 (x.2 : Int), .agg x.1.row.toArray, undef, undef, undef, undef, undef, undef, undef, undef, undef, undef, undef, undef, undef, undef, undef, undef, undef, undef, undef, undef, undef, undef], defers := [] }) ?hA ?assign ?body ?done ?stop
  case hI =>
    rintro s Wx Wy ⟨g0, g1, g2⟩ ht
    exact ⟨g0, g1.turn ht (by omega), bx_turn g2 ht (.inl (by omega))⟩
  case hIx =>
    rintro s Wx Wy ⟨g0, g1⟩ ht
    exact ⟨g0, g1.turn ht (by omega)⟩
  case h0 => exact ⟨rfl, hR3, hB3⟩
  case hA =>
    rintro x act s Wx Wy row ⟨b5, h1, h2, h3⟩ hg hr
    exact ⟨b5, h1, bx_noncells h2 hg (fun j e => (hr j e).2), h3⟩
  case assign =>
    intro l2 pre x Wx K hp hsz hi hK
    have ho := (HM.out x (hp.subset (by simp))).one
    obtain ⟨x, c⟩ := x
    obtain ⟨k2, mn2, mx2, ⟨⟨kd2, bd2, bn2, cs2, nm2⟩, sc2⟩, sk2, ks2⟩ := x
    obtain ⟨-, ⟨-, e1⟩, e2⟩ := ho
    simp only at e1
    obtain ⟨A5, c5, rfl, hcl, -⟩ := sl_get (by decide) e1
    obtain ⟨A6, c6, rfl, hkl, -⟩ := sl_get (by decide) e2
    simp only [Tr.row] at hK ⊢
    clear e1 e2 hi hseq
    gi_wp2
    exact hK _ _ ⟨Wx.heap.size, by omega, Bx.new _ _ _, rfl⟩ (b1 _ _)
  case body =>
    rintro l2 pre x act Wx hp hsz ⟨g0, g1, g2⟩ ⟨b5, hb5l, hb5, rfl⟩
    have ho := (HM.out x (hp.subset (by simp))).one
    have hrs : bareL (pre ++ [x]) = bareT x.1 := by rw [bareL_app, g0, bareL_one]; rfl
    have hin := fun w => isNot_any x.1 w
    obtain ⟨xs, hxs⟩ : ∃ xs, xs = pre ++ [x] := ⟨_, rfl⟩
    rw [← hxs] at hrs ⊢
    clear hxs hp g0
    obtain ⟨x, c⟩ := x
    obtain ⟨k2, mn2, mx2, ⟨⟨kd2, bd2, bn2, cs2, nm2⟩, sc2⟩, sk2, ks2⟩ := x
    obtain ⟨-, ⟨-, e1⟩, e2⟩ := ho
    simp only at e1
    obtain ⟨A5, c5, rfl, hcl, -⟩ := sl_get (by decide) e1
    obtain ⟨A6, c6, rfl, hkl, -⟩ := sl_get (by decide) e2
    simp only [Tr.row, bareT, nd_mk, isNotB, Nd.kind] at hb5 hrs hin ⊢
    clear e1 e2 hseq
    have hK5 := hb5.blk
    have d0 := hK5.cell 0 _ rfl
    have d1 := hK5.cell 1 _ rfl
    have d2 := hK5.cell 2 _ rfl
    have d3 := hK5.cell 3 _ rfl
    have d4 := hK5.cell 4 _ rfl
    have d5 := hK5.cell 5 _ rfl
    have d6 := hK5.cell 6 _ rfl
    have d7 := hK5.cell 7 _ rfl
    have d8 := hK5.cell 8 _ rfl
    have HR := Lib.hid hrs
    have G1 := Lib.hid g1
    have G2 := Lib.hid g2
    have HB5 := Lib.hid hb5
    have hcell : ∀ W4, Below Wx.heap.size Wx W4 → W4.cell? ⟨b5, 7, none⟩ = some (.string (strOf nm2)) ∧ W4.cell? ⟨w.heap.size + 1, 0, none⟩ = some (.int .i64 0) ∧ W4.frozen? ⟨w.heap.size + 1, 0, none⟩ = false := fun W4 hb => ⟨(HB5.out.later hb).blk.cell 7 _ rfl, (G1.out.later hb).cell, (G1.out.later hb).fr⟩
    clear hK5 hb5 hrs g1 g2
    by_cases h2 : k2 = 2
    · rw [decide_eq_true h2] at hin
      have hkk : (k2 == 2) = true := by simpa using h2
      rw [hkk] at HR
      clear h2 hkk
      cases nm2 with
      | nil =>
        have HR2 := Lib.hid (show bareL xs = true by rw [HR.out]; rfl)
        have hse : (strOf ([] : List UInt8)).toList.isEmpty = true := by rw [strOf_toL]; rfl
        have hse2 : (strOf ([] : List UInt8)).toList = [] := by rw [strOf_toL]
        clear HR
        gi_wp2_with (refine ⟨trivial, ?_⟩; refine (callsIn_wide.2 (hin _)).mono ?_; rintro e W4 ⟨rfl, hb4⟩; obtain ⟨z1, z2, z3⟩ := hcell W4 hb4; clear hcell)
        exact ⟨KeepW.of hb4, HR2.out, G1.out.later hb4, G2.out.later hb4⟩
      | cons q qs =>
        have HR2 := Lib.hid (show bareL xs = false by rw [HR.out]; rfl)
        obtain ⟨st, hst⟩ : ∃ st, st = strOf (q :: qs) := ⟨_, rfl⟩
        have hse : st.toList.isEmpty = false := by rw [hst, strOf_toL]; rfl
        have hse2 : ¬ st.toList = [] := by rw [hst, strOf_toL]; simp
        rw [← hst] at d7 hcell hin ⊢
        clear HR hst
        gi_wp2_with (refine ⟨trivial, ?_⟩; refine (callsIn_wide.2 (hin _)).mono ?_; rintro e W4 ⟨rfl, hb4⟩; obtain ⟨z1, z2, z3⟩ := hcell W4 hb4; clear hcell)
        exact ⟨(KeepsFrom.of_below hb4).trans (KeepsFrom.setCell _ _ _ _), HR2.out, (G1.out.later hb4).set (by omega) 12⟩
    · rw [decide_eq_false h2] at hin
      have hkk : (k2 == 2) = false := by simpa using h2
      have HR2 := Lib.hid (show bareL xs = true by rw [HR.out, hkk]; rfl)
      clear h2 hkk HR
      gi_wp2_with (refine ⟨trivial, ?_⟩; refine (callsIn_wide.2 (hin _)).mono ?_; rintro e W4 ⟨rfl, hb4⟩; obtain ⟨z1, z2, z3⟩ := hcell W4 hb4; clear hcell)
      exact ⟨KeepW.of hb4, HR2.out, G1.out.later hb4, G2.out.later hb4⟩
  case done =>
    rintro D Wx hD ⟨g0, g1, g2⟩ hKd
    clear hseq
    have HEE : RowKit.Hid (E = if knownL (nmsL M) U = true then 0 else 12) := Lib.hid (by rw [HE.out, g0]; cases knownL (nmsL M) U <;> simp)
    have HD := Lib.hid hKd
    have G1 := Lib.hid g1
    have G2 := Lib.hid g2
    have hcl : ∀ w1, Below Wx.heap.size Wx w1 → ∀ i v, [.int .i64 k, .int .i64 mn, .int .i64 mx, .int .i64 kd, .bool bd, .int .u64 bn, .slice A1 cs.length cap1, .string (strOf nm), .slice A ks.length cap, .int .u64 wi, .slice Ah hv.length ch, .slice Ae em.length ce][i]? = some v → w1.cell? ⟨w.heap.size, i, none⟩ = some v := fun w1 hb => (g2.later hb).blk.cell
    have hnum := fun w1 (hb : Below Wx.heap.size Wx w1) => HNUM.out w1 (bstep g1.2 hb)
    have HCL := Lib.hid hcl
    have hDW : D < Wx.heap.size := (Array.getElem?_eq_some_iff.1 hKd).1
    have hb00 := Below.refl Wx.heap.size Wx
    have z0 := HCL.out Wx hb00 0 _ rfl
    have z1 := HCL.out Wx hb00 1 _ rfl
    have z2 := HCL.out Wx hb00 2 _ rfl
    have z3 := HCL.out Wx hb00 3 _ rfl
    have z4 := HCL.out Wx hb00 4 _ rfl
    have z5 := HCL.out Wx hb00 5 _ rfl
    have z6 := HCL.out Wx hb00 6 _ rfl
    have z7 := HCL.out Wx hb00 7 _ rfl
    have z8 := HCL.out Wx hb00 8 _ rfl
    have hcl2 := fun w1 (hb : Below Wx.heap.size Wx w1) (o : Obj) => (show Below Wx.heap.size Wx (w1.alloc o) from bstep hb (b1 _ _))
    clear g0 g1 g2 hKd HE hcl
    gi_upto_region 6 with (refine ⟨trivial, ?_⟩; refine (callsIn_wide.2 (hnum _ hb00)).mono ?_; rintro e w5 ⟨mb, rfl, hmb, hown, hb5⟩)
    clear hnum z0 z1 z2 z3 z4 z5 z6 z7 z8
    obtain ⟨W6, hW6⟩ : ∃ W6, W6 = w5.alloc (.cells #[.map (some mb)] 134) := ⟨_, rfl⟩
    rw [show w5.alloc (.cells #[.map (some mb)] 134) = W6 from hW6.symm]
    have hb6 : Below Wx.heap.size Wx W6 := hW6 ▸ bstep hb5 (b1 _ _)
    have hsz6 : W6.heap.size = w5.heap.size + 1 := by rw [hW6]; simp
    have hmb6 : Bx W6 w5.heap.size 134 [.map (some mb)] := hW6 ▸ Bx.new w5 [.map (some mb)] 134
    have hown6 := owns_below hown (hW6 ▸ b1 _ _ : Below w5.heap.size w5 W6)
    have hmlt : mb < w5.heap.size := hown.lt
    have hs5 : Wx.heap.size ≤ w5.heap.size := hb5.size
    have hwx : w.heap.size + 2 ≤ Wx.heap.size := by have h1 := G1.out.1.lt; omega
    have hD6 := (hb6.block D hDW).trans HD.out
    have hR6 := G1.out.later hb6
    clear hW6 hown hb5 hcl2
    have z0 := HCL.out W6 hb6 0 _ rfl
    have z1 := HCL.out W6 hb6 1 _ rfl
    have z2 := HCL.out W6 hb6 2 _ rfl
    have z3 := HCL.out W6 hb6 3 _ rfl
    have z4 := HCL.out W6 hb6 4 _ rfl
    have z5 := HCL.out W6 hb6 5 _ rfl
    have z6 := HCL.out W6 hb6 6 _ rfl
    have z7 := HCL.out W6 hb6 7 _ rfl
    have z8 := HCL.out W6 hb6 8 _ rfl
    have z9 := HCL.out W6 hb6 9 _ rfl
    have z10 := HCL.out W6 hb6 10 _ rfl
    have z11 := HCL.out W6 hb6 11 _ rfl
    have hun2 := HUN.out W6
    have HM6 := Lib.hid hmb6
    have HO6 := Lib.hid hown6
    have HD6 := Lib.hid hD6
    have HR6 := Lib.hid hR6
    clear hmb6 hown6 hD6 hR6
    gi_wp2_with (refine ⟨trivial, ?_⟩; refine (callsIn_wide.2 hun2).mono ?_; rintro e w' ⟨rfl, rfl⟩)
    clear z0 z1 z2 z3 z4 z5 z6 z7 z8 z9 z10 z11 hun2 HCL HD
    obtain ⟨W7, hW7⟩ : ∃ W7, W7 = W6.alloc (.cells #[.int .i64 k, .int .i64 mn, .int .i64 mx, .int .i64 kd, .bool bd, .int .u64 bn, .slice A1 cs.length cap1, .string (strOf nm), .slice A ks.length cap, .int .u64 wi, .slice Ah hv.length ch, .slice Ae em.length ce] 35) := ⟨_, rfl⟩
    rw [← hW7]
    have hb7 : Below W6.heap.size W6 W7 := hW7 ▸ b1 _ _
    have hsz7 : W7.heap.size = w5.heap.size + 2 := by rw [hW7]; simp [hsz6]
    have hq7 : Bx W7 (w5.heap.size + 1) 35 [.int .i64 k, .int .i64 mn, .int .i64 mx, .int .i64 kd, .bool bd, .int .u64 bn, .slice A1 cs.length cap1, .string (strOf nm), .slice A ks.length cap, .int .u64 wi, .slice Ah hv.length ch, .slice Ae em.length ce] := by
      have h := Bx.new W6 [.int .i64 k, .int .i64 mn, .int .i64 mx, .int .i64 kd, .bool bd, .int .u64 bn, .slice A1 cs.length cap1, .string (strOf nm), .slice A ks.length cap, .int .u64 wi, .slice Ah hv.length ch, .slice Ae em.length ce] 35
      rw [hsz6] at h
      rw [hW7]
      exact h
    have hR7 := HR6.out.later hb7
    have hseq2 := HUQ.out (w5.heap.size + 1) W7 (SameB.of hR7.2) hq7
    clear hW7 HUQ hq7
    refine wpIn_range_own (gf := 119) (lb := #[.pointer (some ⟨w5.heap.size + 1, 0, none⟩)]) rfl (enters_of Tryz.func119 (by kernel_rfl) rfl)
      hseq2 (by omega) (Below.refl _ _) (fun _ => rfl)
      (fun pre Wy => knownL (nmsL M) pre = true ∧ ResP w (w.heap.size + 1) 0 Wy ∧ Wy.ownsMap Tryz.prog 9 (plainElem Tryz.prog 3) mb M.length (mapI M) ∧ Bx Wy w5.heap.size 134 [.map (some mb)] ∧ Wy.heap[D]? = some (.deferred (some [])))
      (fun pre Wy => knownL (nmsL M) pre = false ∧ ResP w (w.heap.size + 1) 12 Wy ∧ Wy.heap[D]? = some (.deferred (some [])))
      ?hI2 ?hIx2 ?h02 (fun x act Wy => act = { tmps := #[.agg #[.int .i64 k, .int .i64 mn, .int .i64 mx, .int .i64 kd, .bool bd, .int .u64 bn, .slice A1 cs.length cap1, .string (strOf nm), .slice A ks.length cap, .int .u64 wi, .slice Ah hv.length ch, .slice Ae em.length ce], .pointer (some ⟨w.heap.size, 0, none⟩), .pointer (some ⟨w.heap.size + 1, 0, none⟩), undef, undef, .pointer (some ⟨w5.heap.size, 0, none⟩), .string (strOf x), undef, undef, .pointer (some ⟨w.heap.size, 0, none⟩), .agg #[.int .i64 k, .int .i64 mn, .int .i64 mx, .int .i64 kd, .bool bd, .int .u64 bn, .slice A1 cs.length cap1, .string (strOf nm), .slice A ks.length cap], .func (.func 121) #[] #[.pointer (some ⟨w.heap.size + 1 + 1, 0, none⟩)], undef, undef, undef, undef, undef, undef, undef, undef, undef, undef, .pointer (some ⟨w.heap.size, 0, none⟩), .agg #[.int .i64 k, .int .i64 mn, .int .i64 mx, .int .i64 kd, .bool bd, .int .u64 bn, .slice A1 cs.length cap1, .string (strOf nm), .slice A ks.length cap], .map (some mb), .agg #[.int .i64 k, .int .i64 mn, .int .i64 mx, .int .i64 kd, .bool bd, .int .u64 bn, .slice A1 cs.length cap1, .string (strOf nm), .slice A ks.length cap, .int .u64 wi, .slice Ah hv.length ch, .slice Ae em.length ce], .func (.func 119) #[] #[.pointer (some ⟨w5.heap.size + 1, 0, none⟩)], .string (strOf x), undef, undef, undef, undef, undef, undef, undef, undef], defers := [] }) ?hA2 ?assign2 ?body2 ?done2 ?stop2
    case hI2 =>
      rintro s Wy Wz ⟨g0, g1, g2, g3, g4⟩ ht
      exact ⟨g0, g1.turn ht (by omega), owns_turn g2 ht (by omega), bx_turn g3 ht (.inl (by omega)), ht.same _ _ g4 (.inl (by omega))⟩
    case hIx2 =>
      rintro s Wy Wz ⟨g0, g1, g2⟩ ht
      exact ⟨g0, g1.turn ht (by omega), ht.same _ _ g2 (.inl (by omega))⟩
    case h02 => exact ⟨rfl, hR7, owns_below HO6.out hb7, HM6.out.later hb7, (hb7.block D (by omega)).trans HD6.out⟩
    case hA2 =>
      rintro x act s Wy Wz row h3 hg hr
      exact h3
    case assign2 =>
      intro l2 pre x Wy K hp hsz hi hK
      clear hi hseq2
      gi_wp2
      exact hK _ _ rfl (Below.refl _ _)
    case body2 =>
      rintro l2 pre x act Wy hp hsz ⟨g0, g1, g2, g3, g4⟩ rfl
      have hrs : knownL (nmsL M) (pre ++ [x]) = (nmsL M).contains x := by rw [knownL_app, g0, knownL_one]; rfl
      have hkey := wkey x (HNU.out x (hp.subset (by simp)))
      have hhas := mapI_has M x
      obtain ⟨xs, hxs⟩ : ∃ xs, xs = pre ++ [x] := ⟨_, rfl⟩
      obtain ⟨kk, hkk⟩ : ∃ kk, kk = (nmsL M).contains x := ⟨_, rfl⟩
      rw [← hxs] at hrs ⊢
      rw [← hkk] at hrs hhas
      have m1 := g3.blk.cell 0 _ rfl
      have r1 := g1.cell
      have r2 := g1.fr
      have HRS := Lib.hid hrs
      have HKEY := Lib.hid hkey
      have HHAS := Lib.hid hhas
      have G2 := Lib.hid g2
      have G1' := Lib.hid g1
      have G3 := Lib.hid g3
      have G4 := Lib.hid g4
      clear hxs hp g0 hkk hrs hkey hhas g1 g2 g3 g4 hseq2
      cases kk with
      | true =>
        gi_wp2_with (gi_at_lookup; refine wpListIn_lookup_own_ok_int _ rfl _ _ 134 rfl 9 3 .i64 wkeys Tryz.underlying134 Tryz.underlying3 (zeroInt10 _) mb _ _ rfl G2.out _ _ rfl HKEY.out ?_; intro c hat hwc; rw [HHAS.out])
        exact ⟨KeepW.refl _ _, HRS.out, G1'.out, G2.out, G3.out, G4.out⟩
      | false =>
        gi_wp2_with (gi_at_lookup; refine wpListIn_lookup_own_ok_int _ rfl _ _ 134 rfl 9 3 .i64 wkeys Tryz.underlying134 Tryz.underlying3 (zeroInt10 _) mb _ _ rfl G2.out _ _ rfl HKEY.out ?_; intro c hat hwc; rw [HHAS.out])
        exact ⟨KeepsFrom.setCell _ _ _ _, HRS.out, G1'.out.set (by omega) 12, def_set G4.out⟩
    case done2 =>
      rintro D2 Wy hD2 ⟨g0, g1, g2, g3, g4⟩ hKd
      clear hseq2
      have he : E = 0 := by rw [HEE.out, if_pos g0]
      have HH := Lib.hid he
      clear he
      have HG := Lib.hid g1
      have r1 := g1.cell
      have r2 := g1.fr
      have HD := Lib.hid hKd
      have HD1 := Lib.hid g4
      clear g1 hKd g0 g2 g3 g4
      gi_wp2
      exact leaves_two (fun W h => by simp [results, Tryz.f109, go_sem, h.cell]) (Nat.le_refl _) (show w.heap.size ≤ D by omega) (show w.heap.size ≤ D2 by omega) (by omega) (def_set HD1.out) (def_set HD.out) ((HG.out.set (by omega) 0).eq HH.out)
    case stop2 =>
      rintro D2 pre Wy hD2 hp ⟨g0, g1, g4⟩ hKd
      clear hseq2
      have he : E = 12 := by
        rw [HEE.out, if_neg]
        intro h
        obtain ⟨r, rfl⟩ := hp
        rw [knownL_app, g0] at h
        cases h
      have HH := Lib.hid he
      clear he g0 hp
      gi_wp2
      exact leaves_two (fun W h => by simp [results, Tryz.f109, go_sem, h.cell]) (Nat.le_refl _) (show w.heap.size ≤ D by omega) (show w.heap.size ≤ D2 by omega) (by omega) g4 hKd (g1.eq HH.out)
  case stop =>
    rintro D pre Wx hD hp ⟨g0, g1⟩ hKd
    clear hseq
    have he : E = 12 := by
      rw [HE.out, if_pos]
      left
      obtain ⟨r, rfl⟩ := hp
      rw [bareL_app, g0]
      rfl
    have HH := Lib.hid he
    clear he g0 hp
    gi_wp2
    exact fin_one (fun W h => by simp [results, Tryz.f109, go_sem, h.cell]) (Nat.le_refl _) (show w.heap.size ≤ D by omega) hKd (g1.eq HH.out)
end Go.Proofs.YtdoioaeppepndaaGreatDoor
