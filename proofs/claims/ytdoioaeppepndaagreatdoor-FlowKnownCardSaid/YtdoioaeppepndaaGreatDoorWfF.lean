/- Walk: whether there is more of anything than a query may have. Made by program (wip/tools/gen_wfF.py). -/
import Derived.Test.YtdoioaeppepndaaGreatDoorWfE
import Derived.Test.YtdoioaeppepndaaGreatDoorWfD
namespace Go.Proofs.YtdoioaeppepndaaGreatDoor
open Go.RowKit Go.Shelf
open A8 W10
attribute [local go_sem] Oper.semAt_some

/-- What stands behind a function whose result lies in a box: the error there, and nothing turned below. -/
def ResP (w : World) (b : Nat) (e : Int) (W : World) : Prop := Bx W b 23 [.int .i64 e] ∧ Below w.heap.size w W
theorem ResP.turn {w W W' : World} {b B : Nat} {e : Int} (h : ResP w b e W) (ht : Turn 3 B W W') (hB : w.heap.size ≤ B) : ResP w b e W' := ⟨bx_turn h.1 ht (.inr (by decide)), ht.below h.2 hB (Nat.le_refl _)⟩
theorem ResP.later {w W W' : World} {b : Nat} {e : Int} (h : ResP w b e W) (hb : Below W.heap.size W W') : ResP w b e W' := ⟨h.1.later hb, bstep h.2 hb⟩
theorem ResP.set {w W : World} {b : Nat} {e : Int} (h : ResP w b e W) (hb : w.heap.size ≤ b) (e' : Int) : ResP w b e' (W.setCell ⟨b, 0, none⟩ (.int .i64 e')) := ⟨bx_set h.1 _, h.2.setCell (p := ⟨b, 0, none⟩) hb _⟩
theorem ResP.other {w W : World} {b c : Nat} {e : Int} (h : ResP w b e W) (hb : w.heap.size ≤ c) (hc : c ≠ b) (v : Value) : ResP w b e (W.setCell ⟨c, 0, none⟩ v) := ⟨bx_other h.1 (by simpa using hc) _, h.2.setCell (p := ⟨c, 0, none⟩) hb _⟩
theorem ResP.eq {w W : World} {b : Nat} {e e' : Int} (h : ResP w b e W) (he : e' = e) : ResP w b e' W := by rw [he]; exact h
theorem def_set {W : World} {D : Nat} {p : Addr} {v : Value} (h : W.heap[D]? = some (.deferred (some []))) : (W.setCell p v).heap[D]? = some (.deferred (some [])) := (KeepsOthers.setCell W p v).same D _ h rfl
theorem ResP.cell {w W : World} {b : Nat} {e : Int} (h : ResP w b e W) : W.cell? ⟨b, 0, none⟩ = some (.int .i64 e) := h.1.blk.cell 0 _ rfl
theorem ResP.fr {w W : World} {b : Nat} {e : Int} (h : ResP w b e W) : W.frozen? ⟨b, 0, none⟩ = false := h.1.blk.fr 0 _ rfl

/-- The way out of a function whose result lies in a box. -/
theorem fin_res {P : Program} {fn : Func} {tmps : Array Value} {n b B : Nat} {w : World} {e : Int} (hrun : ∀ W, ResP w b e W → (results fn tmps).run P W = .ok (.int .i64 e) W) (hB : w.heap.size ≤ B)
    (Ds : List Nat) (W : World) (hn : Ds.Nodup) (hm : ∀ D ∈ Ds, B ≤ D ∧ W.heap[D]? = some (.deferred (some []))) (h : ResP w b e W) :
    LeavesInM Fence.wide n P fn tmps (fun x w' => x = .returned (.int .i64 e) ∧ Below w.heap.size w w') (Ds.map fun D => { target := .collected D, args := #[] }) .returning W :=
  leaves_marks (t := 3) (B := B) (ResP w b e) (fun _ _ h ht => h.turn ht hB) (fun W h => ⟨_, hrun W h, rfl, h.2⟩) Ds W hn hm h
theorem fin_one {P : Program} {fn : Func} {tmps : Array Value} {n b B : Nat} {w : World} {e : Int} (hrun : ∀ W, ResP w b e W → (results fn tmps).run P W = .ok (.int .i64 e) W) (hB : w.heap.size ≤ B)
    {D : Nat} {W : World} (hD : B ≤ D) (hk : W.heap[D]? = some (.deferred (some []))) (h : ResP w b e W) :
    LeavesInM Fence.wide n P fn tmps (fun x w' => x = .returned (.int .i64 e) ∧ Below w.heap.size w w') [{ target := .collected D, args := #[] }] .returning W :=
  fin_res hrun hB [D] W (by simp) (fun E hE => by rw [List.mem_singleton] at hE; subst hE; exact ⟨hD, hk⟩) h
theorem fin_none {P : Program} {fn : Func} {tmps : Array Value} {n b : Nat} {w : World} {e : Int} (hrun : ∀ W, ResP w b e W → (results fn tmps).run P W = .ok (.int .i64 e) W)
    {W : World} (h : ResP w b e W) :
    LeavesInM Fence.wide n P fn tmps (fun x w' => x = .returned (.int .i64 e) ∧ Below w.heap.size w w') [] .returning W :=
  fin_res (B := w.heap.size) hrun (Nat.le_refl _) [] W (by simp) (fun E hE => by cases hE) h
def wideT : Tr → Bool | .mk _ _ _ g _ ks => decide (8 < ks.length) || decide (4 < g.a.cs.length)
def roomT (l : List Tr) : Bool := l.any wideT || decide (12 < (l.filter lfB).length)
theorem lfB_nd (t : Tr) : lfB t = leafB t.nd := by
  cases t with
  | mk k mn mx g sk ks => rw [nd_mk]; cases ks <;> rfl
theorem wideT_nd (t : Tr) : wideT t = wideB t.nd := by
  cases t with
  | mk k mn mx g sk ks => rw [nd_mk]; show _ = (decide (8 < (ks.map Tr.nd).length) || decide (4 < g.a.cs.length)); rw [List.length_map]; rfl
theorem subs_nd10 (T : Tr) : (subsT T).map Tr.nd = subsN T.nd := by
  refine Tr.ind (P := fun T => (subsT T).map Tr.nd = subsN T.nd) (fun k mn mx g sk ks ih => ?_) T
  have hl : ∀ l : List Nd, subsL l = l.flatMap subsN := fun l => by
    induction l with
    | nil => rfl
    | cons n ns ih => rw [subsL, ih, List.flatMap_cons]
  have hf : ∀ l : List Tr, (∀ t ∈ l, (subsT t).map Tr.nd = subsN t.nd) → (l.flatMap subsT).map Tr.nd = (l.map Tr.nd).flatMap subsN := fun l => by
    induction l with
    | nil => intro _; rfl
    | cons n ns ih =>
      intro h
      rw [List.flatMap_cons, List.map_append, h n (by simp), ih fun t ht => h t (by simp [ht])]
      rfl
  rw [subsT, subsTL_flat, nd_mk, subsN, hl, List.map_cons, nd_mk, hf ks ih]
theorem roomT_nd (T : Tr) : roomT (subsT T) = roomL (subsN T.nd) := by
  unfold roomT roomL
  rw [← subs_nd10, List.any_map, List.filter_map, List.length_map]
  have h1 : (wideB ∘ Tr.nd) = wideT := funext fun t => (wideT_nd t).symm
  have h2 : (leafB ∘ Tr.nd) = lfB := funext fun t => (lfB_nd t).symm
  rw [h1, h2]
theorem roomT_mono {a b : List Tr} (h : a <+: b) (ha : roomT a = true) : roomT b = true := by
  obtain ⟨r, rfl⟩ := h
  unfold roomT at ha ⊢
  rw [Bool.or_eq_true] at ha ⊢
  rcases ha with ha | ha
  · exact .inl (by rw [List.any_append, ha]; rfl)
  · refine .inr ?_
    rw [decide_eq_true_eq] at ha ⊢
    rw [List.filter_append, List.length_append]
    omega
theorem roomT_snoc (a : List Tr) (x : Tr) (ha : roomT a = false) : roomT (a ++ [x]) = (wideT x || decide (12 < ((a ++ [x]).filter lfB).length)) := by
  unfold roomT at ha ⊢
  rw [Bool.or_eq_false_iff] at ha
  rw [List.any_append, ha.1]
  simp
set_option maxRecDepth 100000 in
set_option maxHeartbeats 8000000 in
theorem checkRoom_any (q : GQ) (w : World) (hq : QW w q) (hlen : (subsT q.t).length ≤ 999999) :
    Calls Tryz.prog 104 #[.agg q.row.toArray] w fun e w' => e = .returned (.int .i64 (if fullB q.qu = true then 6 else 0)) ∧ Below w.heap.size w w' := by
  obtain ⟨T, wi, sh, hv, se, em⟩ := q
  obtain ⟨hT, hwi, hh, he, -, -⟩ := hq
  simp only at hT hh he hlen hwi
  obtain ⟨Ah, ch, rfl, hlh, -⟩ := sl_get (by decide) hh
  obtain ⟨Ae, ce, rfl, hle, -⟩ := sl_get (by decide) he
  clear hh he
  have hfull : fullB (GQ.qu ⟨T, wi, .slice Ah hv.length ch, hv, .slice Ae em.length ce, em⟩) = (decide (4 < hv.length) || decide (4 < em.length) || roomT (subsT T)) := by rw [roomT_nd]; rfl
  rw [hfull]
  clear hfull
  obtain ⟨E, hE⟩ : ∃ E : Int, E = if (decide (4 < hv.length) || decide (4 < em.length) || roomT (subsT T)) = true then 6 else 0 := ⟨_, rfl⟩
  rw [← hE]
  have hnd := fun w => wnodes_any T w
  have hseq := fun (b' : Nat) (w' : World) => wnodes_seq w T hT b' w'
  have hmem : ∀ x ∈ subsT T, TrW w x := fun x hx u hu => hT u (subs_trans hx hu)
  obtain ⟨L, hL⟩ : ∃ L, L = subsT T := ⟨_, rfl⟩
  rw [← hL] at hmem hseq hlen hE
  have HT := hT
  have HE := Lib.hid hE
  clear hL hE
  have hone := hT.one
  obtain ⟨k, mn, mx, ⟨⟨kd, bd, bn, cs, nm⟩, sc⟩, sk, ks⟩ := T
  obtain ⟨-, ⟨-, hsc⟩, hsl⟩ := hone
  simp only at hsc
  obtain ⟨A1, cap1, rfl, -, -⟩ := sl_get (by decide) hsc
  obtain ⟨A, cap, rfl, -, -⟩ := sl_get (by decide) hsl
  clear hsc hsl
  clear HT hT
  simp only [GQ.row, Tr.row, List.cons_append, List.nil_append] at hnd hseq ⊢
  have HM := Lib.hid hmem
  have HQ := Lib.hid hseq
  clear hmem hseq
  refine (callsIn_wide (n := 5)).1 ?_
  refine callsIn_of_wp_marks Tryz.func104 rfl trivial ?_ rfl
  simp only [Tryz.ntmps104, List.size_toArray, List.length_cons, List.length_nil, Nat.reduceAdd, Nat.reduceSub, Array.replicate_succ, Array.replicate_zero, List.push_toArray, List.append_toArray, List.nil_append, List.cons_append]
  have hout := fun e => show (w.alloc (.cells #[.int .i64 k, .int .i64 mn, .int .i64 mx, .int .i64 kd, .bool bd, .int .u64 bn, .slice A1 cs.length cap1, .string (strOf nm), .slice A ks.length cap, .int .u64 wi, .slice Ah hv.length ch, .slice Ae em.length ce] 35)).heap.size = w.heap.size + 1 ∧ ResP w (w.heap.size + 1) e ((w.alloc (.cells #[.int .i64 k, .int .i64 mn, .int .i64 mx, .int .i64 kd, .bool bd, .int .u64 bn, .slice A1 cs.length cap1, .string (strOf nm), .slice A ks.length cap, .int .u64 wi, .slice Ah hv.length ch, .slice Ae em.length ce] 35)).alloc (.cells #[.int .i64 e] 23)) from
    ⟨by simp, by have := Bx.new (w.alloc (.cells #[.int .i64 k, .int .i64 mn, .int .i64 mx, .int .i64 kd, .bool bd, .int .u64 bn, .slice A1 cs.length cap1, .string (strOf nm), .slice A ks.length cap, .int .u64 wi, .slice Ah hv.length ch, .slice Ae em.length ce] 35)) [.int .i64 e] 23; rw [World.size_alloc] at this; exact this, b2 _ _ _⟩
  have HO := Lib.hid hout
  have hz := fun (_ : Nat) => show ((((w.alloc (.cells #[.int .i64 k, .int .i64 mn, .int .i64 mx, .int .i64 kd, .bool bd, .int .u64 bn, .slice A1 cs.length cap1, .string (strOf nm), .slice A ks.length cap, .int .u64 wi, .slice Ah hv.length ch, .slice Ae em.length ce] 35)).alloc (.cells #[.int .i64 0] 23)).alloc (.cells #[.int .i64 0] 3)).alloc (.cells #[.int .i64 k, .int .i64 mn, .int .i64 mx, .int .i64 kd, .bool bd, .int .u64 bn, .slice A1 cs.length cap1, .string (strOf nm), .slice A ks.length cap] 31)).heap.size = w.heap.size + 4 ∧ ResP w (w.heap.size + 1) 0 ((((w.alloc (.cells #[.int .i64 k, .int .i64 mn, .int .i64 mx, .int .i64 kd, .bool bd, .int .u64 bn, .slice A1 cs.length cap1, .string (strOf nm), .slice A ks.length cap, .int .u64 wi, .slice Ah hv.length ch, .slice Ae em.length ce] 35)).alloc (.cells #[.int .i64 0] 23)).alloc (.cells #[.int .i64 0] 3)).alloc (.cells #[.int .i64 k, .int .i64 mn, .int .i64 mx, .int .i64 kd, .bool bd, .int .u64 bn, .slice A1 cs.length cap1, .string (strOf nm), .slice A ks.length cap] 31)) ∧ Bx ((((w.alloc (.cells #[.int .i64 k, .int .i64 mn, .int .i64 mx, .int .i64 kd, .bool bd, .int .u64 bn, .slice A1 cs.length cap1, .string (strOf nm), .slice A ks.length cap, .int .u64 wi, .slice Ah hv.length ch, .slice Ae em.length ce] 35)).alloc (.cells #[.int .i64 0] 23)).alloc (.cells #[.int .i64 0] 3)).alloc (.cells #[.int .i64 k, .int .i64 mn, .int .i64 mx, .int .i64 kd, .bool bd, .int .u64 bn, .slice A1 cs.length cap1, .string (strOf nm), .slice A ks.length cap] 31)) (w.heap.size + 1 + 1) 3 [.int .i64 ((([] : List Tr).filter lfB).length : Int)] ∧ Bx ((((w.alloc (.cells #[.int .i64 k, .int .i64 mn, .int .i64 mx, .int .i64 kd, .bool bd, .int .u64 bn, .slice A1 cs.length cap1, .string (strOf nm), .slice A ks.length cap, .int .u64 wi, .slice Ah hv.length ch, .slice Ae em.length ce] 35)).alloc (.cells #[.int .i64 0] 23)).alloc (.cells #[.int .i64 0] 3)).alloc (.cells #[.int .i64 k, .int .i64 mn, .int .i64 mx, .int .i64 kd, .bool bd, .int .u64 bn, .slice A1 cs.length cap1, .string (strOf nm), .slice A ks.length cap] 31)) (w.heap.size + 1 + 1 + 1) 31 [.int .i64 k, .int .i64 mn, .int .i64 mx, .int .i64 kd, .bool bd, .int .u64 bn, .slice A1 cs.length cap1, .string (strOf nm), .slice A ks.length cap] from by
    have h1 := (hout 0).1
    have h2 := (hout 0).2
    have h3 := Bx.new ((w.alloc (.cells #[.int .i64 k, .int .i64 mn, .int .i64 mx, .int .i64 kd, .bool bd, .int .u64 bn, .slice A1 cs.length cap1, .string (strOf nm), .slice A ks.length cap, .int .u64 wi, .slice Ah hv.length ch, .slice Ae em.length ce] 35)).alloc (.cells #[.int .i64 0] 23)) [.int .i64 ((([] : List Tr).filter lfB).length : Int)] 3
    have h4 := Bx.new (((w.alloc (.cells #[.int .i64 k, .int .i64 mn, .int .i64 mx, .int .i64 kd, .bool bd, .int .u64 bn, .slice A1 cs.length cap1, .string (strOf nm), .slice A ks.length cap, .int .u64 wi, .slice Ah hv.length ch, .slice Ae em.length ce] 35)).alloc (.cells #[.int .i64 0] 23)).alloc (.cells #[.int .i64 0] 3)) [.int .i64 k, .int .i64 mn, .int .i64 mx, .int .i64 kd, .bool bd, .int .u64 bn, .slice A1 cs.length cap1, .string (strOf nm), .slice A ks.length cap] 31
    rw [World.size_alloc, h1] at h3
    rw [World.size_alloc, World.size_alloc, h1] at h4
    exact ⟨by simp, (h2.later (b1 _ _)).later (b1 _ _), h3.later (b1 _ _), h4⟩
  have HZ := Lib.hid hz
  clear hout hz
  by_cases h4 : 4 < hv.length
  · have h4' : (4 : Int) < (hv.length : Int) := by omega
    have HH : RowKit.Hid (E = 6) := Lib.hid (by rw [HE.out, decide_eq_true h4]; rfl)
    clear hnd
    gi_wp2
    exact fin_none (fun W h => by simp [results, Tryz.f104, go_sem, h.cell]) ((HO.out 6).2.eq HH.out)
  have h4' : ¬ (4 : Int) < (hv.length : Int) := by omega
  by_cases h5 : 4 < em.length
  · have h5' : (4 : Int) < (em.length : Int) := by omega
    have HH : RowKit.Hid (E = 6) := Lib.hid (by rw [HE.out, decide_eq_false h4, decide_eq_true h5]; rfl)
    clear hnd
    gi_wp2
    exact fin_none (fun W h => by simp [results, Tryz.f104, go_sem, h.cell]) ((HO.out 6).2.eq HH.out)
  have h5' : ¬ (4 : Int) < (em.length : Int) := by omega
  have HEE : RowKit.Hid (E = if roomT L = true then 6 else 0) := Lib.hid (by rw [HE.out, decide_eq_false h4, decide_eq_false h5, Bool.false_or, Bool.false_or])
  clear h4 h5 HE
  gi_wp2_with (refine ⟨trivial, ?_⟩; refine (callsIn_wide.2 (hnd _)).mono ?_; rintro e w' ⟨rfl, rfl⟩)
  clear hnd
  have hW3 := HZ.out 0
  obtain ⟨W3, hW3e⟩ : ∃ W3, W3 = (((w.alloc (.cells #[.int .i64 k, .int .i64 mn, .int .i64 mx, .int .i64 kd, .bool bd, .int .u64 bn, .slice A1 cs.length cap1, .string (strOf nm), .slice A ks.length cap, .int .u64 wi, .slice Ah hv.length ch, .slice Ae em.length ce] 35)).alloc (.cells #[.int .i64 0] 23)).alloc (.cells #[.int .i64 0] 3)).alloc (.cells #[.int .i64 k, .int .i64 mn, .int .i64 mx, .int .i64 kd, .bool bd, .int .u64 bn, .slice A1 cs.length cap1, .string (strOf nm), .slice A ks.length cap] 31) := ⟨_, rfl⟩
  rw [← hW3e] at hW3
  rw [← hW3e]
  obtain ⟨hsz3, hR3, hA3, hN3⟩ := hW3
  have hseq := HQ.out (w.heap.size + 1 + 1 + 1) W3 (SameB.of hR3.2) hN3
  clear hW3e HQ hN3 HO HZ
  refine wpIn_range_own (gf := 136) (lb := #[.pointer (some ⟨w.heap.size + 1 + 1 + 1, 0, none⟩)]) rfl (enters_of Tryz.func136 (by kernel_rfl) rfl)
    hseq (by omega) (Below.refl _ _) (fun _ => rfl)
    (fun pre Wx => roomT pre = false ∧ ResP w (w.heap.size + 1) 0 Wx ∧ Bx Wx (w.heap.size + 1 + 1) 3 [.int .i64 ((pre.filter lfB).length : Int)])
    (fun pre Wx => roomT pre = true ∧ ResP w (w.heap.size + 1) 6 Wx)
    ?hI ?hIx ?h0 (fun x act Wx => ∃ b5, w.heap.size + 1 + 1 < b5 ∧ Bx Wx b5 31 x.row ∧ act = { tmps := #[.agg #[.int .i64 k, .int .i64 mn, .int .i64 mx, .int .i64 kd, .bool bd, .int .u64 bn, .slice A1 cs.length cap1, .string (strOf nm), .slice A ks.length cap, .int .u64 wi, .slice Ah hv.length ch, .slice Ae em.length ce], .pointer (some ⟨w.heap.size, 0, none⟩), .pointer (some ⟨w.heap.size + 1, 0, none⟩), .pointer (some ⟨w.heap.size + 1 + 1, 0, none⟩), .pointer (some ⟨b5, 0, none⟩), .pointer (some ⟨w.heap.size, 10, none⟩), .slice Ah hv.length ch, .int .i64 (hv.length : Int), .bool false, .bool false, .pointer (some ⟨w.heap.size, 11, none⟩), .slice Ae em.length ce, .int .i64 (em.length : Int), .bool false, .bool false, .pointer (some ⟨w.heap.size, 0, none⟩), .agg #[.int .i64 k, .int .i64 mn, .int .i64 mx, .int .i64 kd, .bool bd, .int .u64 bn, .slice A1 cs.length cap1, .string (strOf nm), .slice A ks.length cap], .func (.func 136) #[] #[.pointer (some ⟨w.heap.size + 1 + 1 + 1, 0, none⟩)], .agg x.row.toArray, undef, undef, undef, undef, undef, undef, undef, undef, undef, undef, undef, undef, undef, undef, undef, undef, undef, undef, undef, undef, undef], defers := [] }) ?hA ?assign ?body ?done ?stop
  case hI =>
    rintro s Wx Wy ⟨g0, g1, g2⟩ ht
    exact ⟨g0, g1.turn ht (by omega), bx_turn g2 ht (.inl (by omega))⟩
  case hIx =>
    rintro s Wx Wy ⟨g0, g1⟩ ht
    exact ⟨g0, g1.turn ht (by omega)⟩
  case h0 => exact ⟨rfl, hR3, hA3⟩
  case hA =>
    rintro x act s Wx Wy row ⟨b5, h1, h2, h3⟩ hg hr
    exact ⟨b5, h1, bx_noncells h2 hg (fun j e => (hr j e).2), h3⟩
  case assign =>
    intro l2 pre x Wx K hp hsz hi hK
    have ho := (HM.out x (hp.subset (by simp))).one
    obtain ⟨k2, mn2, mx2, ⟨⟨kd2, bd2, bn2, cs2, nm2⟩, sc2⟩, sk2, ks2⟩ := x
    obtain ⟨-, ⟨-, e1⟩, e2⟩ := ho
    simp only at e1
    obtain ⟨A5, c5, rfl, hcl, -⟩ := sl_get (by decide) e1
    obtain ⟨A6, c6, rfl, hkl, -⟩ := sl_get (by decide) e2
    simp only [Tr.row] at hK ⊢
    clear e1 e2 hi hseq
    gi_wp2
    exact hK _ _ ⟨Wx.heap.size, by omega, Bx.new _ _ _, rfl⟩ (b1 _ _)
  case body =>
    rintro l2 pre x act Wx hp hsz ⟨g0, g1, g2⟩ ⟨b5, hb5l, hb5, rfl⟩
    have ho := (HM.out x (hp.subset (by simp))).one
    have hcn : (pre.filter lfB).length < 1000000 := by
      have h1 := lfL_len hp
      have h2 := hp.length_le
      simp at h2
      have h3 := List.length_filter_le lfB pre
      omega
    have hrs := roomT_snoc pre x g0
    have hfl : ((pre ++ [x]).filter lfB).length = (pre.filter lfB).length + (if lfB x = true then 1 else 0) := by
      rw [List.filter_append, List.length_append]
      cases h : lfB x <;> simp [List.filter, h]
    rw [hfl] at hrs
    obtain ⟨c, hc⟩ : ∃ c, c = (pre.filter lfB).length := ⟨_, rfl⟩
    rw [← hc] at g2 hcn hrs hfl
    obtain ⟨xs, hxs⟩ : ∃ xs, xs = pre ++ [x] := ⟨_, rfl⟩
    rw [← hxs] at hrs hfl ⊢
    clear hxs hp hc g0
    obtain ⟨k2, mn2, mx2, ⟨⟨kd2, bd2, bn2, cs2, nm2⟩, sc2⟩, sk2, ks2⟩ := x
    obtain ⟨-, ⟨-, e1⟩, e2⟩ := ho
    simp only at e1
    obtain ⟨A5, c5, rfl, hcl, -⟩ := sl_get (by decide) e1
    obtain ⟨A6, c6, rfl, hkl, -⟩ := sl_get (by decide) e2
    simp only [Tr.row, lfB, wideT] at hb5 hrs hfl ⊢
    clear e1 e2 hseq
    have hK5 := hb5.blk
    have d6 := hK5.cell 6 _ rfl
    have d8 := hK5.cell 8 _ rfl
    have n1 := g2.blk.cell 0 _ rfl
    have n2 := g2.blk.fr 0 _ rfl
    have r1 := g1.cell
    have r2 := g1.fr
    have hwc : IntKind.i64.wrap ((c : Int) + 1) = (c : Int) + 1 := IntWalk.i64_in _ ⟨by omega, by omega⟩
    have hwx : w.heap.size < Wx.heap.size := by omega
    have hkeep := fun (v : Value) => keep_set10 (m := w.heap.size) (B := W3.heap.size) (t := 3) (by omega) g2 (by decide) (.inl (by omega)) 0 v
    have hone : ∀ (kn cn c' : Nat), ks2.length = kn → cs2.length = cn → c' = c + (if ks2.isEmpty = true then 1 else 0) → roomT xs = (decide (8 < kn) || decide (4 < cn) || decide (12 < c')) ∧ (xs.filter lfB).length = c' := fun kn cn c' h1 h2 h3 => by
      subst h1 h2 h3
      exact ⟨hrs, hfl⟩
    have hemp : ∀ kn : Nat, ks2.length = kn → (ks2.isEmpty = true ↔ kn = 0) := fun kn h => by subst h; cases ks2 <;> simp
    obtain ⟨kn, hkn⟩ : ∃ kn, ks2.length = kn := ⟨_, rfl⟩
    obtain ⟨cn, hcn2⟩ : ∃ cn, cs2.length = cn := ⟨_, rfl⟩
    replace hone := hone kn cn
    replace hemp := hemp kn hkn
    rw [hkn] at d8 hkl
    rw [hcn2] at d6 hcl
    rw [hkn, hcn2]
    have HON := Lib.hid (fun c' => hone c' hkn hcn2)
    have HE := Lib.hid hemp
    have G1 := Lib.hid g1
    have G2 := Lib.hid g2
    have HKP := Lib.hid hkeep
    clear hK5 hb5 hrs hfl hone hemp hkn hcn2 g1 g2 hkeep
    have hne1 : ¬ b5 = w.heap.size + 1 + 1 := by omega
    by_cases hk0 : kn = 0
    · have HON2 := Lib.hid (HON.out (c + 1) (by rw [if_pos (HE.out.2 hk0)]))
      subst hk0
      have HON0 := HON
      clear HON HE HON0
      by_cases h12 : 12 < c + 1
      · have h12' : (12 : Int) < (c : Int) + 1 := by omega
        have HF := Lib.hid h12
        clear h12
        gi_wp2
        exact ⟨(KeepsFrom.setCell _ _ _ _).trans (KeepsFrom.setCell _ _ _ _), HON2.out.1.trans (by simp [HF.out]), (G1.out.other (by omega) (by omega) _).set (by omega) 6⟩
      · have h12' : ¬ (12 : Int) < (c : Int) + 1 := by omega
        have HF := Lib.hid h12
        clear h12
        by_cases h4 : 4 < cn
        · have h4' : (4 : Int) < (cn : Int) := by omega
          have HF4 := Lib.hid h4
          clear h4
          gi_wp2
          exact ⟨(KeepsFrom.setCell _ _ _ _).trans (KeepsFrom.setCell _ _ _ _), HON2.out.1.trans (by simp [HF4.out]), (G1.out.other (by omega) (by omega) _).set (by omega) 6⟩
        · have h4' : ¬ (4 : Int) < (cn : Int) := by omega
          have HF4 := Lib.hid h4
          clear h4
          gi_wp2
          exact ⟨(by have h := HKP.out (.int .i64 ((c : Int) + 1)); rw [hsz3] at h; exact h), HON2.out.1.trans (by have := HF.out; have := HF4.out; simp; omega), G1.out.other (by omega) (by omega) _, by have h := bx_set G2.out (.int .i64 ((c : Int) + 1)); rw [HON2.out.2]; exact h⟩
    · have HON2 := Lib.hid (HON.out c (by rw [if_neg (fun h => hk0 (HE.out.1 h))]; rfl))
      have hk0' : ¬ (kn : Int) = 0 := by omega
      have hk0b : ((kn : Int) == 0) = false := by simpa using hk0
      have HK0 := Lib.hid hk0
      clear HON HE hk0
      by_cases h12 : 12 < c
      · have h12' : (12 : Int) < (c : Int) := by omega
        have HF := Lib.hid h12
        clear h12
        gi_wp2
        exact ⟨KeepsFrom.setCell _ _ _ _, HON2.out.1.trans (by simp [HF.out]), (G1.out).set (by omega) 6⟩
      · have h12' : ¬ (12 : Int) < (c : Int) := by omega
        have HF := Lib.hid h12
        clear h12
        by_cases h8 : 8 < kn
        · have h8' : (8 : Int) < (kn : Int) := by omega
          have HF8 := Lib.hid h8
          clear h8
          gi_wp2
          exact ⟨KeepsFrom.setCell _ _ _ _, HON2.out.1.trans (by simp [HF8.out]), (G1.out).set (by omega) 6⟩
        · have h8' : ¬ (8 : Int) < (kn : Int) := by omega
          have HF8 := Lib.hid h8
          clear h8
          by_cases h4 : 4 < cn
          · have h4' : (4 : Int) < (cn : Int) := by omega
            have HF4 := Lib.hid h4
            clear h4
            gi_wp2
            exact ⟨KeepsFrom.setCell _ _ _ _, HON2.out.1.trans (by simp [HF4.out]), (G1.out).set (by omega) 6⟩
          · have h4' : ¬ (4 : Int) < (cn : Int) := by omega
            have HF4 := Lib.hid h4
            clear h4
            gi_wp2
            exact ⟨KeepW.refl _ _, HON2.out.1.trans (by have := HF.out; have := HF4.out; have := HF8.out; simp; omega), G1.out, by rw [HON2.out.2]; exact G2.out⟩
  case done =>
    rintro D Wx hD ⟨g0, g1, -⟩ hKd
    clear hseq
    have he : E = 0 := by rw [HEE.out, if_neg (by rw [g0]; simp)]
    have HH := Lib.hid he
    clear he
    have HG := Lib.hid g1
    have r1 := g1.cell
    have r2 := g1.fr
    have HD := Lib.hid hKd
    clear g1 hKd
    gi_wp2
    exact fin_one (fun W h => by simp [results, Tryz.f104, go_sem, h.cell]) (Nat.le_refl _) (show w.heap.size ≤ D by omega) (def_set HD.out) ((HG.out.set (by omega) 0).eq HH.out)
  case stop =>
    rintro D pre Wx hD hp ⟨g0, g1⟩ hKd
    clear hseq
    have he : E = 6 := by rw [HEE.out, if_pos (roomT_mono hp g0)]
    have HH := Lib.hid he
    clear he
    gi_wp2
    exact fin_one (fun W h => by simp [results, Tryz.f104, go_sem, h.cell]) (Nat.le_refl _) (show w.heap.size ≤ D by omega) hKd (g1.eq HH.out)
end Go.Proofs.YtdoioaeppepndaaGreatDoor
