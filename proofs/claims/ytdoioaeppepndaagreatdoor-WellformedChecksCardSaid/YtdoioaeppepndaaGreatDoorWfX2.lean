/- Walks: leaves, names, uses. -/
import Derived.Test.YtdoioaeppepndaaGreatDoorWfX1
import Derived.Test.YtdoioaeppepndaaGreatDoorAstDe
import Derived.Deep.LoopGhost
import Derived.BigFrameIn
import Derived.Maps.OwnIn
import Derived.Maps.OwnSet
namespace Go.Proofs.YtdoioaeppepndaaGreatDoor
open Go.RowKit Go.Shelf
open A8 W10
attribute [local go_sem] Oper.semAt_some

/-- What stands behind a function whose result lies in a box: the error there, and nothing turned below. -/
def ResP (w : World) (b : Nat) (e : Int) (W : World) : Prop := Bx W b 23 [.int .i64 e] ∧ Below w.heap.size w W
theorem ResP.turn {w W W' : World} {b B : Nat} {e : Int} (h : ResP w b e W) (ht : Turn 3 B W W') (hB : w.heap.size ≤ B) : ResP w b e W' := ⟨bx_turn h.1 ht (.inr (by decide)), ht.below h.2 hB (Nat.le_refl _)⟩
theorem ResP.later {w W W' : World} {b : Nat} {e : Int} (h : ResP w b e W) (hb : Below W.heap.size W W') : ResP w b e W' := ⟨h.1.later hb, bstep h.2 hb⟩
theorem ResP.set {w W : World} {b : Nat} {e : Int} (h : ResP w b e W) (hb : w.heap.size ≤ b) (e' : Int) : ResP w b e' (W.setCell ⟨b, 0, none⟩ (.int .i64 e')) := ⟨bx_set h.1 _, h.2.setCell (p := ⟨b, 0, none⟩) hb _⟩
theorem ResP.other {w W : World} {b c : Nat} {e : Int} (h : ResP w b e W) (hb : w.heap.size ≤ c) (hc : c ≠ b) (v : Value) : ResP w b e (W.setCell ⟨c, 0, none⟩ v) := ⟨bx_other h.1 (by simpa using hc) _, h.2.setCell (p := ⟨c, 0, none⟩) hb _⟩
theorem ResP.eq {w W : World} {b : Nat} {e e' : Int} (h : ResP w b e W) (he : e' = e) : ResP w b e' W := by rw [he]; exact h
theorem def_set {W : World} {D : Nat} {p : Addr} {v : Value} (h : W.heap[D]? = some (.deferred (some []))) : (W.setCell p v).heap[D]? = some (.deferred (some [])) := (KeepsOthers.setCell W p v).same D _ h rfl
theorem ResP.cell {w W : World} {b : Nat} {e : Int} (h : ResP w b e W) : W.cell? ⟨b, 0, none⟩ = some (.int .i64 e) := h.1.blk.cell 0 _ rfl
theorem ResP.fr {w W : World} {b : Nat} {e : Int} (h : ResP w b e W) : W.frozen? ⟨b, 0, none⟩ = false := h.1.blk.fr 0 _ rfl

/-- The way out of a function whose result lies in a box. -/
theorem fin_res {P : Program} {fn : Func} {tmps : Array Value} {n b B : Nat} {w : World} {e : Int} (hrun : ∀ W, ResP w b e W → (results fn tmps).run P W = .ok (.int .i64 e) W) (hB : w.heap.size ≤ B)
    (Ds : List Nat) (W : World) (hn : Ds.Nodup) (hm : ∀ D ∈ Ds, B ≤ D ∧ W.heap[D]? = some (.deferred (some []))) (h : ResP w b e W) :
    LeavesInM Fence.wide n P fn tmps (fun x w' => x = .returned (.int .i64 e) ∧ Below w.heap.size w w') (Ds.map fun D => { target := .collected D, args := #[] }) .returning W :=
  leaves_marks (t := 3) (B := B) (ResP w b e) (fun _ _ h ht => h.turn ht hB) (fun W h => ⟨_, hrun W h, rfl, h.2⟩) Ds W hn hm h
theorem fin_one {P : Program} {fn : Func} {tmps : Array Value} {n b B : Nat} {w : World} {e : Int} (hrun : ∀ W, ResP w b e W → (results fn tmps).run P W = .ok (.int .i64 e) W) (hB : w.heap.size ≤ B)
    {D : Nat} {W : World} (hD : B ≤ D) (hk : W.heap[D]? = some (.deferred (some []))) (h : ResP w b e W) :
    LeavesInM Fence.wide n P fn tmps (fun x w' => x = .returned (.int .i64 e) ∧ Below w.heap.size w w') [{ target := .collected D, args := #[] }] .returning W :=
  fin_res hrun hB [D] W (by simp) (fun E hE => by rw [List.mem_singleton] at hE; subst hE; exact ⟨hD, hk⟩) h
theorem fin_none {P : Program} {fn : Func} {tmps : Array Value} {n b : Nat} {w : World} {e : Int} (hrun : ∀ W, ResP w b e W → (results fn tmps).run P W = .ok (.int .i64 e) W)
    {W : World} (h : ResP w b e W) :
    LeavesInM Fence.wide n P fn tmps (fun x w' => x = .returned (.int .i64 e) ∧ Below w.heap.size w w') [] .returning W :=
  fin_res (B := w.heap.size) hrun (Nat.le_refl _) [] W (by simp) (fun E hE => by cases hE) h
def wideT : Tr → Bool | .mk _ _ _ g _ ks => decide (8 < ks.length) || decide (4 < g.a.cs.length)
def roomT (l : List Tr) : Bool := l.any wideT || decide (12 < (l.filter lfB).length)
theorem lfB_nd (t : Tr) : lfB t = leafB t.nd := by
  cases t with
  | mk k mn mx g sk ks => rw [nd_mk]; cases ks <;> rfl
theorem wideT_nd (t : Tr) : wideT t = wideB t.nd := by
  cases t with
  | mk k mn mx g sk ks => rw [nd_mk]; show _ = (decide (8 < (ks.map Tr.nd).length) || decide (4 < g.a.cs.length)); rw [List.length_map]; rfl
theorem subs_nd10 (T : Tr) : (subsT T).map Tr.nd = subsN T.nd := by
  refine Tr.ind (P := fun T => (subsT T).map Tr.nd = subsN T.nd) (fun k mn mx g sk ks ih => ?_) T
  have hl : ∀ l : List Nd, subsL l = l.flatMap subsN := fun l => by
    induction l with
    | nil => rfl
    | cons n ns ih => rw [subsL, ih, List.flatMap_cons]
  have hf : ∀ l : List Tr, (∀ t ∈ l, (subsT t).map Tr.nd = subsN t.nd) → (l.flatMap subsT).map Tr.nd = (l.map Tr.nd).flatMap subsN := fun l => by
    induction l with
    | nil => intro _; rfl
    | cons n ns ih =>
      intro h
      rw [List.flatMap_cons, List.map_append, h n (by simp), ih fun t ht => h t (by simp [ht])]
      rfl
  rw [subsT, subsTL_flat, nd_mk, subsN, hl, List.map_cons, nd_mk, hf ks ih]
theorem roomT_nd (T : Tr) : roomT (subsT T) = roomL (subsN T.nd) := by
  unfold roomT roomL
  rw [← subs_nd10, List.any_map, List.filter_map, List.length_map]
  have h1 : (wideB ∘ Tr.nd) = wideT := funext fun t => (wideT_nd t).symm
  have h2 : (leafB ∘ Tr.nd) = lfB := funext fun t => (lfB_nd t).symm
  rw [h1, h2]
theorem roomT_mono {a b : List Tr} (h : a <+: b) (ha : roomT a = true) : roomT b = true := by
  obtain ⟨r, rfl⟩ := h
  unfold roomT at ha ⊢
  rw [Bool.or_eq_true] at ha ⊢
  rcases ha with ha | ha
  · exact .inl (by rw [List.any_append, ha]; rfl)
  · refine .inr ?_
    rw [decide_eq_true_eq] at ha ⊢
    rw [List.filter_append, List.length_append]
    omega
theorem roomT_snoc (a : List Tr) (x : Tr) (ha : roomT a = false) : roomT (a ++ [x]) = (wideT x || decide (12 < ((a ++ [x]).filter lfB).length)) := by
  unfold roomT at ha ⊢
  rw [Bool.or_eq_false_iff] at ha
  rw [List.any_append, ha.1]
  simp
set_option maxRecDepth 100000 in
set_option maxHeartbeats 8000000 in
theorem checkRoom_any (q : GQ) (w : World) (hq : QW w q) (hlen : (subsT q.t).length ≤ 999999) :
    Calls Tryz.prog 104 #[.agg q.row.toArray] w fun e w' => e = .returned (.int .i64 (if fullB q.qu = true then 6 else 0)) ∧ Below w.heap.size w w' := by
  obtain ⟨T, wi, sh, hv, se, em⟩ := q
  obtain ⟨hT, hwi, hh, he, -, -⟩ := hq
  simp only at hT hh he hlen hwi
  obtain ⟨Ah, ch, rfl, hlh, -⟩ := sl_get (by decide) hh
  obtain ⟨Ae, ce, rfl, hle, -⟩ := sl_get (by decide) he
  clear hh he
  have hfull : fullB (GQ.qu ⟨T, wi, .slice Ah hv.length ch, hv, .slice Ae em.length ce, em⟩) = (decide (4 < hv.length) || decide (4 < em.length) || roomT (subsT T)) := by rw [roomT_nd]; rfl
  rw [hfull]
  clear hfull
  obtain ⟨E, hE⟩ : ∃ E : Int, E = if (decide (4 < hv.length) || decide (4 < em.length) || roomT (subsT T)) = true then 6 else 0 := ⟨_, rfl⟩
  rw [← hE]
  have hnd := fun w => wnodes_any T w
  have hseq := fun (b' : Nat) (w' : World) => wnodes_seq w T hT b' w'
  have hmem : ∀ x ∈ subsT T, TrW w x := fun x hx u hu => hT u (subs_trans hx hu)
  obtain ⟨L, hL⟩ : ∃ L, L = subsT T := ⟨_, rfl⟩
  rw [← hL] at hmem hseq hlen hE
  have HT := hT
  have HE := Lib.hid hE
  clear hL hE
  have hone := hT.one
  obtain ⟨k, mn, mx, ⟨⟨kd, bd, bn, cs, nm⟩, sc⟩, sk, ks⟩ := T
  obtain ⟨-, ⟨-, hsc⟩, hsl⟩ := hone
  simp only at hsc
  obtain ⟨A1, cap1, rfl, -, -⟩ := sl_get (by decide) hsc
  obtain ⟨A, cap, rfl, -, -⟩ := sl_get (by decide) hsl
  clear hsc hsl
  clear HT hT
  simp only [GQ.row, Tr.row, List.cons_append, List.nil_append] at hnd hseq ⊢
  have HM := Lib.hid hmem
  have HQ := Lib.hid hseq
  clear hmem hseq
  refine (callsIn_wide (n := 5)).1 ?_
  refine callsIn_of_wp_marks Tryz.func104 rfl trivial ?_ rfl
  simp only [Tryz.ntmps104, List.size_toArray, List.length_cons, List.length_nil, Nat.reduceAdd, Nat.reduceSub, Array.replicate_succ, Array.replicate_zero, List.push_toArray, List.append_toArray, List.nil_append, List.cons_append]
  have hout := fun e => show (w.alloc (.cells #[.int .i64 k, .int .i64 mn, .int .i64 mx, .int .i64 kd, .bool bd, .int .u64 bn, .slice A1 cs.length cap1, .string (strOf nm), .slice A ks.length cap, .int .u64 wi, .slice Ah hv.length ch, .slice Ae em.length ce] 35)).heap.size = w.heap.size + 1 ∧ ResP w (w.heap.size + 1) e ((w.alloc (.cells #[.int .i64 k, .int .i64 mn, .int .i64 mx, .int .i64 kd, .bool bd, .int .u64 bn, .slice A1 cs.length cap1, .string (strOf nm), .slice A ks.length cap, .int .u64 wi, .slice Ah hv.length ch, .slice Ae em.length ce] 35)).alloc (.cells #[.int .i64 e] 23)) from
    ⟨by simp, by have := Bx.new (w.alloc (.cells #[.int .i64 k, .int .i64 mn, .int .i64 mx, .int .i64 kd, .bool bd, .int .u64 bn, .slice A1 cs.length cap1, .string (strOf nm), .slice A ks.length cap, .int .u64 wi, .slice Ah hv.length ch, .slice Ae em.length ce] 35)) [.int .i64 e] 23; rw [World.size_alloc] at this; exact this, b2 _ _ _⟩
  have HO := Lib.hid hout
  have hz := fun (_ : Nat) => show ((((w.alloc (.cells #[.int .i64 k, .int .i64 mn, .int .i64 mx, .int .i64 kd, .bool bd, .int .u64 bn, .slice A1 cs.length cap1, .string (strOf nm), .slice A ks.length cap, .int .u64 wi, .slice Ah hv.length ch, .slice Ae em.length ce] 35)).alloc (.cells #[.int .i64 0] 23)).alloc (.cells #[.int .i64 0] 3)).alloc (.cells #[.int .i64 k, .int .i64 mn, .int .i64 mx, .int .i64 kd, .bool bd, .int .u64 bn, .slice A1 cs.length cap1, .string (strOf nm), .slice A ks.length cap] 31)).heap.size = w.heap.size + 4 ∧ ResP w (w.heap.size + 1) 0 ((((w.alloc (.cells #[.int .i64 k, .int .i64 mn, .int .i64 mx, .int .i64 kd, .bool bd, .int .u64 bn, .slice A1 cs.length cap1, .string (strOf nm), .slice A ks.length cap, .int .u64 wi, .slice Ah hv.length ch, .slice Ae em.length ce] 35)).alloc (.cells #[.int .i64 0] 23)).alloc (.cells #[.int .i64 0] 3)).alloc (.cells #[.int .i64 k, .int .i64 mn, .int .i64 mx, .int .i64 kd, .bool bd, .int .u64 bn, .slice A1 cs.length cap1, .string (strOf nm), .slice A ks.length cap] 31)) ∧ Bx ((((w.alloc (.cells #[.int .i64 k, .int .i64 mn, .int .i64 mx, .int .i64 kd, .bool bd, .int .u64 bn, .slice A1 cs.length cap1, .string (strOf nm), .slice A ks.length cap, .int .u64 wi, .slice Ah hv.length ch, .slice Ae em.length ce] 35)).alloc (.cells #[.int .i64 0] 23)).alloc (.cells #[.int .i64 0] 3)).alloc (.cells #[.int .i64 k, .int .i64 mn, .int .i64 mx, .int .i64 kd, .bool bd, .int .u64 bn, .slice A1 cs.length cap1, .string (strOf nm), .slice A ks.length cap] 31)) (w.heap.size + 1 + 1) 3 [.int .i64 ((([] : List Tr).filter lfB).length : Int)] ∧ Bx ((((w.alloc (.cells #[.int .i64 k, .int .i64 mn, .int .i64 mx, .int .i64 kd, .bool bd, .int .u64 bn, .slice A1 cs.length cap1, .string (strOf nm), .slice A ks.length cap, .int .u64 wi, .slice Ah hv.length ch, .slice Ae em.length ce] 35)).alloc (.cells #[.int .i64 0] 23)).alloc (.cells #[.int .i64 0] 3)).alloc (.cells #[.int .i64 k, .int .i64 mn, .int .i64 mx, .int .i64 kd, .bool bd, .int .u64 bn, .slice A1 cs.length cap1, .string (strOf nm), .slice A ks.length cap] 31)) (w.heap.size + 1 + 1 + 1) 31 [.int .i64 k, .int .i64 mn, .int .i64 mx, .int .i64 kd, .bool bd, .int .u64 bn, .slice A1 cs.length cap1, .string (strOf nm), .slice A ks.length cap] from by
    have h1 := (hout 0).1
    have h2 := (hout 0).2
    have h3 := Bx.new ((w.alloc (.cells #[.int .i64 k, .int .i64 mn, .int .i64 mx, .int .i64 kd, .bool bd, .int .u64 bn, .slice A1 cs.length cap1, .string (strOf nm), .slice A ks.length cap, .int .u64 wi, .slice Ah hv.length ch, .slice Ae em.length ce] 35)).alloc (.cells #[.int .i64 0] 23)) [.int .i64 ((([] : List Tr).filter lfB).length : Int)] 3
    have h4 := Bx.new (((w.alloc (.cells #[.int .i64 k, .int .i64 mn, .int .i64 mx, .int .i64 kd, .bool bd, .int .u64 bn, .slice A1 cs.length cap1, .string (strOf nm), .slice A ks.length cap, .int .u64 wi, .slice Ah hv.length ch, .slice Ae em.length ce] 35)).alloc (.cells #[.int .i64 0] 23)).alloc (.cells #[.int .i64 0] 3)) [.int .i64 k, .int .i64 mn, .int .i64 mx, .int .i64 kd, .bool bd, .int .u64 bn, .slice A1 cs.length cap1, .string (strOf nm), .slice A ks.length cap] 31
    rw [World.size_alloc, h1] at h3
    rw [World.size_alloc, World.size_alloc, h1] at h4
    exact ⟨by simp, (h2.later (b1 _ _)).later (b1 _ _), h3.later (b1 _ _), h4⟩
  have HZ := Lib.hid hz
  clear hout hz
  by_cases h4 : 4 < hv.length
  · have h4' : (4 : Int) < (hv.length : Int) := by omega
    have HH : RowKit.Hid (E = 6) := Lib.hid (by rw [HE.out, decide_eq_true h4]; rfl)
    clear hnd
    gi_wp2
    exact fin_none (fun W h => by simp [results, Tryz.f104, go_sem, h.cell]) ((HO.out 6).2.eq HH.out)
  have h4' : ¬ (4 : Int) < (hv.length : Int) := by omega
  by_cases h5 : 4 < em.length
  · have h5' : (4 : Int) < (em.length : Int) := by omega
    have HH : RowKit.Hid (E = 6) := Lib.hid (by rw [HE.out, decide_eq_false h4, decide_eq_true h5]; rfl)
    clear hnd
    gi_wp2
    exact fin_none (fun W h => by simp [results, Tryz.f104, go_sem, h.cell]) ((HO.out 6).2.eq HH.out)
  have h5' : ¬ (4 : Int) < (em.length : Int) := by omega
  have HEE : RowKit.Hid (E = if roomT L = true then 6 else 0) := Lib.hid (by rw [HE.out, decide_eq_false h4, decide_eq_false h5, Bool.false_or, Bool.false_or])
  clear h4 h5 HE
  gi_wp2_with (refine ⟨trivial, ?_⟩; refine (callsIn_wide.2 (hnd _)).mono ?_; rintro e w' ⟨rfl, rfl⟩)
  clear hnd
  have hW3 := HZ.out 0
  obtain ⟨W3, hW3e⟩ : ∃ W3, W3 = (((w.alloc (.cells #[.int .i64 k, .int .i64 mn, .int .i64 mx, .int .i64 kd, .bool bd, .int .u64 bn, .slice A1 cs.length cap1, .string (strOf nm), .slice A ks.length cap, .int .u64 wi, .slice Ah hv.length ch, .slice Ae em.length ce] 35)).alloc (.cells #[.int .i64 0] 23)).alloc (.cells #[.int .i64 0] 3)).alloc (.cells #[.int .i64 k, .int .i64 mn, .int .i64 mx, .int .i64 kd, .bool bd, .int .u64 bn, .slice A1 cs.length cap1, .string (strOf nm), .slice A ks.length cap] 31) := ⟨_, rfl⟩
  rw [← hW3e] at hW3
  rw [← hW3e]
  obtain ⟨hsz3, hR3, hA3, hN3⟩ := hW3
  have hseq := HQ.out (w.heap.size + 1 + 1 + 1) W3 (SameB.of hR3.2) hN3
  clear hW3e HQ hN3 HO HZ
  refine wpIn_range_own (gf := 136) (lb := #[.pointer (some ⟨w.heap.size + 1 + 1 + 1, 0, none⟩)]) rfl (enters_of Tryz.func136 (by kernel_rfl) rfl)
    hseq (by omega) (Below.refl _ _) (fun _ => rfl)
    (fun pre Wx => roomT pre = false ∧ ResP w (w.heap.size + 1) 0 Wx ∧ Bx Wx (w.heap.size + 1 + 1) 3 [.int .i64 ((pre.filter lfB).length : Int)])
    (fun pre Wx => roomT pre = true ∧ ResP w (w.heap.size + 1) 6 Wx)
    ?hI ?hIx ?h0 (fun x act Wx => ∃ b5, w.heap.size + 1 + 1 < b5 ∧ Bx Wx b5 31 x.row ∧ act = { tmps := #[.agg #[.int .i64 k, .int .i64 mn, .int .i64 mx, .int .i64 kd, .bool bd, .int .u64 bn, .slice A1 cs.length cap1, .string (strOf nm), .slice A ks.length cap, .int .u64 wi, .slice Ah hv.length ch, .slice Ae em.length ce], .pointer (some ⟨w.heap.size, 0, none⟩), .pointer (some ⟨w.heap.size + 1, 0, none⟩), .pointer (some ⟨w.heap.size + 1 + 1, 0, none⟩), .pointer (some ⟨b5, 0, none⟩), .pointer (some ⟨w.heap.size, 10, none⟩), .slice Ah hv.length ch, .int .i64 (hv.length : Int), .bool false, .bool false, .pointer (some ⟨w.heap.size, 11, none⟩), .slice Ae em.length ce, .int .i64 (em.length : Int), .bool false, .bool false, .pointer (some ⟨w.heap.size, 0, none⟩), .agg #[.int .i64 k, .int .i64 mn, .int .i64 mx, .int .i64 kd, .bool bd, .int .u64 bn, .slice A1 cs.length cap1, .string (strOf nm), .slice A ks.length cap], .func (.func 136) #[] #[.pointer (some ⟨w.heap.size + 1 + 1 + 1, 0, none⟩)], .agg x.row.toArray, undef, undef, undef, undef, undef, undef, undef, undef, undef, undef, undef, undef, undef, undef, undef, undef, undef, undef, undef, undef, undef], defers := [] }) ?hA ?assign ?body ?done ?stop
  case hI =>
    rintro s Wx Wy ⟨g0, g1, g2⟩ ht
    exact ⟨g0, g1.turn ht (by omega), bx_turn g2 ht (.inl (by omega))⟩
  case hIx =>
    rintro s Wx Wy ⟨g0, g1⟩ ht
    exact ⟨g0, g1.turn ht (by omega)⟩
  case h0 => exact ⟨rfl, hR3, hA3⟩
  case hA =>
    rintro x act s Wx Wy row ⟨b5, h1, h2, h3⟩ hg hr
    exact ⟨b5, h1, bx_noncells h2 hg (fun j e => (hr j e).2), h3⟩
  case assign =>
    intro l2 pre x Wx K hp hsz hi hK
    have ho := (HM.out x (hp.subset (by simp))).one
    obtain ⟨k2, mn2, mx2, ⟨⟨kd2, bd2, bn2, cs2, nm2⟩, sc2⟩, sk2, ks2⟩ := x
    obtain ⟨-, ⟨-, e1⟩, e2⟩ := ho
    simp only at e1
    obtain ⟨A5, c5, rfl, hcl, -⟩ := sl_get (by decide) e1
    obtain ⟨A6, c6, rfl, hkl, -⟩ := sl_get (by decide) e2
    simp only [Tr.row] at hK ⊢
    clear e1 e2 hi hseq
    gi_wp2
    exact hK _ _ ⟨Wx.heap.size, by omega, Bx.new _ _ _, rfl⟩ (b1 _ _)
  case body =>
    rintro l2 pre x act Wx hp hsz ⟨g0, g1, g2⟩ ⟨b5, hb5l, hb5, rfl⟩
    have ho := (HM.out x (hp.subset (by simp))).one
    have hcn : (pre.filter lfB).length < 1000000 := by
      have h1 := lfL_len hp
      have h2 := hp.length_le
      simp at h2
      have h3 := List.length_filter_le lfB pre
      omega
    have hrs := roomT_snoc pre x g0
    have hfl : ((pre ++ [x]).filter lfB).length = (pre.filter lfB).length + (if lfB x = true then 1 else 0) := by
      rw [List.filter_append, List.length_append]
      cases h : lfB x <;> simp [List.filter, h]
    rw [hfl] at hrs
    obtain ⟨c, hc⟩ : ∃ c, c = (pre.filter lfB).length := ⟨_, rfl⟩
    rw [← hc] at g2 hcn hrs hfl
    obtain ⟨xs, hxs⟩ : ∃ xs, xs = pre ++ [x] := ⟨_, rfl⟩
    rw [← hxs] at hrs hfl ⊢
    clear hxs hp hc g0
    obtain ⟨k2, mn2, mx2, ⟨⟨kd2, bd2, bn2, cs2, nm2⟩, sc2⟩, sk2, ks2⟩ := x
    obtain ⟨-, ⟨-, e1⟩, e2⟩ := ho
    simp only at e1
    obtain ⟨A5, c5, rfl, hcl, -⟩ := sl_get (by decide) e1
    obtain ⟨A6, c6, rfl, hkl, -⟩ := sl_get (by decide) e2
    simp only [Tr.row, lfB, wideT] at hb5 hrs hfl ⊢
    clear e1 e2 hseq
    have hK5 := hb5.blk
    have d6 := hK5.cell 6 _ rfl
    have d8 := hK5.cell 8 _ rfl
    have n1 := g2.blk.cell 0 _ rfl
    have n2 := g2.blk.fr 0 _ rfl
    have r1 := g1.cell
    have r2 := g1.fr
    have hwc : IntKind.i64.wrap ((c : Int) + 1) = (c : Int) + 1 := IntWalk.i64_in _ ⟨by omega, by omega⟩
    have hwx : w.heap.size < Wx.heap.size := by omega
    have hkeep := fun (v : Value) => keep_set10 (m := w.heap.size) (B := W3.heap.size) (t := 3) (by omega) g2 (by decide) (.inl (by omega)) 0 v
    have hone : ∀ (kn cn c' : Nat), ks2.length = kn → cs2.length = cn → c' = c + (if ks2.isEmpty = true then 1 else 0) → roomT xs = (decide (8 < kn) || decide (4 < cn) || decide (12 < c')) ∧ (xs.filter lfB).length = c' := fun kn cn c' h1 h2 h3 => by
      subst h1 h2 h3
      exact ⟨hrs, hfl⟩
    have hemp : ∀ kn : Nat, ks2.length = kn → (ks2.isEmpty = true ↔ kn = 0) := fun kn h => by subst h; cases ks2 <;> simp
    obtain ⟨kn, hkn⟩ : ∃ kn, ks2.length = kn := ⟨_, rfl⟩
    obtain ⟨cn, hcn2⟩ : ∃ cn, cs2.length = cn := ⟨_, rfl⟩
    replace hone := hone kn cn
    replace hemp := hemp kn hkn
    rw [hkn] at d8 hkl
    rw [hcn2] at d6 hcl
    rw [hkn, hcn2]
    have HON := Lib.hid (fun c' => hone c' hkn hcn2)
    have HE := Lib.hid hemp
    have G1 := Lib.hid g1
    have G2 := Lib.hid g2
    have HKP := Lib.hid hkeep
    clear hK5 hb5 hrs hfl hone hemp hkn hcn2 g1 g2 hkeep
    have hne1 : ¬ b5 = w.heap.size + 1 + 1 := by omega
    by_cases hk0 : kn = 0
    · have HON2 := Lib.hid (HON.out (c + 1) (by rw [if_pos (HE.out.2 hk0)]))
      subst hk0
      have HON0 := HON
      clear HON HE HON0
      by_cases h12 : 12 < c + 1
      · have h12' : (12 : Int) < (c : Int) + 1 := by omega
        have HF := Lib.hid h12
        clear h12
        gi_wp2
        exact ⟨(KeepsFrom.setCell _ _ _ _).trans (KeepsFrom.setCell _ _ _ _), HON2.out.1.trans (by simp [HF.out]), (G1.out.other (by omega) (by omega) _).set (by omega) 6⟩
      · have h12' : ¬ (12 : Int) < (c : Int) + 1 := by omega
        have HF := Lib.hid h12
        clear h12
        by_cases h4 : 4 < cn
        · have h4' : (4 : Int) < (cn : Int) := by omega
          have HF4 := Lib.hid h4
          clear h4
          gi_wp2
          exact ⟨(KeepsFrom.setCell _ _ _ _).trans (KeepsFrom.setCell _ _ _ _), HON2.out.1.trans (by simp [HF4.out]), (G1.out.other (by omega) (by omega) _).set (by omega) 6⟩
        · have h4' : ¬ (4 : Int) < (cn : Int) := by omega
          have HF4 := Lib.hid h4
          clear h4
          gi_wp2
          exact ⟨(by have h := HKP.out (.int .i64 ((c : Int) + 1)); rw [hsz3] at h; exact h), HON2.out.1.trans (by have := HF.out; have := HF4.out; simp; omega), G1.out.other (by omega) (by omega) _, by have h := bx_set G2.out (.int .i64 ((c : Int) + 1)); rw [HON2.out.2]; exact h⟩
    · have HON2 := Lib.hid (HON.out c (by rw [if_neg (fun h => hk0 (HE.out.1 h))]; rfl))
      have hk0' : ¬ (kn : Int) = 0 := by omega
      have hk0b : ((kn : Int) == 0) = false := by simpa using hk0
      have HK0 := Lib.hid hk0
      clear HON HE hk0
      by_cases h12 : 12 < c
      · have h12' : (12 : Int) < (c : Int) := by omega
        have HF := Lib.hid h12
        clear h12
        gi_wp2
        exact ⟨KeepsFrom.setCell _ _ _ _, HON2.out.1.trans (by simp [HF.out]), (G1.out).set (by omega) 6⟩
      · have h12' : ¬ (12 : Int) < (c : Int) := by omega
        have HF := Lib.hid h12
        clear h12
        by_cases h8 : 8 < kn
        · have h8' : (8 : Int) < (kn : Int) := by omega
          have HF8 := Lib.hid h8
          clear h8
          gi_wp2
          exact ⟨KeepsFrom.setCell _ _ _ _, HON2.out.1.trans (by simp [HF8.out]), (G1.out).set (by omega) 6⟩
        · have h8' : ¬ (8 : Int) < (kn : Int) := by omega
          have HF8 := Lib.hid h8
          clear h8
          by_cases h4 : 4 < cn
          · have h4' : (4 : Int) < (cn : Int) := by omega
            have HF4 := Lib.hid h4
            clear h4
            gi_wp2
            exact ⟨KeepsFrom.setCell _ _ _ _, HON2.out.1.trans (by simp [HF4.out]), (G1.out).set (by omega) 6⟩
          · have h4' : ¬ (4 : Int) < (cn : Int) := by omega
            have HF4 := Lib.hid h4
            clear h4
            gi_wp2
            exact ⟨KeepW.refl _ _, HON2.out.1.trans (by have := HF.out; have := HF4.out; have := HF8.out; simp; omega), G1.out, by rw [HON2.out.2]; exact G2.out⟩
  case done =>
    rintro D Wx hD ⟨g0, g1, -⟩ hKd
    clear hseq
    have he : E = 0 := by rw [HEE.out, if_neg (by rw [g0]; simp)]
    have HH := Lib.hid he
    clear he
    have HG := Lib.hid g1
    have r1 := g1.cell
    have r2 := g1.fr
    have HD := Lib.hid hKd
    clear g1 hKd
    gi_wp2
    exact fin_one (fun W h => by simp [results, Tryz.f104, go_sem, h.cell]) (Nat.le_refl _) (show w.heap.size ≤ D by omega) (def_set HD.out) ((HG.out.set (by omega) 0).eq HH.out)
  case stop =>
    rintro D pre Wx hD hp ⟨g0, g1⟩ hKd
    clear hseq
    have he : E = 6 := by rw [HEE.out, if_pos (roomT_mono hp g0)]
    have HH := Lib.hid he
    clear he
    gi_wp2
    exact fin_one (fun W h => by simp [results, Tryz.f104, go_sem, h.cell]) (Nat.le_refl _) (show w.heap.size ≤ D by omega) hKd (g1.eq HH.out)
end Go.Proofs.YtdoioaeppepndaaGreatDoor
namespace Go.Proofs.YtdoioaeppepndaaGreatDoor
open Go.RowKit Go.Shelf
open A8 W10
attribute [local go_sem] Oper.semAt_some

theorem lfL_fst (l : List Tr) : (lfL l).map Prod.fst = l.filter lfB := by
  unfold lfL
  exact List.zipIdx_map_fst _ _
theorem lf_nd (T : Tr) : ((subsT T).filter lfB).map Tr.nd = leavesN T.nd := by
  unfold leavesN
  rw [← subs_nd10, List.filter_map]
  congr 1
  congr 1
  exact funext fun t => lfB_nd t
/-- What is asked of all leaves. -/
theorem lf_all (T : Tr) (f : Tr → Bool) (g : Nd → Bool) (h : ∀ t, f t = g t.nd) : ((lfL (subsT T)).all fun x => f x.1) = (leavesN T.nd).all g := by
  have h1 : ((lfL (subsT T)).all fun x => f x.1) = ((lfL (subsT T)).map Prod.fst).all f := by rw [List.all_map]; rfl
  have h2 : f = g ∘ Tr.nd := funext h
  rw [h1, lfL_fst, ← lf_nd, List.all_map, ← h2]
def timesT : Tr → Bool | .mk k mn mx _ _ _ => !decide (k = 1) || (decide (1 ≤ mn) && decide (mn ≤ mx) && decide (mx ≤ 6))
def timesL (l : List (Tr × Nat)) : Bool := l.all fun x => timesT x.1
theorem timesL_app (a b : List (Tr × Nat)) : timesL (a ++ b) = (timesL a && timesL b) := List.all_append
theorem timesL_one (x : Tr × Nat) : timesL [x] = timesT x.1 := by simp [timesL]
theorem timesT_nd (t : Tr) : timesT t = timesB t.nd := by
  cases t with
  | mk k mn mx g sk ks => rw [nd_mk]; rfl

set_option maxRecDepth 100000 in
set_option maxHeartbeats 4000000 in
theorem checkDepth_any (q : GQ) (w : World) (hq : QW w q) (hlen : (subsT q.t).length ≤ 999999) (hG : SG w) (hs : soundN 1 q.t.nd = true) :
    Calls Tryz.prog 105 #[.agg q.row.toArray] w fun e w' => e = .returned (.int .i64 (if 6 < depthN q.qu.p then 22 else 0)) ∧ Below w.heap.size w w' := by
  obtain ⟨T, wi, sh, hv, se, em⟩ := q
  obtain ⟨hT, hwi, hh, he, -, -⟩ := hq
  simp only at hT hh he hlen hwi
  obtain ⟨Ah, ch, rfl, hlh, -⟩ := sl_get (by decide) hh
  obtain ⟨Ae, ce, rfl, hle, -⟩ := sl_get (by decide) he
  clear hh he
  have hD := fun w1 (hb : Below w.heap.size w w1) => depthp_any T w1 (hT.later hb) hlen (hG.later hb)
  have hp : (GQ.qu ⟨T, wi, .slice Ah hv.length ch, hv, .slice Ae em.length ce, em⟩).p = T.nd := rfl
  rw [hp]
  simp only at hs
  rw [hs, if_pos rfl] at hD
  have hse : soundE T.nd = 0 := by unfold soundE; rw [if_pos hs]
  rw [hse] at hD
  obtain ⟨d, hd⟩ : ∃ d, d = depthN T.nd := ⟨_, rfl⟩
  rw [← hd] at hD ⊢
  clear hp hs hse hd
  have hone := hT.one
  obtain ⟨k, mn, mx, ⟨⟨kd, bd, bn, cs, nm⟩, sc⟩, sk, ks⟩ := T
  obtain ⟨-, ⟨-, hsc⟩, hsl⟩ := hone
  simp only at hsc
  obtain ⟨A1, cap1, rfl, -, -⟩ := sl_get (by decide) hsc
  obtain ⟨A, cap, rfl, -, -⟩ := sl_get (by decide) hsl
  clear hsc hsl
  clear hT
  simp only [GQ.row, Tr.row, List.cons_append, List.nil_append] at hD ⊢
  have HD := Lib.hid hD
  clear hD
  by_cases h6 : 6 < d
  · have h6' : (6 : Int) < (d : Int) := by omega
    rw [if_pos h6]
    clear h6
    go_enter Tryz.func105, Tryz.ntmps105
    go_wp2_with (go_at_call 91; refine (HD.out _ (b1 _ _)).mono ?_; rintro e w2 ⟨rfl, hb2⟩)
    go_ret
    exact ⟨rfl, bstep (b1 _ _) hb2⟩
  · have h6' : ¬ (6 : Int) < (d : Int) := by omega
    rw [if_neg h6]
    clear h6
    go_enter Tryz.func105, Tryz.ntmps105
    go_wp2_with (go_at_call 91; refine (HD.out _ (b1 _ _)).mono ?_; rintro e w2 ⟨rfl, hb2⟩)
    go_ret
    exact ⟨rfl, bstep (b1 _ _) hb2⟩

set_option maxRecDepth 100000 in
set_option maxHeartbeats 8000000 in
theorem checkNumbers_any (q : GQ) (w : World) (hq : QW w q) (hlen : (subsT q.t).length ≤ 999999) :
    Calls Tryz.prog 106 #[.agg q.row.toArray] w fun e w' => e = .returned (.int .i64 (if rangeB q.qu = true then 0 else 2)) ∧ Below w.heap.size w w' := by
  obtain ⟨T, wi, sh, hv, se, em⟩ := q
  obtain ⟨hT, hwi, hh, he, -, -⟩ := hq
  simp only at hT hh he hlen hwi
  obtain ⟨Ah, ch, rfl, hlh, -⟩ := sl_get (by decide) hh
  obtain ⟨Ae, ce, rfl, hle, -⟩ := sl_get (by decide) he
  clear hh he
  have hfull : rangeB (GQ.qu ⟨T, wi, .slice Ah hv.length ch, hv, .slice Ae em.length ce, em⟩) = (decide (wi ≤ 10000) && timesL (lfL (subsT T))) := by unfold timesL; rw [lf_all T timesT timesB timesT_nd]; rfl
  rw [hfull]
  clear hfull
  obtain ⟨E, hE⟩ : ∃ E : Int, E = if (decide (wi ≤ 10000) && timesL (lfL (subsT T))) = true then 0 else 2 := ⟨_, rfl⟩
  rw [← hE]
  have hnd := fun w => wleaves_any T w
  have hseq := fun (b' : Nat) (w' : World) => wleaves_seq w T hT (by omega) b' w'
  have hmem : ∀ x ∈ lfL (subsT T), TrW w x.1 := fun x hx u hu => hT u (subs_trans (lf_mem hx) hu)
  obtain ⟨L, hL⟩ : ∃ L, L = lfL (subsT T) := ⟨_, rfl⟩
  rw [← hL] at hmem hseq hE
  have HT := hT
  have HE := Lib.hid hE
  clear hL hE
  have hone := hT.one
  obtain ⟨k, mn, mx, ⟨⟨kd, bd, bn, cs, nm⟩, sc⟩, sk, ks⟩ := T
  obtain ⟨-, ⟨-, hsc⟩, hsl⟩ := hone
  simp only at hsc
  obtain ⟨A1, cap1, rfl, -, -⟩ := sl_get (by decide) hsc
  obtain ⟨A, cap, rfl, -, -⟩ := sl_get (by decide) hsl
  clear hsc hsl
  clear HT hT hlen
  simp only [GQ.row, Tr.row, List.cons_append, List.nil_append] at hnd hseq ⊢
  have HM := Lib.hid hmem
  have HQ := Lib.hid hseq
  clear hmem hseq
  refine (callsIn_wide (n := 5)).1 ?_
  refine callsIn_of_wp_marks Tryz.func106 rfl trivial ?_ rfl
  simp only [Tryz.ntmps106, List.size_toArray, List.length_cons, List.length_nil, Nat.reduceAdd, Nat.reduceSub, Array.replicate_succ, Array.replicate_zero, List.push_toArray, List.append_toArray, List.nil_append, List.cons_append]
  have hout := fun e => show (w.alloc (.cells #[.int .i64 k, .int .i64 mn, .int .i64 mx, .int .i64 kd, .bool bd, .int .u64 bn, .slice A1 cs.length cap1, .string (strOf nm), .slice A ks.length cap, .int .u64 wi, .slice Ah hv.length ch, .slice Ae em.length ce] 35)).heap.size = w.heap.size + 1 ∧ ResP w (w.heap.size + 1) e ((w.alloc (.cells #[.int .i64 k, .int .i64 mn, .int .i64 mx, .int .i64 kd, .bool bd, .int .u64 bn, .slice A1 cs.length cap1, .string (strOf nm), .slice A ks.length cap, .int .u64 wi, .slice Ah hv.length ch, .slice Ae em.length ce] 35)).alloc (.cells #[.int .i64 e] 23)) from
    ⟨by simp, by have := Bx.new (w.alloc (.cells #[.int .i64 k, .int .i64 mn, .int .i64 mx, .int .i64 kd, .bool bd, .int .u64 bn, .slice A1 cs.length cap1, .string (strOf nm), .slice A ks.length cap, .int .u64 wi, .slice Ah hv.length ch, .slice Ae em.length ce] 35)) [.int .i64 e] 23; rw [World.size_alloc] at this; exact this, b2 _ _ _⟩
  have HO := Lib.hid hout
  have hz := fun (_ : Nat) => show (((w.alloc (.cells #[.int .i64 k, .int .i64 mn, .int .i64 mx, .int .i64 kd, .bool bd, .int .u64 bn, .slice A1 cs.length cap1, .string (strOf nm), .slice A ks.length cap, .int .u64 wi, .slice Ah hv.length ch, .slice Ae em.length ce] 35)).alloc (.cells #[.int .i64 0] 23)).alloc (.cells #[.int .i64 k, .int .i64 mn, .int .i64 mx, .int .i64 kd, .bool bd, .int .u64 bn, .slice A1 cs.length cap1, .string (strOf nm), .slice A ks.length cap] 31)).heap.size = w.heap.size + 3 ∧ ResP w (w.heap.size + 1) 0 (((w.alloc (.cells #[.int .i64 k, .int .i64 mn, .int .i64 mx, .int .i64 kd, .bool bd, .int .u64 bn, .slice A1 cs.length cap1, .string (strOf nm), .slice A ks.length cap, .int .u64 wi, .slice Ah hv.length ch, .slice Ae em.length ce] 35)).alloc (.cells #[.int .i64 0] 23)).alloc (.cells #[.int .i64 k, .int .i64 mn, .int .i64 mx, .int .i64 kd, .bool bd, .int .u64 bn, .slice A1 cs.length cap1, .string (strOf nm), .slice A ks.length cap] 31)) ∧ Bx (((w.alloc (.cells #[.int .i64 k, .int .i64 mn, .int .i64 mx, .int .i64 kd, .bool bd, .int .u64 bn, .slice A1 cs.length cap1, .string (strOf nm), .slice A ks.length cap, .int .u64 wi, .slice Ah hv.length ch, .slice Ae em.length ce] 35)).alloc (.cells #[.int .i64 0] 23)).alloc (.cells #[.int .i64 k, .int .i64 mn, .int .i64 mx, .int .i64 kd, .bool bd, .int .u64 bn, .slice A1 cs.length cap1, .string (strOf nm), .slice A ks.length cap] 31)) (w.heap.size + 1 + 1) 31 [.int .i64 k, .int .i64 mn, .int .i64 mx, .int .i64 kd, .bool bd, .int .u64 bn, .slice A1 cs.length cap1, .string (strOf nm), .slice A ks.length cap] from by
    have h1 := (hout 0).1
    have h2 := (hout 0).2
    have h4 := Bx.new ((w.alloc (.cells #[.int .i64 k, .int .i64 mn, .int .i64 mx, .int .i64 kd, .bool bd, .int .u64 bn, .slice A1 cs.length cap1, .string (strOf nm), .slice A ks.length cap, .int .u64 wi, .slice Ah hv.length ch, .slice Ae em.length ce] 35)).alloc (.cells #[.int .i64 0] 23)) [.int .i64 k, .int .i64 mn, .int .i64 mx, .int .i64 kd, .bool bd, .int .u64 bn, .slice A1 cs.length cap1, .string (strOf nm), .slice A ks.length cap] 31
    rw [World.size_alloc, h1] at h4
    exact ⟨by simp, h2.later (b1 _ _), h4⟩
  have HZ := Lib.hid hz
  clear hout hz
  by_cases h4 : 10000 < wi
  · have HH : RowKit.Hid (E = 2) := Lib.hid (by rw [HE.out, decide_eq_false (by omega)]; rfl)
    clear hnd
    gi_wp2
    exact fin_none (fun W h => by simp [results, Tryz.f106, go_sem, h.cell]) ((HO.out 2).2.eq HH.out)
  have HEE : RowKit.Hid (E = if timesL L = true then 0 else 2) := Lib.hid (by rw [HE.out, decide_eq_true (by omega), Bool.true_and])
  clear HE
  gi_wp2_with (refine ⟨trivial, ?_⟩; refine (callsIn_wide.2 (hnd _)).mono ?_; rintro e w' ⟨rfl, rfl⟩)
  clear hnd
  have hW3 := HZ.out 0
  obtain ⟨W3, hW3e⟩ : ∃ W3, W3 = ((w.alloc (.cells #[.int .i64 k, .int .i64 mn, .int .i64 mx, .int .i64 kd, .bool bd, .int .u64 bn, .slice A1 cs.length cap1, .string (strOf nm), .slice A ks.length cap, .int .u64 wi, .slice Ah hv.length ch, .slice Ae em.length ce] 35)).alloc (.cells #[.int .i64 0] 23)).alloc (.cells #[.int .i64 k, .int .i64 mn, .int .i64 mx, .int .i64 kd, .bool bd, .int .u64 bn, .slice A1 cs.length cap1, .string (strOf nm), .slice A ks.length cap] 31) := ⟨_, rfl⟩
  rw [← hW3e] at hW3
  rw [← hW3e]
  obtain ⟨hsz3, hR3, hN3⟩ := hW3
  have hseq := HQ.out (w.heap.size + 1 + 1) W3 (SameB.of hR3.2) hN3
  clear hW3e HQ hN3 HO HZ
  refine wpIn_range_own (gf := 121) (lb := #[.pointer (some ⟨w.heap.size + 1 + 1, 0, none⟩)]) rfl (enters_of Tryz.func121 (by kernel_rfl) rfl)
    hseq (by omega) (Below.refl _ _) (fun _ => rfl)
    (fun pre Wx => timesL pre = true ∧ ResP w (w.heap.size + 1) 0 Wx)
    (fun pre Wx => timesL pre = false ∧ ResP w (w.heap.size + 1) 2 Wx)
    ?hI ?hIx ?h0 (fun x act Wx => ∃ b5, w.heap.size + 1 < b5 ∧ Bx Wx b5 31 x.1.row ∧ act = { tmps := #[.agg #[.int .i64 k, .int .i64 mn, .int .i64 mx, .int .i64 kd, .bool bd, .int .u64 bn, .slice A1 cs.length cap1, .string (strOf nm), .slice A ks.length cap, .int .u64 wi, .slice Ah hv.length ch, .slice Ae em.length ce], .pointer (some ⟨w.heap.size, 0, none⟩), .pointer (some ⟨w.heap.size + 1, 0, none⟩), undef, .pointer (some ⟨b5, 0, none⟩), .pointer (some ⟨w.heap.size, 9, none⟩), .int .u64 wi, .bool false, .pointer (some ⟨w.heap.size, 0, none⟩), .agg #[.int .i64 k, .int .i64 mn, .int .i64 mx, .int .i64 kd, .bool bd, .int .u64 bn, .slice A1 cs.length cap1, .string (strOf nm), .slice A ks.length cap], .func (.func 121) #[] #[.pointer (some ⟨w.heap.size + 1 + 1, 0, none⟩)], .int .i64 (x.2 : Int), .agg x.1.row.toArray, undef, undef, undef, undef, undef, undef, undef, undef, undef, undef, undef, undef, undef, undef, undef, undef, undef, undef, undef, undef, undef], defers := [] }) ?hA ?assign ?body ?done ?stop
  case hI =>
    rintro s Wx Wy ⟨g0, g1⟩ ht
    exact ⟨g0, g1.turn ht (by omega)⟩
  case hIx =>
    rintro s Wx Wy ⟨g0, g1⟩ ht
    exact ⟨g0, g1.turn ht (by omega)⟩
  case h0 => exact ⟨rfl, hR3⟩
  case hA =>
    rintro x act s Wx Wy row ⟨b5, h1, h2, h3⟩ hg hr
    exact ⟨b5, h1, bx_noncells h2 hg (fun j e => (hr j e).2), h3⟩
  case assign =>
    intro l2 pre x Wx K hp hsz hi hK
    have ho := (HM.out x (hp.subset (by simp))).one
    obtain ⟨x, c⟩ := x
    obtain ⟨k2, mn2, mx2, ⟨⟨kd2, bd2, bn2, cs2, nm2⟩, sc2⟩, sk2, ks2⟩ := x
    obtain ⟨-, ⟨-, e1⟩, e2⟩ := ho
    simp only at e1
    obtain ⟨A5, c5, rfl, hcl, -⟩ := sl_get (by decide) e1
    obtain ⟨A6, c6, rfl, hkl, -⟩ := sl_get (by decide) e2
    simp only [Tr.row] at hK ⊢
    clear e1 e2 hi hseq
    gi_wp2
    exact hK _ _ ⟨Wx.heap.size, by omega, Bx.new _ _ _, rfl⟩ (b1 _ _)
  case body =>
    rintro l2 pre x act Wx hp hsz ⟨g0, g1⟩ ⟨b5, hb5l, hb5, rfl⟩
    have ho := (HM.out x (hp.subset (by simp))).one
    have hrs : timesL (pre ++ [x]) = timesT x.1 := by rw [timesL_app, g0, timesL_one]; rfl
    obtain ⟨xs, hxs⟩ : ∃ xs, xs = pre ++ [x] := ⟨_, rfl⟩
    rw [← hxs] at hrs ⊢
    clear hxs hp g0
    obtain ⟨x, c⟩ := x
    obtain ⟨k2, mn2, mx2, ⟨⟨kd2, bd2, bn2, cs2, nm2⟩, sc2⟩, sk2, ks2⟩ := x
    obtain ⟨-, ⟨-, e1⟩, e2⟩ := ho
    simp only at e1
    obtain ⟨A5, c5, rfl, hcl, -⟩ := sl_get (by decide) e1
    obtain ⟨A6, c6, rfl, hkl, -⟩ := sl_get (by decide) e2
    simp only [Tr.row, timesT] at hb5 hrs ⊢
    clear e1 e2 hseq
    have hK5 := hb5.blk
    have d0 := hK5.cell 0 _ rfl
    have d1 := hK5.cell 1 _ rfl
    have d2 := hK5.cell 2 _ rfl
    have r1 := g1.cell
    have r2 := g1.fr
    have HR := Lib.hid hrs
    have G1 := Lib.hid g1
    clear hK5 hb5 hrs g1
    by_cases h1 : k2 = 1
    · subst h1
      by_cases h2 : 1 ≤ mn2
      · by_cases h3 : mn2 ≤ mx2
        · by_cases h5 : mx2 ≤ 6
          · have HR2 := Lib.hid (show timesL xs = true by rw [HR.out, decide_eq_true h2, decide_eq_true h3, decide_eq_true h5]; rfl)
            clear HR
            gi_wp2
            exact ⟨KeepW.refl _ _, HR2.out, G1.out⟩
          · have HR2 := Lib.hid (show timesL xs = false by rw [HR.out, decide_eq_true h2, decide_eq_true h3, decide_eq_false h5]; rfl)
            clear HR
            gi_wp2
            exact ⟨KeepsFrom.setCell _ _ _ _, HR2.out, G1.out.set (by omega) 2⟩
        · have HR2 := Lib.hid (show timesL xs = false by rw [HR.out, decide_eq_true h2, decide_eq_false h3]; rfl)
          clear HR
          gi_wp2
          exact ⟨KeepsFrom.setCell _ _ _ _, HR2.out, G1.out.set (by omega) 2⟩
      · have HR2 := Lib.hid (show timesL xs = false by rw [HR.out, decide_eq_false h2]; rfl)
        clear HR
        gi_wp2
        exact ⟨KeepsFrom.setCell _ _ _ _, HR2.out, G1.out.set (by omega) 2⟩
    · have HR2 := Lib.hid (show timesL xs = true by rw [HR.out, decide_eq_false h1]; rfl)
      have hkb : (k2 == 1) = false := by simpa using h1
      clear HR
      gi_wp2
      exact ⟨KeepW.refl _ _, HR2.out, G1.out⟩
  case done =>
    rintro D Wx hD ⟨g0, g1⟩ hKd
    clear hseq
    have he : E = 0 := by rw [HEE.out, if_pos g0]
    have HH := Lib.hid he
    clear he
    have HG := Lib.hid g1
    have r1 := g1.cell
    have r2 := g1.fr
    have HD := Lib.hid hKd
    clear g1 hKd g0
    gi_wp2
    exact fin_one (fun W h => by simp [results, Tryz.f106, go_sem, h.cell]) (Nat.le_refl _) (show w.heap.size ≤ D by omega) (def_set HD.out) ((HG.out.set (by omega) 0).eq HH.out)
  case stop =>
    rintro D pre Wx hD hp ⟨g0, g1⟩ hKd
    clear hseq
    have he : E = 2 := by
      rw [HEE.out, if_neg]
      intro h
      obtain ⟨r, rfl⟩ := hp
      rw [timesL_app, g0] at h
      cases h
    have HH := Lib.hid he
    clear he g0 hp
    gi_wp2
    exact fin_one (fun W h => by simp [results, Tryz.f106, go_sem, h.cell]) (Nat.le_refl _) (show w.heap.size ≤ D by omega) hKd (g1.eq HH.out)
end Go.Proofs.YtdoioaeppepndaaGreatDoor
namespace Go.Proofs.YtdoioaeppepndaaGreatDoor
open Go.RowKit Go.Shelf
open A8 W10
attribute [local go_sem] Oper.semAt_some

def othT (l : List Tr) : Bool := l.any fun t => !isNotB t.nd
theorem othT_app (a b : List Tr) : othT (a ++ b) = (othT a || othT b) := List.any_append
theorem othT_one (t : Tr) : othT [t] = !isNotB t.nd := by simp [othT]
theorem flat_take {α : Type} {f : α → List Value} {sz : Nat} (hf : ∀ x, (f x).length = sz) (l : List α) (i : Nat) : (l.take i).flatMap f = (l.flatMap f).take (i * sz) := by
  induction l generalizing i with
  | nil => simp
  | cons x l ih =>
    cases i with
    | zero => simp
    | succ i =>
      have h1 : (f x).take (i * sz + sz) = f x := List.take_of_length_le (by rw [hf]; omega)
      have h2 : i * sz + sz - sz = i * sz := by omega
      rw [List.take_succ_cons, List.flatMap_cons, List.flatMap_cons, ih i, List.take_append, hf, Nat.succ_mul, h1, h2]
theorem flat_drop {α : Type} {f : α → List Value} {sz : Nat} (hf : ∀ x, (f x).length = sz) (l : List α) (i : Nat) : (l.drop i).flatMap f = (l.flatMap f).drop (i * sz) := by
  induction l generalizing i with
  | nil => simp
  | cons x l ih =>
    cases i with
    | zero => simp
    | succ i =>
      have h1 : (f x).drop (i * sz + sz) = [] := List.drop_of_length_le (by rw [hf]; omega)
      have h2 : i * sz + sz - sz = i * sz := by omega
      rw [List.drop_succ_cons, List.flatMap_cons, ih i, List.drop_append, hf, Nat.succ_mul, h1, h2, List.nil_append]
/-- s[:i] -/
theorem sl_take {w : World} {sz n i cap : Nat} {A : Option Addr} {us : List Value} (h : Sl w sz n (.slice A n cap) us) (hi : i ≤ n) : Sl w sz i (.slice A i cap) (us.take (i * sz)) := by
  obtain ⟨h1, h2, A', cap', h3, h4, h5, h6⟩ := h
  cases h3
  refine ⟨?_, by omega, A, cap, rfl, by omega, h5, fun j u hu => h6 j u ?_⟩
  · rw [List.length_take, h1]
    have := Nat.mul_le_mul_right sz hi
    omega
  · rw [List.getElem?_take] at hu
    split at hu
    · exact hu
    · cases hu
/-- s[i:] -/
theorem sl_drop {w : World} {sz n i cap : Nat} {a : Addr} {us : List Value} (h : Sl w sz n (.slice (some a) n cap) us) (hi : i ≤ n) : Sl w sz (n - i) (.slice (some (a.add (i * sz))) (n - i) (cap - i)) (us.drop (i * sz)) := by
  obtain ⟨h1, h2, A', cap', h3, h4, h5, h6⟩ := h
  cases h3
  refine ⟨?_, by omega, _, _, rfl, by omega, (fun h => by cases h), fun j u hu => ?_⟩
  · rw [List.length_drop, h1, Nat.sub_mul]
  · rw [List.getElem?_drop] at hu
    obtain ⟨a', ha, hb, hc⟩ := h6 _ u hu
    cases ha
    exact ⟨_, rfl, by rw [add_block]; exact hb, by rw [Go.Deep.add_add]; exact hc⟩
theorem sl_none {w : World} {sz : Nat} {A : Option Addr} {cap : Nat} (h : A = none → cap = 0) : Sl w sz 0 (.slice A 0 cap) [] := ⟨by simp, by unfold maxLen; omega, A, cap, rfl, by omega, h, fun i u h => by simp at h⟩
set_option maxRecDepth 100000 in
set_option maxHeartbeats 4000000 in
theorem hasOther_any (ts : List Tr) (v : Value) (w : World) (ho : ∀ t ∈ ts, OneT w t) (h : Sl w 9 ts.length v (ts.flatMap Tr.row)) :
    Calls Tryz.prog 132 #[v] w fun e w' => e = .returned (.bool (othT ts)) ∧ Below w.heap.size w w' := by
  obtain ⟨A, cap, rfl, hlen, hels⟩ := sl_els (by decide) row_len h
  have hin := fun (t : Tr) (w : World) => isNot_any t w
  have HE := Lib.hid hels
  have HO := Lib.hid ho
  obtain ⟨R, hR⟩ : ∃ R, R = othT ts := ⟨_, rfl⟩
  rw [← hR]
  have HR := Lib.hid hR
  clear h hels ho hR
  go_enter Tryz.func132, Tryz.ntmps132
  go_wp2
  go_loopw [7] (fun v wr => ∃ i : Nat, i ≤ ts.length ∧ v = .int .i64 (i : Int) ∧ Below w.heap.size w wr ∧ othT (ts.take i) = false) (fun v _ => ts.length - (intOf v).toNat)
  case atStart => exact ⟨0, Nat.zero_le _, rfl, Below.refl _ _, rfl⟩
  case round =>
    obtain ⟨i, hi, rfl, hb, hno⟩ := hrel
    by_cases hlt : i < ts.length
    · obtain ⟨a, rfl, ha, E⟩ := HE.out i hlt
      replace E := E.later hb
      have hone := HO.out ts[i] (List.getElem_mem hlt)
      have h1 : (i : Int) < (ts.length : Int) := by omega
      have hwk : IntKind.i64.wrap ((i : Int) + 1) = (i : Int) + 1 := IntWalk.i64_in _ ⟨by omega, by omega⟩
      have hsn : othT (ts.take (i + 1)) = !isNotB ts[i].nd := by rw [take_snoc ts i hlt, othT_app, hno, othT_one]; rfl
      have hyes : othT (ts.take (i + 1)) = true → R = true := fun h => by
        rw [HR.out, ← List.take_append_drop (i + 1) ts, othT_app, h]
        rfl
      obtain ⟨t, ht⟩ : ∃ t, t = ts[i] := ⟨_, rfl⟩
      rw [← ht] at E hone hsn
      replace hin := hin t
      clear ht
      obtain ⟨k, mn, mx, ⟨⟨kd, bd, bn, cs, nm⟩, sc⟩, sk, ks⟩ := t
      obtain ⟨-, ⟨-, g1⟩, g2⟩ := hone
      simp only at g1
      obtain ⟨A5, c5, rfl, -, -⟩ := sl_get (by decide) g1
      obtain ⟨A6, c6, rfl, -, -⟩ := sl_get (by decide) g2
      simp only [Tr.row] at E hin
      have e0 := E.at0 _ rfl
      have e1 := E.at1 1 _ (by decide) rfl
      have e2 := E.at1 2 _ (by decide) rfl
      have e3 := E.at1 3 _ (by decide) rfl
      have e4 := E.at1 4 _ (by decide) rfl
      have e5 := E.at1 5 _ (by decide) rfl
      have e6 := E.at1 6 _ (by decide) rfl
      have e7 := E.at1 7 _ (by decide) rfl
      have e8 := E.at1 8 _ (by decide) rfl
      obtain ⟨q, hq⟩ : ∃ q, q = isNotB (Tr.nd (.mk k mn mx ⟨⟨kd, bd, bn, cs, nm⟩, .slice A5 cs.length c5⟩ (.slice A6 ks.length c6) ks)) := ⟨_, rfl⟩
      rw [← hq] at hsn hin
      have HS := Lib.hid hsn
      have HY := Lib.hid hyes
      have HB := Lib.hid hb
      clear g1 g2 E hsn hyes hb hno hq HO HE
      cases q with
      | true =>
        go_wp2_with (go_at_call 118; refine (hin _).mono ?_; rintro e w2 ⟨rfl, hb2⟩)
        go_roundw
        case rel => exact ⟨i + 1, by omega, by rfl, bstep HB.out ((b1 _ _).trans (hb2.mono (by simp))), by rw [HS.out]; rfl⟩
        case measure => simp [intOf]; omega
      | false =>
        have HT := Lib.hid (HY.out (by rw [HS.out]; rfl))
        clear HY
        go_wp2_with (go_at_call 118; refine (hin _).mono ?_; rintro e w2 ⟨rfl, hb2⟩)
        go_ret
        exact ⟨by rw [HT.out]; rfl, bstep HB.out ((b1 _ _).trans (hb2.mono (by simp)))⟩
    · have h1 : ¬ (i : Int) < (ts.length : Int) := by omega
      have hall : ts.take i = ts := by rw [List.take_of_length_le (by omega)]
      rw [hall] at hno
      have HN := Lib.hid hno
      clear HE HO hall hno
      go_wp2
      go_ret
      exact ⟨by rw [HR.out, HN.out]; rfl, hb⟩
end Go.Proofs.YtdoioaeppepndaaGreatDoor
namespace Go.Proofs.YtdoioaeppepndaaGreatDoor
open Go.RowKit Go.Shelf
open A8 W10
attribute [local go_sem] Oper.semAt_some
theorem undef_not_bool (b : Bool) : (some undef = some (Value.bool b)) = False := by
  simp [undef]
attribute [local go_sem, local simp] undef_not_bool

def standK (k : Int) (ks : List Tr) (i : Nat) : Bool := match ks[i]? with
  | none => true
  | some t => !isNotB t.nd || (decide (k = 3) && othT (ks.take i) && othT (ks.drop (i + 1)))
def standT : Tr → Bool | .mk k _ _ _ _ ks => (List.range ks.length).all (standK k ks)
def standsT (l : List Tr) : Bool := l.all standT
theorem standsT_app (a b : List Tr) : standsT (a ++ b) = (standsT a && standsT b) := List.all_append
theorem standsT_one (t : Tr) : standsT [t] = standT t := by simp [standsT]
theorem othT_nd (l : List Tr) : othT l = otherB (l.map Tr.nd) := by
  unfold othT otherB
  rw [List.any_map]
  rfl
theorem standT_nd (t : Tr) : standT t = standsN t.nd := by
  cases t with
  | mk k mn mx g sk ks =>
    rw [nd_mk]
    show (List.range ks.length).all (standK k ks) = (List.range (ks.map Tr.nd).length).all (standL k (ks.map Tr.nd))
    rw [List.length_map]
    congr 1
    funext i
    unfold standK standL
    rw [List.getElem?_map]
    cases ks[i]? with
    | none => rfl
    | some t =>
      show (!isNotB t.nd || (decide (k = 3) && othT (ks.take i) && othT (ks.drop (i + 1)))) = (!isNotB t.nd || (decide (k = 3) && otherB ((ks.map Tr.nd).take i) && otherB ((ks.map Tr.nd).drop (i + 1))))
      rw [othT_nd, othT_nd, List.map_take, List.map_drop]
theorem standsT_nd (T : Tr) : standsT (subsT T) = (subsN T.nd).all standsN := by
  unfold standsT
  rw [← subs_nd10, List.all_map]
  congr 1
  exact funext standT_nd
theorem range_snoc_all (f : Nat → Bool) (i : Nat) : (List.range (i + 1)).all f = ((List.range i).all f && f i) := by
  rw [List.range_succ, List.all_append]
  simp
set_option maxRecDepth 100000 in
set_option maxHeartbeats 8000000 in
theorem checkNots_any (q : GQ) (w : World) (hq : QW w q) (hlen : (subsT q.t).length ≤ 999999) :
    Calls Tryz.prog 107 #[.agg q.row.toArray] w fun e w' => e = .returned (.int .i64 (if notsB q.qu.p = true then 0 else 9)) ∧ Below w.heap.size w w' := by
  obtain ⟨T, wi, sh, hv, se, em⟩ := q
  obtain ⟨hT, hwi, hh, he, -, -⟩ := hq
  simp only at hT hh he hlen hwi
  obtain ⟨Ah, ch, rfl, hlh, -⟩ := sl_get (by decide) hh
  obtain ⟨Ae, ce, rfl, hle, -⟩ := sl_get (by decide) he
  clear hh he
  have hfull : notsB (GQ.qu ⟨T, wi, .slice Ah hv.length ch, hv, .slice Ae em.length ce, em⟩).p = (!isNotB T.nd && standsT (subsT T)) := by rw [standsT_nd]; rfl
  rw [hfull]
  clear hfull
  obtain ⟨E, hE⟩ : ∃ E : Int, E = if (!isNotB T.nd && standsT (subsT T)) = true then 0 else 9 := ⟨_, rfl⟩
  rw [← hE]
  have hnd := fun w => wnodes_any T w
  have hin := fun w => isNot_any T w
  have hin2 := fun (t : Tr) w => isNot_any t w
  have hoth := fun (ts : List Tr) (v : Value) (w' : World) (hb : Below w.heap.size w w') (ho : ∀ t ∈ ts, OneT w t) (h : Sl w 9 ts.length v (ts.flatMap Tr.row)) => hasOther_any ts v w' (fun t ht => (ho t ht).later hb) (h.later hb)
  have hseq := fun (b' : Nat) (w' : World) => wnodes_seq w T hT b' w'
  have hmem : ∀ x ∈ subsT T, TrW w x := fun x hx u hu => hT u (subs_trans hx hu)
  obtain ⟨L, hL⟩ : ∃ L, L = subsT T := ⟨_, rfl⟩
  rw [← hL] at hmem hseq hE
  have HT := hT
  obtain ⟨q0, hq0⟩ : ∃ q0, q0 = isNotB T.nd := ⟨_, rfl⟩
  rw [← hq0] at hE hin
  have HE := Lib.hid hE
  clear hL hE hq0
  have hone := hT.one
  obtain ⟨k, mn, mx, ⟨⟨kd, bd, bn, cs, nm⟩, sc⟩, sk, ks⟩ := T
  obtain ⟨-, ⟨-, hsc⟩, hsl⟩ := hone
  simp only at hsc
  obtain ⟨A1, cap1, rfl, -, -⟩ := sl_get (by decide) hsc
  obtain ⟨A, cap, rfl, -, -⟩ := sl_get (by decide) hsl
  clear hsc hsl
  clear HT hT hlen
  simp only [GQ.row, Tr.row, List.cons_append, List.nil_append] at hnd hseq hin ⊢
  have HM := Lib.hid hmem
  have HQ := Lib.hid hseq
  have HOT := Lib.hid hoth
  clear hmem hseq hoth
  refine (callsIn_wide (n := 5)).1 ?_
  refine callsIn_of_wp_marks Tryz.func107 rfl trivial ?_ rfl
  simp only [Tryz.ntmps107, List.size_toArray, List.length_cons, List.length_nil, Nat.reduceAdd, Nat.reduceSub, Array.replicate_succ, Array.replicate_zero, List.push_toArray, List.append_toArray, List.nil_append, List.cons_append]
  have hbx : ∀ w1, Below ((w.alloc (.cells #[.int .i64 k, .int .i64 mn, .int .i64 mx, .int .i64 kd, .bool bd, .int .u64 bn, .slice A1 cs.length cap1, .string (strOf nm), .slice A ks.length cap, .int .u64 wi, .slice Ah hv.length ch, .slice Ae em.length ce] 35)).alloc (.cells #[.int .i64 0] 23)).heap.size ((w.alloc (.cells #[.int .i64 k, .int .i64 mn, .int .i64 mx, .int .i64 kd, .bool bd, .int .u64 bn, .slice A1 cs.length cap1, .string (strOf nm), .slice A ks.length cap, .int .u64 wi, .slice Ah hv.length ch, .slice Ae em.length ce] 35)).alloc (.cells #[.int .i64 0] 23)) w1 → Blk w1 w.heap.size [.int .i64 k, .int .i64 mn, .int .i64 mx, .int .i64 kd, .bool bd, .int .u64 bn, .slice A1 cs.length cap1, .string (strOf nm), .slice A ks.length cap, .int .u64 wi, .slice Ah hv.length ch, .slice Ae em.length ce] ∧ ResP w (w.heap.size + 1) 0 w1 := fun w1 hb => ⟨(((Bx.new w [.int .i64 k, .int .i64 mn, .int .i64 mx, .int .i64 kd, .bool bd, .int .u64 bn, .slice A1 cs.length cap1, .string (strOf nm), .slice A ks.length cap, .int .u64 wi, .slice Ah hv.length ch, .slice Ae em.length ce] 35).later (b1 _ _)).later hb).blk, by
    have := Bx.new (w.alloc (.cells #[.int .i64 k, .int .i64 mn, .int .i64 mx, .int .i64 kd, .bool bd, .int .u64 bn, .slice A1 cs.length cap1, .string (strOf nm), .slice A ks.length cap, .int .u64 wi, .slice Ah hv.length ch, .slice Ae em.length ce] 35)) [.int .i64 0] 23
    rw [World.size_alloc] at this
    exact ⟨this.later hb, bstep (b2 _ _ _) hb⟩⟩
  have HX := Lib.hid hbx
  clear hbx
  cases q0 with
  | true =>
    have HH : RowKit.Hid (E = 9) := Lib.hid (by rw [HE.out]; rfl)
    have hcl : ∀ w1, Below ((w.alloc (.cells #[.int .i64 k, .int .i64 mn, .int .i64 mx, .int .i64 kd, .bool bd, .int .u64 bn, .slice A1 cs.length cap1, .string (strOf nm), .slice A ks.length cap, .int .u64 wi, .slice Ah hv.length ch, .slice Ae em.length ce] 35)).alloc (.cells #[.int .i64 0] 23)).heap.size ((w.alloc (.cells #[.int .i64 k, .int .i64 mn, .int .i64 mx, .int .i64 kd, .bool bd, .int .u64 bn, .slice A1 cs.length cap1, .string (strOf nm), .slice A ks.length cap, .int .u64 wi, .slice Ah hv.length ch, .slice Ae em.length ce] 35)).alloc (.cells #[.int .i64 0] 23)) w1 → w1.cell? ⟨w.heap.size + 1, 0, none⟩ = some (.int .i64 0) ∧ w1.frozen? ⟨w.heap.size + 1, 0, none⟩ = false := fun w1 hb => ⟨(HX.out w1 hb).2.cell, (HX.out w1 hb).2.fr⟩
    clear hnd
    gi_wp2_with (refine ⟨trivial, ?_⟩; refine (callsIn_wide.2 (hin _)).mono ?_; rintro e w2 ⟨rfl, hb2⟩; obtain ⟨z1, z2⟩ := hcl w2 hb2; clear hcl)
    exact fin_none (fun W h => by simp [results, Tryz.f107, go_sem, h.cell]) (((HX.out w2 hb2).2.set (by omega) 9).eq HH.out)
  | false =>
    have HEE : RowKit.Hid (E = if standsT L = true then 0 else 9) := Lib.hid (by rw [HE.out]; rfl)
    clear HE
    have hcl : ∀ w1, Below ((w.alloc (.cells #[.int .i64 k, .int .i64 mn, .int .i64 mx, .int .i64 kd, .bool bd, .int .u64 bn, .slice A1 cs.length cap1, .string (strOf nm), .slice A ks.length cap, .int .u64 wi, .slice Ah hv.length ch, .slice Ae em.length ce] 35)).alloc (.cells #[.int .i64 0] 23)).heap.size ((w.alloc (.cells #[.int .i64 k, .int .i64 mn, .int .i64 mx, .int .i64 kd, .bool bd, .int .u64 bn, .slice A1 cs.length cap1, .string (strOf nm), .slice A ks.length cap, .int .u64 wi, .slice Ah hv.length ch, .slice Ae em.length ce] 35)).alloc (.cells #[.int .i64 0] 23)) w1 → ∀ i v, [.int .i64 k, .int .i64 mn, .int .i64 mx, .int .i64 kd, .bool bd, .int .u64 bn, .slice A1 cs.length cap1, .string (strOf nm), .slice A ks.length cap, .int .u64 wi, .slice Ah hv.length ch, .slice Ae em.length ce][i]? = some v → w1.cell? ⟨w.heap.size, i, none⟩ = some v := fun w1 hb => (HX.out w1 hb).1.cell
    have HCL := Lib.hid hcl
    clear hcl
    gi_wp2_with (first | (refine ⟨trivial, ?_⟩; with_reducible refine (callsIn_wide.2 (hin _)).mono ?_; rintro e w2 ⟨rfl, hb2⟩; have z0 := HCL.out w2 hb2 0 _ rfl; have z1 := HCL.out w2 hb2 1 _ rfl; have z2 := HCL.out w2 hb2 2 _ rfl; have z3 := HCL.out w2 hb2 3 _ rfl; have z4 := HCL.out w2 hb2 4 _ rfl; have z5 := HCL.out w2 hb2 5 _ rfl; have z6 := HCL.out w2 hb2 6 _ rfl; have z7 := HCL.out w2 hb2 7 _ rfl; have z8 := HCL.out w2 hb2 8 _ rfl) | (refine ⟨trivial, ?_⟩; refine (callsIn_wide.2 (hnd _)).mono ?_; rintro e w' ⟨rfl, rfl⟩))
    clear hnd z0 z1 z2 z3 z4 z5 z6 z7 z8 HCL hin
    have hR2 := (HX.out w2 hb2).2
    have hsz2 : w.heap.size + 2 ≤ w2.heap.size := by have := hb2.size; simp at this; omega
    obtain ⟨W3, hW3⟩ : ∃ W3, W3 = w2.alloc (.cells #[.int .i64 k, .int .i64 mn, .int .i64 mx, .int .i64 kd, .bool bd, .int .u64 bn, .slice A1 cs.length cap1, .string (strOf nm), .slice A ks.length cap] 31) := ⟨_, rfl⟩
    rw [← hW3]
    have hN3 : Bx W3 w2.heap.size 31 [.int .i64 k, .int .i64 mn, .int .i64 mx, .int .i64 kd, .bool bd, .int .u64 bn, .slice A1 cs.length cap1, .string (strOf nm), .slice A ks.length cap] := hW3 ▸ Bx.new w2 [.int .i64 k, .int .i64 mn, .int .i64 mx, .int .i64 kd, .bool bd, .int .u64 bn, .slice A1 cs.length cap1, .string (strOf nm), .slice A ks.length cap] 31
    have hR3 : ResP w (w.heap.size + 1) 0 W3 := hW3 ▸ hR2.later (b1 _ _)
    have hsz3 : W3.heap.size = w2.heap.size + 1 := by rw [hW3]; simp
    have hseq := HQ.out w2.heap.size W3 (SameB.of hR3.2) hN3
    clear hW3 hN3 HQ HX hR2 hb2
    refine wpIn_range_own (gf := 136) (lb := #[.pointer (some ⟨w2.heap.size, 0, none⟩)]) rfl (enters_of Tryz.func136 (by kernel_rfl) rfl)
      hseq (by omega) (Below.refl _ _) (fun _ => rfl)
      (fun pre Wx => standsT pre = true ∧ ResP w (w.heap.size + 1) 0 Wx)
      (fun pre Wx => standsT pre = false ∧ ResP w (w.heap.size + 1) 9 Wx)
      ?hI ?hIx ?h0 (fun x act Wx => ∃ b5, w.heap.size + 1 < b5 ∧ Bx Wx b5 31 x.row ∧ act = { tmps := #[.agg #[.int .i64 k, .int .i64 mn, .int .i64 mx, .int .i64 kd, .bool bd, .int .u64 bn, .slice A1 cs.length cap1, .string (strOf nm), .slice A ks.length cap, .int .u64 wi, .slice Ah hv.length ch, .slice Ae em.length ce], .pointer (some ⟨w.heap.size, 0, none⟩), .pointer (some ⟨w.heap.size + 1, 0, none⟩), .pointer (some ⟨b5, 0, none⟩), undef, undef, .pointer (some ⟨w.heap.size, 0, none⟩), .agg #[.int .i64 k, .int .i64 mn, .int .i64 mx, .int .i64 kd, .bool bd, .int .u64 bn, .slice A1 cs.length cap1, .string (strOf nm), .slice A ks.length cap], .bool false, .pointer (some ⟨w.heap.size, 0, none⟩), .agg #[.int .i64 k, .int .i64 mn, .int .i64 mx, .int .i64 kd, .bool bd, .int .u64 bn, .slice A1 cs.length cap1, .string (strOf nm), .slice A ks.length cap], .func (.func 136) #[] #[.pointer (some ⟨w2.heap.size, 0, none⟩)], .agg x.row.toArray, undef, undef, undef, undef, undef, undef, undef, undef, undef, undef, undef, undef, undef, undef, undef, undef, undef, undef, undef, undef, undef, undef, undef, undef, undef, undef, undef, undef, undef, undef, undef, undef], defers := [] }) ?hA ?assign ?body ?done ?stop
    case hI =>
      rintro s Wx Wy ⟨g0, g1⟩ ht
      exact ⟨g0, g1.turn ht (by omega)⟩
    case hIx =>
      rintro s Wx Wy ⟨g0, g1⟩ ht
      exact ⟨g0, g1.turn ht (by omega)⟩
    case h0 => exact ⟨rfl, hR3⟩
    case hA =>
      rintro x act s Wx Wy row ⟨b5, h1, h2, h3⟩ hg hr
      exact ⟨b5, h1, bx_noncells h2 hg (fun j e => (hr j e).2), h3⟩
    case assign =>
      intro l2 pre x Wx K hp hsz hi hK
      have ho := (HM.out x (hp.subset (by simp))).one
      obtain ⟨k2, mn2, mx2, ⟨⟨kd2, bd2, bn2, cs2, nm2⟩, sc2⟩, sk2, ks2⟩ := x
      obtain ⟨-, ⟨-, e1⟩, e2⟩ := ho
      simp only at e1
      obtain ⟨A5, c5, rfl, hcl, -⟩ := sl_get (by decide) e1
      obtain ⟨A6, c6, rfl, hkl, -⟩ := sl_get (by decide) e2
      simp only [Tr.row] at hK ⊢
      clear e1 e2 hi hseq
      gi_wp2
      exact hK _ _ ⟨Wx.heap.size, by omega, Bx.new _ _ _, rfl⟩ (b1 _ _)
    case body =>
      rintro l2 pre x act Wx hp hsz ⟨g0, g1⟩ ⟨b5, hb5l, hb5, rfl⟩
      have htx := HM.out x (hp.subset (by simp))
      have ho := htx.one
      have hrs : standsT (pre ++ [x]) = standT x := by rw [standsT_app, g0, standsT_one]; rfl
      obtain ⟨xs, hxs⟩ : ∃ xs, xs = pre ++ [x] := ⟨_, rfl⟩
      rw [← hxs] at hrs ⊢
      clear hxs hp g0
      obtain ⟨k2, mn2, mx2, ⟨⟨kd2, bd2, bn2, cs2, nm2⟩, sc2⟩, sk2, ks2⟩ := x
      have hkid : ∀ t ∈ ks2, OneT w t := fun t ht => (htx.kid ht).one
      obtain ⟨-, ⟨-, e1⟩, e2⟩ := ho
      simp only at e1
      obtain ⟨A5, c5, rfl, hcl, -⟩ := sl_get (by decide) e1
      obtain ⟨A6, c6, rfl, hkl, hels⟩ := sl_els (by decide) row_len e2
      have hsl6 := e2
      simp only [Tr.row, standT] at hb5 hrs ⊢
      clear e1 e2 hseq htx
      have d0 := hb5.blk.cell 0 _ rfl
      have d8 := hb5.blk.cell 8 _ rfl
      have r1 := g1.cell
      have HR := Lib.hid hrs
      have G1 := Lib.hid g1
      have HK := Lib.hid hkid
      have HS := Lib.hid hsl6
      have HEl := Lib.hid hels
      have HB5 := Lib.hid hb5
      clear hb5 hrs g1 hkid hsl6 hels r1 d0
      gi_wp2
      gi_loopw [16] (fun v wr => ∃ i : Nat, i ≤ ks2.length ∧ v = .int .i64 (i : Int) ∧ Below Wx.heap.size Wx wr ∧ (List.range i).all (standK k2 ks2) = true) (fun v _ => ks2.length - (intOf v).toNat)
      case atStart => exact ⟨0, Nat.zero_le _, rfl, Below.refl _ _, rfl⟩
      case round =>
        obtain ⟨i, hi, rfl, hbr, hall⟩ := hrel
        by_cases hlt : i < ks2.length
        · obtain ⟨a, rfl, ha, E1⟩ := HEl.out i hlt
          have hbw := bstep G1.out.2 hbr
          replace E1 := E1.later hbw
          have hone := HK.out ks2[i] (List.getElem_mem hlt)
          have h1 : (i : Int) < (ks2.length : Int) := by omega
          have hwk : IntKind.i64.wrap ((i : Int) + 1) = (i : Int) + 1 := IntWalk.i64_in _ ⟨by omega, by omega⟩
          have hst : (List.range (i + 1)).all (standK k2 ks2) = standK k2 ks2 i := by rw [range_snoc_all, hall]; rfl
          have hsk : standK k2 ks2 i = (!isNotB ks2[i].nd || (decide (k2 = 3) && othT (ks2.take i) && othT (ks2.drop (i + 1)))) := by
            unfold standK
            rw [List.getElem?_eq_getElem hlt]
          rw [hsk] at hst
          have hfin : (List.range (i + 1)).all (standK k2 ks2) = false → standsT xs = false := fun h => by
            rw [HR.out, Bool.eq_false_iff]
            intro hx
            rw [List.all_eq_true] at hx
            rw [List.all_eq_false] at h
            obtain ⟨j, hj, hj2⟩ := h
            rw [List.mem_range] at hj
            exact hj2 (hx j (List.mem_range.2 (by omega)))
          have hcap : ks2.length ≤ c6 := by
            obtain ⟨-, -, A', cap', h3, h4, -⟩ := HS.out
            cases h3
            exact h4
          have hc1 : (i : Int) ≤ (c6 : Int) := by omega
          have hc1' : i ≤ c6 := by omega
          have ho1 := fun w' hb => HOT.out (ks2.take i) (.slice (some a) i c6) w' hb (fun t ht => HK.out t (List.mem_of_mem_take ht)) (by
            have := sl_take HS.out (show i ≤ ks2.length by omega)
            rw [flat_take row_len, List.length_take, Nat.min_eq_left (by omega)]
            exact this)
          have ho2 := fun w' hb => HOT.out (ks2.drop (i + 1)) (.slice (some (a.add ((i + 1) * 9))) (ks2.length - (i + 1)) (c6 - (i + 1))) w' hb (fun t ht => HK.out t (List.mem_of_mem_drop ht)) (by
            have := sl_drop HS.out (show i + 1 ≤ ks2.length by omega)
            rw [flat_drop row_len, List.length_drop]
            exact this)
          have ho3 : c6 = i + 1 → ∀ w', Below w.heap.size w w' → Calls Tryz.prog 132 #[.slice (some a) (ks2.length - (i + 1)) 0] w' fun e w'' => e = .returned (.bool (othT (ks2.drop (i + 1)))) ∧ Below w'.heap.size w' w'' := fun hc w' hb => by
            have hd : ks2.drop (i + 1) = [] := List.drop_eq_nil_of_le (by omega)
            have hl : ks2.length - (i + 1) = 0 := by omega
            rw [hd, hl]
            exact HOT.out [] _ w' hb (fun t ht => by cases ht) (sl_none (fun h => by cases h))
          obtain ⟨p1, hp1⟩ : ∃ p1, p1 = othT (ks2.take i) := ⟨_, rfl⟩
          obtain ⟨p2, hp2⟩ : ∃ p2, p2 = othT (ks2.drop (i + 1)) := ⟨_, rfl⟩
          rw [← hp1] at ho1 hst
          rw [← hp2] at ho2 ho3 hst
          replace hin2 := hin2 ks2[i]
          obtain ⟨t, ht⟩ : ∃ t, t = ks2[i] := ⟨_, rfl⟩
          rw [← ht] at E1 hone hst hin2
          obtain ⟨qn, hqn⟩ : ∃ qn, qn = isNotB t.nd := ⟨_, rfl⟩
          rw [← hqn] at hst hin2
          clear ht hp1 hp2 hqn hsk hall
          obtain ⟨k4, mn4, mx4, ⟨⟨kd4, bd4, bn4, cs4, nm4⟩, sc4⟩, sk4, ks4⟩ := t
          obtain ⟨-, ⟨-, f1⟩, f2⟩ := hone
          simp only at f1
          obtain ⟨A7, c7, rfl, -, -⟩ := sl_get (by decide) f1
          obtain ⟨A8, c8, rfl, -, -⟩ := sl_get (by decide) f2
          simp only [Tr.row] at E1 hin2
          have e0 := E1.at0 _ rfl
          have e1 := E1.at1 1 _ (by decide) rfl
          have e2 := E1.at1 2 _ (by decide) rfl
          have e3 := E1.at1 3 _ (by decide) rfl
          have e4 := E1.at1 4 _ (by decide) rfl
          have e5 := E1.at1 5 _ (by decide) rfl
          have e6 := E1.at1 6 _ (by decide) rfl
          have e7 := E1.at1 7 _ (by decide) rfl
          have e8 := E1.at1 8 _ (by decide) rfl
          have HST := Lib.hid hst
          have HF := Lib.hid hfin
          have HBR := Lib.hid hbr
          have HBW := Lib.hid hbw
          have hwx : w.heap.size + 2 ≤ Wx.heap.size := by omega
          have hd := fun w5 (hb : Below wr.heap.size wr w5) => show w5.cell? ⟨b5, 0, none⟩ = some (.int .i64 k2) ∧ w5.cell? ⟨b5, 8, none⟩ = some (.slice (some a) ks2.length c6) ∧ w5.cell? ⟨w.heap.size + 1, 0, none⟩ = some (.int .i64 0) ∧ w5.frozen? ⟨w.heap.size + 1, 0, none⟩ = false from
            have h := bstep hbr hb
            ⟨(HB5.out.later h).blk.cell 0 _ rfl, (HB5.out.later h).blk.cell 8 _ rfl, (G1.out.later h).cell, (G1.out.later h).fr⟩
          have HD := Lib.hid hd
          clear f1 f2 E1 hst hfin hbr hbw d8 hd HOT
          cases qn with
          | false =>
            have HS2 : RowKit.Hid ((List.range (i + 1)).all (standK k2 ks2) = true) := Lib.hid (by rw [HST.out]; rfl)
            clear HST HF ho1 ho2 ho3
            gi_wp2_with (refine ⟨trivial, ?_⟩; refine (callsIn_wide.2 (hin2 _)).mono ?_; rintro e w5 ⟨rfl, hb5'⟩)
            all_goals (try (exfalso; rename_i hq _; cases hq; done))
            refine ⟨trivial, ?_⟩
            gi_wp2
            all_goals (try (exfalso; rename_i hq _; cases hq; done))
            refine ⟨trivial, ?_⟩
            gi_wp2
            go_roundw
            case rel => exact ⟨i + 1, by omega, by rfl, bstep HBR.out (bstep (b1 _ _) hb5'), HS2.out⟩
            case measure => simp [intOf]; omega
          | true =>
            by_cases h3 : k2 = 3
            · cases p1 with
              | false =>
                have HS2 : RowKit.Hid (standsT xs = false) := Lib.hid (HF.out (by rw [HST.out]; simp))
                subst h3
                clear HST HF ho2 ho3
                gi_wp2_with (first | (refine ⟨trivial, ?_⟩; gi_at_call 118; refine (callsIn_wide.2 (hin2 _)).mono ?_; rintro e w5 ⟨rfl, hb5'⟩; obtain ⟨z1, z2, z3, z4⟩ := HD.out _ (bstep (b1 _ _) hb5')) | (refine ⟨trivial, ?_⟩; gi_at_call 132; refine (callsIn_wide.2 (ho1 _ (bstep HBW.out (bstep (b1 _ _) hb5')))).mono ?_; rintro e w6 ⟨rfl, hb6⟩; clear z1 z2 z3 z4; obtain ⟨z1, z2, z3, z4⟩ := HD.out _ (bstep (bstep (b1 _ _) hb5') hb6)))
                refine ⟨trivial, ?_⟩
                gi_wp2
                have hB6 := bstep (bstep HBR.out (bstep (b1 _ _) hb5')) hb6
                exact ⟨(KeepsFrom.of_below hB6).trans (KeepsFrom.setCell _ _ _ _), HS2.out, (G1.out.later hB6).set (by omega) 9⟩
              | true =>
                subst h3
                have hc2 : ((i : Int) + 1) ≤ (ks2.length : Int) := by omega
                cases p2 with
                | true =>
                  have HS2 : RowKit.Hid ((List.range (i + 1)).all (standK 3 ks2) = true) := Lib.hid (by rw [HST.out]; rfl)
                  clear HST HF
                  gi_wp2_with (first | (refine ⟨trivial, ?_⟩; gi_at_call 118; refine (callsIn_wide.2 (hin2 _)).mono ?_; rintro e w5 ⟨rfl, hb5'⟩; obtain ⟨z1, z2, z3, z4⟩ := HD.out _ (bstep (b1 _ _) hb5')) | (refine ⟨trivial, ?_⟩; gi_at_call 132; refine (callsIn_wide.2 (ho1 _ (bstep HBW.out (bstep (b1 _ _) hb5')))).mono ?_; rintro e w6 ⟨rfl, hb6⟩; clear z1 z2 z3 z4 ho1; obtain ⟨z1, z2, z3, z4⟩ := HD.out _ (bstep (bstep (b1 _ _) hb5') hb6)))
                  · refine ⟨trivial, ?_⟩
                    gi_at_call 132
                    refine (callsIn_wide.2 (ho3 h _ (bstep (bstep HBW.out (bstep (b1 _ _) hb5')) hb6))).mono ?_
                    rintro e w7 ⟨rfl, hb7⟩
                    subst h
                    clear z1 z2 z3 z4 ho2 ho3 e0 e1 e2 e3 e4 e5 e6 e7 e8 hc2 hc1 hc1' hcap
                    obtain ⟨-, -, z3, z4⟩ := HD.out _ (bstep (bstep (bstep (b1 _ _) hb5') hb6) hb7)
                    have hB7 := bstep (bstep (bstep HBR.out (bstep (b1 _ _) hb5')) hb6) hb7
                    gi_wp2
                    go_roundw
                    case rel => exact ⟨i + 1, by omega, by rfl, hB7, HS2.out⟩
                    case measure => simp [intOf]; omega
                  · refine ⟨trivial, ?_⟩
                    gi_at_call 132
                    refine (callsIn_wide.2 (ho2 _ (bstep (bstep HBW.out (bstep (b1 _ _) hb5')) hb6))).mono ?_
                    rintro e w7 ⟨rfl, hb7⟩
                    clear z1 z2 z3 z4 ho2 ho3 h e0 e1 e2 e3 e4 e5 e6 e7 e8 hc2 hc1 hc1' hcap
                    obtain ⟨-, -, z3, z4⟩ := HD.out _ (bstep (bstep (bstep (b1 _ _) hb5') hb6) hb7)
                    have hB7 := bstep (bstep (bstep HBR.out (bstep (b1 _ _) hb5')) hb6) hb7
                    gi_wp2
                    go_roundw
                    case rel => exact ⟨i + 1, by omega, by rfl, hB7, HS2.out⟩
                    case measure => simp [intOf]; omega
                | false =>
                  have HS2 : RowKit.Hid (standsT xs = false) := Lib.hid (HF.out (by rw [HST.out]; rfl))
                  clear HST HF
                  gi_wp2_with (first | (refine ⟨trivial, ?_⟩; gi_at_call 118; refine (callsIn_wide.2 (hin2 _)).mono ?_; rintro e w5 ⟨rfl, hb5'⟩; obtain ⟨z1, z2, z3, z4⟩ := HD.out _ (bstep (b1 _ _) hb5')) | (refine ⟨trivial, ?_⟩; gi_at_call 132; refine (callsIn_wide.2 (ho1 _ (bstep HBW.out (bstep (b1 _ _) hb5')))).mono ?_; rintro e w6 ⟨rfl, hb6⟩; clear z1 z2 z3 z4 ho1; obtain ⟨z1, z2, z3, z4⟩ := HD.out _ (bstep (bstep (b1 _ _) hb5') hb6)))
                  · refine ⟨trivial, ?_⟩
                    gi_at_call 132
                    refine (callsIn_wide.2 (ho3 h _ (bstep (bstep HBW.out (bstep (b1 _ _) hb5')) hb6))).mono ?_
                    rintro e w7 ⟨rfl, hb7⟩
                    subst h
                    clear z1 z2 z3 z4 ho2 ho3 e0 e1 e2 e3 e4 e5 e6 e7 e8 hc2 hc1 hc1' hcap
                    obtain ⟨-, -, z3, z4⟩ := HD.out _ (bstep (bstep (bstep (b1 _ _) hb5') hb6) hb7)
                    have hB7 := bstep (bstep (bstep HBR.out (bstep (b1 _ _) hb5')) hb6) hb7
                    gi_wp2
                    exact ⟨(KeepsFrom.of_below hB7).trans (KeepsFrom.setCell _ _ _ _), HS2.out, (G1.out.later hB7).set (by omega) 9⟩
                  · refine ⟨trivial, ?_⟩
                    gi_at_call 132
                    refine (callsIn_wide.2 (ho2 _ (bstep (bstep HBW.out (bstep (b1 _ _) hb5')) hb6))).mono ?_
                    rintro e w7 ⟨rfl, hb7⟩
                    clear z1 z2 z3 z4 ho2 ho3 h e0 e1 e2 e3 e4 e5 e6 e7 e8 hc2 hc1 hc1' hcap
                    obtain ⟨-, -, z3, z4⟩ := HD.out _ (bstep (bstep (bstep (b1 _ _) hb5') hb6) hb7)
                    have hB7 := bstep (bstep (bstep HBR.out (bstep (b1 _ _) hb5')) hb6) hb7
                    gi_wp2
                    exact ⟨(KeepsFrom.of_below hB7).trans (KeepsFrom.setCell _ _ _ _), HS2.out, (G1.out.later hB7).set (by omega) 9⟩
            · have HS2 : RowKit.Hid (standsT xs = false) := Lib.hid (HF.out (by rw [HST.out]; simp [h3]))
              have h3b : (k2 == 3) = false := by simpa using h3
              clear HST HF ho1 ho2 ho3
              gi_wp2_with (refine ⟨trivial, ?_⟩; gi_at_call 118; refine (callsIn_wide.2 (hin2 _)).mono ?_; rintro e w5 ⟨rfl, hb5'⟩; obtain ⟨z1, z2, z3, z4⟩ := HD.out _ (bstep (b1 _ _) hb5'))
              refine ⟨trivial, ?_⟩
              gi_wp2
              refine ⟨trivial, ?_⟩
              gi_wp2
              have hB6 := bstep HBR.out (bstep (b1 _ _) hb5')
              exact ⟨(KeepsFrom.of_below hB6).trans (KeepsFrom.setCell _ _ _ _), HS2.out, (G1.out.later hB6).set (by omega) 9⟩
        · have h1 : ¬ (i : Int) < (ks2.length : Int) := by omega
          have hie : i = ks2.length := by omega
          rw [hie] at hall
          have HS2 : RowKit.Hid (standsT xs = true) := Lib.hid (by rw [HR.out]; exact hall)
          have hbw := bstep G1.out.2 hbr
          clear hall HEl
          gi_wp2
          exact ⟨KeepW.of hbr, HS2.out, G1.out.later hbr⟩
    case done =>
      rintro D Wx hD ⟨g0, g1⟩ hKd
      clear hseq
      have he : E = 0 := by rw [HEE.out, if_pos g0]
      have HH := Lib.hid he
      clear he
      have HG := Lib.hid g1
      have r1 := g1.cell
      have r2 := g1.fr
      have HD := Lib.hid hKd
      clear g1 hKd g0
      gi_wp2
      exact fin_one (fun W h => by simp [results, Tryz.f107, go_sem, h.cell]) (Nat.le_refl _) (show w.heap.size ≤ D by omega) (def_set HD.out) ((HG.out.set (by omega) 0).eq HH.out)
    case stop =>
      rintro D pre Wx hD hp ⟨g0, g1⟩ hKd
      clear hseq
      have he : E = 9 := by
        rw [HEE.out, if_neg]
        intro h
        obtain ⟨r, rfl⟩ := hp
        rw [standsT_app, g0] at h
        cases h
      have HH := Lib.hid he
      clear he g0 hp
      gi_wp2
      exact fin_one (fun W h => by simp [results, Tryz.f107, go_sem, h.cell]) (Nat.le_refl _) (show w.heap.size ≤ D by omega) hKd (g1.eq HH.out)
end Go.Proofs.YtdoioaeppepndaaGreatDoor
namespace Go.Proofs.YtdoioaeppepndaaGreatDoor
open Go.RowKit Go.Shelf Go.Maps
open A8 W10
attribute [local go_sem] Oper.semAt_some

theorem wkeys : Keyed Tryz.prog 9 := Maps.string_keyed Tryz.underlying9
theorem wkey (s : List UInt8) (h : s.length ≤ maxLen) : keyOf Tryz.prog 9 (.string (strOf s)) = some (.string s) := by
  have := WideMaps.keyOf_string_mk (P := Tryz.prog) (s := strOf s) Tryz.underlying9 (by unfold strOf ByteArray.size; simpa using h)
  rw [this]
  simp [strOf]
theorem wkeyLit (s : List UInt8) : WideAt.IsKeyLit (.string s) := trivial
theorem plainElem_bool_inv {P : Program} {e : TypeId} (he : P.underlying e = some .bool) {v : Value} {c : Bool} {ps : List MemPlace} (h : plainElem (H := Unit) P e v = some (.lit (.bool c), ps)) : v = .bool c := by
  unfold plainElem at h
  rw [he] at h
  cases v <;> simp_all
theorem zeroBool10 (w : World) : (zeroValue 4).run Tryz.prog w = .ok (.bool false) w := by kernel_rfl
/-- 'm[k]' at elements of bool, inside a fence. -/
theorem wpListIn_lookup_bool {F : Fence} {nF : Nat} {P : Program} (w : World) {ops : Array Oper} {rest : List Oper} {o : Oper} {a : Act} {Q : Exit → Act → World → Prop}
    (hg : o.guard = none) (m x : Operand) (t : TypeId) (hop : o.op = Op.lookup t m x false)
    (k e : TypeId) (K : Keyed P k) (ht : P.underlying t = some (.map k e)) (he : P.underlying e = some .bool) (hz : (zeroValue e).run P w = .ok (.bool false) w) (b n : Nat) (D : DataW Unit)
    (hm : a.eval m = .map (some b)) (hown : w.ownsMap P k (plainElem P e) b n D) (key : Value) (kl : Lit) (hx : a.eval x = key) (hkey : keyOf P k key = some kl)
    (c : Bool) (hat : D.atKey kl (.lit (.bool false)) = .lit (.bool c)) (hK : wpListIn F nF P ops Q rest (a.put o.dst (.bool c)) w) :
    wpListIn F nF P ops Q (o :: rest) a w := by
  refine wpListIn_plain hg fun K' hK' => ?_
  obtain ⟨v, ps, hrun, hv⟩ := hown.lookup K ht hz (plainElem_bool he false) hkey
  rw [hat] at hv
  obtain rfl := plainElem_bool_inv he hv
  unfold Oper.wpIn
  refine ⟨by simp [Oper.about, hop], ?_⟩
  rw [Oper.semAt_plain F _ _ (by rw [hop]; intro c hc'; cases hc')]
  simp [execOp, hop, hm, hx, hrun, Result.andThen]
  exact hK' _ _ hK
/-- A map's block that is turned. -/
theorem keep_grown10 {m B b : Nat} {t : TypeId} {W W' : World} {o : Obj} (hm : m ≤ b) (hB : b < B) (ho : W.heap[b]? = some o) (hc : o.isCells = false) (hg : W.grownBy W' (some b)) : KeepW KT t m B W W' := by
  refine ⟨hg.size, fun k u hk hx => (hg.block k (Array.getElem?_eq_some_iff.1 hk).1 fun e => ?_).trans hk⟩
  cases e
  rw [ho] at hk
  cases hk
  rcases hx with hx | ⟨cs, u, fr, rfl, -⟩ | ⟨hx, -⟩
  · omega
  · cases hc
  · omega
theorem owns_turn {W W' : World} {B b n : Nat} {t k : TypeId} {R : Value → Option (DataW Unit × List MemPlace)} {D : DataW Unit} (h : W.ownsMap Tryz.prog k R b n D) (ht : Turn t B W W') (hB : b < B) : W'.ownsMap Tryz.prog k R b n D := by
  obtain ⟨es, clock, hb, F, h2, h3⟩ := h
  exact ⟨es, clock, ht.same _ _ hb (.inl hB), F, h2, h3⟩
theorem owns_below {W W' : World} {b n : Nat} {k : TypeId} {R : Value → Option (DataW Unit × List MemPlace)} {D : DataW Unit} (h : W.ownsMap Tryz.prog k R b n D) (hb : Below W.heap.size W W') : W'.ownsMap Tryz.prog k R b n D := by
  obtain ⟨es, clock, h1, F, h2, h3⟩ := h
  exact ⟨es, clock, (hb.block b (Array.getElem?_eq_some_iff.1 h1).1).trans h1, F, h2, h3⟩
theorem owns_obj {W : World} {b n : Nat} {k : TypeId} {R : Value → Option (DataW Unit × List MemPlace)} {D : DataW Unit} (h : W.ownsMap Tryz.prog k R b n D) : ∃ o : Obj, W.heap[b]? = some o ∧ o.isCells = false := by
  obtain ⟨es, clock, h1, _⟩ := h
  exact ⟨_, h1, rfl⟩
theorem bx_grown {W W' : World} {b c : Nat} {u : TypeId} {us : List Value} (h : Bx W c u us) (hg : W.grownBy W' (some b)) (hne : c ≠ b) : Bx W' c u us := (hg.block c h.lt (fun e => hne (by cases e; rfl))).trans h
theorem ResP.grown {w W W' : World} {b c : Nat} {e : Int} (h : ResP w b e W) (hg : W.grownBy W' (some c)) (hc : w.heap.size ≤ c) (hne : b ≠ c) : ResP w b e W' :=
  ⟨bx_grown h.1 hg hne, h.2.grown hg h.2.size (fun j e => by cases e; omega)⟩

/-- What the program has seen. -/
def mapB (l : List (List UInt8)) : DataW Unit := l.foldl (fun D s => D.put (.string s) (.lit (.bool (!s.isEmpty)))) (.map [])
theorem mapB_snoc (l : List (List UInt8)) (s : List UInt8) : mapB (l ++ [s]) = (mapB l).put (.string s) (.lit (.bool (!s.isEmpty))) := by
  unfold mapB
  rw [List.foldl_append]
  rfl
theorem snoc_ind {α : Type} {P : List α → Prop} (h0 : P []) (h1 : ∀ l x, P l → P (l ++ [x])) : ∀ l, P l := by
  intro l
  rw [← List.reverse_reverse l]
  induction l.reverse with
  | nil => exact h0
  | cons x r ih => rw [List.reverse_cons]; exact h1 _ _ ih
theorem mapB_isMap (l : List (List UInt8)) : IsMap (mapB l) := by
  refine snoc_ind (P := fun l => IsMap (mapB l)) ⟨[], rfl⟩ (fun l s h => ?_) l
  rw [mapB_snoc]
  exact h.put _ _
theorem mapB_at (l : List (List UInt8)) (s : List UInt8) : (mapB l).atKey (.string s) (.lit (.bool false)) = .lit (.bool (l.contains s && !s.isEmpty)) := by
  refine snoc_ind (P := fun l => (mapB l).atKey (.string s) (.lit (.bool false)) = .lit (.bool (l.contains s && !s.isEmpty))) rfl (fun l x h => ?_) l
  rw [mapB_snoc]
  by_cases hx : s = x
  · subst hx
    rw [atKey_put_same (mapB_isMap l) (wkeyLit s)]
    simp
  · rw [atKey_put_other (by intro e; cases e; exact hx rfl), h]
    have : (l ++ [x]).contains s = l.contains s := by
      rw [Bool.eq_iff_iff]
      simp [hx]
    rw [this]
theorem onceL_snoc (l : List (List UInt8)) (x : List UInt8) : onceL (l ++ [x]) = (onceL l && (x.isEmpty || !l.contains x)) := by
  induction l with
  | nil => simp [onceL]
  | cons s r ih =>
    rw [List.cons_append, onceL, onceL, ih]
    rw [Bool.eq_iff_iff]
    by_cases hs : s = x
    · subst hs
      cases h1 : s.isEmpty <;> simp
    · have hs' : ¬ x = s := fun e => hs e.symm
      simp [hs, hs']
      constructor
      · rintro ⟨h1, h2, h3⟩; exact ⟨⟨h1, h2⟩, h3⟩
      · rintro ⟨⟨h1, h2⟩, h3⟩; exact ⟨h1, h2, h3⟩
theorem onceL_pre {a b : List (List UInt8)} (h : a <+: b) (ha : onceL a = false) : onceL b = false := by
  obtain ⟨r, rfl⟩ := h
  refine snoc_ind (P := fun r => onceL (a ++ r) = false) (by simpa using ha) (fun l x h => ?_) r
  rw [← List.append_assoc, onceL_snoc, h]
  rfl
/-- The names of leaves. -/
def nmsL (l : List (Tr × Nat)) : List (List UInt8) := l.map fun x => nmT x.1
theorem nmsL_snoc (l : List (Tr × Nat)) (x : Tr × Nat) : nmsL (l ++ [x]) = nmsL l ++ [nmT x.1] := by simp [nmsL]
theorem nmsL_pre {a b : List (Tr × Nat)} (h : a <+: b) : nmsL a <+: nmsL b := by
  obtain ⟨r, rfl⟩ := h
  exact ⟨nmsL r, by simp [nmsL]⟩
theorem nmT_nd (t : Tr) : nmT t = t.nd.atom.nm := by
  cases t with
  | mk k mn mx g sk ks => rw [nd_mk]; rfl
theorem nmsL_nd (T : Tr) : nmsL (lfL (subsT T)) = leafNames T.nd := by
  unfold nmsL leafNames
  have h1 : ((lfL (subsT T)).map fun x => nmT x.1) = ((lfL (subsT T)).map Prod.fst).map nmT := by rw [List.map_map]; rfl
  rw [h1, lfL_fst, ← lf_nd, List.map_map]
  exact List.map_congr_left fun t _ => nmT_nd t
set_option maxRecDepth 100000 in
set_option maxHeartbeats 8000000 in
theorem checkTwice_any (q : GQ) (w : World) (hq : QW w q) (hlen : (subsT q.t).length ≤ 999999) :
    Calls Tryz.prog 108 #[.agg q.row.toArray] w fun e w' => e = .returned (.int .i64 (if onceL (leafNames q.qu.p) = true then 0 else 8)) ∧ Below w.heap.size w w' := by
  obtain ⟨T, wi, sh, hv, se, em⟩ := q
  obtain ⟨hT, hwi, hh, he, -, -⟩ := hq
  simp only at hT hh he hlen hwi
  obtain ⟨Ah, ch, rfl, hlh, -⟩ := sl_get (by decide) hh
  obtain ⟨Ae, ce, rfl, hle, -⟩ := sl_get (by decide) he
  clear hh he
  have hfull : onceL (leafNames (GQ.qu ⟨T, wi, .slice Ah hv.length ch, hv, .slice Ae em.length ce, em⟩).p) = onceL (nmsL (lfL (subsT T))) := by rw [nmsL_nd]; rfl
  rw [hfull]
  clear hfull
  obtain ⟨E, hE⟩ : ∃ E : Int, E = if onceL (nmsL (lfL (subsT T))) = true then 0 else 8 := ⟨_, rfl⟩
  rw [← hE]
  have hnd := fun w => wleaves_any T w
  have hseq := fun (b' : Nat) (w' : World) => wleaves_seq w T hT (by omega) b' w'
  have hmem : ∀ x ∈ lfL (subsT T), TrW w x.1 := fun x hx u hu => hT u (subs_trans (lf_mem hx) hu)
  have hLl : (lfL (subsT T)).length ≤ 1000000 := by
    have h1 : (lfL (subsT T)).length = ((subsT T).filter lfB).length := by rw [← lfL_fst, List.length_map]
    have h2 := List.length_filter_le lfB (subsT T)
    omega
  obtain ⟨L, hL⟩ : ∃ L, L = lfL (subsT T) := ⟨_, rfl⟩
  rw [← hL] at hmem hseq hE hLl
  have HE := Lib.hid hE
  clear hL hE
  have hone := hT.one
  obtain ⟨k, mn, mx, ⟨⟨kd, bd, bn, cs, nm⟩, sc⟩, sk, ks⟩ := T
  obtain ⟨-, ⟨-, hsc⟩, hsl⟩ := hone
  simp only at hsc
  obtain ⟨A1, cap1, rfl, -, -⟩ := sl_get (by decide) hsc
  obtain ⟨A, cap, rfl, -, -⟩ := sl_get (by decide) hsl
  clear hsc hsl
  clear hT hlen
  simp only [GQ.row, Tr.row, List.cons_append, List.nil_append] at hnd hseq ⊢
  have HM := Lib.hid hmem
  have HQ := Lib.hid hseq
  clear hmem hseq
  refine (callsIn_wide (n := 5)).1 ?_
  refine callsIn_of_wp_marks Tryz.func108 rfl trivial ?_ rfl
  simp only [Tryz.ntmps108, List.size_toArray, List.length_cons, List.length_nil, Nat.reduceAdd, Nat.reduceSub, Array.replicate_succ, Array.replicate_zero, List.push_toArray, List.append_toArray, List.nil_append, List.cons_append]
  have hz := fun (_ : Nat) => show (((((w.alloc (.cells #[.int .i64 k, .int .i64 mn, .int .i64 mx, .int .i64 kd, .bool bd, .int .u64 bn, .slice A1 cs.length cap1, .string (strOf nm), .slice A ks.length cap, .int .u64 wi, .slice Ah hv.length ch, .slice Ae em.length ce] 35)).alloc (.cells #[.int .i64 0] 23)).alloc (.map #[] 0)).alloc (.cells #[.map (some (w.heap.size + 1 + 1))] 128)).alloc (.cells #[.int .i64 k, .int .i64 mn, .int .i64 mx, .int .i64 kd, .bool bd, .int .u64 bn, .slice A1 cs.length cap1, .string (strOf nm), .slice A ks.length cap] 31)).heap.size = w.heap.size + 5 ∧ ResP w (w.heap.size + 1) 0 (((((w.alloc (.cells #[.int .i64 k, .int .i64 mn, .int .i64 mx, .int .i64 kd, .bool bd, .int .u64 bn, .slice A1 cs.length cap1, .string (strOf nm), .slice A ks.length cap, .int .u64 wi, .slice Ah hv.length ch, .slice Ae em.length ce] 35)).alloc (.cells #[.int .i64 0] 23)).alloc (.map #[] 0)).alloc (.cells #[.map (some (w.heap.size + 1 + 1))] 128)).alloc (.cells #[.int .i64 k, .int .i64 mn, .int .i64 mx, .int .i64 kd, .bool bd, .int .u64 bn, .slice A1 cs.length cap1, .string (strOf nm), .slice A ks.length cap] 31)) ∧ (((((w.alloc (.cells #[.int .i64 k, .int .i64 mn, .int .i64 mx, .int .i64 kd, .bool bd, .int .u64 bn, .slice A1 cs.length cap1, .string (strOf nm), .slice A ks.length cap, .int .u64 wi, .slice Ah hv.length ch, .slice Ae em.length ce] 35)).alloc (.cells #[.int .i64 0] 23)).alloc (.map #[] 0)).alloc (.cells #[.map (some (w.heap.size + 1 + 1))] 128)).alloc (.cells #[.int .i64 k, .int .i64 mn, .int .i64 mx, .int .i64 kd, .bool bd, .int .u64 bn, .slice A1 cs.length cap1, .string (strOf nm), .slice A ks.length cap] 31)).ownsMap Tryz.prog 9 (plainElem Tryz.prog 4) (w.heap.size + 1 + 1) 0 (mapB []) ∧ Bx (((((w.alloc (.cells #[.int .i64 k, .int .i64 mn, .int .i64 mx, .int .i64 kd, .bool bd, .int .u64 bn, .slice A1 cs.length cap1, .string (strOf nm), .slice A ks.length cap, .int .u64 wi, .slice Ah hv.length ch, .slice Ae em.length ce] 35)).alloc (.cells #[.int .i64 0] 23)).alloc (.map #[] 0)).alloc (.cells #[.map (some (w.heap.size + 1 + 1))] 128)).alloc (.cells #[.int .i64 k, .int .i64 mn, .int .i64 mx, .int .i64 kd, .bool bd, .int .u64 bn, .slice A1 cs.length cap1, .string (strOf nm), .slice A ks.length cap] 31)) (w.heap.size + 1 + 1 + 1) 128 [.map (some (w.heap.size + 1 + 1))] ∧ Bx (((((w.alloc (.cells #[.int .i64 k, .int .i64 mn, .int .i64 mx, .int .i64 kd, .bool bd, .int .u64 bn, .slice A1 cs.length cap1, .string (strOf nm), .slice A ks.length cap, .int .u64 wi, .slice Ah hv.length ch, .slice Ae em.length ce] 35)).alloc (.cells #[.int .i64 0] 23)).alloc (.map #[] 0)).alloc (.cells #[.map (some (w.heap.size + 1 + 1))] 128)).alloc (.cells #[.int .i64 k, .int .i64 mn, .int .i64 mx, .int .i64 kd, .bool bd, .int .u64 bn, .slice A1 cs.length cap1, .string (strOf nm), .slice A ks.length cap] 31)) (w.heap.size + 1 + 1 + 1 + 1) 31 [.int .i64 k, .int .i64 mn, .int .i64 mx, .int .i64 kd, .bool bd, .int .u64 bn, .slice A1 cs.length cap1, .string (strOf nm), .slice A ks.length cap] from by
    have h2 := Bx.new (w.alloc (.cells #[.int .i64 k, .int .i64 mn, .int .i64 mx, .int .i64 kd, .bool bd, .int .u64 bn, .slice A1 cs.length cap1, .string (strOf nm), .slice A ks.length cap, .int .u64 wi, .slice Ah hv.length ch, .slice Ae em.length ce] 35)) [.int .i64 0] 23
    have h3 := World.ownsMap_made (H := Unit) ((w.alloc (.cells #[.int .i64 k, .int .i64 mn, .int .i64 mx, .int .i64 kd, .bool bd, .int .u64 bn, .slice A1 cs.length cap1, .string (strOf nm), .slice A ks.length cap, .int .u64 wi, .slice Ah hv.length ch, .slice Ae em.length ce] 35)).alloc (.cells #[.int .i64 0] 23)) Tryz.prog 9 (plainElem Tryz.prog 4)
    have h4 := Bx.new (((w.alloc (.cells #[.int .i64 k, .int .i64 mn, .int .i64 mx, .int .i64 kd, .bool bd, .int .u64 bn, .slice A1 cs.length cap1, .string (strOf nm), .slice A ks.length cap, .int .u64 wi, .slice Ah hv.length ch, .slice Ae em.length ce] 35)).alloc (.cells #[.int .i64 0] 23)).alloc (.map #[] 0)) [.map (some (w.heap.size + 1 + 1))] 128
    have h5 := Bx.new ((((w.alloc (.cells #[.int .i64 k, .int .i64 mn, .int .i64 mx, .int .i64 kd, .bool bd, .int .u64 bn, .slice A1 cs.length cap1, .string (strOf nm), .slice A ks.length cap, .int .u64 wi, .slice Ah hv.length ch, .slice Ae em.length ce] 35)).alloc (.cells #[.int .i64 0] 23)).alloc (.map #[] 0)).alloc (.cells #[.map (some (w.heap.size + 1 + 1))] 128)) [.int .i64 k, .int .i64 mn, .int .i64 mx, .int .i64 kd, .bool bd, .int .u64 bn, .slice A1 cs.length cap1, .string (strOf nm), .slice A ks.length cap] 31
    simp only [World.size_alloc] at h2 h3 h4 h5
    exact ⟨by simp, ⟨((h2.later (b1 _ _)).later (b1 _ _)).later (b1 _ _), bstep (b3 _ _ _ _) (b2 _ _ _)⟩, (h3.alloc _).alloc _, h4.later (b1 _ _), h5⟩
  have HZ := Lib.hid hz
  have hmm := @run_makeMap Tryz.prog
  clear hz
  gi_wp2_with (refine ⟨trivial, ?_⟩; refine (callsIn_wide.2 (hnd _)).mono ?_; rintro e w' ⟨rfl, rfl⟩)
  clear hnd hmm
  have hW3 := HZ.out 0
  obtain ⟨W3, hW3e⟩ : ∃ W3, W3 = ((((w.alloc (.cells #[.int .i64 k, .int .i64 mn, .int .i64 mx, .int .i64 kd, .bool bd, .int .u64 bn, .slice A1 cs.length cap1, .string (strOf nm), .slice A ks.length cap, .int .u64 wi, .slice Ah hv.length ch, .slice Ae em.length ce] 35)).alloc (.cells #[.int .i64 0] 23)).alloc (.map #[] 0)).alloc (.cells #[.map (some (w.heap.size + 1 + 1))] 128)).alloc (.cells #[.int .i64 k, .int .i64 mn, .int .i64 mx, .int .i64 kd, .bool bd, .int .u64 bn, .slice A1 cs.length cap1, .string (strOf nm), .slice A ks.length cap] 31) := ⟨_, rfl⟩
  rw [← hW3e] at hW3
  rw [← hW3e]
  obtain ⟨hsz3, hR3, hM3, hB3, hN3⟩ := hW3
  have hseq := HQ.out (w.heap.size + 1 + 1 + 1 + 1) W3 (SameB.of hR3.2) hN3
  clear hW3e HQ hN3 HZ
  refine wpIn_range_own (gf := 121) (lb := #[.pointer (some ⟨w.heap.size + 1 + 1 + 1 + 1, 0, none⟩)]) rfl (enters_of Tryz.func121 (by kernel_rfl) rfl)
    hseq (by omega) (Below.refl _ _) (fun _ => rfl)
    (fun pre Wx => onceL (nmsL pre) = true ∧ ResP w (w.heap.size + 1) 0 Wx ∧ Wx.ownsMap Tryz.prog 9 (plainElem Tryz.prog 4) (w.heap.size + 1 + 1) pre.length (mapB (nmsL pre)) ∧ Bx Wx (w.heap.size + 1 + 1 + 1) 128 [.map (some (w.heap.size + 1 + 1))])
    (fun pre Wx => onceL (nmsL pre) = false ∧ ResP w (w.heap.size + 1) 8 Wx)
    ?hI ?hIx ?h0 (fun x act Wx => ∃ b5, w.heap.size + 1 + 1 + 1 < b5 ∧ Bx Wx b5 31 x.1.row ∧ act = { tmps := #[.agg #[.int .i64 k, .int .i64 mn, .int .i64 mx, .int .i64 kd, .bool bd, .int .u64 bn, .slice A1 cs.length cap1, .string (strOf nm), .slice A ks.length cap, .int .u64 wi, .slice Ah hv.length ch, .slice Ae em.length ce], .pointer (some ⟨w.heap.size, 0, none⟩), .pointer (some ⟨w.heap.size + 1, 0, none⟩), .pointer (some ⟨w.heap.size + 1 + 1 + 1, 0, none⟩), undef, .pointer (some ⟨b5, 0, none⟩), undef, .map (some (w.heap.size + 1 + 1)), .pointer (some ⟨w.heap.size, 0, none⟩), .agg #[.int .i64 k, .int .i64 mn, .int .i64 mx, .int .i64 kd, .bool bd, .int .u64 bn, .slice A1 cs.length cap1, .string (strOf nm), .slice A ks.length cap], .func (.func 121) #[] #[.pointer (some ⟨w.heap.size + 1 + 1 + 1 + 1, 0, none⟩)], .int .i64 (x.2 : Int), .agg x.1.row.toArray, undef, undef, undef, undef, undef, undef, undef, undef, undef, undef], defers := [] }) ?hA ?assign ?body ?done ?stop
  case hI =>
    rintro s Wx Wy ⟨g0, g1, g2, g3⟩ ht
    exact ⟨g0, g1.turn ht (by omega), owns_turn g2 ht (by omega), bx_turn g3 ht (.inl (by omega))⟩
  case hIx =>
    rintro s Wx Wy ⟨g0, g1⟩ ht
    exact ⟨g0, g1.turn ht (by omega)⟩
  case h0 => exact ⟨rfl, hR3, hM3, hB3⟩
  case hA =>
    rintro x act s Wx Wy row ⟨b5, h1, h2, h3⟩ hg hr
    exact ⟨b5, h1, bx_noncells h2 hg (fun j e => (hr j e).2), h3⟩
  case assign =>
    intro l2 pre x Wx K hp hsz hi hK
    have ho := (HM.out x (hp.subset (by simp))).one
    obtain ⟨x, c⟩ := x
    obtain ⟨k2, mn2, mx2, ⟨⟨kd2, bd2, bn2, cs2, nm2⟩, sc2⟩, sk2, ks2⟩ := x
    obtain ⟨-, ⟨-, e1⟩, e2⟩ := ho
    simp only at e1
    obtain ⟨A5, c5, rfl, hcl, -⟩ := sl_get (by decide) e1
    obtain ⟨A6, c6, rfl, hkl, -⟩ := sl_get (by decide) e2
    simp only [Tr.row] at hK ⊢
    clear e1 e2 hi hseq
    gi_wp2
    exact hK _ _ ⟨Wx.heap.size, by omega, Bx.new _ _ _, rfl⟩ (b1 _ _)
  case body =>
    rintro l2 pre x act Wx hp hsz ⟨g0, g1, g2, g3⟩ ⟨b5, hb5l, hb5, rfl⟩
    have ho := (HM.out x (hp.subset (by simp))).one
    have hpl : pre.length < maxLen := by
      have h2 := hp.length_le
      rw [List.length_append, List.length_singleton] at h2
      unfold maxLen
      omega
    have hrs : onceL (nmsL (pre ++ [x])) = ((nmT x.1).isEmpty || !(nmsL pre).contains (nmT x.1)) := by rw [nmsL_snoc, onceL_snoc, g0]; rfl
    have hmp : mapB (nmsL (pre ++ [x])) = (mapB (nmsL pre)).put (.string (nmT x.1)) (.lit (.bool (!(nmT x.1).isEmpty))) := by rw [nmsL_snoc, mapB_snoc]
    have hat := mapB_at (nmsL pre) (nmT x.1)
    have hxl : (pre ++ [x]).length = pre.length + 1 := by simp
    obtain ⟨xs, hxs⟩ : ∃ xs, xs = pre ++ [x] := ⟨_, rfl⟩
    rw [← hxs] at hrs hmp hxl ⊢
    obtain ⟨pl, hple⟩ : ∃ pl, pl = pre.length := ⟨_, rfl⟩
    rw [← hple] at hpl hxl g2
    obtain ⟨D, hD⟩ : ∃ D, D = mapB (nmsL pre) := ⟨_, rfl⟩
    rw [← hD] at hmp hat g2
    obtain ⟨cc, hcc⟩ : ∃ cc, cc = (nmsL pre).contains (nmT x.1) := ⟨_, rfl⟩
    rw [← hcc] at hrs hat
    clear hxs hp g0 hple hD hcc
    obtain ⟨x, c⟩ := x
    have hnm : (nmT x).length ≤ maxLen := by
      cases x with
      | mk k mn mx g sk ks => exact ho.2.1.1.nm
    obtain ⟨k2, mn2, mx2, ⟨⟨kd2, bd2, bn2, cs2, nm2⟩, sc2⟩, sk2, ks2⟩ := x
    obtain ⟨-, ⟨-, e1⟩, e2⟩ := ho
    simp only at e1
    obtain ⟨A5, c5, rfl, hcl, -⟩ := sl_get (by decide) e1
    obtain ⟨A6, c6, rfl, hkl, -⟩ := sl_get (by decide) e2
    simp only [Tr.row, nmT] at hb5 hrs hmp hat hnm ⊢
    clear e1 e2 hseq
    have hK5 := hb5.blk
    have d7 := hK5.cell 7 _ rfl
    have m1 := g3.blk.cell 0 _ rfl
    have r1 := g1.cell
    have r2 := g1.fr
    have hkey := wkey nm2 hnm
    obtain ⟨st, hst⟩ : ∃ st, st = strOf nm2 := ⟨_, rfl⟩
    obtain ⟨em2, hem⟩ : ∃ em2, em2 = nm2.isEmpty := ⟨_, rfl⟩
    have hse : st.toList.isEmpty = em2 := by rw [hst, strOf_toL, hem]
    rw [← hst] at hkey d7 ⊢
    rw [← hem] at hrs hmp hat
    have hemE : em2 = true → st.toList = [] := fun h => by rw [hst, strOf_toL]; rw [hem] at h; simpa using h
    have hemN : em2 = false → ¬ st.toList = [] := fun h => by rw [hst, strOf_toL]; rw [hem] at h; simpa using h
    have HR := Lib.hid hrs
    have HMP := Lib.hid hmp
    have HAT := Lib.hid hat
    have HKEY := Lib.hid hkey
    have HXL := Lib.hid hxl
    have HPL := Lib.hid hpl
    have G1 := Lib.hid g1
    have G2 := Lib.hid g2
    have G3 := Lib.hid g3
    clear hK5 hb5 hrs hmp hat hkey hxl hpl g1 g2 g3 hem hst hnm
    cases em2 with
    | true =>
      have HAT2 : RowKit.Hid (D.atKey (.string nm2) (.lit (.bool false)) = .lit (.bool false)) := Lib.hid (by rw [HAT.out]; simp)
      have HS2 : RowKit.Hid (onceL (nmsL xs) = true) := Lib.hid (by rw [HR.out]; rfl)
      have hnn := hemE rfl
      clear HAT HR hemE hemN
      gi_wp2_with (first | (gi_at_lookup; refine wpListIn_lookup_bool _ rfl _ _ 128 rfl 9 4 wkeys Tryz.underlying128 Tryz.underlying4 (zeroBool10 _) _ _ _ rfl G2.out _ _ rfl HKEY.out _ HAT2.out ?_) | (gi_at_mapUpdate; refine wpListIn_mapUpdate_own _ rfl _ _ _ 128 rfl 9 4 wkeys Tryz.underlying128 _ _ _ _ rfl G2.out HPL.out _ _ (.string nm2) rfl rfl HKEY.out (.lit (.bool false)) [] (plainElem_bool Tryz.underlying4 _) ?_; intro w7 hown7 hg7))
      have hob := owns_obj G2.out
      obtain ⟨o, ho1, ho2⟩ := hob
      exact ⟨keep_grown10 (by omega) (by omega) ho1 ho2 hg7, HS2.out, G1.out.grown hg7 (by omega) (by omega), by rw [HXL.out, HMP.out]; exact hown7, bx_grown G3.out hg7 (by omega)⟩
    | false =>
      cases cc with
      | true =>
        have HAT2 : RowKit.Hid (D.atKey (.string nm2) (.lit (.bool false)) = .lit (.bool true)) := Lib.hid (by rw [HAT.out]; rfl)
        have HS2 : RowKit.Hid (onceL (nmsL xs) = false) := Lib.hid (by rw [HR.out]; rfl)
        clear HAT HR hemE hemN
        gi_wp2_with (gi_at_lookup; refine wpListIn_lookup_bool _ rfl _ _ 128 rfl 9 4 wkeys Tryz.underlying128 Tryz.underlying4 (zeroBool10 _) _ _ _ rfl G2.out _ _ rfl HKEY.out _ HAT2.out ?_)
        exact ⟨KeepsFrom.setCell _ _ _ _, HS2.out, G1.out.set (by omega) 8⟩
      | false =>
        have HAT2 : RowKit.Hid (D.atKey (.string nm2) (.lit (.bool false)) = .lit (.bool false)) := Lib.hid (by rw [HAT.out]; rfl)
        have HS2 : RowKit.Hid (onceL (nmsL xs) = true) := Lib.hid (by rw [HR.out]; rfl)
        have hnn := hemN rfl
        clear HAT HR hemE hemN
        gi_wp2_with (first | (gi_at_lookup; refine wpListIn_lookup_bool _ rfl _ _ 128 rfl 9 4 wkeys Tryz.underlying128 Tryz.underlying4 (zeroBool10 _) _ _ _ rfl G2.out _ _ rfl HKEY.out _ HAT2.out ?_) | (gi_at_mapUpdate; refine wpListIn_mapUpdate_own _ rfl _ _ _ 128 rfl 9 4 wkeys Tryz.underlying128 _ _ _ _ rfl G2.out HPL.out _ _ (.string nm2) rfl rfl HKEY.out (.lit (.bool true)) [] (plainElem_bool Tryz.underlying4 _) ?_; intro w7 hown7 hg7))
        have hob := owns_obj G2.out
        obtain ⟨o, ho1, ho2⟩ := hob
        exact ⟨keep_grown10 (by omega) (by omega) ho1 ho2 hg7, HS2.out, G1.out.grown hg7 (by omega) (by omega), by rw [HXL.out, HMP.out]; exact hown7, bx_grown G3.out hg7 (by omega)⟩
  case done =>
    rintro D Wx hD ⟨g0, g1, -, -⟩ hKd
    clear hseq
    have he : E = 0 := by rw [HE.out, if_pos g0]
    have HH := Lib.hid he
    clear he
    have HG := Lib.hid g1
    have r1 := g1.cell
    have r2 := g1.fr
    have HD := Lib.hid hKd
    clear g1 hKd g0
    gi_wp2
    exact fin_one (fun W h => by simp [results, Tryz.f108, go_sem, h.cell]) (Nat.le_refl _) (show w.heap.size ≤ D by omega) (def_set HD.out) ((HG.out.set (by omega) 0).eq HH.out)
  case stop =>
    rintro D pre Wx hD hp ⟨g0, g1⟩ hKd
    clear hseq
    have he : E = 8 := by
      rw [HE.out, if_neg]
      rw [onceL_pre (nmsL_pre hp) g0]
      simp
    have HH := Lib.hid he
    clear he g0 hp
    gi_wp2
    exact fin_one (fun W h => by simp [results, Tryz.f108, go_sem, h.cell]) (Nat.le_refl _) (show w.heap.size ≤ D by omega) hKd (g1.eq HH.out)
end Go.Proofs.YtdoioaeppepndaaGreatDoor
