/- Walks: Check, Pattern, Names, Named, Room, Uses. -/
import Derived.Test.YtdoioaeppepndaaGreatDoorWfX2
import Derived.Deep.LoopGhost
namespace Go.Proofs.YtdoioaeppepndaaGreatDoor
open Go.RowKit Go.Shelf Go.Maps
open A8 W10
attribute [local go_sem] Oper.semAt_some

def mapI (l : List (Tr × Nat)) : DataW Unit := l.foldl (fun D x => D.put (.string (nmT x.1)) (.lit (.int .i64 (x.2 : Int)))) (.map [])
theorem mapI_snoc (l : List (Tr × Nat)) (x : Tr × Nat) : mapI (l ++ [x]) = (mapI l).put (.string (nmT x.1)) (.lit (.int .i64 (x.2 : Int))) := by
  unfold mapI
  rw [List.foldl_append]
  rfl
theorem mapI_isMap (l : List (Tr × Nat)) : IsMap (mapI l) := by
  refine snoc_ind (P := fun l => IsMap (mapI l)) ⟨[], rfl⟩ (fun l s h => ?_) l
  rw [mapI_snoc]
  exact h.put _ _
theorem mapI_has (l : List (Tr × Nat)) (s : List UInt8) : has (mapI l) (.string s) = (nmsL l).contains s := by
  refine snoc_ind (P := fun l => has (mapI l) (.string s) = (nmsL l).contains s) rfl (fun l x h => ?_) l
  rw [mapI_snoc, nmsL_snoc]
  by_cases hx : s = nmT x.1
  · subst hx
    rw [has_put_same (mapI_isMap l) (wkeyLit _)]
    simp
  · rw [has_put_other (by intro e; cases e; exact hx rfl), h, Bool.eq_iff_iff]
    simp [hx]
/-- The number with which a name stands last. -/
def lastN (s : List UInt8) (l : List (Tr × Nat)) : Nat := l.foldl (fun n x => if nmT x.1 = s then x.2 else n) 0
theorem lastN_snoc (s : List UInt8) (l : List (Tr × Nat)) (x : Tr × Nat) : lastN s (l ++ [x]) = if nmT x.1 = s then x.2 else lastN s l := by
  unfold lastN
  rw [List.foldl_append]
  rfl
theorem mapI_at (l : List (Tr × Nat)) (s : List UInt8) : (mapI l).atKey (.string s) (.lit (.int .i64 0)) = .lit (.int .i64 (lastN s l : Int)) := by
  refine snoc_ind (P := fun l => (mapI l).atKey (.string s) (.lit (.int .i64 0)) = .lit (.int .i64 (lastN s l : Int))) rfl (fun l x h => ?_) l
  rw [mapI_snoc, lastN_snoc]
  by_cases hx : nmT x.1 = s
  · rw [if_pos hx, hx, atKey_put_same (mapI_isMap l) (wkeyLit _)]
  · rw [if_neg hx, atKey_put_other (by intro e; cases e; exact hx rfl), h]
theorem lf_num {L : List Tr} {x : Tr × Nat} (h : x ∈ lfL L) : x.2 < L.length := by
  unfold lfL at h
  have h2 := (List.mem_zipIdx h).2.1
  have h3 := List.length_filter_le lfB L
  omega
/-- A map that the call made. -/
def NumP (w : World) (l : List (Tr × Nat)) (e : Ending) (w' : World) : Prop :=
  ∃ b, e = .returned (.map (some b)) ∧ w.heap.size ≤ b ∧ w'.ownsMap Tryz.prog 9 (plainElem Tryz.prog 3) b l.length (mapI l) ∧ Below w.heap.size w w'
set_option maxRecDepth 100000 in
set_option maxHeartbeats 8000000 in
theorem numbers_any (T : Tr) (w : World) (hT : TrW w T) (hlen : (subsT T).length ≤ 999999) :
    Calls Tryz.prog 87 #[.agg T.row.toArray] w (NumP w (nmL (lfL (subsT T)))) := by
  have hnd := fun w => wnames_any T w
  have hseq := fun (b' : Nat) (w' : World) => wnames_seq w T hT (by omega) b' w'
  have hmem : ∀ x ∈ nmL (lfL (subsT T)), (nmT x.1).length ≤ maxLen ∧ x.2 < 1000000 := fun x hx => by
    have hm := (List.mem_filter.1 hx).1
    have ho := (hT _ (lf_mem hm))
    refine ⟨?_, by have := lf_num hm; omega⟩
    obtain ⟨x, c⟩ := x
    cases x with
    | mk k mn mx g sk ks => exact ho.2.1.1.nm
  have hLl : (nmL (lfL (subsT T))).length ≤ 1000000 := by
    have h1 : (lfL (subsT T)).length = ((subsT T).filter lfB).length := by rw [← lfL_fst, List.length_map]
    have h2 := List.length_filter_le lfB (subsT T)
    have h3 := List.length_filter_le (fun x : Tr × Nat => nmdB x.1) (lfL (subsT T))
    unfold nmL
    omega
  obtain ⟨L, hL⟩ : ∃ L, L = nmL (lfL (subsT T)) := ⟨_, rfl⟩
  rw [← hL] at hmem hseq hLl ⊢
  clear hL
  have hone := hT.one
  obtain ⟨k, mn, mx, ⟨⟨kd, bd, bn, cs, nm⟩, sc⟩, sk, ks⟩ := T
  obtain ⟨-, ⟨-, hsc⟩, hsl⟩ := hone
  simp only at hsc
  obtain ⟨A1, cap1, rfl, -, -⟩ := sl_get (by decide) hsc
  obtain ⟨A, cap, rfl, -, -⟩ := sl_get (by decide) hsl
  clear hsc hsl
  clear hT hlen
  simp only [Tr.row] at hnd hseq ⊢
  have HM := Lib.hid hmem
  have HQ := Lib.hid hseq
  clear hmem hseq
  refine (callsIn_wide (n := 5)).1 ?_
  refine callsIn_of_wp_marks Tryz.func87 rfl trivial ?_ rfl
  simp only [Tryz.ntmps87, List.size_toArray, List.length_cons, List.length_nil, Nat.reduceAdd, Nat.reduceSub, Array.replicate_succ, Array.replicate_zero, List.push_toArray, List.append_toArray, List.nil_append, List.cons_append]
  have hz := fun (_ : Nat) => show ((((w.alloc (.cells #[.int .i64 k, .int .i64 mn, .int .i64 mx, .int .i64 kd, .bool bd, .int .u64 bn, .slice A1 cs.length cap1, .string (strOf nm), .slice A ks.length cap] 31)).alloc (.map #[] 0)).alloc (.cells #[.map (some (w.heap.size + 1))] 134)).alloc (.cells #[.int .i64 k, .int .i64 mn, .int .i64 mx, .int .i64 kd, .bool bd, .int .u64 bn, .slice A1 cs.length cap1, .string (strOf nm), .slice A ks.length cap] 31)).heap.size = w.heap.size + 4 ∧ Below w.heap.size w ((((w.alloc (.cells #[.int .i64 k, .int .i64 mn, .int .i64 mx, .int .i64 kd, .bool bd, .int .u64 bn, .slice A1 cs.length cap1, .string (strOf nm), .slice A ks.length cap] 31)).alloc (.map #[] 0)).alloc (.cells #[.map (some (w.heap.size + 1))] 134)).alloc (.cells #[.int .i64 k, .int .i64 mn, .int .i64 mx, .int .i64 kd, .bool bd, .int .u64 bn, .slice A1 cs.length cap1, .string (strOf nm), .slice A ks.length cap] 31)) ∧ ((((w.alloc (.cells #[.int .i64 k, .int .i64 mn, .int .i64 mx, .int .i64 kd, .bool bd, .int .u64 bn, .slice A1 cs.length cap1, .string (strOf nm), .slice A ks.length cap] 31)).alloc (.map #[] 0)).alloc (.cells #[.map (some (w.heap.size + 1))] 134)).alloc (.cells #[.int .i64 k, .int .i64 mn, .int .i64 mx, .int .i64 kd, .bool bd, .int .u64 bn, .slice A1 cs.length cap1, .string (strOf nm), .slice A ks.length cap] 31)).ownsMap Tryz.prog 9 (plainElem Tryz.prog 3) (w.heap.size + 1) 0 (mapI []) ∧ Bx ((((w.alloc (.cells #[.int .i64 k, .int .i64 mn, .int .i64 mx, .int .i64 kd, .bool bd, .int .u64 bn, .slice A1 cs.length cap1, .string (strOf nm), .slice A ks.length cap] 31)).alloc (.map #[] 0)).alloc (.cells #[.map (some (w.heap.size + 1))] 134)).alloc (.cells #[.int .i64 k, .int .i64 mn, .int .i64 mx, .int .i64 kd, .bool bd, .int .u64 bn, .slice A1 cs.length cap1, .string (strOf nm), .slice A ks.length cap] 31)) (w.heap.size + 1 + 1) 134 [.map (some (w.heap.size + 1))] ∧ Bx ((((w.alloc (.cells #[.int .i64 k, .int .i64 mn, .int .i64 mx, .int .i64 kd, .bool bd, .int .u64 bn, .slice A1 cs.length cap1, .string (strOf nm), .slice A ks.length cap] 31)).alloc (.map #[] 0)).alloc (.cells #[.map (some (w.heap.size + 1))] 134)).alloc (.cells #[.int .i64 k, .int .i64 mn, .int .i64 mx, .int .i64 kd, .bool bd, .int .u64 bn, .slice A1 cs.length cap1, .string (strOf nm), .slice A ks.length cap] 31)) (w.heap.size + 1 + 1 + 1) 31 [.int .i64 k, .int .i64 mn, .int .i64 mx, .int .i64 kd, .bool bd, .int .u64 bn, .slice A1 cs.length cap1, .string (strOf nm), .slice A ks.length cap] from by
    have h3 := World.ownsMap_made (H := Unit) (w.alloc (.cells #[.int .i64 k, .int .i64 mn, .int .i64 mx, .int .i64 kd, .bool bd, .int .u64 bn, .slice A1 cs.length cap1, .string (strOf nm), .slice A ks.length cap] 31)) Tryz.prog 9 (plainElem Tryz.prog 3)
    have h4 := Bx.new ((w.alloc (.cells #[.int .i64 k, .int .i64 mn, .int .i64 mx, .int .i64 kd, .bool bd, .int .u64 bn, .slice A1 cs.length cap1, .string (strOf nm), .slice A ks.length cap] 31)).alloc (.map #[] 0)) [.map (some (w.heap.size + 1))] 134
    have h5 := Bx.new (((w.alloc (.cells #[.int .i64 k, .int .i64 mn, .int .i64 mx, .int .i64 kd, .bool bd, .int .u64 bn, .slice A1 cs.length cap1, .string (strOf nm), .slice A ks.length cap] 31)).alloc (.map #[] 0)).alloc (.cells #[.map (some (w.heap.size + 1))] 134)) [.int .i64 k, .int .i64 mn, .int .i64 mx, .int .i64 kd, .bool bd, .int .u64 bn, .slice A1 cs.length cap1, .string (strOf nm), .slice A ks.length cap] 31
    simp only [World.size_alloc] at h3 h4 h5
    exact ⟨by simp, bstep (b3 _ _ _ _) (b1 _ _), (h3.alloc _).alloc _, h4.later (b1 _ _), h5⟩
  have HZ := Lib.hid hz
  have hmm := @run_makeMap Tryz.prog
  clear hz
  gi_wp2_with (refine ⟨trivial, ?_⟩; refine (callsIn_wide.2 (hnd _)).mono ?_; rintro e w' ⟨rfl, rfl⟩)
  clear hnd hmm
  have hW3 := HZ.out 0
  obtain ⟨W3, hW3e⟩ : ∃ W3, W3 = (((w.alloc (.cells #[.int .i64 k, .int .i64 mn, .int .i64 mx, .int .i64 kd, .bool bd, .int .u64 bn, .slice A1 cs.length cap1, .string (strOf nm), .slice A ks.length cap] 31)).alloc (.map #[] 0)).alloc (.cells #[.map (some (w.heap.size + 1))] 134)).alloc (.cells #[.int .i64 k, .int .i64 mn, .int .i64 mx, .int .i64 kd, .bool bd, .int .u64 bn, .slice A1 cs.length cap1, .string (strOf nm), .slice A ks.length cap] 31) := ⟨_, rfl⟩
  rw [← hW3e] at hW3
  rw [← hW3e]
  obtain ⟨hsz3, hR3, hM3, hB3, hN3⟩ := hW3
  have hseq := HQ.out (w.heap.size + 1 + 1 + 1) W3 (SameB.of hR3) hN3
  clear hW3e HQ hN3 HZ
  refine wpIn_range_own (gf := 117) (lb := #[.pointer (some ⟨w.heap.size + 1 + 1 + 1, 0, none⟩)]) rfl (enters_of Tryz.func117 (by kernel_rfl) rfl)
    hseq (by omega) (Below.refl _ _) (fun _ => rfl)
    (fun pre Wx => Below w.heap.size w Wx ∧ Wx.ownsMap Tryz.prog 9 (plainElem Tryz.prog 3) (w.heap.size + 1) pre.length (mapI pre) ∧ Bx Wx (w.heap.size + 1 + 1) 134 [.map (some (w.heap.size + 1))])
    (fun pre Wx => False)
    ?hI ?hIx ?h0 (fun x act Wx => act = { tmps := #[.agg #[.int .i64 k, .int .i64 mn, .int .i64 mx, .int .i64 kd, .bool bd, .int .u64 bn, .slice A1 cs.length cap1, .string (strOf nm), .slice A ks.length cap], .pointer (some ⟨w.heap.size, 0, none⟩), .map none, .pointer (some ⟨w.heap.size + 1 + 1, 0, none⟩), .int .i64 (x.2 : Int), .string (strOf (nmT x.1)), .map (some (w.heap.size + 1)), .agg #[.int .i64 k, .int .i64 mn, .int .i64 mx, .int .i64 kd, .bool bd, .int .u64 bn, .slice A1 cs.length cap1, .string (strOf nm), .slice A ks.length cap], .func (.func 117) #[] #[.pointer (some ⟨w.heap.size + 1 + 1 + 1, 0, none⟩)], .int .i64 (x.2 : Int), .string (strOf (nmT x.1)), undef, undef, undef, undef], defers := [] }) ?hA ?assign ?body ?done ?stop
  case hI =>
    rintro s Wx Wy ⟨g1, g2, g3⟩ ht
    exact ⟨ht.below g1 (by omega) (Nat.le_refl _), owns_turn g2 ht (by omega), bx_turn g3 ht (.inl (by omega))⟩
  case hIx =>
    rintro s Wx Wy g1 ht
    exact g1.elim
  case h0 => exact ⟨hR3, hM3, hB3⟩
  case hA =>
    rintro x act s Wx Wy row h3 hg hr
    exact h3
  case assign =>
    intro l2 pre x Wx K hp hsz hi hK
    clear hi hseq
    gi_wp2
    exact hK _ _ rfl (Below.refl _ _)
  case body =>
    rintro l2 pre x act Wx hp hsz ⟨g1, g2, g3⟩ rfl
    have hpl : pre.length < maxLen := by
      have h2 := hp.length_le
      rw [List.length_append, List.length_singleton] at h2
      unfold maxLen
      omega
    obtain ⟨hnm, hnn⟩ := HM.out x (hp.subset (by simp))
    have hmp := mapI_snoc pre x
    have hxl : (pre ++ [x]).length = pre.length + 1 := by simp
    obtain ⟨xs, hxs⟩ : ∃ xs, xs = pre ++ [x] := ⟨_, rfl⟩
    rw [← hxs] at hmp hxl ⊢
    obtain ⟨pl, hple⟩ : ∃ pl, pl = pre.length := ⟨_, rfl⟩
    rw [← hple] at hpl hxl g2
    obtain ⟨D, hD⟩ : ∃ D, D = mapI pre := ⟨_, rfl⟩
    rw [← hD] at hmp g2
    have hkey := wkey (nmT x.1) hnm
    obtain ⟨nn, hnn2⟩ : ∃ nn, nn = nmT x.1 := ⟨_, rfl⟩
    obtain ⟨c, hc⟩ : ∃ c, c = x.2 := ⟨_, rfl⟩
    rw [← hnn2] at hmp hkey ⊢
    rw [← hc] at hmp hnn ⊢
    have hwf : (Lit.int .i64 (c : Int)).wf = true := by
      simp [Lit.wf, IntKind.min, IntKind.max, IntKind.signed, IntKind.bits]
      omega
    have m1 := g3.blk.cell 0 _ rfl
    have HMP := Lib.hid hmp
    have HKEY := Lib.hid hkey
    have HXL := Lib.hid hxl
    have HPL := Lib.hid hpl
    have HWF := Lib.hid hwf
    have G1 := Lib.hid g1
    have G2 := Lib.hid g2
    have G3 := Lib.hid g3
    clear hmp hkey hxl hpl g1 g2 g3 hwf hnm hnn hnn2 hc hple hD hxs hp hseq
    gi_wp2_with (gi_at_mapUpdate; refine wpListIn_mapUpdate_own _ rfl _ _ _ 134 rfl 9 3 wkeys Tryz.underlying134 _ _ _ _ rfl G2.out HPL.out _ _ (.string nn) rfl rfl HKEY.out (.lit (.int .i64 (c : Int))) [] (plainElem_int Tryz.underlying3 HWF.out) ?_; intro w7 hown7 hg7)
    have hob := owns_obj G2.out
    obtain ⟨o, ho1, ho2⟩ := hob
    exact ⟨keep_grown10 (by omega) (by omega) ho1 ho2 hg7, G1.out.grown hg7 G1.out.size (fun j e => by cases e; omega), by rw [HXL.out, HMP.out]; exact hown7, bx_grown G3.out hg7 (by omega)⟩
  case done =>
    rintro D Wx hD ⟨g1, g2, g3⟩ hKd
    clear hseq
    have m1 := g3.blk.cell 0 _ rfl
    have G1 := Lib.hid g1
    have G2 := Lib.hid g2
    have HK := Lib.hid hKd
    clear g1 g2 g3 hKd
    gi_wp2
    refine leaves_marks (t := 3) (B := W3.heap.size) (fun W' => Below w.heap.size w W' ∧ W'.ownsMap Tryz.prog 9 (plainElem Tryz.prog 3) (w.heap.size + 1) L.length (mapI L)) (fun W1 W2 h ht => ⟨ht.below h.1 (by omega) (Nat.le_refl _), owns_turn h.2 ht (by omega)⟩) (fun W' h => ⟨.map (some (w.heap.size + 1)), by simp [results, Tryz.f87, go_sem], ⟨_, rfl, by omega, h.2, h.1⟩⟩) [D] Wx (by simp) (fun E hE => by rw [List.mem_singleton] at hE; subst hE; exact ⟨by omega, HK.out⟩) ⟨G1.out, G2.out⟩
  case stop =>
    rintro D pre Wx hD hp g1 hKd
    exact g1.elim
end Go.Proofs.YtdoioaeppepndaaGreatDoor
namespace Go.Proofs.YtdoioaeppepndaaGreatDoor
open Go.RowKit Go.Shelf Go.Maps
open A8 W10
attribute [local go_sem] Oper.semAt_some

theorem zeroInt10 (w : World) : (zeroValue 3).run Tryz.prog w = .ok (.int .i64 0) w := by kernel_rfl
def bareT : Tr → Bool | .mk k _ _ g _ _ => !((k == 2) && !g.a.nm.isEmpty)
def bareL (l : List (Tr × Nat)) : Bool := l.all fun x => bareT x.1
theorem bareL_app (a b : List (Tr × Nat)) : bareL (a ++ b) = (bareL a && bareL b) := List.all_append
theorem bareL_one (x : Tr × Nat) : bareL [x] = bareT x.1 := by simp [bareL]
theorem bareT_nd (t : Tr) : bareT t = !(isNotB t.nd && hasNm t.nd) := by
  cases t with
  | mk k mn mx g sk ks => rw [nd_mk]; rfl
theorem bareL_nd (T : Tr) : bareL (lfL (subsT T)) = bareB T.nd := by
  unfold bareL bareB
  exact lf_all T bareT (fun n => !(isNotB n && hasNm n)) bareT_nd
theorem namesL_nd (T : Tr) : nmsL (nmL (lfL (subsT T))) = namesN T.nd := by
  have h1 : ∀ l : List (Tr × Nat), nmsL (nmL l) = ((l.map Prod.fst).filter nmdB).map nmT := fun l => by
    unfold nmsL nmL
    rw [List.filter_map, List.map_map]
    rfl
  rw [h1, lfL_fst]
  unfold namesN
  rw [← lf_nd, List.filter_map, List.map_map]
  have h2 : (isNmd ∘ Tr.nd) = nmdB := funext fun t => by
    cases t with
    | mk k mn mx g sk ks => show isNmd (Tr.nd _) = _; rw [nd_mk]; rfl
  rw [h2]
  exact List.map_congr_left fun t _ => nmT_nd t
def knownL (ns : List (List UInt8)) (l : List (List UInt8)) : Bool := l.all fun s => ns.contains s
theorem knownL_app (ns a b : List (List UInt8)) : knownL ns (a ++ b) = (knownL ns a && knownL ns b) := List.all_append
theorem knownL_one (ns : List (List UInt8)) (x : List UInt8) : knownL ns [x] = ns.contains x := by simp [knownL]
theorem leaves_two {P : Program} {fn : Func} {tmps : Array Value} {n b B D1 D2 : Nat} {w W : World} {e : Int} (hrun : ∀ W, ResP w b e W → (results fn tmps).run P W = .ok (.int .i64 e) W) (hB : w.heap.size ≤ B)
    (h1 : B ≤ D1) (h2 : B ≤ D2) (hne : D2 ≠ D1) (k1 : W.heap[D1]? = some (.deferred (some []))) (k2 : W.heap[D2]? = some (.deferred (some []))) (h : ResP w b e W) :
    LeavesInM Fence.wide n P fn tmps (fun x w' => x = .returned (.int .i64 e) ∧ Below w.heap.size w w') [{ target := .collected D2, args := #[] }, { target := .collected D1, args := #[] }] .returning W :=
  fin_res hrun hB [D2, D1] W (by simp [hne]) (fun E hE => by
    simp only [List.mem_cons, List.not_mem_nil, or_false] at hE
    rcases hE with rfl | rfl
    · exact ⟨h2, k2⟩
    · exact ⟨h1, k1⟩) h
set_option maxRecDepth 100000 in
set_option maxHeartbeats 16000000 in
theorem checkNames_any (q : GQ) (w : World) (hq : QW w q) (hlen : (subsT q.t).length ≤ 999999) (hnu : ∀ s ∈ useL q.qu, s.length ≤ maxLen) :
    Calls Tryz.prog 109 #[.agg q.row.toArray] w fun e w' => e = .returned (.int .i64 (if bareB q.qu.p = false ∨ knownB q.qu = false then 12 else 0)) ∧ Below w.heap.size w w' := by
  have huq := fun (b : Nat) (w2 : World) (h1 : SameB w.heap.size w w2) (h2 : Bx w2 b 35 q.row) => wuses_seq w q hq b w2 h1 h2
  have hun := fun w' ho => wuses_any q w' ho
  have hnum := fun (w1 : World) (hb : Below w.heap.size w w1) => numbers_any q.t w1 (hq.tr.later hb) hlen
  obtain ⟨U, hU⟩ : ∃ U, U = useL q.qu := ⟨_, rfl⟩
  have hkn : knownB q.qu = knownL (nmsL (nmL (lfL (subsT q.t)))) U := by rw [namesL_nd, hU]; rfl
  have hba : bareB q.qu.p = bareL (lfL (subsT q.t)) := by rw [bareL_nd]; rfl
  rw [hkn, hba]
  rw [← hU] at huq hnu
  clear hkn hba hU
  obtain ⟨T, wi, sh, hv, se, em⟩ := q
  obtain ⟨hT, hwi, hh, he, -, -⟩ := hq
  simp only at hT hh he hlen hwi
  obtain ⟨Ah, ch, rfl, hlh, -⟩ := sl_get (by decide) hh
  obtain ⟨Ae, ce, rfl, hle, -⟩ := sl_get (by decide) he
  clear hh he
  simp only at huq hun hnum
  have hnd := fun w => wleaves_any T w
  have hseq := fun (b' : Nat) (w' : World) => wleaves_seq w T hT (by omega) b' w'
  have hmem : ∀ x ∈ lfL (subsT T), TrW w x.1 := fun x hx u hu => hT u (subs_trans (lf_mem hx) hu)
  obtain ⟨M, hM⟩ : ∃ M, M = nmL (lfL (subsT T)) := ⟨_, rfl⟩
  obtain ⟨L, hL⟩ : ∃ L, L = lfL (subsT T) := ⟨_, rfl⟩
  rw [← hM] at hnum ⊢
  rw [← hL] at hmem hseq ⊢
  obtain ⟨E, hE⟩ : ∃ E : Int, E = if bareL L = false ∨ knownL (nmsL M) U = false then 12 else 0 := ⟨_, rfl⟩
  rw [← hE]
  have HE := Lib.hid hE
  clear hL hE hM
  have hone := hT.one
  obtain ⟨k, mn, mx, ⟨⟨kd, bd, bn, cs, nm⟩, sc⟩, sk, ks⟩ := T
  obtain ⟨-, ⟨-, hsc⟩, hsl⟩ := hone
  simp only at hsc
  obtain ⟨A1, cap1, rfl, -, -⟩ := sl_get (by decide) hsc
  obtain ⟨A, cap, rfl, -, -⟩ := sl_get (by decide) hsl
  clear hsc hsl
  clear hT hlen
  have hun2 := fun w' => hun w' ⟨A1, A, Ah, Ae, cap1, cap, ch, ce, _, _, _, _, _, _, _, _, _, rfl, rfl, rfl, rfl⟩
  clear hun
  simp only [GQ.row, Tr.row, List.cons_append, List.nil_append] at hnd hseq huq hun2 hnum ⊢
  have HM := Lib.hid hmem
  have HQ := Lib.hid hseq
  have HUQ := Lib.hid huq
  have HNUM := Lib.hid hnum
  have HUN := Lib.hid hun2
  have HNU := Lib.hid hnu
  clear hmem hseq huq hnum hun2 hnu
  refine (callsIn_wide (n := 5)).1 ?_
  refine callsIn_of_wp_marks Tryz.func109 rfl trivial ?_ rfl
  simp only [Tryz.ntmps109, List.size_toArray, List.length_cons, List.length_nil, Nat.reduceAdd, Nat.reduceSub, Array.replicate_succ, Array.replicate_zero, List.push_toArray, List.append_toArray, List.nil_append, List.cons_append]
  have hz := fun (_ : Nat) => show (((w.alloc (.cells #[.int .i64 k, .int .i64 mn, .int .i64 mx, .int .i64 kd, .bool bd, .int .u64 bn, .slice A1 cs.length cap1, .string (strOf nm), .slice A ks.length cap, .int .u64 wi, .slice Ah hv.length ch, .slice Ae em.length ce] 35)).alloc (.cells #[.int .i64 0] 23)).alloc (.cells #[.int .i64 k, .int .i64 mn, .int .i64 mx, .int .i64 kd, .bool bd, .int .u64 bn, .slice A1 cs.length cap1, .string (strOf nm), .slice A ks.length cap] 31)).heap.size = w.heap.size + 3 ∧ ResP w (w.heap.size + 1) 0 (((w.alloc (.cells #[.int .i64 k, .int .i64 mn, .int .i64 mx, .int .i64 kd, .bool bd, .int .u64 bn, .slice A1 cs.length cap1, .string (strOf nm), .slice A ks.length cap, .int .u64 wi, .slice Ah hv.length ch, .slice Ae em.length ce] 35)).alloc (.cells #[.int .i64 0] 23)).alloc (.cells #[.int .i64 k, .int .i64 mn, .int .i64 mx, .int .i64 kd, .bool bd, .int .u64 bn, .slice A1 cs.length cap1, .string (strOf nm), .slice A ks.length cap] 31)) ∧ Bx (((w.alloc (.cells #[.int .i64 k, .int .i64 mn, .int .i64 mx, .int .i64 kd, .bool bd, .int .u64 bn, .slice A1 cs.length cap1, .string (strOf nm), .slice A ks.length cap, .int .u64 wi, .slice Ah hv.length ch, .slice Ae em.length ce] 35)).alloc (.cells #[.int .i64 0] 23)).alloc (.cells #[.int .i64 k, .int .i64 mn, .int .i64 mx, .int .i64 kd, .bool bd, .int .u64 bn, .slice A1 cs.length cap1, .string (strOf nm), .slice A ks.length cap] 31)) w.heap.size 35 [.int .i64 k, .int .i64 mn, .int .i64 mx, .int .i64 kd, .bool bd, .int .u64 bn, .slice A1 cs.length cap1, .string (strOf nm), .slice A ks.length cap, .int .u64 wi, .slice Ah hv.length ch, .slice Ae em.length ce] ∧ Bx (((w.alloc (.cells #[.int .i64 k, .int .i64 mn, .int .i64 mx, .int .i64 kd, .bool bd, .int .u64 bn, .slice A1 cs.length cap1, .string (strOf nm), .slice A ks.length cap, .int .u64 wi, .slice Ah hv.length ch, .slice Ae em.length ce] 35)).alloc (.cells #[.int .i64 0] 23)).alloc (.cells #[.int .i64 k, .int .i64 mn, .int .i64 mx, .int .i64 kd, .bool bd, .int .u64 bn, .slice A1 cs.length cap1, .string (strOf nm), .slice A ks.length cap] 31)) (w.heap.size + 1 + 1) 31 [.int .i64 k, .int .i64 mn, .int .i64 mx, .int .i64 kd, .bool bd, .int .u64 bn, .slice A1 cs.length cap1, .string (strOf nm), .slice A ks.length cap] from by
    have h1 := Bx.new w [.int .i64 k, .int .i64 mn, .int .i64 mx, .int .i64 kd, .bool bd, .int .u64 bn, .slice A1 cs.length cap1, .string (strOf nm), .slice A ks.length cap, .int .u64 wi, .slice Ah hv.length ch, .slice Ae em.length ce] 35
    have h2 := Bx.new (w.alloc (.cells #[.int .i64 k, .int .i64 mn, .int .i64 mx, .int .i64 kd, .bool bd, .int .u64 bn, .slice A1 cs.length cap1, .string (strOf nm), .slice A ks.length cap, .int .u64 wi, .slice Ah hv.length ch, .slice Ae em.length ce] 35)) [.int .i64 0] 23
    have h5 := Bx.new ((w.alloc (.cells #[.int .i64 k, .int .i64 mn, .int .i64 mx, .int .i64 kd, .bool bd, .int .u64 bn, .slice A1 cs.length cap1, .string (strOf nm), .slice A ks.length cap, .int .u64 wi, .slice Ah hv.length ch, .slice Ae em.length ce] 35)).alloc (.cells #[.int .i64 0] 23)) [.int .i64 k, .int .i64 mn, .int .i64 mx, .int .i64 kd, .bool bd, .int .u64 bn, .slice A1 cs.length cap1, .string (strOf nm), .slice A ks.length cap] 31
    simp only [World.size_alloc] at h2 h5
    exact ⟨by simp, ⟨h2.later (b1 _ _), b3 _ _ _ _⟩, (h1.later (b1 _ _)).later (b1 _ _), h5⟩
  have HZ := Lib.hid hz
  clear hz
  gi_wp2_with (refine ⟨trivial, ?_⟩; refine (callsIn_wide.2 (hnd _)).mono ?_; rintro e w' ⟨rfl, rfl⟩)
  clear hnd
  have hW3 := HZ.out 0
  obtain ⟨W3, hW3e⟩ : ∃ W3, W3 = ((w.alloc (.cells #[.int .i64 k, .int .i64 mn, .int .i64 mx, .int .i64 kd, .bool bd, .int .u64 bn, .slice A1 cs.length cap1, .string (strOf nm), .slice A ks.length cap, .int .u64 wi, .slice Ah hv.length ch, .slice Ae em.length ce] 35)).alloc (.cells #[.int .i64 0] 23)).alloc (.cells #[.int .i64 k, .int .i64 mn, .int .i64 mx, .int .i64 kd, .bool bd, .int .u64 bn, .slice A1 cs.length cap1, .string (strOf nm), .slice A ks.length cap] 31) := ⟨_, rfl⟩
  rw [← hW3e] at hW3
  rw [← hW3e]
  obtain ⟨hsz3, hR3, hB3, hN3⟩ := hW3
  have hseq := HQ.out (w.heap.size + 1 + 1) W3 (SameB.of hR3.2) hN3
  clear hW3e HQ hN3 HZ
  refine wpIn_range_own (gf := 121) (lb := #[.pointer (some ⟨w.heap.size + 1 + 1, 0, none⟩)]) rfl (enters_of Tryz.func121 (by kernel_rfl) rfl)
    hseq (by omega) (Below.refl _ _) (fun _ => rfl)
    (fun pre Wx => bareL pre = true ∧ ResP w (w.heap.size + 1) 0 Wx ∧ Bx Wx w.heap.size 35 [.int .i64 k, .int .i64 mn, .int .i64 mx, .int .i64 kd, .bool bd, .int .u64 bn, .slice A1 cs.length cap1, .string (strOf nm), .slice A ks.length cap, .int .u64 wi, .slice Ah hv.length ch, .slice Ae em.length ce])
    (fun pre Wx => bareL pre = false ∧ ResP w (w.heap.size + 1) 12 Wx)
    ?hI ?hIx ?h0 (fun x act Wx => ∃ b5, w.heap.size + 1 < b5 ∧ Bx Wx b5 31 x.1.row ∧ act = { tmps := #[.agg #[.int .i64 k, .int .i64 mn, .int .i64 mx, .int .i64 kd, .bool bd, .int .u64 bn, .slice A1 cs.length cap1, .string (strOf nm), .slice A ks.length cap, .int .u64 wi, .slice Ah hv.length ch, .slice Ae em.length ce], .pointer (some ⟨w.heap.size, 0, none⟩), .pointer (some ⟨w.heap.size + 1, 0, none⟩), undef, .pointer (some ⟨b5, 0, none⟩), undef, undef, undef, undef, .pointer (some ⟨w.heap.size, 0, none⟩), .agg #[.int .i64 k, .int .i64 mn, .int .i64 mx, .int .i64 kd, .bool bd, .int .u64 bn, .slice A1 cs.length cap1, .string (strOf nm), .slice A ks.length cap], .func (.func 121) #[] #[.pointer (some ⟨w.heap.size + 1 + 1, 0, none⟩)], .int .i64 (x.2 : Int), .agg x.1.row.toArray, undef, undef, undef, undef, undef, undef, undef, undef, undef, undef, undef, undef, undef, undef, undef, undef, undef, undef, undef, undef, undef, undef], defers := [] }) ?hA ?assign ?body ?done ?stop
  case hI =>
    rintro s Wx Wy ⟨g0, g1, g2⟩ ht
    exact ⟨g0, g1.turn ht (by omega), bx_turn g2 ht (.inl (by omega))⟩
  case hIx =>
    rintro s Wx Wy ⟨g0, g1⟩ ht
    exact ⟨g0, g1.turn ht (by omega)⟩
  case h0 => exact ⟨rfl, hR3, hB3⟩
  case hA =>
    rintro x act s Wx Wy row ⟨b5, h1, h2, h3⟩ hg hr
    exact ⟨b5, h1, bx_noncells h2 hg (fun j e => (hr j e).2), h3⟩
  case assign =>
    intro l2 pre x Wx K hp hsz hi hK
    have ho := (HM.out x (hp.subset (by simp))).one
    obtain ⟨x, c⟩ := x
    obtain ⟨k2, mn2, mx2, ⟨⟨kd2, bd2, bn2, cs2, nm2⟩, sc2⟩, sk2, ks2⟩ := x
    obtain ⟨-, ⟨-, e1⟩, e2⟩ := ho
    simp only at e1
    obtain ⟨A5, c5, rfl, hcl, -⟩ := sl_get (by decide) e1
    obtain ⟨A6, c6, rfl, hkl, -⟩ := sl_get (by decide) e2
    simp only [Tr.row] at hK ⊢
    clear e1 e2 hi hseq
    gi_wp2
    exact hK _ _ ⟨Wx.heap.size, by omega, Bx.new _ _ _, rfl⟩ (b1 _ _)
  case body =>
    rintro l2 pre x act Wx hp hsz ⟨g0, g1, g2⟩ ⟨b5, hb5l, hb5, rfl⟩
    have ho := (HM.out x (hp.subset (by simp))).one
    have hrs : bareL (pre ++ [x]) = bareT x.1 := by rw [bareL_app, g0, bareL_one]; rfl
    have hin := fun w => isNot_any x.1 w
    obtain ⟨xs, hxs⟩ : ∃ xs, xs = pre ++ [x] := ⟨_, rfl⟩
    rw [← hxs] at hrs ⊢
    clear hxs hp g0
    obtain ⟨x, c⟩ := x
    obtain ⟨k2, mn2, mx2, ⟨⟨kd2, bd2, bn2, cs2, nm2⟩, sc2⟩, sk2, ks2⟩ := x
    obtain ⟨-, ⟨-, e1⟩, e2⟩ := ho
    simp only at e1
    obtain ⟨A5, c5, rfl, hcl, -⟩ := sl_get (by decide) e1
    obtain ⟨A6, c6, rfl, hkl, -⟩ := sl_get (by decide) e2
    simp only [Tr.row, bareT, nd_mk, isNotB, Nd.kind] at hb5 hrs hin ⊢
    clear e1 e2 hseq
    have hK5 := hb5.blk
    have d0 := hK5.cell 0 _ rfl
    have d1 := hK5.cell 1 _ rfl
    have d2 := hK5.cell 2 _ rfl
    have d3 := hK5.cell 3 _ rfl
    have d4 := hK5.cell 4 _ rfl
    have d5 := hK5.cell 5 _ rfl
    have d6 := hK5.cell 6 _ rfl
    have d7 := hK5.cell 7 _ rfl
    have d8 := hK5.cell 8 _ rfl
    have HR := Lib.hid hrs
    have G1 := Lib.hid g1
    have G2 := Lib.hid g2
    have HB5 := Lib.hid hb5
    have hcell : ∀ W4, Below Wx.heap.size Wx W4 → W4.cell? ⟨b5, 7, none⟩ = some (.string (strOf nm2)) ∧ W4.cell? ⟨w.heap.size + 1, 0, none⟩ = some (.int .i64 0) ∧ W4.frozen? ⟨w.heap.size + 1, 0, none⟩ = false := fun W4 hb => ⟨(HB5.out.later hb).blk.cell 7 _ rfl, (G1.out.later hb).cell, (G1.out.later hb).fr⟩
    clear hK5 hb5 hrs g1 g2
    by_cases h2 : k2 = 2
    · rw [decide_eq_true h2] at hin
      have hkk : (k2 == 2) = true := by simpa using h2
      rw [hkk] at HR
      clear h2 hkk
      cases nm2 with
      | nil =>
        have HR2 := Lib.hid (show bareL xs = true by rw [HR.out]; rfl)
        have hse : (strOf ([] : List UInt8)).toList.isEmpty = true := by rw [strOf_toL]; rfl
        have hse2 : (strOf ([] : List UInt8)).toList = [] := by rw [strOf_toL]
        clear HR
        gi_wp2_with (refine ⟨trivial, ?_⟩; refine (callsIn_wide.2 (hin _)).mono ?_; rintro e W4 ⟨rfl, hb4⟩; obtain ⟨z1, z2, z3⟩ := hcell W4 hb4; clear hcell)
        exact ⟨KeepW.of hb4, HR2.out, G1.out.later hb4, G2.out.later hb4⟩
      | cons q qs =>
        have HR2 := Lib.hid (show bareL xs = false by rw [HR.out]; rfl)
        obtain ⟨st, hst⟩ : ∃ st, st = strOf (q :: qs) := ⟨_, rfl⟩
        have hse : st.toList.isEmpty = false := by rw [hst, strOf_toL]; rfl
        have hse2 : ¬ st.toList = [] := by rw [hst, strOf_toL]; simp
        rw [← hst] at d7 hcell hin ⊢
        clear HR hst
        gi_wp2_with (refine ⟨trivial, ?_⟩; refine (callsIn_wide.2 (hin _)).mono ?_; rintro e W4 ⟨rfl, hb4⟩; obtain ⟨z1, z2, z3⟩ := hcell W4 hb4; clear hcell)
        exact ⟨(KeepsFrom.of_below hb4).trans (KeepsFrom.setCell _ _ _ _), HR2.out, (G1.out.later hb4).set (by omega) 12⟩
    · rw [decide_eq_false h2] at hin
      have hkk : (k2 == 2) = false := by simpa using h2
      have HR2 := Lib.hid (show bareL xs = true by rw [HR.out, hkk]; rfl)
      clear h2 hkk HR
      gi_wp2_with (refine ⟨trivial, ?_⟩; refine (callsIn_wide.2 (hin _)).mono ?_; rintro e W4 ⟨rfl, hb4⟩; obtain ⟨z1, z2, z3⟩ := hcell W4 hb4; clear hcell)
      exact ⟨KeepW.of hb4, HR2.out, G1.out.later hb4, G2.out.later hb4⟩
  case done =>
    rintro D Wx hD ⟨g0, g1, g2⟩ hKd
    clear hseq
    have HEE : RowKit.Hid (E = if knownL (nmsL M) U = true then 0 else 12) := Lib.hid (by rw [HE.out, g0]; cases knownL (nmsL M) U <;> simp)
    have HD := Lib.hid hKd
    have G1 := Lib.hid g1
    have G2 := Lib.hid g2
    have hcl : ∀ w1, Below Wx.heap.size Wx w1 → ∀ i v, [.int .i64 k, .int .i64 mn, .int .i64 mx, .int .i64 kd, .bool bd, .int .u64 bn, .slice A1 cs.length cap1, .string (strOf nm), .slice A ks.length cap, .int .u64 wi, .slice Ah hv.length ch, .slice Ae em.length ce][i]? = some v → w1.cell? ⟨w.heap.size, i, none⟩ = some v := fun w1 hb => (g2.later hb).blk.cell
    have hnum := fun w1 (hb : Below Wx.heap.size Wx w1) => HNUM.out w1 (bstep g1.2 hb)
    have HCL := Lib.hid hcl
    have hDW : D < Wx.heap.size := (Array.getElem?_eq_some_iff.1 hKd).1
    have hb00 := Below.refl Wx.heap.size Wx
    have z0 := HCL.out Wx hb00 0 _ rfl
    have z1 := HCL.out Wx hb00 1 _ rfl
    have z2 := HCL.out Wx hb00 2 _ rfl
    have z3 := HCL.out Wx hb00 3 _ rfl
    have z4 := HCL.out Wx hb00 4 _ rfl
    have z5 := HCL.out Wx hb00 5 _ rfl
    have z6 := HCL.out Wx hb00 6 _ rfl
    have z7 := HCL.out Wx hb00 7 _ rfl
    have z8 := HCL.out Wx hb00 8 _ rfl
    have hcl2 := fun w1 (hb : Below Wx.heap.size Wx w1) (o : Obj) => (show Below Wx.heap.size Wx (w1.alloc o) from bstep hb (b1 _ _))
    clear g0 g1 g2 hKd HE hcl
    gi_upto_region 6 with (refine ⟨trivial, ?_⟩; refine (callsIn_wide.2 (hnum _ hb00)).mono ?_; rintro e w5 ⟨mb, rfl, hmb, hown, hb5⟩)
    clear hnum z0 z1 z2 z3 z4 z5 z6 z7 z8
    obtain ⟨W6, hW6⟩ : ∃ W6, W6 = w5.alloc (.cells #[.map (some mb)] 134) := ⟨_, rfl⟩
    rw [show w5.alloc (.cells #[.map (some mb)] 134) = W6 from hW6.symm]
    have hb6 : Below Wx.heap.size Wx W6 := hW6 ▸ bstep hb5 (b1 _ _)
    have hsz6 : W6.heap.size = w5.heap.size + 1 := by rw [hW6]; simp
    have hmb6 : Bx W6 w5.heap.size 134 [.map (some mb)] := hW6 ▸ Bx.new w5 [.map (some mb)] 134
    have hown6 := owns_below hown (hW6 ▸ b1 _ _ : Below w5.heap.size w5 W6)
    have hmlt : mb < w5.heap.size := hown.lt
    have hs5 : Wx.heap.size ≤ w5.heap.size := hb5.size
    have hwx : w.heap.size + 2 ≤ Wx.heap.size := by have h1 := G1.out.1.lt; omega
    have hD6 := (hb6.block D hDW).trans HD.out
    have hR6 := G1.out.later hb6
    clear hW6 hown hb5 hcl2
    have z0 := HCL.out W6 hb6 0 _ rfl
    have z1 := HCL.out W6 hb6 1 _ rfl
    have z2 := HCL.out W6 hb6 2 _ rfl
    have z3 := HCL.out W6 hb6 3 _ rfl
    have z4 := HCL.out W6 hb6 4 _ rfl
    have z5 := HCL.out W6 hb6 5 _ rfl
    have z6 := HCL.out W6 hb6 6 _ rfl
    have z7 := HCL.out W6 hb6 7 _ rfl
    have z8 := HCL.out W6 hb6 8 _ rfl
    have z9 := HCL.out W6 hb6 9 _ rfl
    have z10 := HCL.out W6 hb6 10 _ rfl
    have z11 := HCL.out W6 hb6 11 _ rfl
    have hun2 := HUN.out W6
    have HM6 := Lib.hid hmb6
    have HO6 := Lib.hid hown6
    have HD6 := Lib.hid hD6
    have HR6 := Lib.hid hR6
    clear hmb6 hown6 hD6 hR6
    gi_wp2_with (refine ⟨trivial, ?_⟩; refine (callsIn_wide.2 hun2).mono ?_; rintro e w' ⟨rfl, rfl⟩)
    clear z0 z1 z2 z3 z4 z5 z6 z7 z8 z9 z10 z11 hun2 HCL HD
    obtain ⟨W7, hW7⟩ : ∃ W7, W7 = W6.alloc (.cells #[.int .i64 k, .int .i64 mn, .int .i64 mx, .int .i64 kd, .bool bd, .int .u64 bn, .slice A1 cs.length cap1, .string (strOf nm), .slice A ks.length cap, .int .u64 wi, .slice Ah hv.length ch, .slice Ae em.length ce] 35) := ⟨_, rfl⟩
    rw [← hW7]
    have hb7 : Below W6.heap.size W6 W7 := hW7 ▸ b1 _ _
    have hsz7 : W7.heap.size = w5.heap.size + 2 := by rw [hW7]; simp [hsz6]
    have hq7 : Bx W7 (w5.heap.size + 1) 35 [.int .i64 k, .int .i64 mn, .int .i64 mx, .int .i64 kd, .bool bd, .int .u64 bn, .slice A1 cs.length cap1, .string (strOf nm), .slice A ks.length cap, .int .u64 wi, .slice Ah hv.length ch, .slice Ae em.length ce] := by
      have h := Bx.new W6 [.int .i64 k, .int .i64 mn, .int .i64 mx, .int .i64 kd, .bool bd, .int .u64 bn, .slice A1 cs.length cap1, .string (strOf nm), .slice A ks.length cap, .int .u64 wi, .slice Ah hv.length ch, .slice Ae em.length ce] 35
      rw [hsz6] at h
      rw [hW7]
      exact h
    have hR7 := HR6.out.later hb7
    have hseq2 := HUQ.out (w5.heap.size + 1) W7 (SameB.of hR7.2) hq7
    clear hW7 HUQ hq7
    refine wpIn_range_own (gf := 119) (lb := #[.pointer (some ⟨w5.heap.size + 1, 0, none⟩)]) rfl (enters_of Tryz.func119 (by kernel_rfl) rfl)
      hseq2 (by omega) (Below.refl _ _) (fun _ => rfl)
      (fun pre Wy => knownL (nmsL M) pre = true ∧ ResP w (w.heap.size + 1) 0 Wy ∧ Wy.ownsMap Tryz.prog 9 (plainElem Tryz.prog 3) mb M.length (mapI M) ∧ Bx Wy w5.heap.size 134 [.map (some mb)] ∧ Wy.heap[D]? = some (.deferred (some [])))
      (fun pre Wy => knownL (nmsL M) pre = false ∧ ResP w (w.heap.size + 1) 12 Wy ∧ Wy.heap[D]? = some (.deferred (some [])))
      ?hI2 ?hIx2 ?h02 (fun x act Wy => act = { tmps := #[.agg #[.int .i64 k, .int .i64 mn, .int .i64 mx, .int .i64 kd, .bool bd, .int .u64 bn, .slice A1 cs.length cap1, .string (strOf nm), .slice A ks.length cap, .int .u64 wi, .slice Ah hv.length ch, .slice Ae em.length ce], .pointer (some ⟨w.heap.size, 0, none⟩), .pointer (some ⟨w.heap.size + 1, 0, none⟩), undef, undef, .pointer (some ⟨w5.heap.size, 0, none⟩), .string (strOf x), undef, undef, .pointer (some ⟨w.heap.size, 0, none⟩), .agg #[.int .i64 k, .int .i64 mn, .int .i64 mx, .int .i64 kd, .bool bd, .int .u64 bn, .slice A1 cs.length cap1, .string (strOf nm), .slice A ks.length cap], .func (.func 121) #[] #[.pointer (some ⟨w.heap.size + 1 + 1, 0, none⟩)], undef, undef, undef, undef, undef, undef, undef, undef, undef, undef, .pointer (some ⟨w.heap.size, 0, none⟩), .agg #[.int .i64 k, .int .i64 mn, .int .i64 mx, .int .i64 kd, .bool bd, .int .u64 bn, .slice A1 cs.length cap1, .string (strOf nm), .slice A ks.length cap], .map (some mb), .agg #[.int .i64 k, .int .i64 mn, .int .i64 mx, .int .i64 kd, .bool bd, .int .u64 bn, .slice A1 cs.length cap1, .string (strOf nm), .slice A ks.length cap, .int .u64 wi, .slice Ah hv.length ch, .slice Ae em.length ce], .func (.func 119) #[] #[.pointer (some ⟨w5.heap.size + 1, 0, none⟩)], .string (strOf x), undef, undef, undef, undef, undef, undef, undef, undef], defers := [] }) ?hA2 ?assign2 ?body2 ?done2 ?stop2
    case hI2 =>
      rintro s Wy Wz ⟨g0, g1, g2, g3, g4⟩ ht
      exact ⟨g0, g1.turn ht (by omega), owns_turn g2 ht (by omega), bx_turn g3 ht (.inl (by omega)), ht.same _ _ g4 (.inl (by omega))⟩
    case hIx2 =>
      rintro s Wy Wz ⟨g0, g1, g2⟩ ht
      exact ⟨g0, g1.turn ht (by omega), ht.same _ _ g2 (.inl (by omega))⟩
    case h02 => exact ⟨rfl, hR7, owns_below HO6.out hb7, HM6.out.later hb7, (hb7.block D (by omega)).trans HD6.out⟩
    case hA2 =>
      rintro x act s Wy Wz row h3 hg hr
      exact h3
    case assign2 =>
      intro l2 pre x Wy K hp hsz hi hK
      clear hi hseq2
      gi_wp2
      exact hK _ _ rfl (Below.refl _ _)
    case body2 =>
      rintro l2 pre x act Wy hp hsz ⟨g0, g1, g2, g3, g4⟩ rfl
      have hrs : knownL (nmsL M) (pre ++ [x]) = (nmsL M).contains x := by rw [knownL_app, g0, knownL_one]; rfl
      have hkey := wkey x (HNU.out x (hp.subset (by simp)))
      have hhas := mapI_has M x
      obtain ⟨xs, hxs⟩ : ∃ xs, xs = pre ++ [x] := ⟨_, rfl⟩
      obtain ⟨kk, hkk⟩ : ∃ kk, kk = (nmsL M).contains x := ⟨_, rfl⟩
      rw [← hxs] at hrs ⊢
      rw [← hkk] at hrs hhas
      have m1 := g3.blk.cell 0 _ rfl
      have r1 := g1.cell
      have r2 := g1.fr
      have HRS := Lib.hid hrs
      have HKEY := Lib.hid hkey
      have HHAS := Lib.hid hhas
      have G2 := Lib.hid g2
      have G1' := Lib.hid g1
      have G3 := Lib.hid g3
      have G4 := Lib.hid g4
      clear hxs hp g0 hkk hrs hkey hhas g1 g2 g3 g4 hseq2
      cases kk with
      | true =>
        gi_wp2_with (gi_at_lookup; refine wpListIn_lookup_own_ok_int _ rfl _ _ 134 rfl 9 3 .i64 wkeys Tryz.underlying134 Tryz.underlying3 (zeroInt10 _) mb _ _ rfl G2.out _ _ rfl HKEY.out ?_; intro c hat hwc; rw [HHAS.out])
        exact ⟨KeepW.refl _ _, HRS.out, G1'.out, G2.out, G3.out, G4.out⟩
      | false =>
        gi_wp2_with (gi_at_lookup; refine wpListIn_lookup_own_ok_int _ rfl _ _ 134 rfl 9 3 .i64 wkeys Tryz.underlying134 Tryz.underlying3 (zeroInt10 _) mb _ _ rfl G2.out _ _ rfl HKEY.out ?_; intro c hat hwc; rw [HHAS.out])
        exact ⟨KeepsFrom.setCell _ _ _ _, HRS.out, G1'.out.set (by omega) 12, def_set G4.out⟩
    case done2 =>
      rintro D2 Wy hD2 ⟨g0, g1, g2, g3, g4⟩ hKd
      clear hseq2
      have he : E = 0 := by rw [HEE.out, if_pos g0]
      have HH := Lib.hid he
      clear he
      have HG := Lib.hid g1
      have r1 := g1.cell
      have r2 := g1.fr
      have HD := Lib.hid hKd
      have HD1 := Lib.hid g4
      clear g1 hKd g0 g2 g3 g4
      gi_wp2
      exact leaves_two (fun W h => by simp [results, Tryz.f109, go_sem, h.cell]) (Nat.le_refl _) (show w.heap.size ≤ D by omega) (show w.heap.size ≤ D2 by omega) (by omega) (def_set HD1.out) (def_set HD.out) ((HG.out.set (by omega) 0).eq HH.out)
    case stop2 =>
      rintro D2 pre Wy hD2 hp ⟨g0, g1, g4⟩ hKd
      clear hseq2
      have he : E = 12 := by
        rw [HEE.out, if_neg]
        intro h
        obtain ⟨r, rfl⟩ := hp
        rw [knownL_app, g0] at h
        cases h
      have HH := Lib.hid he
      clear he g0 hp
      gi_wp2
      exact leaves_two (fun W h => by simp [results, Tryz.f109, go_sem, h.cell]) (Nat.le_refl _) (show w.heap.size ≤ D by omega) (show w.heap.size ≤ D2 by omega) (by omega) g4 hKd (g1.eq HH.out)
  case stop =>
    rintro D pre Wx hD hp ⟨g0, g1⟩ hKd
    clear hseq
    have he : E = 12 := by
      rw [HE.out, if_pos]
      left
      obtain ⟨r, rfl⟩ := hp
      rw [bareL_app, g0]
      rfl
    have HH := Lib.hid he
    clear he g0 hp
    gi_wp2
    exact fin_one (fun W h => by simp [results, Tryz.f109, go_sem, h.cell]) (Nat.le_refl _) (show w.heap.size ≤ D by omega) hKd (g1.eq HH.out)
end Go.Proofs.YtdoioaeppepndaaGreatDoor
namespace Go.Proofs.YtdoioaeppepndaaGreatDoor
open Go.RowKit Go.Shelf
open A8 W10
attribute [local go_sem] Oper.semAt_some

def ceI (q : Qu) : Nat → Int
  | 0 => checkE q
  | 1 => if fullB q = true then 6 else 0
  | 2 => if 6 < depthN q.p then 22 else 0
  | 3 => if rangeB q = true then 0 else 2
  | 4 => if notsB q.p = true then 0 else 9
  | 5 => if onceL (leafNames q.p) = true then 0 else 8
  | 6 => if bareB q.p = false ∨ knownB q = false then 12 else 0
  | _ => 0
theorem wfE_first (q : Qu) (i : Nat) (hi : i < 7) (h0 : ∀ j, j < i → ceI q j = 0) (h1 : ceI q i ≠ 0) : wfE q = ceI q i := by
  have hch : checkE q = if checkB q = true then 0 else 3 := rfl
  have z0 : 0 < i → checkB q = true := fun h => by
    have := h0 0 h
    simp only [ceI, hch] at this
    split at this
    · assumption
    · cases this
  have z1 : 1 < i → fullB q = false := fun h => by
    have := h0 1 h
    simp only [ceI] at this
    split at this
    · cases this
    · simpa using ‹¬ fullB q = true›
  have z2 : 2 < i → ¬ 6 < depthN q.p := fun h => by
    have := h0 2 h
    simp only [ceI] at this
    split at this
    · cases this
    · assumption
  have z3 : 3 < i → rangeB q = true := fun h => by
    have := h0 3 h
    simp only [ceI] at this
    split at this
    · assumption
    · cases this
  have z4 : 4 < i → notsB q.p = true := fun h => by
    have := h0 4 h
    simp only [ceI] at this
    split at this
    · assumption
    · cases this
  have z5 : 5 < i → onceL (leafNames q.p) = true := fun h => by
    have := h0 5 h
    simp only [ceI] at this
    split at this
    · assumption
    · cases this
  have hi' : i = 0 ∨ i = 1 ∨ i = 2 ∨ i = 3 ∨ i = 4 ∨ i = 5 ∨ i = 6 := by omega
  unfold wfE
  rcases hi' with rfl | rfl | rfl | rfl | rfl | rfl | rfl
  · cases hb : checkB q with
    | true => simp [ceI, hch, hb] at h1
    | false => simp [ceI, hch, hb]
  · rw [z0 (by omega)]
    cases hb : fullB q with
    | false => simp [ceI, hb] at h1
    | true => simp [ceI, hb]
  · rw [z0 (by omega), z1 (by omega)]
    by_cases hb : 6 < depthN q.p
    · simp [ceI, hb]
    · simp [ceI, hb] at h1
  · rw [z0 (by omega), z1 (by omega), if_neg (by simp), if_neg (by simp), if_neg (z2 (by omega))]
    cases hb : rangeB q with
    | true => simp [ceI, hb] at h1
    | false => simp [ceI, hb]
  · rw [z0 (by omega), z1 (by omega), if_neg (by simp), if_neg (by simp), if_neg (z2 (by omega)), z3 (by omega), if_neg (by simp)]
    cases hb : notsB q.p with
    | true => simp [ceI, hb] at h1
    | false => simp [ceI, hb]
  · rw [z0 (by omega), z1 (by omega), if_neg (by simp), if_neg (by simp), if_neg (z2 (by omega)), z3 (by omega), if_neg (by simp), z4 (by omega), if_neg (by simp)]
    cases hb : onceL (leafNames q.p) with
    | true => simp [ceI, hb] at h1
    | false => simp [ceI, hb]
  · rw [z0 (by omega), z1 (by omega), if_neg (by simp), if_neg (by simp), if_neg (z2 (by omega)), z3 (by omega), if_neg (by simp), z4 (by omega), if_neg (by simp), z5 (by omega), if_neg (by simp)]
    by_cases hb : bareB q.p = false ∨ knownB q = false
    · simp [ceI, hb]
    · simp [ceI, hb] at h1
theorem wfE_none (q : Qu) (h0 : ∀ j, j < 7 → ceI q j = 0) : wfE q = 0 := by
  have hch : checkE q = if checkB q = true then 0 else 3 := rfl
  have z0 := h0 0 (by omega)
  have z1 := h0 1 (by omega)
  have z2 := h0 2 (by omega)
  have z3 := h0 3 (by omega)
  have z4 := h0 4 (by omega)
  have z5 := h0 5 (by omega)
  have z6 := h0 6 (by omega)
  simp only [ceI, hch] at z0 z1 z2 z3 z4 z5 z6
  unfold wfE
  rw [if_neg, if_neg, if_neg, if_neg, if_neg, if_neg, if_neg]
  · intro h; rw [if_pos h] at z6; cases z6
  · intro h; rw [h] at z5; cases z5
  · intro h; rw [h] at z4; cases z4
  · intro h; rw [h] at z3; cases z3
  · intro h; rw [if_pos h] at z2; cases z2
  · intro h; rw [h] at z1; cases z1
  · intro h; rw [h] at z0; cases z0
theorem checks_any (w : World) : Calls Tryz.prog 76 #[] w fun e w' => e = .returned (.slice (some ⟨w.heap.size, 0, none⟩) 7 7) ∧ w' = w.alloc (.cells #[.func (.func 103) #[] #[], .func (.func 104) #[] #[], .func (.func 105) #[] #[], .func (.func 106) #[] #[], .func (.func 107) #[] #[], .func (.func 108) #[] #[], .func (.func 109) #[] #[]] 67) := by
  go_enter Tryz.func76, Tryz.ntmps76
  go_wp2
  go_ret
  exact ⟨rfl, rfl⟩
/-- What stands between two checks: all so far found nothing; the box of what was found is the call's own. -/
structure CkI (w : World) (b3 : Nat) (W3 : World) (ce : Nat → Int) (i : Nat) (wr : World) : Prop where
  no : ∀ j, j < i → ce j = 0
  fd : Bx wr b3 23 [.int .i64 0]
  kp : W3.grownBy wr (some b3)
  bel : Below w.heap.size w wr
theorem blk_grown {W W' : World} {b c : Nat} {us : List Value} (h : Blk W c us) (hg : W.grownBy W' (some b)) (hne : c ≠ b) : Blk W' c us := by
  have e := hg.block c h.lt (fun e => hne (by cases e; rfl))
  exact ⟨Nat.lt_of_lt_of_le h.lt hg.size, fun i v hv => (World.cell?_of_block (w := W) (a := ⟨c, i, none⟩) e).trans (h.cell i v hv), fun i v hv => (World.frozen?_of_block (w := W) (a := ⟨c, i, none⟩) e).trans (h.fr i v hv)⟩
theorem grown_step {X Y Z : World} {b : Nat} (h : X.grownBy Y (some b)) (k : Below Y.heap.size Y Z) (v : Value) : X.grownBy (Z.setCell ⟨b, 0, none⟩ v) (some b) :=
  ⟨k.os.trans h.os, k.tape.trans h.tape, k.output.trans h.output, by have := h.size; have := k.size; simp [World.setCell]; omega, fun i hi hne => by
    have hb : i ≠ b := fun e => hne (by rw [e])
    rw [Below.heap_setCell _ _ _ _ hb, k.block i (by have := h.size; omega)]
    exact h.block i hi hne⟩
theorem check_d (b3 b2 : Nat) (u : FrameMode) (w : World) (c d : Int) (h3 : w.cell? ⟨b3, 0, none⟩ = some (.int .i64 c)) (h2 : w.cell? ⟨b2, 0, none⟩ = some (.int .i64 d)) (hf : w.frozen? ⟨b2, 0, none⟩ = false) :
    CallsD Tryz.prog 75 #[.pointer (some ⟨b3, 0, none⟩), .pointer (some ⟨b2, 0, none⟩)] u w fun e u' w' => u' = u ∧ (∃ v, e = .returned v) ∧ w' = w.setCell ⟨b2, 0, none⟩ (.int .i64 c) := by
  refine callsD_of_wp Tryz.func75 rfl ?_
  simp only [Tryz.ntmps75, List.size_toArray, List.length_cons, List.length_nil, Nat.reduceAdd, Nat.reduceSub, Array.replicate_succ, Array.replicate_zero, List.push_toArray, List.append_toArray, List.nil_append, List.cons_append]
  go_wp2
  go_end0
  exact ⟨⟨_, rfl⟩, rfl⟩
theorem fin_check {tmps : Array Value} {b3 b2 : Nat} {w W : World} {c R : Int} (hrun : ∀ W, Bx W b2 23 [.int .i64 c] → (results Tryz.f32 tmps).run Tryz.prog W = .ok (.int .i64 c) W)
    (h3 : Bx W b3 23 [.int .i64 c]) (h2 : Bx W b2 23 [.int .i64 0]) (hb : Below w.heap.size w W) (hw : w.heap.size ≤ b2) (hR : R = c) :
    Leaves Tryz.prog Tryz.f32 tmps (fun e w' => e = .returned (.int .i64 R) ∧ Below w.heap.size w w') [{ target := .fn (.func 75) #[.pointer (some ⟨b3, 0, none⟩), .pointer (some ⟨b2, 0, none⟩)], args := #[] }] .returning W := by
  refine leaves_cons (f := 75) (args := #[.pointer (some ⟨b3, 0, none⟩), .pointer (some ⟨b2, 0, none⟩)]) (by simp) (by simp [go_sem]) ?_
  refine (check_d b3 b2 .returning W c 0 (h3.blk.cell 0 _ rfl) (h2.blk.cell 0 _ rfl) (h2.blk.fr 0 _ rfl)).mono ?_
  rintro e u' w'' ⟨rfl, ⟨v, rfl⟩, rfl⟩
  exact ⟨_, hrun _ (bx_set h2 _), by rw [hR], hb.setCell (p := ⟨b2, 0, none⟩) hw _⟩
set_option maxRecDepth 100000 in
set_option maxHeartbeats 16000000 in
theorem wcheck_any (q : GQ) (w : World) (hq : QW w q) (hlen : (subsT q.t).length ≤ 999999) (hG : SG w) (hnu : ∀ s ∈ useL q.qu, s.length ≤ maxLen) :
    Calls Tryz.prog 32 #[.agg q.row.toArray] w fun e w' => e = .returned (.int .i64 (wfE q.qu)) ∧ Below w.heap.size w w' := by
  have hc0 := fun w1 (hb : Below w.heap.size w w1) => checkq_any q w1 (hq.later hb) hlen (hG.later hb)
  have hc1 := fun w1 (hb : Below w.heap.size w w1) => checkRoom_any q w1 (hq.later hb) hlen
  have hc2 := fun (hs : soundN 1 q.t.nd = true) w1 (hb : Below w.heap.size w w1) => checkDepth_any q w1 (hq.later hb) hlen (hG.later hb) hs
  have hc3 := fun w1 (hb : Below w.heap.size w w1) => checkNumbers_any q w1 (hq.later hb) hlen
  have hc4 := fun w1 (hb : Below w.heap.size w w1) => checkNots_any q w1 (hq.later hb) hlen
  have hc5 := fun w1 (hb : Below w.heap.size w w1) => checkTwice_any q w1 (hq.later hb) hlen
  have hc6 := fun w1 (hb : Below w.heap.size w w1) => checkNames_any q w1 (hq.later hb) hlen hnu
  have hsnd : ceI q.qu 0 = 0 → soundN 1 q.t.nd = true := fun h => by
    have hch : checkE q.qu = if checkB q.qu = true then 0 else 3 := rfl
    simp only [ceI, hch] at h
    split at h
    · rename_i hb
      unfold checkB at hb
      simp only [Bool.and_eq_true] at hb
      exact hb.1.1.1
    · cases h
  obtain ⟨R, hR⟩ : ∃ R, R = wfE q.qu := ⟨_, rfl⟩
  have hfirst := wfE_first q.qu
  have hnone := wfE_none q.qu
  rw [← hR] at hfirst hnone ⊢
  obtain ⟨cE, hce⟩ : ∃ cE, cE = ceI q.qu := ⟨_, rfl⟩
  replace hc0 : ∀ w1, Below w.heap.size w w1 → Calls Tryz.prog 103 #[.agg q.row.toArray] w1 fun e w' => e = .returned (.int .i64 (cE 0)) ∧ Below w1.heap.size w1 w' := by rw [hce]; exact hc0
  replace hc1 : ∀ w1, Below w.heap.size w w1 → Calls Tryz.prog 104 #[.agg q.row.toArray] w1 fun e w' => e = .returned (.int .i64 (cE 1)) ∧ Below w1.heap.size w1 w' := by rw [hce]; exact hc1
  replace hc2 : cE 0 = 0 → ∀ w1, Below w.heap.size w w1 → Calls Tryz.prog 105 #[.agg q.row.toArray] w1 fun e w' => e = .returned (.int .i64 (cE 2)) ∧ Below w1.heap.size w1 w' := by rw [hce]; exact fun h => hc2 (hsnd h)
  replace hc3 : ∀ w1, Below w.heap.size w w1 → Calls Tryz.prog 106 #[.agg q.row.toArray] w1 fun e w' => e = .returned (.int .i64 (cE 3)) ∧ Below w1.heap.size w1 w' := by rw [hce]; exact hc3
  replace hc4 : ∀ w1, Below w.heap.size w w1 → Calls Tryz.prog 107 #[.agg q.row.toArray] w1 fun e w' => e = .returned (.int .i64 (cE 4)) ∧ Below w1.heap.size w1 w' := by rw [hce]; exact hc4
  replace hc5 : ∀ w1, Below w.heap.size w w1 → Calls Tryz.prog 108 #[.agg q.row.toArray] w1 fun e w' => e = .returned (.int .i64 (cE 5)) ∧ Below w1.heap.size w1 w' := by rw [hce]; exact hc5
  replace hc6 : ∀ w1, Below w.heap.size w w1 → Calls Tryz.prog 109 #[.agg q.row.toArray] w1 fun e w' => e = .returned (.int .i64 (cE 6)) ∧ Below w1.heap.size w1 w' := by rw [hce]; exact hc6
  rw [← hce] at hfirst hnone
  clear hsnd hR hce hnu hG
  obtain ⟨T, wi, sh, hv, se, em⟩ := q
  obtain ⟨hT, hwi, hh, he, -, -⟩ := hq
  simp only at hT hh he hlen hwi
  obtain ⟨Ah, ch, rfl, hlh, -⟩ := sl_get (by decide) hh
  obtain ⟨Ae, ce, rfl, hle, -⟩ := sl_get (by decide) he
  clear hh he
  have hone := hT.one
  obtain ⟨k, mn, mx, ⟨⟨kd, bd, bn, cs, nm⟩, sc⟩, sk, ks⟩ := T
  obtain ⟨-, ⟨-, hsc⟩, hsl⟩ := hone
  simp only at hsc
  obtain ⟨A1, cap1, rfl, -, -⟩ := sl_get (by decide) hsc
  obtain ⟨A, cap, rfl, -, -⟩ := sl_get (by decide) hsl
  clear hsc hsl
  clear hT hwi hlh hle hlen
  simp only [GQ.row, Tr.row, List.cons_append, List.nil_append] at hc0 hc1 hc2 hc3 hc4 hc5 hc6 ⊢
  have H0 := Lib.hid hc0
  have H1 := Lib.hid hc1
  have H2 := Lib.hid hc2
  have H3 := Lib.hid hc3
  have H4 := Lib.hid hc4
  have H5 := Lib.hid hc5
  have H6 := Lib.hid hc6
  have HF := Lib.hid hfirst
  have HN := Lib.hid hnone
  clear hc0 hc1 hc2 hc3 hc4 hc5 hc6 hfirst hnone
  have hck := fun w => checks_any w
  go_enter_defers Tryz.func32, Tryz.ntmps32
  go_wp2
  go_step3
  go_wp2
  go_step3
  go_wp2_with (go_at_call 76; refine (hck _).mono ?_; rintro e w1 ⟨rfl, rfl⟩)
  clear hck
  obtain ⟨W3, hW3⟩ : ∃ W3, W3 = (((w.alloc (.cells #[.int .i64 k, .int .i64 mn, .int .i64 mx, .int .i64 kd, .bool bd, .int .u64 bn, .slice A1 cs.length cap1, .string (strOf nm), .slice A ks.length cap, .int .u64 wi, .slice Ah hv.length ch, .slice Ae em.length ce] 35)).alloc (.cells #[.int .i64 0] 23)).alloc (.cells #[.int .i64 0] 23)).alloc (.cells #[.func (.func 103) #[] #[], .func (.func 104) #[] #[], .func (.func 105) #[] #[], .func (.func 106) #[] #[], .func (.func 107) #[] #[], .func (.func 108) #[] #[], .func (.func 109) #[] #[]] 67) := ⟨_, rfl⟩
  rw [← hW3]
  have hst := show Below w.heap.size w W3 ∧ Blk W3 w.heap.size [.int .i64 k, .int .i64 mn, .int .i64 mx, .int .i64 kd, .bool bd, .int .u64 bn, .slice A1 cs.length cap1, .string (strOf nm), .slice A ks.length cap, .int .u64 wi, .slice Ah hv.length ch, .slice Ae em.length ce] ∧ ResP w (w.heap.size + 1) 0 W3 ∧ Bx W3 (w.heap.size + 1 + 1) 23 [.int .i64 0] ∧ Blk W3 (w.heap.size + 1 + 1 + 1) [.func (.func 103) #[] #[], .func (.func 104) #[] #[], .func (.func 105) #[] #[], .func (.func 106) #[] #[], .func (.func 107) #[] #[], .func (.func 108) #[] #[], .func (.func 109) #[] #[]] from by
    rw [hW3]
    have h1 := Bx.new w [.int .i64 k, .int .i64 mn, .int .i64 mx, .int .i64 kd, .bool bd, .int .u64 bn, .slice A1 cs.length cap1, .string (strOf nm), .slice A ks.length cap, .int .u64 wi, .slice Ah hv.length ch, .slice Ae em.length ce] 35
    have h2 := Bx.new (w.alloc (.cells #[.int .i64 k, .int .i64 mn, .int .i64 mx, .int .i64 kd, .bool bd, .int .u64 bn, .slice A1 cs.length cap1, .string (strOf nm), .slice A ks.length cap, .int .u64 wi, .slice Ah hv.length ch, .slice Ae em.length ce] 35)) [.int .i64 0] 23
    have h3 := Bx.new ((w.alloc (.cells #[.int .i64 k, .int .i64 mn, .int .i64 mx, .int .i64 kd, .bool bd, .int .u64 bn, .slice A1 cs.length cap1, .string (strOf nm), .slice A ks.length cap, .int .u64 wi, .slice Ah hv.length ch, .slice Ae em.length ce] 35)).alloc (.cells #[.int .i64 0] 23)) [.int .i64 0] 23
    have h4 := Bx.new (((w.alloc (.cells #[.int .i64 k, .int .i64 mn, .int .i64 mx, .int .i64 kd, .bool bd, .int .u64 bn, .slice A1 cs.length cap1, .string (strOf nm), .slice A ks.length cap, .int .u64 wi, .slice Ah hv.length ch, .slice Ae em.length ce] 35)).alloc (.cells #[.int .i64 0] 23)).alloc (.cells #[.int .i64 0] 23)) [.func (.func 103) #[] #[], .func (.func 104) #[] #[], .func (.func 105) #[] #[], .func (.func 106) #[] #[], .func (.func 107) #[] #[], .func (.func 108) #[] #[], .func (.func 109) #[] #[]] 67
    simp only [World.size_alloc] at h2 h3 h4
    exact ⟨bstep (b3 _ _ _ _) (b1 _ _), (((h1.later (b1 _ _)).later (b1 _ _)).later (b1 _ _)).blk, ⟨(h2.later (b1 _ _)).later (b1 _ _), bstep (b3 _ _ _ _) (b1 _ _)⟩, h3.later (b1 _ _), h4.blk⟩
  obtain ⟨hb3, hq3, hr3, hf3, hc3⟩ := hst
  have hsz3 : W3.heap.size = w.heap.size + 4 := by rw [hW3]; simp
  have HB3 := Lib.hid hb3
  have HQ3 := Lib.hid hq3
  have HR3 := Lib.hid hr3
  have HF3 := Lib.hid hf3
  have HC3 := Lib.hid hc3
  clear hW3 hb3 hq3 hr3 hf3 hc3
  go_loopw [9] (fun v wr => ∃ i : Nat, i ≤ 7 ∧ v = .int .i64 (i : Int) ∧ CkI w (w.heap.size + 1 + 1) W3 cE i wr) (fun v _ => 7 - (intOf v).toNat)
  case atStart => exact ⟨0, by omega, rfl, ⟨fun j hj => by omega, HF3.out, ⟨rfl, rfl, rfl, Nat.le_refl _, fun _ _ _ => rfl⟩, HB3.out⟩⟩
  case round =>
    obtain ⟨i, hi, rfl, hI⟩ := hrel
    have HI := Lib.hid hI
    have hii : i = 0 ∨ i = 1 ∨ i = 2 ∨ i = 3 ∨ i = 4 ∨ i = 5 ∨ i = 6 ∨ i = 7 := by omega
    have hq := blk_grown HQ3.out HI.out.kp (by omega)
    have q0 := hq.cell 0 _ rfl
    have q1 := hq.cell 1 _ rfl
    have q2 := hq.cell 2 _ rfl
    have q3 := hq.cell 3 _ rfl
    have q4 := hq.cell 4 _ rfl
    have q5 := hq.cell 5 _ rfl
    have q6 := hq.cell 6 _ rfl
    have q7 := hq.cell 7 _ rfl
    have q8 := hq.cell 8 _ rfl
    have q9 := hq.cell 9 _ rfl
    have q10 := hq.cell 10 _ rfl
    have q11 := hq.cell 11 _ rfl
    have hcell : ∀ W4, Below wr.heap.size wr W4 → W4.cell? ⟨w.heap.size + 1 + 1, 0, none⟩ = some (.int .i64 0) ∧ W4.frozen? ⟨w.heap.size + 1 + 1, 0, none⟩ = false := fun W4 hb => ⟨(HI.out.fd.later hb).blk.cell 0 _ rfl, (HI.out.fd.later hb).blk.fr 0 _ rfl⟩
    clear hI hq
    rcases hii with rfl | rfl | rfl | rfl | rfl | rfl | rfl | rfl
    · have hc := (blk_grown HC3.out HI.out.kp (by omega)).cell 0 _ rfl
      by_cases hz : cE 0 = 0
      · have hzb : (cE 0 == 0) = true := by simpa using hz
        have HZ := Lib.hid hz
        rw [hz] at H0
        clear hz
        go_wp2_with (go_at_call 103; refine (H0.out _ HI.out.bel).mono ?_; rintro e W4 ⟨rfl, hb4⟩; obtain ⟨z1, z2⟩ := hcell W4 hb4; clear hcell)
        exact ⟨⟨1, by omega, rfl, ⟨fun j hj => by rcases Nat.lt_succ_iff_lt_or_eq.1 hj with h | h; exact HI.out.no j h; rw [h]; exact HZ.out, bx_set (HI.out.fd.later hb4) _, grown_step HI.out.kp hb4 _, (bstep HI.out.bel hb4).setCell (p := ⟨w.heap.size + 1 + 1, 0, none⟩) (by simp; omega) _⟩⟩, by simp [intOf]⟩
      · have hzb : (cE 0 == 0) = false := by simpa using hz
        have HZ : RowKit.Hid (R = cE 0) := Lib.hid (HF.out 0 (by omega) HI.out.no hz)
        go_wp2_with (go_at_call 103; refine (H0.out _ HI.out.bel).mono ?_; rintro e W4 ⟨rfl, hb4⟩; obtain ⟨z1, z2⟩ := hcell W4 hb4; clear hcell)
        rw [Exit.noGoto_ret]
        exact fin_check (fun W h => by simp [results, Tryz.f32, go_sem, h.blk.cell 0 _ rfl]) (bx_set (HI.out.fd.later hb4) _) (bx_other ((bx_grown HR3.out.1 HI.out.kp (by omega)).later hb4) (by simp) _) ((bstep HI.out.bel hb4).setCell (p := ⟨w.heap.size + 1 + 1, 0, none⟩) (by simp; omega) _) (by omega) HZ.out
    · have hc := (blk_grown HC3.out HI.out.kp (by omega)).cell 1 _ rfl
      by_cases hz : cE 1 = 0
      · have hzb : (cE 1 == 0) = true := by simpa using hz
        have HZ := Lib.hid hz
        rw [hz] at H1
        clear hz
        go_wp2_with (go_at_call 104; refine (H1.out _ HI.out.bel).mono ?_; rintro e W4 ⟨rfl, hb4⟩; obtain ⟨z1, z2⟩ := hcell W4 hb4; clear hcell)
        exact ⟨⟨2, by omega, rfl, ⟨fun j hj => by rcases Nat.lt_succ_iff_lt_or_eq.1 hj with h | h; exact HI.out.no j h; rw [h]; exact HZ.out, bx_set (HI.out.fd.later hb4) _, grown_step HI.out.kp hb4 _, (bstep HI.out.bel hb4).setCell (p := ⟨w.heap.size + 1 + 1, 0, none⟩) (by simp; omega) _⟩⟩, by simp [intOf]⟩
      · have hzb : (cE 1 == 0) = false := by simpa using hz
        have HZ : RowKit.Hid (R = cE 1) := Lib.hid (HF.out 1 (by omega) HI.out.no hz)
        go_wp2_with (go_at_call 104; refine (H1.out _ HI.out.bel).mono ?_; rintro e W4 ⟨rfl, hb4⟩; obtain ⟨z1, z2⟩ := hcell W4 hb4; clear hcell)
        rw [Exit.noGoto_ret]
        exact fin_check (fun W h => by simp [results, Tryz.f32, go_sem, h.blk.cell 0 _ rfl]) (bx_set (HI.out.fd.later hb4) _) (bx_other ((bx_grown HR3.out.1 HI.out.kp (by omega)).later hb4) (by simp) _) ((bstep HI.out.bel hb4).setCell (p := ⟨w.heap.size + 1 + 1, 0, none⟩) (by simp; omega) _) (by omega) HZ.out
    · have hc := (blk_grown HC3.out HI.out.kp (by omega)).cell 2 _ rfl
      by_cases hz : cE 2 = 0
      · have hzb : (cE 2 == 0) = true := by simpa using hz
        have HZ := Lib.hid hz
        rw [hz] at H2
        clear hz
        go_wp2_with (go_at_call 105; refine (H2.out (HI.out.no 0 (by omega)) _ HI.out.bel).mono ?_; rintro e W4 ⟨rfl, hb4⟩; obtain ⟨z1, z2⟩ := hcell W4 hb4; clear hcell)
        exact ⟨⟨3, by omega, rfl, ⟨fun j hj => by rcases Nat.lt_succ_iff_lt_or_eq.1 hj with h | h; exact HI.out.no j h; rw [h]; exact HZ.out, bx_set (HI.out.fd.later hb4) _, grown_step HI.out.kp hb4 _, (bstep HI.out.bel hb4).setCell (p := ⟨w.heap.size + 1 + 1, 0, none⟩) (by simp; omega) _⟩⟩, by simp [intOf]⟩
      · have hzb : (cE 2 == 0) = false := by simpa using hz
        have HZ : RowKit.Hid (R = cE 2) := Lib.hid (HF.out 2 (by omega) HI.out.no hz)
        go_wp2_with (go_at_call 105; refine (H2.out (HI.out.no 0 (by omega)) _ HI.out.bel).mono ?_; rintro e W4 ⟨rfl, hb4⟩; obtain ⟨z1, z2⟩ := hcell W4 hb4; clear hcell)
        rw [Exit.noGoto_ret]
        exact fin_check (fun W h => by simp [results, Tryz.f32, go_sem, h.blk.cell 0 _ rfl]) (bx_set (HI.out.fd.later hb4) _) (bx_other ((bx_grown HR3.out.1 HI.out.kp (by omega)).later hb4) (by simp) _) ((bstep HI.out.bel hb4).setCell (p := ⟨w.heap.size + 1 + 1, 0, none⟩) (by simp; omega) _) (by omega) HZ.out
    · have hc := (blk_grown HC3.out HI.out.kp (by omega)).cell 3 _ rfl
      by_cases hz : cE 3 = 0
      · have hzb : (cE 3 == 0) = true := by simpa using hz
        have HZ := Lib.hid hz
        rw [hz] at H3
        clear hz
        go_wp2_with (go_at_call 106; refine (H3.out _ HI.out.bel).mono ?_; rintro e W4 ⟨rfl, hb4⟩; obtain ⟨z1, z2⟩ := hcell W4 hb4; clear hcell)
        exact ⟨⟨4, by omega, rfl, ⟨fun j hj => by rcases Nat.lt_succ_iff_lt_or_eq.1 hj with h | h; exact HI.out.no j h; rw [h]; exact HZ.out, bx_set (HI.out.fd.later hb4) _, grown_step HI.out.kp hb4 _, (bstep HI.out.bel hb4).setCell (p := ⟨w.heap.size + 1 + 1, 0, none⟩) (by simp; omega) _⟩⟩, by simp [intOf]⟩
      · have hzb : (cE 3 == 0) = false := by simpa using hz
        have HZ : RowKit.Hid (R = cE 3) := Lib.hid (HF.out 3 (by omega) HI.out.no hz)
        go_wp2_with (go_at_call 106; refine (H3.out _ HI.out.bel).mono ?_; rintro e W4 ⟨rfl, hb4⟩; obtain ⟨z1, z2⟩ := hcell W4 hb4; clear hcell)
        rw [Exit.noGoto_ret]
        exact fin_check (fun W h => by simp [results, Tryz.f32, go_sem, h.blk.cell 0 _ rfl]) (bx_set (HI.out.fd.later hb4) _) (bx_other ((bx_grown HR3.out.1 HI.out.kp (by omega)).later hb4) (by simp) _) ((bstep HI.out.bel hb4).setCell (p := ⟨w.heap.size + 1 + 1, 0, none⟩) (by simp; omega) _) (by omega) HZ.out
    · have hc := (blk_grown HC3.out HI.out.kp (by omega)).cell 4 _ rfl
      by_cases hz : cE 4 = 0
      · have hzb : (cE 4 == 0) = true := by simpa using hz
        have HZ := Lib.hid hz
        rw [hz] at H4
        clear hz
        go_wp2_with (go_at_call 107; refine (H4.out _ HI.out.bel).mono ?_; rintro e W4 ⟨rfl, hb4⟩; obtain ⟨z1, z2⟩ := hcell W4 hb4; clear hcell)
        exact ⟨⟨5, by omega, rfl, ⟨fun j hj => by rcases Nat.lt_succ_iff_lt_or_eq.1 hj with h | h; exact HI.out.no j h; rw [h]; exact HZ.out, bx_set (HI.out.fd.later hb4) _, grown_step HI.out.kp hb4 _, (bstep HI.out.bel hb4).setCell (p := ⟨w.heap.size + 1 + 1, 0, none⟩) (by simp; omega) _⟩⟩, by simp [intOf]⟩
      · have hzb : (cE 4 == 0) = false := by simpa using hz
        have HZ : RowKit.Hid (R = cE 4) := Lib.hid (HF.out 4 (by omega) HI.out.no hz)
        go_wp2_with (go_at_call 107; refine (H4.out _ HI.out.bel).mono ?_; rintro e W4 ⟨rfl, hb4⟩; obtain ⟨z1, z2⟩ := hcell W4 hb4; clear hcell)
        rw [Exit.noGoto_ret]
        exact fin_check (fun W h => by simp [results, Tryz.f32, go_sem, h.blk.cell 0 _ rfl]) (bx_set (HI.out.fd.later hb4) _) (bx_other ((bx_grown HR3.out.1 HI.out.kp (by omega)).later hb4) (by simp) _) ((bstep HI.out.bel hb4).setCell (p := ⟨w.heap.size + 1 + 1, 0, none⟩) (by simp; omega) _) (by omega) HZ.out
    · have hc := (blk_grown HC3.out HI.out.kp (by omega)).cell 5 _ rfl
      by_cases hz : cE 5 = 0
      · have hzb : (cE 5 == 0) = true := by simpa using hz
        have HZ := Lib.hid hz
        rw [hz] at H5
        clear hz
        go_wp2_with (go_at_call 108; refine (H5.out _ HI.out.bel).mono ?_; rintro e W4 ⟨rfl, hb4⟩; obtain ⟨z1, z2⟩ := hcell W4 hb4; clear hcell)
        exact ⟨⟨6, by omega, rfl, ⟨fun j hj => by rcases Nat.lt_succ_iff_lt_or_eq.1 hj with h | h; exact HI.out.no j h; rw [h]; exact HZ.out, bx_set (HI.out.fd.later hb4) _, grown_step HI.out.kp hb4 _, (bstep HI.out.bel hb4).setCell (p := ⟨w.heap.size + 1 + 1, 0, none⟩) (by simp; omega) _⟩⟩, by simp [intOf]⟩
      · have hzb : (cE 5 == 0) = false := by simpa using hz
        have HZ : RowKit.Hid (R = cE 5) := Lib.hid (HF.out 5 (by omega) HI.out.no hz)
        go_wp2_with (go_at_call 108; refine (H5.out _ HI.out.bel).mono ?_; rintro e W4 ⟨rfl, hb4⟩; obtain ⟨z1, z2⟩ := hcell W4 hb4; clear hcell)
        rw [Exit.noGoto_ret]
        exact fin_check (fun W h => by simp [results, Tryz.f32, go_sem, h.blk.cell 0 _ rfl]) (bx_set (HI.out.fd.later hb4) _) (bx_other ((bx_grown HR3.out.1 HI.out.kp (by omega)).later hb4) (by simp) _) ((bstep HI.out.bel hb4).setCell (p := ⟨w.heap.size + 1 + 1, 0, none⟩) (by simp; omega) _) (by omega) HZ.out
    · have hc := (blk_grown HC3.out HI.out.kp (by omega)).cell 6 _ rfl
      by_cases hz : cE 6 = 0
      · have hzb : (cE 6 == 0) = true := by simpa using hz
        have HZ := Lib.hid hz
        rw [hz] at H6
        clear hz
        go_wp2_with (go_at_call 109; refine (H6.out _ HI.out.bel).mono ?_; rintro e W4 ⟨rfl, hb4⟩; obtain ⟨z1, z2⟩ := hcell W4 hb4; clear hcell)
        exact ⟨⟨7, by omega, rfl, ⟨fun j hj => by rcases Nat.lt_succ_iff_lt_or_eq.1 hj with h | h; exact HI.out.no j h; rw [h]; exact HZ.out, bx_set (HI.out.fd.later hb4) _, grown_step HI.out.kp hb4 _, (bstep HI.out.bel hb4).setCell (p := ⟨w.heap.size + 1 + 1, 0, none⟩) (by simp; omega) _⟩⟩, by simp [intOf]⟩
      · have hzb : (cE 6 == 0) = false := by simpa using hz
        have HZ : RowKit.Hid (R = cE 6) := Lib.hid (HF.out 6 (by omega) HI.out.no hz)
        go_wp2_with (go_at_call 109; refine (H6.out _ HI.out.bel).mono ?_; rintro e W4 ⟨rfl, hb4⟩; obtain ⟨z1, z2⟩ := hcell W4 hb4; clear hcell)
        rw [Exit.noGoto_ret]
        exact fin_check (fun W h => by simp [results, Tryz.f32, go_sem, h.blk.cell 0 _ rfl]) (bx_set (HI.out.fd.later hb4) _) (bx_other ((bx_grown HR3.out.1 HI.out.kp (by omega)).later hb4) (by simp) _) ((bstep HI.out.bel hb4).setCell (p := ⟨w.heap.size + 1 + 1, 0, none⟩) (by simp; omega) _) (by omega) HZ.out
    · have HZ : RowKit.Hid (R = 0) := Lib.hid (HN.out HI.out.no)
      go_wp2
      rw [Exit.noGoto_ret]
      exact fin_check (fun W h => by simp [results, Tryz.f32, go_sem, h.blk.cell 0 _ rfl]) HI.out.fd (bx_grown HR3.out.1 HI.out.kp (by omega)) HI.out.bel (by omega) HZ.out
end Go.Proofs.YtdoioaeppepndaaGreatDoor
namespace Go.Proofs.YtdoioaeppepndaaGreatDoor
open Go.RowKit Go.Shelf Go.Maps
open A8 W10
attribute [local go_sem] Oper.semAt_some

theorem wpattern_any (T : Tr) (w : World) (hT : TrW w T) (hlen : (subsT T).length ≤ 999999) (hG : SG w) :
    Calls Tryz.prog 34 #[.agg T.row.toArray] w fun e w' => e = .returned (.int .i64 (wfE (plainQ T.nd))) ∧ Below w.heap.size w w' := by
  have hc := fun w1 (hb : Below w.heap.size w w1) => wcheck_any ⟨T, 0, .slice none 0 0, [], .slice none 0 0, []⟩ w1 ⟨hT.later hb, (by show (0 : Int) ≤ 0 ∧ (0 : Int) < 18446744073709551616; decide), Sl.nil _ _, Sl.nil _ _, (fun h hm => by cases hm), (fun h hm => by cases hm)⟩ hlen (hG.later hb) (fun s hs => by simp [GQ.qu, useL] at hs)
  have hq : GQ.qu ⟨T, 0, .slice none 0 0, [], .slice none 0 0, []⟩ = plainQ T.nd := rfl
  rw [hq] at hc
  obtain ⟨E, hE⟩ : ∃ E, E = wfE (plainQ T.nd) := ⟨_, rfl⟩
  rw [← hE] at hc ⊢
  clear hE hq
  have hone := hT.one
  obtain ⟨k, mn, mx, ⟨⟨kd, bd, bn, cs, nm⟩, sc⟩, sk, ks⟩ := T
  obtain ⟨-, ⟨-, hsc⟩, hsl⟩ := hone
  simp only at hsc
  obtain ⟨A1, cap1, rfl, -, -⟩ := sl_get (by decide) hsc
  obtain ⟨A, cap, rfl, -, -⟩ := sl_get (by decide) hsl
  clear hsc hsl
  clear hT
  simp only [GQ.row, Tr.row, List.cons_append, List.nil_append] at hc ⊢
  go_enter Tryz.func34, Tryz.ntmps34
  go_wp2_with (go_at_call 32; refine (hc _ (b1 _ _)).mono ?_; rintro e w2 ⟨rfl, hb2⟩)
  go_ret
  exact ⟨rfl, bstep (b1 _ _) hb2⟩
theorem infoStr10 : (Tryz.prog.info? 9).map (fun i => (i.zero, i.size, i.bytes)) = some (some (.string ⟨#[]⟩), 1, 16) := by kernel_rfl
theorem row_turn {W W' : World} {base n B : Nat} {t e : TypeId} {sz : Nat} {v : Value} {xs : List Value} (h : W.ownsRow base e sz v n xs) (ht : Turn t B W W') (he : e ≠ t) : W'.ownsRow base e sz v n xs := by
  refine ⟨h.1, ?_⟩
  rcases h.2 with h2 | ⟨g, cap, cur, h1, h2, h3, h4⟩
  · exact .inl h2
  · exact .inr ⟨g, cap, cur, h1, h2, ht.same _ _ h3 (.inr ⟨_, _, _, rfl, he⟩), h4⟩
theorem row_keep {W W' : World} {base n m B : Nat} {t e : TypeId} {sz : Nat} {v : Value} {xs : List Value} (h : W.ownsRow base e sz v n xs) (hg : W.grownBy W' v.ownBlock) (hm : m ≤ base) (he : e ∉ KT) (het : e ≠ t) : KeepW KT t m B W W' := by
  refine ⟨hg.size, fun k u hk hx => (hg.block k (Array.getElem?_eq_some_iff.1 hk).1 fun e' => ?_).trans hk⟩
  rcases h.2 with ⟨rfl, -⟩ | ⟨g, cap, cur, rfl, h2, h3, -⟩
  · cases e'
  · have hkg : k = g := by injection e'
    subst hkg
    rw [h3] at hk
    cases hk
    rcases hx with hx | ⟨cs, u, fr, hc, hu⟩ | ⟨hx, hc | ⟨cs, fr, hc⟩⟩
    · omega
    · cases hc; exact he hu
    · cases hc
    · cases hc; exact het rfl
/-- What Names and Uses give. -/
def TxtP (w : World) (l : List (List UInt8)) (er : Int) (e : Ending) (w' : World) : Prop :=
  ∃ v, e = .returned (.tuple #[v, .int .i64 er]) ∧ w'.ownsRow w.heap.size 9 1 v l.length (l.map fun s => .string (strOf s)) ∧ Below w.heap.size w w'
set_option maxRecDepth 100000 in
set_option maxHeartbeats 8000000 in
theorem wNames_any (q : GQ) (w : World) (hq : QW w q) (hlen : (subsT q.t).length ≤ 999999) (hG : SG w) (hnu : ∀ s ∈ useL q.qu, s.length ≤ maxLen) :
    Calls Tryz.prog 36 #[.agg q.row.toArray] w (TxtP w (namesL q.qu) (wfE q.qu)) := by
  have hc := fun w1 (hb : Below w.heap.size w w1) => wcheck_any q w1 (hq.later hb) hlen (hG.later hb) hnu
  have hns : namesL q.qu = if wfE q.qu = 0 then nmsL (nmL (lfL (subsT q.t))) else [] := by unfold namesL; rw [namesL_nd]; rfl
  rw [hns]
  obtain ⟨E, hE⟩ : ∃ E, E = wfE q.qu := ⟨_, rfl⟩
  rw [← hE] at hc ⊢
  clear hE hns hG hnu
  obtain ⟨T, wi, sh, hv, se, em⟩ := q
  obtain ⟨hT, hwi, hh, he, -, -⟩ := hq
  simp only at hT hh he hlen hwi
  obtain ⟨Ah, ch, rfl, hlh, -⟩ := sl_get (by decide) hh
  obtain ⟨Ae, ce, rfl, hle, -⟩ := sl_get (by decide) he
  clear hh he
  have hnd := fun w => wnames_any T w
  have hseq := fun (b' : Nat) (w' : World) => wnames_seq w T hT (by omega) b' w'
  have hLl : (nmL (lfL (subsT T))).length ≤ 1000000 := by
    have h1 : (lfL (subsT T)).length = ((subsT T).filter lfB).length := by rw [← lfL_fst, List.length_map]
    have h2 := List.length_filter_le lfB (subsT T)
    have h3 := List.length_filter_le (fun x : Tr × Nat => nmdB x.1) (lfL (subsT T))
    unfold nmL
    omega
  simp only at hc ⊢
  obtain ⟨L, hL⟩ : ∃ L, L = nmL (lfL (subsT T)) := ⟨_, rfl⟩
  rw [← hL] at hseq hLl ⊢
  clear hL
  have hone := hT.one
  obtain ⟨k, mn, mx, ⟨⟨kd, bd, bn, cs, nm⟩, sc⟩, sk, ks⟩ := T
  obtain ⟨-, ⟨-, hsc⟩, hsl⟩ := hone
  simp only at hsc
  obtain ⟨A1, cap1, rfl, -, -⟩ := sl_get (by decide) hsc
  obtain ⟨A, cap, rfl, -, -⟩ := sl_get (by decide) hsl
  clear hsc hsl
  clear hT hlen
  simp only [GQ.row, Tr.row, List.cons_append, List.nil_append] at hnd hseq hc ⊢
  have HC := Lib.hid hc
  have HQ := Lib.hid hseq
  clear hc hseq
  by_cases hE : E = 0
  · subst hE
    rw [if_pos rfl]
    have hbx : ∀ w1, Below (w.alloc (.cells #[.int .i64 k, .int .i64 mn, .int .i64 mx, .int .i64 kd, .bool bd, .int .u64 bn, .slice A1 cs.length cap1, .string (strOf nm), .slice A ks.length cap, .int .u64 wi, .slice Ah hv.length ch, .slice Ae em.length ce] 35)).heap.size (w.alloc (.cells #[.int .i64 k, .int .i64 mn, .int .i64 mx, .int .i64 kd, .bool bd, .int .u64 bn, .slice A1 cs.length cap1, .string (strOf nm), .slice A ks.length cap, .int .u64 wi, .slice Ah hv.length ch, .slice Ae em.length ce] 35)) w1 → Blk w1 w.heap.size [.int .i64 k, .int .i64 mn, .int .i64 mx, .int .i64 kd, .bool bd, .int .u64 bn, .slice A1 cs.length cap1, .string (strOf nm), .slice A ks.length cap, .int .u64 wi, .slice Ah hv.length ch, .slice Ae em.length ce] := fun w1 hb => ((Bx.new w [.int .i64 k, .int .i64 mn, .int .i64 mx, .int .i64 kd, .bool bd, .int .u64 bn, .slice A1 cs.length cap1, .string (strOf nm), .slice A ks.length cap, .int .u64 wi, .slice Ah hv.length ch, .slice Ae em.length ce] 35).later hb).blk
    have HX := Lib.hid hbx
    clear hbx
    refine (callsIn_wide (n := 5)).1 ?_
    refine callsIn_of_wp_marks Tryz.func36 rfl trivial ?_ rfl
    simp only [Tryz.ntmps36, List.size_toArray, List.length_cons, List.length_nil, Nat.reduceAdd, Nat.reduceSub, Array.replicate_succ, Array.replicate_zero, List.push_toArray, List.append_toArray, List.nil_append, List.cons_append]
    gi_wp2_with (first | (refine ⟨trivial, ?_⟩; gi_at_call 32; refine (callsIn_wide.2 (HC.out _ (b1 _ _))).mono ?_; rintro e w2 ⟨rfl, hb2⟩; have z0 := (HX.out w2 hb2).cell 0 _ rfl; have z1 := (HX.out w2 hb2).cell 1 _ rfl; have z2 := (HX.out w2 hb2).cell 2 _ rfl; have z3 := (HX.out w2 hb2).cell 3 _ rfl; have z4 := (HX.out w2 hb2).cell 4 _ rfl; have z5 := (HX.out w2 hb2).cell 5 _ rfl; have z6 := (HX.out w2 hb2).cell 6 _ rfl; have z7 := (HX.out w2 hb2).cell 7 _ rfl; have z8 := (HX.out w2 hb2).cell 8 _ rfl; have zlt := (HX.out w2 hb2).lt) | (refine ⟨trivial, ?_⟩; gi_at_call 84; refine (callsIn_wide.2 (hnd _)).mono ?_; rintro e w' ⟨rfl, rfl⟩))
    clear hnd z0 z1 z2 z3 z4 z5 z6 z7 z8
    obtain ⟨W3, hW3⟩ : ∃ W3, W3 = (w2.alloc (.cells #[.slice none 0 0] 69)).alloc (.cells #[.int .i64 k, .int .i64 mn, .int .i64 mx, .int .i64 kd, .bool bd, .int .u64 bn, .slice A1 cs.length cap1, .string (strOf nm), .slice A ks.length cap] 31) := ⟨_, rfl⟩
    rw [← hW3]
    have hb3 : Below w.heap.size w W3 := hW3 ▸ bstep (bstep (b1 _ _) hb2) (b2 _ _ _)
    have hsz3 : W3.heap.size = w2.heap.size + 2 := by rw [hW3]; simp
    have hl3 : Bx W3 w2.heap.size 69 [.slice none 0 0] := hW3 ▸ (Bx.new w2 [.slice none 0 0] 69).later (b1 _ _)
    have hn3 : Bx W3 (w2.heap.size + 1) 31 [.int .i64 k, .int .i64 mn, .int .i64 mx, .int .i64 kd, .bool bd, .int .u64 bn, .slice A1 cs.length cap1, .string (strOf nm), .slice A ks.length cap] := by
      have h := Bx.new (w2.alloc (.cells #[.slice none 0 0] 69)) [.int .i64 k, .int .i64 mn, .int .i64 mx, .int .i64 kd, .bool bd, .int .u64 bn, .slice A1 cs.length cap1, .string (strOf nm), .slice A ks.length cap] 31
      rw [World.size_alloc] at h
      rw [hW3]
      exact h
    have hwl : w.heap.size < w2.heap.size := zlt
    have hseq := HQ.out (w2.heap.size + 1) W3 (SameB.of hb3) hn3
    clear hW3 hn3 HQ HX HC
    refine wpIn_range_own (gf := 117) (lb := #[.pointer (some ⟨w2.heap.size + 1, 0, none⟩)]) rfl (enters_of Tryz.func117 (by kernel_rfl) rfl)
      hseq (by omega) (Below.refl _ _) (fun _ => rfl)
      (fun pre Wx => ∃ v, Bx Wx w2.heap.size 69 [v] ∧ Wx.ownsRow w.heap.size 9 1 v pre.length ((nmsL pre).map fun s => .string (strOf s)) ∧ Below w.heap.size w Wx)
      (fun pre Wx => False)
      ?hI ?hIx ?h0 (fun x act Wx => act = { tmps := #[.agg #[.int .i64 k, .int .i64 mn, .int .i64 mx, .int .i64 kd, .bool bd, .int .u64 bn, .slice A1 cs.length cap1, .string (strOf nm), .slice A ks.length cap, .int .u64 wi, .slice Ah hv.length ch, .slice Ae em.length ce], .pointer (some ⟨w.heap.size, 0, none⟩), .slice none 0 0, .int .i64 0, .int .i64 0, .pointer (some ⟨w2.heap.size, 0, none⟩), undef, .string (strOf (nmT x.1)), .agg #[.int .i64 k, .int .i64 mn, .int .i64 mx, .int .i64 kd, .bool bd, .int .u64 bn, .slice A1 cs.length cap1, .string (strOf nm), .slice A ks.length cap, .int .u64 wi, .slice Ah hv.length ch, .slice Ae em.length ce], .int .i64 0, .int .i64 0, .bool false, undef, .pointer (some ⟨w.heap.size, 0, none⟩), .agg #[.int .i64 k, .int .i64 mn, .int .i64 mx, .int .i64 kd, .bool bd, .int .u64 bn, .slice A1 cs.length cap1, .string (strOf nm), .slice A ks.length cap], .func (.func 117) #[] #[.pointer (some ⟨w2.heap.size + 1, 0, none⟩)], .int .i64 (x.2 : Int), .string (strOf (nmT x.1)), undef, undef, undef, undef, undef], defers := [] }) ?hA ?assign ?body ?done ?stop
    case hI =>
      rintro s Wx Wy ⟨v, g1, g2, g3⟩ ht
      exact ⟨v, bx_turn g1 ht (.inl (by omega)), row_turn g2 ht (by decide), ht.below g3 (by omega) (Nat.le_refl _)⟩
    case hIx =>
      rintro s Wx Wy g1 ht
      exact g1.elim
    case h0 => exact ⟨_, hl3, World.ownsRow_nil _ _ _ _, hb3⟩
    case hA =>
      rintro x act s Wx Wy row h3 hg hr
      exact h3
    case assign =>
      intro l2 pre x Wx K hp hsz hi hK
      clear hi hseq
      gi_wp2
      exact hK _ _ rfl (Below.refl _ _)
    case body =>
      rintro l2 pre x act Wx hp hsz ⟨v, g1, g2, g3⟩ rfl
      have hpl : pre.length + 1 ≤ 1000000 := by
        have h2 := hp.length_le
        rw [List.length_append, List.length_singleton] at h2
        omega
      have hxl : (pre ++ [x]).length = pre.length + 1 := by simp
      have hmp : (nmsL (pre ++ [x])).map (fun s => Value.string (strOf s)) = ((nmsL pre).map fun s => .string (strOf s)) ++ [.string (strOf (nmT x.1))] := by rw [nmsL_snoc, List.map_append]; rfl
      obtain ⟨xs, hxs⟩ : ∃ xs, xs = pre ++ [x] := ⟨_, rfl⟩
      rw [← hxs] at hmp hxl ⊢
      obtain ⟨pl, hple⟩ : ∃ pl, pl = pre.length := ⟨_, rfl⟩
      rw [← hple] at hpl hxl g2
      obtain ⟨us, hus⟩ : ∃ us, us = (nmsL pre).map fun s => Value.string (strOf s) := ⟨_, rfl⟩
      rw [← hus] at hmp g2
      obtain ⟨A5, c5, rfl⟩ := own_form g2
      obtain ⟨i0, hi0, hz0, hz1, hz2⟩ := info_parts infoStr10
      have m1 := g1.blk.cell 0 _ rfl
      have m2 := g1.blk.fr 0 _ rfl
      have hml := g1.lt
      obtain ⟨nn, hnn⟩ : ∃ nn, nn = strOf (nmT x.1) := ⟨_, rfl⟩
      rw [← hnn] at hmp ⊢
      have hown := g2.alloc (.cells #[.string nn] 9)
      have hgrow : ∀ v' w1, w1.ownsRow w.heap.size 9 1 v' (pl + 1) (us ++ [.string nn]) → (Wx.alloc (.cells #[.string nn] 9)).grownBy w1 (Value.slice A5 pl c5).ownBlock → w1.cell? ⟨w2.heap.size, 0, none⟩ = some (.slice A5 pl c5) ∧ w1.frozen? ⟨w2.heap.size, 0, none⟩ = false := fun v' w1 h1 h2 => by
        have h := (Boxed.appended (B := w2.heap.size) (t := 69) g1 (by decide) g2 (by have := g3.size; omega) (by omega) h1 h2).1
        have hb : Bx w1 w2.heap.size 69 [.slice A5 pl c5] := h
        exact ⟨hb.blk.cell 0 _ rfl, hb.blk.fr 0 _ rfl⟩
      have HGR := Lib.hid hgrow
      have HOWN := Lib.hid hown
      have HMP := Lib.hid hmp
      have HXL := Lib.hid hxl
      have G1 := Lib.hid g1
      have G2 := Lib.hid g2
      have G3 := Lib.hid g3
      clear hgrow hown hmp hxl g1 g2 g3 hxs hp hple hus hnn hseq
      have hcell := (Blk.new Wx [.string nn] 9)
      have HCE := Lib.hid hcell
      clear hcell
      have hside : (∀ j u, [Value.string nn][j]? = some u → (Wx.alloc (.cells #[.string nn] 9)).cell? ((⟨Wx.heap.size, 0, none⟩ : Addr).add j) = some u) ∧ (∀ u ∈ [Value.string nn], u.oneCell' = true) ∧ pl + 1 ≤ maxLen ∧ (pl + 1) * 16 ≤ 140737488355328 ∧ w.heap.size ≤ (Wx.alloc (.cells #[.string nn] 9)).heap.size := by
        refine ⟨fun j u h => ?_, by simp [Value.oneCell'], by unfold maxLen; omega, by omega, by have := G3.out.size; simp; omega⟩
        cases j with
        | zero => exact HCE.out.cell 0 u h
        | succ j => simp at h
      obtain ⟨s1, s2, s3, s4, s5⟩ := hside
      gi_wp2_with (gi_at_builtin; (refine wpListIn_append_own _ rfl _ _ 69 rfl w.heap.size 9 i0 _ 1 16 Tryz.underlying69 hi0 hz0 hz1 hz2 rfl (by decide) (.slice A5 pl c5) pl us rfl HOWN.out ⟨Wx.heap.size, 0, none⟩ 1 1 [.string nn] rfl rfl s1 s2 s3 s4 s5 ?_); intro v' w1 hown1 hg1 hnil; obtain ⟨A6, c6, rfl⟩ := own_form hown1; obtain ⟨m3, m4⟩ := HGR.out _ w1 hown1 hg1; clear m1 m2)
      have hB := Boxed.appended (B := w2.heap.size) (t := 69) G1.out (by decide) G2.out (by have := G3.out.size; omega) (by omega) hown1 hg1
      exact ⟨(KeepW.of (b1 _ _)).trans ((row_keep HOWN.out hg1 (Nat.le_refl _) (by decide) (by decide)).trans (keep_set10 (by omega) hB.1 (by decide) (.inr (by decide)) 0 _)), _, hB.2.1, by rw [HXL.out, HMP.out]; exact hB.2.2.1, ⟨hB.2.2.2.2.os.trans G3.out.os, hB.2.2.2.2.tape.trans G3.out.tape, hB.2.2.2.2.output.trans G3.out.output, Nat.le_trans G3.out.size hB.2.2.2.2.size, fun k hk => (hB.2.2.2.2.block k hk).trans (G3.out.block k hk)⟩⟩
    case done =>
      rintro D Wx hD ⟨v, g1, g2, g3⟩ hKd
      obtain ⟨A5, c5, rfl⟩ := own_form g2
      have m1 := g1.blk.cell 0 _ rfl
      have HD := Lib.hid hKd
      have HL : L.length = (nmsL L).length := by simp [nmsL]
      rw [HL] at g2 m1
      have G2 := Lib.hid g2
      have G3 := Lib.hid g3
      clear hseq g1 g2 g3 hKd HL
      gi_wp2
      refine leaves_marks (t := 3) (B := W3.heap.size) (fun W' => Below w.heap.size w W' ∧ W'.ownsRow w.heap.size 9 1 (.slice A5 (nmsL L).length c5) (nmsL L).length ((nmsL L).map fun s => .string (strOf s))) (fun W1 W2 h ht => ⟨ht.below h.1 (by omega) (Nat.le_refl _), row_turn h.2 ht (by decide)⟩) (fun W' h => ⟨.tuple #[.slice A5 (nmsL L).length c5, .int .i64 0], by simp [results, Tryz.f36, go_sem], ⟨_, rfl, h.2, h.1⟩⟩) [D] Wx (by simp) (fun E hE => by rw [List.mem_singleton] at hE; subst hE; exact ⟨by omega, HD.out⟩) ⟨G3.out, G2.out⟩
    case stop =>
      rintro D pre Wx hD hp g1 hKd
      exact g1.elim
  · have hEb : (E == 0) = false := by simpa using hE
    rw [if_neg hE]
    clear hnd
    go_enter Tryz.func36, Tryz.ntmps36
    go_wp2_with (go_at_call 32; refine (HC.out _ (b1 _ _)).mono ?_; rintro e w2 ⟨rfl, hb2⟩)
    go_ret2
    exact ⟨_, rfl, World.ownsRow_nil _ _ _ _, bstep (b1 _ _) hb2⟩
end Go.Proofs.YtdoioaeppepndaaGreatDoor
namespace Go.Proofs.YtdoioaeppepndaaGreatDoor
open Go.RowKit Go.Shelf Go.Maps
open A8 W10
attribute [local go_sem] Oper.semAt_some

theorem findN_app (s : List UInt8) (a b : List (List UInt8)) (i : Nat) : findN s (a ++ b) i = if a.contains s = true then findN s a i else findN s b (i + a.length) := by
  induction a generalizing i with
  | nil => simp
  | cons x r ih =>
    rw [List.cons_append, findN, findN, ih]
    by_cases hx : x = s
    · subst hx; simp
    · rw [if_neg hx, if_neg hx]
      have : (x :: r).contains s = r.contains s := by
        rw [Bool.eq_iff_iff]
        simp [show ¬ s = x from fun e => hx e.symm]
      rw [this, List.length_cons]
      congr 2
      omega
theorem lastN_find (s : List UInt8) (hs : s ≠ []) : ∀ l : List (Tr × Nat), (∀ i (h : i < l.length), l[i].2 = i) → onceL (nmsL l) = true → bareL l = true → (nmsL l).contains s = true → (nmsL (nmL l)).contains s = true ∧ (lastN s (nmL l) : Int) = findN s (nmsL l) 0 := by
  refine snoc_ind ?_ ?_
  · intro _ _ _ h; simp [nmsL] at h
  · intro l x ih hi ho hb hc
    rw [nmsL_snoc, onceL_snoc, Bool.and_eq_true] at ho
    rw [bareL_app, bareL_one, Bool.and_eq_true] at hb
    have hil : ∀ i (h : i < l.length), l[i].2 = i := fun i h => by
      have := hi i (by simp; omega)
      rw [List.getElem_append_left h] at this
      exact this
    have hx2 : x.2 = l.length := by
      have := hi l.length (by simp)
      simpa using this
    have hnl : (nmsL l).length = l.length := by simp [nmsL]
    rw [nmsL_snoc, findN_app, hnl]
    rw [nmsL_snoc] at hc
    by_cases hm : (nmsL l).contains s = true
    · obtain ⟨h1, h2⟩ := ih hil ho.1 hb.1 hm
      have hne : nmT x.1 ≠ s := fun e => by
        have h3 := ho.2
        rw [e] at h3
        cases s with
        | nil => exact hs rfl
        | cons c cs => rw [hm] at h3; simp at h3
      rw [if_pos hm]
      cases hx : nmdB x.1 with
      | true =>
        rw [nmL_yes _ _ hx, nmsL_snoc, lastN_snoc, if_neg hne]
        exact ⟨by rw [List.contains_eq_mem] at h1 ⊢; simp at h1 ⊢; exact .inl h1, h2⟩
      | false =>
        rw [nmL_no _ _ hx]
        exact ⟨h1, h2⟩
    · have he : nmT x.1 = s := by
        rw [List.contains_eq_mem] at hc hm
        simp at hc hm
        rcases hc with h | h
        · exact absurd h hm
        · exact h.symm
      have hx : nmdB x.1 = true := by
        have h3 := hb.2
        obtain ⟨x, c⟩ := x
        cases x with
        | mk k mn mx g sk ks =>
          simp only [nmT] at he
          simp only [bareT, nmdB, he] at h3 ⊢
          cases s with
          | nil => exact absurd rfl hs
          | cons c cs => simpa using h3
      rw [if_neg hm, nmL_yes _ _ hx, nmsL_snoc, lastN_snoc, if_pos he, hx2]
      refine ⟨by rw [he, List.contains_eq_mem]; simp, ?_⟩
      simp [findN, he]
theorem lfL_idx (l : List Tr) : ∀ i (h : i < (lfL l).length), (lfL l)[i].2 = i := fun i h => by
  have h1 : (lfL l)[i]? = some ((lfL l)[i]) := List.getElem?_eq_getElem h
  have h2 : (lfL l)[i]? = ((l.filter lfB)[i]?).map fun a => (a, i) := by
    unfold lfL
    rw [List.getElem?_zipIdx]
    simp
  rw [h1] at h2
  cases hh : (l.filter lfB)[i]? with
  | none => rw [hh] at h2; cases h2
  | some a =>
    rw [hh] at h2
    injection h2 with h2
    rw [h2]
/-- What Named gives, from what the map of names gives. -/
theorem named_is (q : GQ) (s : List UInt8) (h0 : wfE q.qu = 0) : (namedI q.qu s = if (nmsL (nmL (lfL (subsT q.t)))).contains s = true then (lastN s (nmL (lfL (subsT q.t))) : Int) else 0) ∧ namedE q.qu s = if (nmsL (nmL (lfL (subsT q.t)))).contains s = true then 0 else 12 := by
  have hE : namedE q.qu s = if (nmsL (nmL (lfL (subsT q.t)))).contains s = true then 0 else 12 := by
    unfold namedE
    rw [if_pos h0, namesL_nd]
    rfl
  refine ⟨?_, hE⟩
  unfold namedI
  rw [hE]
  by_cases hc : (nmsL (nmL (lfL (subsT q.t)))).contains s = true
  · rw [if_pos hc, if_pos rfl, if_pos hc]
    have hw : onceL (leafNames q.qu.p) = true ∧ bareB q.qu.p = true := by
      unfold wfE at h0
      split at h0
      · cases h0
      split at h0
      · cases h0
      split at h0
      · cases h0
      split at h0
      · cases h0
      split at h0
      · cases h0
      split at h0
      · cases h0
      split at h0
      · cases h0
      rename_i h1 h2
      refine ⟨by simpa using h1, ?_⟩
      cases hb : bareB q.qu.p with
      | true => rfl
      | false => exact absurd (.inl hb) h2
    have hln : leafNames q.qu.p = nmsL (lfL (subsT q.t)) := (nmsL_nd q.t).symm
    have hsub : (nmsL (lfL (subsT q.t))).contains s = true := by
      rw [List.contains_eq_mem] at hc ⊢
      simp only [decide_eq_true_eq] at hc ⊢
      unfold nmsL at hc ⊢
      obtain ⟨y, hy, hy2⟩ := List.mem_map.1 hc
      exact List.mem_map.2 ⟨y, (List.mem_filter.1 hy).1, hy2⟩
    have hne : s ≠ [] := fun e => by
      subst e
      rw [List.contains_eq_mem] at hc
      simp only [decide_eq_true_eq] at hc
      unfold nmsL at hc
      obtain ⟨y, hy, hy2⟩ := List.mem_map.1 hc
      have h3 := (List.mem_filter.1 hy).2
      obtain ⟨y, c⟩ := y
      cases y with
      | mk k mn mx g sk ks =>
        simp only [nmT] at hy2
        simp [nmdB, hy2] at h3
    rw [hln] at hw ⊢
    exact (lastN_find s hne _ (lfL_idx _) hw.1 (by rw [bareL_nd]; exact hw.2) hsub).2.symm
  · rw [if_neg hc, if_neg (by decide), if_neg hc]
set_option maxRecDepth 100000 in
set_option maxHeartbeats 8000000 in
theorem wNamed_any (q : GQ) (s : List UInt8) (w : World) (hq : QW w q) (hlen : (subsT q.t).length ≤ 999999) (hG : SG w) (hnu : ∀ s ∈ useL q.qu, s.length ≤ maxLen) (hsl : s.length ≤ maxLen) :
    Calls Tryz.prog 41 #[.agg q.row.toArray, .string (strOf s)] w fun e w' => e = .returned (.tuple #[.int .i64 (namedI q.qu s), .int .i64 (namedE q.qu s)]) ∧ Below w.heap.size w w' := by
  have hc := fun w1 (hb : Below w.heap.size w w1) => wcheck_any q w1 (hq.later hb) hlen (hG.later hb) hnu
  have hnum := fun (w1 : World) (hb : Below w.heap.size w w1) => numbers_any q.t w1 (hq.tr.later hb) hlen
  have hkey := wkey s hsl
  have hni := named_is q s
  have hbad : wfE q.qu ≠ 0 → namedE q.qu s = wfE q.qu ∧ namedI q.qu s = 0 := fun h => by
    have h1 : namedE q.qu s = wfE q.qu := by unfold namedE; rw [if_neg h]
    refine ⟨h1, ?_⟩
    unfold namedI
    rw [h1, if_neg h]
  obtain ⟨M, hM⟩ : ∃ M, M = nmL (lfL (subsT q.t)) := ⟨_, rfl⟩
  obtain ⟨E, hE⟩ : ∃ E, E = wfE q.qu := ⟨_, rfl⟩
  obtain ⟨rI, hrI⟩ : ∃ rI, rI = namedI q.qu s := ⟨_, rfl⟩
  obtain ⟨rE, hrE⟩ : ∃ rE, rE = namedE q.qu s := ⟨_, rfl⟩
  rw [← hM, ← hE, ← hrI, ← hrE] at hni
  rw [← hE, ← hrI, ← hrE] at hbad
  rw [← hM] at hnum
  rw [← hE] at hc
  rw [← hrI, ← hrE]
  clear hE hM hrI hrE hG hnu
  obtain ⟨T, wi, sh, hv, se, em⟩ := q
  obtain ⟨hT, hwi, hh, he, -, -⟩ := hq
  simp only at hT hh he hlen hwi
  obtain ⟨Ah, ch, rfl, hlh, -⟩ := sl_get (by decide) hh
  obtain ⟨Ae, ce, rfl, hle, -⟩ := sl_get (by decide) he
  clear hh he
  simp only at hnum hc ⊢
  have hone := hT.one
  obtain ⟨k, mn, mx, ⟨⟨kd, bd, bn, cs, nm⟩, sc⟩, sk, ks⟩ := T
  obtain ⟨-, ⟨-, hsc⟩, hsl⟩ := hone
  simp only at hsc
  obtain ⟨A1, cap1, rfl, -, -⟩ := sl_get (by decide) hsc
  obtain ⟨A, cap, rfl, -, -⟩ := sl_get (by decide) hsl
  clear hsc hsl
  clear hT hlen
  simp only [GQ.row, Tr.row, List.cons_append, List.nil_append] at hnum hc ⊢
  have HC := Lib.hid hc
  have HNUM := Lib.hid hnum
  have HKEY := Lib.hid hkey
  have HNI := Lib.hid hni
  have HBAD := Lib.hid hbad
  clear hc hnum hkey hni hbad
  obtain ⟨st, hst⟩ : ∃ st, st = strOf s := ⟨_, rfl⟩
  rw [← hst] at HKEY ⊢
  clear hst hsl
  by_cases hE : E = 0
  · obtain ⟨hI, hEE⟩ := HNI.out hE
    subst hE
    have hbx : ∀ w1, Below (w.alloc (.cells #[.int .i64 k, .int .i64 mn, .int .i64 mx, .int .i64 kd, .bool bd, .int .u64 bn, .slice A1 cs.length cap1, .string (strOf nm), .slice A ks.length cap, .int .u64 wi, .slice Ah hv.length ch, .slice Ae em.length ce] 35)).heap.size (w.alloc (.cells #[.int .i64 k, .int .i64 mn, .int .i64 mx, .int .i64 kd, .bool bd, .int .u64 bn, .slice A1 cs.length cap1, .string (strOf nm), .slice A ks.length cap, .int .u64 wi, .slice Ah hv.length ch, .slice Ae em.length ce] 35)) w1 → Blk w1 w.heap.size [.int .i64 k, .int .i64 mn, .int .i64 mx, .int .i64 kd, .bool bd, .int .u64 bn, .slice A1 cs.length cap1, .string (strOf nm), .slice A ks.length cap, .int .u64 wi, .slice Ah hv.length ch, .slice Ae em.length ce] := fun w1 hb => ((Bx.new w [.int .i64 k, .int .i64 mn, .int .i64 mx, .int .i64 kd, .bool bd, .int .u64 bn, .slice A1 cs.length cap1, .string (strOf nm), .slice A ks.length cap, .int .u64 wi, .slice Ah hv.length ch, .slice Ae em.length ce] 35).later hb).blk
    have HX := Lib.hid hbx
    have hhas := mapI_has M s
    have hat := mapI_at M s
    obtain ⟨kk, hkk⟩ : ∃ kk, kk = (nmsL M).contains s := ⟨_, rfl⟩
    rw [← hkk] at hI hEE hhas
    have HI := Lib.hid hI
    have HE2 := Lib.hid hEE
    have HHAS := Lib.hid hhas
    have HAT := Lib.hid hat
    clear hbx hI hEE hhas hat hkk HBAD HNI
    cases kk with
    | true =>
      go_enter Tryz.func41, Tryz.ntmps41
      go_wp2_with (first | (go_at_call 32; refine (HC.out _ (b1 _ _)).mono ?_; rintro e w2 ⟨rfl, hb2⟩; have z0 := (HX.out w2 hb2).cell 0 _ rfl; have z1 := (HX.out w2 hb2).cell 1 _ rfl; have z2 := (HX.out w2 hb2).cell 2 _ rfl; have z3 := (HX.out w2 hb2).cell 3 _ rfl; have z4 := (HX.out w2 hb2).cell 4 _ rfl; have z5 := (HX.out w2 hb2).cell 5 _ rfl; have z6 := (HX.out w2 hb2).cell 6 _ rfl; have z7 := (HX.out w2 hb2).cell 7 _ rfl; have z8 := (HX.out w2 hb2).cell 8 _ rfl; have zlt := (HX.out w2 hb2).lt) | (go_at_call 87; refine (HNUM.out _ (bstep (b1 _ _) hb2)).mono ?_; rintro e w3 ⟨mb, rfl, hmb, hown, hb3⟩) | (at_lookup; refine wpList_lookup_own_ok_int _ rfl _ _ 134 rfl 9 3 .i64 wkeys Tryz.underlying134 Tryz.underlying3 (zeroInt10 _) mb _ _ rfl hown _ _ rfl HKEY.out ?_; intro c hat2 hwc; rw [HHAS.out]))
      go_ret2
      refine ⟨?_, bstep (bstep (b1 _ _) hb2) hb3⟩
      rw [HAT.out] at hat2
      cases hat2
      rw [HI.out, HE2.out]
      rfl
    | false =>
      go_enter Tryz.func41, Tryz.ntmps41
      go_wp2_with (first | (go_at_call 32; refine (HC.out _ (b1 _ _)).mono ?_; rintro e w2 ⟨rfl, hb2⟩; have z0 := (HX.out w2 hb2).cell 0 _ rfl; have z1 := (HX.out w2 hb2).cell 1 _ rfl; have z2 := (HX.out w2 hb2).cell 2 _ rfl; have z3 := (HX.out w2 hb2).cell 3 _ rfl; have z4 := (HX.out w2 hb2).cell 4 _ rfl; have z5 := (HX.out w2 hb2).cell 5 _ rfl; have z6 := (HX.out w2 hb2).cell 6 _ rfl; have z7 := (HX.out w2 hb2).cell 7 _ rfl; have z8 := (HX.out w2 hb2).cell 8 _ rfl; have zlt := (HX.out w2 hb2).lt) | (go_at_call 87; refine (HNUM.out _ (bstep (b1 _ _) hb2)).mono ?_; rintro e w3 ⟨mb, rfl, hmb, hown, hb3⟩) | (at_lookup; refine wpList_lookup_own_ok_int _ rfl _ _ 134 rfl 9 3 .i64 wkeys Tryz.underlying134 Tryz.underlying3 (zeroInt10 _) mb _ _ rfl hown _ _ rfl HKEY.out ?_; intro c hat2 hwc; rw [HHAS.out]))
      go_ret2
      refine ⟨?_, bstep (bstep (b1 _ _) hb2) hb3⟩
      rw [HI.out, HE2.out]
      rfl
  · have hEb : (E == 0) = false := by simpa using hE
    obtain ⟨h1, h2⟩ := HBAD.out hE
    have H1 := Lib.hid h1
    have H2 := Lib.hid h2
    clear h1 h2 HNUM HNI HBAD
    go_enter Tryz.func41, Tryz.ntmps41
    go_wp2_with (go_at_call 32; refine (HC.out _ (b1 _ _)).mono ?_; rintro e w2 ⟨rfl, hb2⟩)
    go_ret2
    exact ⟨by rw [H1.out, H2.out]; rfl, bstep (b1 _ _) hb2⟩
end Go.Proofs.YtdoioaeppepndaaGreatDoor
namespace Go.Proofs.YtdoioaeppepndaaGreatDoor
open Go.RowKit Go.Shelf Go.Maps
open A8 W10
attribute [local go_sem] Oper.semAt_some

theorem lfL_count (T : Tr) : (lfL (subsT T)).length = (leavesN T.nd).length := by
  rw [← List.length_map (f := Prod.fst), lfL_fst, ← lf_nd, List.length_map]
set_option maxRecDepth 100000 in
set_option maxHeartbeats 8000000 in
theorem wRoom_any (q : GQ) (w : World) (hq : QW w q) (hlen : (subsT q.t).length ≤ 999999) (hG : SG w) (hnu : ∀ s ∈ useL q.qu, s.length ≤ maxLen) :
    Calls Tryz.prog 43 #[.agg q.row.toArray] w fun e w' => e = .returned (.tuple #[.int .i64 (roomA q.qu), .int .i64 (roomD q.qu), .int .i64 (wfE q.qu)]) ∧ Below w.heap.size w w' := by
  have hc := fun w1 (hb : Below w.heap.size w w1) => wcheck_any q w1 (hq.later hb) hlen (hG.later hb) hnu
  have hd := fun w1 (hb : Below w.heap.size w w1) => depthp_any q.t w1 (hq.tr.later hb) hlen (hG.later hb)
  have hgood : wfE q.qu = 0 → roomA q.qu = ((lfL (subsT q.t)).length : Int) ∧ roomD q.qu = (depthN q.t.nd : Int) ∧ soundN 1 q.t.nd = true := fun h => by
    refine ⟨by unfold roomA; rw [if_pos h, lfL_count]; rfl, by unfold roomD; rw [if_pos h]; rfl, ?_⟩
    unfold wfE at h
    split at h
    · cases h
    rename_i hb
    have hb2 : checkB q.qu = true := by simpa using hb
    unfold checkB at hb2
    simp only [Bool.and_eq_true] at hb2
    exact hb2.1.1.1
  have hbad : wfE q.qu ≠ 0 → roomA q.qu = 0 ∧ roomD q.qu = 0 := fun h => ⟨by unfold roomA; rw [if_neg h], by unfold roomD; rw [if_neg h]⟩
  obtain ⟨E, hE⟩ : ∃ E, E = wfE q.qu := ⟨_, rfl⟩
  obtain ⟨rA, hrA⟩ : ∃ rA, rA = roomA q.qu := ⟨_, rfl⟩
  obtain ⟨rD, hrD⟩ : ∃ rD, rD = roomD q.qu := ⟨_, rfl⟩
  rw [← hE] at hc hgood hbad
  rw [← hrA, ← hrD] at hgood hbad
  rw [← hE, ← hrA, ← hrD]
  clear hE hrA hrD hG hnu
  obtain ⟨T, wi, sh, hv, se, em⟩ := q
  obtain ⟨hT, hwi, hh, he, -, -⟩ := hq
  simp only at hT hh he hlen hwi
  obtain ⟨Ah, ch, rfl, hlh, -⟩ := sl_get (by decide) hh
  obtain ⟨Ae, ce, rfl, hle, -⟩ := sl_get (by decide) he
  clear hh he
  simp only at hc hd hgood
  have hnd := fun w => wleaves_any T w
  have hseq := fun (b' : Nat) (w' : World) => wleaves_seq w T hT (by omega) b' w'
  have hLl : (lfL (subsT T)).length ≤ 1000000 := by
    have h1 : (lfL (subsT T)).length = ((subsT T).filter lfB).length := by rw [← lfL_fst, List.length_map]
    have h2 := List.length_filter_le lfB (subsT T)
    omega
  obtain ⟨dd, hdd⟩ : ∃ dd, dd = depthN T.nd := ⟨_, rfl⟩
  obtain ⟨L, hL⟩ : ∃ L, L = lfL (subsT T) := ⟨_, rfl⟩
  rw [← hL] at hseq hLl hgood
  rw [← hdd] at hgood hd
  have hse : soundN 1 T.nd = true → soundE T.nd = 0 := fun h => by unfold soundE; rw [if_pos h]
  have hd2 : E = 0 → ∀ w1, Below w.heap.size w w1 → Calls Tryz.prog 91 #[.agg T.row.toArray] w1 fun e w' => e = .returned (.tuple #[.int .i64 (dd : Int), .int .i64 0]) ∧ Below w1.heap.size w1 w' := fun h w1 hb => by
    have h1 := hd w1 hb
    have h2 := (hgood h).2.2
    rw [h2, if_pos rfl, hse h2] at h1
    exact h1
  replace hgood := fun h => And.intro (hgood h).1 (hgood h).2.1
  clear hL hdd hd hse
  have hone := hT.one
  obtain ⟨k, mn, mx, ⟨⟨kd, bd, bn, cs, nm⟩, sc⟩, sk, ks⟩ := T
  obtain ⟨-, ⟨-, hsc⟩, hsl⟩ := hone
  simp only at hsc
  obtain ⟨A1, cap1, rfl, -, -⟩ := sl_get (by decide) hsc
  obtain ⟨A, cap, rfl, -, -⟩ := sl_get (by decide) hsl
  clear hsc hsl
  clear hT hlen
  simp only [GQ.row, Tr.row, List.cons_append, List.nil_append] at hnd hseq hc hd2 ⊢
  have HC := Lib.hid hc
  have HQ := Lib.hid hseq
  have HG := Lib.hid hgood
  have HBAD := Lib.hid hbad
  have HDD := Lib.hid hd2
  clear hc hseq hgood hbad hd2
  have hbx : ∀ w1, Below ((w.alloc (.cells #[.int .i64 k, .int .i64 mn, .int .i64 mx, .int .i64 kd, .bool bd, .int .u64 bn, .slice A1 cs.length cap1, .string (strOf nm), .slice A ks.length cap, .int .u64 wi, .slice Ah hv.length ch, .slice Ae em.length ce] 35)).alloc (.cells #[.int .i64 0] 3)).heap.size ((w.alloc (.cells #[.int .i64 k, .int .i64 mn, .int .i64 mx, .int .i64 kd, .bool bd, .int .u64 bn, .slice A1 cs.length cap1, .string (strOf nm), .slice A ks.length cap, .int .u64 wi, .slice Ah hv.length ch, .slice Ae em.length ce] 35)).alloc (.cells #[.int .i64 0] 3)) w1 → Blk w1 w.heap.size [.int .i64 k, .int .i64 mn, .int .i64 mx, .int .i64 kd, .bool bd, .int .u64 bn, .slice A1 cs.length cap1, .string (strOf nm), .slice A ks.length cap, .int .u64 wi, .slice Ah hv.length ch, .slice Ae em.length ce] ∧ Bx w1 w.heap.size 35 [.int .i64 k, .int .i64 mn, .int .i64 mx, .int .i64 kd, .bool bd, .int .u64 bn, .slice A1 cs.length cap1, .string (strOf nm), .slice A ks.length cap, .int .u64 wi, .slice Ah hv.length ch, .slice Ae em.length ce] ∧ Bx w1 (w.heap.size + 1) 3 [.int .i64 ((0 : Nat) : Int)] ∧ Below w.heap.size w w1 := fun w1 hb => by
    have h1 := Bx.new w [.int .i64 k, .int .i64 mn, .int .i64 mx, .int .i64 kd, .bool bd, .int .u64 bn, .slice A1 cs.length cap1, .string (strOf nm), .slice A ks.length cap, .int .u64 wi, .slice Ah hv.length ch, .slice Ae em.length ce] 35
    have h2 := Bx.new (w.alloc (.cells #[.int .i64 k, .int .i64 mn, .int .i64 mx, .int .i64 kd, .bool bd, .int .u64 bn, .slice A1 cs.length cap1, .string (strOf nm), .slice A ks.length cap, .int .u64 wi, .slice Ah hv.length ch, .slice Ae em.length ce] 35)) [.int .i64 ((0 : Nat) : Int)] 3
    simp only [World.size_alloc] at h2
    exact ⟨((h1.later (b1 _ _)).later hb).blk, (h1.later (b1 _ _)).later hb, h2.later hb, bstep (b2 _ _ _) hb⟩
  have HX := Lib.hid hbx
  clear hbx
  by_cases hE : E = 0
  · obtain ⟨g1, g2⟩ := HG.out hE
    have HR1 := Lib.hid g1
    have HR2 := Lib.hid g2
    have HD2 := Lib.hid (HDD.out hE)
    subst hE
    clear g1 g2 HG HBAD HDD
    refine (callsIn_wide (n := 5)).1 ?_
    refine callsIn_of_wp_marks Tryz.func43 rfl trivial ?_ rfl
    simp only [Tryz.ntmps43, List.size_toArray, List.length_cons, List.length_nil, Nat.reduceAdd, Nat.reduceSub, Array.replicate_succ, Array.replicate_zero, List.push_toArray, List.append_toArray, List.nil_append, List.cons_append]
    gi_wp2_with (first | (refine ⟨trivial, ?_⟩; gi_at_call 32; refine (callsIn_wide.2 (HC.out _ (b2 _ _ _))).mono ?_; rintro e w2 ⟨rfl, hb2⟩; have z0 := (HX.out w2 hb2).1.cell 0 _ rfl; have z1 := (HX.out w2 hb2).1.cell 1 _ rfl; have z2 := (HX.out w2 hb2).1.cell 2 _ rfl; have z3 := (HX.out w2 hb2).1.cell 3 _ rfl; have z4 := (HX.out w2 hb2).1.cell 4 _ rfl; have z5 := (HX.out w2 hb2).1.cell 5 _ rfl; have z6 := (HX.out w2 hb2).1.cell 6 _ rfl; have z7 := (HX.out w2 hb2).1.cell 7 _ rfl; have z8 := (HX.out w2 hb2).1.cell 8 _ rfl; have zlt := (HX.out w2 hb2).1.lt) | (refine ⟨trivial, ?_⟩; gi_at_call 90; refine (callsIn_wide.2 (hnd _)).mono ?_; rintro e w' ⟨rfl, rfl⟩))
    clear hnd z0 z1 z2 z3 z4 z5 z6 z7 z8
    obtain ⟨-, hqb, hnb, hbw⟩ := HX.out w2 hb2
    obtain ⟨W3, hW3⟩ : ∃ W3, W3 = w2.alloc (.cells #[.int .i64 k, .int .i64 mn, .int .i64 mx, .int .i64 kd, .bool bd, .int .u64 bn, .slice A1 cs.length cap1, .string (strOf nm), .slice A ks.length cap] 31) := ⟨_, rfl⟩
    rw [← hW3]
    have hn3 : Bx W3 w2.heap.size 31 [.int .i64 k, .int .i64 mn, .int .i64 mx, .int .i64 kd, .bool bd, .int .u64 bn, .slice A1 cs.length cap1, .string (strOf nm), .slice A ks.length cap] := hW3 ▸ Bx.new w2 [.int .i64 k, .int .i64 mn, .int .i64 mx, .int .i64 kd, .bool bd, .int .u64 bn, .slice A1 cs.length cap1, .string (strOf nm), .slice A ks.length cap] 31
    have hb3 : Below w.heap.size w W3 := hW3 ▸ bstep hbw (b1 _ _)
    have hq3 : Bx W3 w.heap.size 35 [.int .i64 k, .int .i64 mn, .int .i64 mx, .int .i64 kd, .bool bd, .int .u64 bn, .slice A1 cs.length cap1, .string (strOf nm), .slice A ks.length cap, .int .u64 wi, .slice Ah hv.length ch, .slice Ae em.length ce] := hW3 ▸ hqb.later (b1 _ _)
    have hc3 : Bx W3 (w.heap.size + 1) 3 [.int .i64 ((0 : Nat) : Int)] := hW3 ▸ hnb.later (b1 _ _)
    have hsz3 : W3.heap.size = w2.heap.size + 1 := by rw [hW3]; simp
    have hlt2 := hnb.lt
    have hseq := HQ.out w2.heap.size W3 (SameB.of hb3) hn3
    clear hW3 hn3 HQ HX HC hqb hnb hbw hb2
    refine wpIn_range_own (gf := 121) (lb := #[.pointer (some ⟨w2.heap.size, 0, none⟩)]) rfl (enters_of Tryz.func121 (by kernel_rfl) rfl)
      hseq (by omega) (Below.refl _ _) (fun _ => rfl)
      (fun pre Wx => Bx Wx (w.heap.size + 1) 3 [.int .i64 (pre.length : Int)] ∧ Bx Wx w.heap.size 35 [.int .i64 k, .int .i64 mn, .int .i64 mx, .int .i64 kd, .bool bd, .int .u64 bn, .slice A1 cs.length cap1, .string (strOf nm), .slice A ks.length cap, .int .u64 wi, .slice Ah hv.length ch, .slice Ae em.length ce] ∧ Below w.heap.size w Wx)
      (fun pre Wx => False)
      ?hI ?hIx ?h0 (fun x act Wx => act = { tmps := #[.agg #[.int .i64 k, .int .i64 mn, .int .i64 mx, .int .i64 kd, .bool bd, .int .u64 bn, .slice A1 cs.length cap1, .string (strOf nm), .slice A ks.length cap, .int .u64 wi, .slice Ah hv.length ch, .slice Ae em.length ce], .pointer (some ⟨w.heap.size, 0, none⟩), .pointer (some ⟨w.heap.size + 1, 0, none⟩), .int .i64 0, .int .i64 0, .agg #[.int .i64 k, .int .i64 mn, .int .i64 mx, .int .i64 kd, .bool bd, .int .u64 bn, .slice A1 cs.length cap1, .string (strOf nm), .slice A ks.length cap, .int .u64 wi, .slice Ah hv.length ch, .slice Ae em.length ce], .int .i64 0, .int .i64 0, .bool false, undef, .pointer (some ⟨w.heap.size, 0, none⟩), .agg #[.int .i64 k, .int .i64 mn, .int .i64 mx, .int .i64 kd, .bool bd, .int .u64 bn, .slice A1 cs.length cap1, .string (strOf nm), .slice A ks.length cap], .func (.func 121) #[] #[.pointer (some ⟨w2.heap.size, 0, none⟩)], .int .i64 (x.2 : Int), .agg x.1.row.toArray, undef, undef, undef, undef, undef, undef, undef, undef, undef, undef, undef], defers := [] }) ?hA ?assign ?body ?done ?stop
    case hI =>
      rintro s Wx Wy ⟨g1, g2, g3⟩ ht
      exact ⟨bx_turn g1 ht (.inl (by omega)), bx_turn g2 ht (.inl (by omega)), ht.below g3 (by omega) (Nat.le_refl _)⟩
    case hIx =>
      rintro s Wx Wy g1 ht
      exact g1.elim
    case h0 => exact ⟨hc3, hq3, hb3⟩
    case hA =>
      rintro x act s Wx Wy row h3 hg hr
      exact h3
    case assign =>
      intro l2 pre x Wx K hp hsz hi hK
      clear hi hseq
      obtain ⟨⟨k2, mn2, mx2, ⟨⟨kd2, bd2, bn2, cs2, nm2⟩, sc2⟩, sk2, ks2⟩, c⟩ := x
      simp only [Tr.row] at hK ⊢
      gi_wp2
      exact hK _ _ (by first | rfl | (go_simp; done) | simp) (Below.refl _ _)
    case body =>
      rintro l2 pre x act Wx hp hsz ⟨g1, g2, g3⟩ rfl
      have hpl : pre.length + 1 ≤ 1000000 := by
        have h2 := hp.length_le
        rw [List.length_append, List.length_singleton] at h2
        omega
      have hxl : (pre ++ [x]).length = pre.length + 1 := by simp
      obtain ⟨xs, hxs⟩ : ∃ xs, xs = pre ++ [x] := ⟨_, rfl⟩
      rw [← hxs] at hxl ⊢
      obtain ⟨c, hc⟩ : ∃ c, c = pre.length := ⟨_, rfl⟩
      rw [← hc] at hpl hxl g1
      have hwc : IntKind.i64.wrap ((c : Int) + 1) = (c : Int) + 1 := IntWalk.i64_in _ ⟨by omega, by omega⟩
      have n1 := g1.blk.cell 0 _ rfl
      have n2 := g1.blk.fr 0 _ rfl
      have HXL := Lib.hid hxl
      have G1 := Lib.hid g1
      have G2 := Lib.hid g2
      have G3 := Lib.hid g3
      clear hxl g1 g2 g3 hxs hp hc hseq
      generalize x.1.row.toArray = R
      gi_wp2
      exact ⟨keep_set10 (by omega) G1.out (by decide) (.inl (by omega)) 0 _, by have h := bx_set G1.out (.int .i64 ((c : Int) + 1)); rw [HXL.out]; exact h, bx_other G2.out (by simp) _, G3.out.setCell (p := ⟨w.heap.size + 1, 0, none⟩) (by simp) _⟩
    case done =>
      rintro D Wx hD ⟨g1, g2, g3⟩ hKd
      have hq := g2.blk
      have z0 := hq.cell 0 _ rfl
      have z1 := hq.cell 1 _ rfl
      have z2 := hq.cell 2 _ rfl
      have z3 := hq.cell 3 _ rfl
      have z4 := hq.cell 4 _ rfl
      have z5 := hq.cell 5 _ rfl
      have z6 := hq.cell 6 _ rfl
      have z7 := hq.cell 7 _ rfl
      have z8 := hq.cell 8 _ rfl
      have HKD := Lib.hid hKd
      have G1 := Lib.hid g1
      have G3 := Lib.hid g3
      have hcl : ∀ w4, Below Wx.heap.size Wx w4 → w4.cell? ⟨w.heap.size + 1, 0, none⟩ = some (.int .i64 (L.length : Int)) ∧ w4.frozen? ⟨w.heap.size + 1, 0, none⟩ = false := fun w4 hb => ⟨(g1.later hb).blk.cell 0 _ rfl, (g1.later hb).blk.fr 0 _ rfl⟩
      have hDl : D < Wx.heap.size := (Array.getElem?_eq_some_iff.1 hKd).1
      clear hq g1 g2 g3 hKd hseq
      gi_wp2_with (refine ⟨trivial, ?_⟩; gi_at_call 91; refine (callsIn_wide.2 (HD2.out _ G3.out)).mono ?_; rintro e w4 ⟨rfl, hb4⟩; obtain ⟨y1, y2⟩ := hcl w4 hb4; clear hcl)
      have hk4 := def_set (p := ⟨w.heap.size + 1, 0, none⟩) (v := .int .i64 (L.length : Int)) ((hb4.block D hDl).trans HKD.out)
      refine leaves_marks (t := 3) (B := W3.heap.size) (fun W' => Below w.heap.size w W' ∧ Bx W' (w.heap.size + 1) 3 [.int .i64 (L.length : Int)]) (fun W1 W2 h ht => ⟨ht.below h.1 (by omega) (Nat.le_refl _), bx_turn h.2 ht (.inl (by omega))⟩) (fun W' h => ⟨.tuple #[.int .i64 (L.length : Int), .int .i64 (dd : Int), .int .i64 0], by simp [results, Tryz.f43, go_sem, h.2.blk.cell 0 _ rfl], ⟨by rw [HR1.out, HR2.out], h.1⟩⟩) [D] _ (by simp) (fun E hE => by rw [List.mem_singleton] at hE; subst hE; exact ⟨by omega, hk4⟩) ⟨(bstep G3.out hb4).setCell (p := ⟨w.heap.size + 1, 0, none⟩) (by simp) _, bx_set (G1.out.later hb4) _⟩
    case stop =>
      rintro D pre Wx hD hp g1 hKd
      exact g1.elim
  · have hEb : (E == 0) = false := by simpa using hE
    obtain ⟨g1, g2⟩ := HBAD.out hE
    have HR1 := Lib.hid g1
    have HR2 := Lib.hid g2
    have hcl : ∀ w2, Below ((w.alloc (.cells #[.int .i64 k, .int .i64 mn, .int .i64 mx, .int .i64 kd, .bool bd, .int .u64 bn, .slice A1 cs.length cap1, .string (strOf nm), .slice A ks.length cap, .int .u64 wi, .slice Ah hv.length ch, .slice Ae em.length ce] 35)).alloc (.cells #[.int .i64 0] 3)).heap.size ((w.alloc (.cells #[.int .i64 k, .int .i64 mn, .int .i64 mx, .int .i64 kd, .bool bd, .int .u64 bn, .slice A1 cs.length cap1, .string (strOf nm), .slice A ks.length cap, .int .u64 wi, .slice Ah hv.length ch, .slice Ae em.length ce] 35)).alloc (.cells #[.int .i64 0] 3)) w2 → w2.cell? ⟨w.heap.size + 1, 0, none⟩ = some (.int .i64 0) ∧ w2.frozen? ⟨w.heap.size + 1, 0, none⟩ = false := fun w2 hb => ⟨(HX.out w2 hb).2.2.1.blk.cell 0 _ rfl, (HX.out w2 hb).2.2.1.blk.fr 0 _ rfl⟩
    clear g1 g2 HG HBAD HDD hnd HQ
    refine (callsIn_wide (n := 5)).1 ?_
    refine callsIn_of_wp_marks Tryz.func43 rfl trivial ?_ rfl
    simp only [Tryz.ntmps43, List.size_toArray, List.length_cons, List.length_nil, Nat.reduceAdd, Nat.reduceSub, Array.replicate_succ, Array.replicate_zero, List.push_toArray, List.append_toArray, List.nil_append, List.cons_append]
    gi_wp2_with (refine ⟨trivial, ?_⟩; gi_at_call 32; refine (callsIn_wide.2 (HC.out _ (b2 _ _ _))).mono ?_; rintro e w2 ⟨rfl, hb2⟩; obtain ⟨y1, y2⟩ := hcl w2 hb2; clear hcl)
    obtain ⟨-, -, hnb, hbw⟩ := HX.out w2 hb2
    refine leaves_marks (t := 3) (B := w2.heap.size) (fun W' => Below w.heap.size w W' ∧ Bx W' (w.heap.size + 1) 3 [.int .i64 0]) (fun W1 W2 h ht => ⟨ht.below h.1 hbw.size (Nat.le_refl _), bx_turn h.2 ht (.inl hnb.lt)⟩) (fun W' h => ⟨.tuple #[.int .i64 0, .int .i64 0, .int .i64 E], by simp [results, Tryz.f43, go_sem, h.2.blk.cell 0 _ rfl], ⟨by rw [HR1.out, HR2.out], h.1⟩⟩) [] _ (by simp) (fun E hE => by cases hE) ⟨hbw.setCell (p := ⟨w.heap.size + 1, 0, none⟩) (by simp) _, bx_set hnb _⟩
end Go.Proofs.YtdoioaeppepndaaGreatDoor
namespace Go.Proofs.YtdoioaeppepndaaGreatDoor
open Go.RowKit Go.Shelf Go.Maps
open A8 W10
attribute [local go_sem] Oper.semAt_some

def mapT (l : List (List UInt8)) : DataW Unit := l.foldl (fun D s => D.put (.string s) (.lit (.bool true))) (.map [])
theorem mapT_snoc (l : List (List UInt8)) (s : List UInt8) : mapT (l ++ [s]) = (mapT l).put (.string s) (.lit (.bool true)) := by
  unfold mapT
  rw [List.foldl_append]
  rfl
theorem mapT_isMap (l : List (List UInt8)) : IsMap (mapT l) := by
  refine snoc_ind (P := fun l => IsMap (mapT l)) ⟨[], rfl⟩ (fun l s h => ?_) l
  rw [mapT_snoc]
  exact h.put _ _
theorem mapT_at (l : List (List UInt8)) (s : List UInt8) : (mapT l).atKey (.string s) (.lit (.bool false)) = .lit (.bool (l.contains s)) := by
  refine snoc_ind (P := fun l => (mapT l).atKey (.string s) (.lit (.bool false)) = .lit (.bool (l.contains s))) rfl (fun l x h => ?_) l
  rw [mapT_snoc]
  by_cases hx : s = x
  · subst hx
    rw [atKey_put_same (mapT_isMap l) (wkeyLit s)]
    simp
  · rw [atKey_put_other (by intro e; cases e; exact hx rfl), h]
    have : (l ++ [x]).contains s = l.contains s := by
      rw [Bool.eq_iff_iff]
      simp [hx]
    rw [this]
theorem firsts_snoc (x : List UInt8) (l : List (List UInt8)) : ∀ seen, firsts seen (l ++ [x]) = firsts seen l ++ (if seen.contains x = true ∨ l.contains x = true then [] else [x]) := by
  induction l with
  | nil =>
    intro seen
    simp only [List.nil_append, firsts]
    by_cases h : seen.contains x = true
    · rw [if_pos h, if_pos (.inl h)]
    · rw [if_neg h, if_neg (by simpa using h)]
  | cons s r ih =>
    intro seen
    rw [List.cons_append, firsts, firsts]
    by_cases h : seen.contains s = true
    · rw [if_pos h, if_pos h, ih]
      congr 1
      have : (seen.contains x = true ∨ (s :: r).contains x = true) ↔ (seen.contains x = true ∨ r.contains x = true) := by
        rw [List.contains_eq_mem] at h
        simp only [decide_eq_true_eq] at h
        simp only [List.contains_eq_mem, decide_eq_true_eq, List.mem_cons]
        constructor
        · rintro (h1 | rfl | h1)
          · exact .inl h1
          · exact .inl h
          · exact .inr h1
        · rintro (h1 | h1)
          · exact .inl h1
          · exact .inr (.inr h1)
      simp only [this]
    · rw [if_neg h, if_neg h, ih, List.cons_append]
      congr 2
      have : (seen.contains x = true ∨ (s :: r).contains x = true) ↔ ((seen ++ [s]).contains x = true ∨ r.contains x = true) := by
        simp only [List.contains_eq_mem, decide_eq_true_eq, List.mem_cons, List.mem_append, List.not_mem_nil, or_false]
        constructor
        · rintro (h1 | h1 | h1)
          · exact .inl (.inl h1)
          · exact .inl (.inr h1)
          · exact .inr h1
        · rintro ((h1 | h1) | h1)
          · exact .inl h1
          · exact .inr (.inl h1)
          · exact .inr (.inr h1)
      simp only [this]
theorem firsts_mem (s : List UInt8) (l : List (List UInt8)) : (firsts [] l).contains s = l.contains s := by
  refine snoc_ind (P := fun l => (firsts [] l).contains s = l.contains s) rfl (fun l x h => ?_) l
  rw [firsts_snoc, Bool.eq_iff_iff]
  simp only [List.contains_eq_mem, decide_eq_true_eq] at h ⊢
  have h' : s ∈ firsts [] l ↔ s ∈ l := by simpa using h
  simp only [List.mem_append, List.mem_singleton, List.not_mem_nil, false_or]
  split
  · rename_i hx
    simp only [List.not_mem_nil, or_false, h']
    constructor
    · exact .inl
    · rintro (h1 | rfl)
      · exact h1
      · exact hx
  · simp only [List.mem_singleton, h']
theorem firsts_len (l : List (List UInt8)) : (firsts [] l).length ≤ l.length := by
  refine snoc_ind (P := fun l => (firsts [] l).length ≤ l.length) (Nat.le_refl _) (fun l x h => ?_) l
  rw [firsts_snoc, List.length_append, List.length_append]
  split <;> simp <;> omega
set_option maxRecDepth 100000 in
set_option maxHeartbeats 8000000 in
theorem wUses_any (q : GQ) (w : World) (hq : QW w q) (hlen : (subsT q.t).length ≤ 999999) (hG : SG w) (hnu : ∀ s ∈ useL q.qu, s.length ≤ maxLen) (hul : (useL q.qu).length ≤ 1000000) :
    Calls Tryz.prog 39 #[.agg q.row.toArray] w (TxtP w (usesL q.qu) (wfE q.qu)) := by
  have hc := fun w1 (hb : Below w.heap.size w w1) => wcheck_any q w1 (hq.later hb) hlen (hG.later hb) hnu
  have huq := fun (b : Nat) (w2 : World) (h1 : SameB w.heap.size w w2) (h2 : Bx w2 b 35 q.row) => wuses_seq w q hq b w2 h1 h2
  have hun := fun w' ho => wuses_any q w' ho
  have hns : usesL q.qu = if wfE q.qu = 0 then firsts [] (useL q.qu) else [] := rfl
  rw [hns]
  obtain ⟨E, hE⟩ : ∃ E, E = wfE q.qu := ⟨_, rfl⟩
  obtain ⟨L, hL⟩ : ∃ L, L = useL q.qu := ⟨_, rfl⟩
  rw [← hL] at huq hnu hul ⊢
  rw [← hE] at hc ⊢
  clear hns hG hE
  obtain ⟨T, wi, sh, hv, se, em⟩ := q
  obtain ⟨hT, hwi, hh, he, -, -⟩ := hq
  simp only at hT hh he hlen hwi
  obtain ⟨Ah, ch, rfl, hlh, -⟩ := sl_get (by decide) hh
  obtain ⟨Ae, ce, rfl, hle, -⟩ := sl_get (by decide) he
  clear hh he
  simp only at huq hun hc
  clear hL
  have hone := hT.one
  obtain ⟨k, mn, mx, ⟨⟨kd, bd, bn, cs, nm⟩, sc⟩, sk, ks⟩ := T
  obtain ⟨-, ⟨-, hsc⟩, hsl⟩ := hone
  simp only at hsc
  obtain ⟨A1, cap1, rfl, -, -⟩ := sl_get (by decide) hsc
  obtain ⟨A, cap, rfl, -, -⟩ := sl_get (by decide) hsl
  clear hsc hsl
  clear hT hlen
  have hun2 := fun w' => hun w' ⟨A1, A, Ah, Ae, cap1, cap, ch, ce, _, _, _, _, _, _, _, _, _, rfl, rfl, rfl, rfl⟩
  clear hun
  simp only [GQ.row, Tr.row, List.cons_append, List.nil_append] at hc huq hun2 ⊢
  have HC := Lib.hid hc
  have HQ := Lib.hid huq
  have HNU := Lib.hid hnu
  clear hc huq hnu
  by_cases hE : E = 0
  · subst hE
    rw [if_pos rfl]
    have hbx : ∀ w1, Below (w.alloc (.cells #[.int .i64 k, .int .i64 mn, .int .i64 mx, .int .i64 kd, .bool bd, .int .u64 bn, .slice A1 cs.length cap1, .string (strOf nm), .slice A ks.length cap, .int .u64 wi, .slice Ah hv.length ch, .slice Ae em.length ce] 35)).heap.size (w.alloc (.cells #[.int .i64 k, .int .i64 mn, .int .i64 mx, .int .i64 kd, .bool bd, .int .u64 bn, .slice A1 cs.length cap1, .string (strOf nm), .slice A ks.length cap, .int .u64 wi, .slice Ah hv.length ch, .slice Ae em.length ce] 35)) w1 → Blk w1 w.heap.size [.int .i64 k, .int .i64 mn, .int .i64 mx, .int .i64 kd, .bool bd, .int .u64 bn, .slice A1 cs.length cap1, .string (strOf nm), .slice A ks.length cap, .int .u64 wi, .slice Ah hv.length ch, .slice Ae em.length ce] := fun w1 hb => ((Bx.new w [.int .i64 k, .int .i64 mn, .int .i64 mx, .int .i64 kd, .bool bd, .int .u64 bn, .slice A1 cs.length cap1, .string (strOf nm), .slice A ks.length cap, .int .u64 wi, .slice Ah hv.length ch, .slice Ae em.length ce] 35).later hb).blk
    have HX := Lib.hid hbx
    clear hbx
    refine (callsIn_wide (n := 5)).1 ?_
    refine callsIn_of_wp_marks Tryz.func39 rfl trivial ?_ rfl
    simp only [Tryz.ntmps39, List.size_toArray, List.length_cons, List.length_nil, Nat.reduceAdd, Nat.reduceSub, Array.replicate_succ, Array.replicate_zero, List.push_toArray, List.append_toArray, List.nil_append, List.cons_append]
    have hmm := @run_makeMap Tryz.prog
    gi_upto_region 6 with (refine ⟨trivial, ?_⟩; gi_at_call 32; refine (callsIn_wide.2 (HC.out _ (b1 _ _))).mono ?_; rintro e w2 ⟨rfl, hb2⟩)
    clear hmm
    have zlt : w.heap.size < w2.heap.size := (HX.out w2 hb2).lt
    obtain ⟨W5, hW5⟩ : ∃ W5, W5 = ((w2.alloc (.cells #[.slice none 0 0] 69)).alloc (.map #[] 0)).alloc (.cells #[.map (some (w2.heap.size + 1))] 128) := ⟨_, rfl⟩
    rw [← hW5]
    have hb5 : Below (w.alloc (.cells #[.int .i64 k, .int .i64 mn, .int .i64 mx, .int .i64 kd, .bool bd, .int .u64 bn, .slice A1 cs.length cap1, .string (strOf nm), .slice A ks.length cap, .int .u64 wi, .slice Ah hv.length ch, .slice Ae em.length ce] 35)).heap.size (w.alloc (.cells #[.int .i64 k, .int .i64 mn, .int .i64 mx, .int .i64 kd, .bool bd, .int .u64 bn, .slice A1 cs.length cap1, .string (strOf nm), .slice A ks.length cap, .int .u64 wi, .slice Ah hv.length ch, .slice Ae em.length ce] 35)) W5 := hW5 ▸ bstep hb2 (b3 _ _ _ _)
    have hsz5 : W5.heap.size = w2.heap.size + 3 := by rw [hW5]; simp
    have z0 := (HX.out W5 hb5).cell 0 _ rfl
    have z1 := (HX.out W5 hb5).cell 1 _ rfl
    have z2 := (HX.out W5 hb5).cell 2 _ rfl
    have z3 := (HX.out W5 hb5).cell 3 _ rfl
    have z4 := (HX.out W5 hb5).cell 4 _ rfl
    have z5 := (HX.out W5 hb5).cell 5 _ rfl
    have z6 := (HX.out W5 hb5).cell 6 _ rfl
    have z7 := (HX.out W5 hb5).cell 7 _ rfl
    have z8 := (HX.out W5 hb5).cell 8 _ rfl
    have z9 := (HX.out W5 hb5).cell 9 _ rfl
    have z10 := (HX.out W5 hb5).cell 10 _ rfl
    have z11 := (HX.out W5 hb5).cell 11 _ rfl
    have hun3 := hun2 W5
    have HW5 := Lib.hid hW5
    clear hun2 hW5
    gi_wp2_with (refine ⟨trivial, ?_⟩; refine (callsIn_wide.2 hun3).mono ?_; rintro e w' ⟨rfl, rfl⟩)
    clear hun3 z0 z1 z2 z3 z4 z5 z6 z7 z8 z9 z10 z11
    obtain ⟨W3, hW3⟩ : ∃ W3, W3 = W5.alloc (.cells #[.int .i64 k, .int .i64 mn, .int .i64 mx, .int .i64 kd, .bool bd, .int .u64 bn, .slice A1 cs.length cap1, .string (strOf nm), .slice A ks.length cap, .int .u64 wi, .slice Ah hv.length ch, .slice Ae em.length ce] 35) := ⟨_, rfl⟩
    rw [← hW3]
    have hst := show Below w.heap.size w W3 ∧ W3.heap.size = w2.heap.size + 4 ∧ Bx W3 w2.heap.size 69 [.slice none 0 0] ∧ W3.ownsMap Tryz.prog 9 (plainElem Tryz.prog 4) (w2.heap.size + 1) 0 (mapT []) ∧ Bx W3 (w2.heap.size + 1 + 1) 128 [.map (some (w2.heap.size + 1))] ∧ Bx W3 (w2.heap.size + 1 + 1 + 1) 35 [.int .i64 k, .int .i64 mn, .int .i64 mx, .int .i64 kd, .bool bd, .int .u64 bn, .slice A1 cs.length cap1, .string (strOf nm), .slice A ks.length cap, .int .u64 wi, .slice Ah hv.length ch, .slice Ae em.length ce] from by
      rw [hW3, HW5.out]
      have h1 := Bx.new w2 [.slice none 0 0] 69
      have h2 := World.ownsMap_made (H := Unit) (w2.alloc (.cells #[.slice none 0 0] 69)) Tryz.prog 9 (plainElem Tryz.prog 4)
      have h3 := Bx.new ((w2.alloc (.cells #[.slice none 0 0] 69)).alloc (.map #[] 0)) [.map (some (w2.heap.size + 1))] 128
      have h4 := Bx.new (((w2.alloc (.cells #[.slice none 0 0] 69)).alloc (.map #[] 0)).alloc (.cells #[.map (some (w2.heap.size + 1))] 128)) [.int .i64 k, .int .i64 mn, .int .i64 mx, .int .i64 kd, .bool bd, .int .u64 bn, .slice A1 cs.length cap1, .string (strOf nm), .slice A ks.length cap, .int .u64 wi, .slice Ah hv.length ch, .slice Ae em.length ce] 35
      simp only [World.size_alloc] at h2 h3 h4
      exact ⟨bstep (bstep (bstep (b1 _ _) hb2) (b3 _ _ _ _)) (b1 _ _), by simp, ((h1.later (b1 _ _)).later (b1 _ _)).later (b1 _ _), (h2.alloc _).alloc _, h3.later (b1 _ _), h4⟩
    obtain ⟨hb3, hsz3, hl3, hm3, hx3, hq3⟩ := hst
    have hwl : w.heap.size < w2.heap.size := zlt
    have hseq := HQ.out (w2.heap.size + 1 + 1 + 1) W3 (SameB.of hb3) hq3
    clear hW3 HW5 hb5 hq3 HQ HX HC
    refine wpIn_range_own (gf := 119) (lb := #[.pointer (some ⟨w2.heap.size + 1 + 1 + 1, 0, none⟩)]) (by first | rfl | simp [hsz5, go_sem]) (enters_of Tryz.func119 (by kernel_rfl) rfl)
      hseq (by omega) (Below.refl _ _) (fun _ => rfl)
      (fun pre Wx => ∃ v, Bx Wx w2.heap.size 69 [v] ∧ Wx.ownsRow w.heap.size 9 1 v (firsts [] pre).length ((firsts [] pre).map fun s => .string (strOf s)) ∧ Below w.heap.size w Wx ∧ Wx.ownsMap Tryz.prog 9 (plainElem Tryz.prog 4) (w2.heap.size + 1) (firsts [] pre).length (mapT (firsts [] pre)) ∧ Bx Wx (w2.heap.size + 1 + 1) 128 [.map (some (w2.heap.size + 1))])
      (fun pre Wx => False)
      ?hI ?hIx ?h0 (fun x act Wx => act = { tmps := #[.agg #[.int .i64 k, .int .i64 mn, .int .i64 mx, .int .i64 kd, .bool bd, .int .u64 bn, .slice A1 cs.length cap1, .string (strOf nm), .slice A ks.length cap, .int .u64 wi, .slice Ah hv.length ch, .slice Ae em.length ce], .pointer (some ⟨w.heap.size, 0, none⟩), .slice none 0 0, .int .i64 0, .int .i64 0, .pointer (some ⟨w2.heap.size, 0, none⟩), .pointer (some ⟨w2.heap.size + 1 + 1, 0, none⟩), .string (strOf x), .agg #[.int .i64 k, .int .i64 mn, .int .i64 mx, .int .i64 kd, .bool bd, .int .u64 bn, .slice A1 cs.length cap1, .string (strOf nm), .slice A ks.length cap, .int .u64 wi, .slice Ah hv.length ch, .slice Ae em.length ce], .int .i64 0, .int .i64 0, .bool false, undef, .map (some (w2.heap.size + 1)), .agg #[.int .i64 k, .int .i64 mn, .int .i64 mx, .int .i64 kd, .bool bd, .int .u64 bn, .slice A1 cs.length cap1, .string (strOf nm), .slice A ks.length cap, .int .u64 wi, .slice Ah hv.length ch, .slice Ae em.length ce], .func (.func 119) #[] #[.pointer (some ⟨w2.heap.size + 1 + 1 + 1, 0, none⟩)], .string (strOf x), undef, undef, undef, undef, undef, undef, undef, undef, undef, undef, undef], defers := [] }) ?hA ?assign ?body ?done ?stop
    case hI =>
      rintro s Wx Wy ⟨v, g1, g2, g3, g4, g5⟩ ht
      exact ⟨v, bx_turn g1 ht (.inl (by omega)), row_turn g2 ht (by decide), ht.below g3 (by omega) (Nat.le_refl _), owns_turn g4 ht (by omega), bx_turn g5 ht (.inl (by omega))⟩
    case hIx =>
      rintro s Wx Wy g1 ht
      exact g1.elim
    case h0 => exact ⟨_, hl3, World.ownsRow_nil _ _ _ _, hb3, hm3, hx3⟩
    case hA =>
      rintro x act s Wx Wy row h3 hg hr
      exact h3
    case assign =>
      intro l2 pre x Wx K hp hsz hi hK
      clear hi hseq
      gi_wp2
      exact hK _ _ rfl (Below.refl _ _)
    case body =>
      rintro l2 pre x act Wx hp hsz ⟨v, g1, g2, g3, g4, g5⟩ rfl
      have hpl : (firsts [] pre).length + 1 ≤ 1000000 := by
        have h2 := hp.length_le
        have h3 := firsts_len pre
        rw [List.length_append, List.length_singleton] at h2
        omega
      have hkey := wkey x (HNU.out x (hp.subset (by simp)))
      have hat := mapT_at (firsts [] pre) x
      rw [firsts_mem] at hat
      have hfs := firsts_snoc x pre []
      obtain ⟨cc, hcc⟩ : ∃ cc, cc = pre.contains x := ⟨_, rfl⟩
      rw [← hcc] at hat hfs
      have hfs2 : firsts [] (pre ++ [x]) = firsts [] pre ++ (if cc = true then [] else [x]) := by rw [hfs]; simp
      obtain ⟨xs, hxs⟩ : ∃ xs, xs = pre ++ [x] := ⟨_, rfl⟩
      rw [← hxs] at hfs2 ⊢
      obtain ⟨fs, hfse⟩ : ∃ fs, fs = firsts [] pre := ⟨_, rfl⟩
      rw [← hfse] at hfs2 hat hpl g2 g4
      clear hxs hp hcc hfse hfs
      have HKEY := Lib.hid hkey
      have m1 := g1.blk.cell 0 _ rfl
      have m2 := g1.blk.fr 0 _ rfl
      have x1 := g5.blk.cell 0 _ rfl
      have hml := g1.lt
      have hrun := g2
      cases cc with
      | true =>
        have HAT2 : RowKit.Hid ((mapT fs).atKey (.string x) (.lit (.bool false)) = .lit (.bool true)) := Lib.hid hat
        have HFS : RowKit.Hid (firsts [] xs = fs) := Lib.hid (by rw [hfs2]; simp)
        have G1 := Lib.hid g1
        have G2 := Lib.hid g2
        have G3 := Lib.hid g3
        have G4 := Lib.hid g4
        have G5 := Lib.hid g5
        obtain ⟨nn, hnn⟩ : ∃ nn, nn = strOf x := ⟨_, rfl⟩
        rw [← hnn] at HKEY ⊢
        clear hat hfs2 hkey g1 g2 g3 g4 g5 hseq hrun hnn
        gi_wp2_with (gi_at_lookup; refine wpListIn_lookup_bool _ rfl _ _ 128 rfl 9 4 wkeys Tryz.underlying128 Tryz.underlying4 (zeroBool10 _) _ _ _ rfl G4.out _ _ rfl HKEY.out _ HAT2.out ?_)
        exact ⟨KeepW.refl _ _, v, G1.out, by rw [HFS.out]; exact G2.out, G3.out, by rw [HFS.out]; exact G4.out, G5.out⟩
      | false =>
        have HAT2 : RowKit.Hid ((mapT fs).atKey (.string x) (.lit (.bool false)) = .lit (.bool false)) := Lib.hid hat
        have hfs3 : firsts [] xs = fs ++ [x] := by rw [hfs2]; simp
        have HFS := Lib.hid hfs3
        have hmp : (firsts [] xs).map (fun s => Value.string (strOf s)) = (fs.map fun s => .string (strOf s)) ++ [.string (strOf x)] := by rw [hfs3, List.map_append]; rfl
        have hxl : (firsts [] xs).length = fs.length + 1 := by rw [hfs3]; simp
        have hmt : mapT (firsts [] xs) = (mapT fs).put (.string x) (.lit (.bool true)) := by rw [hfs3, mapT_snoc]
        obtain ⟨pl, hple⟩ : ∃ pl, pl = fs.length := ⟨_, rfl⟩
        rw [← hple] at hpl hxl g2 g4
        obtain ⟨us, hus⟩ : ∃ us, us = fs.map fun s => Value.string (strOf s) := ⟨_, rfl⟩
        rw [← hus] at hmp g2
        obtain ⟨D, hD⟩ : ∃ D, D = mapT fs := ⟨_, rfl⟩
        rw [← hD] at g4 hmt HAT2
        obtain ⟨A5, c5, rfl⟩ := own_form g2
        obtain ⟨i0, hi0, hz0, hz1, hz2⟩ := info_parts infoStr10
        obtain ⟨nn, hnn⟩ : ∃ nn, nn = strOf x := ⟨_, rfl⟩
        rw [← hnn] at hmp HKEY ⊢
        have HPL : RowKit.Hid (pl < maxLen) := Lib.hid (by unfold maxLen; omega)
        have hneb : (Value.slice A5 pl c5).ownBlock ≠ some (w2.heap.size + 1) := fun e => by
          rcases g2.2 with ⟨h1, -⟩ | ⟨g, cap, cur, h1, h2, h3, -⟩
          · rw [h1] at e; cases e
          · rw [h1] at e
            injection e with e
            obtain ⟨o, ho1, ho2⟩ := owns_obj g4
            simp only at e
            rw [← e, h3] at ho1
            cases ho1
            cases ho2
        have hput : ∀ w7, Wx.grownBy w7 (some (w2.heap.size + 1)) → w7.cell? ⟨w2.heap.size, 0, none⟩ = some (.slice A5 pl c5) ∧ w7.frozen? ⟨w2.heap.size, 0, none⟩ = false ∧ (w7.alloc (.cells #[.string nn] 9)).ownsRow w.heap.size 9 1 (.slice A5 pl c5) pl us := fun w7 hg => by
          have h1 := bx_grown g1 hg (by omega)
          exact ⟨h1.blk.cell 0 _ rfl, h1.blk.fr 0 _ rfl, (g2.kept hg (.inr hneb)).alloc _⟩
        have hside : ∀ w7, Wx.grownBy w7 (some (w2.heap.size + 1)) → (∀ j u, [Value.string nn][j]? = some u → (w7.alloc (.cells #[.string nn] 9)).cell? ((⟨w7.heap.size, 0, none⟩ : Addr).add j) = some u) ∧ True ∧ w.heap.size ≤ (w7.alloc (.cells #[.string nn] 9)).heap.size := fun w7 hg => by
          refine ⟨fun j u h => ?_, trivial, by have := g3.size; have := hg.size; simp; omega⟩
          cases j with
          | zero => exact (Blk.new w7 [.string nn] 9).cell 0 u h
          | succ j => simp at h
        have hgr : ∀ v' w7 w1, Wx.grownBy w7 (some (w2.heap.size + 1)) → w1.ownsRow w.heap.size 9 1 v' (pl + 1) (us ++ [.string nn]) → (w7.alloc (.cells #[.string nn] 9)).grownBy w1 (Value.slice A5 pl c5).ownBlock → w1.cell? ⟨w2.heap.size, 0, none⟩ = some (.slice A5 pl c5) ∧ w1.frozen? ⟨w2.heap.size, 0, none⟩ = false := fun v' w7 w1 hg h1 h2 => by
          have h := (Boxed.appended (B := w2.heap.size) (t := 69) (bx_grown g1 hg (by omega)) (by decide) (g2.kept hg (.inr hneb)) (by have := g3.size; have := hg.size; omega) (by omega) h1 h2).1
          have hb : Bx w1 w2.heap.size 69 [.slice A5 pl c5] := h
          exact ⟨hb.blk.cell 0 _ rfl, hb.blk.fr 0 _ rfl⟩
        have s2 : ∀ u ∈ [Value.string nn], u.oneCell' = true := by simp [Value.oneCell']
        have s3' : pl + 1 ≤ maxLen := by unfold maxLen; omega
        have s4 : (pl + 1) * 16 ≤ 140737488355328 := by omega
        have HPUT := Lib.hid hput
        have HSIDE := Lib.hid hside
        have HGR := Lib.hid hgr
        have HMP := Lib.hid hmp
        have HXL := Lib.hid hxl
        have HMT := Lib.hid hmt
        have HNE := Lib.hid hneb
        have G1 := Lib.hid g1
        have G2 := Lib.hid g2
        have G3 := Lib.hid g3
        have G4 := Lib.hid g4
        have G5 := Lib.hid g5
        clear hput hside hgr hmp hxl hmt hneb g1 g2 g3 g4 g5 hat hfs2 hfs3 hkey hseq hple hus hD hnn HFS hrun
        gi_wp2_with (first | (gi_at_lookup; refine wpListIn_lookup_bool _ rfl _ _ 128 rfl 9 4 wkeys Tryz.underlying128 Tryz.underlying4 (zeroBool10 _) _ _ _ rfl G4.out _ _ rfl HKEY.out _ HAT2.out ?_) | (gi_at_mapUpdate; refine wpListIn_mapUpdate_own _ rfl _ _ _ 128 rfl 9 4 wkeys Tryz.underlying128 _ _ _ _ rfl G4.out HPL.out _ _ (.string x) rfl rfl HKEY.out (.lit (.bool true)) [] (plainElem_bool Tryz.underlying4 _) ?_; intro w7 hown7 hg7; obtain ⟨p1, p2, p3⟩ := HPUT.out w7 hg7; obtain ⟨s1, s3, s5⟩ := HSIDE.out w7 hg7) | (gi_at_builtin; refine wpListIn_append_own _ rfl _ _ 69 rfl w.heap.size 9 i0 _ 1 16 Tryz.underlying69 hi0 hz0 hz1 hz2 rfl (by decide) (.slice A5 pl c5) pl us rfl p3 ⟨w7.heap.size, 0, none⟩ 1 1 [.string nn] rfl rfl s1 s2 s3' s4 s5 ?_; intro v' w1 hown1 hg1 hnil; obtain ⟨A6, c6, rfl⟩ := own_form hown1; obtain ⟨m3, m4⟩ := HGR.out _ w7 w1 hg7 hown1 hg1; clear p1 p2))
        have h1 := bx_grown G1.out hg7 (by omega)
        have h2 := G2.out.kept hg7 (.inr HNE.out)
        have hb7 : Below w.heap.size w w7 := G3.out.grown hg7 G3.out.size (fun j e => by cases e; omega)
        have hB := Boxed.appended (B := w2.heap.size) (t := 69) h1 (by decide) h2 (by have := hb7.size; omega) (by omega) hown1 hg1
        obtain ⟨o, ho1, ho2⟩ := owns_obj G4.out
        obtain ⟨o7, ho71, ho72⟩ := owns_obj hown7
        have hm1 : w1.ownsMap Tryz.prog 9 (plainElem Tryz.prog 4) (w2.heap.size + 1) (pl + 1) (D.put (.string x) (.lit (.bool true))) := (hown7.alloc _).kept hg1 (fun e => HNE.out e.symm)
        have hx1 : Bx w1 (w2.heap.size + 1 + 1) 128 [.map (some (w2.heap.size + 1))] := by
          have h3 := bx_grown G5.out hg7 (by omega)
          refine (hg1.block _ (by rw [World.size_alloc]; have := h3.lt; omega) (fun e => ?_)).trans (h3.later (b1 _ _))
          rcases h2.2 with ⟨h4, -⟩ | ⟨g, cap, cur, h4, h5, h6, -⟩
          · rw [h4] at e; cases e
          · rw [h4] at e
            injection e with e
            simp only at e
            have h7 : w7.heap[w2.heap.size + 1 + 1]? = _ := h3
            rw [e, h6] at h7
            cases h7
        exact ⟨(keep_grown10 (by omega) (by omega) ho1 ho2 hg7).trans ((KeepW.of (b1 _ _)).trans ((row_keep (h2.alloc _) hg1 (Nat.le_refl _) (by decide) (by decide)).trans (keep_set10 (by omega) hB.1 (by decide) (.inr (by decide)) 0 _))), _, hB.2.1, by rw [HXL.out, HMP.out]; exact hB.2.2.1, ⟨hB.2.2.2.2.os.trans hb7.os, hB.2.2.2.2.tape.trans hb7.tape, hB.2.2.2.2.output.trans hb7.output, Nat.le_trans hb7.size hB.2.2.2.2.size, fun k hk => (hB.2.2.2.2.block k hk).trans (hb7.block k hk)⟩, by rw [HXL.out, HMT.out]; exact hm1.setCell (by simp) _, bx_other hx1 (by simp; omega) _⟩
    case done =>
      rintro D Wx hD ⟨v, g1, g2, g3, -, -⟩ hKd
      obtain ⟨A5, c5, rfl⟩ := own_form g2
      have m1 := g1.blk.cell 0 _ rfl
      have HD := Lib.hid hKd
      obtain ⟨fs, hfs⟩ : ∃ fs, fs = firsts [] L := ⟨_, rfl⟩
      rw [← hfs] at g2 m1
      have HFS := Lib.hid hfs
      have G2 := Lib.hid g2
      have G3 := Lib.hid g3
      clear hseq g1 g2 g3 hKd hfs
      gi_wp2
      rw [← HFS.out]
      refine leaves_marks (t := 3) (B := W3.heap.size) (fun W' => Below w.heap.size w W' ∧ W'.ownsRow w.heap.size 9 1 (.slice A5 fs.length c5) fs.length (fs.map fun s => .string (strOf s))) (fun W1 W2 h ht => ⟨ht.below h.1 (by omega) (Nat.le_refl _), row_turn h.2 ht (by decide)⟩) (fun W' h => ⟨.tuple #[.slice A5 fs.length c5, .int .i64 0], by simp [results, Tryz.f39, go_sem], ⟨_, rfl, h.2, h.1⟩⟩) [D] Wx (by simp) (fun E hE => by rw [List.mem_singleton] at hE; subst hE; exact ⟨by omega, HD.out⟩) ⟨G3.out, G2.out⟩
    case stop =>
      rintro D pre Wx hD hp g1 hKd
      exact g1.elim
  · have hEb : (E == 0) = false := by simpa using hE
    rw [if_neg hE]
    clear hun2
    go_enter Tryz.func39, Tryz.ntmps39
    go_wp2_with (go_at_call 32; refine (HC.out _ (b1 _ _)).mono ?_; rintro e w2 ⟨rfl, hb2⟩)
    go_ret2
    exact ⟨_, rfl, World.ownsRow_nil _ _ _ _, bstep (b1 _ _) hb2⟩
end Go.Proofs.YtdoioaeppepndaaGreatDoor
