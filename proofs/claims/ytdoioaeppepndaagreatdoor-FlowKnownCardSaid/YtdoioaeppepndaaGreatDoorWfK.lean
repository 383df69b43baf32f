/- Walk: the numbers of the names. Made by program (wip/tools/gen_wfK.py). -/
import Derived.Test.YtdoioaeppepndaaGreatDoorWfJ
namespace Go.Proofs.YtdoioaeppepndaaGreatDoor
open Go.RowKit Go.Shelf Go.Maps
open A8 W10
attribute [local go_sem] Oper.semAt_some

def mapI (l : List (Tr × Nat)) : DataW Unit := l.foldl (fun D x => D.put (.string (nmT x.1)) (.lit (.int .i64 (x.2 : Int)))) (.map [])
theorem mapI_snoc (l : List (Tr × Nat)) (x : Tr × Nat) : mapI (l ++ [x]) = (mapI l).put (.string (nmT x.1)) (.lit (.int .i64 (x.2 : Int))) := by
  unfold mapI
  rw [List.foldl_append]
  rfl
theorem mapI_isMap (l : List (Tr × Nat)) : IsMap (mapI l) := by
  refine snoc_ind (P := fun l => IsMap (mapI l)) ⟨[], rfl⟩ (fun l s h => ?_) l
  rw [mapI_snoc]
  exact h.put _ _
theorem mapI_has (l : List (Tr × Nat)) (s : List UInt8) : has (mapI l) (.string s) = (nmsL l).contains s := by
  refine snoc_ind (P := fun l => has (mapI l) (.string s) = (nmsL l).contains s) rfl (fun l x h => ?_) l
  rw [mapI_snoc, nmsL_snoc]
  by_cases hx : s = nmT x.1
  · subst hx
    rw [has_put_same (mapI_isMap l) (wkeyLit _)]
    simp
  · rw [has_put_other (by intro e; cases e; exact hx rfl), h, Bool.eq_iff_iff]
    simp [hx]
/-- The number with which a name stands last. -/
def lastN (s : List UInt8) (l : List (Tr × Nat)) : Nat := l.foldl (fun n x => if nmT x.1 = s then x.2 else n) 0
theorem lastN_snoc (s : List UInt8) (l : List (Tr × Nat)) (x : Tr × Nat) : lastN s (l ++ [x]) = if nmT x.1 = s then x.2 else lastN s l := by
  unfold lastN
  rw [List.foldl_append]
  rfl
theorem mapI_at (l : List (Tr × Nat)) (s : List UInt8) : (mapI l).atKey (.string s) (.lit (.int .i64 0)) = .lit (.int .i64 (lastN s l : Int)) := by
  refine snoc_ind (P := fun l => (mapI l).atKey (.string s) (.lit (.int .i64 0)) = .lit (.int .i64 (lastN s l : Int))) rfl (fun l x h => ?_) l
  rw [mapI_snoc, lastN_snoc]
  by_cases hx : nmT x.1 = s
  · rw [if_pos hx, hx, atKey_put_same (mapI_isMap l) (wkeyLit _)]
  · rw [if_neg hx, atKey_put_other (by intro e; cases e; exact hx rfl), h]
theorem lf_num {L : List Tr} {x : Tr × Nat} (h : x ∈ lfL L) : x.2 < L.length := by
  unfold lfL at h
  have h2 := (List.mem_zipIdx h).2.1
  have h3 := List.length_filter_le lfB L
  omega
/-- A map that the call made. -/
def NumP (w : World) (l : List (Tr × Nat)) (e : Ending) (w' : World) : Prop :=
  ∃ b, e = .returned (.map (some b)) ∧ w.heap.size ≤ b ∧ w'.ownsMap Tryz.prog 9 (plainElem Tryz.prog 3) b l.length (mapI l) ∧ Below w.heap.size w w'
set_option maxRecDepth 100000 in
set_option maxHeartbeats 8000000 in
theorem numbers_any (T : Tr) (w : World) (hT : TrW w T) (hlen : (subsT T).length ≤ 999999) :
    Calls Tryz.prog 87 #[.agg T.row.toArray] w (NumP w (nmL (lfL (subsT T)))) := by
  have hnd := fun w => wnames_any T w
  have hseq := fun (b' : Nat) (w' : World) => wnames_seq w T hT (by omega) b' w'
  have hmem : ∀ x ∈ nmL (lfL (subsT T)), (nmT x.1).length ≤ maxLen ∧ x.2 < 1000000 := fun x hx => by
    have hm := (List.mem_filter.1 hx).1
    have ho := (hT _ (lf_mem hm))
    refine ⟨?_, by have := lf_num hm; omega⟩
    obtain ⟨x, c⟩ := x
    cases x with
    | mk k mn mx g sk ks => exact ho.2.1.1.nm
  have hLl : (nmL (lfL (subsT T))).length ≤ 1000000 := by
    have h1 : (lfL (subsT T)).length = ((subsT T).filter lfB).length := by rw [← lfL_fst, List.length_map]
    have h2 := List.length_filter_le lfB (subsT T)
    have h3 := List.length_filter_le (fun x : Tr × Nat => nmdB x.1) (lfL (subsT T))
    unfold nmL
    omega
  obtain ⟨L, hL⟩ : ∃ L, L = nmL (lfL (subsT T)) := ⟨_, rfl⟩
  rw [← hL] at hmem hseq hLl ⊢
  clear hL
  have hone := hT.one
  obtain ⟨k, mn, mx, ⟨⟨kd, bd, bn, cs, nm⟩, sc⟩, sk, ks⟩ := T
  obtain ⟨-, ⟨-, hsc⟩, hsl⟩ := hone
  simp only at hsc
  obtain ⟨A1, cap1, rfl, -, -⟩ := sl_get (by decide) hsc
  obtain ⟨A, cap, rfl, -, -⟩ := sl_get (by decide) hsl
  clear hsc hsl
  clear hT hlen
  simp only [Tr.row] at hnd hseq ⊢
  have HM := Lib.hid hmem
  have HQ := Lib.hid hseq
  clear hmem hseq
  refine (callsIn_wide (n := 5)).1 ?_
  refine callsIn_of_wp_marks Tryz.func87 rfl trivial ?_ rfl
  simp only [Tryz.ntmps87, List.size_toArray, List.length_cons, List.length_nil, Nat.reduceAdd, Nat.reduceSub, Array.replicate_succ, Array.replicate_zero, List.push_toArray, List.append_toArray, List.nil_append, List.cons_append]
  have hz := fun (_ : Nat) => show ((((w.alloc (.cells #[.int .i64 k, .int .i64 mn, .int .i64 mx, .int .i64 kd, .bool bd, .int .u64 bn, .slice A1 cs.length cap1, .string (strOf nm), .slice A ks.length cap] 31)).alloc (.map #[] 0)).alloc (.cells #[.map (some (w.heap.size + 1))] 134)).alloc (.cells #[.int .i64 k, .int .i64 mn, .int .i64 mx, .int .i64 kd, .bool bd, .int .u64 bn, .slice A1 cs.length cap1, .string (strOf nm), .slice A ks.length cap] 31)).heap.size = w.heap.size + 4 ∧ Below w.heap.size w ((((w.alloc (.cells #[.int .i64 k, .int .i64 mn, .int .i64 mx, .int .i64 kd, .bool bd, .int .u64 bn, .slice A1 cs.length cap1, .string (strOf nm), .slice A ks.length cap] 31)).alloc (.map #[] 0)).alloc (.cells #[.map (some (w.heap.size + 1))] 134)).alloc (.cells #[.int .i64 k, .int .i64 mn, .int .i64 mx, .int .i64 kd, .bool bd, .int .u64 bn, .slice A1 cs.length cap1, .string (strOf nm), .slice A ks.length cap] 31)) ∧ ((((w.alloc (.cells #[.int .i64 k, .int .i64 mn, .int .i64 mx, .int .i64 kd, .bool bd, .int .u64 bn, .slice A1 cs.length cap1, .string (strOf nm), .slice A ks.length cap] 31)).alloc (.map #[] 0)).alloc (.cells #[.map (some (w.heap.size + 1))] 134)).alloc (.cells #[.int .i64 k, .int .i64 mn, .int .i64 mx, .int .i64 kd, .bool bd, .int .u64 bn, .slice A1 cs.length cap1, .string (strOf nm), .slice A ks.length cap] 31)).ownsMap Tryz.prog 9 (plainElem Tryz.prog 3) (w.heap.size + 1) 0 (mapI []) ∧ Bx ((((w.alloc (.cells #[.int .i64 k, .int .i64 mn, .int .i64 mx, .int .i64 kd, .bool bd, .int .u64 bn, .slice A1 cs.length cap1, .string (strOf nm), .slice A ks.length cap] 31)).alloc (.map #[] 0)).alloc (.cells #[.map (some (w.heap.size + 1))] 134)).alloc (.cells #[.int .i64 k, .int .i64 mn, .int .i64 mx, .int .i64 kd, .bool bd, .int .u64 bn, .slice A1 cs.length cap1, .string (strOf nm), .slice A ks.length cap] 31)) (w.heap.size + 1 + 1) 134 [.map (some (w.heap.size + 1))] ∧ Bx ((((w.alloc (.cells #[.int .i64 k, .int .i64 mn, .int .i64 mx, .int .i64 kd, .bool bd, .int .u64 bn, .slice A1 cs.length cap1, .string (strOf nm), .slice A ks.length cap] 31)).alloc (.map #[] 0)).alloc (.cells #[.map (some (w.heap.size + 1))] 134)).alloc (.cells #[.int .i64 k, .int .i64 mn, .int .i64 mx, .int .i64 kd, .bool bd, .int .u64 bn, .slice A1 cs.length cap1, .string (strOf nm), .slice A ks.length cap] 31)) (w.heap.size + 1 + 1 + 1) 31 [.int .i64 k, .int .i64 mn, .int .i64 mx, .int .i64 kd, .bool bd, .int .u64 bn, .slice A1 cs.length cap1, .string (strOf nm), .slice A ks.length cap] from by
    have h3 := World.ownsMap_made (H := Unit) (w.alloc (.cells #[.int .i64 k, .int .i64 mn, .int .i64 mx, .int .i64 kd, .bool bd, .int .u64 bn, .slice A1 cs.length cap1, .string (strOf nm), .slice A ks.length cap] 31)) Tryz.prog 9 (plainElem Tryz.prog 3)
    have h4 := Bx.new ((w.alloc (.cells #[.int .i64 k, .int .i64 mn, .int .i64 mx, .int .i64 kd, .bool bd, .int .u64 bn, .slice A1 cs.length cap1, .string (strOf nm), .slice A ks.length cap] 31)).alloc (.map #[] 0)) [.map (some (w.heap.size + 1))] 134
    have h5 := Bx.new (((w.alloc (.cells #[.int .i64 k, .int .i64 mn, .int .i64 mx, .int .i64 kd, .bool bd, .int .u64 bn, .slice A1 cs.length cap1, .string (strOf nm), .slice A ks.length cap] 31)).alloc (.map #[] 0)).alloc (.cells #[.map (some (w.heap.size + 1))] 134)) [.int .i64 k, .int .i64 mn, .int .i64 mx, .int .i64 kd, .bool bd, .int .u64 bn, .slice A1 cs.length cap1, .string (strOf nm), .slice A ks.length cap] 31
    simp only [World.size_alloc] at h3 h4 h5
    exact ⟨by simp, bstep (b3 _ _ _ _) (b1 _ _), (h3.alloc _).alloc _, h4.later (b1 _ _), h5⟩
  have HZ := Lib.hid hz
  have hmm := @run_makeMap Tryz.prog
  clear hz
  gi_wp2_with (refine ⟨trivial, ?_⟩; refine (callsIn_wide.2 (hnd _)).mono ?_; rintro e w' ⟨rfl, rfl⟩)
  clear hnd hmm
  have hW3 := HZ.out 0
  obtain ⟨W3, hW3e⟩ : ∃ W3, W3 = (((w.alloc (.cells #[.int .i64 k, .int .i64 mn, .int .i64 mx, .int .i64 kd, .bool bd, .int .u64 bn, .slice A1 cs.length cap1, .string (strOf nm), .slice A ks.length cap] 31)).alloc (.map #[] 0)).alloc (.cells #[.map (some (w.heap.size + 1))] 134)).alloc (.cells #[.int .i64 k, .int .i64 mn, .int .i64 mx, .int .i64 kd, .bool bd, .int .u64 bn, .slice A1 cs.length cap1, .string (strOf nm), .slice A ks.length cap] 31) := ⟨_, rfl⟩
  rw [← hW3e] at hW3
  rw [← hW3e]
  obtain ⟨hsz3, hR3, hM3, hB3, hN3⟩ := hW3
  have hseq := HQ.out (w.heap.size + 1 + 1 + 1) W3 (SameB.of hR3) hN3
  clear hW3e HQ hN3 HZ
  refine wpIn_range_own (gf := 117) (lb := #[.pointer (some ⟨w.heap.size + 1 + 1 + 1, 0, none⟩)]) rfl (enters_of Tryz.func117 (by kernel_rfl) rfl)
    hseq (by omega) (Below.refl _ _) (fun _ => rfl)
    (fun pre Wx => Below w.heap.size w Wx ∧ Wx.ownsMap Tryz.prog 9 (plainElem Tryz.prog 3) (w.heap.size + 1) pre.length (mapI pre) ∧ Bx Wx (w.heap.size + 1 + 1) 134 [.map (some (w.heap.size + 1))])
    (fun pre Wx => False)
    ?hI ?hIx ?h0 (fun x act Wx => act = { tmps := #[.agg #[.int .i64 k, .int .i64 mn, .int .i64 mx, .int .i64 kd, .bool bd, .int .u64 bn, .slice A1 cs.length cap1, .string (strOf nm), .slice A ks.length cap], .pointer (some ⟨w.heap.size, 0, none⟩), .map none, .pointer (some ⟨w.heap.size + 1 + 1, 0, none⟩), .int .i64 (x.2 : Int), .string (strOf (nmT x.1)), .map (some (w.heap.size + 1)), .agg #[.int .i64 k, .int .i64 mn, .int .i64 mx, .int .i64 kd, .bool bd, .int .u64 bn, .slice A1 cs.length cap1, .string (strOf nm), .slice A ks.length cap], .func (.func 117) #[] #[.pointer (some ⟨w.heap.size + 1 + 1 + 1, 0, none⟩)], .int .i64 (x.2 : Int), .string (strOf (nmT x.1)), undef, undef, undef, undef], defers := [] }) ?hA ?assign ?body ?done ?stop
  case hI =>
    rintro s Wx Wy ⟨g1, g2, g3⟩ ht
    exact ⟨ht.below g1 (by omega) (Nat.le_refl _), owns_turn g2 ht (by omega), bx_turn g3 ht (.inl (by omega))⟩
  case hIx =>
    rintro s Wx Wy g1 ht
    exact g1.elim
  case h0 => exact ⟨hR3, hM3, hB3⟩
  case hA =>
    rintro x act s Wx Wy row h3 hg hr
    exact h3
  case assign =>
    intro l2 pre x Wx K hp hsz hi hK
    clear hi hseq
    gi_wp2
    exact hK _ _ rfl (Below.refl _ _)
  case body =>
    rintro l2 pre x act Wx hp hsz ⟨g1, g2, g3⟩ rfl
    have hpl : pre.length < maxLen := by
      have h2 := hp.length_le
      rw [List.length_append, List.length_singleton] at h2
      unfold maxLen
      omega
    obtain ⟨hnm, hnn⟩ := HM.out x (hp.subset (by simp))
    have hmp := mapI_snoc pre x
    have hxl : (pre ++ [x]).length = pre.length + 1 := by simp
    obtain ⟨xs, hxs⟩ : ∃ xs, xs = pre ++ [x] := ⟨_, rfl⟩
    rw [← hxs] at hmp hxl ⊢
    obtain ⟨pl, hple⟩ : ∃ pl, pl = pre.length := ⟨_, rfl⟩
    rw [← hple] at hpl hxl g2
    obtain ⟨D, hD⟩ : ∃ D, D = mapI pre := ⟨_, rfl⟩
    rw [← hD] at hmp g2
    have hkey := wkey (nmT x.1) hnm
    obtain ⟨nn, hnn2⟩ : ∃ nn, nn = nmT x.1 := ⟨_, rfl⟩
    obtain ⟨c, hc⟩ : ∃ c, c = x.2 := ⟨_, rfl⟩
    rw [← hnn2] at hmp hkey ⊢
    rw [← hc] at hmp hnn ⊢
    have hwf : (Lit.int .i64 (c : Int)).wf = true := by
      simp [Lit.wf, IntKind.min, IntKind.max, IntKind.signed, IntKind.bits]
      omega
    have m1 := g3.blk.cell 0 _ rfl
    have HMP := Lib.hid hmp
    have HKEY := Lib.hid hkey
    have HXL := Lib.hid hxl
    have HPL := Lib.hid hpl
    have HWF := Lib.hid hwf
    have G1 := Lib.hid g1
    have G2 := Lib.hid g2
    have G3 := Lib.hid g3
    clear hmp hkey hxl hpl g1 g2 g3 hwf hnm hnn hnn2 hc hple hD hxs hp hseq
    gi_wp2_with (gi_at_mapUpdate; refine wpListIn_mapUpdate_own _ rfl _ _ _ 134 rfl 9 3 wkeys Tryz.underlying134 _ _ _ _ rfl G2.out HPL.out _ _ (.string nn) rfl rfl HKEY.out (.lit (.int .i64 (c : Int))) [] (plainElem_int Tryz.underlying3 HWF.out) ?_; intro w7 hown7 hg7)
    have hob := owns_obj G2.out
    obtain ⟨o, ho1, ho2⟩ := hob
    exact ⟨keep_grown10 (by omega) (by omega) ho1 ho2 hg7, G1.out.grown hg7 G1.out.size (fun j e => by cases e; omega), by rw [HXL.out, HMP.out]; exact hown7, bx_grown G3.out hg7 (by omega)⟩
  case done =>
    rintro D Wx hD ⟨g1, g2, g3⟩ hKd
    clear hseq
    have m1 := g3.blk.cell 0 _ rfl
    have G1 := Lib.hid g1
    have G2 := Lib.hid g2
    have HK := Lib.hid hKd
    clear g1 g2 g3 hKd
    gi_wp2
    refine leaves_marks (t := 3) (B := W3.heap.size) (fun W' => Below w.heap.size w W' ∧ W'.ownsMap Tryz.prog 9 (plainElem Tryz.prog 3) (w.heap.size + 1) L.length (mapI L)) (fun W1 W2 h ht => ⟨ht.below h.1 (by omega) (Nat.le_refl _), owns_turn h.2 ht (by omega)⟩) (fun W' h => ⟨.map (some (w.heap.size + 1)), by simp [results, Tryz.f87, go_sem], ⟨_, rfl, by omega, h.2, h.1⟩⟩) [D] Wx (by simp) (fun E hE => by rw [List.mem_singleton] at hE; subst hE; exact ⟨by omega, HK.out⟩) ⟨G1.out, G2.out⟩
  case stop =>
    rintro D pre Wx hD hp g1 hKd
    exact g1.elim
end Go.Proofs.YtdoioaeppepndaaGreatDoor
