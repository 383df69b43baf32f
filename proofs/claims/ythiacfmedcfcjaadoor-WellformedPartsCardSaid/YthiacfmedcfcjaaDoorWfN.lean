/- Walk: the error of a pattern. Made by program (wip/tools/gen_wfN.py). -/
import Derived.Test.YthiacfmedcfcjaaDoorWfM
namespace Go.Proofs.YthiacfmedcfcjaaDoor
open Go.RowKit Go.Shelf Go.Maps
open A8 W10
attribute [local go_sem] Oper.semAt_some

theorem wpattern_any (T : Tr) (w : World) (hT : TrW w T) (hlen : (subsT T).length ≤ 999999) (hG : SG w) :
    Calls Tryd.prog 21 #[.agg T.row.toArray] w fun e w' => e = .returned (.int .i64 (wfE (plainQ T.nd))) ∧ Below w.heap.size w w' := by
  have hc := fun w1 (hb : Below w.heap.size w w1) => wcheck_any ⟨T, 0, .slice none 0 0, [], .slice none 0 0, []⟩ w1 ⟨hT.later hb, (by show (0 : Int) ≤ 0 ∧ (0 : Int) < 18446744073709551616; decide), Sl.nil _ _, Sl.nil _ _, (fun h hm => by cases hm), (fun h hm => by cases hm)⟩ hlen (hG.later hb) (fun s hs => by simp [GQ.qu, useL] at hs)
  have hq : GQ.qu ⟨T, 0, .slice none 0 0, [], .slice none 0 0, []⟩ = plainQ T.nd := rfl
  rw [hq] at hc
  obtain ⟨E, hE⟩ : ∃ E, E = wfE (plainQ T.nd) := ⟨_, rfl⟩
  rw [← hE] at hc ⊢
  clear hE hq
  have hone := hT.one
  obtain ⟨k, mn, mx, ⟨⟨kd, bd, bn, cs, nm⟩, sc⟩, sk, ks⟩ := T
  obtain ⟨-, ⟨-, hsc⟩, hsl⟩ := hone
  simp only at hsc
  obtain ⟨A1, cap1, rfl, -, -⟩ := sl_get (by decide) hsc
  obtain ⟨A, cap, rfl, -, -⟩ := sl_get (by decide) hsl
  clear hsc hsl
  clear hT
  simp only [GQ.row, Tr.row, List.cons_append, List.nil_append] at hc ⊢
  go_enter Tryd.func21, Tryd.ntmps21
  go_wp2_with (go_at_call 12; refine (hc _ (b1 _ _)).mono ?_; rintro e w2 ⟨rfl, hb2⟩)
  go_ret
  exact ⟨rfl, bstep (b1 _ _) hb2⟩
theorem infoStr10 : (Tryd.prog.info? 9).map (fun i => (i.zero, i.size, i.bytes)) = some (some (.string ⟨#[]⟩), 1, 16) := by kernel_rfl
theorem row_turn {W W' : World} {base n B : Nat} {t e : TypeId} {sz : Nat} {v : Value} {xs : List Value} (h : W.ownsRow base e sz v n xs) (ht : Turn t B W W') (he : e ≠ t) : W'.ownsRow base e sz v n xs := by
  refine ⟨h.1, ?_⟩
  rcases h.2 with h2 | ⟨g, cap, cur, h1, h2, h3, h4⟩
  · exact .inl h2
  · exact .inr ⟨g, cap, cur, h1, h2, ht.same _ _ h3 (.inr ⟨_, _, _, rfl, he⟩), h4⟩
theorem row_keep {W W' : World} {base n m B : Nat} {t e : TypeId} {sz : Nat} {v : Value} {xs : List Value} (h : W.ownsRow base e sz v n xs) (hg : W.grownBy W' v.ownBlock) (hm : m ≤ base) (he : e ∉ KT) (het : e ≠ t) : KeepW KT t m B W W' := by
  refine ⟨hg.size, fun k u hk hx => (hg.block k (Array.getElem?_eq_some_iff.1 hk).1 fun e' => ?_).trans hk⟩
  rcases h.2 with ⟨rfl, -⟩ | ⟨g, cap, cur, rfl, h2, h3, -⟩
  · cases e'
  · have hkg : k = g := by injection e'
    subst hkg
    rw [h3] at hk
    cases hk
    rcases hx with hx | ⟨cs, u, fr, hc, hu⟩ | ⟨hx, hc | ⟨cs, fr, hc⟩⟩
    · omega
    · cases hc; exact he hu
    · cases hc
    · cases hc; exact het rfl
/-- What Names and Uses give. -/
def TxtP (w : World) (l : List (List UInt8)) (er : Int) (e : Ending) (w' : World) : Prop :=
  ∃ v, e = .returned (.tuple #[v, .int .i64 er]) ∧ w'.ownsRow w.heap.size 9 1 v l.length (l.map fun s => .string (strOf s)) ∧ Below w.heap.size w w'
set_option maxRecDepth 100000 in
set_option maxHeartbeats 8000000 in
theorem wNames_any (q : GQ) (w : World) (hq : QW w q) (hlen : (subsT q.t).length ≤ 999999) (hG : SG w) (hnu : ∀ s ∈ useL q.qu, s.length ≤ maxLen) :
    Calls Tryd.prog 14 #[.agg q.row.toArray] w (TxtP w (namesL q.qu) (wfE q.qu)) := by
  have hc := fun w1 (hb : Below w.heap.size w w1) => wcheck_any q w1 (hq.later hb) hlen (hG.later hb) hnu
  have hns : namesL q.qu = if wfE q.qu = 0 then nmsL (nmL (lfL (subsT q.t))) else [] := by unfold namesL; rw [namesL_nd]; rfl
  rw [hns]
  obtain ⟨E, hE⟩ : ∃ E, E = wfE q.qu := ⟨_, rfl⟩
  rw [← hE] at hc ⊢
  clear hE hns hG hnu
  obtain ⟨T, wi, sh, hv, se, em⟩ := q
  obtain ⟨hT, hwi, hh, he, -, -⟩ := hq
  simp only at hT hh he hlen hwi
  obtain ⟨Ah, ch, rfl, hlh, -⟩ := sl_get (by decide) hh
  obtain ⟨Ae, ce, rfl, hle, -⟩ := sl_get (by decide) he
  clear hh he
  have hnd := fun w => wnames_any T w
  have hseq := fun (b' : Nat) (w' : World) => wnames_seq w T hT (by omega) b' w'
  have hLl : (nmL (lfL (subsT T))).length ≤ 1000000 := by
    have h1 : (lfL (subsT T)).length = ((subsT T).filter lfB).length := by rw [← lfL_fst, List.length_map]
    have h2 := List.length_filter_le lfB (subsT T)
    have h3 := List.length_filter_le (fun x : Tr × Nat => nmdB x.1) (lfL (subsT T))
    unfold nmL
    omega
  simp only at hc ⊢
  obtain ⟨L, hL⟩ : ∃ L, L = nmL (lfL (subsT T)) := ⟨_, rfl⟩
  rw [← hL] at hseq hLl ⊢
  clear hL
  have hone := hT.one
  obtain ⟨k, mn, mx, ⟨⟨kd, bd, bn, cs, nm⟩, sc⟩, sk, ks⟩ := T
  obtain ⟨-, ⟨-, hsc⟩, hsl⟩ := hone
  simp only at hsc
  obtain ⟨A1, cap1, rfl, -, -⟩ := sl_get (by decide) hsc
  obtain ⟨A, cap, rfl, -, -⟩ := sl_get (by decide) hsl
  clear hsc hsl
  clear hT hlen
  simp only [GQ.row, Tr.row, List.cons_append, List.nil_append] at hnd hseq hc ⊢
  have HC := Lib.hid hc
  have HQ := Lib.hid hseq
  clear hc hseq
  by_cases hE : E = 0
  · subst hE
    rw [if_pos rfl]
    have hbx : ∀ w1, Below (w.alloc (.cells #[.int .i64 k, .int .i64 mn, .int .i64 mx, .int .i64 kd, .bool bd, .int .u64 bn, .slice A1 cs.length cap1, .string (strOf nm), .slice A ks.length cap, .int .u64 wi, .slice Ah hv.length ch, .slice Ae em.length ce] 39)).heap.size (w.alloc (.cells #[.int .i64 k, .int .i64 mn, .int .i64 mx, .int .i64 kd, .bool bd, .int .u64 bn, .slice A1 cs.length cap1, .string (strOf nm), .slice A ks.length cap, .int .u64 wi, .slice Ah hv.length ch, .slice Ae em.length ce] 39)) w1 → Blk w1 w.heap.size [.int .i64 k, .int .i64 mn, .int .i64 mx, .int .i64 kd, .bool bd, .int .u64 bn, .slice A1 cs.length cap1, .string (strOf nm), .slice A ks.length cap, .int .u64 wi, .slice Ah hv.length ch, .slice Ae em.length ce] := fun w1 hb => ((Bx.new w [.int .i64 k, .int .i64 mn, .int .i64 mx, .int .i64 kd, .bool bd, .int .u64 bn, .slice A1 cs.length cap1, .string (strOf nm), .slice A ks.length cap, .int .u64 wi, .slice Ah hv.length ch, .slice Ae em.length ce] 39).later hb).blk
    have HX := Lib.hid hbx
    clear hbx
    refine (callsIn_wide (n := 5)).1 ?_
    refine callsIn_of_wp_marks Tryd.func14 rfl trivial ?_ rfl
    simp only [Tryd.ntmps14, List.size_toArray, List.length_cons, List.length_nil, Nat.reduceAdd, Nat.reduceSub, Array.replicate_succ, Array.replicate_zero, List.push_toArray, List.append_toArray, List.nil_append, List.cons_append]
    gi_wp2_with (first | (refine ⟨trivial, ?_⟩; gi_at_call 12; refine (callsIn_wide.2 (HC.out _ (b1 _ _))).mono ?_; rintro e w2 ⟨rfl, hb2⟩; have z0 := (HX.out w2 hb2).cell 0 _ rfl; have z1 := (HX.out w2 hb2).cell 1 _ rfl; have z2 := (HX.out w2 hb2).cell 2 _ rfl; have z3 := (HX.out w2 hb2).cell 3 _ rfl; have z4 := (HX.out w2 hb2).cell 4 _ rfl; have z5 := (HX.out w2 hb2).cell 5 _ rfl; have z6 := (HX.out w2 hb2).cell 6 _ rfl; have z7 := (HX.out w2 hb2).cell 7 _ rfl; have z8 := (HX.out w2 hb2).cell 8 _ rfl; have zlt := (HX.out w2 hb2).lt) | (refine ⟨trivial, ?_⟩; gi_at_call 27; refine (callsIn_wide.2 (hnd _)).mono ?_; rintro e w' ⟨rfl, rfl⟩))
    clear hnd z0 z1 z2 z3 z4 z5 z6 z7 z8
    obtain ⟨W3, hW3⟩ : ∃ W3, W3 = (w2.alloc (.cells #[.slice none 0 0] 42)).alloc (.cells #[.int .i64 k, .int .i64 mn, .int .i64 mx, .int .i64 kd, .bool bd, .int .u64 bn, .slice A1 cs.length cap1, .string (strOf nm), .slice A ks.length cap] 30) := ⟨_, rfl⟩
    rw [← hW3]
    have hb3 : Below w.heap.size w W3 := hW3 ▸ bstep (bstep (b1 _ _) hb2) (b2 _ _ _)
    have hsz3 : W3.heap.size = w2.heap.size + 2 := by rw [hW3]; simp
    have hl3 : Bx W3 w2.heap.size 42 [.slice none 0 0] := hW3 ▸ (Bx.new w2 [.slice none 0 0] 42).later (b1 _ _)
    have hn3 : Bx W3 (w2.heap.size + 1) 30 [.int .i64 k, .int .i64 mn, .int .i64 mx, .int .i64 kd, .bool bd, .int .u64 bn, .slice A1 cs.length cap1, .string (strOf nm), .slice A ks.length cap] := by
      have h := Bx.new (w2.alloc (.cells #[.slice none 0 0] 42)) [.int .i64 k, .int .i64 mn, .int .i64 mx, .int .i64 kd, .bool bd, .int .u64 bn, .slice A1 cs.length cap1, .string (strOf nm), .slice A ks.length cap] 30
      rw [World.size_alloc] at h
      rw [hW3]
      exact h
    have hwl : w.heap.size < w2.heap.size := zlt
    have hseq := HQ.out (w2.heap.size + 1) W3 (SameB.of hb3) hn3
    clear hW3 hn3 HQ HX HC
    refine wpIn_range_own (gf := 42) (lb := #[.pointer (some ⟨w2.heap.size + 1, 0, none⟩)]) rfl (enters_of Tryd.func42 (by kernel_rfl) rfl)
      hseq (by omega) (Below.refl _ _) (fun _ => rfl)
      (fun pre Wx => ∃ v, Bx Wx w2.heap.size 42 [v] ∧ Wx.ownsRow w.heap.size 9 1 v pre.length ((nmsL pre).map fun s => .string (strOf s)) ∧ Below w.heap.size w Wx)
      (fun pre Wx => False)
      ?hI ?hIx ?h0 (fun x act Wx => act = { tmps := #[.agg #[.int .i64 k, .int .i64 mn, .int .i64 mx, .int .i64 kd, .bool bd, .int .u64 bn, .slice A1 cs.length cap1, .string (strOf nm), .slice A ks.length cap, .int .u64 wi, .slice Ah hv.length ch, .slice Ae em.length ce], .pointer (some ⟨w.heap.size, 0, none⟩), .slice none 0 0, .int .i64 0, .int .i64 0, .pointer (some ⟨w2.heap.size, 0, none⟩), undef, .string (strOf (nmT x.1)), .agg #[.int .i64 k, .int .i64 mn, .int .i64 mx, .int .i64 kd, .bool bd, .int .u64 bn, .slice A1 cs.length cap1, .string (strOf nm), .slice A ks.length cap, .int .u64 wi, .slice Ah hv.length ch, .slice Ae em.length ce], .int .i64 0, .int .i64 0, .bool false, undef, .pointer (some ⟨w.heap.size, 0, none⟩), .agg #[.int .i64 k, .int .i64 mn, .int .i64 mx, .int .i64 kd, .bool bd, .int .u64 bn, .slice A1 cs.length cap1, .string (strOf nm), .slice A ks.length cap], .func (.func 42) #[] #[.pointer (some ⟨w2.heap.size + 1, 0, none⟩)], .int .i64 (x.2 : Int), .string (strOf (nmT x.1)), undef, undef, undef, undef, undef], defers := [] }) ?hA ?assign ?body ?done ?stop
    case hI =>
      rintro s Wx Wy ⟨v, g1, g2, g3⟩ ht
      exact ⟨v, bx_turn g1 ht (.inl (by omega)), row_turn g2 ht (by decide), ht.below g3 (by omega) (Nat.le_refl _)⟩
    case hIx =>
      rintro s Wx Wy g1 ht
      exact g1.elim
    case h0 => exact ⟨_, hl3, World.ownsRow_nil _ _ _ _, hb3⟩
    case hA =>
      rintro x act s Wx Wy row h3 hg hr
      exact h3
    case assign =>
      intro l2 pre x Wx K hp hsz hi hK
      clear hi hseq
      gi_wp2
      exact hK _ _ rfl (Below.refl _ _)
    case body =>
      rintro l2 pre x act Wx hp hsz ⟨v, g1, g2, g3⟩ rfl
      have hpl : pre.length + 1 ≤ 1000000 := by
        have h2 := hp.length_le
        rw [List.length_append, List.length_singleton] at h2
        omega
      have hxl : (pre ++ [x]).length = pre.length + 1 := by simp
      have hmp : (nmsL (pre ++ [x])).map (fun s => Value.string (strOf s)) = ((nmsL pre).map fun s => .string (strOf s)) ++ [.string (strOf (nmT x.1))] := by rw [nmsL_snoc, List.map_append]; rfl
      obtain ⟨xs, hxs⟩ : ∃ xs, xs = pre ++ [x] := ⟨_, rfl⟩
      rw [← hxs] at hmp hxl ⊢
      obtain ⟨pl, hple⟩ : ∃ pl, pl = pre.length := ⟨_, rfl⟩
      rw [← hple] at hpl hxl g2
      obtain ⟨us, hus⟩ : ∃ us, us = (nmsL pre).map fun s => Value.string (strOf s) := ⟨_, rfl⟩
      rw [← hus] at hmp g2
      obtain ⟨A5, c5, rfl⟩ := own_form g2
      obtain ⟨i0, hi0, hz0, hz1, hz2⟩ := info_parts infoStr10
      have m1 := g1.blk.cell 0 _ rfl
      have m2 := g1.blk.fr 0 _ rfl
      have hml := g1.lt
      obtain ⟨nn, hnn⟩ : ∃ nn, nn = strOf (nmT x.1) := ⟨_, rfl⟩
      rw [← hnn] at hmp ⊢
      have hown := g2.alloc (.cells #[.string nn] 9)
      have hgrow : ∀ v' w1, w1.ownsRow w.heap.size 9 1 v' (pl + 1) (us ++ [.string nn]) → (Wx.alloc (.cells #[.string nn] 9)).grownBy w1 (Value.slice A5 pl c5).ownBlock → w1.cell? ⟨w2.heap.size, 0, none⟩ = some (.slice A5 pl c5) ∧ w1.frozen? ⟨w2.heap.size, 0, none⟩ = false := fun v' w1 h1 h2 => by
        have h := (Boxed.appended (B := w2.heap.size) (t := 42) g1 (by decide) g2 (by have := g3.size; omega) (by omega) h1 h2).1
        have hb : Bx w1 w2.heap.size 42 [.slice A5 pl c5] := h
        exact ⟨hb.blk.cell 0 _ rfl, hb.blk.fr 0 _ rfl⟩
      have HGR := Lib.hid hgrow
      have HOWN := Lib.hid hown
      have HMP := Lib.hid hmp
      have HXL := Lib.hid hxl
      have G1 := Lib.hid g1
      have G2 := Lib.hid g2
      have G3 := Lib.hid g3
      clear hgrow hown hmp hxl g1 g2 g3 hxs hp hple hus hnn hseq
      have hcell := (Blk.new Wx [.string nn] 9)
      have HCE := Lib.hid hcell
      clear hcell
      have hside : (∀ j u, [Value.string nn][j]? = some u → (Wx.alloc (.cells #[.string nn] 9)).cell? ((⟨Wx.heap.size, 0, none⟩ : Addr).add j) = some u) ∧ (∀ u ∈ [Value.string nn], u.oneCell' = true) ∧ pl + 1 ≤ maxLen ∧ (pl + 1) * 16 ≤ 140737488355328 ∧ w.heap.size ≤ (Wx.alloc (.cells #[.string nn] 9)).heap.size := by
        refine ⟨fun j u h => ?_, by simp [Value.oneCell'], by unfold maxLen; omega, by omega, by have := G3.out.size; simp; omega⟩
        cases j with
        | zero => exact HCE.out.cell 0 u h
        | succ j => simp at h
      obtain ⟨s1, s2, s3, s4, s5⟩ := hside
      gi_wp2_with (gi_at_builtin; (refine wpListIn_append_own _ rfl _ _ 42 rfl w.heap.size 9 i0 _ 1 16 Tryd.underlying42 hi0 hz0 hz1 hz2 rfl (by decide) (.slice A5 pl c5) pl us rfl HOWN.out ⟨Wx.heap.size, 0, none⟩ 1 1 [.string nn] rfl rfl s1 s2 s3 s4 s5 ?_); intro v' w1 hown1 hg1 hnil; obtain ⟨A6, c6, rfl⟩ := own_form hown1; obtain ⟨m3, m4⟩ := HGR.out _ w1 hown1 hg1; clear m1 m2)
      have hB := Boxed.appended (B := w2.heap.size) (t := 42) G1.out (by decide) G2.out (by have := G3.out.size; omega) (by omega) hown1 hg1
      exact ⟨(KeepW.of (b1 _ _)).trans ((row_keep HOWN.out hg1 (Nat.le_refl _) (by decide) (by decide)).trans (keep_set (by omega) hB.1 (by decide) (.inr (by decide)) 0 _)), _, hB.2.1, by rw [HXL.out, HMP.out]; exact hB.2.2.1, ⟨hB.2.2.2.2.os.trans G3.out.os, hB.2.2.2.2.tape.trans G3.out.tape, hB.2.2.2.2.output.trans G3.out.output, Nat.le_trans G3.out.size hB.2.2.2.2.size, fun k hk => (hB.2.2.2.2.block k hk).trans (G3.out.block k hk)⟩⟩
    case done =>
      rintro D Wx hD ⟨v, g1, g2, g3⟩ hKd
      obtain ⟨A5, c5, rfl⟩ := own_form g2
      have m1 := g1.blk.cell 0 _ rfl
      have HD := Lib.hid hKd
      have HL : L.length = (nmsL L).length := by simp [nmsL]
      rw [HL] at g2 m1
      have G2 := Lib.hid g2
      have G3 := Lib.hid g3
      clear hseq g1 g2 g3 hKd HL
      gi_wp2
      refine leaves_marks (t := 3) (B := W3.heap.size) (fun W' => Below w.heap.size w W' ∧ W'.ownsRow w.heap.size 9 1 (.slice A5 (nmsL L).length c5) (nmsL L).length ((nmsL L).map fun s => .string (strOf s))) (fun W1 W2 h ht => ⟨ht.below h.1 (by omega) (Nat.le_refl _), row_turn h.2 ht (by decide)⟩) (fun W' h => ⟨.tuple #[.slice A5 (nmsL L).length c5, .int .i64 0], by simp [results, Tryd.f14, go_sem], ⟨_, rfl, h.2, h.1⟩⟩) [D] Wx (by simp) (fun E hE => by rw [List.mem_singleton] at hE; subst hE; exact ⟨by omega, HD.out⟩) ⟨G3.out, G2.out⟩
    case stop =>
      rintro D pre Wx hD hp g1 hKd
      exact g1.elim
  · have hEb : (E == 0) = false := by simpa using hE
    rw [if_neg hE]
    clear hnd
    go_enter Tryd.func14, Tryd.ntmps14
    go_wp2_with (go_at_call 12; refine (HC.out _ (b1 _ _)).mono ?_; rintro e w2 ⟨rfl, hb2⟩)
    go_ret2
    exact ⟨_, rfl, World.ownsRow_nil _ _ _ _, bstep (b1 _ _) hb2⟩
end Go.Proofs.YthiacfmedcfcjaaDoor
