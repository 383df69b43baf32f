/- Walk: how much room a query takes. Made by program (wip/tools/gen_wfQ.py). -/
import Derived.Test.YthiacfmedcfcjaaDoorWfP
namespace Go.Proofs.YthiacfmedcfcjaaDoor
open Go.RowKit Go.Shelf Go.Maps
open A8 W10
attribute [local go_sem] Oper.semAt_some

theorem lfL_count (T : Tr) : (lfL (subsT T)).length = (leavesN T.nd).length := by
  rw [← List.length_map (f := Prod.fst), lfL_fst, ← lf_nd, List.length_map]
set_option maxRecDepth 100000 in
set_option maxHeartbeats 8000000 in
theorem wRoom_any (q : GQ) (w : World) (hq : QW w q) (hlen : (subsT q.t).length ≤ 999999) (hG : SG w) (hnu : ∀ s ∈ useL q.qu, s.length ≤ maxLen) :
    Calls Tryd.prog 16 #[.agg q.row.toArray] w fun e w' => e = .returned (.tuple #[.int .i64 (roomA q.qu), .int .i64 (roomD q.qu), .int .i64 (wfE q.qu)]) ∧ Below w.heap.size w w' := by
  have hc := fun w1 (hb : Below w.heap.size w w1) => wcheck_any q w1 (hq.later hb) hlen (hG.later hb) hnu
  have hd := fun w1 (hb : Below w.heap.size w w1) => depthp_any q.t w1 (hq.tr.later hb) hlen (hG.later hb)
  have hgood : wfE q.qu = 0 → roomA q.qu = ((lfL (subsT q.t)).length : Int) ∧ roomD q.qu = (depthN q.t.nd : Int) ∧ soundN 1 q.t.nd = true := fun h => by
    refine ⟨by unfold roomA; rw [if_pos h, lfL_count]; rfl, by unfold roomD; rw [if_pos h]; rfl, ?_⟩
    unfold wfE at h
    split at h
    · cases h
    rename_i hb
    have hb2 : checkB q.qu = true := by simpa using hb
    unfold checkB at hb2
    simp only [Bool.and_eq_true] at hb2
    exact hb2.1.1.1
  have hbad : wfE q.qu ≠ 0 → roomA q.qu = 0 ∧ roomD q.qu = 0 := fun h => ⟨by unfold roomA; rw [if_neg h], by unfold roomD; rw [if_neg h]⟩
  obtain ⟨E, hE⟩ : ∃ E, E = wfE q.qu := ⟨_, rfl⟩
  obtain ⟨rA, hrA⟩ : ∃ rA, rA = roomA q.qu := ⟨_, rfl⟩
  obtain ⟨rD, hrD⟩ : ∃ rD, rD = roomD q.qu := ⟨_, rfl⟩
  rw [← hE] at hc hgood hbad
  rw [← hrA, ← hrD] at hgood hbad
  rw [← hE, ← hrA, ← hrD]
  clear hE hrA hrD hG hnu
  obtain ⟨T, wi, sh, hv, se, em⟩ := q
  obtain ⟨hT, hwi, hh, he, -, -⟩ := hq
  simp only at hT hh he hlen hwi
  obtain ⟨Ah, ch, rfl, hlh, -⟩ := sl_get (by decide) hh
  obtain ⟨Ae, ce, rfl, hle, -⟩ := sl_get (by decide) he
  clear hh he
  simp only at hc hd hgood
  have hnd := fun w => wleaves_any T w
  have hseq := fun (b' : Nat) (w' : World) => wleaves_seq w T hT (by omega) b' w'
  have hLl : (lfL (subsT T)).length ≤ 1000000 := by
    have h1 : (lfL (subsT T)).length = ((subsT T).filter lfB).length := by rw [← lfL_fst, List.length_map]
    have h2 := List.length_filter_le lfB (subsT T)
    omega
  obtain ⟨dd, hdd⟩ : ∃ dd, dd = depthN T.nd := ⟨_, rfl⟩
  obtain ⟨L, hL⟩ : ∃ L, L = lfL (subsT T) := ⟨_, rfl⟩
  rw [← hL] at hseq hLl hgood
  rw [← hdd] at hgood hd
  have hse : soundN 1 T.nd = true → soundE T.nd = 0 := fun h => by unfold soundE; rw [if_pos h]
  have hd2 : E = 0 → ∀ w1, Below w.heap.size w w1 → Calls Tryd.prog 30 #[.agg T.row.toArray] w1 fun e w' => e = .returned (.tuple #[.int .i64 (dd : Int), .int .i64 0]) ∧ Below w1.heap.size w1 w' := fun h w1 hb => by
    have h1 := hd w1 hb
    have h2 := (hgood h).2.2
    rw [h2, if_pos rfl, hse h2] at h1
    exact h1
  replace hgood := fun h => And.intro (hgood h).1 (hgood h).2.1
  clear hL hdd hd hse
  have hone := hT.one
  obtain ⟨k, mn, mx, ⟨⟨kd, bd, bn, cs, nm⟩, sc⟩, sk, ks⟩ := T
  obtain ⟨-, ⟨-, hsc⟩, hsl⟩ := hone
  simp only at hsc
  obtain ⟨A1, cap1, rfl, -, -⟩ := sl_get (by decide) hsc
  obtain ⟨A, cap, rfl, -, -⟩ := sl_get (by decide) hsl
  clear hsc hsl
  clear hT hlen
  simp only [GQ.row, Tr.row, List.cons_append, List.nil_append] at hnd hseq hc hd2 ⊢
  have HC := Lib.hid hc
  have HQ := Lib.hid hseq
  have HG := Lib.hid hgood
  have HBAD := Lib.hid hbad
  have HDD := Lib.hid hd2
  clear hc hseq hgood hbad hd2
  have hbx : ∀ w1, Below ((w.alloc (.cells #[.int .i64 k, .int .i64 mn, .int .i64 mx, .int .i64 kd, .bool bd, .int .u64 bn, .slice A1 cs.length cap1, .string (strOf nm), .slice A ks.length cap, .int .u64 wi, .slice Ah hv.length ch, .slice Ae em.length ce] 39)).alloc (.cells #[.int .i64 0] 3)).heap.size ((w.alloc (.cells #[.int .i64 k, .int .i64 mn, .int .i64 mx, .int .i64 kd, .bool bd, .int .u64 bn, .slice A1 cs.length cap1, .string (strOf nm), .slice A ks.length cap, .int .u64 wi, .slice Ah hv.length ch, .slice Ae em.length ce] 39)).alloc (.cells #[.int .i64 0] 3)) w1 → Blk w1 w.heap.size [.int .i64 k, .int .i64 mn, .int .i64 mx, .int .i64 kd, .bool bd, .int .u64 bn, .slice A1 cs.length cap1, .string (strOf nm), .slice A ks.length cap, .int .u64 wi, .slice Ah hv.length ch, .slice Ae em.length ce] ∧ Bx w1 w.heap.size 39 [.int .i64 k, .int .i64 mn, .int .i64 mx, .int .i64 kd, .bool bd, .int .u64 bn, .slice A1 cs.length cap1, .string (strOf nm), .slice A ks.length cap, .int .u64 wi, .slice Ah hv.length ch, .slice Ae em.length ce] ∧ Bx w1 (w.heap.size + 1) 3 [.int .i64 ((0 : Nat) : Int)] ∧ Below w.heap.size w w1 := fun w1 hb => by
    have h1 := Bx.new w [.int .i64 k, .int .i64 mn, .int .i64 mx, .int .i64 kd, .bool bd, .int .u64 bn, .slice A1 cs.length cap1, .string (strOf nm), .slice A ks.length cap, .int .u64 wi, .slice Ah hv.length ch, .slice Ae em.length ce] 39
    have h2 := Bx.new (w.alloc (.cells #[.int .i64 k, .int .i64 mn, .int .i64 mx, .int .i64 kd, .bool bd, .int .u64 bn, .slice A1 cs.length cap1, .string (strOf nm), .slice A ks.length cap, .int .u64 wi, .slice Ah hv.length ch, .slice Ae em.length ce] 39)) [.int .i64 ((0 : Nat) : Int)] 3
    simp only [World.size_alloc] at h2
    exact ⟨((h1.later (b1 _ _)).later hb).blk, (h1.later (b1 _ _)).later hb, h2.later hb, bstep (b2 _ _ _) hb⟩
  have HX := Lib.hid hbx
  clear hbx
  by_cases hE : E = 0
  · obtain ⟨g1, g2⟩ := HG.out hE
    have HR1 := Lib.hid g1
    have HR2 := Lib.hid g2
    have HD2 := Lib.hid (HDD.out hE)
    subst hE
    clear g1 g2 HG HBAD HDD
    refine (callsIn_wide (n := 5)).1 ?_
    refine callsIn_of_wp_marks Tryd.func16 rfl trivial ?_ rfl
    simp only [Tryd.ntmps16, List.size_toArray, List.length_cons, List.length_nil, Nat.reduceAdd, Nat.reduceSub, Array.replicate_succ, Array.replicate_zero, List.push_toArray, List.append_toArray, List.nil_append, List.cons_append]
    gi_wp2_with (first | (refine ⟨trivial, ?_⟩; gi_at_call 12; refine (callsIn_wide.2 (HC.out _ (b2 _ _ _))).mono ?_; rintro e w2 ⟨rfl, hb2⟩; have z0 := (HX.out w2 hb2).1.cell 0 _ rfl; have z1 := (HX.out w2 hb2).1.cell 1 _ rfl; have z2 := (HX.out w2 hb2).1.cell 2 _ rfl; have z3 := (HX.out w2 hb2).1.cell 3 _ rfl; have z4 := (HX.out w2 hb2).1.cell 4 _ rfl; have z5 := (HX.out w2 hb2).1.cell 5 _ rfl; have z6 := (HX.out w2 hb2).1.cell 6 _ rfl; have z7 := (HX.out w2 hb2).1.cell 7 _ rfl; have z8 := (HX.out w2 hb2).1.cell 8 _ rfl; have zlt := (HX.out w2 hb2).1.lt) | (refine ⟨trivial, ?_⟩; gi_at_call 29; refine (callsIn_wide.2 (hnd _)).mono ?_; rintro e w' ⟨rfl, rfl⟩))
    clear hnd z0 z1 z2 z3 z4 z5 z6 z7 z8
    obtain ⟨-, hqb, hnb, hbw⟩ := HX.out w2 hb2
    obtain ⟨W3, hW3⟩ : ∃ W3, W3 = w2.alloc (.cells #[.int .i64 k, .int .i64 mn, .int .i64 mx, .int .i64 kd, .bool bd, .int .u64 bn, .slice A1 cs.length cap1, .string (strOf nm), .slice A ks.length cap] 30) := ⟨_, rfl⟩
    rw [← hW3]
    have hn3 : Bx W3 w2.heap.size 30 [.int .i64 k, .int .i64 mn, .int .i64 mx, .int .i64 kd, .bool bd, .int .u64 bn, .slice A1 cs.length cap1, .string (strOf nm), .slice A ks.length cap] := hW3 ▸ Bx.new w2 [.int .i64 k, .int .i64 mn, .int .i64 mx, .int .i64 kd, .bool bd, .int .u64 bn, .slice A1 cs.length cap1, .string (strOf nm), .slice A ks.length cap] 30
    have hb3 : Below w.heap.size w W3 := hW3 ▸ bstep hbw (b1 _ _)
    have hq3 : Bx W3 w.heap.size 39 [.int .i64 k, .int .i64 mn, .int .i64 mx, .int .i64 kd, .bool bd, .int .u64 bn, .slice A1 cs.length cap1, .string (strOf nm), .slice A ks.length cap, .int .u64 wi, .slice Ah hv.length ch, .slice Ae em.length ce] := hW3 ▸ hqb.later (b1 _ _)
    have hc3 : Bx W3 (w.heap.size + 1) 3 [.int .i64 ((0 : Nat) : Int)] := hW3 ▸ hnb.later (b1 _ _)
    have hsz3 : W3.heap.size = w2.heap.size + 1 := by rw [hW3]; simp
    have hlt2 := hnb.lt
    have hseq := HQ.out w2.heap.size W3 (SameB.of hb3) hn3
    clear hW3 hn3 HQ HX HC hqb hnb hbw hb2
    refine wpIn_range_own (gf := 44) (lb := #[.pointer (some ⟨w2.heap.size, 0, none⟩)]) rfl (enters_of Tryd.func44 (by kernel_rfl) rfl)
      hseq (by omega) (Below.refl _ _) (fun _ => rfl)
      (fun pre Wx => Bx Wx (w.heap.size + 1) 3 [.int .i64 (pre.length : Int)] ∧ Bx Wx w.heap.size 39 [.int .i64 k, .int .i64 mn, .int .i64 mx, .int .i64 kd, .bool bd, .int .u64 bn, .slice A1 cs.length cap1, .string (strOf nm), .slice A ks.length cap, .int .u64 wi, .slice Ah hv.length ch, .slice Ae em.length ce] ∧ Below w.heap.size w Wx)
      (fun pre Wx => False)
      ?hI ?hIx ?h0 (fun x act Wx => act = { tmps := #[.agg #[.int .i64 k, .int .i64 mn, .int .i64 mx, .int .i64 kd, .bool bd, .int .u64 bn, .slice A1 cs.length cap1, .string (strOf nm), .slice A ks.length cap, .int .u64 wi, .slice Ah hv.length ch, .slice Ae em.length ce], .pointer (some ⟨w.heap.size, 0, none⟩), .pointer (some ⟨w.heap.size + 1, 0, none⟩), .int .i64 0, .int .i64 0, .agg #[.int .i64 k, .int .i64 mn, .int .i64 mx, .int .i64 kd, .bool bd, .int .u64 bn, .slice A1 cs.length cap1, .string (strOf nm), .slice A ks.length cap, .int .u64 wi, .slice Ah hv.length ch, .slice Ae em.length ce], .int .i64 0, .int .i64 0, .bool false, undef, .pointer (some ⟨w.heap.size, 0, none⟩), .agg #[.int .i64 k, .int .i64 mn, .int .i64 mx, .int .i64 kd, .bool bd, .int .u64 bn, .slice A1 cs.length cap1, .string (strOf nm), .slice A ks.length cap], .func (.func 44) #[] #[.pointer (some ⟨w2.heap.size, 0, none⟩)], .int .i64 (x.2 : Int), .agg x.1.row.toArray, undef, undef, undef, undef, undef, undef, undef, undef, undef, undef, undef], defers := [] }) ?hA ?assign ?body ?done ?stop
    case hI =>
      rintro s Wx Wy ⟨g1, g2, g3⟩ ht
      exact ⟨bx_turn g1 ht (.inl (by omega)), bx_turn g2 ht (.inl (by omega)), ht.below g3 (by omega) (Nat.le_refl _)⟩
    case hIx =>
      rintro s Wx Wy g1 ht
      exact g1.elim
    case h0 => exact ⟨hc3, hq3, hb3⟩
    case hA =>
      rintro x act s Wx Wy row h3 hg hr
      exact h3
    case assign =>
      intro l2 pre x Wx K hp hsz hi hK
      clear hi hseq
      obtain ⟨⟨k2, mn2, mx2, ⟨⟨kd2, bd2, bn2, cs2, nm2⟩, sc2⟩, sk2, ks2⟩, c⟩ := x
      simp only [Tr.row] at hK ⊢
      gi_wp2
      exact hK _ _ (by first | rfl | (go_simp; done) | simp) (Below.refl _ _)
    case body =>
      rintro l2 pre x act Wx hp hsz ⟨g1, g2, g3⟩ rfl
      have hpl : pre.length + 1 ≤ 1000000 := by
        have h2 := hp.length_le
        rw [List.length_append, List.length_singleton] at h2
        omega
      have hxl : (pre ++ [x]).length = pre.length + 1 := by simp
      obtain ⟨xs, hxs⟩ : ∃ xs, xs = pre ++ [x] := ⟨_, rfl⟩
      rw [← hxs] at hxl ⊢
      obtain ⟨c, hc⟩ : ∃ c, c = pre.length := ⟨_, rfl⟩
      rw [← hc] at hpl hxl g1
      have hwc : IntKind.i64.wrap ((c : Int) + 1) = (c : Int) + 1 := IntWalk.i64_in _ ⟨by omega, by omega⟩
      have n1 := g1.blk.cell 0 _ rfl
      have n2 := g1.blk.fr 0 _ rfl
      have HXL := Lib.hid hxl
      have G1 := Lib.hid g1
      have G2 := Lib.hid g2
      have G3 := Lib.hid g3
      clear hxl g1 g2 g3 hxs hp hc hseq
      generalize x.1.row.toArray = R
      gi_wp2
      exact ⟨keep_set (by omega) G1.out (by decide) (.inl (by omega)) 0 _, by have h := bx_set G1.out (.int .i64 ((c : Int) + 1)); rw [HXL.out]; exact h, bx_other G2.out (by simp) _, G3.out.setCell (p := ⟨w.heap.size + 1, 0, none⟩) (by simp) _⟩
    case done =>
      rintro D Wx hD ⟨g1, g2, g3⟩ hKd
      have hq := g2.blk
      have z0 := hq.cell 0 _ rfl
      have z1 := hq.cell 1 _ rfl
      have z2 := hq.cell 2 _ rfl
      have z3 := hq.cell 3 _ rfl
      have z4 := hq.cell 4 _ rfl
      have z5 := hq.cell 5 _ rfl
      have z6 := hq.cell 6 _ rfl
      have z7 := hq.cell 7 _ rfl
      have z8 := hq.cell 8 _ rfl
      have HKD := Lib.hid hKd
      have G1 := Lib.hid g1
      have G3 := Lib.hid g3
      have hcl : ∀ w4, Below Wx.heap.size Wx w4 → w4.cell? ⟨w.heap.size + 1, 0, none⟩ = some (.int .i64 (L.length : Int)) ∧ w4.frozen? ⟨w.heap.size + 1, 0, none⟩ = false := fun w4 hb => ⟨(g1.later hb).blk.cell 0 _ rfl, (g1.later hb).blk.fr 0 _ rfl⟩
      have hDl : D < Wx.heap.size := (Array.getElem?_eq_some_iff.1 hKd).1
      clear hq g1 g2 g3 hKd hseq
      gi_wp2_with (refine ⟨trivial, ?_⟩; gi_at_call 30; refine (callsIn_wide.2 (HD2.out _ G3.out)).mono ?_; rintro e w4 ⟨rfl, hb4⟩; obtain ⟨y1, y2⟩ := hcl w4 hb4; clear hcl)
      have hk4 := def_set (p := ⟨w.heap.size + 1, 0, none⟩) (v := .int .i64 (L.length : Int)) ((hb4.block D hDl).trans HKD.out)
      refine leaves_marks (t := 3) (B := W3.heap.size) (fun W' => Below w.heap.size w W' ∧ Bx W' (w.heap.size + 1) 3 [.int .i64 (L.length : Int)]) (fun W1 W2 h ht => ⟨ht.below h.1 (by omega) (Nat.le_refl _), bx_turn h.2 ht (.inl (by omega))⟩) (fun W' h => ⟨.tuple #[.int .i64 (L.length : Int), .int .i64 (dd : Int), .int .i64 0], by simp [results, Tryd.f16, go_sem, h.2.blk.cell 0 _ rfl], ⟨by rw [HR1.out, HR2.out], h.1⟩⟩) [D] _ (by simp) (fun E hE => by rw [List.mem_singleton] at hE; subst hE; exact ⟨by omega, hk4⟩) ⟨(bstep G3.out hb4).setCell (p := ⟨w.heap.size + 1, 0, none⟩) (by simp) _, bx_set (G1.out.later hb4) _⟩
    case stop =>
      rintro D pre Wx hD hp g1 hKd
      exact g1.elim
  · have hEb : (E == 0) = false := by simpa using hE
    obtain ⟨g1, g2⟩ := HBAD.out hE
    have HR1 := Lib.hid g1
    have HR2 := Lib.hid g2
    have hcl : ∀ w2, Below ((w.alloc (.cells #[.int .i64 k, .int .i64 mn, .int .i64 mx, .int .i64 kd, .bool bd, .int .u64 bn, .slice A1 cs.length cap1, .string (strOf nm), .slice A ks.length cap, .int .u64 wi, .slice Ah hv.length ch, .slice Ae em.length ce] 39)).alloc (.cells #[.int .i64 0] 3)).heap.size ((w.alloc (.cells #[.int .i64 k, .int .i64 mn, .int .i64 mx, .int .i64 kd, .bool bd, .int .u64 bn, .slice A1 cs.length cap1, .string (strOf nm), .slice A ks.length cap, .int .u64 wi, .slice Ah hv.length ch, .slice Ae em.length ce] 39)).alloc (.cells #[.int .i64 0] 3)) w2 → w2.cell? ⟨w.heap.size + 1, 0, none⟩ = some (.int .i64 0) ∧ w2.frozen? ⟨w.heap.size + 1, 0, none⟩ = false := fun w2 hb => ⟨(HX.out w2 hb).2.2.1.blk.cell 0 _ rfl, (HX.out w2 hb).2.2.1.blk.fr 0 _ rfl⟩
    clear g1 g2 HG HBAD HDD hnd HQ
    refine (callsIn_wide (n := 5)).1 ?_
    refine callsIn_of_wp_marks Tryd.func16 rfl trivial ?_ rfl
    simp only [Tryd.ntmps16, List.size_toArray, List.length_cons, List.length_nil, Nat.reduceAdd, Nat.reduceSub, Array.replicate_succ, Array.replicate_zero, List.push_toArray, List.append_toArray, List.nil_append, List.cons_append]
    gi_wp2_with (refine ⟨trivial, ?_⟩; gi_at_call 12; refine (callsIn_wide.2 (HC.out _ (b2 _ _ _))).mono ?_; rintro e w2 ⟨rfl, hb2⟩; obtain ⟨y1, y2⟩ := hcl w2 hb2; clear hcl)
    obtain ⟨-, -, hnb, hbw⟩ := HX.out w2 hb2
    refine leaves_marks (t := 3) (B := w2.heap.size) (fun W' => Below w.heap.size w W' ∧ Bx W' (w.heap.size + 1) 3 [.int .i64 0]) (fun W1 W2 h ht => ⟨ht.below h.1 hbw.size (Nat.le_refl _), bx_turn h.2 ht (.inl hnb.lt)⟩) (fun W' h => ⟨.tuple #[.int .i64 0, .int .i64 0, .int .i64 E], by simp [results, Tryd.f16, go_sem, h.2.blk.cell 0 _ rfl], ⟨by rw [HR1.out, HR2.out], h.1⟩⟩) [] _ (by simp) (fun E hE => by cases hE) ⟨hbw.setCell (p := ⟨w.heap.size + 1, 0, none⟩) (by simp) _, bx_set hnb _⟩
end Go.Proofs.YthiacfmedcfcjaaDoor
