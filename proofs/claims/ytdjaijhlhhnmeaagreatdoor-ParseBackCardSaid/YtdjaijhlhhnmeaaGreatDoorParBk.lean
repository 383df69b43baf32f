/- Walk: a query is parsed from its text, and its pattern too, also in parentheses. Made by program (wip/tools/gen_parBk.py). -/
import Derived.Test.YtdjaijhlhhnmeaaGreatDoorParQf
import Derived.Test.YtdjaijhlhhnmeaaGreatDoorParKl
import Derived.Test.YtdjaijhlhhnmeaaGreatDoorParR
import Derived.Test.YtdjaijhlhhnmeaaGreatDoorKitQw
namespace Go.Proofs.YtdjaijhlhhnmeaaGreatDoor
open Go.RowKit
open A8 Tk7 P9 Kq

theorem nform {w : World} {T : Tr} (h : TrW w T) : ∃ (k mn mx kd bn : Int) (bd : Bool) (nm : ByteArray) (qA : Option Addr) (qn qc : Nat) (rA : Option Addr) (rn rc : Nat), T.row = [.int .i64 k, .int .i64 mn, .int .i64 mx, .int .i64 kd, .bool bd, .int .u64 bn, .slice qA qn qc, .string nm, .slice rA rn rc] := by
  obtain ⟨k, mn, mx, ⟨⟨kd, bd, bn, cs, nm⟩, sc⟩, sk, ks⟩ := T
  obtain ⟨⟨qA, qn, qc, h1⟩, ⟨rA, rn, rc, h2⟩⟩ := tr_form (show ndK.E _ _ from h)
  subst h1 h2
  exact ⟨k, mn, mx, kd, bn, bd, strOf nm, qA, qn, qc, rA, rn, rc, rfl⟩
/-- A query in memory: its cells, and those of its pattern. -/
theorem qnform {w : World} {G : GQ} (h : QW w G) : ∃ (k mn mx kd bn wi : Int) (bd : Bool) (nm : ByteArray) (qA : Option Addr) (qn qc : Nat) (rA : Option Addr) (rn rc : Nat) (sA : Option Addr) (sn sc : Nat) (uA : Option Addr) (un uc : Nat), G.row = [.int .i64 k, .int .i64 mn, .int .i64 mx, .int .i64 kd, .bool bd, .int .u64 bn, .slice qA qn qc, .string nm, .slice rA rn rc, .int .u64 wi, .slice sA sn sc, .slice uA un uc] ∧ G.t.row = [.int .i64 k, .int .i64 mn, .int .i64 mx, .int .i64 kd, .bool bd, .int .u64 bn, .slice qA qn qc, .string nm, .slice rA rn rc] := by
  obtain ⟨k, mn, mx, kd, bn, bd, nm, qA, qn, qc, rA, rn, rc, h1⟩ := nform h.tr
  obtain ⟨sA, sn, sc, h3⟩ := sl_form h.hv
  obtain ⟨uA, un, uc, h4⟩ := sl_form h.em
  refine ⟨k, mn, mx, kd, bn, G.wi, bd, nm, qA, qn, qc, rA, rn, rc, sA, sn, sc, uA, un, uc, ?_, h1⟩
  unfold GQ.row
  rw [h1, h3, h4]
  rfl
theorem sum9 (x y : List UInt8) (h : x.length + y.length ≤ 1000000) (w : World) : (Op.stringOp .add (strOf x) (strOf y)).run Tryz.prog w = .ok (.string (strOf (x ++ y))) w := by
  rw [show strOf (x ++ y) = strOf x ++ strOf y from by simp only [strOf]; exact ByteArray.ext (by simp)]
  exact run_string_add_sum w _ _ (by rw [strOf_size, strOf_size]; omega)
/-- Writing the kit's query. -/
theorem kprint {q : Qu} (h : KQok q) {G : GQ} (hG : G.qu = q) (w : World) (hL : Lay w) (hq : QW w G) :
    Calls Tryz.prog 27 #[.agg G.row.toArray] w fun e w' => e = .returned (.tuple #[.string (strOf (if (queryT q).length ≤ 400 then queryT q else [])), .int .i64 (if (queryT q).length ≤ 400 then 0 else 4)]) ∧ Below w.heap.size w w' := by
  have h1 := (kq_len h).1
  have h2 := h.few
  have hp := print_any G w hL hq (by rw [subsT_len]; have : G.t.nd = q.p := by rw [← hG]; rfl
                                     rw [this]; omega) (by rw [hG]; exact h1)
  rw [hG] at hp
  unfold printS printE at hp
  rw [h.check] at hp
  simpa using hp
/-- Writing a pattern that is sound and short. -/
theorem kpattern {n : Nd} (h1 : soundN 1 n = true) (h2 : nodesN n ≤ 999999) (h3 : (textN n).length ≤ 400) {T : Tr} (hT : T.nd = n) (w : World) (hL : Lay w) (hq : TrW w T) :
    Calls Tryz.prog 28 #[.agg T.row.toArray] w fun e w' => e = .returned (.tuple #[.string (strOf (textN n)), .int .i64 0]) ∧ Below w.heap.size w w' := by
  have hp := pattern_any T w hL hq (by rw [subsT_len, hT]; exact h2) (by rw [hT]; omega)
  rw [hT] at hp
  unfold patternS patternE at hp
  rw [h1] at hp
  simpa [h3] using hp
set_option maxRecDepth 100000 in
set_option maxHeartbeats 4000000 in
theorem lback_large (V : Value) (l : List Int) (w : World) (hL : Lay w) (hE : ER w) (hv : Slc w V (vals .i64 l)) (h400 : ¬ (queryT (kitQ l)).length ≤ 400) : Calls Tryz.prog 6 #[V] w fun e w' => e = .returned (.bool true) ∧ Below w.heap.size w w' := by
  have hok := kitQ_ok l
  obtain ⟨q, hq9⟩ : ∃ q, q = kitQ l := ⟨_, rfl⟩
  rw [← hq9] at hok h400
  have hK := known_any w hL hE
  have hKQ : ∀ w', Below w.heap.size w w' → Calls Tryz.prog 26 #[V] w' fun e w'' => ∃ G : GQ, G.qu = q ∧ QW w'' G ∧ e = .returned (.agg G.row.toArray) ∧ Below w'.heap.size w' w'' := fun w' hb => by rw [hq9]; exact query_any V l w' (hv.below hb)
  have hPr := fun (G : GQ) (hG : G.qu = q) w' (hb : Below w.heap.size w w') (hw : QW w' G) => kprint hok hG w' (hL.later hb) hw
  obtain ⟨vA, vn, rfl⟩ : ∃ A c, V = .slice A l.length c := by obtain ⟨A, cap, h, _⟩ := hv.ints; exact ⟨A, cap, h⟩
  simp only [if_neg h400] at hPr
  clear hL hE hq9 h400 hok hv
  go_enter Tryz.func6, Tryz.ntmps6
  go_upto_region 3 with (first | (go_at_call 5; refine hK.mono ?_; rintro e w1 ⟨rfl, hb1⟩) | (go_at_call 26; refine (hKQ _ hb1).mono ?_; rintro e w3 ⟨G, hG, hw3, rfl, hb3⟩; obtain ⟨k, mn, mx, kd, bn, wi, bd, nm, qA, qn, qc, rA, rn, rc, sA, sn, sc, uA, un, uc, hrow, hrow2⟩ := qnform hw3; have hP3 := hPr _ hG; rw [hrow] at hP3 ⊢))
  refine named_wp fun W2 hW2 => ?_
  have hb4 : Below w3.heap.size w3 W2 := by rw [hW2]; exact b1 _ _
  have hYq : Blk W2 w3.heap.size [.int .i64 k, .int .i64 mn, .int .i64 mx, .int .i64 kd, .bool bd, .int .u64 bn, .slice qA qn qc, .string nm, .slice rA rn rc, .int .u64 wi, .slice sA sn sc, .slice uA un uc] := by rw [hW2]; exact Blk.is (us := [.int .i64 k, .int .i64 mn, .int .i64 mx, .int .i64 kd, .bool bd, .int .u64 bn, .slice qA qn qc, .string nm, .slice rA rn rc, .int .u64 wi, .slice sA sn sc, .slice uA un uc]) _ rfl
  have hB2 := bstep (bstep hb1 hb3) hb4
  have hw4 := hw3.later hb4
  clear hW2 hb1 hb3 hb4 hw3 hK hKQ hPr
  have hP4 := hP3 W2 hB2 hw4
  have c0 := hYq.cell 0 _ rfl
  have c1 := hYq.cell 1 _ rfl
  have c2 := hYq.cell 2 _ rfl
  have c3 := hYq.cell 3 _ rfl
  have c4 := hYq.cell 4 _ rfl
  have c5 := hYq.cell 5 _ rfl
  have c6 := hYq.cell 6 _ rfl
  have c7 := hYq.cell 7 _ rfl
  have c8 := hYq.cell 8 _ rfl
  have c9 := hYq.cell 9 _ rfl
  have c10 := hYq.cell 10 _ rfl
  have c11 := hYq.cell 11 _ rfl
  go_wp2_with (go_at_call 27; refine hP4.mono ?_; rintro e w5 ⟨rfl, hb5⟩)
  go_ret
  exact ⟨rfl, bstep hB2 hb5⟩
set_option maxRecDepth 100000 in
set_option maxHeartbeats 8000000 in
theorem lback_mid (V : Value) (l : List Int) (w : World) (hL : Lay w) (hE : ER w) (hv : Slc w V (vals .i64 l)) (h400 : (queryT (kitQ l)).length ≤ 400) (h390 : ¬ (textN (kitQ l).p).length ≤ 390) : Calls Tryz.prog 6 #[V] w fun e w' => e = .returned (.bool true) ∧ Below w.heap.size w w' := by
  have hok := kitQ_ok l
  obtain ⟨q, hq9⟩ : ∃ q, q = kitQ l := ⟨_, rfl⟩
  rw [← hq9] at hok h400 h390
  have hK := known_any w hL hE
  have hKQ : ∀ w', Below w.heap.size w w' → Calls Tryz.prog 26 #[V] w' fun e w'' => ∃ G : GQ, G.qu = q ∧ QW w'' G ∧ e = .returned (.agg G.row.toArray) ∧ Below w'.heap.size w' w'' := fun w' hb => by rw [hq9]; exact query_any V l w' (hv.below hb)
  have hPr := fun (G : GQ) (hG : G.qu = q) w' (hb : Below w.heap.size w w') (hw : QW w' G) => kprint hok hG w' (hL.later hb) hw
  have hsp := (checkB_facts hok.check).1
  have hx2 := parse_query hok.check (kq_ok hok) h400
  have ht4 : (textN q.p).length ≤ 400 := Nat.le_trans (text_le q) h400
  have hx3 := pattern_text hsp (kq_ok hok).p ht4
  have hNd := fun (G : GQ) (hG : G.qu = q) w' (hb : Below w.heap.size w w') (hw : TrW w' G.t) => kpattern hsp (by have := hok.few; omega) ht4 (T := G.t) (by rw [← hG]; rfl) w' (hL.later hb) hw
  have hQ2 := fun w' (hb : Below w.heap.size w w') => parse_any (queryT q) w' (hL.sg.later hb) (hE.later hb)
  have hQ3 := fun w' (hb : Below w.heap.size w w') => parsep_any (textN q.p) w' (hL.sg.later hb) (hE.later hb)
  rw [hx2] at hQ2
  rw [hx3] at hQ3
  have hSm := fun (G : GQ) (h1 : G.qu = q) => (show (∀ (H : GQ) (_ : H.qu = q) (w' : World) (_ : QW w' G) (_ : QW w' H), Calls Tryz.prog 15 #[.agg H.row.toArray, .agg G.row.toArray] w' fun e w'' => e = .returned (.bool true) ∧ Below w'.heap.size w' w'') ∧ ∀ (T : Tr) (_ : T.nd = q.p) (w' : World) (_ : TrW w' G.t) (_ : TrW w' T), Calls Tryz.prog 22 #[.agg T.row.toArray, .agg G.t.row.toArray] w' fun e w'' => e = .returned (.bool true) ∧ Below w'.heap.size w' w'' from ⟨fun H h2 w' k1 k2 => by
    have h := ksameq_any H G w' k2 k1
    rw [h1, h2, sameQ_refl] at h
    exact h, fun T h2 w' k1 k2 => by
    have h := ksameNode_any T G.t w' k2 k1
    have h3 : G.t.nd = q.p := by rw [← h1]; rfl
    rw [h2, h3, decide_eq_true rfl] at h
    exact h⟩)
  obtain ⟨vA, vn, rfl⟩ : ∃ A c, V = .slice A l.length c := by obtain ⟨A, cap, h, _⟩ := hv.ints; exact ⟨A, cap, h⟩
  simp only [if_pos h400] at hPr
  obtain ⟨t, ht⟩ : ∃ t, t = textN q.p := ⟨_, rfl⟩
  rw [← ht] at hNd hQ3 ht4 h390
  have hts := strOf_size t
  have hl9 : (390 : Int) < (t.length : Int) := by omega
  have hl4 : (t.length : Int) ≤ 400 := by omega
  obtain ⟨S, hS⟩ : ∃ S, S = queryT q := ⟨_, rfl⟩
  rw [← hS] at hPr hQ2
  clear hL hE hq9 h400 hok hv hsp hx2 hx3 ht h390 ht4 hS
  go_enter Tryz.func6, Tryz.ntmps6
  go_upto_region 3 with (first | (go_at_call 5; refine hK.mono ?_; rintro e w1 ⟨rfl, hb1⟩) | (go_at_call 26; refine (hKQ _ hb1).mono ?_; rintro e w3 ⟨G, hG, hw3, rfl, hb3⟩; obtain ⟨k, mn, mx, kd, bn, wi, bd, nm, qA, qn, qc, rA, rn, rc, sA, sn, sc, uA, un, uc, hrow, hrow2⟩ := qnform hw3; have hP3 := hPr _ hG; have hN3 := hNd _ hG; have hS3 := hSm _ hG; rw [hrow] at hP3 hS3 ⊢; rw [hrow2] at hN3 hS3))
  refine named_wp fun W2 hW2 => ?_
  have hb4 : Below w3.heap.size w3 W2 := by rw [hW2]; exact b1 _ _
  have hYq : Blk W2 w3.heap.size [.int .i64 k, .int .i64 mn, .int .i64 mx, .int .i64 kd, .bool bd, .int .u64 bn, .slice qA qn qc, .string nm, .slice rA rn rc, .int .u64 wi, .slice sA sn sc, .slice uA un uc] := by rw [hW2]; exact Blk.is (us := [.int .i64 k, .int .i64 mn, .int .i64 mx, .int .i64 kd, .bool bd, .int .u64 bn, .slice qA qn qc, .string nm, .slice rA rn rc, .int .u64 wi, .slice sA sn sc, .slice uA un uc]) _ rfl
  have hB2 := bstep (bstep hb1 hb3) hb4
  have hw4 := hw3.later hb4
  clear hW2 hb1 hb3 hb4 hw3 hK hKQ hPr hNd hSm
  have hP4 := hP3 W2 hB2 hw4
  have c0 := hYq.cell 0 _ rfl
  have c1 := hYq.cell 1 _ rfl
  have c2 := hYq.cell 2 _ rfl
  have c3 := hYq.cell 3 _ rfl
  have c4 := hYq.cell 4 _ rfl
  have c5 := hYq.cell 5 _ rfl
  have c6 := hYq.cell 6 _ rfl
  have c7 := hYq.cell 7 _ rfl
  have c8 := hYq.cell 8 _ rfl
  have c9 := hYq.cell 9 _ rfl
  have c10 := hYq.cell 10 _ rfl
  have c11 := hYq.cell 11 _ rfl
  have HN3 := Lib.hid hN3
  have HS3 := Lib.hid hS3
  clear hN3 hS3 hP3
  go_upto_region 7 with (first | (go_at_call 27; refine hP4.mono ?_; rintro e w5 ⟨rfl, hb5⟩) | (go_at_call 11; refine (hQ2 _ (bstep hB2 hb5)).mono ?_; rintro e w6 ⟨hb6, -, ho6⟩; obtain ⟨H, hH, hw6, rfl⟩ := ho6 _ rfl; obtain ⟨k0, mn0, mx0, kd0, bn0, wi0, bd0, nm0, qA0, qn0, qc0, rA0, rn0, rc0, sA0, sn0, sc0, uA0, un0, uc0, hrow0⟩ := qform hw6; have hS6 := HS3.out.1 H hH; rw [hrow0] at hS6 ⊢; unfold ftV))
  refine named_wp fun W7 hW7 => ?_
  have hb7 : Below w6.heap.size w6 W7 := by rw [hW7]; exact b2 _ _ _
  have hYr : Blk W7 w6.heap.size [.int .i64 k0, .int .i64 mn0, .int .i64 mx0, .int .i64 kd0, .bool bd0, .int .u64 bn0, .slice qA0 qn0 qc0, .string nm0, .slice rA0 rn0 rc0, .int .u64 wi0, .slice sA0 sn0 sc0, .slice uA0 un0 uc0] := by rw [hW7]; exact (Blk.is (us := [.int .i64 k0, .int .i64 mn0, .int .i64 mx0, .int .i64 kd0, .bool bd0, .int .u64 bn0, .slice qA0 qn0 qc0, .string nm0, .slice rA0 rn0 rc0, .int .u64 wi0, .slice sA0 sn0 sc0, .slice uA0 un0 uc0]) _ rfl).alloc _
  have hYh : Blk W7 (w6.heap.size + 1) [.int .i64 0, .int .i64 0] := by rw [hW7]; exact Blk.is (us := [.int .i64 0, .int .i64 0]) _ (by simp)
  have hB7 := bstep (bstep (bstep hB2 hb5) hb6) hb7
  replace hYq := ((hYq.later hb5).later hb6).later hb7
  replace hw4 := ((hw4.later hb5).later hb6).later hb7
  replace hw6 := hw6.later hb7
  have hN7 := HN3.out W7 hB7 hw4.tr
  clear hW7 hb5 hb6 hb7 hB2 hP4 hQ2 c0 c1 c2 c3 c4 c5 c6 c7 c8 c9 c10 c11 HN3
  have c0 := hYq.cell 0 _ rfl
  have c1 := hYq.cell 1 _ rfl
  have c2 := hYq.cell 2 _ rfl
  have c3 := hYq.cell 3 _ rfl
  have c4 := hYq.cell 4 _ rfl
  have c5 := hYq.cell 5 _ rfl
  have c6 := hYq.cell 6 _ rfl
  have c7 := hYq.cell 7 _ rfl
  have c8 := hYq.cell 8 _ rfl
  go_upto_region 9 with (first | (go_at_call 28; refine hN7.mono ?_; rintro e w8 ⟨rfl, hb8⟩) | (go_at_call 18; refine (hQ3 _ (bstep hB7 hb8)).mono ?_; rintro e w9 ⟨hb9, -, ho9⟩; obtain ⟨T, hT, hw9, rfl⟩ := ho9 _ rfl; obtain ⟨k1, mn1, mx1, kd1, bn1, bd1, nm1, qA1, qn1, qc1, rA1, rn1, rc1, hrow1⟩ := nform hw9; have hS9 := HS3.out.2 T hT; rw [hrow1] at hS9 ⊢; unfold ftV))
  refine named_wp fun W10 hW10 => ?_
  have hb10 : Below w9.heap.size w9 W10 := by rw [hW10]; exact b2 _ _ _
  have hYn : Blk W10 w9.heap.size [.int .i64 k1, .int .i64 mn1, .int .i64 mx1, .int .i64 kd1, .bool bd1, .int .u64 bn1, .slice qA1 qn1 qc1, .string nm1, .slice rA1 rn1 rc1] := by rw [hW10]; exact (Blk.is (us := [.int .i64 k1, .int .i64 mn1, .int .i64 mx1, .int .i64 kd1, .bool bd1, .int .u64 bn1, .slice qA1 qn1 qc1, .string nm1, .slice rA1 rn1 rc1]) _ rfl).alloc _
  have hYi : Blk W10 (w9.heap.size + 1) [.int .i64 0, .int .i64 0] := by rw [hW10]; exact Blk.is (us := [.int .i64 0, .int .i64 0]) _ (by simp)
  have hx := bstep (bstep hb8 hb9) hb10
  have hB10 := bstep hB7 hx
  replace hYq := hYq.later hx
  replace hYr := hYr.later hx
  replace hYh := hYh.later hx
  replace hw4 := hw4.later hx
  replace hw6 := hw6.later hx
  replace hw9 := hw9.later hb10
  have hSq := hS6 W10 hw4 hw6
  have hSn := fun w' (hb : Below W10.heap.size W10 w') => hS9 w' (hw4.tr.later hb) (hw9.later hb)
  clear hW10 hb8 hb9 hb10 hx hB7 hN7 hQ3 hS6 hS9 c0 c1 c2 c3 c4 c5 c6 c7 c8
  have c0 := hYq.cell 0 _ rfl
  have c1 := hYq.cell 1 _ rfl
  have c2 := hYq.cell 2 _ rfl
  have c3 := hYq.cell 3 _ rfl
  have c4 := hYq.cell 4 _ rfl
  have c5 := hYq.cell 5 _ rfl
  have c6 := hYq.cell 6 _ rfl
  have c7 := hYq.cell 7 _ rfl
  have c8 := hYq.cell 8 _ rfl
  have c9 := hYq.cell 9 _ rfl
  have c10 := hYq.cell 10 _ rfl
  have c11 := hYq.cell 11 _ rfl
  have d0 := hYr.cell 0 _ rfl
  have d1 := hYr.cell 1 _ rfl
  have d2 := hYr.cell 2 _ rfl
  have d3 := hYr.cell 3 _ rfl
  have d4 := hYr.cell 4 _ rfl
  have d5 := hYr.cell 5 _ rfl
  have d6 := hYr.cell 6 _ rfl
  have d7 := hYr.cell 7 _ rfl
  have d8 := hYr.cell 8 _ rfl
  have d9 := hYr.cell 9 _ rfl
  have d10 := hYr.cell 10 _ rfl
  have d11 := hYr.cell 11 _ rfl
  have x0 := hYn.cell 0 _ rfl
  have x1 := hYn.cell 1 _ rfl
  have x2 := hYn.cell 2 _ rfl
  have x3 := hYn.cell 3 _ rfl
  have x4 := hYn.cell 4 _ rfl
  have x5 := hYn.cell 5 _ rfl
  have x6 := hYn.cell 6 _ rfl
  have x7 := hYn.cell 7 _ rfl
  have x8 := hYn.cell 8 _ rfl
  have y0 := hYh.cell 0 _ rfl
  have y1 := hYh.cell 1 _ rfl
  have z0 := hYi.cell 0 _ rfl
  have z1 := hYi.cell 1 _ rfl
  go_upto_region 11 with (first | (go_at_call 15; refine hSq.mono ?_; rintro e w11 ⟨rfl, hb11⟩; have hYq2 := hYq.later hb11; have hYn2 := hYn.later hb11; clear c0 c1 c2 c3 c4 c5 c6 c7 c8 c9 c10 c11; have c0 := hYq2.cell 0 _ rfl; have c1 := hYq2.cell 1 _ rfl; have c2 := hYq2.cell 2 _ rfl; have c3 := hYq2.cell 3 _ rfl; have c4 := hYq2.cell 4 _ rfl; have c5 := hYq2.cell 5 _ rfl; have c6 := hYq2.cell 6 _ rfl; have c7 := hYq2.cell 7 _ rfl; have c8 := hYq2.cell 8 _ rfl; have v0 := hYn2.cell 0 _ rfl; have v1 := hYn2.cell 1 _ rfl; have v2 := hYn2.cell 2 _ rfl; have v3 := hYn2.cell 3 _ rfl; have v4 := hYn2.cell 4 _ rfl; have v5 := hYn2.cell 5 _ rfl; have v6 := hYn2.cell 6 _ rfl; have v7 := hYn2.cell 7 _ rfl; have v8 := hYn2.cell 8 _ rfl) | (go_at_call 22; refine (hSn _ hb11).mono ?_; rintro e w12 ⟨rfl, hb12⟩))
  go_wp2
  go_ret
  exact ⟨rfl, bstep (bstep hB10 hb11) hb12⟩
set_option maxRecDepth 100000 in
set_option maxHeartbeats 8000000 in
theorem lback_small (V : Value) (l : List Int) (w : World) (hL : Lay w) (hE : ER w) (hv : Slc w V (vals .i64 l)) (h400 : (queryT (kitQ l)).length ≤ 400) (h390 : (textN (kitQ l).p).length ≤ 390) : Calls Tryz.prog 6 #[V] w fun e w' => e = .returned (.bool true) ∧ Below w.heap.size w w' := by
  have hok := kitQ_ok l
  obtain ⟨q, hq9⟩ : ∃ q, q = kitQ l := ⟨_, rfl⟩
  rw [← hq9] at hok h400 h390
  have hK := known_any w hL hE
  have hKQ : ∀ w', Below w.heap.size w w' → Calls Tryz.prog 26 #[V] w' fun e w'' => ∃ G : GQ, G.qu = q ∧ QW w'' G ∧ e = .returned (.agg G.row.toArray) ∧ Below w'.heap.size w' w'' := fun w' hb => by rw [hq9]; exact query_any V l w' (hv.below hb)
  have hPr := fun (G : GQ) (hG : G.qu = q) w' (hb : Below w.heap.size w w') (hw : QW w' G) => kprint hok hG w' (hL.later hb) hw
  have hsp := (checkB_facts hok.check).1
  have hx2 := parse_query hok.check (kq_ok hok) h400
  have ht4 : (textN q.p).length ≤ 400 := Nat.le_trans (text_le q) h400
  have hx3 := pattern_text hsp (kq_ok hok).p ht4
  have hNd := fun (G : GQ) (hG : G.qu = q) w' (hb : Below w.heap.size w w') (hw : TrW w' G.t) => kpattern hsp (by have := hok.few; omega) ht4 (T := G.t) (by rw [← hG]; rfl) w' (hL.later hb) hw
  have hQ2 := fun w' (hb : Below w.heap.size w w') => parse_any (queryT q) w' (hL.sg.later hb) (hE.later hb)
  have hQ3 := fun w' (hb : Below w.heap.size w w') => parsep_any (textN q.p) w' (hL.sg.later hb) (hE.later hb)
  rw [hx2] at hQ2
  rw [hx3] at hQ3
  have hx4 := pattern_parens hsp (kq_ok hok).p h390
  have hQ4 := fun w' (hb : Below w.heap.size w w') => parsep_any ([40, 32, 40] ++ textN q.p ++ [41, 10, 41]) w' (hL.sg.later hb) (hE.later hb)
  rw [hx4] at hQ4
  have hSm := fun (G : GQ) (h1 : G.qu = q) => (show (∀ (H : GQ) (_ : H.qu = q) (w' : World) (_ : QW w' G) (_ : QW w' H), Calls Tryz.prog 15 #[.agg H.row.toArray, .agg G.row.toArray] w' fun e w'' => e = .returned (.bool true) ∧ Below w'.heap.size w' w'') ∧ ∀ (T : Tr) (_ : T.nd = q.p) (w' : World) (_ : TrW w' G.t) (_ : TrW w' T), Calls Tryz.prog 22 #[.agg T.row.toArray, .agg G.t.row.toArray] w' fun e w'' => e = .returned (.bool true) ∧ Below w'.heap.size w' w'' from ⟨fun H h2 w' k1 k2 => by
    have h := ksameq_any H G w' k2 k1
    rw [h1, h2, sameQ_refl] at h
    exact h, fun T h2 w' k1 k2 => by
    have h := ksameNode_any T G.t w' k2 k1
    have h3 : G.t.nd = q.p := by rw [← h1]; rfl
    rw [h2, h3, decide_eq_true rfl] at h
    exact h⟩)
  obtain ⟨vA, vn, rfl⟩ : ∃ A c, V = .slice A l.length c := by obtain ⟨A, cap, h, _⟩ := hv.ints; exact ⟨A, cap, h⟩
  simp only [if_pos h400] at hPr
  obtain ⟨t, ht⟩ : ∃ t, t = textN q.p := ⟨_, rfl⟩
  rw [← ht] at hNd hQ3 hQ4 ht4 h390
  have hts := strOf_size t
  have hl9 : ¬ (390 : Int) < (t.length : Int) := by omega
  have hl4 : (t.length : Int) ≤ 400 := by omega
  obtain ⟨S, hS⟩ : ∃ S, S = queryT q := ⟨_, rfl⟩
  rw [← hS] at hPr hQ2
  clear hL hE hq9 h400 hok hv hsp hx2 hx3 hx4 ht h390 ht4 hS
  go_enter Tryz.func6, Tryz.ntmps6
  go_upto_region 3 with (first | (go_at_call 5; refine hK.mono ?_; rintro e w1 ⟨rfl, hb1⟩) | (go_at_call 26; refine (hKQ _ hb1).mono ?_; rintro e w3 ⟨G, hG, hw3, rfl, hb3⟩; obtain ⟨k, mn, mx, kd, bn, wi, bd, nm, qA, qn, qc, rA, rn, rc, sA, sn, sc, uA, un, uc, hrow, hrow2⟩ := qnform hw3; have hP3 := hPr _ hG; have hN3 := hNd _ hG; have hS3 := hSm _ hG; rw [hrow] at hP3 hS3 ⊢; rw [hrow2] at hN3 hS3))
  refine named_wp fun W2 hW2 => ?_
  have hb4 : Below w3.heap.size w3 W2 := by rw [hW2]; exact b1 _ _
  have hYq : Blk W2 w3.heap.size [.int .i64 k, .int .i64 mn, .int .i64 mx, .int .i64 kd, .bool bd, .int .u64 bn, .slice qA qn qc, .string nm, .slice rA rn rc, .int .u64 wi, .slice sA sn sc, .slice uA un uc] := by rw [hW2]; exact Blk.is (us := [.int .i64 k, .int .i64 mn, .int .i64 mx, .int .i64 kd, .bool bd, .int .u64 bn, .slice qA qn qc, .string nm, .slice rA rn rc, .int .u64 wi, .slice sA sn sc, .slice uA un uc]) _ rfl
  have hB2 := bstep (bstep hb1 hb3) hb4
  have hw4 := hw3.later hb4
  clear hW2 hb1 hb3 hb4 hw3 hK hKQ hPr hNd hSm
  have hP4 := hP3 W2 hB2 hw4
  have c0 := hYq.cell 0 _ rfl
  have c1 := hYq.cell 1 _ rfl
  have c2 := hYq.cell 2 _ rfl
  have c3 := hYq.cell 3 _ rfl
  have c4 := hYq.cell 4 _ rfl
  have c5 := hYq.cell 5 _ rfl
  have c6 := hYq.cell 6 _ rfl
  have c7 := hYq.cell 7 _ rfl
  have c8 := hYq.cell 8 _ rfl
  have c9 := hYq.cell 9 _ rfl
  have c10 := hYq.cell 10 _ rfl
  have c11 := hYq.cell 11 _ rfl
  have HN3 := Lib.hid hN3
  have HS3 := Lib.hid hS3
  clear hN3 hS3 hP3
  go_upto_region 7 with (first | (go_at_call 27; refine hP4.mono ?_; rintro e w5 ⟨rfl, hb5⟩) | (go_at_call 11; refine (hQ2 _ (bstep hB2 hb5)).mono ?_; rintro e w6 ⟨hb6, -, ho6⟩; obtain ⟨H, hH, hw6, rfl⟩ := ho6 _ rfl; obtain ⟨k0, mn0, mx0, kd0, bn0, wi0, bd0, nm0, qA0, qn0, qc0, rA0, rn0, rc0, sA0, sn0, sc0, uA0, un0, uc0, hrow0⟩ := qform hw6; have hS6 := HS3.out.1 H hH; rw [hrow0] at hS6 ⊢; unfold ftV))
  refine named_wp fun W7 hW7 => ?_
  have hb7 : Below w6.heap.size w6 W7 := by rw [hW7]; exact b2 _ _ _
  have hYr : Blk W7 w6.heap.size [.int .i64 k0, .int .i64 mn0, .int .i64 mx0, .int .i64 kd0, .bool bd0, .int .u64 bn0, .slice qA0 qn0 qc0, .string nm0, .slice rA0 rn0 rc0, .int .u64 wi0, .slice sA0 sn0 sc0, .slice uA0 un0 uc0] := by rw [hW7]; exact (Blk.is (us := [.int .i64 k0, .int .i64 mn0, .int .i64 mx0, .int .i64 kd0, .bool bd0, .int .u64 bn0, .slice qA0 qn0 qc0, .string nm0, .slice rA0 rn0 rc0, .int .u64 wi0, .slice sA0 sn0 sc0, .slice uA0 un0 uc0]) _ rfl).alloc _
  have hYh : Blk W7 (w6.heap.size + 1) [.int .i64 0, .int .i64 0] := by rw [hW7]; exact Blk.is (us := [.int .i64 0, .int .i64 0]) _ (by simp)
  have hB7 := bstep (bstep (bstep hB2 hb5) hb6) hb7
  replace hYq := ((hYq.later hb5).later hb6).later hb7
  replace hw4 := ((hw4.later hb5).later hb6).later hb7
  replace hw6 := hw6.later hb7
  have hN7 := HN3.out W7 hB7 hw4.tr
  clear hW7 hb5 hb6 hb7 hB2 hP4 hQ2 c0 c1 c2 c3 c4 c5 c6 c7 c8 c9 c10 c11 HN3
  have c0 := hYq.cell 0 _ rfl
  have c1 := hYq.cell 1 _ rfl
  have c2 := hYq.cell 2 _ rfl
  have c3 := hYq.cell 3 _ rfl
  have c4 := hYq.cell 4 _ rfl
  have c5 := hYq.cell 5 _ rfl
  have c6 := hYq.cell 6 _ rfl
  have c7 := hYq.cell 7 _ rfl
  have c8 := hYq.cell 8 _ rfl
  go_upto_region 9 with (first | (go_at_call 28; refine hN7.mono ?_; rintro e w8 ⟨rfl, hb8⟩) | (go_at_call 18; refine (hQ3 _ (bstep hB7 hb8)).mono ?_; rintro e w9 ⟨hb9, -, ho9⟩; obtain ⟨T, hT, hw9, rfl⟩ := ho9 _ rfl; obtain ⟨k1, mn1, mx1, kd1, bn1, bd1, nm1, qA1, qn1, qc1, rA1, rn1, rc1, hrow1⟩ := nform hw9; have hS9 := HS3.out.2 T hT; rw [hrow1] at hS9 ⊢; unfold ftV))
  refine named_wp fun W10 hW10 => ?_
  have hb10 : Below w9.heap.size w9 W10 := by rw [hW10]; exact b2 _ _ _
  have hYn : Blk W10 w9.heap.size [.int .i64 k1, .int .i64 mn1, .int .i64 mx1, .int .i64 kd1, .bool bd1, .int .u64 bn1, .slice qA1 qn1 qc1, .string nm1, .slice rA1 rn1 rc1] := by rw [hW10]; exact (Blk.is (us := [.int .i64 k1, .int .i64 mn1, .int .i64 mx1, .int .i64 kd1, .bool bd1, .int .u64 bn1, .slice qA1 qn1 qc1, .string nm1, .slice rA1 rn1 rc1]) _ rfl).alloc _
  have hYi : Blk W10 (w9.heap.size + 1) [.int .i64 0, .int .i64 0] := by rw [hW10]; exact Blk.is (us := [.int .i64 0, .int .i64 0]) _ (by simp)
  have hx := bstep (bstep hb8 hb9) hb10
  have hB10 := bstep hB7 hx
  replace hYq := hYq.later hx
  replace hYr := hYr.later hx
  replace hYh := hYh.later hx
  replace hw4 := hw4.later hx
  replace hw6 := hw6.later hx
  replace hw9 := hw9.later hb10
  have hSq := hS6 W10 hw4 hw6
  have hSn := fun w' (hb : Below W10.heap.size W10 w') => hS9 w' (hw4.tr.later hb) (hw9.later hb)
  clear hW10 hb8 hb9 hb10 hx hB7 hN7 hQ3 hS6 hS9 c0 c1 c2 c3 c4 c5 c6 c7 c8
  have c0 := hYq.cell 0 _ rfl
  have c1 := hYq.cell 1 _ rfl
  have c2 := hYq.cell 2 _ rfl
  have c3 := hYq.cell 3 _ rfl
  have c4 := hYq.cell 4 _ rfl
  have c5 := hYq.cell 5 _ rfl
  have c6 := hYq.cell 6 _ rfl
  have c7 := hYq.cell 7 _ rfl
  have c8 := hYq.cell 8 _ rfl
  have c9 := hYq.cell 9 _ rfl
  have c10 := hYq.cell 10 _ rfl
  have c11 := hYq.cell 11 _ rfl
  have d0 := hYr.cell 0 _ rfl
  have d1 := hYr.cell 1 _ rfl
  have d2 := hYr.cell 2 _ rfl
  have d3 := hYr.cell 3 _ rfl
  have d4 := hYr.cell 4 _ rfl
  have d5 := hYr.cell 5 _ rfl
  have d6 := hYr.cell 6 _ rfl
  have d7 := hYr.cell 7 _ rfl
  have d8 := hYr.cell 8 _ rfl
  have d9 := hYr.cell 9 _ rfl
  have d10 := hYr.cell 10 _ rfl
  have d11 := hYr.cell 11 _ rfl
  have x0 := hYn.cell 0 _ rfl
  have x1 := hYn.cell 1 _ rfl
  have x2 := hYn.cell 2 _ rfl
  have x3 := hYn.cell 3 _ rfl
  have x4 := hYn.cell 4 _ rfl
  have x5 := hYn.cell 5 _ rfl
  have x6 := hYn.cell 6 _ rfl
  have x7 := hYn.cell 7 _ rfl
  have x8 := hYn.cell 8 _ rfl
  have y0 := hYh.cell 0 _ rfl
  have y1 := hYh.cell 1 _ rfl
  have z0 := hYi.cell 0 _ rfl
  have z1 := hYi.cell 1 _ rfl
  go_upto_region 11 with (first | (go_at_call 15; refine hSq.mono ?_; rintro e w11 ⟨rfl, hb11⟩; have hYq2 := hYq.later hb11; have hYn2 := hYn.later hb11; clear c0 c1 c2 c3 c4 c5 c6 c7 c8 c9 c10 c11; have c0 := hYq2.cell 0 _ rfl; have c1 := hYq2.cell 1 _ rfl; have c2 := hYq2.cell 2 _ rfl; have c3 := hYq2.cell 3 _ rfl; have c4 := hYq2.cell 4 _ rfl; have c5 := hYq2.cell 5 _ rfl; have c6 := hYq2.cell 6 _ rfl; have c7 := hYq2.cell 7 _ rfl; have c8 := hYq2.cell 8 _ rfl; have v0 := hYn2.cell 0 _ rfl; have v1 := hYn2.cell 1 _ rfl; have v2 := hYn2.cell 2 _ rfl; have v3 := hYn2.cell 3 _ rfl; have v4 := hYn2.cell 4 _ rfl; have v5 := hYn2.cell 5 _ rfl; have v6 := hYn2.cell 6 _ rfl; have v7 := hYn2.cell 7 _ rfl; have v8 := hYn2.cell 8 _ rfl) | (go_at_call 22; refine (hSn _ hb11).mono ?_; rintro e w12 ⟨rfl, hb12⟩))
  have hB12 := bstep (bstep hB10 hb11) hb12
  replace hYq := (hYq.later hb11).later hb12
  replace hw4 := (hw4.later hb11).later hb12
  have HYQ := Lib.hid hYq
  have HW4 := Lib.hid hw4.tr
  clear c0 c1 c2 c3 c4 c5 c6 c7 c8 d0 d1 d2 d3 d4 d5 d6 d7 d8 d9 d10 d11 x0 x1 x2 x3 x4 x5 x6 x7 x8 v0 v1 v2 v3 v4 v5 v6 v7 v8 y0 y1 z0 z1 hYq2 hYn2 hYq hYr hYn hYh hYi hw4 hw6 hw9 hSq hSn hb11 hb12 hB10
  have s1 : ∀ w', (Op.stringOp .add ⟨#[40, 32, 40]⟩ (strOf t)).run Tryz.prog w' = .ok (.string (strOf ([40, 32, 40] ++ t))) w' := sum9 [40, 32, 40] t (by simp only [List.length_cons, List.length_nil]; omega)
  have s2 : ∀ w', (Op.stringOp .add (strOf ([40, 32, 40] ++ t)) ⟨#[41, 10, 41]⟩).run Tryz.prog w' = .ok (.string (strOf ([40, 32, 40] ++ t ++ [41, 10, 41]))) w' := sum9 ([40, 32, 40] ++ t) [41, 10, 41] (by simp only [List.length_append, List.length_cons, List.length_nil]; omega)
  obtain ⟨Z1, hZ1⟩ : ∃ Z1, Z1 = [40, 32, 40] ++ t := ⟨_, rfl⟩
  obtain ⟨Z2, hZ2⟩ : ∃ Z2, Z2 = [40, 32, 40] ++ t ++ [41, 10, 41] := ⟨_, rfl⟩
  rw [← hZ1] at s1 s2
  rw [← hZ2] at hQ4
  rw [hZ1, ← hZ2] at s2
  rw [← hZ1] at s2
  clear hZ1 hZ2
  go_upto_region 14 with (go_at_call 18; refine (hQ4 _ hB12).mono ?_; rintro e w13 ⟨hb13, -, ho13⟩; obtain ⟨T2, hT2, hw13, rfl⟩ := ho13 _ rfl; obtain ⟨k2, mn2, mx2, kd2, bn2, bd2, nm2, qA2, qn2, qc2, rA2, rn2, rc2, hrow2'⟩ := nform hw13; have hS13 := HS3.out.2 T2 hT2; rw [hrow2'] at hS13 ⊢; unfold ftV)
  refine named_wp fun W14 hW14 => ?_
  have hb14 : Below w13.heap.size w13 W14 := by rw [hW14]; exact b2 _ _ _
  have hYn : Blk W14 w13.heap.size [.int .i64 k2, .int .i64 mn2, .int .i64 mx2, .int .i64 kd2, .bool bd2, .int .u64 bn2, .slice qA2 qn2 qc2, .string nm2, .slice rA2 rn2 rc2] := by rw [hW14]; exact (Blk.is (us := [.int .i64 k2, .int .i64 mn2, .int .i64 mx2, .int .i64 kd2, .bool bd2, .int .u64 bn2, .slice qA2 qn2 qc2, .string nm2, .slice rA2 rn2 rc2]) _ rfl).alloc _
  have hYi : Blk W14 (w13.heap.size + 1) [.int .i64 0, .int .i64 0] := by rw [hW14]; exact Blk.is (us := [.int .i64 0, .int .i64 0]) _ (by simp)
  have hx := bstep hb13 hb14
  have hYq := HYQ.out.later hx
  have hSn := hS13 W14 (HW4.out.later hx) (hw13.later hb14)
  have hB14 := bstep hB12 hx
  clear hW14 hb13 hb14 hx hB12 hQ4 hS13 s1 s2
  have c0 := hYq.cell 0 _ rfl
  have c1 := hYq.cell 1 _ rfl
  have c2 := hYq.cell 2 _ rfl
  have c3 := hYq.cell 3 _ rfl
  have c4 := hYq.cell 4 _ rfl
  have c5 := hYq.cell 5 _ rfl
  have c6 := hYq.cell 6 _ rfl
  have c7 := hYq.cell 7 _ rfl
  have c8 := hYq.cell 8 _ rfl
  have x0 := hYn.cell 0 _ rfl
  have x1 := hYn.cell 1 _ rfl
  have x2 := hYn.cell 2 _ rfl
  have x3 := hYn.cell 3 _ rfl
  have x4 := hYn.cell 4 _ rfl
  have x5 := hYn.cell 5 _ rfl
  have x6 := hYn.cell 6 _ rfl
  have x7 := hYn.cell 7 _ rfl
  have x8 := hYn.cell 8 _ rfl
  have z0 := hYi.cell 0 _ rfl
  have z1 := hYi.cell 1 _ rfl
  go_wp2_with (go_at_call 22; refine hSn.mono ?_; rintro e w15 ⟨rfl, hb15⟩)
  go_ret
  exact ⟨rfl, bstep hB14 hb15⟩
theorem lback_any (V : Value) (l : List Int) (w : World) (hL : Lay w) (hE : ER w) (hv : Slc w V (vals .i64 l)) : Calls Tryz.prog 6 #[V] w fun e w' => e = .returned (.bool true) ∧ Below w.heap.size w w' := by
  by_cases h400 : (queryT (kitQ l)).length ≤ 400
  · by_cases h390 : (textN (kitQ l).p).length ≤ 390
    · exact lback_small V l w hL hE hv h400 h390
    · exact lback_mid V l w hL hE hv h400 h390
  · exact lback_large V l w hL hE hv h400
end Go.Proofs.YtdjaijhlhhnmeaaGreatDoor
