/- Walk: the main law: a text is refused, or is a query whose text is read as the same one. Made by program (wip/tools/gen_parU.py). -/
import Derived.Test.YtdjaijhlhhnmeaaGreatDoorParR
namespace Go.Proofs.YtdjaijhlhhnmeaaGreatDoor
open Go.RowKit
open A8 Tk7 P9

theorem qform {w : World} {G : GQ} (h : QW w G) : ∃ (k mn mx kd bn wi : Int) (bd : Bool) (nm : ByteArray) (qA : Option Addr) (qn qc : Nat) (rA : Option Addr) (rn rc : Nat) (sA : Option Addr) (sn sc : Nat) (uA : Option Addr) (un uc : Nat), G.row = [.int .i64 k, .int .i64 mn, .int .i64 mx, .int .i64 kd, .bool bd, .int .u64 bn, .slice qA qn qc, .string nm, .slice rA rn rc, .int .u64 wi, .slice sA sn sc, .slice uA un uc] := by
  obtain ⟨⟨k, mn, mx, ⟨⟨kd, bd, bn, cs, nm⟩, sc⟩, sk, ks⟩, wi, sh, hv, se, em⟩ := G
  obtain ⟨⟨qA, qn, qc, h1⟩, ⟨rA, rn, rc, h2⟩⟩ := tr_form (show ndK.E _ _ from h.tr)
  obtain ⟨sA, sn, sc, h3⟩ := sl_form h.hv
  obtain ⟨uA, un, uc, h4⟩ := sl_form h.em
  simp only at h1 h2 h3 h4
  subst h1 h2 h3 h4
  exact ⟨k, mn, mx, kd, bn, wi, bd, strOf nm, qA, qn, qc, rA, rn, rc, sA, sn, sc, uA, un, uc, rfl⟩
set_option maxRecDepth 100000 in
set_option maxHeartbeats 4000000 in
theorem parses_any (w : World) (hL : Lay w) (hE : ER w) : Calls Tryz.prog 31 #[] w fun e w' => e = .returned (.bool true) ∧ Below w.heap.size w w' := by
  obtain ⟨q, hx, ht⟩ : ∃ q, parseP [65, 32, 59, 32, 110, 111, 116, 32, 66, 32, 59, 32, 67, 32, 119, 105, 116, 104, 105, 110, 32, 51] = .ok q ∧ queryT q = [65, 32, 59, 32, 110, 111, 116, 32, 66, 32, 59, 32, 67, 32, 119, 105, 116, 104, 105, 110, 32, 51] := ⟨⟨.mk 3 0 0 noA [.mk 1 1 1 noA [], .mk 2 0 0 ⟨1, false, 0, [], []⟩ [], .mk 1 1 1 ⟨2, false, 0, [], []⟩ []], 3, [], []⟩, rfl, by decide +kernel⟩
  have hQ : Calls Tryz.prog 11 #[.string ⟨#[65, 32, 59, 32, 110, 111, 116, 32, 66, 32, 59, 32, 67, 32, 119, 105, 116, 104, 105, 110, 32, 51]⟩] w (RdQ w (parseP [65, 32, 59, 32, 110, 111, 116, 32, 66, 32, 59, 32, 67, 32, 119, 105, 116, 104, 105, 110, 32, 51]) quZ GQ.qu QW GQ.row) := parse_any [65, 32, 59, 32, 110, 111, 116, 32, 66, 32, 59, 32, 67, 32, 119, 105, 116, 104, 105, 110, 32, 51] w hL.sg hE
  have hP := fun (G : GQ) (hG : G.qu = q) w' (hb : Below w.heap.size w w') (hw : QW w' G) => print_of hx hG w' (hL.later hb) hw
  rw [ht] at hP
  have hP := fun (G : GQ) (hG : G.qu = q) w' (hb : Below w.heap.size w w') (hw : QW w' G) => (show Calls Tryz.prog 27 #[.agg G.row.toArray] w' fun e w'' => e = .returned (.tuple #[.string ⟨#[65, 32, 59, 32, 110, 111, 116, 32, 66, 32, 59, 32, 67, 32, 119, 105, 116, 104, 105, 110, 32, 51]⟩, .int .i64 0]) ∧ Below w'.heap.size w' w'' from hP G hG w' hb hw)
  rw [hx] at hQ
  clear hx ht
  go_enter Tryz.func31, Tryz.ntmps31
  go_upto_region 2 with (go_at_call 11; refine hQ.mono ?_; rintro e w3 ⟨hb3, -, ho3⟩; obtain ⟨G, hG, hw3, rfl⟩ := ho3 _ rfl; obtain ⟨k, mn, mx, kd, bn, wi, bd, nm, qA, qn, qc, rA, rn, rc, sA, sn, sc, uA, un, uc, hrow⟩ := qform hw3; have hP3 := hP _ hG; rw [hrow] at hP3 ⊢; unfold ftV)
  refine named_wp fun W2 hW2 => ?_
  have hb4 : Below w3.heap.size w3 W2 := by rw [hW2]; exact b2 _ _ _
  have hYq : Blk W2 w3.heap.size [.int .i64 k, .int .i64 mn, .int .i64 mx, .int .i64 kd, .bool bd, .int .u64 bn, .slice qA qn qc, .string nm, .slice rA rn rc, .int .u64 wi, .slice sA sn sc, .slice uA un uc] := by rw [hW2]; exact (Blk.is (us := [.int .i64 k, .int .i64 mn, .int .i64 mx, .int .i64 kd, .bool bd, .int .u64 bn, .slice qA qn qc, .string nm, .slice rA rn rc, .int .u64 wi, .slice sA sn sc, .slice uA un uc]) _ rfl).alloc _
  have hYf : Blk W2 (w3.heap.size + 1) [.int .i64 0, .int .i64 0] := by rw [hW2]; exact Blk.is (us := [.int .i64 0, .int .i64 0]) _ (by simp)
  have c0 := hYq.cell 0 _ rfl
  have c1 := hYq.cell 1 _ rfl
  have c2 := hYq.cell 2 _ rfl
  have c3 := hYq.cell 3 _ rfl
  have c4 := hYq.cell 4 _ rfl
  have c5 := hYq.cell 5 _ rfl
  have c6 := hYq.cell 6 _ rfl
  have c7 := hYq.cell 7 _ rfl
  have c8 := hYq.cell 8 _ rfl
  have c9 := hYq.cell 9 _ rfl
  have c10 := hYq.cell 10 _ rfl
  have c11 := hYq.cell 11 _ rfl
  have hP4 := hP3 W2 (bstep hb3 hb4) (hw3.later hb4)
  clear hW2 hP3 hP hQ
  go_upto_region 3 with (go_at_call 27; with_reducible refine hP4.mono ?_; rintro e w5 ⟨rfl, hb5⟩)
  have d0 := (hYf.later hb5).cell 0 _ rfl
  have d1 := (hYf.later hb5).cell 1 _ rfl
  go_wp2
  go_ret
  exact ⟨rfl, (by first | exact bstep (bstep hb3 hb4) hb5 | exact (bstep (bstep hb3 hb4) hb5).drew)⟩
set_option maxRecDepth 100000 in
set_option maxHeartbeats 4000000 in
theorem top_any (t : List UInt8) (w : World) (hL : Lay w) (hE : ER w) (hsz : t.length ≤ 9223372036854775807) : Calls Tryz.prog 9 #[.string (strOf t)] w fun e w' => e = .returned (.bool true) ∧ Below w.heap.size w w' := by
  have hS := fun w' (hb : Below w.heap.size w w') => parses_any w' (hL.later hb) (hE.later hb)
  have hsize := strOf_size t
  by_cases h410 : 410 < t.length
  · have h1 : (410 : Int) < (t.length : Int) := by omega
    clear hL hE
    go_enter Tryz.func9, Tryz.ntmps9
    go_wp2_with (go_at_call 31; refine (hS _ (Below.refl _ _)).mono ?_; rintro e w3 ⟨rfl, hb3⟩)
    go_ret
    exact ⟨rfl, hb3⟩
  · have h1 : ¬ (410 : Int) < (t.length : Int) := by omega
    have hQ := parse_any t w hL.sg hE
    cases hx : parseP t with
    | error y =>
      obtain ⟨g1, g2, -⟩ := fault_in hx
      have hb0 : (y.1 == 0) = false := by rw [beq_eq_false_iff_ne]; exact g1
      have hb1 : (y.1 != 0) = true := by simp only [bne, hb0]; rfl
      have g3 : (0 : Int) ≤ (y.2 : Int) := by omega
      have g4 : (y.2 : Int) ≤ (t.length : Int) := by omega
      rw [hx] at hQ
      clear hx hL hE g2 h410
      go_enter Tryz.func9, Tryz.ntmps9
      go_upto_region 5 with (go_at_call 11; refine hQ.mono ?_; rintro e w3 ⟨hb3, ho3, -⟩; obtain rfl := ho3 _ rfl; unfold ftV)
      refine named_wp fun W2 hW2 => ?_
      have hb4 : Below w3.heap.size w3 W2 := by rw [hW2]; exact b2 _ _ _
      have hYf : Blk W2 (w3.heap.size + 1) [.int .i64 y.1, .int .i64 (y.2 : Int)] := by rw [hW2]; exact Blk.is (us := [.int .i64 y.1, .int .i64 (y.2 : Int)]) _ (by simp)
      have d1 := hYf.cell 1 _ rfl
      clear hW2 hYf
      go_wp2_with (go_at_call 31; refine (hS _ (by first | exact bstep hb3 hb4 | exact (bstep hb3 hb4).drew)).mono ?_; rintro e w5 ⟨rfl, hb5⟩)
      go_ret
      exact ⟨rfl, bstep (bstep hb3 hb4) hb5⟩
    | ok q =>
      obtain ⟨⟨s1, s2⟩, -, -, -⟩ := parse_sound hx
      have hP := fun (G : GQ) (hG : G.qu = q) w' (hb : Below w.heap.size w w') (hw : QW w' G) => print_of hx hG w' (hL.later hb) hw
      rw [hx] at hQ
      by_cases h400 : (queryT q).length ≤ 400
      · have hx2 := parse_query s1 s2 h400
        have hQ2 := fun w' (hb : Below w.heap.size w w') => parse_any (queryT q) w' (hL.sg.later hb) (hE.later hb)
        have hSm := fun (G H : GQ) (h1 : G.qu = q) (h2 : H.qu = q) (w' : World) (k1 : QW w' G) (k2 : QW w' H) => (show Calls Tryz.prog 32 #[.agg H.row.toArray, .agg G.row.toArray] w' fun e w'' => e = .returned (.bool true) ∧ Below w'.heap.size w' w'' from by
          have h := sameq_any H G w' k2 k1
          rw [h1, h2, sameQ_refl] at h
          exact h)
        simp only [if_pos h400] at hP
        rw [hx2] at hQ2
        obtain ⟨T, hT⟩ : ∃ T, T = strOf (queryT q) := ⟨_, rfl⟩
        rw [← hT] at hP hQ2
        clear hx hx2 hL hE h410 s1 s2 h400 hT
        go_enter Tryz.func9, Tryz.ntmps9
        go_upto_region 6 with (go_at_call 11; refine hQ.mono ?_; rintro e w3 ⟨hb3, -, ho3⟩; obtain ⟨G, hG, hw3, rfl⟩ := ho3 _ rfl; obtain ⟨k, mn, mx, kd, bn, wi, bd, nm, qA, qn, qc, rA, rn, rc, sA, sn, sc, uA, un, uc, hrow⟩ := qform hw3; have hP3 := hP _ hG; have hS3 := fun H h2 => hSm _ H hG h2; rw [hrow] at hP3 ⊢; unfold ftV)
        refine named_wp fun W2 hW2 => ?_
        have hb4 : Below w3.heap.size w3 W2 := by rw [hW2]; exact b2 _ _ _
        have hYq : Blk W2 w3.heap.size [.int .i64 k, .int .i64 mn, .int .i64 mx, .int .i64 kd, .bool bd, .int .u64 bn, .slice qA qn qc, .string nm, .slice rA rn rc, .int .u64 wi, .slice sA sn sc, .slice uA un uc] := by rw [hW2]; exact (Blk.is (us := [.int .i64 k, .int .i64 mn, .int .i64 mx, .int .i64 kd, .bool bd, .int .u64 bn, .slice qA qn qc, .string nm, .slice rA rn rc, .int .u64 wi, .slice sA sn sc, .slice uA un uc]) _ rfl).alloc _
        have c0 := hYq.cell 0 _ rfl
        have c1 := hYq.cell 1 _ rfl
        have c2 := hYq.cell 2 _ rfl
        have c3 := hYq.cell 3 _ rfl
        have c4 := hYq.cell 4 _ rfl
        have c5 := hYq.cell 5 _ rfl
        have c6 := hYq.cell 6 _ rfl
        have c7 := hYq.cell 7 _ rfl
        have c8 := hYq.cell 8 _ rfl
        have c9 := hYq.cell 9 _ rfl
        have c10 := hYq.cell 10 _ rfl
        have c11 := hYq.cell 11 _ rfl
        have hB4 := bstep hb3 hb4
        have hw4 := hw3.later hb4
        have hP4 := hP3 W2 hB4 hw4
        clear hW2 hP3 hb4
        go_upto_region 9 with (go_at_call 27; with_reducible refine hP4.mono ?_; rintro e w5 ⟨rfl, hb5⟩)
        clear hP4 c0 c1 c2 c3 c4 c5 c6 c7 c8 c9 c10 c11
        have hB5 := bstep hB4 hb5
        have hQ5 := hQ2 w5 hB5
        go_upto_region 10 with (go_at_call 11; refine hQ5.mono ?_; rintro e w6 ⟨hb6, -, ho6⟩; obtain ⟨H, hH, hw6, rfl⟩ := ho6 _ rfl; obtain ⟨k0, mn0, mx0, kd0, bn0, wi0, bd0, nm0, qA0, qn0, qc0, rA0, rn0, rc0, sA0, sn0, sc0, uA0, un0, uc0, hrow0⟩ := qform hw6; have hP6 := hP _ hH; have hS6 := hS3 H hH; rw [hrow0] at hP6 ⊢; unfold ftV)
        refine named_wp fun W7 hW7 => ?_
        have hb7 : Below w6.heap.size w6 W7 := by rw [hW7]; exact b2 _ _ _
        have hYr : Blk W7 w6.heap.size [.int .i64 k0, .int .i64 mn0, .int .i64 mx0, .int .i64 kd0, .bool bd0, .int .u64 bn0, .slice qA0 qn0 qc0, .string nm0, .slice rA0 rn0 rc0, .int .u64 wi0, .slice sA0 sn0 sc0, .slice uA0 un0 uc0] := by rw [hW7]; exact (Blk.is (us := [.int .i64 k0, .int .i64 mn0, .int .i64 mx0, .int .i64 kd0, .bool bd0, .int .u64 bn0, .slice qA0 qn0 qc0, .string nm0, .slice rA0 rn0 rc0, .int .u64 wi0, .slice sA0 sn0 sc0, .slice uA0 un0 uc0]) _ rfl).alloc _
        have hYf : Blk W7 (w6.heap.size + 1) [.int .i64 0, .int .i64 0] := by rw [hW7]; exact Blk.is (us := [.int .i64 0, .int .i64 0]) _ (by simp)
        have c0 := hYr.cell 0 _ rfl
        have c1 := hYr.cell 1 _ rfl
        have c2 := hYr.cell 2 _ rfl
        have c3 := hYr.cell 3 _ rfl
        have c4 := hYr.cell 4 _ rfl
        have c5 := hYr.cell 5 _ rfl
        have c6 := hYr.cell 6 _ rfl
        have c7 := hYr.cell 7 _ rfl
        have c8 := hYr.cell 8 _ rfl
        have c9 := hYr.cell 9 _ rfl
        have c10 := hYr.cell 10 _ rfl
        have c11 := hYr.cell 11 _ rfl
        have hB7 := bstep (bstep hB5 hb6) hb7
        have hw7 := hw6.later hb7
        have hP7 := hP6 W7 hB7 hw7
        have hr7 := bstep hb5 (bstep hb6 hb7)
        clear hW7 hP6 hP hQ2 hSm hS3 hb5 hb6 hb7 hQ5 hQ
        go_upto_region 11 with (go_at_call 27; with_reducible refine hP7.mono ?_; rintro e w8 ⟨rfl, hb8⟩)
        replace hYr := hYr.later hb8
        replace hYf := hYf.later hb8
        replace hYq := (hYq.later hr7).later hb8
        have hB8 := bstep hB7 hb8
        have hS8 := hS6 w8 ((hw4.later hr7).later hb8) (hw7.later hb8)
        rw [hrow, hrow0] at hS8
        have hz := fun w9 (hb : Below w8.heap.size w8 w9) => hS w9 (bstep hB8 hb)
        have c0 := hYr.cell 0 _ rfl
        have f0 := hYq.cell 0 _ rfl
        have c1 := hYr.cell 1 _ rfl
        have f1 := hYq.cell 1 _ rfl
        have c2 := hYr.cell 2 _ rfl
        have f2 := hYq.cell 2 _ rfl
        have c3 := hYr.cell 3 _ rfl
        have f3 := hYq.cell 3 _ rfl
        have c4 := hYr.cell 4 _ rfl
        have f4 := hYq.cell 4 _ rfl
        have c5 := hYr.cell 5 _ rfl
        have f5 := hYq.cell 5 _ rfl
        have c6 := hYr.cell 6 _ rfl
        have f6 := hYq.cell 6 _ rfl
        have c7 := hYr.cell 7 _ rfl
        have f7 := hYq.cell 7 _ rfl
        have c8 := hYr.cell 8 _ rfl
        have f8 := hYq.cell 8 _ rfl
        have c9 := hYr.cell 9 _ rfl
        have f9 := hYq.cell 9 _ rfl
        have c10 := hYr.cell 10 _ rfl
        have f10 := hYq.cell 10 _ rfl
        have c11 := hYr.cell 11 _ rfl
        have f11 := hYq.cell 11 _ rfl
        have d0 := hYf.cell 0 _ rfl
        have d1 := hYf.cell 1 _ rfl
        clear hYr hYq hYf hS6 hP7 hw4 hw7 hw3 hw6 hr7 hB4 hB5 hB7 hrow hrow0
        go_wp2_with (first | (go_at_call 32; with_reducible refine hS8.mono ?_; rintro e w9 ⟨rfl, hb9⟩) | (go_at_call 31; refine (hz _ hb9).mono ?_; rintro e w10 ⟨rfl, hb10⟩))
        go_ret
        exact ⟨rfl, bstep hB8 (bstep hb9 hb10)⟩
      · simp only [if_neg h400] at hP
        clear hx hL hE h410 s1 s2 h400
        go_enter Tryz.func9, Tryz.ntmps9
        go_upto_region 6 with (go_at_call 11; refine hQ.mono ?_; rintro e w3 ⟨hb3, -, ho3⟩; obtain ⟨G, hG, hw3, rfl⟩ := ho3 _ rfl; obtain ⟨k, mn, mx, kd, bn, wi, bd, nm, qA, qn, qc, rA, rn, rc, sA, sn, sc, uA, un, uc, hrow⟩ := qform hw3; have hP3 := hP _ hG; rw [hrow] at hP3 ⊢; unfold ftV)
        refine named_wp fun W2 hW2 => ?_
        have hb4 : Below w3.heap.size w3 W2 := by rw [hW2]; exact b2 _ _ _
        have hYq : Blk W2 w3.heap.size [.int .i64 k, .int .i64 mn, .int .i64 mx, .int .i64 kd, .bool bd, .int .u64 bn, .slice qA qn qc, .string nm, .slice rA rn rc, .int .u64 wi, .slice sA sn sc, .slice uA un uc] := by rw [hW2]; exact (Blk.is (us := [.int .i64 k, .int .i64 mn, .int .i64 mx, .int .i64 kd, .bool bd, .int .u64 bn, .slice qA qn qc, .string nm, .slice rA rn rc, .int .u64 wi, .slice sA sn sc, .slice uA un uc]) _ rfl).alloc _
        have c0 := hYq.cell 0 _ rfl
        have c1 := hYq.cell 1 _ rfl
        have c2 := hYq.cell 2 _ rfl
        have c3 := hYq.cell 3 _ rfl
        have c4 := hYq.cell 4 _ rfl
        have c5 := hYq.cell 5 _ rfl
        have c6 := hYq.cell 6 _ rfl
        have c7 := hYq.cell 7 _ rfl
        have c8 := hYq.cell 8 _ rfl
        have c9 := hYq.cell 9 _ rfl
        have c10 := hYq.cell 10 _ rfl
        have c11 := hYq.cell 11 _ rfl
        have hB4 := bstep hb3 hb4
        have hP4 := hP3 W2 hB4 (hw3.later hb4)
        clear hW2 hP3 hP hQ
        go_wp2_with (first | (go_at_call 27; with_reducible refine hP4.mono ?_; rintro e w5 ⟨rfl, hb5⟩) | (go_at_call 31; refine (hS _ (bstep hB4 hb5)).mono ?_; rintro e w6 ⟨rfl, hb6⟩))
        go_ret
        exact ⟨rfl, bstep (bstep hB4 hb5) hb6⟩
theorem topS_any (s : ByteArray) (w : World) (hL : Lay w) (hE : ER w) (hs : s.size ≤ maxLen) : Calls Tryz.prog 9 #[.string s] w fun e w' => e = .returned (.bool true) ∧ Below w.heap.size w w' := by
  have h := top_any s.data.toList w hL hE (by have : s.data.toList.length = s.size := by rw [Array.length_toList]; rfl
                                              unfold maxLen at hs; omega)
  rwa [show strOf s.data.toList = s by simp [strOf]] at h
end Go.Proofs.YtdjaijhlhhnmeaaGreatDoor
