/- Walk: what is parsed is sound, is written again, and is parsed from that as the same, more blanks or not. Made by program (wip/tools/gen_parV.py). -/
import Derived.Test.YtdjaijhlhhnmeaaGreatDoorParU
import Derived.Test.YtdjaijhlhhnmeaaGreatDoorParMathH
namespace Go.Proofs.YtdjaijhlhhnmeaaGreatDoor
open Go.RowKit
open A8 Tk7 P9

theorem wide_snoc (l : List UInt8) (b : UInt8) : wideT (l ++ [b]) = wideT l ++ (if b = 32 then [32, 13, 10, 32] else [b]) := by
  unfold wideT
  rw [List.flatMap_append]
  simp
theorem wide_len (l : List UInt8) : (wideT l).length ≤ 4 * l.length := by
  induction l with
  | nil => exact Nat.zero_le _
  | cons b l ih =>
    unfold wideT at ih ⊢
    rw [List.flatMap_cons, List.length_append, List.length_cons]
    split <;> simp only [List.length_cons, List.length_nil] <;> omega
theorem sum9 (x y : List UInt8) (h : x.length + y.length ≤ 1000000) (w : World) : (Op.stringOp .add (strOf x) (strOf y)).run Tryz.prog w = .ok (.string (strOf (x ++ y))) w := by
  rw [show strOf (x ++ y) = strOf x ++ strOf y from by simp only [strOf]; exact ByteArray.ext (by simp)]
  exact run_string_add_sum w _ _ (by rw [strOf_size, strOf_size]; omega)
theorem ext9 (l : List UInt8) (k : Nat) (h : k < l.length) : (strOf l).extract k (k + 1) = strOf [l[k]] := by
  apply ByteArray.ext
  rw [ByteArray.data_extract]
  apply Array.toList_inj.1
  rw [Array.toList_extract]
  simp only [List.extract_eq_take_drop, strOf]
  have e : k + 1 - k = 1 := by omega
  rw [e, List.drop_eq_getElem_cons h]
  rfl
theorem checkp_of {t : List UInt8} {q : Qu} (h : parseP t = .ok q) {G : GQ} (hG : G.qu = q) (w : World) (hL : SG w) (hq : QW w G) :
    Calls Tryz.prog 29 #[.agg G.row.toArray] w fun e w' => e = .returned (.int .i64 0) ∧ Below w.heap.size w w' := by
  obtain ⟨⟨h1, h2⟩, ⟨h3, h4⟩, h5, h6⟩ := parse_sound h
  have hp := checkq_any G w hq (by rw [subsT_len]; have : G.t.nd = q.p := by rw [← hG]; rfl
                                   rw [this]; omega) hL
  rw [hG] at hp
  unfold checkE at hp
  rw [h1] at hp
  simpa using hp
set_option maxRecDepth 100000 in
set_option maxHeartbeats 4000000 in
theorem lagain_long (t : List UInt8) (w : World) (hL : Lay w) (hE : ER w) (hl : 200 < t.length) : Calls Tryz.prog 7 #[.string (strOf t)] w fun e w' => e = .returned (.bool true) ∧ Below w.heap.size w w' := by
  have hsize := strOf_size t
  have h1 : (200 : Int) < (t.length : Int) := by omega
  have hK := known_any w hL hE
  clear hL hE
  go_enter Tryz.func7, Tryz.ntmps7
  go_wp2_with (go_at_call 5; refine hK.mono ?_; rintro e w1 ⟨rfl, hb1⟩)
  go_ret
  exact ⟨rfl, hb1⟩
set_option maxRecDepth 100000 in
set_option maxHeartbeats 4000000 in
theorem lagain_bad (t : List UInt8) (w : World) (hL : Lay w) (hE : ER w) (hl : ¬ 200 < t.length) (y : F) (hx : parseP t = .error y) : Calls Tryz.prog 7 #[.string (strOf t)] w fun e w' => e = .returned (.bool true) ∧ Below w.heap.size w w' := by
  have hsize := strOf_size t
  have h1 : ¬ (200 : Int) < (t.length : Int) := by omega
  have hK := known_any w hL hE
  have hQ := fun w' (hb : Below w.heap.size w w') => parse_any t w' (hL.sg.later hb) (hE.later hb)
  have hI := fun w' (hb : Below w.heap.size w w') => is_any t w' (hL.sg.later hb) (hE.later hb)
  obtain ⟨g1, g2, -⟩ := fault_in hx
  have hb0 : (y.1 == 0) = false := by rw [beq_eq_false_iff_ne]; exact g1
  have g3 : (0 : Int) ≤ (y.2 : Int) := by omega
  have g4 : (y.2 : Int) ≤ (t.length : Int) := by omega
  rw [hx] at hQ hI
  clear hx hL hE g2
  go_enter Tryz.func7, Tryz.ntmps7
  go_upto_region 6 with (first | (go_at_call 5; refine hK.mono ?_; rintro e w1 ⟨rfl, hb1⟩) | (go_at_call 11; refine (hQ _ hb1).mono ?_; rintro e w3 ⟨hb3, ho3, -⟩; obtain rfl := ho3 _ rfl; unfold ftV))
  refine named_wp fun W2 hW2 => ?_
  have hb4 : Below w3.heap.size w3 W2 := by rw [hW2]; exact b2 _ _ _
  have hYq : Blk W2 w3.heap.size [.int .i64 0, .int .i64 0, .int .i64 0, .int .i64 0, .bool false, .int .u64 0, .slice none 0 0, .string ⟨#[]⟩, .slice none 0 0, .int .u64 0, .slice none 0 0, .slice none 0 0] := by rw [hW2]; exact (Blk.is (us := [.int .i64 0, .int .i64 0, .int .i64 0, .int .i64 0, .bool false, .int .u64 0, .slice none 0 0, .string ⟨#[]⟩, .slice none 0 0, .int .u64 0, .slice none 0 0, .slice none 0 0]) _ rfl).alloc _
  have hYf : Blk W2 (w3.heap.size + 1) [.int .i64 y.1, .int .i64 (y.2 : Int)] := by rw [hW2]; exact Blk.is (us := [.int .i64 y.1, .int .i64 (y.2 : Int)]) _ (by simp)
  have c0 := hYq.cell 0 _ rfl
  have c1 := hYq.cell 1 _ rfl
  have c2 := hYq.cell 2 _ rfl
  have c3 := hYq.cell 3 _ rfl
  have c4 := hYq.cell 4 _ rfl
  have c5 := hYq.cell 5 _ rfl
  have c6 := hYq.cell 6 _ rfl
  have c7 := hYq.cell 7 _ rfl
  have c8 := hYq.cell 8 _ rfl
  have c9 := hYq.cell 9 _ rfl
  have c10 := hYq.cell 10 _ rfl
  have c11 := hYq.cell 11 _ rfl
  have hB := bstep (bstep hb1 hb3) hb4
  clear hW2
  go_wp2_with (first | (go_at_call 15; refine (zsame _).mono ?_; rintro e w5 ⟨rfl, hb5⟩; have d1 := (hYf.later hb5).cell 1 _ rfl) | (go_at_call 16; refine (hI _ (bstep hB hb5)).mono ?_; rintro e w6 ⟨rfl, hb6⟩))
  go_ret
  exact ⟨rfl, bstep (bstep hB hb5) hb6⟩
set_option maxRecDepth 100000 in
set_option maxHeartbeats 4000000 in
theorem lagain_large (t : List UInt8) (w : World) (hL : Lay w) (hE : ER w) (hl : ¬ 200 < t.length) (q : Qu) (hx : parseP t = .ok q) (h400 : ¬ (queryT q).length ≤ 400) : Calls Tryz.prog 7 #[.string (strOf t)] w fun e w' => e = .returned (.bool true) ∧ Below w.heap.size w w' := by
  have hsize := strOf_size t
  have h1 : ¬ (200 : Int) < (t.length : Int) := by omega
  have hK := known_any w hL hE
  have hQ := fun w' (hb : Below w.heap.size w w') => parse_any t w' (hL.sg.later hb) (hE.later hb)
  have hA := fun w' (hb : Below w.heap.size w w') => again_any t w' (hL.later hb) (hE.later hb)
  have hC := fun (G : GQ) (hG : G.qu = q) w' (hb : Below w.heap.size w w') (hw : QW w' G) => checkp_of hx hG w' (hL.sg.later hb) hw
  have ha : againP t = .error (4, 400) := by unfold againP; rw [hx]; simp only; rw [if_neg h400]
  unfold AgR at hA
  rw [ha] at hA
  rw [hx] at hQ
  clear hx hL hE ha h400
  go_enter Tryz.func7, Tryz.ntmps7
  go_upto_region 7 with (first | (go_at_call 5; refine hK.mono ?_; rintro e w1 ⟨rfl, hb1⟩) | (go_at_call 11; refine (hQ _ hb1).mono ?_; rintro e w3 ⟨hb3, -, ho3⟩; obtain ⟨G, hG, hw3, rfl⟩ := ho3 _ rfl; obtain ⟨k, mn, mx, kd, bn, wi, bd, nm, qA, qn, qc, rA, rn, rc, sA, sn, sc, uA, un, uc, hrow⟩ := qform hw3; have hC3 := hC _ hG; rw [hrow] at hC3 ⊢; unfold ftV))
  refine named_wp fun W2 hW2 => ?_
  have hb4 : Below w3.heap.size w3 W2 := by rw [hW2]; exact b2 _ _ _
  have hYq : Blk W2 w3.heap.size [.int .i64 k, .int .i64 mn, .int .i64 mx, .int .i64 kd, .bool bd, .int .u64 bn, .slice qA qn qc, .string nm, .slice rA rn rc, .int .u64 wi, .slice sA sn sc, .slice uA un uc] := by rw [hW2]; exact (Blk.is (us := [.int .i64 k, .int .i64 mn, .int .i64 mx, .int .i64 kd, .bool bd, .int .u64 bn, .slice qA qn qc, .string nm, .slice rA rn rc, .int .u64 wi, .slice sA sn sc, .slice uA un uc]) _ rfl).alloc _
  have hB := bstep (bstep hb1 hb3) hb4
  have hw4 := hw3.later hb4
  clear hW2
  go_upto_region 8 with (go_at_call 13; refine (hA _ hB).mono ?_; rintro e w5 ⟨hb5, he5, -⟩; obtain rfl := he5 _ rfl; unfold ftV)
  refine named_wp fun W6 hW6 => ?_
  have hb6 : Below w5.heap.size w5 W6 := by rw [hW6]; exact b1 _ _
  have hYg : Blk W6 w5.heap.size [.int .i64 4, .int .i64 400] := by rw [hW6]; exact Blk.is (us := [.int .i64 4, .int .i64 400]) _ rfl
  have hYr := (hYq.later hb5).later hb6
  have c0 := hYr.cell 0 _ rfl
  have c1 := hYr.cell 1 _ rfl
  have c2 := hYr.cell 2 _ rfl
  have c3 := hYr.cell 3 _ rfl
  have c4 := hYr.cell 4 _ rfl
  have c5 := hYr.cell 5 _ rfl
  have c6 := hYr.cell 6 _ rfl
  have c7 := hYr.cell 7 _ rfl
  have c8 := hYr.cell 8 _ rfl
  have c9 := hYr.cell 9 _ rfl
  have c10 := hYr.cell 10 _ rfl
  have c11 := hYr.cell 11 _ rfl
  have hB6 := bstep (bstep hB hb5) hb6
  have hC6 := hC3 W6 hB6 ((hw4.later hb5).later hb6)
  clear hW6
  go_wp2_with (go_at_call 29; refine hC6.mono ?_; rintro e w7 ⟨rfl, hb7⟩; have d0 := (hYg.later hb7).cell 0 _ rfl; have d1 := (hYg.later hb7).cell 1 _ rfl)
  go_ret
  exact ⟨rfl, bstep hB6 hb7⟩
set_option maxRecDepth 100000 in
set_option maxHeartbeats 8000000 in
theorem lagain_ok (t : List UInt8) (w : World) (hL : Lay w) (hE : ER w) (hl : ¬ 200 < t.length) (q : Qu) (hx : parseP t = .ok q) (h400 : (queryT q).length ≤ 400) : Calls Tryz.prog 7 #[.string (strOf t)] w fun e w' => e = .returned (.bool true) ∧ Below w.heap.size w w' := by
  have hsize := strOf_size t
  have h1 : ¬ (200 : Int) < (t.length : Int) := by omega
  obtain ⟨⟨s1, s2⟩, -, -, -⟩ := parse_sound hx
  have hx2 := parse_query s1 s2 h400
  have ha : againP t = .ok (queryT q) := by unfold againP; rw [hx]; simp only; rw [if_pos h400]
  have ha2 : againP (queryT q) = .ok (queryT q) := by unfold againP; rw [hx2]; simp only; rw [if_pos h400]
  have hK := known_any w hL hE
  have hQ := fun w' (hb : Below w.heap.size w w') => parse_any t w' (hL.sg.later hb) (hE.later hb)
  have hQ2 := fun w' (hb : Below w.heap.size w w') => parse_any (queryT q) w' (hL.sg.later hb) (hE.later hb)
  have hA := fun w' (hb : Below w.heap.size w w') => again_any t w' (hL.later hb) (hE.later hb)
  have hA2 := fun w' (hb : Below w.heap.size w w') => again_any (queryT q) w' (hL.later hb) (hE.later hb)
  have hC := fun (G : GQ) (hG : G.qu = q) w' (hb : Below w.heap.size w w') (hw : QW w' G) => checkp_of hx hG w' (hL.sg.later hb) hw
  have hSm := fun (G H : GQ) (h1 : G.qu = q) (h2 : H.qu = q) (w' : World) (k1 : QW w' G) (k2 : QW w' H) => (show Calls Tryz.prog 15 #[.agg H.row.toArray, .agg G.row.toArray] w' fun e w'' => e = .returned (.bool true) ∧ Below w'.heap.size w' w'' from by
    have h := ksameq_any H G w' k2 k1
    rw [h1, h2, sameQ_refl] at h
    exact h)
  have hW : ∃ V : List UInt8, (if 400 < (([32, 9] : List UInt8) ++ wideT (queryT q)).length then queryT q else [32, 9] ++ wideT (queryT q)) = V ∧ ∀ w', Below w.heap.size w w' → Calls Tryz.prog 11 #[.string (strOf V)] w' (RdQ w' (.ok q) quZ GQ.qu QW GQ.row) := by
    refine ⟨_, rfl, fun w' hb => ?_⟩
    split
    · have h := hQ2 w' hb
      rwa [hx2] at h
    · rename_i hn
      have h := parse_any ([32, 9] ++ wideT (queryT q)) w' (hL.sg.later hb) (hE.later hb)
      rwa [parse_wide hx2 (by omega)] at h
  obtain ⟨V, hV, hQ3⟩ := hW
  unfold AgR at hA hA2
  rw [ha] at hA
  rw [ha2] at hA2
  rw [hx] at hQ
  rw [hx2] at hQ2
  obtain ⟨l, hl9⟩ : ∃ l, l = queryT q := ⟨_, rfl⟩
  rw [← hl9] at hQ2 hA hA2 hV h400
  have hz := strOf_size l
  have hls : (l.length : Int) ≤ 400 := by omega
  clear hx hL hE ha ha2 hx2 s1 s2 hl9
  go_enter Tryz.func7, Tryz.ntmps7
  go_upto_region 7 with (first | (go_at_call 5; refine hK.mono ?_; rintro e w1 ⟨rfl, hb1⟩) | (go_at_call 11; refine (hQ _ hb1).mono ?_; rintro e w3 ⟨hb3, -, ho3⟩; obtain ⟨G, hG, hw3, rfl⟩ := ho3 _ rfl; obtain ⟨k, mn, mx, kd, bn, wi, bd, nm, qA, qn, qc, rA, rn, rc, sA, sn, sc, uA, un, uc, hrow⟩ := qform hw3; have hC3 := hC _ hG; have hS3 := fun H h2 => hSm _ H hG h2; rw [hrow] at hC3 ⊢; unfold ftV))
  refine named_wp fun W2 hW2 => ?_
  have hb4 : Below w3.heap.size w3 W2 := by rw [hW2]; exact b2 _ _ _
  have hYq : Blk W2 w3.heap.size [.int .i64 k, .int .i64 mn, .int .i64 mx, .int .i64 kd, .bool bd, .int .u64 bn, .slice qA qn qc, .string nm, .slice rA rn rc, .int .u64 wi, .slice sA sn sc, .slice uA un uc] := by rw [hW2]; exact (Blk.is (us := [.int .i64 k, .int .i64 mn, .int .i64 mx, .int .i64 kd, .bool bd, .int .u64 bn, .slice qA qn qc, .string nm, .slice rA rn rc, .int .u64 wi, .slice sA sn sc, .slice uA un uc]) _ rfl).alloc _
  have hB := bstep (bstep hb1 hb3) hb4
  have hw4 := hw3.later hb4
  clear hW2 hb1 hb3 hb4 hw3 hQ hK hC hSm
  go_upto_region 8 with (go_at_call 13; refine (hA _ hB).mono ?_; rintro e w5 ⟨hb5, -, he5⟩; obtain rfl := he5 _ rfl; unfold ftV)
  refine named_wp fun W6 hW6 => ?_
  have hb6 : Below w5.heap.size w5 W6 := by rw [hW6]; exact b1 _ _
  have hYg : Blk W6 w5.heap.size [.int .i64 0, .int .i64 0] := by rw [hW6]; exact Blk.is (us := [.int .i64 0, .int .i64 0]) _ rfl
  replace hYq := (hYq.later hb5).later hb6
  have c0 := hYq.cell 0 _ rfl
  have c1 := hYq.cell 1 _ rfl
  have c2 := hYq.cell 2 _ rfl
  have c3 := hYq.cell 3 _ rfl
  have c4 := hYq.cell 4 _ rfl
  have c5 := hYq.cell 5 _ rfl
  have c6 := hYq.cell 6 _ rfl
  have c7 := hYq.cell 7 _ rfl
  have c8 := hYq.cell 8 _ rfl
  have c9 := hYq.cell 9 _ rfl
  have c10 := hYq.cell 10 _ rfl
  have c11 := hYq.cell 11 _ rfl
  have hB6 := bstep (bstep hB hb5) hb6
  replace hw4 := (hw4.later hb5).later hb6
  have hC6 := hC3 W6 hB6 hw4
  clear hW6 hA hB hb5 hb6 hC3
  go_upto_region 12 with (go_at_call 29; refine hC6.mono ?_; rintro e w7 ⟨rfl, hb7⟩; have d0 := (hYg.later hb7).cell 0 _ rfl; have d1 := (hYg.later hb7).cell 1 _ rfl)
  have hB7 := bstep hB6 hb7
  replace hYq := hYq.later hb7
  replace hw4 := hw4.later hb7
  clear c0 c1 c2 c3 c4 c5 c6 c7 c8 c9 c10 c11 d0 d1 hYg hb7 hB6 hC6
  go_upto_region 13 with (go_at_call 11; refine (hQ2 _ hB7).mono ?_; rintro e w8 ⟨hb8, -, ho8⟩; obtain ⟨H, hH, hw8, rfl⟩ := ho8 _ rfl; obtain ⟨k0, mn0, mx0, kd0, bn0, wi0, bd0, nm0, qA0, qn0, qc0, rA0, rn0, rc0, sA0, sn0, sc0, uA0, un0, uc0, hrow0⟩ := qform hw8; have hS8 := hS3 H hH; rw [hrow0] at hS8 ⊢; unfold ftV)
  refine named_wp fun W9 hW9 => ?_
  have hb9 : Below w8.heap.size w8 W9 := by rw [hW9]; exact b2 _ _ _
  have hYr : Blk W9 w8.heap.size [.int .i64 k0, .int .i64 mn0, .int .i64 mx0, .int .i64 kd0, .bool bd0, .int .u64 bn0, .slice qA0 qn0 qc0, .string nm0, .slice rA0 rn0 rc0, .int .u64 wi0, .slice sA0 sn0 sc0, .slice uA0 un0 uc0] := by rw [hW9]; exact (Blk.is (us := [.int .i64 k0, .int .i64 mn0, .int .i64 mx0, .int .i64 kd0, .bool bd0, .int .u64 bn0, .slice qA0 qn0 qc0, .string nm0, .slice rA0 rn0 rc0, .int .u64 wi0, .slice sA0 sn0 sc0, .slice uA0 un0 uc0]) _ rfl).alloc _
  have hYh : Blk W9 (w8.heap.size + 1) [.int .i64 0, .int .i64 0] := by rw [hW9]; exact Blk.is (us := [.int .i64 0, .int .i64 0]) _ (by simp)
  have hB9 := bstep (bstep hB7 hb8) hb9
  replace hYq := (hYq.later hb8).later hb9
  replace hw4 := (hw4.later hb8).later hb9
  replace hw8 := hw8.later hb9
  clear hW9 hb8 hb9 hB7 hQ2
  go_upto_region 14 with (go_at_call 13; refine (hA2 _ hB9).mono ?_; rintro e w10 ⟨hb10, -, he10⟩; obtain rfl := he10 _ rfl; unfold ftV)
  refine named_wp fun W hWW => ?_
  have hb11 : Below w10.heap.size w10 W := by rw [hWW]; exact b1 _ _
  have hYi : Blk W w10.heap.size [.int .i64 0, .int .i64 0] := by rw [hWW]; exact Blk.is (us := [.int .i64 0, .int .i64 0]) _ rfl
  have hB11 := bstep (bstep hB9 hb10) hb11
  replace hYq := (hYq.later hb10).later hb11
  replace hw4 := (hw4.later hb10).later hb11
  replace hYr := (hYr.later hb10).later hb11
  replace hw8 := (hw8.later hb10).later hb11
  replace hYh := (hYh.later hb10).later hb11
  clear hWW hb10 hb11 hB9 hA2
  have HYQ := Lib.hid hYq
  have HYR := Lib.hid hYr
  have HYH := Lib.hid hYh
  have HYI := Lib.hid hYi
  have HW4 := Lib.hid hw4
  have HW8 := Lib.hid hw8
  have HB := Lib.hid hB11
  have HV := Lib.hid hV
  have HQ := Lib.hid hQ3
  have HSA := Lib.hid hS3
  have HSB := Lib.hid hS8
  clear hYq hYr hYh hYi hw4 hw8 hB11 hV hQ3 hS3 hS8
  go_wp2
  go_loopw [12, 13] (fun o i wr => ∃ k n : Nat, k ≤ l.length ∧ i = .int .i64 (k : Int) ∧ o = .string (strOf ([32, 9] ++ wideT (l.take k))) ∧ wr = W.drewN n) (fun _ i _ => l.length - (intOf i).toNat)
  case atStart => exact ⟨0, 0, Nat.zero_le _, rfl, rfl, rfl⟩
  case round =>
    obtain ⟨k, n, hk, rfl, rfl, rfl⟩ := hrel
    by_cases hlt : k < l.length
    · have hi : (k : Int) < (l.length : Int) := by omega
      have hex := ext9 l k hlt
      have hlen := wide_len (l.take k)
      rw [List.length_take] at hlen
      have hnx : ([32, 9] : List UInt8) ++ wideT (l.take (k + 1)) = ([32, 9] ++ wideT (l.take k)) ++ (if l[k] = 32 then [32, 13, 10, 32] else [l[k]]) := by
        rw [List.take_succ_eq_append_getElem hlt, wide_snoc, List.append_assoc]
      obtain ⟨O, hO⟩ : ∃ O, O = ([32, 9] : List UInt8) ++ wideT (l.take k) := ⟨_, rfl⟩
      have hlO : O.length ≤ 2000 := by rw [hO, List.length_append]; simp only [List.length_cons, List.length_nil]; omega
      rw [← hO] at hnx ⊢
      obtain ⟨b, hbe⟩ : ∃ b, b = l[k]'hlt := ⟨_, rfl⟩
      have hbz : (((strOf l)[k]'(by rw [strOf_size]; exact hlt)).toNat : Int) = (b.toNat : Int) := by rw [hbe]; rfl
      rw [← hbe] at hex hnx
      have f1 : (k : Int) ≤ (k : Int) + 1 := by omega
      have f2 : (k : Int) + 1 ≤ (l.length : Int) := by omega
      have f3 : ((k : Int) + 1).toNat = k + 1 := by omega
      have f4 : (0 : Int) ≤ (k : Int) := by omega
      have f5 : IntKind.i64.wrap ((k : Int) + 1) = (k : Int) + 1 := IntWalk.i64_in _ ⟨by omega, by omega⟩
      have s1 : ∀ w, (Op.stringOp .add (strOf O) (strOf [b])).run Tryz.prog w = .ok (.string (strOf (O ++ [b]))) w := sum9 O [b] (by show _ + 1 ≤ _; omega)
      have s2 : ∀ w, (Op.stringOp .add (strOf (O ++ [b])) ⟨#[13, 10, 32]⟩).run Tryz.prog w = .ok (.string (strOf (O ++ [b] ++ [13, 10, 32]))) w := sum9 (O ++ [b]) [13, 10, 32] (by rw [List.length_append]; show _ + 1 + 3 ≤ _; omega)
      rw [← hex] at s1
      have q32 : b = 32 ↔ (b.toNat : Int) = 32 := by
        constructor
        · intro h; rw [h]; rfl
        · intro h
          apply UInt8.toNat_inj.1
          have h2 : (32 : UInt8).toNat = 32 := rfl
          omega
      obtain ⟨c, hc⟩ : ∃ c : Int, c = (b.toNat : Int) := ⟨_, rfl⟩
      rw [← hc] at q32 hbz
      clear hlen hex hO hbe
      by_cases c32 : c = 32
      · have hb := q32.2 c32
        rw [if_pos hb, show ([32, 13, 10, 32] : List UInt8) = [b] ++ [13, 10, 32] from by rw [hb]; rfl, ← List.append_assoc] at hnx
        have HN := Lib.hid hnx
        clear q32 hnx hc hb
        go_wp2
        go_roundw
        case rel => exact ⟨k + 1, _, by omega, by go_num, by first | (rw [HN.out]; done) | (rw [HN.out]; simp), rfl⟩
        case measure => simp [intOf]; omega
      · have hb : ¬ b = 32 := fun h => c32 (q32.1 h)
        have c32b : (c == 32) = false := by rw [beq_eq_false_iff_ne]; exact c32
        rw [if_neg hb] at hnx
        have HN := Lib.hid hnx
        clear q32 hnx hc hb s2
        go_wp2
        go_roundw
        case rel => exact ⟨k + 1, _, by omega, by go_num, by first | (rw [HN.out]; done) | (rw [HN.out]; simp), rfl⟩
        case measure => simp [intOf]; omega
    · have hi : ¬ (k : Int) < (l.length : Int) := by omega
      obtain rfl : k = l.length := by omega
      rw [List.take_length]
      have hV' := HV.out
      obtain ⟨X, hX⟩ : ∃ X, X = ([32, 9] : List UInt8) ++ wideT l := ⟨_, rfl⟩
      rw [← hX] at hV' ⊢
      have hXs := strOf_size X
      have h0 : Below W.heap.size W (W.drewN n) := below_drewN (Below.refl _ _) n
      clear hX HV
      by_cases h4 : 400 < X.length
      · rw [if_pos h4] at hV'
        have g1 : (400 : Int) < (X.length : Int) := by omega
        subst hV'
        have HQ4 := HQ.out _ (bstep HB.out h0)
        go_upto_region 24 with (go_at_call 11; refine HQ4.mono ?_; rintro e w12 ⟨hb12, -, ho12⟩; obtain ⟨J, hJ, hw12, rfl⟩ := ho12 _ rfl; obtain ⟨k1, mn1, mx1, kd1, bn1, wi1, bd1, nm1, qA1, qn1, qc1, rA1, rn1, rc1, sA1, sn1, sc1, uA1, un1, uc1, hrow1⟩ := qform hw12; have hSJ := HSA.out J hJ; rw [hrow1] at hSJ ⊢; unfold ftV)
        refine named_wp fun W13 hW13 => ?_
        have hb13 : Below w12.heap.size w12 W13 := by rw [hW13]; exact b2 _ _ _
        have hYw : Blk W13 w12.heap.size [.int .i64 k1, .int .i64 mn1, .int .i64 mx1, .int .i64 kd1, .bool bd1, .int .u64 bn1, .slice qA1 qn1 qc1, .string nm1, .slice rA1 rn1 rc1, .int .u64 wi1, .slice sA1 sn1 sc1, .slice uA1 un1 uc1] := by rw [hW13]; exact (Blk.is (us := [.int .i64 k1, .int .i64 mn1, .int .i64 mx1, .int .i64 kd1, .bool bd1, .int .u64 bn1, .slice qA1 qn1 qc1, .string nm1, .slice rA1 rn1 rc1, .int .u64 wi1, .slice sA1 sn1 sc1, .slice uA1 un1 uc1]) _ rfl).alloc _
        have hYj : Blk W13 (w12.heap.size + 1) [.int .i64 0, .int .i64 0] := by rw [hW13]; exact Blk.is (us := [.int .i64 0, .int .i64 0]) _ (by simp)
        have hx := bstep h0 (bstep hb12 hb13)
        have hB13 := bstep HB.out hx
        have kq := HYQ.out.later hx
        have kr := HYR.out.later hx
        have kh := HYH.out.later hx
        have ki := HYI.out.later hx
        have k4 := HW4.out.later hx
        have k8 := HW8.out.later hx
        have kw := hw12.later hb13
        have hSp := HSB.out W13 k4 k8
        rw [hrow] at hSp
        have hSw := fun w14 (hb : Below W13.heap.size W13 w14) => hSJ w14 (k4.later hb) (kw.later hb)
        rw [hrow] at hSw
        have c0 := kq.cell 0 _ rfl
        have c1 := kq.cell 1 _ rfl
        have c2 := kq.cell 2 _ rfl
        have c3 := kq.cell 3 _ rfl
        have c4 := kq.cell 4 _ rfl
        have c5 := kq.cell 5 _ rfl
        have c6 := kq.cell 6 _ rfl
        have c7 := kq.cell 7 _ rfl
        have c8 := kq.cell 8 _ rfl
        have c9 := kq.cell 9 _ rfl
        have c10 := kq.cell 10 _ rfl
        have c11 := kq.cell 11 _ rfl
        have r0 := kr.cell 0 _ rfl
        have r1 := kr.cell 1 _ rfl
        have r2 := kr.cell 2 _ rfl
        have r3 := kr.cell 3 _ rfl
        have r4 := kr.cell 4 _ rfl
        have r5 := kr.cell 5 _ rfl
        have r6 := kr.cell 6 _ rfl
        have r7 := kr.cell 7 _ rfl
        have r8 := kr.cell 8 _ rfl
        have r9 := kr.cell 9 _ rfl
        have r10 := kr.cell 10 _ rfl
        have r11 := kr.cell 11 _ rfl
        have e0 := kh.cell 0 _ rfl
        have e1 := kh.cell 1 _ rfl
        have hk : ∀ w14, Below W13.heap.size W13 w14 → Blk w14 w3.heap.size [.int .i64 k, .int .i64 mn, .int .i64 mx, .int .i64 kd, .bool bd, .int .u64 bn, .slice qA qn qc, .string nm, .slice rA rn rc, .int .u64 wi, .slice sA sn sc, .slice uA un uc] ∧ Blk w14 w12.heap.size [.int .i64 k1, .int .i64 mn1, .int .i64 mx1, .int .i64 kd1, .bool bd1, .int .u64 bn1, .slice qA1 qn1 qc1, .string nm1, .slice rA1 rn1 rc1, .int .u64 wi1, .slice sA1 sn1 sc1, .slice uA1 un1 uc1] ∧ Blk w14 w10.heap.size [.int .i64 0, .int .i64 0] ∧ Blk w14 (w12.heap.size + 1) [.int .i64 0, .int .i64 0] := fun w14 hb => ⟨kq.later hb, hYw.later hb, ki.later hb, hYj.later hb⟩
        clear hW13 hYw hYj kq kr kh ki k4 k8 kw hSJ HYQ HYR HYH HYI HW4 HW8 HSA HSB HQ HQ4 hw12 hb12 hb13 hx h0
        have hfirst : True := trivial
        go_wp2_with (first | (go_at_call 15; clear hfirst; with_reducible refine hSp.mono ?_; rintro e w14 ⟨rfl, hb14⟩; obtain ⟨z1, z2, z3, z4⟩ := hk w14 hb14; have c0 := z1.cell 0 _ rfl; have c1 := z1.cell 1 _ rfl; have c2 := z1.cell 2 _ rfl; have c3 := z1.cell 3 _ rfl; have c4 := z1.cell 4 _ rfl; have c5 := z1.cell 5 _ rfl; have c6 := z1.cell 6 _ rfl; have c7 := z1.cell 7 _ rfl; have c8 := z1.cell 8 _ rfl; have c9 := z1.cell 9 _ rfl; have c10 := z1.cell 10 _ rfl; have c11 := z1.cell 11 _ rfl; have x0 := z2.cell 0 _ rfl; have x1 := z2.cell 1 _ rfl; have x2 := z2.cell 2 _ rfl; have x3 := z2.cell 3 _ rfl; have x4 := z2.cell 4 _ rfl; have x5 := z2.cell 5 _ rfl; have x6 := z2.cell 6 _ rfl; have x7 := z2.cell 7 _ rfl; have x8 := z2.cell 8 _ rfl; have x9 := z2.cell 9 _ rfl; have x10 := z2.cell 10 _ rfl; have x11 := z2.cell 11 _ rfl; have i0 := z3.cell 0 _ rfl; have i1 := z3.cell 1 _ rfl; have j0 := z4.cell 0 _ rfl; have j1 := z4.cell 1 _ rfl) | (go_at_call 15; with_reducible refine (hSw _ hb14).mono ?_; rintro e w15 ⟨rfl, hb15⟩))
        go_ret
        exact ⟨rfl, bstep hB13 (bstep hb14 hb15)⟩
      · rw [if_neg h4] at hV'
        have g1 : ¬ (400 : Int) < (X.length : Int) := by omega
        subst hV'
        have HQ4 := HQ.out _ (bstep HB.out h0)
        go_upto_region 24 with (go_at_call 11; refine HQ4.mono ?_; rintro e w12 ⟨hb12, -, ho12⟩; obtain ⟨J, hJ, hw12, rfl⟩ := ho12 _ rfl; obtain ⟨k1, mn1, mx1, kd1, bn1, wi1, bd1, nm1, qA1, qn1, qc1, rA1, rn1, rc1, sA1, sn1, sc1, uA1, un1, uc1, hrow1⟩ := qform hw12; have hSJ := HSA.out J hJ; rw [hrow1] at hSJ ⊢; unfold ftV)
        refine named_wp fun W13 hW13 => ?_
        have hb13 : Below w12.heap.size w12 W13 := by rw [hW13]; exact b2 _ _ _
        have hYw : Blk W13 w12.heap.size [.int .i64 k1, .int .i64 mn1, .int .i64 mx1, .int .i64 kd1, .bool bd1, .int .u64 bn1, .slice qA1 qn1 qc1, .string nm1, .slice rA1 rn1 rc1, .int .u64 wi1, .slice sA1 sn1 sc1, .slice uA1 un1 uc1] := by rw [hW13]; exact (Blk.is (us := [.int .i64 k1, .int .i64 mn1, .int .i64 mx1, .int .i64 kd1, .bool bd1, .int .u64 bn1, .slice qA1 qn1 qc1, .string nm1, .slice rA1 rn1 rc1, .int .u64 wi1, .slice sA1 sn1 sc1, .slice uA1 un1 uc1]) _ rfl).alloc _
        have hYj : Blk W13 (w12.heap.size + 1) [.int .i64 0, .int .i64 0] := by rw [hW13]; exact Blk.is (us := [.int .i64 0, .int .i64 0]) _ (by simp)
        have hx := bstep h0 (bstep hb12 hb13)
        have hB13 := bstep HB.out hx
        have kq := HYQ.out.later hx
        have kr := HYR.out.later hx
        have kh := HYH.out.later hx
        have ki := HYI.out.later hx
        have k4 := HW4.out.later hx
        have k8 := HW8.out.later hx
        have kw := hw12.later hb13
        have hSp := HSB.out W13 k4 k8
        rw [hrow] at hSp
        have hSw := fun w14 (hb : Below W13.heap.size W13 w14) => hSJ w14 (k4.later hb) (kw.later hb)
        rw [hrow] at hSw
        have c0 := kq.cell 0 _ rfl
        have c1 := kq.cell 1 _ rfl
        have c2 := kq.cell 2 _ rfl
        have c3 := kq.cell 3 _ rfl
        have c4 := kq.cell 4 _ rfl
        have c5 := kq.cell 5 _ rfl
        have c6 := kq.cell 6 _ rfl
        have c7 := kq.cell 7 _ rfl
        have c8 := kq.cell 8 _ rfl
        have c9 := kq.cell 9 _ rfl
        have c10 := kq.cell 10 _ rfl
        have c11 := kq.cell 11 _ rfl
        have r0 := kr.cell 0 _ rfl
        have r1 := kr.cell 1 _ rfl
        have r2 := kr.cell 2 _ rfl
        have r3 := kr.cell 3 _ rfl
        have r4 := kr.cell 4 _ rfl
        have r5 := kr.cell 5 _ rfl
        have r6 := kr.cell 6 _ rfl
        have r7 := kr.cell 7 _ rfl
        have r8 := kr.cell 8 _ rfl
        have r9 := kr.cell 9 _ rfl
        have r10 := kr.cell 10 _ rfl
        have r11 := kr.cell 11 _ rfl
        have e0 := kh.cell 0 _ rfl
        have e1 := kh.cell 1 _ rfl
        have hk : ∀ w14, Below W13.heap.size W13 w14 → Blk w14 w3.heap.size [.int .i64 k, .int .i64 mn, .int .i64 mx, .int .i64 kd, .bool bd, .int .u64 bn, .slice qA qn qc, .string nm, .slice rA rn rc, .int .u64 wi, .slice sA sn sc, .slice uA un uc] ∧ Blk w14 w12.heap.size [.int .i64 k1, .int .i64 mn1, .int .i64 mx1, .int .i64 kd1, .bool bd1, .int .u64 bn1, .slice qA1 qn1 qc1, .string nm1, .slice rA1 rn1 rc1, .int .u64 wi1, .slice sA1 sn1 sc1, .slice uA1 un1 uc1] ∧ Blk w14 w10.heap.size [.int .i64 0, .int .i64 0] ∧ Blk w14 (w12.heap.size + 1) [.int .i64 0, .int .i64 0] := fun w14 hb => ⟨kq.later hb, hYw.later hb, ki.later hb, hYj.later hb⟩
        clear hW13 hYw hYj kq kr kh ki k4 k8 kw hSJ HYQ HYR HYH HYI HW4 HW8 HSA HSB HQ HQ4 hw12 hb12 hb13 hx h0
        have hfirst : True := trivial
        go_wp2_with (first | (go_at_call 15; clear hfirst; with_reducible refine hSp.mono ?_; rintro e w14 ⟨rfl, hb14⟩; obtain ⟨z1, z2, z3, z4⟩ := hk w14 hb14; have c0 := z1.cell 0 _ rfl; have c1 := z1.cell 1 _ rfl; have c2 := z1.cell 2 _ rfl; have c3 := z1.cell 3 _ rfl; have c4 := z1.cell 4 _ rfl; have c5 := z1.cell 5 _ rfl; have c6 := z1.cell 6 _ rfl; have c7 := z1.cell 7 _ rfl; have c8 := z1.cell 8 _ rfl; have c9 := z1.cell 9 _ rfl; have c10 := z1.cell 10 _ rfl; have c11 := z1.cell 11 _ rfl; have x0 := z2.cell 0 _ rfl; have x1 := z2.cell 1 _ rfl; have x2 := z2.cell 2 _ rfl; have x3 := z2.cell 3 _ rfl; have x4 := z2.cell 4 _ rfl; have x5 := z2.cell 5 _ rfl; have x6 := z2.cell 6 _ rfl; have x7 := z2.cell 7 _ rfl; have x8 := z2.cell 8 _ rfl; have x9 := z2.cell 9 _ rfl; have x10 := z2.cell 10 _ rfl; have x11 := z2.cell 11 _ rfl; have i0 := z3.cell 0 _ rfl; have i1 := z3.cell 1 _ rfl; have j0 := z4.cell 0 _ rfl; have j1 := z4.cell 1 _ rfl) | (go_at_call 15; with_reducible refine (hSw _ hb14).mono ?_; rintro e w15 ⟨rfl, hb15⟩))
        go_ret
        exact ⟨rfl, bstep hB13 (bstep hb14 hb15)⟩
theorem lagain_any (t : List UInt8) (w : World) (hL : Lay w) (hE : ER w) : Calls Tryz.prog 7 #[.string (strOf t)] w fun e w' => e = .returned (.bool true) ∧ Below w.heap.size w w' := by
  by_cases hl : 200 < t.length
  · exact lagain_long t w hL hE hl
  · cases hx : parseP t with
    | error y => exact lagain_bad t w hL hE hl y hx
    | ok q =>
      by_cases h400 : (queryT q).length ≤ 400
      · exact lagain_ok t w hL hE hl q hx h400
      · exact lagain_large t w hL hE hl q hx h400
theorem lagainS_any (s : ByteArray) (w : World) (hL : Lay w) (hE : ER w) : Calls Tryz.prog 7 #[.string s] w fun e w' => e = .returned (.bool true) ∧ Below w.heap.size w w' := by
  have h := lagain_any s.data.toList w hL hE
  rwa [show strOf s.data.toList = s by simp [strOf]] at h
end Go.Proofs.YtdjaijhlhhnmeaaGreatDoor
