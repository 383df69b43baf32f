/- Walk: a query's text that is cut off is refused, or is a query with the same pattern. Made by program (wip/tools/gen_parCt.py). -/
import Derived.Test.YtdjaijhlhhnmeaaGreatDoorParBk
import Derived.Test.YtdjaijhlhhnmeaaGreatDoorParMathI
namespace Go.Proofs.YtdjaijhlhhnmeaaGreatDoor
open Go.RowKit
open A8 Tk7 P9 Kq

theorem cut9 (l : List UInt8) (k : Nat) : (strOf l).extract 0 k = strOf (l.take k) := by
  apply ByteArray.ext
  rw [ByteArray.data_extract]
  apply Array.toList_inj.1
  rw [Array.toList_extract]
  simp only [List.extract_eq_take_drop, strOf, List.drop_zero, Nat.sub_zero]
set_option maxRecDepth 100000 in
set_option maxHeartbeats 4000000 in
theorem lcuts_large (V : Value) (l : List Int) (a : Int) (s : List UInt8) (w : World) (hL : Lay w) (hE : ER w) (hv : Slc w V (vals .i64 l)) (h400 : ¬ (queryT (kitQ l)).length ≤ 400) : Calls Tryz.prog 8 #[V, .int .i64 a, .string (strOf s)] w fun e w' => e = .returned (.bool true) ∧ Below w.heap.size w w' := by
  have hok := kitQ_ok l
  obtain ⟨q, hq9⟩ : ∃ q, q = kitQ l := ⟨_, rfl⟩
  rw [← hq9] at hok h400
  have hK := known_any w hL hE
  have hKQ : ∀ w', Below w.heap.size w w' → Calls Tryz.prog 26 #[V] w' fun e w'' => ∃ G : GQ, G.qu = q ∧ QW w'' G ∧ e = .returned (.agg G.row.toArray) ∧ Below w'.heap.size w' w'' := fun w' hb => by rw [hq9]; exact query_any V l w' (hv.below hb)
  have hPr := fun (G : GQ) (hG : G.qu = q) w' (hb : Below w.heap.size w w') (hw : QW w' G) => kprint hok hG w' (hL.later hb) hw
  obtain ⟨vA, vn, rfl⟩ : ∃ A c, V = .slice A l.length c := by obtain ⟨A, cap, h, _⟩ := hv.ints; exact ⟨A, cap, h⟩
  simp only [if_neg h400] at hPr
  clear hL hE hq9 h400 hok hv
  go_enter Tryz.func8, Tryz.ntmps8
  go_wp2_with (first | (go_at_call 5; refine hK.mono ?_; rintro e w1 ⟨rfl, hb1⟩) | (go_at_call 26; refine (hKQ _ hb1).mono ?_; rintro e w3 ⟨G, hG, hw3, rfl, hb3⟩; have hP3 := hPr _ hG _ (bstep hb1 hb3) hw3) | (go_at_call 27; refine hP3.mono ?_; rintro e w5 ⟨rfl, hb5⟩))
  go_ret
  exact ⟨rfl, bstep (bstep hb1 hb3) hb5⟩
set_option maxRecDepth 100000 in
set_option maxHeartbeats 4000000 in
theorem lcuts_early (V : Value) (l : List Int) (a : Int) (s : List UInt8) (w : World) (hL : Lay w) (hE : ER w) (hv : Slc w V (vals .i64 l)) (h400 : (queryT (kitQ l)).length ≤ 400) (h : 300 < (queryT (kitQ l)).length ∨ 60 < s.length) : Calls Tryz.prog 8 #[V, .int .i64 a, .string (strOf s)] w fun e w' => e = .returned (.bool true) ∧ Below w.heap.size w w' := by
  have hok := kitQ_ok l
  obtain ⟨q, hq9⟩ : ∃ q, q = kitQ l := ⟨_, rfl⟩
  rw [← hq9] at hok h400 h
  have hK := known_any w hL hE
  have hKQ : ∀ w', Below w.heap.size w w' → Calls Tryz.prog 26 #[V] w' fun e w'' => ∃ G : GQ, G.qu = q ∧ QW w'' G ∧ e = .returned (.agg G.row.toArray) ∧ Below w'.heap.size w' w'' := fun w' hb => by rw [hq9]; exact query_any V l w' (hv.below hb)
  have hPr := fun (G : GQ) (hG : G.qu = q) w' (hb : Below w.heap.size w w') (hw : QW w' G) => kprint hok hG w' (hL.later hb) hw
  obtain ⟨vA, vn, rfl⟩ : ∃ A c, V = .slice A l.length c := by obtain ⟨A, cap, h, _⟩ := hv.ints; exact ⟨A, cap, h⟩
  simp only [if_pos h400] at hPr
  obtain ⟨S, hS⟩ : ∃ S, S = queryT q := ⟨_, rfl⟩
  rw [← hS] at hPr h400 h
  have hs1 := strOf_size S
  have hs2 := strOf_size s
  by_cases h3 : 300 < S.length
  · have g1 : (300 : Int) < (S.length : Int) := by omega
    clear hL hE hq9 h400 hok hv h hS h3
    go_enter Tryz.func8, Tryz.ntmps8
    go_wp2_with (first | (go_at_call 5; refine hK.mono ?_; rintro e w1 ⟨rfl, hb1⟩) | (go_at_call 26; refine (hKQ _ hb1).mono ?_; rintro e w3 ⟨G, hG, hw3, rfl, hb3⟩; have hP3 := hPr _ hG _ (bstep hb1 hb3) hw3) | (go_at_call 27; refine hP3.mono ?_; rintro e w5 ⟨rfl, hb5⟩))
    go_ret
    exact ⟨rfl, bstep (bstep hb1 hb3) hb5⟩
  · have g1 : ¬ (300 : Int) < (S.length : Int) := by omega
    have g2 : (60 : Int) < (s.length : Int) := by omega
    clear hL hE hq9 h400 hok hv h hS h3
    go_enter Tryz.func8, Tryz.ntmps8
    go_wp2_with (first | (go_at_call 5; refine hK.mono ?_; rintro e w1 ⟨rfl, hb1⟩) | (go_at_call 26; refine (hKQ _ hb1).mono ?_; rintro e w3 ⟨G, hG, hw3, rfl, hb3⟩; have hP3 := hPr _ hG _ (bstep hb1 hb3) hw3) | (go_at_call 27; refine hP3.mono ?_; rintro e w5 ⟨rfl, hb5⟩))
    go_ret
    exact ⟨rfl, bstep (bstep hb1 hb3) hb5⟩
set_option maxRecDepth 100000 in
set_option maxHeartbeats 8000000 in
theorem lcuts_bad (V : Value) (l : List Int) (a : Int) (s : List UInt8) (w : World) (hL : Lay w) (hE : ER w) (hv : Slc w V (vals .i64 l)) (h300 : (queryT (kitQ l)).length ≤ 300) (h60 : s.length ≤ 60) (y : F) (hx : parseP ((queryT (kitQ l)).take (a % ((queryT (kitQ l)).length + 1 : Int)).toNat) = .error y) : Calls Tryz.prog 8 #[V, .int .i64 a, .string (strOf s)] w fun e w' => e = .returned (.bool true) ∧ Below w.heap.size w w' := by
  have hok := kitQ_ok l
  obtain ⟨q, hq9⟩ : ∃ q, q = kitQ l := ⟨_, rfl⟩
  rw [← hq9] at hok h300 hx
  have hK := known_any w hL hE
  have hKQ : ∀ w', Below w.heap.size w w' → Calls Tryz.prog 26 #[V] w' fun e w'' => ∃ G : GQ, G.qu = q ∧ QW w'' G ∧ e = .returned (.agg G.row.toArray) ∧ Below w'.heap.size w' w'' := fun w' hb => by rw [hq9]; exact query_any V l w' (hv.below hb)
  have hPr := fun (G : GQ) (hG : G.qu = q) w' (hb : Below w.heap.size w w') (hw : QW w' G) => kprint hok hG w' (hL.later hb) hw
  have h400 : (queryT q).length ≤ 400 := by omega
  obtain ⟨vA, vn, rfl⟩ : ∃ A c, V = .slice A l.length c := by obtain ⟨A, cap, h, _⟩ := hv.ints; exact ⟨A, cap, h⟩
  simp only [if_pos h400] at hPr
  obtain ⟨m, hm⟩ : ∃ m, m = (a % ((queryT q).length + 1 : Int)).toNat := ⟨_, rfl⟩
  have hmI : a % ((queryT q).length + 1 : Int) = (m : Int) := by
    have := Int.emod_nonneg a (show ((queryT q).length + 1 : Int) ≠ 0 by omega)
    omega
  have hmn : m ≤ (queryT q).length := by
    have := Int.emod_lt_of_pos a (show (0 : Int) < ((queryT q).length + 1 : Int) by omega)
    omega
  rw [← hm] at hx
  have hM := fun w' => mod_any a ((queryT q).length + 1 : Int) w' (by omega) (by omega)
  rw [hmI] at hM
  have hQ := fun w' (hb : Below w.heap.size w w') => parse_any ((queryT q).take m) w' (hL.sg.later hb) (hE.later hb)
  rw [hx] at hQ
  obtain ⟨y1, y2, y3⟩ := fault_in hx
  rw [List.length_take] at y2 y3
  have yb : (y.1 == 0) = false := by rw [beq_eq_false_iff_ne]; exact y1
  have y4 : ¬ (y.2 : Int) < 0 := by omega
  have y5 : ¬ (m : Int) < (y.2 : Int) := by omega
  have y6 : y.1 = 5 → (y.2 : Int) = (m : Int) := fun h => by have := y3 h; omega
  obtain ⟨z, hz⟩ := parse_semicolon hok.check (kq_ok hok) s
  have hQ2 := fun w' (hb : Below w.heap.size w w') => parse_any (queryT q ++ 59 :: 32 :: s) w' (hL.sg.later hb) (hE.later hb)
  rw [hz] at hQ2
  have z1 := (fault_in hz).1
  have zb : (z.1 == 0) = false := by rw [beq_eq_false_iff_ne]; exact z1
  obtain ⟨S, hS⟩ : ∃ S, S = queryT q := ⟨_, rfl⟩
  rw [← hS] at hPr hM hQ hQ2 h300 hmn
  have hs1 := strOf_size S
  have hs2 := strOf_size s
  have g1 : ¬ (300 : Int) < (S.length : Int) := by omega
  have g2 : ¬ (60 : Int) < (s.length : Int) := by omega
  have g3 : (m : Int) ≤ (S.length : Int) := by omega
  have g4 : (0 : Int) ≤ (m : Int) := by omega
  have hex := cut9 S m
  have s1 : ∀ w', (Op.stringOp .add (strOf S) ⟨#[59, 32]⟩).run Tryz.prog w' = .ok (.string (strOf (S ++ [59, 32]))) w' := sum9 S [59, 32] (by simp only [List.length_cons, List.length_nil]; omega)
  have s2 : ∀ w', (Op.stringOp .add (strOf (S ++ [59, 32])) (strOf s)).run Tryz.prog w' = .ok (.string (strOf (S ++ [59, 32] ++ s))) w' := sum9 (S ++ [59, 32]) s (by simp only [List.length_append, List.length_cons, List.length_nil]; omega)
  obtain ⟨Z1, hZ1⟩ : ∃ Z1, Z1 = S ++ [59, 32] := ⟨_, rfl⟩
  obtain ⟨Z2, hZ2⟩ : ∃ Z2, Z2 = S ++ 59 :: 32 :: s := ⟨_, rfl⟩
  have hZ3 : Z1 ++ s = Z2 := by rw [hZ1, hZ2, List.append_assoc]; rfl
  rw [← hZ2] at hQ2
  rw [← hZ1] at s1 s2
  rw [hZ3] at s2
  obtain ⟨R, hR⟩ : ∃ R, R = S.take m := ⟨_, rfl⟩
  rw [← hR] at hex hQ
  obtain ⟨c5, hc5⟩ : ∃ c5, (y.1 == 5) = c5 := ⟨_, rfl⟩
  have y7 : c5 = true → ((y.2 : Int) != (m : Int)) = false := fun h => by
    rw [h, beq_iff_eq] at hc5
    have h2 := y6 hc5
    rw [h2]
    simp
  have hN1 : IntKind.i64.wrap ((S.length : Int) + 1) = (S.length : Int) + 1 := IntWalk.i64_in _ ⟨by omega, by omega⟩
  clear hL hE hq9 h400 hok hv hS hx hz z1 y1 y2 y3 y6 h300 h60 hm hmI hmn hZ1 hZ2 hZ3 hR
  go_enter Tryz.func8, Tryz.ntmps8
  go_upto_region 7 with (first | (go_at_call 5; refine hK.mono ?_; rintro e w1 ⟨rfl, hb1⟩) | (go_at_call 26; refine (hKQ _ hb1).mono ?_; rintro e w3 ⟨G, hG, hw3, rfl, hb3⟩; have hP3 := hPr _ hG _ (bstep hb1 hb3) hw3) | (go_at_call 27; refine hP3.mono ?_; rintro e w5 ⟨rfl, hb5⟩) | (go_at_call 30; refine (hM _).mono ?_; rintro e w6 ⟨rfl, rfl⟩) | (go_at_call 11; refine (hQ _ (bstep (bstep hb1 hb3) hb5)).mono ?_; rintro e w7 ⟨hb7, ho7, -⟩; obtain rfl := ho7 _ rfl; unfold ftV))
  refine named_wp fun W8 hW8 => ?_
  have hb8 : Below w7.heap.size w7 W8 := by rw [hW8]; exact b2 _ _ _
  have hYf : Blk W8 (w7.heap.size + 1) [.int .i64 y.1, .int .i64 (y.2 : Int)] := by rw [hW8]; exact Blk.is (us := [.int .i64 y.1, .int .i64 (y.2 : Int)]) _ (by simp)
  have hB8 := bstep (bstep (bstep (bstep hb1 hb3) hb5) hb7) hb8
  have f0 := hYf.cell 0 _ rfl
  have f1 := hYf.cell 1 _ rfl
  clear hW8 hK hKQ hPr hP3 hM hQ hYf
  cases c5 with
  | true =>
    have y8 := y7 rfl
    clear y7
    go_wp2_with (go_at_call 11; refine (hQ2 _ hB8).mono ?_; rintro e w9 ⟨hb9, ho9, -⟩; obtain rfl := ho9 _ rfl; unfold ftV)
    go_ret
    exact ⟨rfl, bstep hB8 (bstep hb9 (b2 _ _ _))⟩
  | false =>
    clear y7
    go_wp2_with (go_at_call 11; refine (hQ2 _ hB8).mono ?_; rintro e w9 ⟨hb9, ho9, -⟩; obtain rfl := ho9 _ rfl; unfold ftV)
    go_ret
    exact ⟨rfl, bstep hB8 (bstep hb9 (b2 _ _ _))⟩
set_option maxRecDepth 100000 in
set_option maxHeartbeats 8000000 in
theorem lcuts_good (V : Value) (l : List Int) (a : Int) (s : List UInt8) (w : World) (hL : Lay w) (hE : ER w) (hv : Slc w V (vals .i64 l)) (h300 : (queryT (kitQ l)).length ≤ 300) (h60 : s.length ≤ 60) (q2 : Qu) (hx : parseP ((queryT (kitQ l)).take (a % ((queryT (kitQ l)).length + 1 : Int)).toNat) = .ok q2) : Calls Tryz.prog 8 #[V, .int .i64 a, .string (strOf s)] w fun e w' => e = .returned (.bool true) ∧ Below w.heap.size w w' := by
  have hok := kitQ_ok l
  obtain ⟨q, hq9⟩ : ∃ q, q = kitQ l := ⟨_, rfl⟩
  rw [← hq9] at hok h300 hx
  have hK := known_any w hL hE
  have hKQ : ∀ w', Below w.heap.size w w' → Calls Tryz.prog 26 #[V] w' fun e w'' => ∃ G : GQ, G.qu = q ∧ QW w'' G ∧ e = .returned (.agg G.row.toArray) ∧ Below w'.heap.size w' w'' := fun w' hb => by rw [hq9]; exact query_any V l w' (hv.below hb)
  have hPr := fun (G : GQ) (hG : G.qu = q) w' (hb : Below w.heap.size w w') (hw : QW w' G) => kprint hok hG w' (hL.later hb) hw
  have h400 : (queryT q).length ≤ 400 := by omega
  obtain ⟨vA, vn, rfl⟩ : ∃ A c, V = .slice A l.length c := by obtain ⟨A, cap, h, _⟩ := hv.ints; exact ⟨A, cap, h⟩
  simp only [if_pos h400] at hPr
  obtain ⟨m, hm⟩ : ∃ m, m = (a % ((queryT q).length + 1 : Int)).toNat := ⟨_, rfl⟩
  have hmI : a % ((queryT q).length + 1 : Int) = (m : Int) := by
    have := Int.emod_nonneg a (show ((queryT q).length + 1 : Int) ≠ 0 by omega)
    omega
  have hmn : m ≤ (queryT q).length := by
    have := Int.emod_lt_of_pos a (show (0 : Int) < ((queryT q).length + 1 : Int) by omega)
    omega
  rw [← hm] at hx
  have hM := fun w' => mod_any a ((queryT q).length + 1 : Int) w' (by omega) (by omega)
  rw [hmI] at hM
  have hQ := fun w' (hb : Below w.heap.size w w') => parse_any ((queryT q).take m) w' (hL.sg.later hb) (hE.later hb)
  rw [hx] at hQ
  obtain ⟨k1, k2⟩ := cut_query hok.check (kq_ok hok) m hx
  have hsp := (checkB_facts hok.check).1
  have ht4 : (textN q.p).length ≤ 400 := Nat.le_trans (text_le q) h400
  have hNd := fun (H : GQ) (hH : H.qu = q2) w' (hb : Below w.heap.size w w') (hw : TrW w' H.t) => kpattern hsp (by have := hok.few; omega) ht4 (T := H.t) (by rw [← k1, ← hH]; rfl) w' (hL.later hb) hw
  obtain ⟨Y, hY⟩ := text_head q
  obtain ⟨t, ht⟩ : ∃ t, t = textN q.p := ⟨_, rfl⟩
  rw [← ht] at hNd k2 hY
  have hts := strOf_size t
  have hl1 : (t.length : Int) ≤ (m : Int) := by omega
  have hex2 := cut9 (queryT q) t.length
  have hex3 : (queryT q).take t.length = t := by rw [hY, List.take_left]
  rw [hex3] at hex2
  clear hex3
  have hl2 : (t.length : Int) ≤ ((queryT q).length : Int) := by omega
  obtain ⟨S, hS⟩ : ∃ S, S = queryT q := ⟨_, rfl⟩
  rw [← hS] at hPr hM hQ h300 hmn hex2 hl2
  have hs1 := strOf_size S
  have hs2 := strOf_size s
  have g1 : ¬ (300 : Int) < (S.length : Int) := by omega
  have g2 : ¬ (60 : Int) < (s.length : Int) := by omega
  have g3 : (m : Int) ≤ (S.length : Int) := by omega
  have g4 : (0 : Int) ≤ (m : Int) := by omega
  have hex := cut9 S m
  obtain ⟨R, hR⟩ : ∃ R, R = S.take m := ⟨_, rfl⟩
  rw [← hR] at hex hQ
  have hN1 : IntKind.i64.wrap ((S.length : Int) + 1) = (S.length : Int) + 1 := IntWalk.i64_in _ ⟨by omega, by omega⟩
  clear hL hE hq9 h400 hok hv hS hx h300 h60 hm hmI hmn hR hsp ht4 k1 k2 hY ht
  go_enter Tryz.func8, Tryz.ntmps8
  go_upto_region 7 with (first | (go_at_call 5; refine hK.mono ?_; rintro e w1 ⟨rfl, hb1⟩) | (go_at_call 26; refine (hKQ _ hb1).mono ?_; rintro e w3 ⟨G, hG, hw3, rfl, hb3⟩; have hP3 := hPr _ hG _ (bstep hb1 hb3) hw3) | (go_at_call 27; refine hP3.mono ?_; rintro e w5 ⟨rfl, hb5⟩) | (go_at_call 30; refine (hM _).mono ?_; rintro e w6 ⟨rfl, rfl⟩) | (go_at_call 11; refine (hQ _ (bstep (bstep hb1 hb3) hb5)).mono ?_; rintro e w7 ⟨hb7, -, ho7⟩; obtain ⟨H, hH, hw7, rfl⟩ := ho7 _ rfl; obtain ⟨k, mn, mx, kd, bn, wi, bd, nm, qA, qn, qc, rA, rn, rc, sA, sn, sc, uA, un, uc, hrow, hrow2⟩ := qnform hw7; have hN7 := hNd H hH; rw [hrow2] at hN7; rw [hrow]; unfold ftV))
  refine named_wp fun W8 hW8 => ?_
  have hb8 : Below w7.heap.size w7 W8 := by rw [hW8]; exact b2 _ _ _
  have hYq : Blk W8 w7.heap.size [.int .i64 k, .int .i64 mn, .int .i64 mx, .int .i64 kd, .bool bd, .int .u64 bn, .slice qA qn qc, .string nm, .slice rA rn rc, .int .u64 wi, .slice sA sn sc, .slice uA un uc] := by rw [hW8]; exact (Blk.is (us := [.int .i64 k, .int .i64 mn, .int .i64 mx, .int .i64 kd, .bool bd, .int .u64 bn, .slice qA qn qc, .string nm, .slice rA rn rc, .int .u64 wi, .slice sA sn sc, .slice uA un uc]) _ rfl).alloc _
  have hYf : Blk W8 (w7.heap.size + 1) [.int .i64 0, .int .i64 0] := by rw [hW8]; exact Blk.is (us := [.int .i64 0, .int .i64 0]) _ (by simp)
  have hB8 := bstep (bstep (bstep (bstep hb1 hb3) hb5) hb7) hb8
  have hN8 := hN7 W8 hB8 (hw7.later hb8).tr
  have f0 := hYf.cell 0 _ rfl
  have f1 := hYf.cell 1 _ rfl
  have c0 := hYq.cell 0 _ rfl
  have c1 := hYq.cell 1 _ rfl
  have c2 := hYq.cell 2 _ rfl
  have c3 := hYq.cell 3 _ rfl
  have c4 := hYq.cell 4 _ rfl
  have c5 := hYq.cell 5 _ rfl
  have c6 := hYq.cell 6 _ rfl
  have c7 := hYq.cell 7 _ rfl
  have c8 := hYq.cell 8 _ rfl
  clear hW8 hK hKQ hPr hP3 hM hQ hYf hYq hNd hN7
  go_wp2_with (go_at_call 28; refine hN8.mono ?_; rintro e w9 ⟨rfl, hb9⟩)
  go_ret
  exact ⟨rfl, bstep hB8 hb9⟩
theorem lcuts_any (V : Value) (l : List Int) (a : Int) (s : ByteArray) (w : World) (hL : Lay w) (hE : ER w) (hv : Slc w V (vals .i64 l)) : Calls Tryz.prog 8 #[V, .int .i64 a, .string s] w fun e w' => e = .returned (.bool true) ∧ Below w.heap.size w w' := by
  have hs : s = strOf s.data.toList := rfl
  rw [hs]
  by_cases h400 : (queryT (kitQ l)).length ≤ 400
  · by_cases h : 300 < (queryT (kitQ l)).length ∨ 60 < s.data.toList.length
    · exact lcuts_early V l a _ w hL hE hv h400 h
    · cases hx : parseP ((queryT (kitQ l)).take (a % ((queryT (kitQ l)).length + 1 : Int)).toNat) with
      | error y => exact lcuts_bad V l a _ w hL hE hv (by omega) (by omega) y hx
      | ok q2 => exact lcuts_good V l a _ w hL hE hv (by omega) (by omega) q2 hx
  · exact lcuts_large V l a _ w hL hE hv h400
end Go.Proofs.YtdjaijhlhhnmeaaGreatDoor
