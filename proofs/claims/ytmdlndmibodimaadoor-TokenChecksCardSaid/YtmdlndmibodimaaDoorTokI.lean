/- Walks: the program's next token. -/
import Derived.Test.YtmdlndmibodimaaDoorTokH
namespace Go.Proofs.YtmdlndmibodimaaDoor
open Go.RowKit
open Tk7

theorem below1 (w : World) (o : Obj) : Below w.heap.size w (w.alloc o) := (Below.refl _ _).alloc (Nat.le_refl _) o
theorem below2 (w : World) (o p : Obj) : Below w.heap.size w ((w.alloc o).alloc p) := (below1 w o).alloc (by simp) p
theorem below3 (w : World) (o p q : Obj) : Below w.heap.size w (((w.alloc o).alloc p).alloc q) := (below2 w o p).alloc (by simp; omega) q
theorem fault_any (er a : Int) (w : World) :
    Calls Tryd.prog 29 #[.int .i64 er, .int .i64 a] w fun e w' => e = .returned (.agg #[.int .i64 er, .int .i64 a]) ∧ Below w.heap.size w w' := by
  go_enter Tryd.func29, Tryd.ntmps29
  go_wp2
  exact bodyPost_ret (v := .agg #[.int .i64 er, .int .i64 a]) (by simp [results, Tryd.results29, go_sem]; try rfl) rfl ⟨rfl, below1 _ _⟩
/-- What the next token of the bytes l from the offset a on is: its kind, its text, its place, the place behind it, or the error and its place. -/
structure NX where
  kd : Nat
  tx : List UInt8
  at_ : Nat
  nx : Nat
  er : Int
  ea : Nat
def NX.val (x : NX) : Value := .tuple #[.agg #[.int .i64 (x.kd : Int), .string (strOf x.tx), .int .i64 (x.at_ : Int)], .int .i64 (x.nx : Int), .agg #[.int .i64 x.er, .int .i64 (x.ea : Int)]]
def nextX (l : List UInt8) (a : Int) : NX :=
  if a < 0 ∨ (l.length : Int) < a then ⟨0, [], 0, 0, 2, 0⟩ else
  match nextG (l.drop a.toNat) a.toNat with
  | .error (e, p) => ⟨0, [], 0, 0, e, p⟩
  | .ok (kd, p, n) => ⟨kd, (l.drop p).take n, p, p + n, 0, 0⟩
/-- The place of the first byte from k on that is no blank. -/
def pastK (s : ByteArray) (k : Nat) : Nat := k + ((restAt s k).takeWhile blankB).length
theorem past_le {s : ByteArray} {k : Nat} (hk : k ≤ s.size) : pastK s k ≤ s.size := by
  have := while_len blankB (restAt s k)
  rw [restAt_len] at this
  unfold pastK
  omega
theorem past_ge (s : ByteArray) (k : Nat) : k ≤ pastK s k := Nat.le_add_right _ _
theorem drop_while (l : List UInt8) : l.dropWhile blankB = l.drop (l.takeWhile blankB).length := by
  induction l with
  | nil => rfl
  | cons b r ih =>
    rw [List.dropWhile_cons, List.takeWhile_cons]
    cases blankB b with
    | true => rw [if_pos rfl, if_pos rfl, List.length_cons, List.drop_succ_cons]; exact ih
    | false => rfl
theorem past_rest (s : ByteArray) (k : Nat) : (restAt s k).dropWhile blankB = restAt s (pastK s k) := by
  rw [drop_while, rest_drop]; rfl
theorem next_in {s : ByteArray} {k : Nat} (hk : k ≤ s.size) : nextX s.data.toList (k : Int) = match nextG (restAt s k) k with
    | .error (e, p) => ⟨0, [], 0, 0, e, p⟩
    | .ok (kd, p, n) => ⟨kd, (restAt s p).take n, p, p + n, 0, 0⟩ := by
  unfold nextX
  rw [if_neg (by rw [bytes_size]; omega), Int.toNat_natCast]
  rfl
theorem next_out {l : List UInt8} {a : Int} (h : a < 0 ∨ (l.length : Int) < a) : nextX l a = ⟨0, [], 0, 0, 2, 0⟩ := if_pos h
theorem nextG_end {s : ByteArray} {k : Nat} (hk : k ≤ s.size) (h : pastK s k = s.size) : nextX s.data.toList (k : Int) = ⟨0, [], 0, 0, 5, s.size⟩ := by
  rw [next_in hk]
  unfold nextG
  rw [past_rest, h, rest_nil (Nat.le_refl _), restAt_len]
  simp only
  congr 1
  omega
theorem nextG_bad {s : ByteArray} {k : Nat} (hk : k ≤ s.size) (h : pastK s k < s.size) (hz : kindR (restAt s (pastK s k)) = 0) (_hk1 : (begG (restAt s (pastK s k))).1 ≠ 0) : nextX s.data.toList (k : Int) = ⟨0, [], 0, 0, 3, pastK s k⟩ := by
  have h2 : (begG (restAt s (pastK s k))).2 = 0 := by
    unfold kindR at hz
    split at hz
    · assumption
    · contradiction
  have hl : (restAt s k).length - (restAt s (pastK s k)).length = pastK s k - k := by rw [restAt_len, restAt_len]; have := past_ge s k; omega
  rw [next_in hk]
  unfold nextG
  rw [past_rest]
  have hp := past_ge s k
  rw [rest_cons h] at h2 hl ⊢
  simp only
  rw [if_pos h2, hl, show k + (pastK s k - k) = pastK s k by omega]
theorem nextG_good {s : ByteArray} {k : Nat} (hk : k ≤ s.size) (h : pastK s k < s.size) (hz : kindR (restAt s (pastK s k)) ≠ 0) : nextX s.data.toList (k : Int) = ⟨kindR (restAt s (pastK s k)), (restAt s (pastK s k)).take (begG (restAt s (pastK s k))).2, pastK s k, pastK s k + (begG (restAt s (pastK s k))).2, 0, 0⟩ := by
  have h2 : (begG (restAt s (pastK s k))).2 ≠ 0 := by
    intro e
    unfold kindR at hz
    rw [if_pos e] at hz
    exact hz rfl
  have h3 : kindR (restAt s (pastK s k)) = (begG (restAt s (pastK s k))).1 := by unfold kindR; rw [if_neg h2]
  have hl : (restAt s k).length - (restAt s (pastK s k)).length = pastK s k - k := by rw [restAt_len, restAt_len]; have := past_ge s k; omega
  have hp := past_ge s k
  rw [h3, next_in hk]
  unfold nextG
  rw [past_rest]
  rw [rest_cons h] at h2 hl ⊢
  simp only
  rw [if_neg h2, hl, show k + (pastK s k - k) = pastK s k by omega]
  simp only
  rw [rest_cons h]
theorem beg_kind {b : UInt8} {r : List UInt8} : (begG (b :: r)).1 ≠ 0 := by
  unfold begG
  simp only
  split
  · simp
  · split
    · simp
    · split <;> simp
theorem begR_kind {s : ByteArray} {k : Nat} (h : k < s.size) : (begG (restAt s k)).1 ≠ 0 := by rw [rest_cons h]; exact beg_kind
theorem reader_out {W : World} {B : Nat} {us : List Value} {x y z : Value} (h : Blk W B [x, y, z]) (u0 u1 u2 : Value) (V : World) (hV : V = ((W.setCell ⟨B, 0, none⟩ u0).setCell ⟨B, 1, none⟩ u1).setCell ⟨B, 2, none⟩ u2) (_hus : us = [u0, u1, u2]) : Blk V B us ∧ Only B W V := by
  subst hV _hus
  exact ⟨((h.set 0 u0).set 1 u1).set 2 u2, (((Only.refl _ _).setCell _ _).setCell _ _).setCell _ _⟩
set_option maxRecDepth 100000 in
set_option maxHeartbeats 2000000 in
theorem newReader_any (s : ByteArray) (k : Nat) (hk : k ≤ s.size) (hs : s.size ≤ maxLen) (w : World) :
    Calls Tryd.prog 31 #[.string s, .int .i64 (k : Int)] w fun e w' => e = .returned (.agg #[.string s, .int .i64 (pastK s k : Int), .int .i64 (pastK s k : Int)]) ∧ Below w.heap.size w w' := by
  have hS := fun (W : World) (R : Nat) (hC : Cur W R s k 0) => skip_blank hC hk hs
  rw [show k + ((restAt s k).takeWhile blankB).length = pastK s k from rfl] at hS
  obtain ⟨j, hj⟩ : ∃ j, j = pastK s k := ⟨_, rfl⟩
  rw [← hj] at hS ⊢
  clear hj
  obtain ⟨W, hW⟩ : ∃ W, W = (w.alloc (.cells #[.string ⟨#[]⟩, .int .i64 0, .int .i64 0] 54)).alloc (.cells #[.string s, .int .i64 (k : Int), .int .i64 0] 54) := ⟨_, rfl⟩
  have hC0 : Cur W (w.heap.size + 1) s k 0 := by
    rw [hW]
    exact Blk.is (us := [.string s, .int .i64 (k : Int), .int .i64 0]) _ (by rw [World.size_alloc])
  have hK0 : Blk W w.heap.size [.string ⟨#[]⟩, .int .i64 0, .int .i64 0] := by rw [hW]; exact (Blk.is _ rfl).alloc _
  have hWb : Below w.heap.size w W := by rw [hW]; exact below2 _ _ _
  go_enter Tryd.func31, Tryd.ntmps31
  go_wp2_with fail
  rw [← hW]
  refine (hS _ _ hC0).mono ?_
  rintro e w1 ⟨rfl, hO, hC⟩
  have hK1 := hK0.under hO.below (Nat.lt_succ_self _)
  have hB1 : Below w.heap.size w w1 := hWb.trans (hO.below.mono (Nat.le_succ _))
  have hK2 := hK1.other (p := ⟨w.heap.size + 1, 2, none⟩) (by simp) (.int .i64 (j : Int))
  have hB2 := hB1.setCell (p := ⟨w.heap.size + 1, 2, none⟩) (by simp) (.int .i64 (j : Int))
  obtain ⟨hlt, c0, c1, c2, f0, f1, f2⟩ := hC.parts
  have k0 := hK1.fr 0 _ rfl
  have k1 := hK1.fr 1 _ rfl
  have k2 := hK1.fr 2 _ rfl
  have d0 := hK1.cell 0 _ rfl
  have d1 := hK1.cell 1 _ rfl
  have d2 := hK1.cell 2 _ rfl
  go_wp2
  refine named_post fun V hV => ?_
  obtain ⟨hVb, hVo⟩ := reader_out hK2 _ _ _ V hV rfl
  clear hV c0 c1 c2 f0 f1 f2 k0 k1 k2 d0 d1 d2
  have c0 := hVb.cell 0 _ rfl
  have c1 := hVb.cell 1 _ rfl
  have c2 := hVb.cell 2 _ rfl
  exact bodyPost_ret (v := .agg #[.string s, .int .i64 (j : Int), .int .i64 (j : Int)]) (by simp [results, Tryd.results31, go_sem, c0, c1, c2]; try rfl) rfl ⟨rfl, hB2.trans hVo.below⟩
/-- What the next token gives. -/
def NextP (w : World) (s : ByteArray) (a : Int) (e : Ending) (w' : World) : Prop := e = .returned (nextX s.data.toList a).val ∧ Below w.heap.size w w'
theorem tf_out {w W : World} {B : Nat} {x0 x1 x2 y0 y1 : Value} (h0 : Blk W B [x0, x1, x2]) (h1 : Blk W (B + 1) [y0, y1]) (hB : Below B w W) (u0 u1 u2 v0 v1 : Value) (V : World)
    (hV : V = ((((W.setCell ⟨B, 0, none⟩ u0).setCell ⟨B, 1, none⟩ u1).setCell ⟨B, 2, none⟩ u2).setCell ⟨B + 1, 0, none⟩ v0).setCell ⟨B + 1, 1, none⟩ v1) : Blk V B [u0, u1, u2] ∧ Blk V (B + 1) [v0, v1] ∧ Below B w V := by
  subst hV
  refine ⟨((((h0.set 0 u0).set 1 u1).set 2 u2).other (by simp) _).other (by simp) _, ((((h1.other (p := ⟨B, 0, none⟩) (by simp) _).other (p := ⟨B, 1, none⟩) (by simp) _).other (p := ⟨B, 2, none⟩) (by simp) _).set 0 v0).set 1 v1, ?_⟩
  exact ((((hB.setCell (p := ⟨B, 0, none⟩) (by simp) _).setCell (p := ⟨B, 1, none⟩) (by simp) _).setCell (p := ⟨B, 2, none⟩) (by simp) _).setCell (p := ⟨B + 1, 0, none⟩) (by simp) _).setCell (p := ⟨B + 1, 1, none⟩) (by simp) _
set_option maxRecDepth 100000 in
set_option maxHeartbeats 2000000 in
theorem next_range (s : ByteArray) (a : Int) (h : a < 0 ∨ (s.data.toList.length : Int) < a) (w : World) :
    Calls Tryd.prog 12 #[.string s, .int .i64 a] w (NextP w s a) := by
  have HX := Lib.hid (next_out h)
  rw [bytes_size] at h
  have hF := fun w => fault_any 2 0 w
  have h2 : a < 0 ∨ 0 ≤ a ∧ (s.size : Int) < a := by omega
  obtain ⟨W, hW⟩ : ∃ W, W = (w.alloc (.cells #[.int .i64 0, .string ⟨#[]⟩, .int .i64 0] 30)).alloc (.cells #[.int .i64 0, .int .i64 0] 25) := ⟨_, rfl⟩
  have hK0 : Blk W w.heap.size [.int .i64 0, .string ⟨#[]⟩, .int .i64 0] := by rw [hW]; exact (Blk.is _ rfl).alloc _
  have hK1 : Blk W (w.heap.size + 1) [.int .i64 0, .int .i64 0] := by rw [hW]; exact Blk.is _ (by simp)
  have hWb : Below w.heap.size w W := by rw [hW]; exact below2 _ _ _
  clear h
  rcases h2 with h2 | ⟨h2, h3⟩
  · go_enter Tryd.func12, Tryd.ntmps12
    go_wp2_with fail
    rw [← hW]
    refine (hF _).mono ?_
    rintro e w1 ⟨rfl, hb1⟩
    have hZ0 := hK0.later hb1
    have hZ1 := hK1.later hb1
    have hZB := bstep hWb hb1
    clear hK0 hK1 hW
    have k0 := hZ0.fr 0 _ rfl
    have k1 := hZ0.fr 1 _ rfl
    have k2 := hZ0.fr 2 _ rfl
    have d0 := hZ0.cell 0 _ rfl
    have d1 := hZ0.cell 1 _ rfl
    have d2 := hZ0.cell 2 _ rfl
    have k3 := hZ1.fr 0 _ rfl
    have k4 := hZ1.fr 1 _ rfl
    have d3 := hZ1.cell 0 _ rfl
    have d4 := hZ1.cell 1 _ rfl
    go_wp2
    refine named_post fun V hV => ?_
    obtain ⟨hVa, hVb, hVB⟩ := tf_out hZ0 hZ1 hZB _ _ _ _ _ V hV
    clear hV d0 d1 d2 d3 d4 k0 k1 k2 k3 k4
    have c0 := hVa.cell 0 _ rfl
    have c1 := hVa.cell 1 _ rfl
    have c2 := hVa.cell 2 _ rfl
    have c3 := hVb.cell 0 _ rfl
    have c4 := hVb.cell 1 _ rfl
    exact bodyPost_ret (v := .tuple #[.agg #[.int .i64 0, .string ⟨#[]⟩, .int .i64 0], .int .i64 0, .agg #[.int .i64 2, .int .i64 0]]) (by simp [results, Tryd.results12, go_sem, c0, c1, c2, c3, c4]; try rfl) rfl ⟨by rw [HX.out]; rfl, hVB⟩
  · go_enter Tryd.func12, Tryd.ntmps12
    go_wp2_with fail
    rw [← hW]
    refine (hF _).mono ?_
    rintro e w1 ⟨rfl, hb1⟩
    have hZ0 := hK0.later hb1
    have hZ1 := hK1.later hb1
    have hZB := bstep hWb hb1
    clear hK0 hK1 hW
    have k0 := hZ0.fr 0 _ rfl
    have k1 := hZ0.fr 1 _ rfl
    have k2 := hZ0.fr 2 _ rfl
    have d0 := hZ0.cell 0 _ rfl
    have d1 := hZ0.cell 1 _ rfl
    have d2 := hZ0.cell 2 _ rfl
    have k3 := hZ1.fr 0 _ rfl
    have k4 := hZ1.fr 1 _ rfl
    have d3 := hZ1.cell 0 _ rfl
    have d4 := hZ1.cell 1 _ rfl
    go_wp2
    refine named_post fun V hV => ?_
    obtain ⟨hVa, hVb, hVB⟩ := tf_out hZ0 hZ1 hZB _ _ _ _ _ V hV
    clear hV d0 d1 d2 d3 d4 k0 k1 k2 k3 k4
    have c0 := hVa.cell 0 _ rfl
    have c1 := hVa.cell 1 _ rfl
    have c2 := hVa.cell 2 _ rfl
    have c3 := hVb.cell 0 _ rfl
    have c4 := hVb.cell 1 _ rfl
    exact bodyPost_ret (v := .tuple #[.agg #[.int .i64 0, .string ⟨#[]⟩, .int .i64 0], .int .i64 0, .agg #[.int .i64 2, .int .i64 0]]) (by simp [results, Tryd.results12, go_sem, c0, c1, c2, c3, c4]; try rfl) rfl ⟨by rw [HX.out]; rfl, hVB⟩
/-- The block that the reader lies in, behind the two results. -/
theorem reader_new (W : World) (s : ByteArray) (j : Nat) (V : World) (hV : V = W.alloc (.cells #[.string s, .int .i64 (j : Int), .int .i64 (j : Int)] 54)) (R : Nat) (hR : R = W.heap.size) : Cur V R s j j ∧ Below W.heap.size W V := by
  subst hV hR
  exact ⟨Blk.is (us := [.string s, .int .i64 (j : Int), .int .i64 (j : Int)]) _ rfl, below1 _ _⟩
set_option maxRecDepth 100000 in
set_option maxHeartbeats 4000000 in
theorem next_in_any (s : ByteArray) (k : Nat) (hk : k ≤ s.size) (hs : s.size ≤ maxLen) (w : World) (hG : SG w) :
    Calls Tryd.prog 12 #[.string s, .int .i64 (k : Int)] w (NextP w s (k : Int)) := by
  have hR := fun w => newReader_any s k hk hs w
  have hF := fun er a w => fault_any er a w
  have hp1 := past_le hk
  have HE := Lib.hid (fun h => nextG_end hk h)
  have HBad := Lib.hid (fun h1 h2 h3 => nextG_bad hk h1 h2 h3)
  have HGood := Lib.hid (fun h1 h2 => nextG_good hk h1 h2)
  obtain ⟨j, hj⟩ : ∃ j, j = pastK s k := ⟨_, rfl⟩
  rw [← hj] at hR hp1 HE HBad HGood
  have h1 : ¬ (k : Int) < 0 := by omega
  have h2 : ¬ (s.size : Int) < (k : Int) := by omega
  obtain ⟨W, hW⟩ : ∃ W, W = (w.alloc (.cells #[.int .i64 0, .string ⟨#[]⟩, .int .i64 0] 30)).alloc (.cells #[.int .i64 0, .int .i64 0] 25) := ⟨_, rfl⟩
  have hK0 : Blk W w.heap.size [.int .i64 0, .string ⟨#[]⟩, .int .i64 0] := by rw [hW]; exact (Blk.is _ rfl).alloc _
  have hK1 : Blk W (w.heap.size + 1) [.int .i64 0, .int .i64 0] := by rw [hW]; exact Blk.is _ (by simp)
  have hWb : Below w.heap.size w W := by rw [hW]; exact below2 _ _ _
  have hG1 := hG.later hWb
  clear hj hG
  go_enter Tryd.func12, Tryd.ntmps12
  go_wp2_with fail
  rw [← hW]
  refine (hR _).mono ?_
  rintro e w1 ⟨rfl, hb1⟩
  have hZ0 := hK0.later hb1
  have hZ1 := hK1.later hb1
  have hZB := bstep hWb hb1
  have hG2 := hG1.later hb1
  clear hK0 hK1 hW hb1 hWb hG1
  obtain ⟨R, hRR⟩ : ∃ R, R = w1.heap.size := ⟨_, rfl⟩
  obtain ⟨w2, hw2⟩ : ∃ w2, w2 = w1.alloc (.cells #[.string s, .int .i64 (j : Int), .int .i64 (j : Int)] 54) := ⟨_, rfl⟩
  have hR2 := reader_new w1 s j w2 hw2 R hRR
  go_wp2_with fail
  rw [← hRR, ← hw2]
  obtain ⟨hC, hb2⟩ := hR2
  have hlt1 := hZ1.lt
  have hrl : w.heap.size + 1 < R := by omega
  replace hZ0 := hZ0.later hb2
  replace hZ1 := hZ1.later hb2
  replace hZB := bstep hZB hb2
  replace hG2 := hG2.later hb2
  clear hw2 hRR hb2 hlt1
  by_cases hz : j = s.size
  · have hD := isDone_any hC true (by rw [beq_iff_eq]; omega)
    subst hz
    have HX := Lib.hid (HE.out rfl)
    clear HE HBad HGood
    refine hD.mono ?_
    rintro e w3 ⟨rfl, n, rfl⟩
    replace hC := hC.drewN n
    replace hZ0 := hZ0.drewN n
    replace hZ1 := hZ1.drewN n
    replace hZB := below_drewN hZB n
    obtain ⟨W, hW⟩ : ∃ W, W = w2.drewN n := ⟨_, rfl⟩
    rw [← hW] at hC hZ0 hZ1 hZB ⊢
    obtain ⟨hlt, r0, r1, r2, f0, f1, f2⟩ := hC.parts
    clear hW
    go_wp2_with fail
    refine (hF 5 (s.size : Int) _).mono ?_
    rintro e w4 ⟨rfl, hb4⟩
    replace hZ0 := hZ0.later hb4
    replace hZ1 := hZ1.later hb4
    replace hZB := bstep hZB hb4
    clear r0 r1 r2 f0 f1 f2 hlt
    have k0 := hZ0.fr 0 _ rfl
    have k1 := hZ0.fr 1 _ rfl
    have k2 := hZ0.fr 2 _ rfl
    have d0 := hZ0.cell 0 _ rfl
    have d1 := hZ0.cell 1 _ rfl
    have d2 := hZ0.cell 2 _ rfl
    have k3 := hZ1.fr 0 _ rfl
    have k4 := hZ1.fr 1 _ rfl
    have d3 := hZ1.cell 0 _ rfl
    have d4 := hZ1.cell 1 _ rfl
    go_wp2
    refine named_post fun V hV => ?_
    obtain ⟨hVa, hVb, hVB⟩ := tf_out hZ0 hZ1 hZB _ _ _ _ _ V hV
    clear hV d0 d1 d2 d3 d4 k0 k1 k2 k3 k4
    have c0 := hVa.cell 0 _ rfl
    have c1 := hVa.cell 1 _ rfl
    have c2 := hVa.cell 2 _ rfl
    have c3 := hVb.cell 0 _ rfl
    have c4 := hVb.cell 1 _ rfl
    exact bodyPost_ret (v := .tuple #[.agg #[.int .i64 0, .string ⟨#[]⟩, .int .i64 0], .int .i64 0, .agg #[.int .i64 5, .int .i64 (s.size : Int)]]) (by simp [results, Tryd.results12, go_sem, c0, c1, c2, c3, c4]; try rfl) rfl ⟨by rw [HX.out]; rfl, hVB⟩
  · have hjl : j < s.size := by omega
    have hD := isDone_any hC false (by rw [beq_eq_false_iff_ne]; omega)
    have hP := fun n => pass_any (hC.drewN n) hjl hs (hG2.drewN n)
    replace HBad := Lib.hid (fun h => HBad.out hjl h (begR_kind hjl))
    replace HGood := Lib.hid (HGood.out hjl)
    clear HE
    refine hD.mono ?_
    rintro e w3 ⟨rfl, n, rfl⟩
    go_wp2_with fail
    refine (hP n).mono ?_
    rintro e w4 ⟨k', rfl, hO, hC4, hk1, hk2, hk3⟩
    replace hZ0 := (hZ0.drewN n).under hO.below (by omega)
    replace hZ1 := (hZ1.drewN n).under hO.below hrl
    replace hZB := (below_drewN hZB n).trans (hO.below.mono (by omega))
    clear hP hO hG2 hC
    have HK3 := Lib.hid hk3
    clear hk3
    obtain ⟨q, hq⟩ : ∃ q, q = kindR (restAt s j) := ⟨_, rfl⟩
    rw [← hq] at HBad HGood HK3 ⊢
    by_cases hq0 : q = 0
    · subst hq0
      have HX := Lib.hid (HBad.out rfl)
      clear HBad HGood hq HK3
      obtain ⟨hlt, r0, r1, r2, f0, f1, f2⟩ := hC4.parts
      go_wp2_with fail
      refine (hF 3 (j : Int) _).mono ?_
      rintro e w5 ⟨rfl, hb5⟩
      replace hZ0 := hZ0.later hb5
      replace hZ1 := hZ1.later hb5
      replace hZB := bstep hZB hb5
      clear r0 r1 r2 f0 f1 f2 hlt
      have k0 := hZ0.fr 0 _ rfl
      have k1 := hZ0.fr 1 _ rfl
      have k2 := hZ0.fr 2 _ rfl
      have d0 := hZ0.cell 0 _ rfl
      have d1 := hZ0.cell 1 _ rfl
      have d2 := hZ0.cell 2 _ rfl
      have k3 := hZ1.fr 0 _ rfl
      have k4 := hZ1.fr 1 _ rfl
      have d3 := hZ1.cell 0 _ rfl
      have d4 := hZ1.cell 1 _ rfl
      go_wp2
      refine named_post fun V hV => ?_
      obtain ⟨hVa, hVb, hVB⟩ := tf_out hZ0 hZ1 hZB _ _ _ _ _ V hV
      clear hV d0 d1 d2 d3 d4 k0 k1 k2 k3 k4
      have c0 := hVa.cell 0 _ rfl
      have c1 := hVa.cell 1 _ rfl
      have c2 := hVa.cell 2 _ rfl
      have c3 := hVb.cell 0 _ rfl
      have c4 := hVb.cell 1 _ rfl
      exact bodyPost_ret (v := .tuple #[.agg #[.int .i64 0, .string ⟨#[]⟩, .int .i64 0], .int .i64 0, .agg #[.int .i64 3, .int .i64 (j : Int)]]) (by simp [results, Tryd.results12, go_sem, c0, c1, c2, c3, c4]; try rfl) rfl ⟨by rw [HX.out]; rfl, hVB⟩
    · have HX := Lib.hid (HGood.out hq0)
      have hk4 := HK3.out hq0
      have hT := fun (W : World) (hC : Cur W R s k' j) => taken_any hC hk1 hk2 ((restAt s j).take (begG (restAt s j)).2) (by rw [hk4, Nat.add_sub_cancel_left])
      have hqi : ¬ (q : Int) = 0 := by omega
      have hqb : ((q : Int) == 0) = false := by rw [beq_eq_false_iff_ne]; exact hqi
      obtain ⟨T, hT2⟩ : ∃ T, T = strOf ((restAt s j).take (begG (restAt s j)).2) := ⟨_, rfl⟩
      rw [← hT2] at hT
      have HT := Lib.hid hT2
      have HK4 := Lib.hid hk4
      clear HBad HGood hq hk4 hT2 HK3
      go_upto_region 9 with (fail)
      go_cut [5] (fun s5 wx => s5 = .int .i64 (k' : Int) ∧ Blk wx w.heap.size [.int .i64 (q : Int), .string T, .int .i64 (j : Int)] ∧ Blk wx (w.heap.size + 1) [.int .i64 0, .int .i64 0] ∧ Below w.heap.size w wx)
      case first =>
        obtain ⟨hlt, r0, r1, r2, f0, f1, f2⟩ := hC4.parts
        have k0 := hZ0.fr 0 _ rfl
        have k1 := hZ0.fr 1 _ rfl
        have k2 := hZ0.fr 2 _ rfl
        have d0 := hZ0.cell 0 _ rfl
        have d1 := hZ0.cell 1 _ rfl
        have d2 := hZ0.cell 2 _ rfl
        have k3 := hZ1.fr 0 _ rfl
        have k4 := hZ1.fr 1 _ rfl
        have d3 := hZ1.cell 0 _ rfl
        have d4 := hZ1.cell 1 _ rfl
        go_region_with ((go_at_call 34; refine (hT _ (by first | exact hC4 | exact Blk.drew hC4 | exact Blk.drew (Blk.drew hC4) | exact Blk.drew (Blk.drew (Blk.drew hC4)))).mono ?_; rintro e w5 ⟨rfl, m, rfl⟩))
        all_goals
          go_wp2_with fail
          go_meet
          exact ⟨rfl, tf_out (hZ0.drewN _) (hZ1.drewN _) (below_drewN hZB _) _ _ _ _ _ _ rfl⟩
      case rest =>
        obtain ⟨rfl, hZ0, hZ1, hZB⟩ := hcut
        have c0 := hZ0.cell 0 _ rfl
        have c1 := hZ0.cell 1 _ rfl
        have c2 := hZ0.cell 2 _ rfl
        have c3 := hZ1.cell 0 _ rfl
        have c4 := hZ1.cell 1 _ rfl
        go_wp2
        exact bodyPost_ret (v := .tuple #[.agg #[.int .i64 (q : Int), .string T, .int .i64 (j : Int)], .int .i64 (k' : Int), .agg #[.int .i64 0, .int .i64 0]]) (by simp [results, Tryd.results12, go_sem, c0, c1, c2, c3, c4]; try rfl) rfl ⟨by rw [HX.out, HT.out, HK4.out]; rfl, hZB⟩
theorem next_any (s : ByteArray) (a : Int) (hs : s.size ≤ maxLen) (w : World) (hG : SG w) :
    Calls Tryd.prog 12 #[.string s, .int .i64 a] w (NextP w s a) := by
  by_cases h : a < 0 ∨ (s.data.toList.length : Int) < a
  · exact next_range s a h w
  · rw [bytes_size] at h
    obtain ⟨k, rfl⟩ := Int.eq_ofNat_of_zero_le (show 0 ≤ a by omega)
    exact next_in_any s k (by omega) hs w hG
end Go.Proofs.YtmdlndmibodimaaDoor
