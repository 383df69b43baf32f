/- Walks: the document's own first token. -/
import Derived.Test.YtmdlndmibodimaaDoorTokV
namespace Go.Proofs.YtmdlndmibodimaaDoor
open Go.RowKit
open Tk7

theorem ext_zero (l : List UInt8) (n : Nat) : (strOf l).extract 0 n = strOf (l.take n) := by
  rw [ext_take]
  unfold restAt
  rw [strOf_dat]
  rfl
/-- What the first token is. -/
def BegP (l : List UInt8) (w : World) (e : Ending) (w' : World) : Prop := ∃ kd : Int, e = .returned (.agg #[.int .i64 kd, .string (strOf (l.take (begG l).2)), .int .i64 0]) ∧ ((begG l).2 ≠ 0 → kd = ((begG l).1 : Int)) ∧ Below w.heap.size w w'
theorem tk_out {w W : World} {B : Nat} {x0 x1 x2 : Value} (h0 : Blk W B [x0, x1, x2]) (hB : Below B w W) (u0 u1 u2 : Value) (V : World)
    (hV : V = (((W.setCell ⟨B, 0, none⟩ u0).setCell ⟨B, 1, none⟩ u1).setCell ⟨B, 2, none⟩ u2)) : Blk V B [u0, u1, u2] ∧ Below B w V := by
  subst hV
  exact ⟨((h0.set 0 u0).set 1 u1).set 2 u2, ((hB.setCell (p := ⟨B, 0, none⟩) (by simp) _).setCell (p := ⟨B, 1, none⟩) (by simp) _).setCell (p := ⟨B, 2, none⟩) (by simp) _⟩
theorem TkZ (w W : World) (h : W = w.alloc (.cells #[.int .i64 0, .string ⟨#[]⟩, .int .i64 0] 30)) : Blk W w.heap.size [.int .i64 0, .string ⟨#[]⟩, .int .i64 0] ∧ Below w.heap.size w W := by
  subst h
  exact ⟨Blk.is _ rfl, below1 _ _⟩
set_option maxRecDepth 100000 in
set_option maxHeartbeats 4000000 in
theorem rbegins_small (l : List UInt8) (h0 : 0 < l.length) (hl : l.length ≤ 1000000) (h1 : smallB (l[0]'h0) = true) (w : World) :
    Calls Tryd.prog 38 #[.string (strOf l)] w (BegP l w) := by
  have hb := begL_1 h0 h1
  obtain ⟨W, hW⟩ : ∃ W, W = w.alloc (.cells #[.int .i64 0, .string ⟨#[]⟩, .int .i64 0] 30) := ⟨_, rfl⟩
  obtain ⟨hZ, hZB⟩ := TkZ w W hW
  have hsz : (strOf l).size = l.length := strOf_size l
  have q0 : 0 < (strOf l).size := by omega
  have g1 : (0 : Int) < (l.length : Int) := by omega
  have hx0 : ((strOf l)[0]'q0) = l[0]'h0 := rfl
  have hS := fun w => rsmall_any (l[0]'h0) w
  rw [h1, ← hx0] at hS
  clear hx0
  obtain ⟨D, hD⟩ : ∃ D, D = (l.takeWhile smallB).length := ⟨_, rfl⟩
  rw [← hD] at hb
  have HD := Lib.hid hD
  have H0 := Lib.hid (show D = 0 + ((l.drop 0).takeWhile smallB).length by rw [List.drop_zero, hD]; omega)
  have HB := Lib.hid hb
  clear hD hb h1
  go_enter Tryd.func38, Tryd.ntmps38
  go_wp2_with fail
  rw [← hW]
  clear hW
  refine (hS _).mono ?_; rintro e w1 ⟨rfl, rfl⟩
  have k0 := hZ.fr 0 _ rfl
  have k1 := hZ.fr 1 _ rfl
  have k2 := hZ.fr 2 _ rfl
  have d0 := hZ.cell 0 _ rfl
  have d1 := hZ.cell 1 _ rfl
  have d2 := hZ.cell 2 _ rfl
  go_wp2
  go_loopg [3] l.length (fun g nv wr => ∃ j : Nat, j ≤ l.length ∧ g = l.length - j ∧ nv = .int .i64 (j : Int) ∧ W = wr ∧ Hid (D = j + ((l.drop j).takeWhile smallB).length))
  case atStart => exact ⟨0, by omega, rfl, rfl, by first | rfl | trivial, H0⟩
  case round =>
    obtain ⟨j, hj2, hg, rfl, rfl, hR⟩ := hrel
    by_cases hz : j < l.length
    · have hdr : l.drop j = (l[j]'hz) :: l.drop (j + 1) := List.drop_eq_getElem_cons hz
      have hRd := fun w => rsmall_any (l[j]'hz) w
      obtain ⟨p, hp⟩ : ∃ p, p = smallB (l[j]'hz) := ⟨_, rfl⟩
      rw [← hp] at hRd
      have qj : j < (strOf l).size := by rw [hsz]; exact hz
      have hxj : ((strOf l)[j]'qj) = l[j]'hz := rfl
      rw [← hxj] at hRd
      have k3 : (0 : Int) ≤ (j : Int) := by omega
      have k4 : (j : Int) < (l.length : Int) := by omega
      cases p with
      | true =>
        have hR2 := Lib.hid (show D = (j + 1) + ((l.drop (j + 1)).takeWhile smallB).length by rw [hR.out, hdr, while_true hp.symm]; omega)
        have hw : IntKind.i64.wrap ((j : Int) + 1) = (j : Int) + 1 := IntWalk.i64_in _ ⟨by omega, by omega⟩
        clear hR hdr hp hxj
        go_wp2_with (go_at_call 56; refine (hRd _).mono ?_; rintro e w' ⟨rfl, rfl⟩)
        go_roundg (l.length - (j + 1))
        case rel => exact ⟨j + 1, by omega, rfl, by go_num, by first | rfl | trivial, hR2⟩
        case measure => omega
      | false =>
        have hJ : D = j := by rw [hR.out, hdr, while_false hp.symm]; rfl
        clear hR hdr hp hxj
        have k5 : (j : Int) ≤ (l.length : Int) := by omega
        have hex := Lib.hid (show (strOf l).extract 0 j = strOf (l.take (begG l).2) by rw [ext_zero, HB.out, hJ])
        clear hJ
        go_wp2_with (go_at_call 56; refine (hRd _).mono ?_; rintro e w' ⟨rfl, rfl⟩)
        refine named_post fun V hV => ?_
        obtain ⟨hVa, hVB⟩ := tk_out hZ hZB _ _ _ V hV
        clear hV d0 d1 d2 k0 k1 k2
        have c0 := hVa.cell 0 _ rfl
        have c1 := hVa.cell 1 _ rfl
        have c2 := hVa.cell 2 _ rfl
        exact bodyPost_ret (v := .agg #[.int .i64 1, .string ((strOf l).extract 0 j), .int .i64 0]) (by simp [results, Tryd.results38, go_sem, c0, c1, c2]; try rfl) rfl ⟨1, by rw [← hex.out], fun _ => by rw [HB.out]; rfl, hVB⟩
    · have hJ : D = j := by rw [hR.out, List.drop_eq_nil_of_le (by omega)]; rfl
      have k4 : ¬ (j : Int) < (l.length : Int) := by omega
      have k3 : (0 : Int) ≤ (j : Int) := by omega
      have k5 : (j : Int) ≤ (l.length : Int) := by omega
      have hex := Lib.hid (show (strOf l).extract 0 j = strOf (l.take (begG l).2) by rw [ext_zero, HB.out, hJ])
      clear hR hJ
      go_wp2
      refine named_post fun V hV => ?_
      obtain ⟨hVa, hVB⟩ := tk_out hZ hZB _ _ _ V hV
      clear hV d0 d1 d2 k0 k1 k2
      have c0 := hVa.cell 0 _ rfl
      have c1 := hVa.cell 1 _ rfl
      have c2 := hVa.cell 2 _ rfl
      exact bodyPost_ret (v := .agg #[.int .i64 1, .string ((strOf l).extract 0 j), .int .i64 0]) (by simp [results, Tryd.results38, go_sem, c0, c1, c2]; try rfl) rfl ⟨1, by rw [← hex.out], fun _ => by rw [HB.out]; rfl, hVB⟩
set_option maxRecDepth 100000 in
set_option maxHeartbeats 4000000 in
theorem rbegins_large (l : List UInt8) (h0 : 0 < l.length) (hl : l.length ≤ 1000000) (h1 : smallB (l[0]'h0) = false) (h2 : largeB (l[0]'h0) = true) (w : World) :
    Calls Tryd.prog 38 #[.string (strOf l)] w (BegP l w) := by
  have hb := begL_2 h0 h1 h2
  obtain ⟨W, hW⟩ : ∃ W, W = w.alloc (.cells #[.int .i64 0, .string ⟨#[]⟩, .int .i64 0] 30) := ⟨_, rfl⟩
  obtain ⟨hZ, hZB⟩ := TkZ w W hW
  have hsz : (strOf l).size = l.length := strOf_size l
  have q0 : 0 < (strOf l).size := by omega
  have g1 : (0 : Int) < (l.length : Int) := by omega
  have hx0 : ((strOf l)[0]'q0) = l[0]'h0 := rfl
  have hS := fun w => rsmall_any (l[0]'h0) w
  rw [h1, ← hx0] at hS
  have hL := fun w => rlarge_any (l[0]'h0) w
  rw [h2, ← hx0] at hL
  have HB := Lib.hid hb
  have k5 : (1 : Int) ≤ (l.length : Int) := by omega
  have hex := Lib.hid (show (strOf l).extract 0 1 = strOf (l.take (begG l).2) by rw [ext_zero, HB.out])
  clear hx0 hb h1 h2
  go_enter Tryd.func38, Tryd.ntmps38
  go_wp2_with fail
  rw [← hW]
  clear hW
  refine (hS _).mono ?_; rintro e w1 ⟨rfl, rfl⟩
  have k0 := hZ.fr 0 _ rfl
  have k1 := hZ.fr 1 _ rfl
  have k2 := hZ.fr 2 _ rfl
  have d0 := hZ.cell 0 _ rfl
  have d1 := hZ.cell 1 _ rfl
  have d2 := hZ.cell 2 _ rfl
  go_wp2_with (go_at_call 57; refine (hL _).mono ?_; rintro e w1 ⟨rfl, rfl⟩)
  refine named_post fun V hV => ?_
  obtain ⟨hVa, hVB⟩ := tk_out hZ hZB _ _ _ V hV
  clear hV d0 d1 d2 k0 k1 k2
  have c0 := hVa.cell 0 _ rfl
  have c1 := hVa.cell 1 _ rfl
  have c2 := hVa.cell 2 _ rfl
  exact bodyPost_ret (v := .agg #[.int .i64 2, .string ((strOf l).extract 0 1), .int .i64 0]) (by simp [results, Tryd.results38, go_sem, c0, c1, c2]; try rfl) rfl ⟨2, by rw [← hex.out], fun _ => by rw [HB.out]; rfl, hVB⟩
set_option maxRecDepth 100000 in
set_option maxHeartbeats 4000000 in
theorem rbegins_num (l : List UInt8) (h0 : 0 < l.length) (hl : l.length ≤ 1000000) (h1 : smallB (l[0]'h0) = false) (h2 : largeB (l[0]'h0) = false) (n : Int) (hn : n = -1 ∧ (begG l).2 = 0 ∨ n = (((begG l).2 : Nat) : Int) ∧ (begG l).2 ≠ 0 ∧ (begG l).1 = 3)
    (hN : ∀ w : World, Calls Tryd.prog 58 #[.string (strOf l)] w fun e w' => e = .returned (.int .i64 n) ∧ w = w') (w : World) :
    Calls Tryd.prog 38 #[.string (strOf l)] w (BegP l w) := by
  have hle := begG_le l
  obtain ⟨W, hW⟩ : ∃ W, W = w.alloc (.cells #[.int .i64 0, .string ⟨#[]⟩, .int .i64 0] 30) := ⟨_, rfl⟩
  obtain ⟨hZ, hZB⟩ := TkZ w W hW
  have hsz : (strOf l).size = l.length := strOf_size l
  have q0 : 0 < (strOf l).size := by omega
  have g1 : (0 : Int) < (l.length : Int) := by omega
  have hx0 : ((strOf l)[0]'q0) = l[0]'h0 := rfl
  have hS := fun w => rsmall_any (l[0]'h0) w
  rw [h1, ← hx0] at hS
  have hL := fun w => rlarge_any (l[0]'h0) w
  rw [h2, ← hx0] at hL
  clear hx0 h1 h2
  rcases hn with ⟨hn, hm⟩ | ⟨hn, hm, hk⟩
  · subst hn
    have hm1 : max (-1 : Int) 0 = 0 := rfl
    have HM := Lib.hid hm
    have k5 : (0 : Int) ≤ (l.length : Int) := by omega
    have hex := Lib.hid (show (strOf l).extract 0 0 = strOf (l.take (begG l).2) by rw [ext_zero, HM.out])
    clear hm hle
    go_enter Tryd.func38, Tryd.ntmps38
    go_wp2_with fail
    rw [← hW]
    clear hW
    refine (hS _).mono ?_; rintro e w1 ⟨rfl, rfl⟩
    have k0 := hZ.fr 0 _ rfl
    have k1 := hZ.fr 1 _ rfl
    have k2 := hZ.fr 2 _ rfl
    have d0 := hZ.cell 0 _ rfl
    have d1 := hZ.cell 1 _ rfl
    have d2 := hZ.cell 2 _ rfl
    go_wp2_with (first | (go_at_call 57; refine (hL _).mono ?_; rintro e w1 ⟨rfl, rfl⟩) | (go_at_call 58; refine (hN _).mono ?_; rintro e w1 ⟨rfl, rfl⟩))
    refine named_post fun V hV => ?_
    obtain ⟨hVa, hVB⟩ := tk_out hZ hZB _ _ _ V hV
    clear hV d0 d1 d2 k0 k1 k2
    have c0 := hVa.cell 0 _ rfl
    have c1 := hVa.cell 1 _ rfl
    have c2 := hVa.cell 2 _ rfl
    exact bodyPost_ret (v := .agg #[.int .i64 3, .string ((strOf l).extract 0 0), .int .i64 0]) (by simp [results, Tryd.results38, go_sem, c0, c1, c2]; try rfl) rfl ⟨3, by rw [← hex.out], fun h => absurd HM.out h, hVB⟩
  · have HK := Lib.hid hk
    obtain ⟨m, hmm⟩ : ∃ m, m = (begG l).2 := ⟨_, rfl⟩
    rw [← hmm] at hn hm hle
    subst hn
    have hm1 : max (m : Int) 0 = (m : Int) := by omega
    have hm2 : ((m : Int) == 0) = false := by rw [beq_eq_false_iff_ne]; omega
    have hm3 : ((m : Int) != 0) = true := by simp [bne, hm2]
    have hm4 : ¬ (m : Int) < 0 := by omega
    have hm5 : (0 : Int) < (m : Int) := by omega
    have k3 : (0 : Int) ≤ (m : Int) := by omega
    have k5 : (m : Int) ≤ (l.length : Int) := by omega
    have hex := Lib.hid (show (strOf l).extract 0 m = strOf (l.take (begG l).2) by rw [ext_zero, hmm])
    clear hk hmm hle
    go_enter Tryd.func38, Tryd.ntmps38
    go_wp2_with fail
    rw [← hW]
    clear hW
    refine (hS _).mono ?_; rintro e w1 ⟨rfl, rfl⟩
    have k0 := hZ.fr 0 _ rfl
    have k1 := hZ.fr 1 _ rfl
    have k2 := hZ.fr 2 _ rfl
    have d0 := hZ.cell 0 _ rfl
    have d1 := hZ.cell 1 _ rfl
    have d2 := hZ.cell 2 _ rfl
    go_wp2_with (first | (go_at_call 57; refine (hL _).mono ?_; rintro e w1 ⟨rfl, rfl⟩) | (go_at_call 58; refine (hN _).mono ?_; rintro e w1 ⟨rfl, rfl⟩))
    refine named_post fun V hV => ?_
    obtain ⟨hVa, hVB⟩ := tk_out hZ hZB _ _ _ V hV
    clear hV d0 d1 d2 k0 k1 k2
    have c0 := hVa.cell 0 _ rfl
    have c1 := hVa.cell 1 _ rfl
    have c2 := hVa.cell 2 _ rfl
    exact bodyPost_ret (v := .agg #[.int .i64 3, .string ((strOf l).extract 0 m), .int .i64 0]) (by simp [results, Tryd.results38, go_sem, c0, c1, c2]; try rfl) rfl ⟨3, by rw [← hex.out], fun _ => by rw [HK.out]; rfl, hVB⟩
end Go.Proofs.YtmdlndmibodimaaDoor
