/- The document's own tokens. -/
import Derived.Test.YtdjaijhlhhnmeaaGreatDoorTokTwo
import Derived.Test.YtdjaijhlhhnmeaaGreatDoorWd
namespace Go.Proofs.YtdjaijhlhhnmeaaGreatDoor
open Go.RowKit
open Tk7

theorem ext_zero (l : List UInt8) (n : Nat) : (strOf l).extract 0 n = strOf (l.take n) := by
  rw [ext_take]
  unfold restAt
  rw [strOf_dat]
  rfl
/-- What the first token is. -/
def BegP (l : List UInt8) (w : World) (e : Ending) (w' : World) : Prop := ∃ kd : Int, e = .returned (.agg #[.int .i64 kd, .string (strOf (l.take (begG l).2)), .int .i64 0]) ∧ ((begG l).2 ≠ 0 → kd = ((begG l).1 : Int)) ∧ Below w.heap.size w w'
theorem tk_out {w W : World} {B : Nat} {x0 x1 x2 : Value} (h0 : Blk W B [x0, x1, x2]) (hB : Below B w W) (u0 u1 u2 : Value) (V : World)
    (hV : V = (((W.setCell ⟨B, 0, none⟩ u0).setCell ⟨B, 1, none⟩ u1).setCell ⟨B, 2, none⟩ u2)) : Blk V B [u0, u1, u2] ∧ Below B w V := by
  subst hV
  exact ⟨((h0.set 0 u0).set 1 u1).set 2 u2, ((hB.setCell (p := ⟨B, 0, none⟩) (by simp) _).setCell (p := ⟨B, 1, none⟩) (by simp) _).setCell (p := ⟨B, 2, none⟩) (by simp) _⟩
theorem TkZ (w W : World) (h : W = w.alloc (.cells #[.int .i64 0, .string ⟨#[]⟩, .int .i64 0] 130)) : Blk W w.heap.size [.int .i64 0, .string ⟨#[]⟩, .int .i64 0] ∧ Below w.heap.size w W := by
  subst h
  exact ⟨Blk.is _ rfl, below1 _ _⟩
set_option maxRecDepth 100000 in
set_option maxHeartbeats 4000000 in
theorem rbegins_small (l : List UInt8) (h0 : 0 < l.length) (hl : l.length ≤ 1000000) (h1 : smallB (l[0]'h0) = true) (w : World) :
    Calls Tryz.prog 174 #[.string (strOf l)] w (BegP l w) := by
  have hb := begL_1 h0 h1
  obtain ⟨W, hW⟩ : ∃ W, W = w.alloc (.cells #[.int .i64 0, .string ⟨#[]⟩, .int .i64 0] 130) := ⟨_, rfl⟩
  obtain ⟨hZ, hZB⟩ := TkZ w W hW
  have hsz : (strOf l).size = l.length := strOf_size l
  have q0 : 0 < (strOf l).size := by omega
  have g1 : (0 : Int) < (l.length : Int) := by omega
  have hx0 : ((strOf l)[0]'q0) = l[0]'h0 := rfl
  have hS := fun w => rsmall_any (l[0]'h0) w
  rw [h1, ← hx0] at hS
  clear hx0
  obtain ⟨D, hD⟩ : ∃ D, D = (l.takeWhile smallB).length := ⟨_, rfl⟩
  rw [← hD] at hb
  have HD := Lib.hid hD
  have H0 := Lib.hid (show D = 0 + ((l.drop 0).takeWhile smallB).length by rw [List.drop_zero, hD]; omega)
  have HB := Lib.hid hb
  clear hD hb h1
  go_enter Tryz.func174, Tryz.ntmps174
  go_wp2_with fail
  rw [← hW]
  clear hW
  refine (hS _).mono ?_; rintro e w1 ⟨rfl, rfl⟩
  have k0 := hZ.fr 0 _ rfl
  have k1 := hZ.fr 1 _ rfl
  have k2 := hZ.fr 2 _ rfl
  have d0 := hZ.cell 0 _ rfl
  have d1 := hZ.cell 1 _ rfl
  have d2 := hZ.cell 2 _ rfl
  go_wp2
  go_loopg [3] l.length (fun g nv wr => ∃ j : Nat, j ≤ l.length ∧ g = l.length - j ∧ nv = .int .i64 (j : Int) ∧ W = wr ∧ Hid (D = j + ((l.drop j).takeWhile smallB).length))
  case atStart => exact ⟨0, by omega, rfl, rfl, by first | rfl | trivial, H0⟩
  case round =>
    obtain ⟨j, hj2, hg, rfl, rfl, hR⟩ := hrel
    by_cases hz : j < l.length
    · have hdr : l.drop j = (l[j]'hz) :: l.drop (j + 1) := List.drop_eq_getElem_cons hz
      have hRd := fun w => rsmall_any (l[j]'hz) w
      obtain ⟨p, hp⟩ : ∃ p, p = smallB (l[j]'hz) := ⟨_, rfl⟩
      rw [← hp] at hRd
      have qj : j < (strOf l).size := by rw [hsz]; exact hz
      have hxj : ((strOf l)[j]'qj) = l[j]'hz := rfl
      rw [← hxj] at hRd
      have k3 : (0 : Int) ≤ (j : Int) := by omega
      have k4 : (j : Int) < (l.length : Int) := by omega
      cases p with
      | true =>
        have hR2 := Lib.hid (show D = (j + 1) + ((l.drop (j + 1)).takeWhile smallB).length by rw [hR.out, hdr, while_true hp.symm]; omega)
        have hw : IntKind.i64.wrap ((j : Int) + 1) = (j : Int) + 1 := IntWalk.i64_in _ ⟨by omega, by omega⟩
        clear hR hdr hp hxj
        go_wp2_with (go_at_call 196; refine (hRd _).mono ?_; rintro e w' ⟨rfl, rfl⟩)
        go_roundg (l.length - (j + 1))
        case rel => exact ⟨j + 1, by omega, rfl, by go_num, by first | rfl | trivial, hR2⟩
        case measure => omega
      | false =>
        have hJ : D = j := by rw [hR.out, hdr, while_false hp.symm]; rfl
        clear hR hdr hp hxj
        have k5 : (j : Int) ≤ (l.length : Int) := by omega
        have hex := Lib.hid (show (strOf l).extract 0 j = strOf (l.take (begG l).2) by rw [ext_zero, HB.out, hJ])
        clear hJ
        go_wp2_with (go_at_call 196; refine (hRd _).mono ?_; rintro e w' ⟨rfl, rfl⟩)
        refine named_post fun V hV => ?_
        obtain ⟨hVa, hVB⟩ := tk_out hZ hZB _ _ _ V hV
        clear hV d0 d1 d2 k0 k1 k2
        have c0 := hVa.cell 0 _ rfl
        have c1 := hVa.cell 1 _ rfl
        have c2 := hVa.cell 2 _ rfl
        exact bodyPost_ret (v := .agg #[.int .i64 1, .string ((strOf l).extract 0 j), .int .i64 0]) (by simp [results, Tryz.results174, go_sem, c0, c1, c2]; try rfl) rfl ⟨1, by rw [← hex.out], fun _ => by rw [HB.out]; rfl, hVB⟩
    · have hJ : D = j := by rw [hR.out, List.drop_eq_nil_of_le (by omega)]; rfl
      have k4 : ¬ (j : Int) < (l.length : Int) := by omega
      have k3 : (0 : Int) ≤ (j : Int) := by omega
      have k5 : (j : Int) ≤ (l.length : Int) := by omega
      have hex := Lib.hid (show (strOf l).extract 0 j = strOf (l.take (begG l).2) by rw [ext_zero, HB.out, hJ])
      clear hR hJ
      go_wp2
      refine named_post fun V hV => ?_
      obtain ⟨hVa, hVB⟩ := tk_out hZ hZB _ _ _ V hV
      clear hV d0 d1 d2 k0 k1 k2
      have c0 := hVa.cell 0 _ rfl
      have c1 := hVa.cell 1 _ rfl
      have c2 := hVa.cell 2 _ rfl
      exact bodyPost_ret (v := .agg #[.int .i64 1, .string ((strOf l).extract 0 j), .int .i64 0]) (by simp [results, Tryz.results174, go_sem, c0, c1, c2]; try rfl) rfl ⟨1, by rw [← hex.out], fun _ => by rw [HB.out]; rfl, hVB⟩
set_option maxRecDepth 100000 in
set_option maxHeartbeats 4000000 in
theorem rbegins_large (l : List UInt8) (h0 : 0 < l.length) (hl : l.length ≤ 1000000) (h1 : smallB (l[0]'h0) = false) (h2 : largeB (l[0]'h0) = true) (w : World) :
    Calls Tryz.prog 174 #[.string (strOf l)] w (BegP l w) := by
  have hb := begL_2 h0 h1 h2
  obtain ⟨W, hW⟩ : ∃ W, W = w.alloc (.cells #[.int .i64 0, .string ⟨#[]⟩, .int .i64 0] 130) := ⟨_, rfl⟩
  obtain ⟨hZ, hZB⟩ := TkZ w W hW
  have hsz : (strOf l).size = l.length := strOf_size l
  have q0 : 0 < (strOf l).size := by omega
  have g1 : (0 : Int) < (l.length : Int) := by omega
  have hx0 : ((strOf l)[0]'q0) = l[0]'h0 := rfl
  have hS := fun w => rsmall_any (l[0]'h0) w
  rw [h1, ← hx0] at hS
  have hL := fun w => rlarge_any (l[0]'h0) w
  rw [h2, ← hx0] at hL
  have HB := Lib.hid hb
  have k5 : (1 : Int) ≤ (l.length : Int) := by omega
  have hex := Lib.hid (show (strOf l).extract 0 1 = strOf (l.take (begG l).2) by rw [ext_zero, HB.out])
  clear hx0 hb h1 h2
  go_enter Tryz.func174, Tryz.ntmps174
  go_wp2_with fail
  rw [← hW]
  clear hW
  refine (hS _).mono ?_; rintro e w1 ⟨rfl, rfl⟩
  have k0 := hZ.fr 0 _ rfl
  have k1 := hZ.fr 1 _ rfl
  have k2 := hZ.fr 2 _ rfl
  have d0 := hZ.cell 0 _ rfl
  have d1 := hZ.cell 1 _ rfl
  have d2 := hZ.cell 2 _ rfl
  go_wp2_with (go_at_call 197; refine (hL _).mono ?_; rintro e w1 ⟨rfl, rfl⟩)
  refine named_post fun V hV => ?_
  obtain ⟨hVa, hVB⟩ := tk_out hZ hZB _ _ _ V hV
  clear hV d0 d1 d2 k0 k1 k2
  have c0 := hVa.cell 0 _ rfl
  have c1 := hVa.cell 1 _ rfl
  have c2 := hVa.cell 2 _ rfl
  exact bodyPost_ret (v := .agg #[.int .i64 2, .string ((strOf l).extract 0 1), .int .i64 0]) (by simp [results, Tryz.results174, go_sem, c0, c1, c2]; try rfl) rfl ⟨2, by rw [← hex.out], fun _ => by rw [HB.out]; rfl, hVB⟩
set_option maxRecDepth 100000 in
set_option maxHeartbeats 4000000 in
theorem rbegins_num (l : List UInt8) (h0 : 0 < l.length) (hl : l.length ≤ 1000000) (h1 : smallB (l[0]'h0) = false) (h2 : largeB (l[0]'h0) = false) (n : Int) (hn : n = -1 ∧ (begG l).2 = 0 ∨ n = (((begG l).2 : Nat) : Int) ∧ (begG l).2 ≠ 0 ∧ (begG l).1 = 3)
    (hN : ∀ w : World, Calls Tryz.prog 198 #[.string (strOf l)] w fun e w' => e = .returned (.int .i64 n) ∧ w = w') (w : World) :
    Calls Tryz.prog 174 #[.string (strOf l)] w (BegP l w) := by
  have hle := begG_le l
  obtain ⟨W, hW⟩ : ∃ W, W = w.alloc (.cells #[.int .i64 0, .string ⟨#[]⟩, .int .i64 0] 130) := ⟨_, rfl⟩
  obtain ⟨hZ, hZB⟩ := TkZ w W hW
  have hsz : (strOf l).size = l.length := strOf_size l
  have q0 : 0 < (strOf l).size := by omega
  have g1 : (0 : Int) < (l.length : Int) := by omega
  have hx0 : ((strOf l)[0]'q0) = l[0]'h0 := rfl
  have hS := fun w => rsmall_any (l[0]'h0) w
  rw [h1, ← hx0] at hS
  have hL := fun w => rlarge_any (l[0]'h0) w
  rw [h2, ← hx0] at hL
  clear hx0 h1 h2
  rcases hn with ⟨hn, hm⟩ | ⟨hn, hm, hk⟩
  · subst hn
    have hm1 : max (-1 : Int) 0 = 0 := rfl
    have HM := Lib.hid hm
    have k5 : (0 : Int) ≤ (l.length : Int) := by omega
    have hex := Lib.hid (show (strOf l).extract 0 0 = strOf (l.take (begG l).2) by rw [ext_zero, HM.out])
    clear hm hle
    go_enter Tryz.func174, Tryz.ntmps174
    go_wp2_with fail
    rw [← hW]
    clear hW
    refine (hS _).mono ?_; rintro e w1 ⟨rfl, rfl⟩
    have k0 := hZ.fr 0 _ rfl
    have k1 := hZ.fr 1 _ rfl
    have k2 := hZ.fr 2 _ rfl
    have d0 := hZ.cell 0 _ rfl
    have d1 := hZ.cell 1 _ rfl
    have d2 := hZ.cell 2 _ rfl
    go_wp2_with (first | (go_at_call 197; refine (hL _).mono ?_; rintro e w1 ⟨rfl, rfl⟩) | (go_at_call 198; refine (hN _).mono ?_; rintro e w1 ⟨rfl, rfl⟩))
    refine named_post fun V hV => ?_
    obtain ⟨hVa, hVB⟩ := tk_out hZ hZB _ _ _ V hV
    clear hV d0 d1 d2 k0 k1 k2
    have c0 := hVa.cell 0 _ rfl
    have c1 := hVa.cell 1 _ rfl
    have c2 := hVa.cell 2 _ rfl
    exact bodyPost_ret (v := .agg #[.int .i64 3, .string ((strOf l).extract 0 0), .int .i64 0]) (by simp [results, Tryz.results174, go_sem, c0, c1, c2]; try rfl) rfl ⟨3, by rw [← hex.out], fun h => absurd HM.out h, hVB⟩
  · have HK := Lib.hid hk
    obtain ⟨m, hmm⟩ : ∃ m, m = (begG l).2 := ⟨_, rfl⟩
    rw [← hmm] at hn hm hle
    subst hn
    have hm1 : max (m : Int) 0 = (m : Int) := by omega
    have hm2 : ((m : Int) == 0) = false := by rw [beq_eq_false_iff_ne]; omega
    have hm3 : ((m : Int) != 0) = true := by simp [bne, hm2]
    have hm4 : ¬ (m : Int) < 0 := by omega
    have hm5 : (0 : Int) < (m : Int) := by omega
    have k3 : (0 : Int) ≤ (m : Int) := by omega
    have k5 : (m : Int) ≤ (l.length : Int) := by omega
    have hex := Lib.hid (show (strOf l).extract 0 m = strOf (l.take (begG l).2) by rw [ext_zero, hmm])
    clear hk hmm hle
    go_enter Tryz.func174, Tryz.ntmps174
    go_wp2_with fail
    rw [← hW]
    clear hW
    refine (hS _).mono ?_; rintro e w1 ⟨rfl, rfl⟩
    have k0 := hZ.fr 0 _ rfl
    have k1 := hZ.fr 1 _ rfl
    have k2 := hZ.fr 2 _ rfl
    have d0 := hZ.cell 0 _ rfl
    have d1 := hZ.cell 1 _ rfl
    have d2 := hZ.cell 2 _ rfl
    go_wp2_with (first | (go_at_call 197; refine (hL _).mono ?_; rintro e w1 ⟨rfl, rfl⟩) | (go_at_call 198; refine (hN _).mono ?_; rintro e w1 ⟨rfl, rfl⟩))
    refine named_post fun V hV => ?_
    obtain ⟨hVa, hVB⟩ := tk_out hZ hZB _ _ _ V hV
    clear hV d0 d1 d2 k0 k1 k2
    have c0 := hVa.cell 0 _ rfl
    have c1 := hVa.cell 1 _ rfl
    have c2 := hVa.cell 2 _ rfl
    exact bodyPost_ret (v := .agg #[.int .i64 3, .string ((strOf l).extract 0 m), .int .i64 0]) (by simp [results, Tryz.results174, go_sem, c0, c1, c2]; try rfl) rfl ⟨3, by rw [← hex.out], fun _ => by rw [HK.out]; rfl, hVB⟩
end Go.Proofs.YtdjaijhlhhnmeaaGreatDoor
namespace Go.Proofs.YtdjaijhlhhnmeaaGreatDoor
open Go.RowKit
open Tk7

set_option maxRecDepth 100000 in
set_option maxHeartbeats 4000000 in
theorem rbegins_sign (l : List UInt8) (h0 : 0 < l.length) (hl : l.length ≤ 1000000) (h1 : smallB (l[0]'h0) = false) (h2 : largeB (l[0]'h0) = false) (hs : (begG l).2 = signG l) (hk : (begG l).2 ≠ 0 → (begG l).1 = 4)
    (hN : ∀ w : World, Calls Tryz.prog 198 #[.string (strOf l)] w fun e w' => e = .returned (.int .i64 0) ∧ w = w') (w : World) :
    Calls Tryz.prog 174 #[.string (strOf l)] w (BegP l w) := by
  have HS := Lib.hid (show firstS signsR l = l.take (begG l).2 by rw [firstR_sign, hs])
  have HK := Lib.hid hk
  obtain ⟨W, hW⟩ : ∃ W, W = w.alloc (.cells #[.int .i64 0, .string ⟨#[]⟩, .int .i64 0] 130) := ⟨_, rfl⟩
  obtain ⟨hZ, hZB⟩ := TkZ w W hW
  have hsz : (strOf l).size = l.length := strOf_size l
  have q0 : 0 < (strOf l).size := by omega
  have g1 : (0 : Int) < (l.length : Int) := by omega
  have hx0 : ((strOf l)[0]'q0) = l[0]'h0 := rfl
  have hS := fun w => rsmall_any (l[0]'h0) w
  rw [h1, ← hx0] at hS
  have hL := fun w => rlarge_any (l[0]'h0) w
  rw [h2, ← hx0] at hL
  clear hx0 h1 h2 hs hk
  go_enter Tryz.func174, Tryz.ntmps174
  go_wp2_with fail
  rw [← hW]
  clear hW
  refine (hS _).mono ?_; rintro e w1 ⟨rfl, rfl⟩
  go_wp2_with (first | (go_at_call 197; refine (hL _).mono ?_; rintro e w1 ⟨rfl, rfl⟩) | (go_at_call 198; refine (hN _).mono ?_; rintro e w1 ⟨rfl, rfl⟩) | (go_at_call 199; refine (rsigns_any _).mono ?_; rintro e W1 ⟨a, rfl, hb1, ha, hc⟩))
  have hZ := hZ.later hb1
  have hZB := bstep hZB hb1
  have HC := Lib.hid hc
  clear hc hb1 hS hL hN
  have k0 := hZ.fr 0 _ rfl
  have k1 := hZ.fr 1 _ rfl
  have k2 := hZ.fr 2 _ rfl
  have d0 := hZ.cell 0 _ rfl
  have d1 := hZ.cell 1 _ rfl
  have d2 := hZ.cell 2 _ rfl
  go_loopg [6] 17 (fun g iv wr => ∃ (i n : Nat), i ≤ 17 ∧ g = 17 - i ∧ iv = .int .i64 (i : Int) ∧ wr = W1.drewN n ∧ Hid (firstS signsR l = firstS (signsR.drop i) l))
  case atStart => exact ⟨0, 0, by omega, rfl, rfl, rfl, Lib.hid rfl⟩
  case round =>
    obtain ⟨i, n, hi, hg, rfl, rfl, hF⟩ := hrel
    by_cases hz : i = 17
    · subst hz
      have e1 := Lib.hid (show strOf [] = strOf (l.take (begG l).2) by rw [← HS.out, hF.out]; rfl)
      have e2 := Lib.hid (show (begG l).2 ≠ 0 → False from fun h => by
        have h3 := HS.out
        rw [hF.out] at h3
        have h4 : firstS (signsR.drop 17) l = [] := rfl
        rw [h4] at h3
        have h5 := congrArg List.length h3
        rw [List.length_take] at h5
        have h6 := begG_le l
        simp at h5
        omega)
      have hZ := hZ.drewN n
      have hZB := below_drewN hZB n
      go_wp2
      refine named_post fun V hV => ?_
      obtain ⟨hVa, hVB⟩ := tk_out hZ hZB _ _ _ V hV
      clear hV d0 d1 d2 k0 k1 k2
      have c0 := hVa.cell 0 _ rfl
      have c1 := hVa.cell 1 _ rfl
      have c2 := hVa.cell 2 _ rfl
      exact bodyPost_ret (v := .agg #[.int .i64 0, .string (strOf []), .int .i64 0]) (by simp [results, Tryz.results174, go_sem, c0, c1, c2]; try rfl) rfl ⟨0, by rw [e1.out], fun h => (e2.out h).elim, hVB⟩
    · have hi17 : i < 17 := by omega
      have h1 : (i : Int) < 17 := by omega
      have h1b : (0 : Int) ≤ (i : Int) := by omega
      obtain ⟨c, hc⟩ : ∃ c, signsR[i]? = some c := ⟨_, List.getElem?_eq_getElem hi17⟩
      have hci := HC.out i c hc
      have hdr := Lib.hid (dropR_sign hc)
      have hcl := signsR_len i c hc
      have hcs : (strOf c).size = c.length := strOf_size c
      have hwi : IntKind.i64.wrap ((i : Int) + 1) = (i : Int) + 1 := IntWalk.i64_in _ ⟨by omega, by omega⟩
      clear hz hc
      by_cases hlong : l.length < c.length
      · have h2 : ¬ (c.length : Int) ≤ (l.length : Int) := by omega
        have h2d : decide ((c.length : Int) ≤ (l.length : Int)) = false := decide_eq_false h2
        have h2e : decide (c.length ≤ l.length) = false := decide_eq_false (by omega)
        have hF2 := Lib.hid (show firstS signsR l = firstS (signsR.drop (i + 1)) l by rw [hF.out, hdr.out, first_skip (not_prefix_long hlong)])
        clear hF hdr
        go_wp2
        go_quiet (fail)
        go_wp2
        go_roundg (17 - (i + 1))
        case rel => exact ⟨i + 1, _, by omega, rfl, by go_num, rfl, hF2⟩
        case measure => omega
      · have h2 : (c.length : Int) ≤ (l.length : Int) := by omega
        have h3 : (0 : Int) ≤ (c.length : Int) := by omega
        have hte : (strOf l).extract 0 c.length = strOf (l.take c.length) := ext_zero l c.length
        obtain ⟨X, hX⟩ : ∃ X, X = (strOf l).extract 0 c.length := ⟨_, rfl⟩
        by_cases hpre : c.isPrefixOf l = true
        · have hT : l.take c.length = c := by
            obtain ⟨t, rfl⟩ := List.isPrefixOf_iff_prefix.1 hpre
            simp
          rw [hT] at hte
          have e1 := Lib.hid (show strOf c = strOf (l.take (begG l).2) by rw [← HS.out, hF.out, hdr.out, first_is hpre])
          clear hF hdr hpre hlong hX
          go_wp2
          go_quiet (fail)
          have hZ := hZ.drewN (n + nq)
          have hZB := below_drewN hZB (n + nq)
          go_wp2
          refine named_post fun V hV => ?_
          obtain ⟨hVa, hVB⟩ := tk_out hZ hZB _ _ _ V hV
          clear hV d0 d1 d2 k0 k1 k2
          have c0 := hVa.cell 0 _ rfl
          have c1 := hVa.cell 1 _ rfl
          have c2 := hVa.cell 2 _ rfl
          exact bodyPost_ret (v := .agg #[.int .i64 4, .string (strOf c), .int .i64 0]) (by simp [results, Tryz.results174, go_sem, c0, c1, c2]; try rfl) rfl ⟨4, by rw [e1.out], fun h => by rw [HK.out h]; rfl, hVB⟩
        · have hpf : c.isPrefixOf l = false := Bool.not_eq_true _ ▸ hpre
          have hF2 := Lib.hid (show firstS signsR l = firstS (signsR.drop (i + 1)) l by rw [hF.out, hdr.out, first_skip hpf])
          have hne : ((strOf (l.take c.length)).toList == (strOf c).toList) = false := str_ne (fun e => hpre (by
            have e := congrArg (fun s : ByteArray => s.data.toList) e
            simp only [strOf_dat] at e
            rw [List.isPrefixOf_iff_prefix, ← e]
            exact List.take_prefix _ _))
          clear hF hdr hpre hpf hlong hX
          go_wp2
          go_quiet (fail)
          go_wp2
          go_roundg (17 - (i + 1))
          case rel => exact ⟨i + 1, _, by omega, rfl, by go_num, rfl, hF2⟩
          case measure => omega
theorem rbegins_any (l : List UInt8) (h0 : 0 < l.length) (hl : l.length ≤ 1000000) (w : World) :
    Calls Tryz.prog 174 #[.string (strOf l)] w (BegP l w) := by
  cases h1 : smallB (l[0]'h0) with
  | true => exact rbegins_small l h0 hl h1 w
  | false =>
    cases h2 : largeB (l[0]'h0) with
    | true => exact rbegins_large l h0 hl h1 h2 w
    | false =>
      obtain ⟨n, hn, hN⟩ := rnumber_any l h0 hl h1 h2
      rcases hn with ⟨rfl, h3, h4⟩ | hn
      · exact rbegins_sign l h0 hl h1 h2 h3 h4 hN w
      · exact rbegins_num l h0 hl h1 h2 n hn hN w
end Go.Proofs.YtdjaijhlhhnmeaaGreatDoor
namespace Go.Proofs.YtdjaijhlhhnmeaaGreatDoor
open Go.RowKit
open Tk7

/-- The next token from the place k on, by the place p of its first byte. -/
theorem nextL {l : List UInt8} {k p : Nat} (hk : k ≤ l.length) (hp : p = k + ((l.drop k).takeWhile blankB).length) :
    p ≤ l.length ∧ nextX l (k : Int) = if p = l.length then ⟨0, [], 0, 0, 5, l.length⟩ else if (begG (l.drop p)).2 = 0 then ⟨0, [], 0, 0, 3, p⟩ else ⟨(begG (l.drop p)).1, (l.drop p).take (begG (l.drop p)).2, p, p + (begG (l.drop p)).2, 0, 0⟩ := by
  rw [nextX_nat hk]
  unfold nextG
  have h1 := drop_len (l.drop k)
  have hl : (l.drop k).length = l.length - k := List.length_drop
  have hdd : (l.drop k).dropWhile blankB = l.drop (k + ((l.drop k).takeWhile blankB).length) := by rw [drop_while, List.drop_drop]
  have htl : ((l.drop k).takeWhile blankB).length = (l.drop k).length - ((l.drop k).dropWhile blankB).length := by
    have := congrArg List.length (List.takeWhile_append_dropWhile (p := blankB) (l := l.drop k))
    rw [List.length_append] at this
    omega
  rw [← hp] at hdd
  cases hd : (l.drop k).dropWhile blankB with
  | nil =>
    rw [hd] at htl
    simp only [List.length_nil] at htl
    have hpl : p = l.length := by omega
    refine ⟨by omega, ?_⟩
    rw [if_pos hpl]
    simp only
    rw [hl, show k + (l.length - k) = l.length by omega]
    rfl
  | cons b r =>
    rw [hd] at h1 hdd htl
    have hpl : (b :: r).length = l.length - p := by rw [hdd, List.length_drop]
    simp only [List.length_cons] at hpl h1 htl
    refine ⟨by omega, ?_⟩
    rw [if_neg (by omega), ← hdd]
    simp only
    have e1 : k + ((l.drop k).length - (b :: r).length) = p := by rw [List.length_cons]; omega
    rw [e1]
    by_cases hz : (begG (b :: r)).2 = 0
    · rw [if_pos hz, if_pos hz]
      rfl
    · rw [if_neg hz, if_neg hz]
      simp only
      rw [hdd]
theorem ext_from (l : List UInt8) (p : Nat) : (strOf l).extract p l.length = strOf (l.drop p) := by
  rw [ext_take]
  unfold restAt
  rw [strOf_dat, List.take_of_length_le (by rw [List.length_drop]; omega)]
theorem toFour {P : Prop} (h : P) : P := h
set_option maxRecDepth 100000 in
set_option maxHeartbeats 4000000 in
theorem rnext_range (l : List UInt8) (a : Int) (h : a < 0 ∨ (l.length : Int) < a) (w : World) :
    Calls Tryz.prog 131 #[.string (strOf l), .int .i64 a] w fun e w' => e = .returned (nextX l a).val ∧ Below w.heap.size w w' := by
  have HX := Lib.hid (next_out h)
  have hsz : (strOf l).size = l.length := strOf_size l
  have h2 : a < 0 ∨ 0 ≤ a ∧ (l.length : Int) < a := by omega
  clear h
  rcases h2 with h2 | ⟨h2, h3⟩
  · go_enter Tryz.func131, Tryz.ntmps131
    go_wp2
    exact bodyPost_ret (v := .tuple #[.agg #[.int .i64 0, .string ⟨#[]⟩, .int .i64 0], .int .i64 0, .agg #[.int .i64 2, .int .i64 0]]) (by simp [results, Tryz.results131, go_sem]; try rfl) rfl ⟨by rw [HX.out]; rfl, below2 _ _ _⟩
  · go_enter Tryz.func131, Tryz.ntmps131
    go_wp2
    exact bodyPost_ret (v := .tuple #[.agg #[.int .i64 0, .string ⟨#[]⟩, .int .i64 0], .int .i64 0, .agg #[.int .i64 2, .int .i64 0]]) (by simp [results, Tryz.results131, go_sem]; try rfl) rfl ⟨by rw [HX.out]; rfl, below2 _ _ _⟩
set_option maxRecDepth 100000 in
set_option maxHeartbeats 4000000 in
theorem rnext_in (l : List UInt8) (hl : l.length ≤ 1000000) (k : Nat) (hk : k ≤ l.length) (w : World) :
    Calls Tryz.prog 131 #[.string (strOf l), .int .i64 (k : Int)] w fun e w' => e = .returned (nextX l (k : Int)).val ∧ Below w.heap.size w w' := by
  have hsz : (strOf l).size = l.length := strOf_size l
  obtain ⟨p, hp⟩ : ∃ p, p = k + ((l.drop k).takeWhile blankB).length := ⟨_, rfl⟩
  obtain ⟨hpl, hX⟩ := nextL hk hp
  have HX := Lib.hid hX
  have H0 := Lib.hid hp
  have h1 : ¬ (k : Int) < 0 := by omega
  have h2 : ¬ (l.length : Int) < (k : Int) := by omega
  clear hX hp
  obtain ⟨W, hW⟩ : ∃ W, W = (w.alloc (.cells #[.int .i64 0, .string ⟨#[]⟩, .int .i64 0] 130)).alloc (.cells #[.int .i64 0, .int .i64 0] 36) := ⟨_, rfl⟩
  have hZ0 : Blk W w.heap.size [.int .i64 0, .string ⟨#[]⟩, .int .i64 0] := by rw [hW]; exact (Blk.is _ rfl).alloc _
  have hZ1 : Blk W (w.heap.size + 1) [.int .i64 0, .int .i64 0] := by rw [hW]; exact Blk.is _ (by simp)
  have hZB : Below w.heap.size w W := by rw [hW]; exact below2 _ _ _
  go_enter Tryz.func131, Tryz.ntmps131
  go_wp2
  rw [← hW]
  clear hW
  go_loopg [1] (l.length - k) (fun g nv wr => ∃ j : Nat, k ≤ j ∧ j ≤ l.length ∧ g = l.length - j ∧ nv = .int .i64 (j : Int) ∧ W = wr ∧ Hid (p = j + ((l.drop j).takeWhile blankB).length))
  case atStart => exact ⟨k, by omega, by omega, rfl, rfl, by first | rfl | trivial, H0⟩
  case round =>
    obtain ⟨j, hj1, hj2, hg, rfl, rfl, hR⟩ := hrel
    by_cases hz : j < l.length
    · have hdr : l.drop j = (l[j]'hz) :: l.drop (j + 1) := List.drop_eq_getElem_cons hz
      have hRd := fun w => rblank_any (l[j]'hz) w
      obtain ⟨q, hq⟩ : ∃ q, q = blankB (l[j]'hz) := ⟨_, rfl⟩
      rw [← hq] at hRd
      have qj : j < (strOf l).size := by rw [hsz]; exact hz
      have hxj : ((strOf l)[j]'qj) = l[j]'hz := rfl
      rw [← hxj] at hRd
      have k1 : (0 : Int) ≤ (j : Int) := by omega
      have k2 : (j : Int) < (l.length : Int) := by omega
      cases q with
      | true =>
        have hR2 := Lib.hid (show p = (j + 1) + ((l.drop (j + 1)).takeWhile blankB).length by rw [hR.out, hdr, while_true hq.symm]; omega)
        have hw : IntKind.i64.wrap ((j : Int) + 1) = (j : Int) + 1 := IntWalk.i64_in _ ⟨by omega, by omega⟩
        clear hR hdr hq hxj
        go_wp2_with (go_at_call 173; refine (hRd _).mono ?_; rintro e w' ⟨rfl, rfl⟩)
        go_roundg (l.length - (j + 1))
        case rel => exact ⟨j + 1, by omega, by omega, rfl, by go_num, by first | rfl | trivial, hR2⟩
        case measure => omega
      | false =>
        have hJ : p = j := by rw [hR.out, hdr, while_false hq.symm]; rfl
        clear hR hdr hq hxj
        subst hJ
        have n1 : ((p : Int) == (l.length : Int)) = false := by rw [beq_eq_false_iff_ne]; omega
        have n2 : ¬ p = l.length := by omega
        have n3 : (p : Int) ≤ (l.length : Int) := by omega
        have hex := ext_from l p
        have hdl : (l.drop p).length = l.length - p := List.length_drop
        have HB := Lib.hid (rbegins_any (l.drop p) (by omega) (by omega))
        have hdl2 := begG_le (l.drop p)
        obtain ⟨X, hXX⟩ : ∃ X, X = strOf (l.drop p) := ⟨_, rfl⟩
        rw [← hXX] at hex HB
        obtain ⟨m, hm⟩ : ∃ m, m = (begG (l.drop p)).2 := ⟨_, rfl⟩
        have HX2 := HX.out
        rw [if_neg n2, ← hm] at HX2
        have HX3 := Lib.hid HX2
        have HBB := Lib.hid (show ∀ w : World, Calls Tryz.prog 174 #[.string X] w fun e w' => ∃ kd : Int, e = .returned (.agg #[.int .i64 kd, .string (strOf ((l.drop p).take m)), .int .i64 0]) ∧ (m ≠ 0 → kd = ((begG (l.drop p)).1 : Int)) ∧ Below w.heap.size w w' by rw [hm]; exact HB.out)
        rw [hdl, ← hm] at hdl2
        have htl : ((l.drop p).take m).length = m := by rw [List.length_take, hdl]; omega
        obtain ⟨T, hT⟩ : ∃ T, T = (l.drop p).take m := ⟨_, rfl⟩
        rw [← hT] at HBB HX3 htl
        have hts : (strOf T).size = m := by rw [strOf_size, htl]
        clear HX2 HX HB hm hXX hT n2
        go_wp2_with (first | (go_at_call 173; refine (hRd _).mono ?_; rintro e w' ⟨rfl, rfl⟩) | fail)
        refine (HBB.out _).mono ?_
        rintro e w1 ⟨kd, rfl, hkd, hb1⟩
        replace hZ0 := hZ0.later hb1
        replace hZ1 := hZ1.later hb1
        replace hZB := bstep hZB hb1
        have HKD := Lib.hid hkd
        obtain ⟨R, hRR⟩ : ∃ R, R = w1.heap.size := ⟨_, rfl⟩
        obtain ⟨w2, hw2⟩ : ∃ w2, w2 = w1.alloc (.cells #[.int .i64 kd, .string (strOf T), .int .i64 0] 130) := ⟨_, rfl⟩
        have hRk : Blk w2 R [.int .i64 kd, .string (strOf T), .int .i64 0] := by rw [hw2]; exact Blk.is _ hRR
        have hb2 : Below w1.heap.size w1 w2 := by rw [hw2]; exact below1 _ _
        have hlt1 := hZ1.lt
        have hrl : w.heap.size + 1 < R := by omega
        replace hZ0 := hZ0.later hb2
        replace hZ1 := hZ1.later hb2
        replace hZB := bstep hZB hb2
        clear hRd hkd hb1 HBB hb2 hlt1
        have r0 := hRk.cell 0 _ rfl
        have r1 := hRk.cell 1 _ rfl
        have r2 := hRk.cell 2 _ rfl
        have f0 := hRk.fr 0 _ rfl
        have f1 := hRk.fr 1 _ rfl
        have f2 := hRk.fr 2 _ rfl
        have hRlt := hRk.lt
        go_upto_region 8 with (fail)
        rw [← hRR, ← hw2]
        clear hw2 hRR
        by_cases hm0 : m = 0
        · have ht0 : T = [] := List.eq_nil_of_length_eq_zero (by rw [htl, hm0])
          subst ht0
          have hemp : (strOf ([] : List UInt8)).toList.isEmpty = true := by rw [strOf_toL]; rfl
          have HX4 := Lib.hid (by have h := HX3.out; rw [if_pos hm0] at h; exact h)
          clear HX3
          have k0 := hZ0.fr 0 _ rfl
          have k1 := hZ0.fr 1 _ rfl
          have k2 := hZ0.fr 2 _ rfl
          have d0 := hZ0.cell 0 _ rfl
          have d1 := hZ0.cell 1 _ rfl
          have d2 := hZ0.cell 2 _ rfl
          have k3 := hZ1.fr 0 _ rfl
          have k4 := hZ1.fr 1 _ rfl
          have d3 := hZ1.cell 0 _ rfl
          have d4 := hZ1.cell 1 _ rfl
          go_wp2
          refine named_post fun V hV => ?_
          obtain ⟨hVa, hVb, hVB⟩ := tf_out hZ0 hZ1 hZB _ _ _ _ _ V hV
          clear hV d0 d1 d2 d3 d4 k0 k1 k2 k3 k4
          have c0 := hVa.cell 0 _ rfl
          have c1 := hVa.cell 1 _ rfl
          have c2 := hVa.cell 2 _ rfl
          have c3 := hVb.cell 0 _ rfl
          have c4 := hVb.cell 1 _ rfl
          exact bodyPost_ret (v := .tuple #[.agg #[.int .i64 0, .string ⟨#[]⟩, .int .i64 0], .int .i64 0, .agg #[.int .i64 3, .int .i64 (p : Int)]]) (by simp [results, Tryz.results131, go_sem, c0, c1, c2, c3, c4]; try rfl) rfl ⟨by rw [HX4.out]; rfl, hVB⟩
        · have hemp : (strOf T).toList.isEmpty = false := by
            rw [strOf_toL]
            cases T with
            | nil => exact absurd htl.symm hm0
            | cons _ _ => rfl
          have HX4 := Lib.hid (by have h := HX3.out; rw [if_neg hm0] at h; exact h)
          clear HX3
          have hpw : IntKind.i64.wrap ((p : Int) + (m : Int)) = ((p + m : Nat) : Int) := by rw [IntWalk.i64_in _ ⟨by omega, by omega⟩]; omega
          obtain ⟨W3, hW3⟩ : ∃ W3, W3 = w2.setCell ⟨R, 2, none⟩ (.int .i64 (p : Int)) := ⟨_, rfl⟩
          have hR3 : Blk W3 R [.int .i64 kd, .string (strOf T), .int .i64 (p : Int)] := hW3 ▸ hRk.set 2 _
          have hY0 : Blk W3 w.heap.size [.int .i64 0, .string ⟨#[]⟩, .int .i64 0] := hW3 ▸ hZ0.other (p := ⟨R, 2, none⟩) (by simp only; omega) _
          have hY1 : Blk W3 (w.heap.size + 1) [.int .i64 0, .int .i64 0] := hW3 ▸ hZ1.other (p := ⟨R, 2, none⟩) (by simp only; omega) _
          have hYB : Below w.heap.size w W3 := hW3 ▸ hZB.setCell (p := ⟨R, 2, none⟩) (by simp only; omega) _
          go_upto_region 11 with (fail)
          rw [← hW3]
          clear hW3 r0 r1 r2 f0 f1 f2 hZ0 hZ1 hZB hRk hRlt
          go_cut [5] (fun s5 wx => s5 = .int .i64 ((p + m : Nat) : Int) ∧ Blk wx w.heap.size [.int .i64 kd, .string (strOf T), .int .i64 (p : Int)] ∧ Blk wx (w.heap.size + 1) [.int .i64 0, .int .i64 0] ∧ Below w.heap.size w wx)
          case first =>
            have r0 := hR3.cell 0 _ rfl
            have r1 := hR3.cell 1 _ rfl
            have r2 := hR3.cell 2 _ rfl
            have hRlt := hR3.lt
            have hZ0 := hY0
            have hZ1 := hY1
            have k0 := hZ0.fr 0 _ rfl
            have k1 := hZ0.fr 1 _ rfl
            have k2 := hZ0.fr 2 _ rfl
            have d0 := hZ0.cell 0 _ rfl
            have d1 := hZ0.cell 1 _ rfl
            have d2 := hZ0.cell 2 _ rfl
            have k3 := hZ1.fr 0 _ rfl
            have k4 := hZ1.fr 1 _ rfl
            have d3 := hZ1.cell 0 _ rfl
            have d4 := hZ1.cell 1 _ rfl
            go_region_with (fail)
            all_goals
              go_wp2_with fail
              go_meet
              obtain ⟨x0, x1, x2⟩ := tf_out hY0 hY1 hYB (.int .i64 kd) (.string (strOf T)) (.int .i64 (p : Int)) (.int .i64 0) (.int .i64 0) _ rfl
              exact ⟨by rw [Int.natCast_add], x0.drew, x1.drew, x2.drew⟩
          case rest =>
            obtain ⟨rfl, hZ0, hZ1, hVB⟩ := hcut
            have c0 := hZ0.cell 0 _ rfl
            have c1 := hZ0.cell 1 _ rfl
            have c2 := hZ0.cell 2 _ rfl
            have c3 := hZ1.cell 0 _ rfl
            have c4 := hZ1.cell 1 _ rfl
            go_wp2
            exact bodyPost_ret (v := .tuple #[.agg #[.int .i64 kd, .string (strOf T), .int .i64 (p : Int)], .int .i64 ((p + m : Nat) : Int), .agg #[.int .i64 0, .int .i64 0]]) (by simp [results, Tryz.results131, go_sem, c0, c1, c2, c3, c4]; try rfl) rfl ⟨by rw [HX4.out, HKD.out hm0]; rfl, hVB⟩
    · have hJ : p = l.length := by rw [hR.out, List.drop_eq_nil_of_le (by omega), show j = l.length by omega]; rfl
      have hjl : j = l.length := by omega
      have n1 : ((j : Int) == (l.length : Int)) = true := by rw [beq_iff_eq]; omega
      have k2 : ¬ (j : Int) < (l.length : Int) := by omega
      have HX2 := Lib.hid (by have h := HX.out; rw [if_pos hJ, ← hjl] at h; exact h)
      clear HX hJ hR hjl
      have k0 := hZ0.fr 0 _ rfl
      have k1 := hZ0.fr 1 _ rfl
      have k2 := hZ0.fr 2 _ rfl
      have d0 := hZ0.cell 0 _ rfl
      have d1 := hZ0.cell 1 _ rfl
      have d2 := hZ0.cell 2 _ rfl
      have k3 := hZ1.fr 0 _ rfl
      have k4 := hZ1.fr 1 _ rfl
      have d3 := hZ1.cell 0 _ rfl
      have d4 := hZ1.cell 1 _ rfl
      go_wp2
      refine named_post fun V hV => ?_
      obtain ⟨hVa, hVb, hVB⟩ := tf_out hZ0 hZ1 hZB _ _ _ _ _ V hV
      clear hV d0 d1 d2 d3 d4 k0 k1 k2 k3 k4
      have c0 := hVa.cell 0 _ rfl
      have c1 := hVa.cell 1 _ rfl
      have c2 := hVa.cell 2 _ rfl
      have c3 := hVb.cell 0 _ rfl
      have c4 := hVb.cell 1 _ rfl
      exact bodyPost_ret (v := .tuple #[.agg #[.int .i64 0, .string ⟨#[]⟩, .int .i64 0], .int .i64 0, .agg #[.int .i64 5, .int .i64 (j : Int)]]) (by simp [results, Tryz.results131, go_sem, c0, c1, c2, c3, c4]; try rfl) rfl ⟨by rw [HX2.out]; rfl, hVB⟩
theorem rnext_any (l : List UInt8) (hl : l.length ≤ 1000000) (a : Int) (w : World) :
    Calls Tryz.prog 131 #[.string (strOf l), .int .i64 a] w fun e w' => e = .returned (nextX l a).val ∧ Below w.heap.size w w' := by
  by_cases h : a < 0 ∨ (l.length : Int) < a
  · exact rnext_range l a h w
  · obtain ⟨k, rfl⟩ := Int.eq_ofNat_of_zero_le (show 0 ≤ a by omega)
    exact rnext_in l hl k (by omega) w
end Go.Proofs.YtdjaijhlhhnmeaaGreatDoor
namespace Go.Proofs.YtdjaijhlhhnmeaaGreatDoor
open Go.RowKit
open Tk7

theorem toksG_zero (t : List UInt8) (h : t.length ≤ 400) : toksR t = toksG t 0 := if_neg (by omega)
/-- The tokens of two texts with a blank between them. -/
theorem toks_two {a b : List UInt8} (ha : a.length ≤ 190) (hb : b.length ≤ 190) : toksR (a ++ 32 :: b) = both (toksR a) (movedR (a.length + 1) (toksR b)) := by
  have hl : (a ++ 32 :: b).length = a.length + 1 + b.length := by rw [List.length_append, List.length_cons]; omega
  have hm := toks_moved (a.length + 1) b.length b 0 (Nat.le_refl _)
  rw [toksG_zero _ (by omega), toksG_zero a (by omega), toksG_zero b (by omega), toks_both a.length a b 0 (Nat.le_refl _), ← hm, Nat.add_assoc]
theorem toks_fault {t : List UInt8} (ht : t.length ≤ 400) {e : Int × Nat} (h : toksR t = .error e) : e.1 = 3 ∧ e.2 < t.length := by
  rw [toksG_zero _ ht] at h
  obtain ⟨h1, _, h2⟩ := fault_of t.length t 0 e (Nat.le_refl _) h
  exact ⟨h1, by omega⟩
theorem strOf_app (a b : List UInt8) : (strOf (a ++ b) : ByteArray) = strOf a ++ strOf b := by
  apply ByteArray.ext
  simp [strOf]
/-- A token further behind by d. -/
def shiftK (d : Int) (x : TK) : TK := (x.1, x.2.1, x.2.2 + d)
theorem joined_rel {a b : List UInt8} (ha : a.length ≤ 190) (hb : b.length ≤ 190) :
    ((outE a).1 = 3 ∧ outE (a ++ 32 :: b) = outE a) ∨
    ((outE a).1 = 0 ∧ (outE b).1 = 3 ∧ (outE b).2 ≤ 190 ∧ outE (a ++ 32 :: b) = (3, a.length + 1 + (outE b).2)) ∨
    ((outE a).1 = 0 ∧ (outE b).1 = 0 ∧ outE (a ++ 32 :: b) = (0, 0) ∧ outK (a ++ 32 :: b) = outK a ++ (outK b).map (shiftK ((a.length : Int) + 1))) := by
  have h := toks_two ha hb
  unfold outE outK
  cases h1 : toksR a with
  | error e =>
    left
    rw [h1] at h
    rw [h]
    exact ⟨(toks_fault (by omega) h1).1, rfl⟩
  | ok l =>
    right
    cases h2 : toksR b with
    | error e =>
      left
      rw [h1, h2] at h
      rw [h]
      have h3 := toks_fault (by omega) h2
      refine ⟨rfl, h3.1, by have := h3.2; show e.2 ≤ 190; omega, ?_⟩
      show ((e.1 : Int), e.2 + (a.length + 1)) = _
      rw [h3.1, Nat.add_comm]
    | ok m =>
      right
      rw [h1, h2] at h
      rw [h]
      refine ⟨rfl, rfl, rfl, ?_⟩
      show (l ++ moved (a.length + 1) m).map tkOf = _
      rw [List.map_append]
      congr 1
      unfold moved
      rw [List.map_map, List.map_map]
      rfl
theorem kcells_one (xs : List TK) : ∀ u ∈ kcells xs, u.oneCell' = true := by
  intro u hu
  unfold kcells at hu
  obtain ⟨x, _, hu⟩ := List.mem_flatMap.1 hu
  unfold kcell at hu
  simp only [List.mem_cons, List.not_mem_nil, or_false] at hu
  rcases hu with rfl | rfl | rfl <;> rfl
/-- The first i tokens are moved. -/
def mixK (d : Int) (xs : List TK) (i : Nat) : List TK := (xs.take i).map (shiftK d) ++ xs.drop i
theorem mixK_len (d : Int) (xs : List TK) (i : Nat) : (mixK d xs i).length = xs.length := by
  unfold mixK; rw [List.length_append, List.length_map, ← List.length_append, List.take_append_drop]
theorem mixK_all (d : Int) (xs : List TK) : mixK d xs xs.length = xs.map (shiftK d) := by unfold mixK; rw [List.take_length, List.drop_length, List.append_nil]
theorem mixK_zero (d : Int) (xs : List TK) : mixK d xs 0 = xs := rfl
theorem mixK_at (d : Int) (xs : List TK) (i : Nat) (h : i < xs.length) : (mixK d xs i)[i]'(by rw [mixK_len]; exact h) = xs[i] := by
  unfold mixK
  rw [List.getElem_append_right (by rw [List.length_map, List.length_take]; omega)]
  simp only [List.length_map, List.length_take, List.getElem_drop]
  congr 1
  omega
theorem kcells_set {pre post : List TK} {x : TK} (u : Int) : kcells (pre ++ (x.1, x.2.1, u) :: post) = (kcells (pre ++ x :: post)).set (pre.length * 3 + 2) (.int .i64 u) := by
  have h := kcells_len pre
  have e : ∀ y : TK, kcells (pre ++ y :: post) = kcells pre ++ ([.int .i64 y.1, .string (strOf y.2.1), .int .i64 y.2.2] ++ kcells post) := fun y => by rw [kcells_app]; rfl
  rw [e, e, List.set_append_right _ _ (by omega), h, show pre.length * 3 + 2 - pre.length * 3 = 2 by omega]
  rfl
theorem mixK_step (d : Int) (xs : List TK) (i : Nat) (h : i < xs.length) : kcells (mixK d xs (i + 1)) = (kcells (mixK d xs i)).set (i * 3 + 2) (.int .i64 (xs[i].2.2 + d)) := by
  have h1 : mixK d xs i = (xs.take i).map (shiftK d) ++ xs[i] :: xs.drop (i + 1) := by unfold mixK; rw [List.drop_eq_getElem_cons h]
  have h2 : mixK d xs (i + 1) = (xs.take i).map (shiftK d) ++ (xs[i].1, xs[i].2.1, xs[i].2.2 + d) :: xs.drop (i + 1) := by
    unfold mixK; rw [take_snoc _ _ h, List.map_append, List.append_assoc]; rfl
  rw [h1, h2, kcells_set, List.length_map, List.length_take, Nat.min_eq_left (by omega)]
end Go.Proofs.YtdjaijhlhhnmeaaGreatDoor
namespace Go.Proofs.YtdjaijhlhhnmeaaGreatDoor
open Go.RowKit
open Tk7

/-- Tokens in front of what follows. -/
def glueL (ts : List T) : Except (Int × Nat) (List T) → Except (Int × Nat) (List T)
  | .ok us => .ok (ts ++ us)
  | .error e => .error e
theorem glueL_nil (r : Except (Int × Nat) (List T)) : glueL [] r = r := by cases r <;> rfl
theorem glueL_snoc (ts : List T) (x : T) (r : Except (Int × Nat) (List T)) : glueL ts (glue x r) = glueL (ts ++ [x]) r := by
  cases r with
  | error e => rfl
  | ok us => show Except.ok (ts ++ (x :: us)) = Except.ok ((ts ++ [x]) ++ us); rw [List.append_assoc]; rfl
def RtP (w : World) (t : List UInt8) (e : Ending) (w' : World) : Prop :=
  ∃ A c, e = .returned (.tuple #[.slice A (outK t).length c, .agg #[.int .i64 (outE t).1, .int .i64 ((outE t).2 : Int)]]) ∧ Below w.heap.size w w' ∧ KSl w' (.slice A (outK t).length c) (outK t)
theorem RtP.err {w w' : World} {t : List UInt8} {er : Int} {a : Nat} (h : toksR t = .error (er, a)) (hb : Below w.heap.size w w') : RtP w t (.returned (.tuple #[.slice none 0 0, .agg #[.int .i64 er, .int .i64 (a : Int)]])) w' := by
  unfold RtP outK outE
  rw [h]
  exact ⟨none, 0, rfl, hb, Sl.nil w' 3⟩
theorem RtP.ok {w w' : World} {t : List UInt8} {ts : List T} {A : Option Addr} {c base : Nat} (h : toksR t = .ok ts) (hb : Below w.heap.size w w') (ho : w'.ownsRow base 130 3 (.slice A ts.length c) ts.length (kcells (ts.map tkOf))) :
    RtP w t (.returned (.tuple #[.slice A ts.length c, .agg #[.int .i64 0, .int .i64 0]])) w' := by
  unfold RtP outK outE
  rw [h]
  simp only [List.length_map]
  have := own_ts ho
  rw [← List.length_map (f := tkOf)] at this
  refine ⟨A, c, rfl, hb, ?_⟩
  have h2 := own_ts ho
  exact h2
set_option maxRecDepth 100000 in
theorem rtokens_long (t : List UInt8) (hlong : 400 < t.length) (w : World) :
    Calls Tryz.prog 73 #[.string (strOf t)] w (RtP w t) := by
  have hsz : (strOf t).size = t.length := strOf_size t
  have g1 : (400 : Int) < (t.length : Int) := by omega
  have HR := Lib.hid (show toksR t = .error (4, 400) from if_pos hlong)
  go_enter Tryz.func73, Tryz.ntmps73
  go_wp2
  exact bodyPost_ret (v := .tuple #[.slice none 0 0, .agg #[.int .i64 4, .int .i64 400]]) (by simp [results, Tryz.results73, go_sem]; try rfl) rfl (RtP.err HR.out (below1 _ _))
theorem flt_out {W : World} {R base : Nat} {w : World} {x0 x1 : Value} (h0 : Blk W R [x0, x1]) (hB : Below R w W) (u0 u1 : Value) (V : World) (hV : V = (W.setCell ⟨R, 0, none⟩ u0).setCell ⟨R, 1, none⟩ u1) :
    Blk V R [u0, u1] ∧ Below R w V ∧ ∀ {e : TypeId} {sz n : Nat} {v : Value} {us : List Value}, R < base → W.ownsRow base e sz v n us → V.ownsRow base e sz v n us := by
  subst hV
  exact ⟨(h0.set 0 u0).set 1 u1, (hB.setCell (p := ⟨R, 0, none⟩) (Nat.le_refl _) _).setCell (p := ⟨R, 1, none⟩) (Nat.le_refl _) _, fun hb ho => own_set (own_set ho hb _ _) hb _ _⟩
set_option maxRecDepth 100000 in
set_option maxHeartbeats 4000000 in
theorem rtokens_short (t : List UInt8) (hl : t.length ≤ 400) (w : World) :
    Calls Tryz.prog 73 #[.string (strOf t)] w (RtP w t) := by
  have hsz : (strOf t).size = t.length := strOf_size t
  have g1 : ¬ (400 : Int) < (t.length : Int) := by omega
  obtain ⟨i0, hi, hz0, hz1, hz2⟩ := info_parts infoTok
  have H0 := Lib.hid (show toksR t = glueL [] (toksG (t.drop 0) 0) by rw [glueL_nil, List.drop_zero]; exact if_neg (by omega))
  obtain ⟨W0, hW0⟩ : ∃ W0, W0 = w.alloc (.cells #[.int .i64 0, .int .i64 0] 36) := ⟨_, rfl⟩
  have hF0 : Blk W0 w.heap.size [.int .i64 0, .int .i64 0] := by rw [hW0]; exact Blk.is _ rfl
  have hB0 : Below w.heap.size w W0 := by rw [hW0]; exact below1 _ _
  go_enter Tryz.func73, Tryz.ntmps73
  go_wp2
  rw [← hW0]
  clear hW0
  go_loopg [4, 5] t.length (fun g ov kv wr => ∃ (ts : List T) (k : Nat) (A : Option Addr) (c : Nat), k ≤ t.length ∧ g = t.length - k ∧ ov = .slice A ts.length c ∧ kv = .int .i64 (k : Int) ∧ ts.length ≤ k ∧
    Hid (wr.ownsRow (w.heap.size + 1) 130 3 (.slice A ts.length c) ts.length (kcells (ts.map tkOf))) ∧ Hid (Blk wr w.heap.size [.int .i64 0, .int .i64 0]) ∧ Hid (Below w.heap.size w wr) ∧ Hid (toksR t = glueL ts (toksG (t.drop k) k)))
  case atStart => exact ⟨[], 0, none, 0, by omega, rfl, rfl, rfl, Nat.le_refl _, Lib.hid (World.ownsRow_nil _ _ _ _), Lib.hid hF0, Lib.hid hB0, H0⟩
  case round =>
    clear hF0 hB0 H0
    obtain ⟨ts, k, A, c, hk, hg, rfl, rfl, hts, hO, hF, hB, hR⟩ := hrel
    have hN := rnext_any t (by omega) (k : Int) wr
    have hlt := hF.out.lt
    rcases next_cases hk with ⟨h1, h2⟩ | ⟨p, h1, h2⟩ | ⟨x, h1, h2, h3, h4⟩
    · have hN3 : Calls Tryz.prog 131 #[.string (strOf t), .int .i64 (k : Int)] wr fun e w' => e = .returned (.tuple #[.agg #[.int .i64 0, .string ⟨#[]⟩, .int .i64 0], .int .i64 0, .agg #[.int .i64 5, .int .i64 (t.length : Int)]]) ∧ Below wr.heap.size wr w' := by
        rw [h2] at hN; exact hN
      have HR := Lib.hid (show toksR t = .ok ts by rw [hR.out, h1]; show Except.ok (ts ++ []) = _; rw [List.append_nil])
      clear h1 h2 hN hR
      go_wp2_with (go_at_call 131; refine hN3.mono ?_; rintro e w1 ⟨rfl, hb1⟩; have hF1 := hF.out.later hb1; have k0 := hF1.fr 0 _ rfl; have k1 := hF1.fr 1 _ rfl; have d0 := hF1.cell 0 _ rfl; have d1 := hF1.cell 1 _ rfl; have hlt1 := hF1.lt)
      refine named_post fun V hV => ?_
      obtain ⟨y0, y1, y2⟩ := flt_out (base := w.heap.size + 1) hF1 (bstep hB.out hb1) (.int .i64 0) (.int .i64 0) _ rfl
      have y3 := y2 (by omega) (own_later hO.out hb1)
      obtain ⟨V0, hV0⟩ : ∃ V0, V0 = (w1.setCell ⟨w.heap.size, 0, none⟩ (.int .i64 0)).setCell ⟨w.heap.size, 1, none⟩ (.int .i64 0) := ⟨_, rfl⟩
      rw [← hV0] at hV y0 y1 y3
      subst hV
      have hb3 := below2 V0 (.cells #[.int .i64 0, .string ⟨#[]⟩, .int .i64 0] 130) (.cells #[.int .i64 5, .int .i64 (t.length : Int)] 36)
      have hVa := y0.later hb3
      have hVB := bstep y1 hb3
      have hVO2 := own_later y3 hb3
      clear y2 hV0
      have c0 := hVa.cell 0 _ rfl
      have c1 := hVa.cell 1 _ rfl
      exact bodyPost_ret (v := .tuple #[.slice A ts.length c, .agg #[.int .i64 0, .int .i64 0]]) (by simp [results, Tryz.results73, go_sem, c0, c1]; try rfl) rfl (RtP.ok HR.out hVB hVO2)
    · have hN3 : Calls Tryz.prog 131 #[.string (strOf t), .int .i64 (k : Int)] wr fun e w' => e = .returned (.tuple #[.agg #[.int .i64 0, .string ⟨#[]⟩, .int .i64 0], .int .i64 0, .agg #[.int .i64 3, .int .i64 (p : Int)]]) ∧ Below wr.heap.size wr w' := by
        rw [h2] at hN; exact hN
      have HR := Lib.hid (show toksR t = .error (3, p) by rw [hR.out, h1]; rfl)
      clear h1 h2 hN hR
      go_upto_region 9 with (go_at_call 131; refine hN3.mono ?_; rintro e w1 ⟨rfl, hb1⟩)
      have hb3 := bstep hb1 (below2 w1 (.cells #[.int .i64 0, .string ⟨#[]⟩, .int .i64 0] 130) (.cells #[.int .i64 3, .int .i64 (p : Int)] 36))
      have hE2 : Blk ((w1.alloc (.cells #[.int .i64 0, .string ⟨#[]⟩, .int .i64 0] 130)).alloc (.cells #[.int .i64 3, .int .i64 (p : Int)] 36)) (w1.heap.size + 1) [.int .i64 3, .int .i64 (p : Int)] := Blk.is _ (by simp)
      obtain ⟨W2, hW2⟩ : ∃ W2, W2 = (w1.alloc (.cells #[.int .i64 0, .string ⟨#[]⟩, .int .i64 0] 130)).alloc (.cells #[.int .i64 3, .int .i64 (p : Int)] 36) := ⟨_, rfl⟩
      rw [← hW2] at hb3 hE2 ⊢
      have hF1 := hF.out.later hb3
      have hB1 := bstep hB.out hb3
      have k0 := hF1.fr 0 _ rfl
      have k1 := hF1.fr 1 _ rfl
      have d0 := hF1.cell 0 _ rfl
      have d1 := hF1.cell 1 _ rfl
      have hlt1 := hF1.lt
      have hls := hb1.size
      have e0 := hE2.cell 0 _ rfl
      have e1 := hE2.cell 1 _ rfl
      have hlt2 := hE2.lt
      clear hW2
      go_region_with (fail)
      all_goals
        go_wp2
        refine named_post fun V hV => ?_
        have hVV : Blk V w.heap.size [.int .i64 3, .int .i64 (p : Int)] ∧ Below w.heap.size w V := by
          obtain ⟨x0, x1, _⟩ := flt_out (base := w.heap.size + 1) hF1 hB1 (.int .i64 3) (.int .i64 (p : Int)) _ rfl
          rw [hV]
          exact ⟨x0.drew, x1.drew⟩
        clear hV
        have c0 := hVV.1.cell 0 _ rfl
        have c1 := hVV.1.cell 1 _ rfl
        exact bodyPost_ret (v := .tuple #[.slice none 0 0, .agg #[.int .i64 3, .int .i64 (p : Int)]]) (by simp [results, Tryz.results73, go_sem, c0, c1]; try rfl) rfl (RtP.err HR.out hVV.2)
    · obtain ⟨kd, tx, at_⟩ := x
      have hN3 : Calls Tryz.prog 131 #[.string (strOf t), .int .i64 (k : Int)] wr fun e w' => e = .returned (.tuple #[.agg #[.int .i64 (kd : Int), .string (strOf tx), .int .i64 (at_ : Int)], .int .i64 ((at_ + tx.length : Nat) : Int), .agg #[.int .i64 0, .int .i64 0]]) ∧ Below wr.heap.size wr w' := by
        rw [h2] at hN; exact hN
      simp only at h3 h4
      have HR := Lib.hid (show toksR t = glueL (ts ++ [(kd, tx, at_)]) (toksG (t.drop (at_ + tx.length)) (at_ + tx.length)) by rw [hR.out, h1, glueL_snoc])
      obtain ⟨q, hq⟩ : ∃ q, q = at_ + tx.length := ⟨_, rfl⟩
      rw [← hq] at hN3 HR h3 h4
      clear h1 h2 hN hR hq
      go_upto_region 10 with (go_at_call 131; refine hN3.mono ?_; rintro e w1 ⟨rfl, hb1⟩)
      have hb3 := bstep hb1 (below2 w1 (.cells #[.int .i64 (kd : Int), .string (strOf tx), .int .i64 (at_ : Int)] 130) (.cells #[.int .i64 0, .int .i64 0] 36))
      have hE2 : Blk ((w1.alloc (.cells #[.int .i64 (kd : Int), .string (strOf tx), .int .i64 (at_ : Int)] 130)).alloc (.cells #[.int .i64 0, .int .i64 0] 36)) w1.heap.size [.int .i64 (kd : Int), .string (strOf tx), .int .i64 (at_ : Int)] := (Blk.is _ rfl).alloc _
      obtain ⟨W2, hW2⟩ : ∃ W2, W2 = (w1.alloc (.cells #[.int .i64 (kd : Int), .string (strOf tx), .int .i64 (at_ : Int)] 130)).alloc (.cells #[.int .i64 0, .int .i64 0] 36) := ⟨_, rfl⟩
      rw [← hW2] at hb3 hE2 ⊢
      have hF1 := Lib.hid (hF.out.later hb3)
      have hB1 := Lib.hid (bstep hB.out hb3)
      have hO1 := own_later hO.out hb3
      have hlt1 := hF1.out.lt
      have e0 := hE2.cell 0 _ rfl
      have e1 := hE2.cell 1 _ rfl
      have e2 := hE2.cell 2 _ rfl
      have hlt2 := hE2.lt
      have hb4 := below1 W2 (.cells #[.int .i64 (kd : Int), .string (strOf tx), .int .i64 (at_ : Int)] 130)
      obtain ⟨A4, c4, w5, hrun, O4, hg4⟩ := run_append_any (P := Tryz.prog) (W2.alloc (.cells #[.int .i64 (kd : Int), .string (strOf tx), .int .i64 (at_ : Int)] 130)) (w.heap.size + 1) 66 66 130 i0 (.agg #[.int .i64 0, .string ⟨#[]⟩, .int .i64 0]) 3 32 Tryz.underlying66 hi hz0 hz1 hz2 rfl (by decide) _ ts.length (kcells (ts.map tkOf)) (own_later hO1 hb4) _ 1 _ (Sl.lit (Blk.is (us := kcells [tkOf (kd, tx, at_)]) _ rfl) 3 1 rfl (by decide)) (kcells_one _) (by unfold maxLen; omega) (by omega) (by have := hb4.size; omega) (ts ++ [(kd, tx, at_)]).length (kcells ((ts ++ [(kd, tx, at_)]).map tkOf)) (by rw [List.length_append]; rfl) (by rw [List.map_append, kcells_app]; rfl)
      have far : some w.heap.size ≠ (Value.slice A ts.length c).ownBlock := fun e => by have := (hO1.lt _ e.symm).1; omega
      have HF5 := Lib.hid ((hF1.out.later hb4).grown hg4 far)
      have HB5 := Lib.hid ((bstep hB1.out hb4).grown hg4 (bstep hB1.out hb4).size (fun j e => by have := (hO1.lt j e).1; omega))
      have HO4 := Lib.hid O4
      clear hW2 O4 hg4 hO1 far hb4 hb3 hb1
      go_wp2_with (at_builtin; refine wpList_append_run rfl _ _ _ rfl rfl rfl hrun ?_)
      go_roundg (t.length - q)
      case rel => exact ⟨ts ++ [(kd, tx, at_)], q, A4, c4, by omega, rfl, by rw [List.length_append]; rfl, rfl, by rw [List.length_append, List.length_singleton]; omega, HO4, HF5, HB5, HR⟩
      case measure => omega
theorem rtokens_any (t : List UInt8) (w : World) (_hl : t.length ≤ 1000000) :
    Calls Tryz.prog 73 #[.string (strOf t)] w (RtP w t) := by
  by_cases h : 400 < t.length
  · exact rtokens_long t h w
  · exact rtokens_short t (by omega) w
end Go.Proofs.YtdjaijhlhhnmeaaGreatDoor
namespace Go.Proofs.YtdjaijhlhhnmeaaGreatDoor
open Go.RowKit
open Tk7

theorem tok_self {k : Nat} {l : List UInt8} (kd : Int) (hl : l ≠ []) (hkd : (begG l).2 ≠ 0 → kd = ((begG l).1 : Int)) :
    (isTok k l = true → kd = (k : Int) ∧ l.take (begG l).2 = l) ∧ (isTok k l = false → kd = (k : Int) → l.take (begG l).2 ≠ l) := by
  have hlen : l.length ≠ 0 := fun e => hl (List.eq_nil_of_length_eq_zero e)
  constructor
  · intro h
    obtain ⟨h1, _⟩ := isTok_iff.1 h
    rw [h1] at hkd ⊢
    exact ⟨hkd hlen, List.take_length⟩
  · intro h h1 h2
    have h3 := congrArg List.length h2
    rw [List.length_take] at h3
    have h4 := begG_le l
    have h5 : (begG l).2 = l.length := by omega
    have h6 := hkd (by omega)
    have h7 : (begG l).1 = k := by omega
    have : isTok k l = true := isTok_iff.2 ⟨by rw [← h7, ← h5], hl⟩
    rw [h] at this
    cases this
set_option maxRecDepth 100000 in
set_option maxHeartbeats 4000000 in
theorem rcheck_any (K : Int) (l : List UInt8) (a : Int) (hl : l.length ≤ 1000000) (w : World) :
    Calls Tryz.prog 175 #[.agg #[.int .i64 K, .string (strOf l), .int .i64 a]] w fun e w' => e = .returned (.int .i64 (checkI (K, l, a))) ∧ Below w.heap.size w w' := by
  have hc : checkI (K, l, a) = if K < 1 ∨ 4 < K then 11 else if isTok K.toNat l = false then 3 else if a < 0 then 2 else 0 := rfl
  by_cases hk1 : K < 1
  · rw [hc, if_pos (Or.inl hk1)]
    clear hc
    go_enter Tryz.func175, Tryz.ntmps175
    go_wp2
    go_ret
    exact ⟨rfl, below1 _ _⟩
  by_cases hk2 : 4 < K
  · rw [hc, if_pos (Or.inr hk2)]
    clear hc
    go_enter Tryz.func175, Tryz.ntmps175
    go_wp2
    go_ret
    exact ⟨rfl, below1 _ _⟩
  rw [hc, if_neg (by omega)]
  clear hc
  obtain ⟨k, hk⟩ : ∃ k : Nat, k = K.toNat := ⟨_, rfl⟩
  have hKk : K = (k : Int) := by omega
  rw [← hk]
  clear hk
  subst hKk
  by_cases hn : l = []
  · subst hn
    rw [if_pos (by simp [isTok])]
    have hemp : (strOf ([] : List UInt8)).toList.isEmpty = true := by rw [strOf_toL]; rfl
    go_enter Tryz.func175, Tryz.ntmps175
    go_wp2
    go_ret
    exact ⟨rfl, below1 _ _⟩
  have h0 : 0 < l.length := List.length_pos_iff.2 hn
  have hemp : (strOf l).toList.isEmpty = false := by
    rw [strOf_toL]
    cases l with
    | nil => exact absurd rfl hn
    | cons _ _ => rfl
  have hB := fun w => rbegins_any l h0 hl w
  unfold BegP at hB
  have hts := fun kd h => tok_self (k := k) (l := l) kd hn h
  obtain ⟨b, hb⟩ : ∃ b, b = isTok k l := ⟨_, rfl⟩
  obtain ⟨T, hT⟩ : ∃ T, T = l.take (begG l).2 := ⟨_, rfl⟩
  rw [← hT] at hB hts
  rw [← hb] at hts ⊢
  have HTS := Lib.hid hts
  have hl1 : (strOf T).toList = T := strOf_toL T
  have hl2 : (strOf l).toList = l := strOf_toL l
  have hbx : ∀ w2 : World, Below (w.alloc (.cells #[.int .i64 (k : Int), .string (strOf l), .int .i64 a] 130)).heap.size (w.alloc (.cells #[.int .i64 (k : Int), .string (strOf l), .int .i64 a] 130)) w2 → Blk w2 w.heap.size [.int .i64 (k : Int), .string (strOf l), .int .i64 a] ∧ Below w.heap.size w w2 := fun w2 hb => ⟨(Blk.is _ rfl).later hb, bstep (below1 _ _) hb⟩
  clear hts hb hT
  obtain ⟨S, hS⟩ : ∃ S, S = strOf l := ⟨_, rfl⟩
  obtain ⟨S2, hS2⟩ : ∃ S, S = strOf T := ⟨_, rfl⟩
  rw [← hS] at hB hbx hl2 hemp ⊢
  rw [← hS2] at hB hl1
  have hST : T = l → S2 = S := fun e => by rw [hS, hS2, e]
  have HL1 := Lib.hid hl1
  have HL2 := Lib.hid hl2
  clear hS hS2 hl1 hl2
  obtain ⟨r, hr⟩ : ∃ r : Int, r = if b = false then 3 else if a < 0 then 2 else 0 := ⟨_, rfl⟩
  rw [← hr]
  have HR := Lib.hid hr
  clear hr
  go_enter Tryz.func175, Tryz.ntmps175
  go_upto_region 6 with (go_at_call 174; refine (hB _).mono ?_; rintro e w2 ⟨kd, rfl, hkd, hb2⟩)
  obtain ⟨hq, hB2⟩ := hbx _ hb2
  have hts := HTS.out kd hkd
  have c0 := hq.cell 0 _ rfl
  have c1 := hq.cell 1 _ rfl
  have c2 := hq.cell 2 _ rfl
  have hql := hq.lt
  clear HTS hbx hkd hq hB
  cases b with
  | true =>
    obtain ⟨rfl, h2⟩ := hts.1 rfl
    have h3 := hST h2
    subst h3
    clear hts hST h2
    by_cases ha : a < 0
    · have er := Lib.hid (show r = 2 by rw [HR.out, if_neg (by decide), if_pos ha])
      clear HR
      go_wp2
      go_ret
      exact ⟨by rw [er.out]; rfl, bstep hB2 (below1 _ _)⟩
    · have er := Lib.hid (show r = 0 by rw [HR.out, if_neg (by decide), if_neg ha])
      clear HR
      go_wp2
      go_ret
      exact ⟨by rw [er.out]; rfl, bstep hB2 (below1 _ _)⟩
  | false =>
    have er := Lib.hid (show r = 3 by rw [HR.out, if_pos rfl])
    clear HR
    by_cases h1 : kd = (k : Int)
    · have h2 := hts.2 rfl h1
      have b1 : (S2.toList == S.toList) = false := by rw [HL1.out, HL2.out, beq_eq_false_iff_ne]; exact h2
      have n1 : ¬ S2.toList = S.toList := by rw [HL1.out, HL2.out]; exact h2
      subst h1
      clear hts hST h2
      go_wp2
      go_ret
      exact ⟨by rw [er.out]; rfl, bstep hB2 (below1 _ _)⟩
    · have b1 : (kd == (k : Int)) = false := by rw [beq_eq_false_iff_ne]; exact h1
      clear hts hST
      go_wp2
      go_ret
      exact ⟨by rw [er.out]; rfl, bstep hB2 (below1 _ _)⟩
/-- At most 20 tokens of at most 60 bytes each. -/
def fewB (xs : List TK) : Bool := (xs.take 21).all (fun x => decide (x.2.1.length ≤ 60)) && decide (xs.length ≤ 20)
theorem few_true {xs : List TK} (h : fewB xs = true) : xs.length ≤ 20 ∧ ∀ x ∈ xs, x.2.1.length ≤ 60 := by
  unfold fewB at h
  rw [Bool.and_eq_true, List.all_eq_true, decide_eq_true_eq] at h
  refine ⟨h.2, fun x hx => ?_⟩
  have := h.1 x (by rw [List.take_of_length_le (by omega)]; exact hx)
  exact of_decide_eq_true this
end Go.Proofs.YtdjaijhlhhnmeaaGreatDoor
