/- Walks: the document's own first token: a sign. -/
import Derived.Test.YtmdlndmibodimaaDoorTokW
namespace Go.Proofs.YtmdlndmibodimaaDoor
open Go.RowKit
open Tk7

set_option maxRecDepth 100000 in
set_option maxHeartbeats 4000000 in
theorem rbegins_sign (l : List UInt8) (h0 : 0 < l.length) (hl : l.length ≤ 1000000) (h1 : smallB (l[0]'h0) = false) (h2 : largeB (l[0]'h0) = false) (hs : (begG l).2 = signG l) (hk : (begG l).2 ≠ 0 → (begG l).1 = 4)
    (hN : ∀ w : World, Calls Tryd.prog 58 #[.string (strOf l)] w fun e w' => e = .returned (.int .i64 0) ∧ w = w') (w : World) :
    Calls Tryd.prog 38 #[.string (strOf l)] w (BegP l w) := by
  have HS := Lib.hid (show firstS signsR l = l.take (begG l).2 by rw [firstR_sign, hs])
  have HK := Lib.hid hk
  obtain ⟨W, hW⟩ : ∃ W, W = w.alloc (.cells #[.int .i64 0, .string ⟨#[]⟩, .int .i64 0] 30) := ⟨_, rfl⟩
  obtain ⟨hZ, hZB⟩ := TkZ w W hW
  have hsz : (strOf l).size = l.length := strOf_size l
  have q0 : 0 < (strOf l).size := by omega
  have g1 : (0 : Int) < (l.length : Int) := by omega
  have hx0 : ((strOf l)[0]'q0) = l[0]'h0 := rfl
  have hS := fun w => rsmall_any (l[0]'h0) w
  rw [h1, ← hx0] at hS
  have hL := fun w => rlarge_any (l[0]'h0) w
  rw [h2, ← hx0] at hL
  clear hx0 h1 h2 hs hk
  go_enter Tryd.func38, Tryd.ntmps38
  go_wp2_with fail
  rw [← hW]
  clear hW
  refine (hS _).mono ?_; rintro e w1 ⟨rfl, rfl⟩
  go_wp2_with (first | (go_at_call 57; refine (hL _).mono ?_; rintro e w1 ⟨rfl, rfl⟩) | (go_at_call 58; refine (hN _).mono ?_; rintro e w1 ⟨rfl, rfl⟩) | (go_at_call 59; refine (rsigns_any _).mono ?_; rintro e W1 ⟨a, rfl, hb1, ha, hc⟩))
  have hZ := hZ.later hb1
  have hZB := bstep hZB hb1
  have HC := Lib.hid hc
  clear hc hb1 hS hL hN
  have k0 := hZ.fr 0 _ rfl
  have k1 := hZ.fr 1 _ rfl
  have k2 := hZ.fr 2 _ rfl
  have d0 := hZ.cell 0 _ rfl
  have d1 := hZ.cell 1 _ rfl
  have d2 := hZ.cell 2 _ rfl
  go_loopg [6] 17 (fun g iv wr => ∃ (i n : Nat), i ≤ 17 ∧ g = 17 - i ∧ iv = .int .i64 (i : Int) ∧ wr = W1.drewN n ∧ Hid (firstS signsR l = firstS (signsR.drop i) l))
  case atStart => exact ⟨0, 0, by omega, rfl, rfl, rfl, Lib.hid rfl⟩
  case round =>
    obtain ⟨i, n, hi, hg, rfl, rfl, hF⟩ := hrel
    by_cases hz : i = 17
    · subst hz
      have e1 := Lib.hid (show strOf [] = strOf (l.take (begG l).2) by rw [← HS.out, hF.out]; rfl)
      have e2 := Lib.hid (show (begG l).2 ≠ 0 → False from fun h => by
        have h3 := HS.out
        rw [hF.out] at h3
        have h4 : firstS (signsR.drop 17) l = [] := rfl
        rw [h4] at h3
        have h5 := congrArg List.length h3
        rw [List.length_take] at h5
        have h6 := begG_le l
        simp at h5
        omega)
      have hZ := hZ.drewN n
      have hZB := below_drewN hZB n
      go_wp2
      refine named_post fun V hV => ?_
      obtain ⟨hVa, hVB⟩ := tk_out hZ hZB _ _ _ V hV
      clear hV d0 d1 d2 k0 k1 k2
      have c0 := hVa.cell 0 _ rfl
      have c1 := hVa.cell 1 _ rfl
      have c2 := hVa.cell 2 _ rfl
      exact bodyPost_ret (v := .agg #[.int .i64 0, .string (strOf []), .int .i64 0]) (by simp [results, Tryd.results38, go_sem, c0, c1, c2]; try rfl) rfl ⟨0, by rw [e1.out], fun h => (e2.out h).elim, hVB⟩
    · have hi17 : i < 17 := by omega
      have h1 : (i : Int) < 17 := by omega
      have h1b : (0 : Int) ≤ (i : Int) := by omega
      obtain ⟨c, hc⟩ : ∃ c, signsR[i]? = some c := ⟨_, List.getElem?_eq_getElem hi17⟩
      have hci := HC.out i c hc
      have hdr := Lib.hid (dropR_sign hc)
      have hcl := signsR_len i c hc
      have hcs : (strOf c).size = c.length := strOf_size c
      have hwi : IntKind.i64.wrap ((i : Int) + 1) = (i : Int) + 1 := IntWalk.i64_in _ ⟨by omega, by omega⟩
      clear hz hc
      by_cases hlong : l.length < c.length
      · have h2 : ¬ (c.length : Int) ≤ (l.length : Int) := by omega
        have h2d : decide ((c.length : Int) ≤ (l.length : Int)) = false := decide_eq_false h2
        have h2e : decide (c.length ≤ l.length) = false := decide_eq_false (by omega)
        have hF2 := Lib.hid (show firstS signsR l = firstS (signsR.drop (i + 1)) l by rw [hF.out, hdr.out, first_skip (not_prefix_long hlong)])
        clear hF hdr
        go_wp2
        go_quiet (fail)
        go_wp2
        go_roundg (17 - (i + 1))
        case rel => exact ⟨i + 1, _, by omega, rfl, by go_num, rfl, hF2⟩
        case measure => omega
      · have h2 : (c.length : Int) ≤ (l.length : Int) := by omega
        have h3 : (0 : Int) ≤ (c.length : Int) := by omega
        have hte : (strOf l).extract 0 c.length = strOf (l.take c.length) := ext_zero l c.length
        obtain ⟨X, hX⟩ : ∃ X, X = (strOf l).extract 0 c.length := ⟨_, rfl⟩
        by_cases hpre : c.isPrefixOf l = true
        · have hT : l.take c.length = c := by
            obtain ⟨t, rfl⟩ := List.isPrefixOf_iff_prefix.1 hpre
            simp
          rw [hT] at hte
          have e1 := Lib.hid (show strOf c = strOf (l.take (begG l).2) by rw [← HS.out, hF.out, hdr.out, first_is hpre])
          clear hF hdr hpre hlong hX
          go_wp2
          go_quiet (fail)
          have hZ := hZ.drewN (n + nq)
          have hZB := below_drewN hZB (n + nq)
          go_wp2
          refine named_post fun V hV => ?_
          obtain ⟨hVa, hVB⟩ := tk_out hZ hZB _ _ _ V hV
          clear hV d0 d1 d2 k0 k1 k2
          have c0 := hVa.cell 0 _ rfl
          have c1 := hVa.cell 1 _ rfl
          have c2 := hVa.cell 2 _ rfl
          exact bodyPost_ret (v := .agg #[.int .i64 4, .string (strOf c), .int .i64 0]) (by simp [results, Tryd.results38, go_sem, c0, c1, c2]; try rfl) rfl ⟨4, by rw [e1.out], fun h => by rw [HK.out h]; rfl, hVB⟩
        · have hpf : c.isPrefixOf l = false := Bool.not_eq_true _ ▸ hpre
          have hF2 := Lib.hid (show firstS signsR l = firstS (signsR.drop (i + 1)) l by rw [hF.out, hdr.out, first_skip hpf])
          have hne : ((strOf (l.take c.length)).toList == (strOf c).toList) = false := str_ne (fun e => hpre (by
            have e := congrArg (fun s : ByteArray => s.data.toList) e
            simp only [strOf_dat] at e
            rw [List.isPrefixOf_iff_prefix, ← e]
            exact List.take_prefix _ _))
          clear hF hdr hpre hpf hlong hX
          go_wp2
          go_quiet (fail)
          go_wp2
          go_roundg (17 - (i + 1))
          case rel => exact ⟨i + 1, _, by omega, rfl, by go_num, rfl, hF2⟩
          case measure => omega
theorem rbegins_any (l : List UInt8) (h0 : 0 < l.length) (hl : l.length ≤ 1000000) (w : World) :
    Calls Tryd.prog 38 #[.string (strOf l)] w (BegP l w) := by
  cases h1 : smallB (l[0]'h0) with
  | true => exact rbegins_small l h0 hl h1 w
  | false =>
    cases h2 : largeB (l[0]'h0) with
    | true => exact rbegins_large l h0 hl h1 h2 w
    | false =>
      obtain ⟨n, hn, hN⟩ := rnumber_any l h0 hl h1 h2
      rcases hn with ⟨rfl, h3, h4⟩ | hn
      · exact rbegins_sign l h0 hl h1 h2 h3 h4 hN w
      · exact rbegins_num l h0 hl h1 h2 n hn hN w
end Go.Proofs.YtmdlndmibodimaaDoor
