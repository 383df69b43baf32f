/- Walks: Sized of the reference. -/
import Derived.Test.YtgcgoiaadigmfaaWireL
namespace Go.Proofs.Ytgcgoiaadigmfaa
open Go.RowKit
open Wr

set_option maxHeartbeats 2000000 in
theorem refSized_any (r : Rd) (n : Int) (w : World) (hs : r.s.size ≤ 9223372036854775807) :
    Calls Try.prog 17 #[r.val, .int .i64 n] w fun e w' => e = .returned (.tuple #[(sizedR r n).1.val, .string (sizedR r n).2]) ∧ Below w.heap.size w w' := by
  have hk := opened_ok r
  have hm := opened_m r
  have hs' := Nat.le_trans (opened_s r) hs
  have hopen := refReader_any r
  obtain ⟨s, at_, err, fat⟩ := r
  obtain ⟨x, hx⟩ : ∃ x, x = Rd.opened ⟨s, at_, err, fat⟩ := ⟨_, rfl⟩
  have hu := (show sizedR ⟨s, at_, err, fat⟩ n = ((x.sized n).1.given, (x.sized n).2) by rw [hx]; rfl)
  rw [← hx] at hk hm hs' hopen
  clear hx
  have hu0 := hk.u0
  have hum : x.u ≤ x.s.size := by have := hk.um; omega
  have hF : ∀ q w, Calls Try.prog 50 #[(.agg #[.string (x).s, .int .i64 (x).u, .int .i64 (x).e, .int .i64 (x).a]), .int .i64 q, .int .i64 x.u] w fun e w' => e = .returned (.agg #[.string (x.failAt q x.u).s, .int .i64 (x.failAt q x.u).u, .int .i64 (x.failAt q x.u).e, .int .i64 (x.failAt q x.u).a]) ∧ Below w.heap.size w w' := fun q w => by
    have := refFail_any x.given q x.u w
    rw [fail_given] at this
    exact this
  have hT : ∀ n w, 0 ≤ n → n ≤ 9223372036854775807 → Calls Try.prog 51 #[(.agg #[.string (x).s, .int .i64 (x).u, .int .i64 (x).e, .int .i64 (x).a]), .int .i64 n] w fun e w' => e = .returned (.tuple #[(.agg #[.string ((x.take n).1).s, .int .i64 ((x.take n).1).u, .int .i64 ((x.take n).1).e, .int .i64 ((x.take n).1).a]), .string (x.take n).2]) ∧ Below w.heap.size w w' := fun n w h0 h1 => by
    have := refTake_any x.given n w hu0 hum hs' h0 h1
    rw [take_given x hm] at this
    exact this
  replace hm := Lib.hid hm
  simp only [Rd.val, Sp.given] at hopen ⊢
  have hw : n < 0 ∨ 0 ≤ n ∧ 65535 < n ∨ 0 ≤ n ∧ n ≤ 65535 := by omega
  rcases hw with hn | ⟨hn, hn2⟩ | ⟨hn, hn2⟩
  · rw [show x.sized n = (x.failAt 2 x.u, ⟨#[]⟩) by unfold Sp.sized; rw [if_neg (by simp [within]; omega)]] at hu
    replace hu := Lib.hid hu
    go_enter Try.func17, Try.ntmps17
    go_wp2_with fail
    refine named fun W hW => ?_
    have hB : Below w.heap.size w W := by rw [hW]; go_grown
    have hX : Blk W w.heap.size [.string s, .int .i64 at_, .int .i64 err, .int .i64 fat] := by
      rw [hW]; exact (Blk.is (us := [.string s, .int .i64 at_, .int .i64 err, .int .i64 fat]) _ rfl).alloc _
    have hR : Blk W (w.heap.size + 1) [.string ⟨#[]⟩, .int .i64 0, .int .i64 0, .int .i64 0] := by rw [hW]; exact Blk.is (us := [.string ⟨#[]⟩, .int .i64 0, .int .i64 0, .int .i64 0]) _ (by simp)
    clear hW
    refine (hopen _).mono ?_
    rintro e w1 ⟨rfl, hb⟩
    replace hX := hX.later hb
    replace hR := hR.later hb
    replace hB := bstep hB hb
    clear hb
    have x0 := hX.cell 0 _ rfl
    have x1 := hX.cell 1 _ rfl
    have x2 := hX.cell 2 _ rfl
    have x3 := hX.cell 3 _ rfl
    have xf0 := hX.fr 0 _ rfl
    have xf1 := hX.fr 1 _ rfl
    have xf2 := hX.fr 2 _ rfl
    have xf3 := hX.fr 3 _ rfl
    go_wp2_with fail
    refine named fun W2 hW => ?_
    replace hX : Blk W2 w.heap.size [.string (x).s, .int .i64 (x).u, .int .i64 (x).e, .int .i64 (x).a] := by rw [hW]; exact ((((hX.set 0 _).set 1 _).set 2 _).set 3 _)
    replace hR : Blk W2 (w.heap.size + 1) [.string ⟨#[]⟩, .int .i64 0, .int .i64 0, .int .i64 0] := by rw [hW]; exact ((((hR.other (by simp) _).other (by simp) _).other (by simp) _).other (by simp) _)
    replace hB : Below w.heap.size w W2 := by rw [hW]; exact ((((hB.setCell (p := ⟨w.heap.size, 0, none⟩) (Nat.le_refl _) _).setCell (p := ⟨w.heap.size, 1, none⟩) (Nat.le_refl _) _).setCell (p := ⟨w.heap.size, 2, none⟩) (Nat.le_refl _) _).setCell (p := ⟨w.heap.size, 3, none⟩) (Nat.le_refl _) _)
    clear hW
    clear x0 x1 x2 x3 xf0 xf1 xf2 xf3
    refine (hF 2 _).mono ?_
    rintro e w3 ⟨rfl, hb⟩
    replace hX := hX.later hb
    replace hR := hR.later hb
    replace hB := bstep hB hb
    clear hb
    have r0 := hR.cell 0 _ rfl
    have r1 := hR.cell 1 _ rfl
    have r2 := hR.cell 2 _ rfl
    have r3 := hR.cell 3 _ rfl
    have rf0 := hR.fr 0 _ rfl
    have rf1 := hR.fr 1 _ rfl
    have rf2 := hR.fr 2 _ rfl
    have rf3 := hR.fr 3 _ rfl
    go_wp2
    refine named_post fun V hV => ?_
    have hVR : Blk V (w.heap.size + 1) [.string (x.failAt 2 x.u).s, .int .i64 (x.failAt 2 x.u).u, .int .i64 (x.failAt 2 x.u).e, .int .i64 (x.failAt 2 x.u).a] := by rw [hV]; exact ((((hR.set 0 _).set 1 _).set 2 _).set 3 _)
    have hVB : Below w.heap.size w V := by rw [hV]; exact ((((hB.setCell (p := ⟨w.heap.size + 1, 0, none⟩) (by simp) _).setCell (p := ⟨w.heap.size + 1, 1, none⟩) (by simp) _).setCell (p := ⟨w.heap.size + 1, 2, none⟩) (by simp) _).setCell (p := ⟨w.heap.size + 1, 3, none⟩) (by simp) _)
    clear hV r0 r1 r2 r3 rf0 rf1 rf2 rf3
    have c0 := hVR.cell 0 _ rfl
    have c1 := hVR.cell 1 _ rfl
    have c2 := hVR.cell 2 _ rfl
    have c3 := hVR.cell 3 _ rfl
    refine bodyPost_ret (by simp [results, Try.results17, go_sem, c0, c1, c2, c3]; try rfl) rfl ?_
    exact ⟨by rw [hu.out]; try rfl, hVB⟩
  · rw [show x.sized n = (x.failAt 2 x.u, ⟨#[]⟩) by unfold Sp.sized; rw [if_neg (by simp [within]; omega)]] at hu
    replace hu := Lib.hid hu
    go_enter Try.func17, Try.ntmps17
    go_wp2_with fail
    refine named fun W hW => ?_
    have hB : Below w.heap.size w W := by rw [hW]; go_grown
    have hX : Blk W w.heap.size [.string s, .int .i64 at_, .int .i64 err, .int .i64 fat] := by
      rw [hW]; exact (Blk.is (us := [.string s, .int .i64 at_, .int .i64 err, .int .i64 fat]) _ rfl).alloc _
    have hR : Blk W (w.heap.size + 1) [.string ⟨#[]⟩, .int .i64 0, .int .i64 0, .int .i64 0] := by rw [hW]; exact Blk.is (us := [.string ⟨#[]⟩, .int .i64 0, .int .i64 0, .int .i64 0]) _ (by simp)
    clear hW
    refine (hopen _).mono ?_
    rintro e w1 ⟨rfl, hb⟩
    replace hX := hX.later hb
    replace hR := hR.later hb
    replace hB := bstep hB hb
    clear hb
    have x0 := hX.cell 0 _ rfl
    have x1 := hX.cell 1 _ rfl
    have x2 := hX.cell 2 _ rfl
    have x3 := hX.cell 3 _ rfl
    have xf0 := hX.fr 0 _ rfl
    have xf1 := hX.fr 1 _ rfl
    have xf2 := hX.fr 2 _ rfl
    have xf3 := hX.fr 3 _ rfl
    go_wp2_with fail
    refine named fun W2 hW => ?_
    replace hX : Blk W2 w.heap.size [.string (x).s, .int .i64 (x).u, .int .i64 (x).e, .int .i64 (x).a] := by rw [hW]; exact ((((hX.set 0 _).set 1 _).set 2 _).set 3 _)
    replace hR : Blk W2 (w.heap.size + 1) [.string ⟨#[]⟩, .int .i64 0, .int .i64 0, .int .i64 0] := by rw [hW]; exact ((((hR.other (by simp) _).other (by simp) _).other (by simp) _).other (by simp) _)
    replace hB : Below w.heap.size w W2 := by rw [hW]; exact ((((hB.setCell (p := ⟨w.heap.size, 0, none⟩) (Nat.le_refl _) _).setCell (p := ⟨w.heap.size, 1, none⟩) (Nat.le_refl _) _).setCell (p := ⟨w.heap.size, 2, none⟩) (Nat.le_refl _) _).setCell (p := ⟨w.heap.size, 3, none⟩) (Nat.le_refl _) _)
    clear hW
    clear x0 x1 x2 x3 xf0 xf1 xf2 xf3
    refine (hF 2 _).mono ?_
    rintro e w3 ⟨rfl, hb⟩
    replace hX := hX.later hb
    replace hR := hR.later hb
    replace hB := bstep hB hb
    clear hb
    have r0 := hR.cell 0 _ rfl
    have r1 := hR.cell 1 _ rfl
    have r2 := hR.cell 2 _ rfl
    have r3 := hR.cell 3 _ rfl
    have rf0 := hR.fr 0 _ rfl
    have rf1 := hR.fr 1 _ rfl
    have rf2 := hR.fr 2 _ rfl
    have rf3 := hR.fr 3 _ rfl
    go_wp2
    refine named_post fun V hV => ?_
    have hVR : Blk V (w.heap.size + 1) [.string (x.failAt 2 x.u).s, .int .i64 (x.failAt 2 x.u).u, .int .i64 (x.failAt 2 x.u).e, .int .i64 (x.failAt 2 x.u).a] := by rw [hV]; exact ((((hR.set 0 _).set 1 _).set 2 _).set 3 _)
    have hVB : Below w.heap.size w V := by rw [hV]; exact ((((hB.setCell (p := ⟨w.heap.size + 1, 0, none⟩) (by simp) _).setCell (p := ⟨w.heap.size + 1, 1, none⟩) (by simp) _).setCell (p := ⟨w.heap.size + 1, 2, none⟩) (by simp) _).setCell (p := ⟨w.heap.size + 1, 3, none⟩) (by simp) _)
    clear hV r0 r1 r2 r3 rf0 rf1 rf2 rf3
    have c0 := hVR.cell 0 _ rfl
    have c1 := hVR.cell 1 _ rfl
    have c2 := hVR.cell 2 _ rfl
    have c3 := hVR.cell 3 _ rfl
    refine bodyPost_ret (by simp [results, Try.results17, go_sem, c0, c1, c2, c3]; try rfl) rfl ?_
    exact ⟨by rw [hu.out]; try rfl, hVB⟩
  · have hss : x.sized n = if n < (numOf (x.take 2).2.data.toList : Int) then ((x.take 2).1.refuse 4 x.u, ⟨#[]⟩) else (x.take 2).1.take (numOf (x.take 2).2.data.toList) := by
      unfold Sp.sized
      rw [if_pos (by simp [within]; omega)]
      rfl
    have hk2 : (x.take 2).1.Ok := hk.take (by decide)
    have hsz := take_size hk (n := 2) (by decide)
    have hlt2 := field2_lt hk
    rw [field2] at hlt2
    have hm2 : (x.take 2).1.m = (x.take 2).1.s.size := by rw [take_m, take_s]; exact hm.out
    have hs2 : (x.take 2).1.s.size ≤ 9223372036854775807 := by rw [take_s]; exact hs'
    have hT2 := fun w => hT 2 w (by decide) (by decide)
    obtain ⟨t, ht⟩ : ∃ t, t = x.take 2 := ⟨_, rfl⟩
    rw [← ht] at hss hk2 hsz hlt2 hT2 hm2 hs2
    obtain ⟨⟨tu, tm, te, ta, ts⟩, t2⟩ := t
    simp only at hss hsz hlt2 hT2 hm2 hs2
    have h4 : te = 0 → ((⟨tu, tm, te, ta, ts⟩ : Sp).refuse 4 x.u).given = (x.failAt 4 x.u).given := fun h0 => by
      have hq := congrArg Prod.fst ht
      simp only [Sp.take, Sp.claim] at hq
      obtain ⟨xu, xm, xe, xa, xs⟩ := x
      by_cases hxe : xe = 0
      · subst hxe
        simp only [ne_eq, not_true_eq_false, if_false] at hq
        split at hq
        · simp only [Sp.failAt, if_true] at hq
          cases hq
          cases h0
        · cases hq
          rfl
      · simp only [ne_eq, hxe, not_false_eq_true, if_true] at hq
        cases hq
        exact absurd h0 hxe
    have h5 : te ≠ 0 → t2 = ⟨#[]⟩ := fun h0 => by
      have hq := congrArg Prod.fst ht
      have hr := congrArg Prod.snd ht
      simp only [Sp.take] at hq hr
      cases hc : (x.claim 2 5).2
      · rw [hc] at hr; exact hr
      · exfalso
        obtain ⟨hy, _⟩ := claim_yes hc
        rw [hy] at hq
        have hxe : x.e = te := (congrArg Sp.e hq).symm
        unfold Sp.claim at hc
        rw [if_pos (by rw [hxe]; exact h0)] at hc
        cases hc
    clear ht hT
    by_cases he : te = 0
    · subst he
      by_cases hl : n < (numOf t2.data.toList : Int)
      · rw [hss, if_pos hl] at hu
        replace hu := Lib.hid (hu.trans (by rw [h4 rfl]))
        clear h4 h5
        go_enter Try.func17, Try.ntmps17
        go_wp2_with fail
        refine named fun W hW => ?_
        have hB : Below w.heap.size w W := by rw [hW]; go_grown
        have hX : Blk W w.heap.size [.string s, .int .i64 at_, .int .i64 err, .int .i64 fat] := by
          rw [hW]; exact (Blk.is (us := [.string s, .int .i64 at_, .int .i64 err, .int .i64 fat]) _ rfl).alloc _
        have hR : Blk W (w.heap.size + 1) [.string ⟨#[]⟩, .int .i64 0, .int .i64 0, .int .i64 0] := by rw [hW]; exact Blk.is (us := [.string ⟨#[]⟩, .int .i64 0, .int .i64 0, .int .i64 0]) _ (by simp)
        clear hW
        refine (hopen _).mono ?_
        rintro e w1 ⟨rfl, hb⟩
        replace hX := hX.later hb
        replace hR := hR.later hb
        replace hB := bstep hB hb
        clear hb
        have x0 := hX.cell 0 _ rfl
        have x1 := hX.cell 1 _ rfl
        have x2 := hX.cell 2 _ rfl
        have x3 := hX.cell 3 _ rfl
        have xf0 := hX.fr 0 _ rfl
        have xf1 := hX.fr 1 _ rfl
        have xf2 := hX.fr 2 _ rfl
        have xf3 := hX.fr 3 _ rfl
        go_wp2_with fail
        refine named fun W2 hW => ?_
        replace hX : Blk W2 w.heap.size [.string (x).s, .int .i64 (x).u, .int .i64 (x).e, .int .i64 (x).a] := by rw [hW]; exact ((((hX.set 0 _).set 1 _).set 2 _).set 3 _)
        replace hR : Blk W2 (w.heap.size + 1) [.string ⟨#[]⟩, .int .i64 0, .int .i64 0, .int .i64 0] := by rw [hW]; exact ((((hR.other (by simp) _).other (by simp) _).other (by simp) _).other (by simp) _)
        replace hB : Below w.heap.size w W2 := by rw [hW]; exact ((((hB.setCell (p := ⟨w.heap.size, 0, none⟩) (Nat.le_refl _) _).setCell (p := ⟨w.heap.size, 1, none⟩) (Nat.le_refl _) _).setCell (p := ⟨w.heap.size, 2, none⟩) (Nat.le_refl _) _).setCell (p := ⟨w.heap.size, 3, none⟩) (Nat.le_refl _) _)
        clear hW
        clear x0 x1 x2 x3 xf0 xf1 xf2 xf3
        refine (hT2 _).mono ?_
        rintro e w3 ⟨rfl, hb⟩
        replace hX := hX.later hb
        replace hR := hR.later hb
        replace hB := bstep hB hb
        clear hb
        have x0 := hX.cell 0 _ rfl
        have x1 := hX.cell 1 _ rfl
        have x2 := hX.cell 2 _ rfl
        have x3 := hX.cell 3 _ rfl
        have xf0 := hX.fr 0 _ rfl
        have xf1 := hX.fr 1 _ rfl
        have xf2 := hX.fr 2 _ rfl
        have xf3 := hX.fr 3 _ rfl
        have r0 := hR.cell 0 _ rfl
        have r1 := hR.cell 1 _ rfl
        have r2 := hR.cell 2 _ rfl
        have r3 := hR.cell 3 _ rfl
        have rf0 := hR.fr 0 _ rfl
        have rf1 := hR.fr 1 _ rfl
        have rf2 := hR.fr 2 _ rfl
        have rf3 := hR.fr 3 _ rfl
        have hlt := hR.lt
        have hltX := hX.lt
        go_wp2_with fail
        refine named fun W4 hW => ?_
        have hN : Blk W4 w3.heap.size [.string ts, .int .i64 tu, .int .i64 0, .int .i64 ta] := by rw [hW]; exact Blk.is (us := [.string ts, .int .i64 tu, .int .i64 0, .int .i64 ta]) _ rfl
        replace hX : Blk W4 w.heap.size [.string (x).s, .int .i64 (x).u, .int .i64 (x).e, .int .i64 (x).a] := by rw [hW]; exact hX.alloc _
        replace hR : Blk W4 (w.heap.size + 1) [.string ⟨#[]⟩, .int .i64 0, .int .i64 0, .int .i64 0] := by rw [hW]; exact hR.alloc _
        replace hB : Below w.heap.size w W4 := by rw [hW]; exact hB.alloc hB.size _
        clear hW hlt hltX x0 x1 x2 x3 xf0 xf1 xf2 xf3 r0 r1 r2 r3 rf0 rf1 rf2 rf3
        have x0 := hX.cell 0 _ rfl
        have x1 := hX.cell 1 _ rfl
        have x2 := hX.cell 2 _ rfl
        have x3 := hX.cell 3 _ rfl
        have xf0 := hX.fr 0 _ rfl
        have xf1 := hX.fr 1 _ rfl
        have xf2 := hX.fr 2 _ rfl
        have xf3 := hX.fr 3 _ rfl
        have n0 := hN.cell 0 _ rfl
        have n1 := hN.cell 1 _ rfl
        have n2 := hN.cell 2 _ rfl
        have n3 := hN.cell 3 _ rfl
        have nf0 := hN.fr 0 _ rfl
        have nf1 := hN.fr 1 _ rfl
        have nf2 := hN.fr 2 _ rfl
        have nf3 := hN.fr 3 _ rfl
        have hltX := hX.lt
        refine (refNumber_any _ _ (by omega)).mono ?_
        rintro e w4 ⟨rfl, rfl⟩
        go_wp2_with fail
        clear x0 x1 x2 x3 xf0 xf1 xf2 xf3 n0 n1 n2 n3 nf0 nf1 nf2 nf3
        refine (hF 4 _).mono ?_
        rintro e w5 ⟨rfl, hb⟩
        replace hX := hX.later hb
        replace hR := hR.later hb
        replace hB := bstep hB hb
        clear hb
        have r0 := hR.cell 0 _ rfl
        have r1 := hR.cell 1 _ rfl
        have r2 := hR.cell 2 _ rfl
        have r3 := hR.cell 3 _ rfl
        have rf0 := hR.fr 0 _ rfl
        have rf1 := hR.fr 1 _ rfl
        have rf2 := hR.fr 2 _ rfl
        have rf3 := hR.fr 3 _ rfl
        go_wp2
        refine named_post fun V hV => ?_
        have hVR : Blk V (w.heap.size + 1) [.string (x.failAt 4 x.u).s, .int .i64 (x.failAt 4 x.u).u, .int .i64 (x.failAt 4 x.u).e, .int .i64 (x.failAt 4 x.u).a] := by rw [hV]; exact ((((hR.set 0 _).set 1 _).set 2 _).set 3 _)
        have hVB : Below w.heap.size w V := by rw [hV]; exact ((((hB.setCell (p := ⟨w.heap.size + 1, 0, none⟩) (by simp) _).setCell (p := ⟨w.heap.size + 1, 1, none⟩) (by simp) _).setCell (p := ⟨w.heap.size + 1, 2, none⟩) (by simp) _).setCell (p := ⟨w.heap.size + 1, 3, none⟩) (by simp) _)
        clear hV r0 r1 r2 r3 rf0 rf1 rf2 rf3
        have c0 := hVR.cell 0 _ rfl
        have c1 := hVR.cell 1 _ rfl
        have c2 := hVR.cell 2 _ rfl
        have c3 := hVR.cell 3 _ rfl
        refine bodyPost_ret (by simp [results, Try.results17, go_sem, c0, c1, c2, c3]; try rfl) rfl ?_
        exact ⟨by rw [hu.out]; try rfl, hVB⟩
      · rw [hss, if_neg hl] at hu
        clear h4 h5
        have hTT : ∀ w, Calls Try.prog 51 #[.agg #[.string ts, .int .i64 tu, .int .i64 0, .int .i64 ta], .int .i64 (numOf t2.data.toList)] w fun e w' => e = .returned (.tuple #[(.agg #[.string (((⟨tu, tm, 0, ta, ts⟩ : Sp).take (numOf t2.data.toList)).1).s, .int .i64 (((⟨tu, tm, 0, ta, ts⟩ : Sp).take (numOf t2.data.toList)).1).u, .int .i64 (((⟨tu, tm, 0, ta, ts⟩ : Sp).take (numOf t2.data.toList)).1).e, .int .i64 (((⟨tu, tm, 0, ta, ts⟩ : Sp).take (numOf t2.data.toList)).1).a]), .string ((⟨tu, tm, 0, ta, ts⟩ : Sp).take (numOf t2.data.toList)).2]) ∧ Below w.heap.size w w' := fun w => by
          have := refTake_any (Sp.given ⟨tu, tm, 0, ta, ts⟩) (numOf t2.data.toList) w hk2.u0 (by have := hk2.um; simp only at this; show tu ≤ (ts.size : Int); omega) hs2 (by omega) (by omega)
          rw [take_given _ hm2] at this
          exact this
        obtain ⟨z, hz⟩ : ∃ z, z = (⟨tu, tm, 0, ta, ts⟩ : Sp).take (numOf t2.data.toList) := ⟨_, rfl⟩
        rw [← hz] at hu hTT
        clear hz
        replace hu := Lib.hid hu
        go_enter Try.func17, Try.ntmps17
        go_wp2_with fail
        refine named fun W hW => ?_
        have hB : Below w.heap.size w W := by rw [hW]; go_grown
        have hX : Blk W w.heap.size [.string s, .int .i64 at_, .int .i64 err, .int .i64 fat] := by
          rw [hW]; exact (Blk.is (us := [.string s, .int .i64 at_, .int .i64 err, .int .i64 fat]) _ rfl).alloc _
        have hR : Blk W (w.heap.size + 1) [.string ⟨#[]⟩, .int .i64 0, .int .i64 0, .int .i64 0] := by rw [hW]; exact Blk.is (us := [.string ⟨#[]⟩, .int .i64 0, .int .i64 0, .int .i64 0]) _ (by simp)
        clear hW
        refine (hopen _).mono ?_
        rintro e w1 ⟨rfl, hb⟩
        replace hX := hX.later hb
        replace hR := hR.later hb
        replace hB := bstep hB hb
        clear hb
        have x0 := hX.cell 0 _ rfl
        have x1 := hX.cell 1 _ rfl
        have x2 := hX.cell 2 _ rfl
        have x3 := hX.cell 3 _ rfl
        have xf0 := hX.fr 0 _ rfl
        have xf1 := hX.fr 1 _ rfl
        have xf2 := hX.fr 2 _ rfl
        have xf3 := hX.fr 3 _ rfl
        go_wp2_with fail
        refine named fun W2 hW => ?_
        replace hX : Blk W2 w.heap.size [.string (x).s, .int .i64 (x).u, .int .i64 (x).e, .int .i64 (x).a] := by rw [hW]; exact ((((hX.set 0 _).set 1 _).set 2 _).set 3 _)
        replace hR : Blk W2 (w.heap.size + 1) [.string ⟨#[]⟩, .int .i64 0, .int .i64 0, .int .i64 0] := by rw [hW]; exact ((((hR.other (by simp) _).other (by simp) _).other (by simp) _).other (by simp) _)
        replace hB : Below w.heap.size w W2 := by rw [hW]; exact ((((hB.setCell (p := ⟨w.heap.size, 0, none⟩) (Nat.le_refl _) _).setCell (p := ⟨w.heap.size, 1, none⟩) (Nat.le_refl _) _).setCell (p := ⟨w.heap.size, 2, none⟩) (Nat.le_refl _) _).setCell (p := ⟨w.heap.size, 3, none⟩) (Nat.le_refl _) _)
        clear hW
        clear x0 x1 x2 x3 xf0 xf1 xf2 xf3
        refine (hT2 _).mono ?_
        rintro e w3 ⟨rfl, hb⟩
        replace hX := hX.later hb
        replace hR := hR.later hb
        replace hB := bstep hB hb
        clear hb
        have x0 := hX.cell 0 _ rfl
        have x1 := hX.cell 1 _ rfl
        have x2 := hX.cell 2 _ rfl
        have x3 := hX.cell 3 _ rfl
        have xf0 := hX.fr 0 _ rfl
        have xf1 := hX.fr 1 _ rfl
        have xf2 := hX.fr 2 _ rfl
        have xf3 := hX.fr 3 _ rfl
        have r0 := hR.cell 0 _ rfl
        have r1 := hR.cell 1 _ rfl
        have r2 := hR.cell 2 _ rfl
        have r3 := hR.cell 3 _ rfl
        have rf0 := hR.fr 0 _ rfl
        have rf1 := hR.fr 1 _ rfl
        have rf2 := hR.fr 2 _ rfl
        have rf3 := hR.fr 3 _ rfl
        have hlt := hR.lt
        have hltX := hX.lt
        go_wp2_with fail
        refine named fun W4 hW => ?_
        have hN : Blk W4 w3.heap.size [.string ts, .int .i64 tu, .int .i64 0, .int .i64 ta] := by rw [hW]; exact Blk.is (us := [.string ts, .int .i64 tu, .int .i64 0, .int .i64 ta]) _ rfl
        replace hX : Blk W4 w.heap.size [.string (x).s, .int .i64 (x).u, .int .i64 (x).e, .int .i64 (x).a] := by rw [hW]; exact hX.alloc _
        replace hR : Blk W4 (w.heap.size + 1) [.string ⟨#[]⟩, .int .i64 0, .int .i64 0, .int .i64 0] := by rw [hW]; exact hR.alloc _
        replace hB : Below w.heap.size w W4 := by rw [hW]; exact hB.alloc hB.size _
        clear hW hlt hltX x0 x1 x2 x3 xf0 xf1 xf2 xf3 r0 r1 r2 r3 rf0 rf1 rf2 rf3
        have x0 := hX.cell 0 _ rfl
        have x1 := hX.cell 1 _ rfl
        have x2 := hX.cell 2 _ rfl
        have x3 := hX.cell 3 _ rfl
        have xf0 := hX.fr 0 _ rfl
        have xf1 := hX.fr 1 _ rfl
        have xf2 := hX.fr 2 _ rfl
        have xf3 := hX.fr 3 _ rfl
        have n0 := hN.cell 0 _ rfl
        have n1 := hN.cell 1 _ rfl
        have n2 := hN.cell 2 _ rfl
        have n3 := hN.cell 3 _ rfl
        have nf0 := hN.fr 0 _ rfl
        have nf1 := hN.fr 1 _ rfl
        have nf2 := hN.fr 2 _ rfl
        have nf3 := hN.fr 3 _ rfl
        have hltX := hX.lt
        refine (refNumber_any _ _ (by omega)).mono ?_
        rintro e w4 ⟨rfl, rfl⟩
        go_wp2_with fail
        clear x0 x1 x2 x3 xf0 xf1 xf2 xf3 n0 n1 n2 n3 nf0 nf1 nf2 nf3
        refine (hTT _).mono ?_
        rintro e w5 ⟨rfl, hb⟩
        replace hX := hX.later hb
        replace hR := hR.later hb
        replace hB := bstep hB hb
        clear hb
        have r0 := hR.cell 0 _ rfl
        have r1 := hR.cell 1 _ rfl
        have r2 := hR.cell 2 _ rfl
        have r3 := hR.cell 3 _ rfl
        have rf0 := hR.fr 0 _ rfl
        have rf1 := hR.fr 1 _ rfl
        have rf2 := hR.fr 2 _ rfl
        have rf3 := hR.fr 3 _ rfl
        go_wp2
        refine named_post fun V hV => ?_
        have hVR : Blk V (w.heap.size + 1) [.string (z.1).s, .int .i64 (z.1).u, .int .i64 (z.1).e, .int .i64 (z.1).a] := by rw [hV]; exact ((((hR.set 0 _).set 1 _).set 2 _).set 3 _)
        have hVB : Below w.heap.size w V := by rw [hV]; exact ((((hB.setCell (p := ⟨w.heap.size + 1, 0, none⟩) (by simp) _).setCell (p := ⟨w.heap.size + 1, 1, none⟩) (by simp) _).setCell (p := ⟨w.heap.size + 1, 2, none⟩) (by simp) _).setCell (p := ⟨w.heap.size + 1, 3, none⟩) (by simp) _)
        clear hV r0 r1 r2 r3 rf0 rf1 rf2 rf3
        have c0 := hVR.cell 0 _ rfl
        have c1 := hVR.cell 1 _ rfl
        have c2 := hVR.cell 2 _ rfl
        have c3 := hVR.cell 3 _ rfl
        refine bodyPost_ret (by simp [results, Try.results17, go_sem, c0, c1, c2, c3]; try rfl) rfl ?_
        exact ⟨by rw [hu.out]; try rfl, hVB⟩
    · have ht2 := h5 he
      subst ht2
      rw [hss, show numOf (⟨#[]⟩ : ByteArray).data.toList = 0 from rfl, if_neg (by omega)] at hu
      replace hu := Lib.hid (hu.trans (show _ = ((⟨ts, tu, te, ta⟩ : Rd), (⟨#[]⟩ : ByteArray)) by
        simp only [Sp.take, Sp.claim, ne_eq, he, not_false_eq_true, if_true, Sp.given]; rfl))
      have heb : (te != 0) = true := by simpa using he
      clear h4 h5 he
      go_enter Try.func17, Try.ntmps17
      go_wp2_with fail
      refine named fun W hW => ?_
      have hB : Below w.heap.size w W := by rw [hW]; go_grown
      have hX : Blk W w.heap.size [.string s, .int .i64 at_, .int .i64 err, .int .i64 fat] := by
        rw [hW]; exact (Blk.is (us := [.string s, .int .i64 at_, .int .i64 err, .int .i64 fat]) _ rfl).alloc _
      have hR : Blk W (w.heap.size + 1) [.string ⟨#[]⟩, .int .i64 0, .int .i64 0, .int .i64 0] := by rw [hW]; exact Blk.is (us := [.string ⟨#[]⟩, .int .i64 0, .int .i64 0, .int .i64 0]) _ (by simp)
      clear hW
      refine (hopen _).mono ?_
      rintro e w1 ⟨rfl, hb⟩
      replace hX := hX.later hb
      replace hR := hR.later hb
      replace hB := bstep hB hb
      clear hb
      have x0 := hX.cell 0 _ rfl
      have x1 := hX.cell 1 _ rfl
      have x2 := hX.cell 2 _ rfl
      have x3 := hX.cell 3 _ rfl
      have xf0 := hX.fr 0 _ rfl
      have xf1 := hX.fr 1 _ rfl
      have xf2 := hX.fr 2 _ rfl
      have xf3 := hX.fr 3 _ rfl
      go_wp2_with fail
      refine named fun W2 hW => ?_
      replace hX : Blk W2 w.heap.size [.string (x).s, .int .i64 (x).u, .int .i64 (x).e, .int .i64 (x).a] := by rw [hW]; exact ((((hX.set 0 _).set 1 _).set 2 _).set 3 _)
      replace hR : Blk W2 (w.heap.size + 1) [.string ⟨#[]⟩, .int .i64 0, .int .i64 0, .int .i64 0] := by rw [hW]; exact ((((hR.other (by simp) _).other (by simp) _).other (by simp) _).other (by simp) _)
      replace hB : Below w.heap.size w W2 := by rw [hW]; exact ((((hB.setCell (p := ⟨w.heap.size, 0, none⟩) (Nat.le_refl _) _).setCell (p := ⟨w.heap.size, 1, none⟩) (Nat.le_refl _) _).setCell (p := ⟨w.heap.size, 2, none⟩) (Nat.le_refl _) _).setCell (p := ⟨w.heap.size, 3, none⟩) (Nat.le_refl _) _)
      clear hW
      clear x0 x1 x2 x3 xf0 xf1 xf2 xf3
      refine (hT2 _).mono ?_
      rintro e w3 ⟨rfl, hb⟩
      replace hX := hX.later hb
      replace hR := hR.later hb
      replace hB := bstep hB hb
      clear hb
      have x0 := hX.cell 0 _ rfl
      have x1 := hX.cell 1 _ rfl
      have x2 := hX.cell 2 _ rfl
      have x3 := hX.cell 3 _ rfl
      have xf0 := hX.fr 0 _ rfl
      have xf1 := hX.fr 1 _ rfl
      have xf2 := hX.fr 2 _ rfl
      have xf3 := hX.fr 3 _ rfl
      have r0 := hR.cell 0 _ rfl
      have r1 := hR.cell 1 _ rfl
      have r2 := hR.cell 2 _ rfl
      have r3 := hR.cell 3 _ rfl
      have rf0 := hR.fr 0 _ rfl
      have rf1 := hR.fr 1 _ rfl
      have rf2 := hR.fr 2 _ rfl
      have rf3 := hR.fr 3 _ rfl
      have hlt := hR.lt
      have hltX := hX.lt
      go_wp2
      refine named_post fun V hV => ?_
      have hVR : Blk V (w.heap.size + 1) [.string ts, .int .i64 tu, .int .i64 te, .int .i64 ta] := by rw [hV]; exact ((((hR.set 0 _).set 1 _).set 2 _).set 3 _).alloc _
      have hVB : Below w.heap.size w V := by rw [hV]; exact ((((hB.setCell (p := ⟨w.heap.size + 1, 0, none⟩) (by simp) _).setCell (p := ⟨w.heap.size + 1, 1, none⟩) (by simp) _).setCell (p := ⟨w.heap.size + 1, 2, none⟩) (by simp) _).setCell (p := ⟨w.heap.size + 1, 3, none⟩) (by simp) _).alloc (by simpa [World.setCell] using hB.size) _
      clear hV x0 x1 x2 x3 xf0 xf1 xf2 xf3 r0 r1 r2 r3 rf0 rf1 rf2 rf3
      have c0 := hVR.cell 0 _ rfl
      have c1 := hVR.cell 1 _ rfl
      have c2 := hVR.cell 2 _ rfl
      have c3 := hVR.cell 3 _ rfl
      refine bodyPost_ret (by simp [results, Try.results17, go_sem, c0, c1, c2, c3]; try rfl) rfl ?_
      exact ⟨by rw [hu.out]; try rfl, hVB⟩
end Go.Proofs.Ytgcgoiaadigmfaa
