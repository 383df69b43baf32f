/- Walks: the reference's readers' public functions. -/
import Derived.Test.YtgcgoiaadigmfaaWireJ
import Derived.Test.YtgcgoiaadigmfaaWireK
import Derived.Deep.RegionWith
namespace Go.Proofs.Ytgcgoiaadigmfaa
open Go.RowKit
open Wr

set_option maxHeartbeats 2000000 in
theorem refUint_any (r : Rd) (n : Int) (w : World) (hs : r.s.size ≤ 9223372036854775807) :
    Calls Try.prog 11 #[r.val, .int .i64 n] w fun e w' => e = .returned (.tuple #[(uintR r n).1.val, .int .u64 (uintR r n).2]) ∧ Below w.heap.size w w' := by
  have hk := opened_ok r
  have hm := opened_m r
  have hs' := Nat.le_trans (opened_s r) hs
  have hopen := refReader_any r
  obtain ⟨s, at_, err, fat⟩ := r
  obtain ⟨x, hx⟩ : ∃ x, x = Rd.opened ⟨s, at_, err, fat⟩ := ⟨_, rfl⟩
  have hu := Lib.hid (show uintR ⟨s, at_, err, fat⟩ n = ((x.field n).1.given, (x.field n).2) by rw [hx]; rfl)
  rw [← hx] at hk hm hs' hopen
  clear hx
  have hu0 := hk.u0
  have hum : x.u ≤ x.s.size := by have := hk.um; omega
  have hF : ∀ q w, Calls Try.prog 50 #[(.agg #[.string (x).s, .int .i64 (x).u, .int .i64 (x).e, .int .i64 (x).a]), .int .i64 q, .int .i64 x.u] w fun e w' => e = .returned (.agg #[.string (x.failAt q x.u).s, .int .i64 (x.failAt q x.u).u, .int .i64 (x.failAt q x.u).e, .int .i64 (x.failAt q x.u).a]) ∧ Below w.heap.size w w' := fun q w => by
    have := refFail_any x.given q x.u w
    rw [fail_given] at this
    exact this
  have hT : ∀ n w, 0 ≤ n → n ≤ 9223372036854775807 → Calls Try.prog 51 #[(.agg #[.string (x).s, .int .i64 (x).u, .int .i64 (x).e, .int .i64 (x).a]), .int .i64 n] w fun e w' => e = .returned (.tuple #[(.agg #[.string ((x.take n).1).s, .int .i64 ((x.take n).1).u, .int .i64 ((x.take n).1).e, .int .i64 ((x.take n).1).a]), .string (x.take n).2]) ∧ Below w.heap.size w w' := fun n w h0 h1 => by
    have := refTake_any x.given n w hu0 hum hs' h0 h1
    rw [take_given x hm] at this
    exact this
  replace hm := Lib.hid hm
  simp only [Rd.val, Sp.given] at hopen ⊢
  cases hz : isSz n
  · have hxx := Lib.hid (show x.field n = (x.failAt 2 x.u, 0) by unfold Sp.field; rw [hz]; rfl)
    have HZ := Lib.hid hz
    clear hz
    go_enter Try.func11, Try.ntmps11
    go_wp2_with fail
    refine named fun W hW => ?_
    have hB : Below w.heap.size w W := by rw [hW]; go_grown
    have hX : Blk W w.heap.size [.string s, .int .i64 at_, .int .i64 err, .int .i64 fat] := by
      rw [hW]; exact (Blk.is (us := [.string s, .int .i64 at_, .int .i64 err, .int .i64 fat]) _ rfl).alloc _
    have hR : Blk W (w.heap.size + 1) [.string ⟨#[]⟩, .int .i64 0, .int .i64 0, .int .i64 0] := by rw [hW]; exact Blk.is (us := [.string ⟨#[]⟩, .int .i64 0, .int .i64 0, .int .i64 0]) _ (by simp)
    clear hW
    refine (hopen _).mono ?_
    rintro e w1 ⟨rfl, hb⟩
    replace hX := hX.later hb
    replace hR := hR.later hb
    replace hB := bstep hB hb
    clear hb
    have x0 := hX.cell 0 _ rfl
    have x1 := hX.cell 1 _ rfl
    have x2 := hX.cell 2 _ rfl
    have x3 := hX.cell 3 _ rfl
    have xf0 := hX.fr 0 _ rfl
    have xf1 := hX.fr 1 _ rfl
    have xf2 := hX.fr 2 _ rfl
    have xf3 := hX.fr 3 _ rfl
    go_wp2_with fail
    refine named fun W2 hW => ?_
    replace hX : Blk W2 w.heap.size [.string (x).s, .int .i64 (x).u, .int .i64 (x).e, .int .i64 (x).a] := by rw [hW]; exact ((((hX.set 0 _).set 1 _).set 2 _).set 3 _)
    replace hR : Blk W2 (w.heap.size + 1) [.string ⟨#[]⟩, .int .i64 0, .int .i64 0, .int .i64 0] := by rw [hW]; exact ((((hR.other (by simp) _).other (by simp) _).other (by simp) _).other (by simp) _)
    replace hB : Below w.heap.size w W2 := by rw [hW]; exact ((((hB.setCell (p := ⟨w.heap.size, 0, none⟩) (Nat.le_refl _) _).setCell (p := ⟨w.heap.size, 1, none⟩) (Nat.le_refl _) _).setCell (p := ⟨w.heap.size, 2, none⟩) (Nat.le_refl _) _).setCell (p := ⟨w.heap.size, 3, none⟩) (Nat.le_refl _) _)
    clear hW
    clear x0 x1 x2 x3 xf0 xf1 xf2 xf3
    have x0 := hX.cell 0 _ rfl
    have x1 := hX.cell 1 _ rfl
    have x2 := hX.cell 2 _ rfl
    have x3 := hX.cell 3 _ rfl
    have xf0 := hX.fr 0 _ rfl
    have xf1 := hX.fr 1 _ rfl
    have xf2 := hX.fr 2 _ rfl
    have xf3 := hX.fr 3 _ rfl
    refine (refSize_is HZ.out _).mono ?_
    rintro e w' ⟨rfl, rfl⟩
    go_wp2_with fail
    refine (hF 2 _).mono ?_
    rintro e w3 ⟨rfl, hb⟩
    replace hX := hX.later hb
    replace hR := hR.later hb
    replace hB := bstep hB hb
    clear hb
    clear x0 x1 x2 x3 xf0 xf1 xf2 xf3
    have r0 := hR.cell 0 _ rfl
    have r1 := hR.cell 1 _ rfl
    have r2 := hR.cell 2 _ rfl
    have r3 := hR.cell 3 _ rfl
    have rf0 := hR.fr 0 _ rfl
    have rf1 := hR.fr 1 _ rfl
    have rf2 := hR.fr 2 _ rfl
    have rf3 := hR.fr 3 _ rfl
    go_wp2
    refine named_post fun V hV => ?_
    have hVR : Blk V (w.heap.size + 1) [.string (x.failAt 2 x.u).s, .int .i64 (x.failAt 2 x.u).u, .int .i64 (x.failAt 2 x.u).e, .int .i64 (x.failAt 2 x.u).a] := by rw [hV]; exact ((((hR.set 0 _).set 1 _).set 2 _).set 3 _)
    have hVB : Below w.heap.size w V := by rw [hV]; exact ((((hB.setCell (p := ⟨w.heap.size + 1, 0, none⟩) (by simp) _).setCell (p := ⟨w.heap.size + 1, 1, none⟩) (by simp) _).setCell (p := ⟨w.heap.size + 1, 2, none⟩) (by simp) _).setCell (p := ⟨w.heap.size + 1, 3, none⟩) (by simp) _)
    clear hV r0 r1 r2 r3 rf0 rf1 rf2 rf3
    have c0 := hVR.cell 0 _ rfl
    have c1 := hVR.cell 1 _ rfl
    have c2 := hVR.cell 2 _ rfl
    have c3 := hVR.cell 3 _ rfl
    refine bodyPost_ret (by simp [results, Try.results11, go_sem, c0, c1, c2, c3]; try rfl) rfl ?_
    exact ⟨by rw [hu.out, hxx.out]; rfl, hVB⟩
  · have hxx := Lib.hid (show x.field n = ((x.take n).1, numOf (x.take n).2.data.toList) by unfold Sp.field; rw [hz]; rfl)
    have h0 : 0 ≤ n := by have := isSz_iff.1 hz; omega
    have h8 : n ≤ 8 := by have := isSz_iff.1 hz; omega
    have hsz : (x.take n).2.size ≤ 8 := by have := take_size hk h0; omega
    have HZ := Lib.hid hz
    clear hz
    go_enter Try.func11, Try.ntmps11
    go_wp2_with fail
    refine named fun W hW => ?_
    have hB : Below w.heap.size w W := by rw [hW]; go_grown
    have hX : Blk W w.heap.size [.string s, .int .i64 at_, .int .i64 err, .int .i64 fat] := by
      rw [hW]; exact (Blk.is (us := [.string s, .int .i64 at_, .int .i64 err, .int .i64 fat]) _ rfl).alloc _
    have hR : Blk W (w.heap.size + 1) [.string ⟨#[]⟩, .int .i64 0, .int .i64 0, .int .i64 0] := by rw [hW]; exact Blk.is (us := [.string ⟨#[]⟩, .int .i64 0, .int .i64 0, .int .i64 0]) _ (by simp)
    clear hW
    refine (hopen _).mono ?_
    rintro e w1 ⟨rfl, hb⟩
    replace hX := hX.later hb
    replace hR := hR.later hb
    replace hB := bstep hB hb
    clear hb
    have x0 := hX.cell 0 _ rfl
    have x1 := hX.cell 1 _ rfl
    have x2 := hX.cell 2 _ rfl
    have x3 := hX.cell 3 _ rfl
    have xf0 := hX.fr 0 _ rfl
    have xf1 := hX.fr 1 _ rfl
    have xf2 := hX.fr 2 _ rfl
    have xf3 := hX.fr 3 _ rfl
    go_wp2_with fail
    refine named fun W2 hW => ?_
    replace hX : Blk W2 w.heap.size [.string (x).s, .int .i64 (x).u, .int .i64 (x).e, .int .i64 (x).a] := by rw [hW]; exact ((((hX.set 0 _).set 1 _).set 2 _).set 3 _)
    replace hR : Blk W2 (w.heap.size + 1) [.string ⟨#[]⟩, .int .i64 0, .int .i64 0, .int .i64 0] := by rw [hW]; exact ((((hR.other (by simp) _).other (by simp) _).other (by simp) _).other (by simp) _)
    replace hB : Below w.heap.size w W2 := by rw [hW]; exact ((((hB.setCell (p := ⟨w.heap.size, 0, none⟩) (Nat.le_refl _) _).setCell (p := ⟨w.heap.size, 1, none⟩) (Nat.le_refl _) _).setCell (p := ⟨w.heap.size, 2, none⟩) (Nat.le_refl _) _).setCell (p := ⟨w.heap.size, 3, none⟩) (Nat.le_refl _) _)
    clear hW
    clear x0 x1 x2 x3 xf0 xf1 xf2 xf3
    have x0 := hX.cell 0 _ rfl
    have x1 := hX.cell 1 _ rfl
    have x2 := hX.cell 2 _ rfl
    have x3 := hX.cell 3 _ rfl
    have xf0 := hX.fr 0 _ rfl
    have xf1 := hX.fr 1 _ rfl
    have xf2 := hX.fr 2 _ rfl
    have xf3 := hX.fr 3 _ rfl
    refine (refSize_is HZ.out _).mono ?_
    rintro e w' ⟨rfl, rfl⟩
    go_wp2_with fail
    refine (hT n _ h0 (by omega)).mono ?_
    rintro e w3 ⟨rfl, hb⟩
    replace hX := hX.later hb
    replace hR := hR.later hb
    replace hB := bstep hB hb
    clear hb
    clear x0 x1 x2 x3 xf0 xf1 xf2 xf3
    have x0 := hX.cell 0 _ rfl
    have x1 := hX.cell 1 _ rfl
    have x2 := hX.cell 2 _ rfl
    have x3 := hX.cell 3 _ rfl
    have xf0 := hX.fr 0 _ rfl
    have xf1 := hX.fr 1 _ rfl
    have xf2 := hX.fr 2 _ rfl
    have xf3 := hX.fr 3 _ rfl
    have r0 := hR.cell 0 _ rfl
    have r1 := hR.cell 1 _ rfl
    have r2 := hR.cell 2 _ rfl
    have r3 := hR.cell 3 _ rfl
    have rf0 := hR.fr 0 _ rfl
    have rf1 := hR.fr 1 _ rfl
    have rf2 := hR.fr 2 _ rfl
    have rf3 := hR.fr 3 _ rfl
    go_wp2_with fail
    refine named_wp fun W4 hW => ?_
    replace hX : Blk W4 w.heap.size [.string ((x.take n).1).s, .int .i64 ((x.take n).1).u, .int .i64 ((x.take n).1).e, .int .i64 ((x.take n).1).a] := by rw [hW]; exact ((((hX.set 0 _).set 1 _).set 2 _).set 3 _)
    replace hR : Blk W4 (w.heap.size + 1) [.string ⟨#[]⟩, .int .i64 0, .int .i64 0, .int .i64 0] := by rw [hW]; exact ((((hR.other (by simp) _).other (by simp) _).other (by simp) _).other (by simp) _)
    replace hB : Below w.heap.size w W4 := by rw [hW]; exact ((((hB.setCell (p := ⟨w.heap.size, 0, none⟩) (Nat.le_refl _) _).setCell (p := ⟨w.heap.size, 1, none⟩) (Nat.le_refl _) _).setCell (p := ⟨w.heap.size, 2, none⟩) (Nat.le_refl _) _).setCell (p := ⟨w.heap.size, 3, none⟩) (Nat.le_refl _) _)
    clear hW
    clear x0 x1 x2 x3 xf0 xf1 xf2 xf3 r0 r1 r2 r3 rf0 rf1 rf2 rf3
    have x0 := hX.cell 0 _ rfl
    have x1 := hX.cell 1 _ rfl
    have x2 := hX.cell 2 _ rfl
    have x3 := hX.cell 3 _ rfl
    have xf0 := hX.fr 0 _ rfl
    have xf1 := hX.fr 1 _ rfl
    have xf2 := hX.fr 2 _ rfl
    have xf3 := hX.fr 3 _ rfl
    have r0 := hR.cell 0 _ rfl
    have r1 := hR.cell 1 _ rfl
    have r2 := hR.cell 2 _ rfl
    have r3 := hR.cell 3 _ rfl
    have rf0 := hR.fr 0 _ rfl
    have rf1 := hR.fr 1 _ rfl
    have rf2 := hR.fr 2 _ rfl
    have rf3 := hR.fr 3 _ rfl
    go_region_with ((go_at_call 52; refine (refNumber_any _ _ hsz).mono ?_; rintro e w' ⟨rfl, rfl⟩))
    all_goals
      go_wp2
      replace hR := hR.drew
      replace hB := hB.drew
      refine named_post fun V hV => ?_
      have hVR : Blk V (w.heap.size + 1) [.string ((x.take n).1).s, .int .i64 ((x.take n).1).u, .int .i64 ((x.take n).1).e, .int .i64 ((x.take n).1).a] := by rw [hV]; exact ((((hR.set 0 _).set 1 _).set 2 _).set 3 _)
      have hVB : Below w.heap.size w V := by rw [hV]; exact ((((hB.setCell (p := ⟨w.heap.size + 1, 0, none⟩) (by simp) _).setCell (p := ⟨w.heap.size + 1, 1, none⟩) (by simp) _).setCell (p := ⟨w.heap.size + 1, 2, none⟩) (by simp) _).setCell (p := ⟨w.heap.size + 1, 3, none⟩) (by simp) _)
      clear hV x0 x1 x2 x3 xf0 xf1 xf2 xf3 r0 r1 r2 r3 rf0 rf1 rf2 rf3
      have c0 := hVR.cell 0 _ rfl
      have c1 := hVR.cell 1 _ rfl
      have c2 := hVR.cell 2 _ rfl
      have c3 := hVR.cell 3 _ rfl
      refine bodyPost_ret (by simp [results, Try.results11, go_sem, c0, c1, c2, c3]; try rfl) rfl ?_
      exact ⟨by rw [hu.out, hxx.out]; rfl, hVB⟩
set_option maxHeartbeats 2000000 in
theorem refInt64_any (r : Rd) (w : World) (hs : r.s.size ≤ 9223372036854775807) :
    Calls Try.prog 13 #[r.val] w fun e w' => e = .returned (.tuple #[(int64R r).1.val, .int .i64 (int64R r).2]) ∧ Below w.heap.size w w' := by
  have hU := refUint_any r 8
  have hu := Lib.hid (show int64R r = ((uintR r 8).1, IntKind.i64.wrap (uintR r 8).2) from rfl)
  obtain ⟨q, hq⟩ : ∃ q, q = uintR r 8 := ⟨_, rfl⟩
  obtain ⟨⟨y0, y1, y2, y3⟩, q2⟩ := q
  rw [← hq] at hU hu
  clear hq
  replace hU := fun w => hU w hs
  obtain ⟨s, at_, err, fat⟩ := r
  simp only [Rd.val] at hU ⊢
  go_enter Try.func13, Try.ntmps13
  go_wp2_with fail
  refine named fun W hW => ?_
  have hB : Below w.heap.size w W := by rw [hW]; go_grown
  have hX : Blk W w.heap.size [.string s, .int .i64 at_, .int .i64 err, .int .i64 fat] := by
    rw [hW]; exact (Blk.is (us := [.string s, .int .i64 at_, .int .i64 err, .int .i64 fat]) _ rfl).alloc _
  have hR : Blk W (w.heap.size + 1) [.string ⟨#[]⟩, .int .i64 0, .int .i64 0, .int .i64 0] := by rw [hW]; exact Blk.is (us := [.string ⟨#[]⟩, .int .i64 0, .int .i64 0, .int .i64 0]) _ (by simp)
  clear hW
  refine (hU _).mono ?_
  rintro e w1 ⟨rfl, hb⟩
  replace hX := hX.later hb
  replace hR := hR.later hb
  replace hB := bstep hB hb
  clear hb
  have x0 := hX.cell 0 _ rfl
  have x1 := hX.cell 1 _ rfl
  have x2 := hX.cell 2 _ rfl
  have x3 := hX.cell 3 _ rfl
  have xf0 := hX.fr 0 _ rfl
  have xf1 := hX.fr 1 _ rfl
  have xf2 := hX.fr 2 _ rfl
  have xf3 := hX.fr 3 _ rfl
  have r0 := hR.cell 0 _ rfl
  have r1 := hR.cell 1 _ rfl
  have r2 := hR.cell 2 _ rfl
  have r3 := hR.cell 3 _ rfl
  have rf0 := hR.fr 0 _ rfl
  have rf1 := hR.fr 1 _ rfl
  have rf2 := hR.fr 2 _ rfl
  have rf3 := hR.fr 3 _ rfl
  go_wp2
  refine named_post fun V hV => ?_
  have hVR : Blk V (w.heap.size + 1) [.string y0, .int .i64 y1, .int .i64 y2, .int .i64 y3] := by rw [hV]; exact ((((((((hR.other (by simp) _).other (by simp) _).other (by simp) _).other (by simp) _).set 0 _).set 1 _).set 2 _).set 3 _)
  have hVB : Below w.heap.size w V := by rw [hV]; exact ((((((((hB.setCell (p := ⟨w.heap.size, 0, none⟩) (Nat.le_refl _) _).setCell (p := ⟨w.heap.size, 1, none⟩) (Nat.le_refl _) _).setCell (p := ⟨w.heap.size, 2, none⟩) (Nat.le_refl _) _).setCell (p := ⟨w.heap.size, 3, none⟩) (Nat.le_refl _) _).setCell (p := ⟨w.heap.size + 1, 0, none⟩) (by simp) _).setCell (p := ⟨w.heap.size + 1, 1, none⟩) (by simp) _).setCell (p := ⟨w.heap.size + 1, 2, none⟩) (by simp) _).setCell (p := ⟨w.heap.size + 1, 3, none⟩) (by simp) _)
  clear hV x0 x1 x2 x3 xf0 xf1 xf2 xf3 r0 r1 r2 r3 rf0 rf1 rf2 rf3
  have c0 := hVR.cell 0 _ rfl
  have c1 := hVR.cell 1 _ rfl
  have c2 := hVR.cell 2 _ rfl
  have c3 := hVR.cell 3 _ rfl
  refine bodyPost_ret (by simp [results, Try.results13, go_sem, c0, c1, c2, c3]; try rfl) rfl ?_
  exact ⟨by rw [hu.out, IntWalk.i64_left]; try rfl, hVB⟩
set_option maxHeartbeats 2000000 in
theorem refBytes_any (r : Rd) (n : Int) (w : World) (hs : r.s.size ≤ 9223372036854775807) (hn : n ≤ 9223372036854775807) :
    Calls Try.prog 15 #[r.val, .int .i64 n] w fun e w' => e = .returned (.tuple #[(bytesR r n).1.val, .string (bytesR r n).2]) ∧ Below w.heap.size w w' := by
  have hk := opened_ok r
  have hm := opened_m r
  have hs' := Nat.le_trans (opened_s r) hs
  have hopen := refReader_any r
  obtain ⟨s, at_, err, fat⟩ := r
  obtain ⟨x, hx⟩ : ∃ x, x = Rd.opened ⟨s, at_, err, fat⟩ := ⟨_, rfl⟩
  have hu := (show bytesR ⟨s, at_, err, fat⟩ n = if n < 0 then ((x.failAt 2 x.u).given, ⟨#[]⟩) else ((x.take n).1.given, (x.take n).2) by rw [hx]; rfl)
  rw [← hx] at hk hm hs' hopen
  clear hx
  have hu0 := hk.u0
  have hum : x.u ≤ x.s.size := by have := hk.um; omega
  have hF : ∀ q w, Calls Try.prog 50 #[(.agg #[.string (x).s, .int .i64 (x).u, .int .i64 (x).e, .int .i64 (x).a]), .int .i64 q, .int .i64 x.u] w fun e w' => e = .returned (.agg #[.string (x.failAt q x.u).s, .int .i64 (x.failAt q x.u).u, .int .i64 (x.failAt q x.u).e, .int .i64 (x.failAt q x.u).a]) ∧ Below w.heap.size w w' := fun q w => by
    have := refFail_any x.given q x.u w
    rw [fail_given] at this
    exact this
  have hT : ∀ n w, 0 ≤ n → n ≤ 9223372036854775807 → Calls Try.prog 51 #[(.agg #[.string (x).s, .int .i64 (x).u, .int .i64 (x).e, .int .i64 (x).a]), .int .i64 n] w fun e w' => e = .returned (.tuple #[(.agg #[.string ((x.take n).1).s, .int .i64 ((x.take n).1).u, .int .i64 ((x.take n).1).e, .int .i64 ((x.take n).1).a]), .string (x.take n).2]) ∧ Below w.heap.size w w' := fun n w h0 h1 => by
    have := refTake_any x.given n w hu0 hum hs' h0 h1
    rw [take_given x hm] at this
    exact this
  replace hm := Lib.hid hm
  simp only [Rd.val, Sp.given] at hopen ⊢
  by_cases hneg : n < 0
  · rw [if_pos hneg] at hu
    replace hu := Lib.hid hu
    go_enter Try.func15, Try.ntmps15
    go_wp2_with fail
    refine named fun W hW => ?_
    have hB : Below w.heap.size w W := by rw [hW]; go_grown
    have hX : Blk W w.heap.size [.string s, .int .i64 at_, .int .i64 err, .int .i64 fat] := by
      rw [hW]; exact (Blk.is (us := [.string s, .int .i64 at_, .int .i64 err, .int .i64 fat]) _ rfl).alloc _
    have hR : Blk W (w.heap.size + 1) [.string ⟨#[]⟩, .int .i64 0, .int .i64 0, .int .i64 0] := by rw [hW]; exact Blk.is (us := [.string ⟨#[]⟩, .int .i64 0, .int .i64 0, .int .i64 0]) _ (by simp)
    clear hW
    refine (hopen _).mono ?_
    rintro e w1 ⟨rfl, hb⟩
    replace hX := hX.later hb
    replace hR := hR.later hb
    replace hB := bstep hB hb
    clear hb
    have x0 := hX.cell 0 _ rfl
    have x1 := hX.cell 1 _ rfl
    have x2 := hX.cell 2 _ rfl
    have x3 := hX.cell 3 _ rfl
    have xf0 := hX.fr 0 _ rfl
    have xf1 := hX.fr 1 _ rfl
    have xf2 := hX.fr 2 _ rfl
    have xf3 := hX.fr 3 _ rfl
    go_wp2_with fail
    refine named fun W2 hW => ?_
    replace hX : Blk W2 w.heap.size [.string (x).s, .int .i64 (x).u, .int .i64 (x).e, .int .i64 (x).a] := by rw [hW]; exact ((((hX.set 0 _).set 1 _).set 2 _).set 3 _)
    replace hR : Blk W2 (w.heap.size + 1) [.string ⟨#[]⟩, .int .i64 0, .int .i64 0, .int .i64 0] := by rw [hW]; exact ((((hR.other (by simp) _).other (by simp) _).other (by simp) _).other (by simp) _)
    replace hB : Below w.heap.size w W2 := by rw [hW]; exact ((((hB.setCell (p := ⟨w.heap.size, 0, none⟩) (Nat.le_refl _) _).setCell (p := ⟨w.heap.size, 1, none⟩) (Nat.le_refl _) _).setCell (p := ⟨w.heap.size, 2, none⟩) (Nat.le_refl _) _).setCell (p := ⟨w.heap.size, 3, none⟩) (Nat.le_refl _) _)
    clear hW
    clear x0 x1 x2 x3 xf0 xf1 xf2 xf3
    refine (hF 2 _).mono ?_
    rintro e w3 ⟨rfl, hb⟩
    replace hX := hX.later hb
    replace hR := hR.later hb
    replace hB := bstep hB hb
    clear hb
    have r0 := hR.cell 0 _ rfl
    have r1 := hR.cell 1 _ rfl
    have r2 := hR.cell 2 _ rfl
    have r3 := hR.cell 3 _ rfl
    have rf0 := hR.fr 0 _ rfl
    have rf1 := hR.fr 1 _ rfl
    have rf2 := hR.fr 2 _ rfl
    have rf3 := hR.fr 3 _ rfl
    go_wp2
    refine named_post fun V hV => ?_
    have hVR : Blk V (w.heap.size + 1) [.string (x.failAt 2 x.u).s, .int .i64 (x.failAt 2 x.u).u, .int .i64 (x.failAt 2 x.u).e, .int .i64 (x.failAt 2 x.u).a] := by rw [hV]; exact ((((hR.set 0 _).set 1 _).set 2 _).set 3 _)
    have hVB : Below w.heap.size w V := by rw [hV]; exact ((((hB.setCell (p := ⟨w.heap.size + 1, 0, none⟩) (by simp) _).setCell (p := ⟨w.heap.size + 1, 1, none⟩) (by simp) _).setCell (p := ⟨w.heap.size + 1, 2, none⟩) (by simp) _).setCell (p := ⟨w.heap.size + 1, 3, none⟩) (by simp) _)
    clear hV r0 r1 r2 r3 rf0 rf1 rf2 rf3
    have c0 := hVR.cell 0 _ rfl
    have c1 := hVR.cell 1 _ rfl
    have c2 := hVR.cell 2 _ rfl
    have c3 := hVR.cell 3 _ rfl
    refine bodyPost_ret (by simp [results, Try.results15, go_sem, c0, c1, c2, c3]; try rfl) rfl ?_
    exact ⟨by rw [hu.out]; rfl, hVB⟩
  · rw [if_neg hneg] at hu
    replace hu := Lib.hid hu
    go_enter Try.func15, Try.ntmps15
    go_wp2_with fail
    refine named fun W hW => ?_
    have hB : Below w.heap.size w W := by rw [hW]; go_grown
    have hX : Blk W w.heap.size [.string s, .int .i64 at_, .int .i64 err, .int .i64 fat] := by
      rw [hW]; exact (Blk.is (us := [.string s, .int .i64 at_, .int .i64 err, .int .i64 fat]) _ rfl).alloc _
    have hR : Blk W (w.heap.size + 1) [.string ⟨#[]⟩, .int .i64 0, .int .i64 0, .int .i64 0] := by rw [hW]; exact Blk.is (us := [.string ⟨#[]⟩, .int .i64 0, .int .i64 0, .int .i64 0]) _ (by simp)
    clear hW
    refine (hopen _).mono ?_
    rintro e w1 ⟨rfl, hb⟩
    replace hX := hX.later hb
    replace hR := hR.later hb
    replace hB := bstep hB hb
    clear hb
    have x0 := hX.cell 0 _ rfl
    have x1 := hX.cell 1 _ rfl
    have x2 := hX.cell 2 _ rfl
    have x3 := hX.cell 3 _ rfl
    have xf0 := hX.fr 0 _ rfl
    have xf1 := hX.fr 1 _ rfl
    have xf2 := hX.fr 2 _ rfl
    have xf3 := hX.fr 3 _ rfl
    go_wp2_with fail
    refine named fun W2 hW => ?_
    replace hX : Blk W2 w.heap.size [.string (x).s, .int .i64 (x).u, .int .i64 (x).e, .int .i64 (x).a] := by rw [hW]; exact ((((hX.set 0 _).set 1 _).set 2 _).set 3 _)
    replace hR : Blk W2 (w.heap.size + 1) [.string ⟨#[]⟩, .int .i64 0, .int .i64 0, .int .i64 0] := by rw [hW]; exact ((((hR.other (by simp) _).other (by simp) _).other (by simp) _).other (by simp) _)
    replace hB : Below w.heap.size w W2 := by rw [hW]; exact ((((hB.setCell (p := ⟨w.heap.size, 0, none⟩) (Nat.le_refl _) _).setCell (p := ⟨w.heap.size, 1, none⟩) (Nat.le_refl _) _).setCell (p := ⟨w.heap.size, 2, none⟩) (Nat.le_refl _) _).setCell (p := ⟨w.heap.size, 3, none⟩) (Nat.le_refl _) _)
    clear hW
    clear x0 x1 x2 x3 xf0 xf1 xf2 xf3
    refine (hT n _ (by omega) hn).mono ?_
    rintro e w3 ⟨rfl, hb⟩
    replace hX := hX.later hb
    replace hR := hR.later hb
    replace hB := bstep hB hb
    clear hb
    have r0 := hR.cell 0 _ rfl
    have r1 := hR.cell 1 _ rfl
    have r2 := hR.cell 2 _ rfl
    have r3 := hR.cell 3 _ rfl
    have rf0 := hR.fr 0 _ rfl
    have rf1 := hR.fr 1 _ rfl
    have rf2 := hR.fr 2 _ rfl
    have rf3 := hR.fr 3 _ rfl
    go_wp2
    refine named_post fun V hV => ?_
    have hVR : Blk V (w.heap.size + 1) [.string ((x.take n).1).s, .int .i64 ((x.take n).1).u, .int .i64 ((x.take n).1).e, .int .i64 ((x.take n).1).a] := by rw [hV]; exact ((((hR.set 0 _).set 1 _).set 2 _).set 3 _)
    have hVB : Below w.heap.size w V := by rw [hV]; exact ((((hB.setCell (p := ⟨w.heap.size + 1, 0, none⟩) (by simp) _).setCell (p := ⟨w.heap.size + 1, 1, none⟩) (by simp) _).setCell (p := ⟨w.heap.size + 1, 2, none⟩) (by simp) _).setCell (p := ⟨w.heap.size + 1, 3, none⟩) (by simp) _)
    clear hV r0 r1 r2 r3 rf0 rf1 rf2 rf3
    have c0 := hVR.cell 0 _ rfl
    have c1 := hVR.cell 1 _ rfl
    have c2 := hVR.cell 2 _ rfl
    have c3 := hVR.cell 3 _ rfl
    refine bodyPost_ret (by simp [results, Try.results15, go_sem, c0, c1, c2, c3]; try rfl) rfl ?_
    exact ⟨by rw [hu.out]; rfl, hVB⟩
set_option maxHeartbeats 2000000 in
theorem refWant_any (r : Rd) (s' : ByteArray) (w : World) (hs : r.s.size ≤ 9223372036854775807) (hs2 : s'.size ≤ 9223372036854775807) :
    Calls Try.prog 19 #[r.val, .string s'] w fun e w' => e = .returned (wantR r s').val ∧ Below w.heap.size w w' := by
  have hk := opened_ok r
  have hm := opened_m r
  have hs' := Nat.le_trans (opened_s r) hs
  have hopen := refReader_any r
  obtain ⟨s, at_, err, fat⟩ := r
  obtain ⟨x, hx⟩ : ∃ x, x = Rd.opened ⟨s, at_, err, fat⟩ := ⟨_, rfl⟩
  have hu := (show wantR ⟨s, at_, err, fat⟩ s' = (if (x.take s'.size).2 = s' then (x.take s'.size).1 else (x.take s'.size).1.refuse 3 x.u).given by rw [hx]; rfl)
  rw [← hx] at hk hm hs' hopen
  clear hx
  have hu0 := hk.u0
  have hum : x.u ≤ x.s.size := by have := hk.um; omega
  have hF : ∀ q w, Calls Try.prog 50 #[(.agg #[.string (x).s, .int .i64 (x).u, .int .i64 (x).e, .int .i64 (x).a]), .int .i64 q, .int .i64 x.u] w fun e w' => e = .returned (.agg #[.string (x.failAt q x.u).s, .int .i64 (x.failAt q x.u).u, .int .i64 (x.failAt q x.u).e, .int .i64 (x.failAt q x.u).a]) ∧ Below w.heap.size w w' := fun q w => by
    have := refFail_any x.given q x.u w
    rw [fail_given] at this
    exact this
  have hT : ∀ n w, 0 ≤ n → n ≤ 9223372036854775807 → Calls Try.prog 51 #[(.agg #[.string (x).s, .int .i64 (x).u, .int .i64 (x).e, .int .i64 (x).a]), .int .i64 n] w fun e w' => e = .returned (.tuple #[(.agg #[.string ((x.take n).1).s, .int .i64 ((x.take n).1).u, .int .i64 ((x.take n).1).e, .int .i64 ((x.take n).1).a]), .string (x.take n).2]) ∧ Below w.heap.size w w' := fun n w h0 h1 => by
    have := refTake_any x.given n w hu0 hum hs' h0 h1
    rw [take_given x hm] at this
    exact this
  replace hm := Lib.hid hm
  simp only [Rd.val, Sp.given] at hopen ⊢
  obtain ⟨t, ht⟩ : ∃ t, t = x.take s'.size := ⟨_, rfl⟩
  obtain ⟨⟨tu, tm, te, ta, ts⟩, t2⟩ := t
  have hT1 := fun w => hT s'.size w (by omega) (by omega)
  rw [← ht] at hu hT1
  simp only at hT1
  have h4 : te = 0 → ((⟨tu, tm, te, ta, ts⟩ : Sp).refuse 3 x.u).given = (x.failAt 3 x.u).given := fun h0 => by
    have hq := congrArg Prod.fst ht
    simp only [Sp.take, Sp.claim] at hq
    obtain ⟨xu, xm, xe, xa, xs⟩ := x
    by_cases hxe : xe = 0
    · subst hxe
      simp only [ne_eq, not_true_eq_false, if_false] at hq
      split at hq
      · simp only [Sp.failAt, if_true] at hq
        cases hq
        cases h0
      · cases hq
        rfl
    · simp only [ne_eq, hxe, not_false_eq_true, if_true] at hq
      cases hq
      exact absurd h0 hxe
  have h5 : te ≠ 0 → tu = x.u := fun h0 => by
    have hq := congrArg Prod.fst ht
    simp only [Sp.take, Sp.claim] at hq
    obtain ⟨xu, xm, xe, xa, xs⟩ := x
    by_cases hxe : xe = 0
    · subst hxe
      simp only [ne_eq, not_true_eq_false, if_false] at hq
      split at hq
      · simp only [Sp.failAt, if_true] at hq
        cases hq
        rfl
      · cases hq
        exact absurd rfl h0
    · simp only [ne_eq, hxe, not_false_eq_true, if_true] at hq
      cases hq
      rfl
  clear ht
  by_cases he : te = 0
  · by_cases heq : t2 = s'
    · rw [if_pos heq] at hu
      replace hu := Lib.hid hu
      clear h4 h5
      subst he
      subst heq
      go_enter Try.func19, Try.ntmps19
      go_wp2_with fail
      refine named fun W hW => ?_
      have hB : Below w.heap.size w W := by rw [hW]; go_grown
      have hX : Blk W w.heap.size [.string s, .int .i64 at_, .int .i64 err, .int .i64 fat] := by
        rw [hW]; exact (Blk.is (us := [.string s, .int .i64 at_, .int .i64 err, .int .i64 fat]) _ rfl).alloc _
      have hR : Blk W (w.heap.size + 1) [.string ⟨#[]⟩, .int .i64 0, .int .i64 0, .int .i64 0] := by rw [hW]; exact Blk.is (us := [.string ⟨#[]⟩, .int .i64 0, .int .i64 0, .int .i64 0]) _ (by simp)
      clear hW
      refine (hopen _).mono ?_
      rintro e w1 ⟨rfl, hb⟩
      replace hX := hX.later hb
      replace hR := hR.later hb
      replace hB := bstep hB hb
      clear hb
      have x0 := hX.cell 0 _ rfl
      have x1 := hX.cell 1 _ rfl
      have x2 := hX.cell 2 _ rfl
      have x3 := hX.cell 3 _ rfl
      have xf0 := hX.fr 0 _ rfl
      have xf1 := hX.fr 1 _ rfl
      have xf2 := hX.fr 2 _ rfl
      have xf3 := hX.fr 3 _ rfl
      go_wp2_with fail
      refine named fun W2 hW => ?_
      replace hX : Blk W2 w.heap.size [.string (x).s, .int .i64 (x).u, .int .i64 (x).e, .int .i64 (x).a] := by rw [hW]; exact ((((hX.set 0 _).set 1 _).set 2 _).set 3 _)
      replace hR : Blk W2 (w.heap.size + 1) [.string ⟨#[]⟩, .int .i64 0, .int .i64 0, .int .i64 0] := by rw [hW]; exact ((((hR.other (by simp) _).other (by simp) _).other (by simp) _).other (by simp) _)
      replace hB : Below w.heap.size w W2 := by rw [hW]; exact ((((hB.setCell (p := ⟨w.heap.size, 0, none⟩) (Nat.le_refl _) _).setCell (p := ⟨w.heap.size, 1, none⟩) (Nat.le_refl _) _).setCell (p := ⟨w.heap.size, 2, none⟩) (Nat.le_refl _) _).setCell (p := ⟨w.heap.size, 3, none⟩) (Nat.le_refl _) _)
      clear hW
      clear x0 x1 x2 x3 xf0 xf1 xf2 xf3
      refine (hT1 _).mono ?_
      rintro e w3 ⟨rfl, hb⟩
      replace hX := hX.later hb
      replace hR := hR.later hb
      replace hB := bstep hB hb
      clear hb
      have x0 := hX.cell 0 _ rfl
      have x1 := hX.cell 1 _ rfl
      have x2 := hX.cell 2 _ rfl
      have x3 := hX.cell 3 _ rfl
      have xf0 := hX.fr 0 _ rfl
      have xf1 := hX.fr 1 _ rfl
      have xf2 := hX.fr 2 _ rfl
      have xf3 := hX.fr 3 _ rfl
      have r0 := hR.cell 0 _ rfl
      have r1 := hR.cell 1 _ rfl
      have r2 := hR.cell 2 _ rfl
      have r3 := hR.cell 3 _ rfl
      have rf0 := hR.fr 0 _ rfl
      have rf1 := hR.fr 1 _ rfl
      have rf2 := hR.fr 2 _ rfl
      have rf3 := hR.fr 3 _ rfl
      have hlt := hR.lt
      have hltX := hX.lt
      go_wp2
      refine named_post fun V hV => ?_
      have hVR : Blk V (w.heap.size + 1) [.string ts, .int .i64 tu, .int .i64 0, .int .i64 ta] := by rw [hV]; exact ((((hR.set 0 _).set 1 _).set 2 _).set 3 _).alloc _
      have hVB : Below w.heap.size w V := by rw [hV]; exact ((((hB.setCell (p := ⟨w.heap.size + 1, 0, none⟩) (by simp) _).setCell (p := ⟨w.heap.size + 1, 1, none⟩) (by simp) _).setCell (p := ⟨w.heap.size + 1, 2, none⟩) (by simp) _).setCell (p := ⟨w.heap.size + 1, 3, none⟩) (by simp) _).alloc (by simpa [World.setCell] using hB.size) _
      clear hV x0 x1 x2 x3 xf0 xf1 xf2 xf3 r0 r1 r2 r3 rf0 rf1 rf2 rf3
      have c0 := hVR.cell 0 _ rfl
      have c1 := hVR.cell 1 _ rfl
      have c2 := hVR.cell 2 _ rfl
      have c3 := hVR.cell 3 _ rfl
      refine bodyPost_ret (by simp [results, Try.results19, go_sem, c0, c1, c2, c3]; try rfl) rfl ?_
      exact ⟨by rw [hu.out]; rfl, hVB⟩
    · rw [if_neg heq, h4 he] at hu
      replace hu := Lib.hid hu
      clear h4 h5
      have hne := str_ne heq
      subst he
      go_enter Try.func19, Try.ntmps19
      go_wp2_with fail
      refine named fun W hW => ?_
      have hB : Below w.heap.size w W := by rw [hW]; go_grown
      have hX : Blk W w.heap.size [.string s, .int .i64 at_, .int .i64 err, .int .i64 fat] := by
        rw [hW]; exact (Blk.is (us := [.string s, .int .i64 at_, .int .i64 err, .int .i64 fat]) _ rfl).alloc _
      have hR : Blk W (w.heap.size + 1) [.string ⟨#[]⟩, .int .i64 0, .int .i64 0, .int .i64 0] := by rw [hW]; exact Blk.is (us := [.string ⟨#[]⟩, .int .i64 0, .int .i64 0, .int .i64 0]) _ (by simp)
      clear hW
      refine (hopen _).mono ?_
      rintro e w1 ⟨rfl, hb⟩
      replace hX := hX.later hb
      replace hR := hR.later hb
      replace hB := bstep hB hb
      clear hb
      have x0 := hX.cell 0 _ rfl
      have x1 := hX.cell 1 _ rfl
      have x2 := hX.cell 2 _ rfl
      have x3 := hX.cell 3 _ rfl
      have xf0 := hX.fr 0 _ rfl
      have xf1 := hX.fr 1 _ rfl
      have xf2 := hX.fr 2 _ rfl
      have xf3 := hX.fr 3 _ rfl
      go_wp2_with fail
      refine named fun W2 hW => ?_
      replace hX : Blk W2 w.heap.size [.string (x).s, .int .i64 (x).u, .int .i64 (x).e, .int .i64 (x).a] := by rw [hW]; exact ((((hX.set 0 _).set 1 _).set 2 _).set 3 _)
      replace hR : Blk W2 (w.heap.size + 1) [.string ⟨#[]⟩, .int .i64 0, .int .i64 0, .int .i64 0] := by rw [hW]; exact ((((hR.other (by simp) _).other (by simp) _).other (by simp) _).other (by simp) _)
      replace hB : Below w.heap.size w W2 := by rw [hW]; exact ((((hB.setCell (p := ⟨w.heap.size, 0, none⟩) (Nat.le_refl _) _).setCell (p := ⟨w.heap.size, 1, none⟩) (Nat.le_refl _) _).setCell (p := ⟨w.heap.size, 2, none⟩) (Nat.le_refl _) _).setCell (p := ⟨w.heap.size, 3, none⟩) (Nat.le_refl _) _)
      clear hW
      clear x0 x1 x2 x3 xf0 xf1 xf2 xf3
      refine (hT1 _).mono ?_
      rintro e w3 ⟨rfl, hb⟩
      replace hX := hX.later hb
      replace hR := hR.later hb
      replace hB := bstep hB hb
      clear hb
      have x0 := hX.cell 0 _ rfl
      have x1 := hX.cell 1 _ rfl
      have x2 := hX.cell 2 _ rfl
      have x3 := hX.cell 3 _ rfl
      have xf0 := hX.fr 0 _ rfl
      have xf1 := hX.fr 1 _ rfl
      have xf2 := hX.fr 2 _ rfl
      have xf3 := hX.fr 3 _ rfl
      have r0 := hR.cell 0 _ rfl
      have r1 := hR.cell 1 _ rfl
      have r2 := hR.cell 2 _ rfl
      have r3 := hR.cell 3 _ rfl
      have rf0 := hR.fr 0 _ rfl
      have rf1 := hR.fr 1 _ rfl
      have rf2 := hR.fr 2 _ rfl
      have rf3 := hR.fr 3 _ rfl
      have hlt := hR.lt
      have hltX := hX.lt
      go_wp2_with fail
      refine named fun W4 hW => ?_
      replace hX : Blk W4 w.heap.size [.string (x).s, .int .i64 (x).u, .int .i64 (x).e, .int .i64 (x).a] := by rw [hW]; exact hX.alloc _
      replace hR : Blk W4 (w.heap.size + 1) [.string ⟨#[]⟩, .int .i64 0, .int .i64 0, .int .i64 0] := by rw [hW]; exact hR.alloc _
      replace hB : Below w.heap.size w W4 := by rw [hW]; exact hB.alloc hB.size _
      clear hW hlt hltX x0 x1 x2 x3 xf0 xf1 xf2 xf3 r0 r1 r2 r3 rf0 rf1 rf2 rf3
      refine (hF 3 _).mono ?_
      rintro e w5 ⟨rfl, hb⟩
      replace hX := hX.later hb
      replace hR := hR.later hb
      replace hB := bstep hB hb
      clear hb
      have r0 := hR.cell 0 _ rfl
      have r1 := hR.cell 1 _ rfl
      have r2 := hR.cell 2 _ rfl
      have r3 := hR.cell 3 _ rfl
      have rf0 := hR.fr 0 _ rfl
      have rf1 := hR.fr 1 _ rfl
      have rf2 := hR.fr 2 _ rfl
      have rf3 := hR.fr 3 _ rfl
      go_wp2
      refine named_post fun V hV => ?_
      have hVR : Blk V (w.heap.size + 1) [.string (x.failAt 3 x.u).s, .int .i64 (x.failAt 3 x.u).u, .int .i64 (x.failAt 3 x.u).e, .int .i64 (x.failAt 3 x.u).a] := by rw [hV]; exact ((((hR.set 0 _).set 1 _).set 2 _).set 3 _)
      have hVB : Below w.heap.size w V := by rw [hV]; exact ((((hB.setCell (p := ⟨w.heap.size + 1, 0, none⟩) (by simp) _).setCell (p := ⟨w.heap.size + 1, 1, none⟩) (by simp) _).setCell (p := ⟨w.heap.size + 1, 2, none⟩) (by simp) _).setCell (p := ⟨w.heap.size + 1, 3, none⟩) (by simp) _)
      clear hV r0 r1 r2 r3 rf0 rf1 rf2 rf3
      have c0 := hVR.cell 0 _ rfl
      have c1 := hVR.cell 1 _ rfl
      have c2 := hVR.cell 2 _ rfl
      have c3 := hVR.cell 3 _ rfl
      refine bodyPost_ret (by simp [results, Try.results19, go_sem, c0, c1, c2, c3]; try rfl) rfl ?_
      exact ⟨by rw [hu.out]; rfl, hVB⟩
  · have hu2 : wantR ⟨s, at_, err, fat⟩ s' = (⟨tu, tm, te, ta, ts⟩ : Sp).given := by
      rw [hu]
      split
      · rfl
      · unfold Sp.refuse Sp.failAt
        rw [if_neg he, h5 he]
    replace hu := Lib.hid hu2
    clear hu2 h4 h5
    have heb : (te == 0) = false := by simpa using he
    clear he
    go_enter Try.func19, Try.ntmps19
    go_wp2_with fail
    refine named fun W hW => ?_
    have hB : Below w.heap.size w W := by rw [hW]; go_grown
    have hX : Blk W w.heap.size [.string s, .int .i64 at_, .int .i64 err, .int .i64 fat] := by
      rw [hW]; exact (Blk.is (us := [.string s, .int .i64 at_, .int .i64 err, .int .i64 fat]) _ rfl).alloc _
    have hR : Blk W (w.heap.size + 1) [.string ⟨#[]⟩, .int .i64 0, .int .i64 0, .int .i64 0] := by rw [hW]; exact Blk.is (us := [.string ⟨#[]⟩, .int .i64 0, .int .i64 0, .int .i64 0]) _ (by simp)
    clear hW
    refine (hopen _).mono ?_
    rintro e w1 ⟨rfl, hb⟩
    replace hX := hX.later hb
    replace hR := hR.later hb
    replace hB := bstep hB hb
    clear hb
    have x0 := hX.cell 0 _ rfl
    have x1 := hX.cell 1 _ rfl
    have x2 := hX.cell 2 _ rfl
    have x3 := hX.cell 3 _ rfl
    have xf0 := hX.fr 0 _ rfl
    have xf1 := hX.fr 1 _ rfl
    have xf2 := hX.fr 2 _ rfl
    have xf3 := hX.fr 3 _ rfl
    go_wp2_with fail
    refine named fun W2 hW => ?_
    replace hX : Blk W2 w.heap.size [.string (x).s, .int .i64 (x).u, .int .i64 (x).e, .int .i64 (x).a] := by rw [hW]; exact ((((hX.set 0 _).set 1 _).set 2 _).set 3 _)
    replace hR : Blk W2 (w.heap.size + 1) [.string ⟨#[]⟩, .int .i64 0, .int .i64 0, .int .i64 0] := by rw [hW]; exact ((((hR.other (by simp) _).other (by simp) _).other (by simp) _).other (by simp) _)
    replace hB : Below w.heap.size w W2 := by rw [hW]; exact ((((hB.setCell (p := ⟨w.heap.size, 0, none⟩) (Nat.le_refl _) _).setCell (p := ⟨w.heap.size, 1, none⟩) (Nat.le_refl _) _).setCell (p := ⟨w.heap.size, 2, none⟩) (Nat.le_refl _) _).setCell (p := ⟨w.heap.size, 3, none⟩) (Nat.le_refl _) _)
    clear hW
    clear x0 x1 x2 x3 xf0 xf1 xf2 xf3
    refine (hT1 _).mono ?_
    rintro e w3 ⟨rfl, hb⟩
    replace hX := hX.later hb
    replace hR := hR.later hb
    replace hB := bstep hB hb
    clear hb
    have x0 := hX.cell 0 _ rfl
    have x1 := hX.cell 1 _ rfl
    have x2 := hX.cell 2 _ rfl
    have x3 := hX.cell 3 _ rfl
    have xf0 := hX.fr 0 _ rfl
    have xf1 := hX.fr 1 _ rfl
    have xf2 := hX.fr 2 _ rfl
    have xf3 := hX.fr 3 _ rfl
    have r0 := hR.cell 0 _ rfl
    have r1 := hR.cell 1 _ rfl
    have r2 := hR.cell 2 _ rfl
    have r3 := hR.cell 3 _ rfl
    have rf0 := hR.fr 0 _ rfl
    have rf1 := hR.fr 1 _ rfl
    have rf2 := hR.fr 2 _ rfl
    have rf3 := hR.fr 3 _ rfl
    have hlt := hR.lt
    have hltX := hX.lt
    go_wp2
    refine named_post fun V hV => ?_
    have hVR : Blk V (w.heap.size + 1) [.string ts, .int .i64 tu, .int .i64 te, .int .i64 ta] := by rw [hV]; exact ((((hR.set 0 _).set 1 _).set 2 _).set 3 _).alloc _
    have hVB : Below w.heap.size w V := by rw [hV]; exact ((((hB.setCell (p := ⟨w.heap.size + 1, 0, none⟩) (by simp) _).setCell (p := ⟨w.heap.size + 1, 1, none⟩) (by simp) _).setCell (p := ⟨w.heap.size + 1, 2, none⟩) (by simp) _).setCell (p := ⟨w.heap.size + 1, 3, none⟩) (by simp) _).alloc (by simpa [World.setCell] using hB.size) _
    clear hV x0 x1 x2 x3 xf0 xf1 xf2 xf3 r0 r1 r2 r3 rf0 rf1 rf2 rf3
    have c0 := hVR.cell 0 _ rfl
    have c1 := hVR.cell 1 _ rfl
    have c2 := hVR.cell 2 _ rfl
    have c3 := hVR.cell 3 _ rfl
    refine bodyPost_ret (by simp [results, Try.results19, go_sem, c0, c1, c2, c3]; try rfl) rfl ?_
    exact ⟨by rw [hu.out]; rfl, hVB⟩
end Go.Proofs.Ytgcgoiaadigmfaa
