/- Walks: Fail, End, Read, Sized of the reference. -/
import Derived.Test.YtgcgoiaadigmfaaWireL
namespace Go.Proofs.Ytgcgoiaadigmfaa
open Go.RowKit
open Wr

set_option maxHeartbeats 2000000 in
theorem refFailR_any (r : Rd) (er a : Int) (w : World) (hs : r.s.size ≤ 9223372036854775807) :
    Calls Try.prog 21 #[r.val, .int .i64 er, .int .i64 a] w fun e w' => e = .returned (failR r er a).val ∧ Below w.heap.size w w' := by
  have hk := opened_ok r
  have hm := opened_m r
  have hs' := Nat.le_trans (opened_s r) hs
  have hopen := refReader_any r
  obtain ⟨s, at_, err, fat⟩ := r
  obtain ⟨x, hx⟩ : ∃ x, x = Rd.opened ⟨s, at_, err, fat⟩ := ⟨_, rfl⟩
  have hu := (show failR ⟨s, at_, err, fat⟩ er a = (x.failAt (if isErr er then er else 3) (min (max a 0) x.m)).given by rw [hx]; rfl)
  rw [← hx] at hk hm hs' hopen
  clear hx
  have hu0 := hk.u0
  have hum : x.u ≤ x.s.size := by have := hk.um; omega
  have hF : ∀ q w, Calls Try.prog 50 #[(.agg #[.string (x).s, .int .i64 (x).u, .int .i64 (x).e, .int .i64 (x).a]), .int .i64 q, .int .i64 x.u] w fun e w' => e = .returned (.agg #[.string (x.failAt q x.u).s, .int .i64 (x.failAt q x.u).u, .int .i64 (x.failAt q x.u).e, .int .i64 (x.failAt q x.u).a]) ∧ Below w.heap.size w w' := fun q w => by
    have := refFail_any x.given q x.u w
    rw [fail_given] at this
    exact this
  have hT : ∀ n w, 0 ≤ n → n ≤ 9223372036854775807 → Calls Try.prog 51 #[(.agg #[.string (x).s, .int .i64 (x).u, .int .i64 (x).e, .int .i64 (x).a]), .int .i64 n] w fun e w' => e = .returned (.tuple #[(.agg #[.string ((x.take n).1).s, .int .i64 ((x.take n).1).u, .int .i64 ((x.take n).1).e, .int .i64 ((x.take n).1).a]), .string (x.take n).2]) ∧ Below w.heap.size w w' := fun n w h0 h1 => by
    have := refTake_any x.given n w hu0 hum hs' h0 h1
    rw [take_given x hm] at this
    exact this
  replace hm := Lib.hid hm
  simp only [Rd.val, Sp.given] at hopen ⊢
  have hG : ∀ q v w, Calls Try.prog 50 #[(.agg #[.string (x).s, .int .i64 (x).u, .int .i64 (x).e, .int .i64 (x).a]), .int .i64 q, .int .i64 v] w fun e w' => e = .returned (.agg #[.string (x.failAt q v).s, .int .i64 (x.failAt q v).u, .int .i64 (x.failAt q v).e, .int .i64 (x.failAt q v).a]) ∧ Below w.heap.size w w' := fun q v w => by
    have := refFail_any x.given q v w
    rw [fail_given] at this
    exact this
  clear hT hF
  rw [hm.out] at hu
  have he : er < 1 ∨ 1 ≤ er ∧ 23 < er ∨ 1 ≤ er ∧ er ≤ 23 := by omega
  rcases he with he | ⟨he, he2⟩ | ⟨he, he2⟩
  · rcases Int.lt_or_le a 0 with ha | ha
    · rw [if_neg (by simp [isErr]; omega), show min (max a 0) (x.s.size : Int) = 0 by omega] at hu
      replace hu := Lib.hid hu
      go_enter Try.func21, Try.ntmps21
      go_wp2_with fail
      refine named fun W hW => ?_
      have hB : Below w.heap.size w W := by rw [hW]; go_grown
      have hX : Blk W w.heap.size [.string s, .int .i64 at_, .int .i64 err, .int .i64 fat] := by
        rw [hW]; exact (Blk.is (us := [.string s, .int .i64 at_, .int .i64 err, .int .i64 fat]) _ rfl).alloc _
      have hR : Blk W (w.heap.size + 1) [.string ⟨#[]⟩, .int .i64 0, .int .i64 0, .int .i64 0] := by rw [hW]; exact Blk.is (us := [.string ⟨#[]⟩, .int .i64 0, .int .i64 0, .int .i64 0]) _ (by simp)
      clear hW
      refine (hopen _).mono ?_
      rintro e w1 ⟨rfl, hb⟩
      replace hX := hX.later hb
      replace hR := hR.later hb
      replace hB := bstep hB hb
      clear hb
      have x0 := hX.cell 0 _ rfl
      have x1 := hX.cell 1 _ rfl
      have x2 := hX.cell 2 _ rfl
      have x3 := hX.cell 3 _ rfl
      have xf0 := hX.fr 0 _ rfl
      have xf1 := hX.fr 1 _ rfl
      have xf2 := hX.fr 2 _ rfl
      have xf3 := hX.fr 3 _ rfl
      go_wp2_with fail
      refine named fun W2 hW => ?_
      replace hX : Blk W2 w.heap.size [.string (x).s, .int .i64 (x).u, .int .i64 (x).e, .int .i64 (x).a] := by rw [hW]; exact ((((hX.set 0 _).set 1 _).set 2 _).set 3 _)
      replace hR : Blk W2 (w.heap.size + 1) [.string ⟨#[]⟩, .int .i64 0, .int .i64 0, .int .i64 0] := by rw [hW]; exact ((((hR.other (by simp) _).other (by simp) _).other (by simp) _).other (by simp) _)
      replace hB : Below w.heap.size w W2 := by rw [hW]; exact ((((hB.setCell (p := ⟨w.heap.size, 0, none⟩) (Nat.le_refl _) _).setCell (p := ⟨w.heap.size, 1, none⟩) (Nat.le_refl _) _).setCell (p := ⟨w.heap.size, 2, none⟩) (Nat.le_refl _) _).setCell (p := ⟨w.heap.size, 3, none⟩) (Nat.le_refl _) _)
      clear hW
      clear x0 x1 x2 x3 xf0 xf1 xf2 xf3
      refine (hG 3 0 _).mono ?_
      rintro e w3 ⟨rfl, hb⟩
      replace hX := hX.later hb
      replace hR := hR.later hb
      replace hB := bstep hB hb
      clear hb
      have r0 := hR.cell 0 _ rfl
      have r1 := hR.cell 1 _ rfl
      have r2 := hR.cell 2 _ rfl
      have r3 := hR.cell 3 _ rfl
      have rf0 := hR.fr 0 _ rfl
      have rf1 := hR.fr 1 _ rfl
      have rf2 := hR.fr 2 _ rfl
      have rf3 := hR.fr 3 _ rfl
      go_wp2
      refine named_post fun V hV => ?_
      have hVR : Blk V (w.heap.size + 1) [.string (x.failAt 3 0).s, .int .i64 (x.failAt 3 0).u, .int .i64 (x.failAt 3 0).e, .int .i64 (x.failAt 3 0).a] := by rw [hV]; exact ((((hR.set 0 _).set 1 _).set 2 _).set 3 _)
      have hVB : Below w.heap.size w V := by rw [hV]; exact ((((hB.setCell (p := ⟨w.heap.size + 1, 0, none⟩) (by simp) _).setCell (p := ⟨w.heap.size + 1, 1, none⟩) (by simp) _).setCell (p := ⟨w.heap.size + 1, 2, none⟩) (by simp) _).setCell (p := ⟨w.heap.size + 1, 3, none⟩) (by simp) _)
      clear hV r0 r1 r2 r3 rf0 rf1 rf2 rf3
      have c0 := hVR.cell 0 _ rfl
      have c1 := hVR.cell 1 _ rfl
      have c2 := hVR.cell 2 _ rfl
      have c3 := hVR.cell 3 _ rfl
      refine bodyPost_ret (by simp [results, Try.results21, go_sem, c0, c1, c2, c3]; try rfl) rfl ?_
      exact ⟨by rw [hu.out]; rfl, hVB⟩
    · rcases Int.lt_or_le (x.s.size : Int) a with hb0 | hb0
      · rw [if_neg (by simp [isErr]; omega), show min (max a 0) (x.s.size : Int) = x.s.size by omega] at hu
        replace hu := Lib.hid hu
        go_enter Try.func21, Try.ntmps21
        go_wp2_with fail
        refine named fun W hW => ?_
        have hB : Below w.heap.size w W := by rw [hW]; go_grown
        have hX : Blk W w.heap.size [.string s, .int .i64 at_, .int .i64 err, .int .i64 fat] := by
          rw [hW]; exact (Blk.is (us := [.string s, .int .i64 at_, .int .i64 err, .int .i64 fat]) _ rfl).alloc _
        have hR : Blk W (w.heap.size + 1) [.string ⟨#[]⟩, .int .i64 0, .int .i64 0, .int .i64 0] := by rw [hW]; exact Blk.is (us := [.string ⟨#[]⟩, .int .i64 0, .int .i64 0, .int .i64 0]) _ (by simp)
        clear hW
        refine (hopen _).mono ?_
        rintro e w1 ⟨rfl, hb⟩
        replace hX := hX.later hb
        replace hR := hR.later hb
        replace hB := bstep hB hb
        clear hb
        have x0 := hX.cell 0 _ rfl
        have x1 := hX.cell 1 _ rfl
        have x2 := hX.cell 2 _ rfl
        have x3 := hX.cell 3 _ rfl
        have xf0 := hX.fr 0 _ rfl
        have xf1 := hX.fr 1 _ rfl
        have xf2 := hX.fr 2 _ rfl
        have xf3 := hX.fr 3 _ rfl
        go_wp2_with fail
        refine named fun W2 hW => ?_
        replace hX : Blk W2 w.heap.size [.string (x).s, .int .i64 (x).u, .int .i64 (x).e, .int .i64 (x).a] := by rw [hW]; exact ((((hX.set 0 _).set 1 _).set 2 _).set 3 _)
        replace hR : Blk W2 (w.heap.size + 1) [.string ⟨#[]⟩, .int .i64 0, .int .i64 0, .int .i64 0] := by rw [hW]; exact ((((hR.other (by simp) _).other (by simp) _).other (by simp) _).other (by simp) _)
        replace hB : Below w.heap.size w W2 := by rw [hW]; exact ((((hB.setCell (p := ⟨w.heap.size, 0, none⟩) (Nat.le_refl _) _).setCell (p := ⟨w.heap.size, 1, none⟩) (Nat.le_refl _) _).setCell (p := ⟨w.heap.size, 2, none⟩) (Nat.le_refl _) _).setCell (p := ⟨w.heap.size, 3, none⟩) (Nat.le_refl _) _)
        clear hW
        clear x0 x1 x2 x3 xf0 xf1 xf2 xf3
        refine (hG 3 x.s.size _).mono ?_
        rintro e w3 ⟨rfl, hb⟩
        replace hX := hX.later hb
        replace hR := hR.later hb
        replace hB := bstep hB hb
        clear hb
        have r0 := hR.cell 0 _ rfl
        have r1 := hR.cell 1 _ rfl
        have r2 := hR.cell 2 _ rfl
        have r3 := hR.cell 3 _ rfl
        have rf0 := hR.fr 0 _ rfl
        have rf1 := hR.fr 1 _ rfl
        have rf2 := hR.fr 2 _ rfl
        have rf3 := hR.fr 3 _ rfl
        go_wp2
        refine named_post fun V hV => ?_
        have hVR : Blk V (w.heap.size + 1) [.string (x.failAt 3 x.s.size).s, .int .i64 (x.failAt 3 x.s.size).u, .int .i64 (x.failAt 3 x.s.size).e, .int .i64 (x.failAt 3 x.s.size).a] := by rw [hV]; exact ((((hR.set 0 _).set 1 _).set 2 _).set 3 _)
        have hVB : Below w.heap.size w V := by rw [hV]; exact ((((hB.setCell (p := ⟨w.heap.size + 1, 0, none⟩) (by simp) _).setCell (p := ⟨w.heap.size + 1, 1, none⟩) (by simp) _).setCell (p := ⟨w.heap.size + 1, 2, none⟩) (by simp) _).setCell (p := ⟨w.heap.size + 1, 3, none⟩) (by simp) _)
        clear hV r0 r1 r2 r3 rf0 rf1 rf2 rf3
        have c0 := hVR.cell 0 _ rfl
        have c1 := hVR.cell 1 _ rfl
        have c2 := hVR.cell 2 _ rfl
        have c3 := hVR.cell 3 _ rfl
        refine bodyPost_ret (by simp [results, Try.results21, go_sem, c0, c1, c2, c3]; try rfl) rfl ?_
        exact ⟨by rw [hu.out]; rfl, hVB⟩
      · rw [if_neg (by simp [isErr]; omega), show min (max a 0) (x.s.size : Int) = a by omega] at hu
        replace hu := Lib.hid hu
        go_enter Try.func21, Try.ntmps21
        go_wp2_with fail
        refine named fun W hW => ?_
        have hB : Below w.heap.size w W := by rw [hW]; go_grown
        have hX : Blk W w.heap.size [.string s, .int .i64 at_, .int .i64 err, .int .i64 fat] := by
          rw [hW]; exact (Blk.is (us := [.string s, .int .i64 at_, .int .i64 err, .int .i64 fat]) _ rfl).alloc _
        have hR : Blk W (w.heap.size + 1) [.string ⟨#[]⟩, .int .i64 0, .int .i64 0, .int .i64 0] := by rw [hW]; exact Blk.is (us := [.string ⟨#[]⟩, .int .i64 0, .int .i64 0, .int .i64 0]) _ (by simp)
        clear hW
        refine (hopen _).mono ?_
        rintro e w1 ⟨rfl, hb⟩
        replace hX := hX.later hb
        replace hR := hR.later hb
        replace hB := bstep hB hb
        clear hb
        have x0 := hX.cell 0 _ rfl
        have x1 := hX.cell 1 _ rfl
        have x2 := hX.cell 2 _ rfl
        have x3 := hX.cell 3 _ rfl
        have xf0 := hX.fr 0 _ rfl
        have xf1 := hX.fr 1 _ rfl
        have xf2 := hX.fr 2 _ rfl
        have xf3 := hX.fr 3 _ rfl
        go_wp2_with fail
        refine named fun W2 hW => ?_
        replace hX : Blk W2 w.heap.size [.string (x).s, .int .i64 (x).u, .int .i64 (x).e, .int .i64 (x).a] := by rw [hW]; exact ((((hX.set 0 _).set 1 _).set 2 _).set 3 _)
        replace hR : Blk W2 (w.heap.size + 1) [.string ⟨#[]⟩, .int .i64 0, .int .i64 0, .int .i64 0] := by rw [hW]; exact ((((hR.other (by simp) _).other (by simp) _).other (by simp) _).other (by simp) _)
        replace hB : Below w.heap.size w W2 := by rw [hW]; exact ((((hB.setCell (p := ⟨w.heap.size, 0, none⟩) (Nat.le_refl _) _).setCell (p := ⟨w.heap.size, 1, none⟩) (Nat.le_refl _) _).setCell (p := ⟨w.heap.size, 2, none⟩) (Nat.le_refl _) _).setCell (p := ⟨w.heap.size, 3, none⟩) (Nat.le_refl _) _)
        clear hW
        clear x0 x1 x2 x3 xf0 xf1 xf2 xf3
        refine (hG 3 a _).mono ?_
        rintro e w3 ⟨rfl, hb⟩
        replace hX := hX.later hb
        replace hR := hR.later hb
        replace hB := bstep hB hb
        clear hb
        have r0 := hR.cell 0 _ rfl
        have r1 := hR.cell 1 _ rfl
        have r2 := hR.cell 2 _ rfl
        have r3 := hR.cell 3 _ rfl
        have rf0 := hR.fr 0 _ rfl
        have rf1 := hR.fr 1 _ rfl
        have rf2 := hR.fr 2 _ rfl
        have rf3 := hR.fr 3 _ rfl
        go_wp2
        refine named_post fun V hV => ?_
        have hVR : Blk V (w.heap.size + 1) [.string (x.failAt 3 a).s, .int .i64 (x.failAt 3 a).u, .int .i64 (x.failAt 3 a).e, .int .i64 (x.failAt 3 a).a] := by rw [hV]; exact ((((hR.set 0 _).set 1 _).set 2 _).set 3 _)
        have hVB : Below w.heap.size w V := by rw [hV]; exact ((((hB.setCell (p := ⟨w.heap.size + 1, 0, none⟩) (by simp) _).setCell (p := ⟨w.heap.size + 1, 1, none⟩) (by simp) _).setCell (p := ⟨w.heap.size + 1, 2, none⟩) (by simp) _).setCell (p := ⟨w.heap.size + 1, 3, none⟩) (by simp) _)
        clear hV r0 r1 r2 r3 rf0 rf1 rf2 rf3
        have c0 := hVR.cell 0 _ rfl
        have c1 := hVR.cell 1 _ rfl
        have c2 := hVR.cell 2 _ rfl
        have c3 := hVR.cell 3 _ rfl
        refine bodyPost_ret (by simp [results, Try.results21, go_sem, c0, c1, c2, c3]; try rfl) rfl ?_
        exact ⟨by rw [hu.out]; rfl, hVB⟩
  · rcases Int.lt_or_le a 0 with ha | ha
    · rw [if_neg (by simp [isErr]; omega), show min (max a 0) (x.s.size : Int) = 0 by omega] at hu
      replace hu := Lib.hid hu
      go_enter Try.func21, Try.ntmps21
      go_wp2_with fail
      refine named fun W hW => ?_
      have hB : Below w.heap.size w W := by rw [hW]; go_grown
      have hX : Blk W w.heap.size [.string s, .int .i64 at_, .int .i64 err, .int .i64 fat] := by
        rw [hW]; exact (Blk.is (us := [.string s, .int .i64 at_, .int .i64 err, .int .i64 fat]) _ rfl).alloc _
      have hR : Blk W (w.heap.size + 1) [.string ⟨#[]⟩, .int .i64 0, .int .i64 0, .int .i64 0] := by rw [hW]; exact Blk.is (us := [.string ⟨#[]⟩, .int .i64 0, .int .i64 0, .int .i64 0]) _ (by simp)
      clear hW
      refine (hopen _).mono ?_
      rintro e w1 ⟨rfl, hb⟩
      replace hX := hX.later hb
      replace hR := hR.later hb
      replace hB := bstep hB hb
      clear hb
      have x0 := hX.cell 0 _ rfl
      have x1 := hX.cell 1 _ rfl
      have x2 := hX.cell 2 _ rfl
      have x3 := hX.cell 3 _ rfl
      have xf0 := hX.fr 0 _ rfl
      have xf1 := hX.fr 1 _ rfl
      have xf2 := hX.fr 2 _ rfl
      have xf3 := hX.fr 3 _ rfl
      go_wp2_with fail
      refine named fun W2 hW => ?_
      replace hX : Blk W2 w.heap.size [.string (x).s, .int .i64 (x).u, .int .i64 (x).e, .int .i64 (x).a] := by rw [hW]; exact ((((hX.set 0 _).set 1 _).set 2 _).set 3 _)
      replace hR : Blk W2 (w.heap.size + 1) [.string ⟨#[]⟩, .int .i64 0, .int .i64 0, .int .i64 0] := by rw [hW]; exact ((((hR.other (by simp) _).other (by simp) _).other (by simp) _).other (by simp) _)
      replace hB : Below w.heap.size w W2 := by rw [hW]; exact ((((hB.setCell (p := ⟨w.heap.size, 0, none⟩) (Nat.le_refl _) _).setCell (p := ⟨w.heap.size, 1, none⟩) (Nat.le_refl _) _).setCell (p := ⟨w.heap.size, 2, none⟩) (Nat.le_refl _) _).setCell (p := ⟨w.heap.size, 3, none⟩) (Nat.le_refl _) _)
      clear hW
      clear x0 x1 x2 x3 xf0 xf1 xf2 xf3
      refine (hG 3 0 _).mono ?_
      rintro e w3 ⟨rfl, hb⟩
      replace hX := hX.later hb
      replace hR := hR.later hb
      replace hB := bstep hB hb
      clear hb
      have r0 := hR.cell 0 _ rfl
      have r1 := hR.cell 1 _ rfl
      have r2 := hR.cell 2 _ rfl
      have r3 := hR.cell 3 _ rfl
      have rf0 := hR.fr 0 _ rfl
      have rf1 := hR.fr 1 _ rfl
      have rf2 := hR.fr 2 _ rfl
      have rf3 := hR.fr 3 _ rfl
      go_wp2
      refine named_post fun V hV => ?_
      have hVR : Blk V (w.heap.size + 1) [.string (x.failAt 3 0).s, .int .i64 (x.failAt 3 0).u, .int .i64 (x.failAt 3 0).e, .int .i64 (x.failAt 3 0).a] := by rw [hV]; exact ((((hR.set 0 _).set 1 _).set 2 _).set 3 _)
      have hVB : Below w.heap.size w V := by rw [hV]; exact ((((hB.setCell (p := ⟨w.heap.size + 1, 0, none⟩) (by simp) _).setCell (p := ⟨w.heap.size + 1, 1, none⟩) (by simp) _).setCell (p := ⟨w.heap.size + 1, 2, none⟩) (by simp) _).setCell (p := ⟨w.heap.size + 1, 3, none⟩) (by simp) _)
      clear hV r0 r1 r2 r3 rf0 rf1 rf2 rf3
      have c0 := hVR.cell 0 _ rfl
      have c1 := hVR.cell 1 _ rfl
      have c2 := hVR.cell 2 _ rfl
      have c3 := hVR.cell 3 _ rfl
      refine bodyPost_ret (by simp [results, Try.results21, go_sem, c0, c1, c2, c3]; try rfl) rfl ?_
      exact ⟨by rw [hu.out]; rfl, hVB⟩
    · rcases Int.lt_or_le (x.s.size : Int) a with hb0 | hb0
      · rw [if_neg (by simp [isErr]; omega), show min (max a 0) (x.s.size : Int) = x.s.size by omega] at hu
        replace hu := Lib.hid hu
        go_enter Try.func21, Try.ntmps21
        go_wp2_with fail
        refine named fun W hW => ?_
        have hB : Below w.heap.size w W := by rw [hW]; go_grown
        have hX : Blk W w.heap.size [.string s, .int .i64 at_, .int .i64 err, .int .i64 fat] := by
          rw [hW]; exact (Blk.is (us := [.string s, .int .i64 at_, .int .i64 err, .int .i64 fat]) _ rfl).alloc _
        have hR : Blk W (w.heap.size + 1) [.string ⟨#[]⟩, .int .i64 0, .int .i64 0, .int .i64 0] := by rw [hW]; exact Blk.is (us := [.string ⟨#[]⟩, .int .i64 0, .int .i64 0, .int .i64 0]) _ (by simp)
        clear hW
        refine (hopen _).mono ?_
        rintro e w1 ⟨rfl, hb⟩
        replace hX := hX.later hb
        replace hR := hR.later hb
        replace hB := bstep hB hb
        clear hb
        have x0 := hX.cell 0 _ rfl
        have x1 := hX.cell 1 _ rfl
        have x2 := hX.cell 2 _ rfl
        have x3 := hX.cell 3 _ rfl
        have xf0 := hX.fr 0 _ rfl
        have xf1 := hX.fr 1 _ rfl
        have xf2 := hX.fr 2 _ rfl
        have xf3 := hX.fr 3 _ rfl
        go_wp2_with fail
        refine named fun W2 hW => ?_
        replace hX : Blk W2 w.heap.size [.string (x).s, .int .i64 (x).u, .int .i64 (x).e, .int .i64 (x).a] := by rw [hW]; exact ((((hX.set 0 _).set 1 _).set 2 _).set 3 _)
        replace hR : Blk W2 (w.heap.size + 1) [.string ⟨#[]⟩, .int .i64 0, .int .i64 0, .int .i64 0] := by rw [hW]; exact ((((hR.other (by simp) _).other (by simp) _).other (by simp) _).other (by simp) _)
        replace hB : Below w.heap.size w W2 := by rw [hW]; exact ((((hB.setCell (p := ⟨w.heap.size, 0, none⟩) (Nat.le_refl _) _).setCell (p := ⟨w.heap.size, 1, none⟩) (Nat.le_refl _) _).setCell (p := ⟨w.heap.size, 2, none⟩) (Nat.le_refl _) _).setCell (p := ⟨w.heap.size, 3, none⟩) (Nat.le_refl _) _)
        clear hW
        clear x0 x1 x2 x3 xf0 xf1 xf2 xf3
        refine (hG 3 x.s.size _).mono ?_
        rintro e w3 ⟨rfl, hb⟩
        replace hX := hX.later hb
        replace hR := hR.later hb
        replace hB := bstep hB hb
        clear hb
        have r0 := hR.cell 0 _ rfl
        have r1 := hR.cell 1 _ rfl
        have r2 := hR.cell 2 _ rfl
        have r3 := hR.cell 3 _ rfl
        have rf0 := hR.fr 0 _ rfl
        have rf1 := hR.fr 1 _ rfl
        have rf2 := hR.fr 2 _ rfl
        have rf3 := hR.fr 3 _ rfl
        go_wp2
        refine named_post fun V hV => ?_
        have hVR : Blk V (w.heap.size + 1) [.string (x.failAt 3 x.s.size).s, .int .i64 (x.failAt 3 x.s.size).u, .int .i64 (x.failAt 3 x.s.size).e, .int .i64 (x.failAt 3 x.s.size).a] := by rw [hV]; exact ((((hR.set 0 _).set 1 _).set 2 _).set 3 _)
        have hVB : Below w.heap.size w V := by rw [hV]; exact ((((hB.setCell (p := ⟨w.heap.size + 1, 0, none⟩) (by simp) _).setCell (p := ⟨w.heap.size + 1, 1, none⟩) (by simp) _).setCell (p := ⟨w.heap.size + 1, 2, none⟩) (by simp) _).setCell (p := ⟨w.heap.size + 1, 3, none⟩) (by simp) _)
        clear hV r0 r1 r2 r3 rf0 rf1 rf2 rf3
        have c0 := hVR.cell 0 _ rfl
        have c1 := hVR.cell 1 _ rfl
        have c2 := hVR.cell 2 _ rfl
        have c3 := hVR.cell 3 _ rfl
        refine bodyPost_ret (by simp [results, Try.results21, go_sem, c0, c1, c2, c3]; try rfl) rfl ?_
        exact ⟨by rw [hu.out]; rfl, hVB⟩
      · rw [if_neg (by simp [isErr]; omega), show min (max a 0) (x.s.size : Int) = a by omega] at hu
        replace hu := Lib.hid hu
        go_enter Try.func21, Try.ntmps21
        go_wp2_with fail
        refine named fun W hW => ?_
        have hB : Below w.heap.size w W := by rw [hW]; go_grown
        have hX : Blk W w.heap.size [.string s, .int .i64 at_, .int .i64 err, .int .i64 fat] := by
          rw [hW]; exact (Blk.is (us := [.string s, .int .i64 at_, .int .i64 err, .int .i64 fat]) _ rfl).alloc _
        have hR : Blk W (w.heap.size + 1) [.string ⟨#[]⟩, .int .i64 0, .int .i64 0, .int .i64 0] := by rw [hW]; exact Blk.is (us := [.string ⟨#[]⟩, .int .i64 0, .int .i64 0, .int .i64 0]) _ (by simp)
        clear hW
        refine (hopen _).mono ?_
        rintro e w1 ⟨rfl, hb⟩
        replace hX := hX.later hb
        replace hR := hR.later hb
        replace hB := bstep hB hb
        clear hb
        have x0 := hX.cell 0 _ rfl
        have x1 := hX.cell 1 _ rfl
        have x2 := hX.cell 2 _ rfl
        have x3 := hX.cell 3 _ rfl
        have xf0 := hX.fr 0 _ rfl
        have xf1 := hX.fr 1 _ rfl
        have xf2 := hX.fr 2 _ rfl
        have xf3 := hX.fr 3 _ rfl
        go_wp2_with fail
        refine named fun W2 hW => ?_
        replace hX : Blk W2 w.heap.size [.string (x).s, .int .i64 (x).u, .int .i64 (x).e, .int .i64 (x).a] := by rw [hW]; exact ((((hX.set 0 _).set 1 _).set 2 _).set 3 _)
        replace hR : Blk W2 (w.heap.size + 1) [.string ⟨#[]⟩, .int .i64 0, .int .i64 0, .int .i64 0] := by rw [hW]; exact ((((hR.other (by simp) _).other (by simp) _).other (by simp) _).other (by simp) _)
        replace hB : Below w.heap.size w W2 := by rw [hW]; exact ((((hB.setCell (p := ⟨w.heap.size, 0, none⟩) (Nat.le_refl _) _).setCell (p := ⟨w.heap.size, 1, none⟩) (Nat.le_refl _) _).setCell (p := ⟨w.heap.size, 2, none⟩) (Nat.le_refl _) _).setCell (p := ⟨w.heap.size, 3, none⟩) (Nat.le_refl _) _)
        clear hW
        clear x0 x1 x2 x3 xf0 xf1 xf2 xf3
        refine (hG 3 a _).mono ?_
        rintro e w3 ⟨rfl, hb⟩
        replace hX := hX.later hb
        replace hR := hR.later hb
        replace hB := bstep hB hb
        clear hb
        have r0 := hR.cell 0 _ rfl
        have r1 := hR.cell 1 _ rfl
        have r2 := hR.cell 2 _ rfl
        have r3 := hR.cell 3 _ rfl
        have rf0 := hR.fr 0 _ rfl
        have rf1 := hR.fr 1 _ rfl
        have rf2 := hR.fr 2 _ rfl
        have rf3 := hR.fr 3 _ rfl
        go_wp2
        refine named_post fun V hV => ?_
        have hVR : Blk V (w.heap.size + 1) [.string (x.failAt 3 a).s, .int .i64 (x.failAt 3 a).u, .int .i64 (x.failAt 3 a).e, .int .i64 (x.failAt 3 a).a] := by rw [hV]; exact ((((hR.set 0 _).set 1 _).set 2 _).set 3 _)
        have hVB : Below w.heap.size w V := by rw [hV]; exact ((((hB.setCell (p := ⟨w.heap.size + 1, 0, none⟩) (by simp) _).setCell (p := ⟨w.heap.size + 1, 1, none⟩) (by simp) _).setCell (p := ⟨w.heap.size + 1, 2, none⟩) (by simp) _).setCell (p := ⟨w.heap.size + 1, 3, none⟩) (by simp) _)
        clear hV r0 r1 r2 r3 rf0 rf1 rf2 rf3
        have c0 := hVR.cell 0 _ rfl
        have c1 := hVR.cell 1 _ rfl
        have c2 := hVR.cell 2 _ rfl
        have c3 := hVR.cell 3 _ rfl
        refine bodyPost_ret (by simp [results, Try.results21, go_sem, c0, c1, c2, c3]; try rfl) rfl ?_
        exact ⟨by rw [hu.out]; rfl, hVB⟩
  · rcases Int.lt_or_le a 0 with ha | ha
    · rw [if_pos (by simp [isErr]; omega), show min (max a 0) (x.s.size : Int) = 0 by omega] at hu
      replace hu := Lib.hid hu
      go_enter Try.func21, Try.ntmps21
      go_wp2_with fail
      refine named fun W hW => ?_
      have hB : Below w.heap.size w W := by rw [hW]; go_grown
      have hX : Blk W w.heap.size [.string s, .int .i64 at_, .int .i64 err, .int .i64 fat] := by
        rw [hW]; exact (Blk.is (us := [.string s, .int .i64 at_, .int .i64 err, .int .i64 fat]) _ rfl).alloc _
      have hR : Blk W (w.heap.size + 1) [.string ⟨#[]⟩, .int .i64 0, .int .i64 0, .int .i64 0] := by rw [hW]; exact Blk.is (us := [.string ⟨#[]⟩, .int .i64 0, .int .i64 0, .int .i64 0]) _ (by simp)
      clear hW
      refine (hopen _).mono ?_
      rintro e w1 ⟨rfl, hb⟩
      replace hX := hX.later hb
      replace hR := hR.later hb
      replace hB := bstep hB hb
      clear hb
      have x0 := hX.cell 0 _ rfl
      have x1 := hX.cell 1 _ rfl
      have x2 := hX.cell 2 _ rfl
      have x3 := hX.cell 3 _ rfl
      have xf0 := hX.fr 0 _ rfl
      have xf1 := hX.fr 1 _ rfl
      have xf2 := hX.fr 2 _ rfl
      have xf3 := hX.fr 3 _ rfl
      go_wp2_with fail
      refine named fun W2 hW => ?_
      replace hX : Blk W2 w.heap.size [.string (x).s, .int .i64 (x).u, .int .i64 (x).e, .int .i64 (x).a] := by rw [hW]; exact ((((hX.set 0 _).set 1 _).set 2 _).set 3 _)
      replace hR : Blk W2 (w.heap.size + 1) [.string ⟨#[]⟩, .int .i64 0, .int .i64 0, .int .i64 0] := by rw [hW]; exact ((((hR.other (by simp) _).other (by simp) _).other (by simp) _).other (by simp) _)
      replace hB : Below w.heap.size w W2 := by rw [hW]; exact ((((hB.setCell (p := ⟨w.heap.size, 0, none⟩) (Nat.le_refl _) _).setCell (p := ⟨w.heap.size, 1, none⟩) (Nat.le_refl _) _).setCell (p := ⟨w.heap.size, 2, none⟩) (Nat.le_refl _) _).setCell (p := ⟨w.heap.size, 3, none⟩) (Nat.le_refl _) _)
      clear hW
      clear x0 x1 x2 x3 xf0 xf1 xf2 xf3
      refine (hG er 0 _).mono ?_
      rintro e w3 ⟨rfl, hb⟩
      replace hX := hX.later hb
      replace hR := hR.later hb
      replace hB := bstep hB hb
      clear hb
      have r0 := hR.cell 0 _ rfl
      have r1 := hR.cell 1 _ rfl
      have r2 := hR.cell 2 _ rfl
      have r3 := hR.cell 3 _ rfl
      have rf0 := hR.fr 0 _ rfl
      have rf1 := hR.fr 1 _ rfl
      have rf2 := hR.fr 2 _ rfl
      have rf3 := hR.fr 3 _ rfl
      go_wp2
      refine named_post fun V hV => ?_
      have hVR : Blk V (w.heap.size + 1) [.string (x.failAt er 0).s, .int .i64 (x.failAt er 0).u, .int .i64 (x.failAt er 0).e, .int .i64 (x.failAt er 0).a] := by rw [hV]; exact ((((hR.set 0 _).set 1 _).set 2 _).set 3 _)
      have hVB : Below w.heap.size w V := by rw [hV]; exact ((((hB.setCell (p := ⟨w.heap.size + 1, 0, none⟩) (by simp) _).setCell (p := ⟨w.heap.size + 1, 1, none⟩) (by simp) _).setCell (p := ⟨w.heap.size + 1, 2, none⟩) (by simp) _).setCell (p := ⟨w.heap.size + 1, 3, none⟩) (by simp) _)
      clear hV r0 r1 r2 r3 rf0 rf1 rf2 rf3
      have c0 := hVR.cell 0 _ rfl
      have c1 := hVR.cell 1 _ rfl
      have c2 := hVR.cell 2 _ rfl
      have c3 := hVR.cell 3 _ rfl
      refine bodyPost_ret (by simp [results, Try.results21, go_sem, c0, c1, c2, c3]; try rfl) rfl ?_
      exact ⟨by rw [hu.out]; rfl, hVB⟩
    · rcases Int.lt_or_le (x.s.size : Int) a with hb0 | hb0
      · rw [if_pos (by simp [isErr]; omega), show min (max a 0) (x.s.size : Int) = x.s.size by omega] at hu
        replace hu := Lib.hid hu
        go_enter Try.func21, Try.ntmps21
        go_wp2_with fail
        refine named fun W hW => ?_
        have hB : Below w.heap.size w W := by rw [hW]; go_grown
        have hX : Blk W w.heap.size [.string s, .int .i64 at_, .int .i64 err, .int .i64 fat] := by
          rw [hW]; exact (Blk.is (us := [.string s, .int .i64 at_, .int .i64 err, .int .i64 fat]) _ rfl).alloc _
        have hR : Blk W (w.heap.size + 1) [.string ⟨#[]⟩, .int .i64 0, .int .i64 0, .int .i64 0] := by rw [hW]; exact Blk.is (us := [.string ⟨#[]⟩, .int .i64 0, .int .i64 0, .int .i64 0]) _ (by simp)
        clear hW
        refine (hopen _).mono ?_
        rintro e w1 ⟨rfl, hb⟩
        replace hX := hX.later hb
        replace hR := hR.later hb
        replace hB := bstep hB hb
        clear hb
        have x0 := hX.cell 0 _ rfl
        have x1 := hX.cell 1 _ rfl
        have x2 := hX.cell 2 _ rfl
        have x3 := hX.cell 3 _ rfl
        have xf0 := hX.fr 0 _ rfl
        have xf1 := hX.fr 1 _ rfl
        have xf2 := hX.fr 2 _ rfl
        have xf3 := hX.fr 3 _ rfl
        go_wp2_with fail
        refine named fun W2 hW => ?_
        replace hX : Blk W2 w.heap.size [.string (x).s, .int .i64 (x).u, .int .i64 (x).e, .int .i64 (x).a] := by rw [hW]; exact ((((hX.set 0 _).set 1 _).set 2 _).set 3 _)
        replace hR : Blk W2 (w.heap.size + 1) [.string ⟨#[]⟩, .int .i64 0, .int .i64 0, .int .i64 0] := by rw [hW]; exact ((((hR.other (by simp) _).other (by simp) _).other (by simp) _).other (by simp) _)
        replace hB : Below w.heap.size w W2 := by rw [hW]; exact ((((hB.setCell (p := ⟨w.heap.size, 0, none⟩) (Nat.le_refl _) _).setCell (p := ⟨w.heap.size, 1, none⟩) (Nat.le_refl _) _).setCell (p := ⟨w.heap.size, 2, none⟩) (Nat.le_refl _) _).setCell (p := ⟨w.heap.size, 3, none⟩) (Nat.le_refl _) _)
        clear hW
        clear x0 x1 x2 x3 xf0 xf1 xf2 xf3
        refine (hG er x.s.size _).mono ?_
        rintro e w3 ⟨rfl, hb⟩
        replace hX := hX.later hb
        replace hR := hR.later hb
        replace hB := bstep hB hb
        clear hb
        have r0 := hR.cell 0 _ rfl
        have r1 := hR.cell 1 _ rfl
        have r2 := hR.cell 2 _ rfl
        have r3 := hR.cell 3 _ rfl
        have rf0 := hR.fr 0 _ rfl
        have rf1 := hR.fr 1 _ rfl
        have rf2 := hR.fr 2 _ rfl
        have rf3 := hR.fr 3 _ rfl
        go_wp2
        refine named_post fun V hV => ?_
        have hVR : Blk V (w.heap.size + 1) [.string (x.failAt er x.s.size).s, .int .i64 (x.failAt er x.s.size).u, .int .i64 (x.failAt er x.s.size).e, .int .i64 (x.failAt er x.s.size).a] := by rw [hV]; exact ((((hR.set 0 _).set 1 _).set 2 _).set 3 _)
        have hVB : Below w.heap.size w V := by rw [hV]; exact ((((hB.setCell (p := ⟨w.heap.size + 1, 0, none⟩) (by simp) _).setCell (p := ⟨w.heap.size + 1, 1, none⟩) (by simp) _).setCell (p := ⟨w.heap.size + 1, 2, none⟩) (by simp) _).setCell (p := ⟨w.heap.size + 1, 3, none⟩) (by simp) _)
        clear hV r0 r1 r2 r3 rf0 rf1 rf2 rf3
        have c0 := hVR.cell 0 _ rfl
        have c1 := hVR.cell 1 _ rfl
        have c2 := hVR.cell 2 _ rfl
        have c3 := hVR.cell 3 _ rfl
        refine bodyPost_ret (by simp [results, Try.results21, go_sem, c0, c1, c2, c3]; try rfl) rfl ?_
        exact ⟨by rw [hu.out]; rfl, hVB⟩
      · rw [if_pos (by simp [isErr]; omega), show min (max a 0) (x.s.size : Int) = a by omega] at hu
        replace hu := Lib.hid hu
        go_enter Try.func21, Try.ntmps21
        go_wp2_with fail
        refine named fun W hW => ?_
        have hB : Below w.heap.size w W := by rw [hW]; go_grown
        have hX : Blk W w.heap.size [.string s, .int .i64 at_, .int .i64 err, .int .i64 fat] := by
          rw [hW]; exact (Blk.is (us := [.string s, .int .i64 at_, .int .i64 err, .int .i64 fat]) _ rfl).alloc _
        have hR : Blk W (w.heap.size + 1) [.string ⟨#[]⟩, .int .i64 0, .int .i64 0, .int .i64 0] := by rw [hW]; exact Blk.is (us := [.string ⟨#[]⟩, .int .i64 0, .int .i64 0, .int .i64 0]) _ (by simp)
        clear hW
        refine (hopen _).mono ?_
        rintro e w1 ⟨rfl, hb⟩
        replace hX := hX.later hb
        replace hR := hR.later hb
        replace hB := bstep hB hb
        clear hb
        have x0 := hX.cell 0 _ rfl
        have x1 := hX.cell 1 _ rfl
        have x2 := hX.cell 2 _ rfl
        have x3 := hX.cell 3 _ rfl
        have xf0 := hX.fr 0 _ rfl
        have xf1 := hX.fr 1 _ rfl
        have xf2 := hX.fr 2 _ rfl
        have xf3 := hX.fr 3 _ rfl
        go_wp2_with fail
        refine named fun W2 hW => ?_
        replace hX : Blk W2 w.heap.size [.string (x).s, .int .i64 (x).u, .int .i64 (x).e, .int .i64 (x).a] := by rw [hW]; exact ((((hX.set 0 _).set 1 _).set 2 _).set 3 _)
        replace hR : Blk W2 (w.heap.size + 1) [.string ⟨#[]⟩, .int .i64 0, .int .i64 0, .int .i64 0] := by rw [hW]; exact ((((hR.other (by simp) _).other (by simp) _).other (by simp) _).other (by simp) _)
        replace hB : Below w.heap.size w W2 := by rw [hW]; exact ((((hB.setCell (p := ⟨w.heap.size, 0, none⟩) (Nat.le_refl _) _).setCell (p := ⟨w.heap.size, 1, none⟩) (Nat.le_refl _) _).setCell (p := ⟨w.heap.size, 2, none⟩) (Nat.le_refl _) _).setCell (p := ⟨w.heap.size, 3, none⟩) (Nat.le_refl _) _)
        clear hW
        clear x0 x1 x2 x3 xf0 xf1 xf2 xf3
        refine (hG er a _).mono ?_
        rintro e w3 ⟨rfl, hb⟩
        replace hX := hX.later hb
        replace hR := hR.later hb
        replace hB := bstep hB hb
        clear hb
        have r0 := hR.cell 0 _ rfl
        have r1 := hR.cell 1 _ rfl
        have r2 := hR.cell 2 _ rfl
        have r3 := hR.cell 3 _ rfl
        have rf0 := hR.fr 0 _ rfl
        have rf1 := hR.fr 1 _ rfl
        have rf2 := hR.fr 2 _ rfl
        have rf3 := hR.fr 3 _ rfl
        go_wp2
        refine named_post fun V hV => ?_
        have hVR : Blk V (w.heap.size + 1) [.string (x.failAt er a).s, .int .i64 (x.failAt er a).u, .int .i64 (x.failAt er a).e, .int .i64 (x.failAt er a).a] := by rw [hV]; exact ((((hR.set 0 _).set 1 _).set 2 _).set 3 _)
        have hVB : Below w.heap.size w V := by rw [hV]; exact ((((hB.setCell (p := ⟨w.heap.size + 1, 0, none⟩) (by simp) _).setCell (p := ⟨w.heap.size + 1, 1, none⟩) (by simp) _).setCell (p := ⟨w.heap.size + 1, 2, none⟩) (by simp) _).setCell (p := ⟨w.heap.size + 1, 3, none⟩) (by simp) _)
        clear hV r0 r1 r2 r3 rf0 rf1 rf2 rf3
        have c0 := hVR.cell 0 _ rfl
        have c1 := hVR.cell 1 _ rfl
        have c2 := hVR.cell 2 _ rfl
        have c3 := hVR.cell 3 _ rfl
        refine bodyPost_ret (by simp [results, Try.results21, go_sem, c0, c1, c2, c3]; try rfl) rfl ?_
        exact ⟨by rw [hu.out]; rfl, hVB⟩
set_option maxHeartbeats 2000000 in
theorem refEnd_any (r : Rd) (w : World) (hs : r.s.size ≤ 9223372036854775807) :
    Calls Try.prog 23 #[r.val] w fun e w' => e = .returned (.agg #[.int .i64 (endR r).e, .int .i64 (endR r).a]) ∧ Below w.heap.size w w' := by
  have hk := opened_ok r
  have hm := opened_m r
  have hs' := Nat.le_trans (opened_s r) hs
  have hopen := refReader_any r
  obtain ⟨s, at_, err, fat⟩ := r
  obtain ⟨x, hx⟩ : ∃ x, x = Rd.opened ⟨s, at_, err, fat⟩ := ⟨_, rfl⟩
  have hu := (show endR ⟨s, at_, err, fat⟩ = if x.u < x.m then x.failAt 4 x.u else x by rw [hx]; rfl)
  rw [← hx] at hk hm hs' hopen
  clear hx
  have hu0 := hk.u0
  have hum : x.u ≤ x.s.size := by have := hk.um; omega
  have hF : ∀ q w, Calls Try.prog 50 #[(.agg #[.string (x).s, .int .i64 (x).u, .int .i64 (x).e, .int .i64 (x).a]), .int .i64 q, .int .i64 x.u] w fun e w' => e = .returned (.agg #[.string (x.failAt q x.u).s, .int .i64 (x.failAt q x.u).u, .int .i64 (x.failAt q x.u).e, .int .i64 (x.failAt q x.u).a]) ∧ Below w.heap.size w w' := fun q w => by
    have := refFail_any x.given q x.u w
    rw [fail_given] at this
    exact this
  have hT : ∀ n w, 0 ≤ n → n ≤ 9223372036854775807 → Calls Try.prog 51 #[(.agg #[.string (x).s, .int .i64 (x).u, .int .i64 (x).e, .int .i64 (x).a]), .int .i64 n] w fun e w' => e = .returned (.tuple #[(.agg #[.string ((x.take n).1).s, .int .i64 ((x.take n).1).u, .int .i64 ((x.take n).1).e, .int .i64 ((x.take n).1).a]), .string (x.take n).2]) ∧ Below w.heap.size w w' := fun n w h0 h1 => by
    have := refTake_any x.given n w hu0 hum hs' h0 h1
    rw [take_given x hm] at this
    exact this
  replace hm := Lib.hid hm
  simp only [Rd.val, Sp.given] at hopen ⊢
  rw [hm.out] at hu
  by_cases hneg : x.u < x.s.size
  · rw [if_pos hneg] at hu
    replace hu := Lib.hid hu
    go_enter Try.func23, Try.ntmps23
    go_wp2_with fail
    refine named fun W hW => ?_
    have hB : Below w.heap.size w W := by rw [hW]; go_grown
    have hX : Blk W w.heap.size [.string s, .int .i64 at_, .int .i64 err, .int .i64 fat] := by
      rw [hW]; exact (Blk.is (us := [.string s, .int .i64 at_, .int .i64 err, .int .i64 fat]) _ rfl).alloc _
    have hR : Blk W (w.heap.size + 1) [.int .i64 0, .int .i64 0] := by rw [hW]; exact Blk.is (us := [.int .i64 0, .int .i64 0]) _ (by simp)
    clear hW
    refine (hopen _).mono ?_
    rintro e w1 ⟨rfl, hb⟩
    replace hX := hX.later hb
    replace hR := hR.later hb
    replace hB := bstep hB hb
    clear hb
    have x0 := hX.cell 0 _ rfl
    have x1 := hX.cell 1 _ rfl
    have x2 := hX.cell 2 _ rfl
    have x3 := hX.cell 3 _ rfl
    have xf0 := hX.fr 0 _ rfl
    have xf1 := hX.fr 1 _ rfl
    have xf2 := hX.fr 2 _ rfl
    have xf3 := hX.fr 3 _ rfl
    go_wp2_with fail
    refine named fun W2 hW => ?_
    replace hX : Blk W2 w.heap.size [.string (x).s, .int .i64 (x).u, .int .i64 (x).e, .int .i64 (x).a] := by rw [hW]; exact ((((hX.set 0 _).set 1 _).set 2 _).set 3 _)
    replace hR : Blk W2 (w.heap.size + 1) [.int .i64 0, .int .i64 0] := by rw [hW]; exact ((((hR.other (by simp) _).other (by simp) _).other (by simp) _).other (by simp) _)
    replace hB : Below w.heap.size w W2 := by rw [hW]; exact ((((hB.setCell (p := ⟨w.heap.size, 0, none⟩) (Nat.le_refl _) _).setCell (p := ⟨w.heap.size, 1, none⟩) (Nat.le_refl _) _).setCell (p := ⟨w.heap.size, 2, none⟩) (Nat.le_refl _) _).setCell (p := ⟨w.heap.size, 3, none⟩) (Nat.le_refl _) _)
    clear hW
    clear x0 x1 x2 x3 xf0 xf1 xf2 xf3
    refine (hF 4 _).mono ?_
    rintro e w3 ⟨rfl, hb⟩
    replace hX := hX.later hb
    replace hR := hR.later hb
    replace hB := bstep hB hb
    clear hb
    have x0 := hX.cell 0 _ rfl
    have x1 := hX.cell 1 _ rfl
    have x2 := hX.cell 2 _ rfl
    have x3 := hX.cell 3 _ rfl
    have xf0 := hX.fr 0 _ rfl
    have xf1 := hX.fr 1 _ rfl
    have xf2 := hX.fr 2 _ rfl
    have xf3 := hX.fr 3 _ rfl
    have r0 := hR.cell 0 _ rfl
    have r1 := hR.cell 1 _ rfl
    have rf0 := hR.fr 0 _ rfl
    have rf1 := hR.fr 1 _ rfl
    go_wp2
    refine named_post fun V hV => ?_
    have hVR : Blk V (w.heap.size + 1) [.int .i64 (x.failAt 4 x.u).e, .int .i64 (x.failAt 4 x.u).a] := by rw [hV]; exact ((((((hR.other (by simp) _).other (by simp) _).other (by simp) _).other (by simp) _).set 0 _).set 1 _)
    have hVB : Below w.heap.size w V := by rw [hV]; exact ((((((hB.setCell (p := ⟨w.heap.size, 0, none⟩) (Nat.le_refl _) _).setCell (p := ⟨w.heap.size, 1, none⟩) (Nat.le_refl _) _).setCell (p := ⟨w.heap.size, 2, none⟩) (Nat.le_refl _) _).setCell (p := ⟨w.heap.size, 3, none⟩) (Nat.le_refl _) _).setCell (p := ⟨w.heap.size + 1, 0, none⟩) (by simp) _).setCell (p := ⟨w.heap.size + 1, 1, none⟩) (by simp) _)
    clear hV x0 x1 x2 x3 xf0 xf1 xf2 xf3 r0 r1 rf0 rf1
    have c0 := hVR.cell 0 _ rfl
    have c1 := hVR.cell 1 _ rfl
    refine bodyPost_ret (by simp [results, Try.results23, go_sem, c0, c1]; try rfl) rfl ?_
    exact ⟨by rw [hu.out]; try rfl, hVB⟩
  · rw [if_neg hneg] at hu
    replace hu := Lib.hid hu
    go_enter Try.func23, Try.ntmps23
    go_wp2_with fail
    refine named fun W hW => ?_
    have hB : Below w.heap.size w W := by rw [hW]; go_grown
    have hX : Blk W w.heap.size [.string s, .int .i64 at_, .int .i64 err, .int .i64 fat] := by
      rw [hW]; exact (Blk.is (us := [.string s, .int .i64 at_, .int .i64 err, .int .i64 fat]) _ rfl).alloc _
    have hR : Blk W (w.heap.size + 1) [.int .i64 0, .int .i64 0] := by rw [hW]; exact Blk.is (us := [.int .i64 0, .int .i64 0]) _ (by simp)
    clear hW
    refine (hopen _).mono ?_
    rintro e w1 ⟨rfl, hb⟩
    replace hX := hX.later hb
    replace hR := hR.later hb
    replace hB := bstep hB hb
    clear hb
    have x0 := hX.cell 0 _ rfl
    have x1 := hX.cell 1 _ rfl
    have x2 := hX.cell 2 _ rfl
    have x3 := hX.cell 3 _ rfl
    have xf0 := hX.fr 0 _ rfl
    have xf1 := hX.fr 1 _ rfl
    have xf2 := hX.fr 2 _ rfl
    have xf3 := hX.fr 3 _ rfl
    have r0 := hR.cell 0 _ rfl
    have r1 := hR.cell 1 _ rfl
    have rf0 := hR.fr 0 _ rfl
    have rf1 := hR.fr 1 _ rfl
    go_wp2
    refine named_post fun V hV => ?_
    have hVR : Blk V (w.heap.size + 1) [.int .i64 x.e, .int .i64 x.a] := by rw [hV]; exact ((((((hR.other (by simp) _).other (by simp) _).other (by simp) _).other (by simp) _).set 0 _).set 1 _)
    have hVB : Below w.heap.size w V := by rw [hV]; exact ((((((hB.setCell (p := ⟨w.heap.size, 0, none⟩) (Nat.le_refl _) _).setCell (p := ⟨w.heap.size, 1, none⟩) (Nat.le_refl _) _).setCell (p := ⟨w.heap.size, 2, none⟩) (Nat.le_refl _) _).setCell (p := ⟨w.heap.size, 3, none⟩) (Nat.le_refl _) _).setCell (p := ⟨w.heap.size + 1, 0, none⟩) (by simp) _).setCell (p := ⟨w.heap.size + 1, 1, none⟩) (by simp) _)
    clear hV x0 x1 x2 x3 xf0 xf1 xf2 xf3 r0 r1 rf0 rf1
    have c0 := hVR.cell 0 _ rfl
    have c1 := hVR.cell 1 _ rfl
    refine bodyPost_ret (by simp [results, Try.results23, go_sem, c0, c1]; try rfl) rfl ?_
    exact ⟨by rw [hu.out]; try rfl, hVB⟩
theorem refRead_any (s : ByteArray) (w : World) :
    Calls Try.prog 25 #[.string s] w fun e w' => e = .returned (readR s).val ∧ Below w.heap.size w w' := by
  go_enter Try.func25, Try.ntmps25
  go_wp2
  go_returns
  exact ⟨rfl, by go_grown⟩
end Go.Proofs.Ytgcgoiaadigmfaa
