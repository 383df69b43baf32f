/- Walks: Want, Fail, End, Read of package wire. -/
import Derived.Test.YtgcgoiaadigmfaaWireH
namespace Go.Proofs.Ytgcgoiaadigmfaa
open Go.RowKit
open Wr

theorem want_any (r : Rd) (s' : ByteArray) (w : World) (hs : r.s.size ≤ 9223372036854775807) (hs2 : s'.size ≤ 9223372036854775807) :
    Calls Try.prog 18 #[r.val, .string s'] w fun e w' => e = .returned (wantR r s').val ∧ Below w.heap.size w w' := by
  have hk := opened_ok r
  have hm := Lib.hid (opened_m r)
  have hs' := Nat.le_trans (opened_s r) hs
  have hopen := open_any r
  obtain ⟨s, at_, err, fat⟩ := r
  obtain ⟨x, hx⟩ : ∃ x, x = Rd.opened ⟨s, at_, err, fat⟩ := ⟨_, rfl⟩
  have hu := (show wantR ⟨s, at_, err, fat⟩ s' = (if (x.take s'.size).2 = s' then (x.take s'.size).1 else (x.take s'.size).1.refuse 3 x.u).given by rw [hx]; rfl)
  rw [← hx] at hk hm hs' hopen
  clear hx
  simp only [Rd.val, Sp.val] at hopen ⊢
  by_cases heq : (x.take s'.size).2 = s'
  · rw [if_pos heq] at hu
    replace hu := Lib.hid hu
    have HE := Lib.hid heq
    clear heq
    go_enter Try.func18, Try.ntmps18
    go_wp2_with fail
    refine named fun W hW => ?_
    have hB : Below w.heap.size w W := by rw [hW]; go_grown
    have hR : Blk W (w.heap.size + 1) [.string ⟨#[]⟩, .int .i64 0, .int .i64 0, .int .i64 0] := by
      rw [hW]; exact Blk.is (us := [.string ⟨#[]⟩, .int .i64 0, .int .i64 0, .int .i64 0]) _ (by simp)
    clear hW
    refine (hopen _).mono ?_
    rintro e w1 ⟨rfl, hb1⟩
    have hB1 := bstep hB hb1
    have hR1 := hR.later hb1
    clear hB hR hb1
    go_wp2_with fail
    refine named fun W hW => ?_
    have hA : At W w1.heap.size x := by rw [hW]; exact At.new _ _ _
    have hB : Below w.heap.size w W := by rw [hW]; exact hB1.alloc hB1.size _
    have hR : Blk W (w.heap.size + 1) [.string ⟨#[]⟩, .int .i64 0, .int .i64 0, .int .i64 0] := by rw [hW]; exact hR1.alloc _
    have hlt := hR1.lt
    obtain ⟨b, hb⟩ : ∃ b, b = w1.heap.size := ⟨_, rfl⟩
    rw [← hb] at hA ⊢ hlt
    clear hW hB1 hR1 hb
    refine (take_any hA hk hm.out _ (by omega) (by omega) hs').mono ?_
    rintro e w2 ⟨rfl, hb2, hA2⟩
    rw [HE.out]
    go_wp2_with fail
    refine (rgiven_any hA2).mono ?_
    rintro e w3 ⟨rfl, hb3⟩
    simp only [Sp.given, Rd.val]
    have hR3 := (hR.under hb2 hlt).later hb3
    have hB3 : Below w.heap.size w w3 := bstep (hB.trans (hb2.mono (by omega))) hb3
    clear hB hR hb2 hb3 hA2 hA hlt
    obtain ⟨hlt, c, f⟩ := id hR3
    have c0 := c 0 _ rfl
    have c1 := c 1 _ rfl
    have c2 := c 2 _ rfl
    have c3 := c 3 _ rfl
    have f0 := f 0 _ rfl
    have f1 := f 1 _ rfl
    have f2 := f 2 _ rfl
    have f3 := f 3 _ rfl
    clear c f
    go_wp2
    refine named_post fun V hV => ?_
    have hVR : Blk V (w.heap.size + 1) [.string ((x.take s'.size).1).s, .int .i64 ((x.take s'.size).1).u, .int .i64 ((x.take s'.size).1).e, .int .i64 ((x.take s'.size).1).a] := by
      rw [hV]; exact (((hR3.set 0 _).set 1 _).set 2 _).set 3 _
    have hVB : Below w.heap.size w V := by rw [hV]; exact (((hB3.setCell (p := ⟨w.heap.size + 1, 0, none⟩) (by simp) _).setCell (p := ⟨w.heap.size + 1, 1, none⟩) (by simp) _).setCell (p := ⟨w.heap.size + 1, 2, none⟩) (by simp) _).setCell (p := ⟨w.heap.size + 1, 3, none⟩) (by simp) _
    clear hV c0 c1 c2 c3 f0 f1 f2 f3
    have c0 := hVR.cell 0 _ rfl
    have c1 := hVR.cell 1 _ rfl
    have c2 := hVR.cell 2 _ rfl
    have c3 := hVR.cell 3 _ rfl
    refine bodyPost_ret (by simp [results, Try.results18, go_sem, c0, c1, c2, c3]; try rfl) rfl ?_
    exact ⟨by rw [hu.out]; rfl, hVB⟩
  · rw [if_neg heq] at hu
    replace hu := Lib.hid hu
    have hne := str_ne heq
    clear heq
    go_enter Try.func18, Try.ntmps18
    go_wp2_with fail
    refine named fun W hW => ?_
    have hB : Below w.heap.size w W := by rw [hW]; go_grown
    have hR : Blk W (w.heap.size + 1) [.string ⟨#[]⟩, .int .i64 0, .int .i64 0, .int .i64 0] := by
      rw [hW]; exact Blk.is (us := [.string ⟨#[]⟩, .int .i64 0, .int .i64 0, .int .i64 0]) _ (by simp)
    clear hW
    refine (hopen _).mono ?_
    rintro e w1 ⟨rfl, hb1⟩
    have hB1 := bstep hB hb1
    have hR1 := hR.later hb1
    clear hB hR hb1
    go_wp2_with fail
    refine named fun W hW => ?_
    have hA : At W w1.heap.size x := by rw [hW]; exact At.new _ _ _
    have hB : Below w.heap.size w W := by rw [hW]; exact hB1.alloc hB1.size _
    have hR : Blk W (w.heap.size + 1) [.string ⟨#[]⟩, .int .i64 0, .int .i64 0, .int .i64 0] := by rw [hW]; exact hR1.alloc _
    have hlt := hR1.lt
    obtain ⟨b, hb⟩ : ∃ b, b = w1.heap.size := ⟨_, rfl⟩
    rw [← hb] at hA ⊢ hlt
    clear hW hB1 hR1 hb
    refine (take_any hA hk hm.out _ (by omega) (by omega) hs').mono ?_
    rintro e w2 ⟨rfl, hb2a, hA2a⟩
    go_wp2_with fail
    refine (refuse_any hA2a 3 x.u).mono ?_
    rintro e w2b ⟨rfl, hb2b, hA2⟩
    have hb2 := hb2a.trans hb2b
    clear hb2a hb2b hA2a hne
    go_wp2_with fail
    refine (rgiven_any hA2).mono ?_
    rintro e w3 ⟨rfl, hb3⟩
    simp only [Sp.given, Rd.val]
    have hR3 := (hR.under hb2 hlt).later hb3
    have hB3 : Below w.heap.size w w3 := bstep (hB.trans (hb2.mono (by omega))) hb3
    clear hB hR hb2 hb3 hA2 hA hlt
    obtain ⟨hlt, c, f⟩ := id hR3
    have c0 := c 0 _ rfl
    have c1 := c 1 _ rfl
    have c2 := c 2 _ rfl
    have c3 := c 3 _ rfl
    have f0 := f 0 _ rfl
    have f1 := f 1 _ rfl
    have f2 := f 2 _ rfl
    have f3 := f 3 _ rfl
    clear c f
    go_wp2
    refine named_post fun V hV => ?_
    have hVR : Blk V (w.heap.size + 1) [.string ((x.take s'.size).1.refuse 3 x.u).s, .int .i64 ((x.take s'.size).1.refuse 3 x.u).u, .int .i64 ((x.take s'.size).1.refuse 3 x.u).e, .int .i64 ((x.take s'.size).1.refuse 3 x.u).a] := by
      rw [hV]; exact (((hR3.set 0 _).set 1 _).set 2 _).set 3 _
    have hVB : Below w.heap.size w V := by rw [hV]; exact (((hB3.setCell (p := ⟨w.heap.size + 1, 0, none⟩) (by simp) _).setCell (p := ⟨w.heap.size + 1, 1, none⟩) (by simp) _).setCell (p := ⟨w.heap.size + 1, 2, none⟩) (by simp) _).setCell (p := ⟨w.heap.size + 1, 3, none⟩) (by simp) _
    clear hV c0 c1 c2 c3 f0 f1 f2 f3
    have c0 := hVR.cell 0 _ rfl
    have c1 := hVR.cell 1 _ rfl
    have c2 := hVR.cell 2 _ rfl
    have c3 := hVR.cell 3 _ rfl
    refine bodyPost_ret (by simp [results, Try.results18, go_sem, c0, c1, c2, c3]; try rfl) rfl ?_
    exact ⟨by rw [hu.out]; rfl, hVB⟩
theorem failR_any (r : Rd) (er a : Int) (w : World) (hs : r.s.size ≤ 9223372036854775807) :
    Calls Try.prog 20 #[r.val, .int .i64 er, .int .i64 a] w fun e w' => e = .returned (failR r er a).val ∧ Below w.heap.size w w' := by
  have hk := opened_ok r
  have hm := Lib.hid (opened_m r)
  have hs' := Nat.le_trans (opened_s r) hs
  have hopen := open_any r
  obtain ⟨s, at_, err, fat⟩ := r
  obtain ⟨x, hx⟩ : ∃ x, x = Rd.opened ⟨s, at_, err, fat⟩ := ⟨_, rfl⟩
  have hu := (show failR ⟨s, at_, err, fat⟩ er a = (x.failAt (if isErr er then er else 3) (min (max a 0) x.m)).given by rw [hx]; rfl)
  rw [← hx] at hk hm hs' hopen
  clear hx
  simp only [Rd.val, Sp.val] at hopen ⊢
  have hm0 : 0 ≤ x.m := by have h1 := hk.u0; have h2 := hk.um; omega
  cases hi : isErr er
  · rcases Int.lt_or_le a 0 with ha | ha
    · rw [hi, if_neg (by decide), show min (max a 0) x.m = 0 by omega] at hu
      replace hu := Lib.hid hu
      have HI := Lib.hid hi
      clear hi
      go_enter Try.func20, Try.ntmps20
      go_wp2_with fail
      refine (isError_is HI.out _).mono ?_
      rintro e w' ⟨rfl, rfl⟩
      go_wp2_with fail
      refine named fun W hW => ?_
      have hB : Below w.heap.size w W := by rw [hW]; go_grown
      have hR : Blk W (w.heap.size + 1) [.string ⟨#[]⟩, .int .i64 0, .int .i64 0, .int .i64 0] := by
        rw [hW]; exact Blk.is (us := [.string ⟨#[]⟩, .int .i64 0, .int .i64 0, .int .i64 0]) _ (by simp)
      clear hW
      refine (hopen _).mono ?_
      rintro e w1 ⟨rfl, hb1⟩
      have hB1 := bstep hB hb1
      have hR1 := hR.later hb1
      clear hB hR hb1
      go_wp2_with fail
      refine named fun W hW => ?_
      have hA : At W w1.heap.size x := by rw [hW]; exact At.new _ _ _
      have hB : Below w.heap.size w W := by rw [hW]; exact hB1.alloc hB1.size _
      have hR : Blk W (w.heap.size + 1) [.string ⟨#[]⟩, .int .i64 0, .int .i64 0, .int .i64 0] := by rw [hW]; exact hR1.alloc _
      have hlt := hR1.lt
      obtain ⟨b, hb⟩ : ∃ b, b = w1.heap.size := ⟨_, rfl⟩
      rw [← hb] at hA ⊢ hlt
      clear hW hB1 hR1 hb
      refine (failAt_any hA 3 0).mono ?_
      rintro e w2 ⟨rfl, hb2, hA2⟩
      go_wp2_with fail
      refine (rgiven_any hA2).mono ?_
      rintro e w3 ⟨rfl, hb3⟩
      simp only [Sp.given, Rd.val]
      have hR3 := (hR.under hb2 hlt).later hb3
      have hB3 : Below w.heap.size w w3 := bstep (hB.trans (hb2.mono (by omega))) hb3
      clear hB hR hb2 hb3 hA2 hA hlt
      obtain ⟨hlt, c, f⟩ := id hR3
      have c0 := c 0 _ rfl
      have c1 := c 1 _ rfl
      have c2 := c 2 _ rfl
      have c3 := c 3 _ rfl
      have f0 := f 0 _ rfl
      have f1 := f 1 _ rfl
      have f2 := f 2 _ rfl
      have f3 := f 3 _ rfl
      clear c f
      go_wp2
      refine named_post fun V hV => ?_
      have hVR : Blk V (w.heap.size + 1) [.string (x.failAt 3 0).s, .int .i64 (x.failAt 3 0).u, .int .i64 (x.failAt 3 0).e, .int .i64 (x.failAt 3 0).a] := by
        rw [hV]; exact (((hR3.set 0 _).set 1 _).set 2 _).set 3 _
      have hVB : Below w.heap.size w V := by rw [hV]; exact (((hB3.setCell (p := ⟨w.heap.size + 1, 0, none⟩) (by simp) _).setCell (p := ⟨w.heap.size + 1, 1, none⟩) (by simp) _).setCell (p := ⟨w.heap.size + 1, 2, none⟩) (by simp) _).setCell (p := ⟨w.heap.size + 1, 3, none⟩) (by simp) _
      clear hV c0 c1 c2 c3 f0 f1 f2 f3
      have c0 := hVR.cell 0 _ rfl
      have c1 := hVR.cell 1 _ rfl
      have c2 := hVR.cell 2 _ rfl
      have c3 := hVR.cell 3 _ rfl
      refine bodyPost_ret (by simp [results, Try.results20, go_sem, c0, c1, c2, c3]; try rfl) rfl ?_
      exact ⟨by rw [hu.out]; rfl, hVB⟩
    · rcases Int.lt_or_le x.m a with hb0 | hb0
      · rw [hi, if_neg (by decide), show min (max a 0) x.m = x.m by omega] at hu
        replace hu := Lib.hid hu
        have HI := Lib.hid hi
        clear hi
        go_enter Try.func20, Try.ntmps20
        go_wp2_with fail
        refine (isError_is HI.out _).mono ?_
        rintro e w' ⟨rfl, rfl⟩
        go_wp2_with fail
        refine named fun W hW => ?_
        have hB : Below w.heap.size w W := by rw [hW]; go_grown
        have hR : Blk W (w.heap.size + 1) [.string ⟨#[]⟩, .int .i64 0, .int .i64 0, .int .i64 0] := by
          rw [hW]; exact Blk.is (us := [.string ⟨#[]⟩, .int .i64 0, .int .i64 0, .int .i64 0]) _ (by simp)
        clear hW
        refine (hopen _).mono ?_
        rintro e w1 ⟨rfl, hb1⟩
        have hB1 := bstep hB hb1
        have hR1 := hR.later hb1
        clear hB hR hb1
        go_wp2_with fail
        refine named fun W hW => ?_
        have hA : At W w1.heap.size x := by rw [hW]; exact At.new _ _ _
        have hB : Below w.heap.size w W := by rw [hW]; exact hB1.alloc hB1.size _
        have hR : Blk W (w.heap.size + 1) [.string ⟨#[]⟩, .int .i64 0, .int .i64 0, .int .i64 0] := by rw [hW]; exact hR1.alloc _
        have hlt := hR1.lt
        obtain ⟨b, hb⟩ : ∃ b, b = w1.heap.size := ⟨_, rfl⟩
        rw [← hb] at hA ⊢ hlt
        clear hW hB1 hR1 hb
        refine (failAt_any hA 3 x.m).mono ?_
        rintro e w2 ⟨rfl, hb2, hA2⟩
        go_wp2_with fail
        refine (rgiven_any hA2).mono ?_
        rintro e w3 ⟨rfl, hb3⟩
        simp only [Sp.given, Rd.val]
        have hR3 := (hR.under hb2 hlt).later hb3
        have hB3 : Below w.heap.size w w3 := bstep (hB.trans (hb2.mono (by omega))) hb3
        clear hB hR hb2 hb3 hA2 hA hlt
        obtain ⟨hlt, c, f⟩ := id hR3
        have c0 := c 0 _ rfl
        have c1 := c 1 _ rfl
        have c2 := c 2 _ rfl
        have c3 := c 3 _ rfl
        have f0 := f 0 _ rfl
        have f1 := f 1 _ rfl
        have f2 := f 2 _ rfl
        have f3 := f 3 _ rfl
        clear c f
        go_wp2
        refine named_post fun V hV => ?_
        have hVR : Blk V (w.heap.size + 1) [.string (x.failAt 3 x.m).s, .int .i64 (x.failAt 3 x.m).u, .int .i64 (x.failAt 3 x.m).e, .int .i64 (x.failAt 3 x.m).a] := by
          rw [hV]; exact (((hR3.set 0 _).set 1 _).set 2 _).set 3 _
        have hVB : Below w.heap.size w V := by rw [hV]; exact (((hB3.setCell (p := ⟨w.heap.size + 1, 0, none⟩) (by simp) _).setCell (p := ⟨w.heap.size + 1, 1, none⟩) (by simp) _).setCell (p := ⟨w.heap.size + 1, 2, none⟩) (by simp) _).setCell (p := ⟨w.heap.size + 1, 3, none⟩) (by simp) _
        clear hV c0 c1 c2 c3 f0 f1 f2 f3
        have c0 := hVR.cell 0 _ rfl
        have c1 := hVR.cell 1 _ rfl
        have c2 := hVR.cell 2 _ rfl
        have c3 := hVR.cell 3 _ rfl
        refine bodyPost_ret (by simp [results, Try.results20, go_sem, c0, c1, c2, c3]; try rfl) rfl ?_
        exact ⟨by rw [hu.out]; rfl, hVB⟩
      · rw [hi, if_neg (by decide), show min (max a 0) x.m = a by omega] at hu
        replace hu := Lib.hid hu
        have HI := Lib.hid hi
        clear hi
        go_enter Try.func20, Try.ntmps20
        go_wp2_with fail
        refine (isError_is HI.out _).mono ?_
        rintro e w' ⟨rfl, rfl⟩
        go_wp2_with fail
        refine named fun W hW => ?_
        have hB : Below w.heap.size w W := by rw [hW]; go_grown
        have hR : Blk W (w.heap.size + 1) [.string ⟨#[]⟩, .int .i64 0, .int .i64 0, .int .i64 0] := by
          rw [hW]; exact Blk.is (us := [.string ⟨#[]⟩, .int .i64 0, .int .i64 0, .int .i64 0]) _ (by simp)
        clear hW
        refine (hopen _).mono ?_
        rintro e w1 ⟨rfl, hb1⟩
        have hB1 := bstep hB hb1
        have hR1 := hR.later hb1
        clear hB hR hb1
        go_wp2_with fail
        refine named fun W hW => ?_
        have hA : At W w1.heap.size x := by rw [hW]; exact At.new _ _ _
        have hB : Below w.heap.size w W := by rw [hW]; exact hB1.alloc hB1.size _
        have hR : Blk W (w.heap.size + 1) [.string ⟨#[]⟩, .int .i64 0, .int .i64 0, .int .i64 0] := by rw [hW]; exact hR1.alloc _
        have hlt := hR1.lt
        obtain ⟨b, hb⟩ : ∃ b, b = w1.heap.size := ⟨_, rfl⟩
        rw [← hb] at hA ⊢ hlt
        clear hW hB1 hR1 hb
        refine (failAt_any hA 3 a).mono ?_
        rintro e w2 ⟨rfl, hb2, hA2⟩
        go_wp2_with fail
        refine (rgiven_any hA2).mono ?_
        rintro e w3 ⟨rfl, hb3⟩
        simp only [Sp.given, Rd.val]
        have hR3 := (hR.under hb2 hlt).later hb3
        have hB3 : Below w.heap.size w w3 := bstep (hB.trans (hb2.mono (by omega))) hb3
        clear hB hR hb2 hb3 hA2 hA hlt
        obtain ⟨hlt, c, f⟩ := id hR3
        have c0 := c 0 _ rfl
        have c1 := c 1 _ rfl
        have c2 := c 2 _ rfl
        have c3 := c 3 _ rfl
        have f0 := f 0 _ rfl
        have f1 := f 1 _ rfl
        have f2 := f 2 _ rfl
        have f3 := f 3 _ rfl
        clear c f
        go_wp2
        refine named_post fun V hV => ?_
        have hVR : Blk V (w.heap.size + 1) [.string (x.failAt 3 a).s, .int .i64 (x.failAt 3 a).u, .int .i64 (x.failAt 3 a).e, .int .i64 (x.failAt 3 a).a] := by
          rw [hV]; exact (((hR3.set 0 _).set 1 _).set 2 _).set 3 _
        have hVB : Below w.heap.size w V := by rw [hV]; exact (((hB3.setCell (p := ⟨w.heap.size + 1, 0, none⟩) (by simp) _).setCell (p := ⟨w.heap.size + 1, 1, none⟩) (by simp) _).setCell (p := ⟨w.heap.size + 1, 2, none⟩) (by simp) _).setCell (p := ⟨w.heap.size + 1, 3, none⟩) (by simp) _
        clear hV c0 c1 c2 c3 f0 f1 f2 f3
        have c0 := hVR.cell 0 _ rfl
        have c1 := hVR.cell 1 _ rfl
        have c2 := hVR.cell 2 _ rfl
        have c3 := hVR.cell 3 _ rfl
        refine bodyPost_ret (by simp [results, Try.results20, go_sem, c0, c1, c2, c3]; try rfl) rfl ?_
        exact ⟨by rw [hu.out]; rfl, hVB⟩
  · rcases Int.lt_or_le a 0 with ha | ha
    · rw [hi, if_pos rfl, show min (max a 0) x.m = 0 by omega] at hu
      replace hu := Lib.hid hu
      have HI := Lib.hid hi
      clear hi
      go_enter Try.func20, Try.ntmps20
      go_wp2_with fail
      refine (isError_is HI.out _).mono ?_
      rintro e w' ⟨rfl, rfl⟩
      go_wp2_with fail
      refine named fun W hW => ?_
      have hB : Below w.heap.size w W := by rw [hW]; go_grown
      have hR : Blk W (w.heap.size + 1) [.string ⟨#[]⟩, .int .i64 0, .int .i64 0, .int .i64 0] := by
        rw [hW]; exact Blk.is (us := [.string ⟨#[]⟩, .int .i64 0, .int .i64 0, .int .i64 0]) _ (by simp)
      clear hW
      refine (hopen _).mono ?_
      rintro e w1 ⟨rfl, hb1⟩
      have hB1 := bstep hB hb1
      have hR1 := hR.later hb1
      clear hB hR hb1
      go_wp2_with fail
      refine named fun W hW => ?_
      have hA : At W w1.heap.size x := by rw [hW]; exact At.new _ _ _
      have hB : Below w.heap.size w W := by rw [hW]; exact hB1.alloc hB1.size _
      have hR : Blk W (w.heap.size + 1) [.string ⟨#[]⟩, .int .i64 0, .int .i64 0, .int .i64 0] := by rw [hW]; exact hR1.alloc _
      have hlt := hR1.lt
      obtain ⟨b, hb⟩ : ∃ b, b = w1.heap.size := ⟨_, rfl⟩
      rw [← hb] at hA ⊢ hlt
      clear hW hB1 hR1 hb
      refine (failAt_any hA er 0).mono ?_
      rintro e w2 ⟨rfl, hb2, hA2⟩
      go_wp2_with fail
      refine (rgiven_any hA2).mono ?_
      rintro e w3 ⟨rfl, hb3⟩
      simp only [Sp.given, Rd.val]
      have hR3 := (hR.under hb2 hlt).later hb3
      have hB3 : Below w.heap.size w w3 := bstep (hB.trans (hb2.mono (by omega))) hb3
      clear hB hR hb2 hb3 hA2 hA hlt
      obtain ⟨hlt, c, f⟩ := id hR3
      have c0 := c 0 _ rfl
      have c1 := c 1 _ rfl
      have c2 := c 2 _ rfl
      have c3 := c 3 _ rfl
      have f0 := f 0 _ rfl
      have f1 := f 1 _ rfl
      have f2 := f 2 _ rfl
      have f3 := f 3 _ rfl
      clear c f
      go_wp2
      refine named_post fun V hV => ?_
      have hVR : Blk V (w.heap.size + 1) [.string (x.failAt er 0).s, .int .i64 (x.failAt er 0).u, .int .i64 (x.failAt er 0).e, .int .i64 (x.failAt er 0).a] := by
        rw [hV]; exact (((hR3.set 0 _).set 1 _).set 2 _).set 3 _
      have hVB : Below w.heap.size w V := by rw [hV]; exact (((hB3.setCell (p := ⟨w.heap.size + 1, 0, none⟩) (by simp) _).setCell (p := ⟨w.heap.size + 1, 1, none⟩) (by simp) _).setCell (p := ⟨w.heap.size + 1, 2, none⟩) (by simp) _).setCell (p := ⟨w.heap.size + 1, 3, none⟩) (by simp) _
      clear hV c0 c1 c2 c3 f0 f1 f2 f3
      have c0 := hVR.cell 0 _ rfl
      have c1 := hVR.cell 1 _ rfl
      have c2 := hVR.cell 2 _ rfl
      have c3 := hVR.cell 3 _ rfl
      refine bodyPost_ret (by simp [results, Try.results20, go_sem, c0, c1, c2, c3]; try rfl) rfl ?_
      exact ⟨by rw [hu.out]; rfl, hVB⟩
    · rcases Int.lt_or_le x.m a with hb0 | hb0
      · rw [hi, if_pos rfl, show min (max a 0) x.m = x.m by omega] at hu
        replace hu := Lib.hid hu
        have HI := Lib.hid hi
        clear hi
        go_enter Try.func20, Try.ntmps20
        go_wp2_with fail
        refine (isError_is HI.out _).mono ?_
        rintro e w' ⟨rfl, rfl⟩
        go_wp2_with fail
        refine named fun W hW => ?_
        have hB : Below w.heap.size w W := by rw [hW]; go_grown
        have hR : Blk W (w.heap.size + 1) [.string ⟨#[]⟩, .int .i64 0, .int .i64 0, .int .i64 0] := by
          rw [hW]; exact Blk.is (us := [.string ⟨#[]⟩, .int .i64 0, .int .i64 0, .int .i64 0]) _ (by simp)
        clear hW
        refine (hopen _).mono ?_
        rintro e w1 ⟨rfl, hb1⟩
        have hB1 := bstep hB hb1
        have hR1 := hR.later hb1
        clear hB hR hb1
        go_wp2_with fail
        refine named fun W hW => ?_
        have hA : At W w1.heap.size x := by rw [hW]; exact At.new _ _ _
        have hB : Below w.heap.size w W := by rw [hW]; exact hB1.alloc hB1.size _
        have hR : Blk W (w.heap.size + 1) [.string ⟨#[]⟩, .int .i64 0, .int .i64 0, .int .i64 0] := by rw [hW]; exact hR1.alloc _
        have hlt := hR1.lt
        obtain ⟨b, hb⟩ : ∃ b, b = w1.heap.size := ⟨_, rfl⟩
        rw [← hb] at hA ⊢ hlt
        clear hW hB1 hR1 hb
        refine (failAt_any hA er x.m).mono ?_
        rintro e w2 ⟨rfl, hb2, hA2⟩
        go_wp2_with fail
        refine (rgiven_any hA2).mono ?_
        rintro e w3 ⟨rfl, hb3⟩
        simp only [Sp.given, Rd.val]
        have hR3 := (hR.under hb2 hlt).later hb3
        have hB3 : Below w.heap.size w w3 := bstep (hB.trans (hb2.mono (by omega))) hb3
        clear hB hR hb2 hb3 hA2 hA hlt
        obtain ⟨hlt, c, f⟩ := id hR3
        have c0 := c 0 _ rfl
        have c1 := c 1 _ rfl
        have c2 := c 2 _ rfl
        have c3 := c 3 _ rfl
        have f0 := f 0 _ rfl
        have f1 := f 1 _ rfl
        have f2 := f 2 _ rfl
        have f3 := f 3 _ rfl
        clear c f
        go_wp2
        refine named_post fun V hV => ?_
        have hVR : Blk V (w.heap.size + 1) [.string (x.failAt er x.m).s, .int .i64 (x.failAt er x.m).u, .int .i64 (x.failAt er x.m).e, .int .i64 (x.failAt er x.m).a] := by
          rw [hV]; exact (((hR3.set 0 _).set 1 _).set 2 _).set 3 _
        have hVB : Below w.heap.size w V := by rw [hV]; exact (((hB3.setCell (p := ⟨w.heap.size + 1, 0, none⟩) (by simp) _).setCell (p := ⟨w.heap.size + 1, 1, none⟩) (by simp) _).setCell (p := ⟨w.heap.size + 1, 2, none⟩) (by simp) _).setCell (p := ⟨w.heap.size + 1, 3, none⟩) (by simp) _
        clear hV c0 c1 c2 c3 f0 f1 f2 f3
        have c0 := hVR.cell 0 _ rfl
        have c1 := hVR.cell 1 _ rfl
        have c2 := hVR.cell 2 _ rfl
        have c3 := hVR.cell 3 _ rfl
        refine bodyPost_ret (by simp [results, Try.results20, go_sem, c0, c1, c2, c3]; try rfl) rfl ?_
        exact ⟨by rw [hu.out]; rfl, hVB⟩
      · rw [hi, if_pos rfl, show min (max a 0) x.m = a by omega] at hu
        replace hu := Lib.hid hu
        have HI := Lib.hid hi
        clear hi
        go_enter Try.func20, Try.ntmps20
        go_wp2_with fail
        refine (isError_is HI.out _).mono ?_
        rintro e w' ⟨rfl, rfl⟩
        go_wp2_with fail
        refine named fun W hW => ?_
        have hB : Below w.heap.size w W := by rw [hW]; go_grown
        have hR : Blk W (w.heap.size + 1) [.string ⟨#[]⟩, .int .i64 0, .int .i64 0, .int .i64 0] := by
          rw [hW]; exact Blk.is (us := [.string ⟨#[]⟩, .int .i64 0, .int .i64 0, .int .i64 0]) _ (by simp)
        clear hW
        refine (hopen _).mono ?_
        rintro e w1 ⟨rfl, hb1⟩
        have hB1 := bstep hB hb1
        have hR1 := hR.later hb1
        clear hB hR hb1
        go_wp2_with fail
        refine named fun W hW => ?_
        have hA : At W w1.heap.size x := by rw [hW]; exact At.new _ _ _
        have hB : Below w.heap.size w W := by rw [hW]; exact hB1.alloc hB1.size _
        have hR : Blk W (w.heap.size + 1) [.string ⟨#[]⟩, .int .i64 0, .int .i64 0, .int .i64 0] := by rw [hW]; exact hR1.alloc _
        have hlt := hR1.lt
        obtain ⟨b, hb⟩ : ∃ b, b = w1.heap.size := ⟨_, rfl⟩
        rw [← hb] at hA ⊢ hlt
        clear hW hB1 hR1 hb
        refine (failAt_any hA er a).mono ?_
        rintro e w2 ⟨rfl, hb2, hA2⟩
        go_wp2_with fail
        refine (rgiven_any hA2).mono ?_
        rintro e w3 ⟨rfl, hb3⟩
        simp only [Sp.given, Rd.val]
        have hR3 := (hR.under hb2 hlt).later hb3
        have hB3 : Below w.heap.size w w3 := bstep (hB.trans (hb2.mono (by omega))) hb3
        clear hB hR hb2 hb3 hA2 hA hlt
        obtain ⟨hlt, c, f⟩ := id hR3
        have c0 := c 0 _ rfl
        have c1 := c 1 _ rfl
        have c2 := c 2 _ rfl
        have c3 := c 3 _ rfl
        have f0 := f 0 _ rfl
        have f1 := f 1 _ rfl
        have f2 := f 2 _ rfl
        have f3 := f 3 _ rfl
        clear c f
        go_wp2
        refine named_post fun V hV => ?_
        have hVR : Blk V (w.heap.size + 1) [.string (x.failAt er a).s, .int .i64 (x.failAt er a).u, .int .i64 (x.failAt er a).e, .int .i64 (x.failAt er a).a] := by
          rw [hV]; exact (((hR3.set 0 _).set 1 _).set 2 _).set 3 _
        have hVB : Below w.heap.size w V := by rw [hV]; exact (((hB3.setCell (p := ⟨w.heap.size + 1, 0, none⟩) (by simp) _).setCell (p := ⟨w.heap.size + 1, 1, none⟩) (by simp) _).setCell (p := ⟨w.heap.size + 1, 2, none⟩) (by simp) _).setCell (p := ⟨w.heap.size + 1, 3, none⟩) (by simp) _
        clear hV c0 c1 c2 c3 f0 f1 f2 f3
        have c0 := hVR.cell 0 _ rfl
        have c1 := hVR.cell 1 _ rfl
        have c2 := hVR.cell 2 _ rfl
        have c3 := hVR.cell 3 _ rfl
        refine bodyPost_ret (by simp [results, Try.results20, go_sem, c0, c1, c2, c3]; try rfl) rfl ?_
        exact ⟨by rw [hu.out]; rfl, hVB⟩
theorem end_any (r : Rd) (w : World) (hs : r.s.size ≤ 9223372036854775807) :
    Calls Try.prog 22 #[r.val] w fun e w' => e = .returned (.agg #[.int .i64 (endR r).e, .int .i64 (endR r).a]) ∧ Below w.heap.size w w' := by
  have hk := opened_ok r
  have hm := Lib.hid (opened_m r)
  have hs' := Nat.le_trans (opened_s r) hs
  have hopen := open_any r
  obtain ⟨s, at_, err, fat⟩ := r
  obtain ⟨x, hx⟩ : ∃ x, x = Rd.opened ⟨s, at_, err, fat⟩ := ⟨_, rfl⟩
  have hu := (show endR ⟨s, at_, err, fat⟩ = if x.u < x.m then x.failAt 4 x.u else x by rw [hx]; rfl)
  rw [← hx] at hk hm hs' hopen
  clear hx
  simp only [Rd.val, Sp.val] at hopen ⊢
  by_cases hneg : x.u < x.m
  · rw [if_pos hneg] at hu
    replace hu := Lib.hid hu
    go_enter Try.func22, Try.ntmps22
    go_wp2_with fail
    refine named fun W hW => ?_
    have hB : Below w.heap.size w W := by rw [hW]; go_grown
    have hR : Blk W (w.heap.size + 1) [.int .i64 0, .int .i64 0] := by
      rw [hW]; exact Blk.is (us := [.int .i64 0, .int .i64 0]) _ (by simp)
    clear hW
    refine (hopen _).mono ?_
    rintro e w1 ⟨rfl, hb1⟩
    have hB1 := bstep hB hb1
    have hR1 := hR.later hb1
    clear hB hR hb1
    go_wp2_with fail
    refine named fun W hW => ?_
    have hA : At W w1.heap.size x := by rw [hW]; exact At.new _ _ _
    have hB : Below w.heap.size w W := by rw [hW]; exact hB1.alloc hB1.size _
    have hR : Blk W (w.heap.size + 1) [.int .i64 0, .int .i64 0] := by rw [hW]; exact hR1.alloc _
    have hlt := hR1.lt
    obtain ⟨b, hb⟩ : ∃ b, b = w1.heap.size := ⟨_, rfl⟩
    rw [← hb] at hA ⊢ hlt
    clear hW hB1 hR1 hb
    refine (fail_any hA 4).mono ?_
    rintro e w2 ⟨rfl, hb2, hA2⟩
    have hR2 := hR.under hb2 hlt
    have hB2 := hB.trans (hb2.mono (by omega))
    clear hB hR hb2 hA
    obtain ⟨hltE, d0, d1, d2, d3, d4, g0, g1, g2, g3, g4⟩ := id hA2
    obtain ⟨_, c, f⟩ := id hR2
    have c0 := c 0 _ rfl
    have c1 := c 1 _ rfl
    have f0 := f 0 _ rfl
    have f1 := f 1 _ rfl
    clear c f
    go_wp2
    refine named_post fun V hV => ?_
    have hVR : Blk V (w.heap.size + 1) [.int .i64 (x.failAt 4 x.u).e, .int .i64 (x.failAt 4 x.u).a] := by
      rw [hV]; exact (hR2.set 0 _).set 1 _
    have hVB : Below w.heap.size w V := by rw [hV]; exact (hB2.setCell (p := ⟨w.heap.size + 1, 0, none⟩) (by simp) _).setCell (p := ⟨w.heap.size + 1, 1, none⟩) (by simp) _
    clear hV c0 c1 f0 f1 d0 d1 d2 d3 d4 g0 g1 g2 g3 g4
    have c0 := hVR.cell 0 _ rfl
    have c1 := hVR.cell 1 _ rfl
    refine bodyPost_ret (by simp [results, Try.results22, go_sem, c0, c1]; try rfl) rfl ?_
    exact ⟨by rw [hu.out], hVB⟩
  · rw [if_neg hneg] at hu
    replace hu := Lib.hid hu
    go_enter Try.func22, Try.ntmps22
    go_wp2_with fail
    refine named fun W hW => ?_
    have hB : Below w.heap.size w W := by rw [hW]; go_grown
    have hR : Blk W (w.heap.size + 1) [.int .i64 0, .int .i64 0] := by
      rw [hW]; exact Blk.is (us := [.int .i64 0, .int .i64 0]) _ (by simp)
    clear hW
    refine (hopen _).mono ?_
    rintro e w1 ⟨rfl, hb1⟩
    have hB1 := bstep hB hb1
    have hR1 := hR.later hb1
    clear hB hR hb1
    obtain ⟨_, c, f⟩ := id hR1
    have c0 := c 0 _ rfl
    have c1 := c 1 _ rfl
    have f0 := f 0 _ rfl
    have f1 := f 1 _ rfl
    clear c f
    go_wp2
    refine named_post fun V hV => ?_
    have hVR : Blk V (w.heap.size + 1) [.int .i64 x.e, .int .i64 x.a] := by
      rw [hV]; exact ((hR1.set 0 _).set 1 _).alloc _
    have hVB : Below w.heap.size w V := by rw [hV]; exact ((hB1.setCell (p := ⟨w.heap.size + 1, 0, none⟩) (by simp) _).setCell (p := ⟨w.heap.size + 1, 1, none⟩) (by simp) _).alloc (by simpa [World.setCell] using hB1.size) _
    clear hV c0 c1 f0 f1
    have c0 := hVR.cell 0 _ rfl
    have c1 := hVR.cell 1 _ rfl
    refine bodyPost_ret (by simp [results, Try.results22, go_sem, c0, c1]; try rfl) rfl ?_
    exact ⟨by rw [hu.out], hVB⟩
theorem read_any (s : ByteArray) (w : World) :
    Calls Try.prog 24 #[.string s] w fun e w' => e = .returned (readR s).val ∧ Below w.heap.size w w' := by
  go_enter Try.func24, Try.ntmps24
  go_wp2
  go_returns
  exact ⟨rfl, by go_grown⟩
end Go.Proofs.Ytgcgoiaadigmfaa
