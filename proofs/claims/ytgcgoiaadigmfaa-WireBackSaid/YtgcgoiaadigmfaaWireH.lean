/- Walks: the readers' public functions. -/
import Derived.Test.YtgcgoiaadigmfaaWireG
namespace Go.Proofs.Ytgcgoiaadigmfaa
open Go.RowKit
open Wr

theorem opened_ok (r : Rd) : r.opened.Ok := by
  unfold Rd.opened
  split
  · rename_i h; exact Sp.ok_of_sound h
  · exact ⟨by decide, by decide⟩
theorem opened_m (r : Rd) : r.opened.m = r.opened.s.size := by
  unfold Rd.opened
  split <;> rfl
theorem opened_s (r : Rd) : r.opened.s.size ≤ r.s.size := by
  unfold Rd.opened
  split
  · exact Nat.le_refl _
  · exact Nat.zero_le _
def uintR (r : Rd) (n : Int) : Rd × Nat := ((r.opened.field n).1.given, (r.opened.field n).2)
def int64R (r : Rd) : Rd × Int := ((r.opened.field 8).1.given, IntKind.i64.wrap (r.opened.field 8).2)
def bytesR (r : Rd) (n : Int) : Rd × ByteArray := if n < 0 then ((r.opened.failAt 2 r.opened.u).given, ⟨#[]⟩) else ((r.opened.take n).1.given, (r.opened.take n).2)
def sizedR (r : Rd) (n : Int) : Rd × ByteArray := ((r.opened.sized n).1.given, (r.opened.sized n).2)
def wantR (r : Rd) (s : ByteArray) : Rd := (if (r.opened.take s.size).2 = s then (r.opened.take s.size).1 else (r.opened.take s.size).1.refuse 3 r.opened.u).given
def failR (r : Rd) (e a : Int) : Rd := (r.opened.failAt (if isErr e then e else 3) (min (max a 0) r.opened.m)).given
def endR (r : Rd) : Sp := if r.opened.u < r.opened.m then r.opened.failAt 4 r.opened.u else r.opened
def readR (s : ByteArray) : Rd := ⟨s, 0, 0, 0⟩

theorem uint_any (r : Rd) (n : Int) (w : World) (hs : r.s.size ≤ 9223372036854775807) :
    Calls Try.prog 10 #[r.val, .int .i64 n] w fun e w' => e = .returned (.tuple #[(uintR r n).1.val, .int .u64 (uintR r n).2]) ∧ Below w.heap.size w w' := by
  have hk := opened_ok r
  have hm := Lib.hid (opened_m r)
  have hs' := Nat.le_trans (opened_s r) hs
  have hopen := open_any r
  obtain ⟨s, at_, err, fat⟩ := r
  obtain ⟨x, hx⟩ : ∃ x, x = Rd.opened ⟨s, at_, err, fat⟩ := ⟨_, rfl⟩
  have hu := Lib.hid (show uintR ⟨s, at_, err, fat⟩ n = ((x.field n).1.given, (x.field n).2) by rw [hx]; rfl)
  rw [← hx] at hk hm hs' hopen
  clear hx
  simp only [Rd.val, Sp.val] at hopen ⊢
  go_enter Try.func10, Try.ntmps10
  go_wp2_with fail
  refine named fun W hW => ?_
  have hB : Below w.heap.size w W := by rw [hW]; go_grown
  have hR : Blk W (w.heap.size + 1) [.string ⟨#[]⟩, .int .i64 0, .int .i64 0, .int .i64 0] := by
    rw [hW]; exact Blk.is (us := [.string ⟨#[]⟩, .int .i64 0, .int .i64 0, .int .i64 0]) _ (by simp)
  clear hW
  refine (hopen _).mono ?_
  rintro e w1 ⟨rfl, hb1⟩
  have hB1 := bstep hB hb1
  have hR1 := hR.later hb1
  clear hB hR hb1
  go_wp2_with fail
  refine named fun W hW => ?_
  have hA : At W w1.heap.size x := by rw [hW]; exact At.new _ _ _
  have hB : Below w.heap.size w W := by rw [hW]; exact hB1.alloc hB1.size _
  have hR : Blk W (w.heap.size + 1) [.string ⟨#[]⟩, .int .i64 0, .int .i64 0, .int .i64 0] := by rw [hW]; exact hR1.alloc _
  have hlt := hR1.lt
  obtain ⟨b, hb⟩ : ∃ b, b = w1.heap.size := ⟨_, rfl⟩
  rw [← hb] at hA ⊢ hlt
  clear hW hB1 hR1 hb
  refine (fieldU_any hA hk hm.out n hs').mono ?_
  rintro e w2 ⟨rfl, hb2, hA2⟩
  go_wp2_with fail
  refine (rgiven_any hA2).mono ?_
  rintro e w3 ⟨rfl, hb3⟩
  simp only [Sp.given, Rd.val]
  have hR3 := (hR.under hb2 hlt).later hb3
  have hB3 : Below w.heap.size w w3 := bstep (hB.trans (hb2.mono (by omega))) hb3
  clear hB hR hb2 hb3 hA2 hA hlt
  obtain ⟨hlt, c, f⟩ := id hR3
  have c0 := c 0 _ rfl
  have c1 := c 1 _ rfl
  have c2 := c 2 _ rfl
  have c3 := c 3 _ rfl
  have f0 := f 0 _ rfl
  have f1 := f 1 _ rfl
  have f2 := f 2 _ rfl
  have f3 := f 3 _ rfl
  clear c f
  go_wp2
  refine named_post fun V hV => ?_
  have hVR : Blk V (w.heap.size + 1) [.string ((x.field n).1).s, .int .i64 ((x.field n).1).u, .int .i64 ((x.field n).1).e, .int .i64 ((x.field n).1).a] := by
    rw [hV]; exact (((hR3.set 0 _).set 1 _).set 2 _).set 3 _
  have hVB : Below w.heap.size w V := by rw [hV]; exact (((hB3.setCell (p := ⟨w.heap.size + 1, 0, none⟩) (by simp) _).setCell (p := ⟨w.heap.size + 1, 1, none⟩) (by simp) _).setCell (p := ⟨w.heap.size + 1, 2, none⟩) (by simp) _).setCell (p := ⟨w.heap.size + 1, 3, none⟩) (by simp) _
  clear hV c0 c1 c2 c3 f0 f1 f2 f3
  have c0 := hVR.cell 0 _ rfl
  have c1 := hVR.cell 1 _ rfl
  have c2 := hVR.cell 2 _ rfl
  have c3 := hVR.cell 3 _ rfl
  refine bodyPost_ret (by simp [results, Try.results10, go_sem, c0, c1, c2, c3]; try rfl) rfl ?_
  exact ⟨by rw [hu.out]; rfl, hVB⟩
theorem int64_any (r : Rd) (w : World) (hs : r.s.size ≤ 9223372036854775807) :
    Calls Try.prog 12 #[r.val] w fun e w' => e = .returned (.tuple #[(int64R r).1.val, .int .i64 (int64R r).2]) ∧ Below w.heap.size w w' := by
  have hk := opened_ok r
  have hm := Lib.hid (opened_m r)
  have hs' := Nat.le_trans (opened_s r) hs
  have hopen := open_any r
  obtain ⟨s, at_, err, fat⟩ := r
  obtain ⟨x, hx⟩ : ∃ x, x = Rd.opened ⟨s, at_, err, fat⟩ := ⟨_, rfl⟩
  have hu := Lib.hid (show int64R ⟨s, at_, err, fat⟩ = ((x.field 8).1.given, IntKind.i64.wrap (x.field 8).2) by rw [hx]; rfl)
  rw [← hx] at hk hm hs' hopen
  clear hx
  simp only [Rd.val, Sp.val] at hopen ⊢
  go_enter Try.func12, Try.ntmps12
  go_wp2_with fail
  refine named fun W hW => ?_
  have hB : Below w.heap.size w W := by rw [hW]; go_grown
  have hR : Blk W (w.heap.size + 1) [.string ⟨#[]⟩, .int .i64 0, .int .i64 0, .int .i64 0] := by
    rw [hW]; exact Blk.is (us := [.string ⟨#[]⟩, .int .i64 0, .int .i64 0, .int .i64 0]) _ (by simp)
  clear hW
  refine (hopen _).mono ?_
  rintro e w1 ⟨rfl, hb1⟩
  have hB1 := bstep hB hb1
  have hR1 := hR.later hb1
  clear hB hR hb1
  go_wp2_with fail
  refine named fun W hW => ?_
  have hA : At W w1.heap.size x := by rw [hW]; exact At.new _ _ _
  have hB : Below w.heap.size w W := by rw [hW]; exact hB1.alloc hB1.size _
  have hR : Blk W (w.heap.size + 1) [.string ⟨#[]⟩, .int .i64 0, .int .i64 0, .int .i64 0] := by rw [hW]; exact hR1.alloc _
  have hlt := hR1.lt
  obtain ⟨b, hb⟩ : ∃ b, b = w1.heap.size := ⟨_, rfl⟩
  rw [← hb] at hA ⊢ hlt
  clear hW hB1 hR1 hb
  refine (fieldI_any hA hk hm.out 8 hs').mono ?_
  rintro e w2 ⟨rfl, hb2, hA2⟩
  obtain ⟨q, hq⟩ : ∃ q, q = IntKind.i64.wrap ((x.field 8).2 : Int) := ⟨_, rfl⟩
  rw [← hq] at hu ⊢
  clear hq
  go_wp2_with fail
  refine (rgiven_any hA2).mono ?_
  rintro e w3 ⟨rfl, hb3⟩
  simp only [Sp.given, Rd.val]
  have hR3 := (hR.under hb2 hlt).later hb3
  have hB3 : Below w.heap.size w w3 := bstep (hB.trans (hb2.mono (by omega))) hb3
  clear hB hR hb2 hb3 hA2 hA hlt
  obtain ⟨hlt, c, f⟩ := id hR3
  have c0 := c 0 _ rfl
  have c1 := c 1 _ rfl
  have c2 := c 2 _ rfl
  have c3 := c 3 _ rfl
  have f0 := f 0 _ rfl
  have f1 := f 1 _ rfl
  have f2 := f 2 _ rfl
  have f3 := f 3 _ rfl
  clear c f
  go_wp2
  refine named_post fun V hV => ?_
  have hVR : Blk V (w.heap.size + 1) [.string ((x.field 8).1).s, .int .i64 ((x.field 8).1).u, .int .i64 ((x.field 8).1).e, .int .i64 ((x.field 8).1).a] := by
    rw [hV]; exact (((hR3.set 0 _).set 1 _).set 2 _).set 3 _
  have hVB : Below w.heap.size w V := by rw [hV]; exact (((hB3.setCell (p := ⟨w.heap.size + 1, 0, none⟩) (by simp) _).setCell (p := ⟨w.heap.size + 1, 1, none⟩) (by simp) _).setCell (p := ⟨w.heap.size + 1, 2, none⟩) (by simp) _).setCell (p := ⟨w.heap.size + 1, 3, none⟩) (by simp) _
  clear hV c0 c1 c2 c3 f0 f1 f2 f3
  have c0 := hVR.cell 0 _ rfl
  have c1 := hVR.cell 1 _ rfl
  have c2 := hVR.cell 2 _ rfl
  have c3 := hVR.cell 3 _ rfl
  refine bodyPost_ret (by simp [results, Try.results12, go_sem, c0, c1, c2, c3]; try rfl) rfl ?_
  exact ⟨by rw [hu.out]; rfl, hVB⟩
theorem sizedR_any (r : Rd) (n : Int) (w : World) (hs : r.s.size ≤ 9223372036854775807) :
    Calls Try.prog 16 #[r.val, .int .i64 n] w fun e w' => e = .returned (.tuple #[(sizedR r n).1.val, .string (sizedR r n).2]) ∧ Below w.heap.size w w' := by
  have hk := opened_ok r
  have hm := Lib.hid (opened_m r)
  have hs' := Nat.le_trans (opened_s r) hs
  have hopen := open_any r
  obtain ⟨s, at_, err, fat⟩ := r
  obtain ⟨x, hx⟩ : ∃ x, x = Rd.opened ⟨s, at_, err, fat⟩ := ⟨_, rfl⟩
  have hu := Lib.hid (show sizedR ⟨s, at_, err, fat⟩ n = ((x.sized n).1.given, (x.sized n).2) by rw [hx]; rfl)
  rw [← hx] at hk hm hs' hopen
  clear hx
  simp only [Rd.val, Sp.val] at hopen ⊢
  go_enter Try.func16, Try.ntmps16
  go_wp2_with fail
  refine named fun W hW => ?_
  have hB : Below w.heap.size w W := by rw [hW]; go_grown
  have hR : Blk W (w.heap.size + 1) [.string ⟨#[]⟩, .int .i64 0, .int .i64 0, .int .i64 0] := by
    rw [hW]; exact Blk.is (us := [.string ⟨#[]⟩, .int .i64 0, .int .i64 0, .int .i64 0]) _ (by simp)
  clear hW
  refine (hopen _).mono ?_
  rintro e w1 ⟨rfl, hb1⟩
  have hB1 := bstep hB hb1
  have hR1 := hR.later hb1
  clear hB hR hb1
  go_wp2_with fail
  refine named fun W hW => ?_
  have hA : At W w1.heap.size x := by rw [hW]; exact At.new _ _ _
  have hB : Below w.heap.size w W := by rw [hW]; exact hB1.alloc hB1.size _
  have hR : Blk W (w.heap.size + 1) [.string ⟨#[]⟩, .int .i64 0, .int .i64 0, .int .i64 0] := by rw [hW]; exact hR1.alloc _
  have hlt := hR1.lt
  obtain ⟨b, hb⟩ : ∃ b, b = w1.heap.size := ⟨_, rfl⟩
  rw [← hb] at hA ⊢ hlt
  clear hW hB1 hR1 hb
  refine (sized_any hA hk hm.out n hs').mono ?_
  rintro e w2 ⟨rfl, hb2, hA2⟩
  go_wp2_with fail
  refine (rgiven_any hA2).mono ?_
  rintro e w3 ⟨rfl, hb3⟩
  simp only [Sp.given, Rd.val]
  have hR3 := (hR.under hb2 hlt).later hb3
  have hB3 : Below w.heap.size w w3 := bstep (hB.trans (hb2.mono (by omega))) hb3
  clear hB hR hb2 hb3 hA2 hA hlt
  obtain ⟨hlt, c, f⟩ := id hR3
  have c0 := c 0 _ rfl
  have c1 := c 1 _ rfl
  have c2 := c 2 _ rfl
  have c3 := c 3 _ rfl
  have f0 := f 0 _ rfl
  have f1 := f 1 _ rfl
  have f2 := f 2 _ rfl
  have f3 := f 3 _ rfl
  clear c f
  go_wp2
  refine named_post fun V hV => ?_
  have hVR : Blk V (w.heap.size + 1) [.string ((x.sized n).1).s, .int .i64 ((x.sized n).1).u, .int .i64 ((x.sized n).1).e, .int .i64 ((x.sized n).1).a] := by
    rw [hV]; exact (((hR3.set 0 _).set 1 _).set 2 _).set 3 _
  have hVB : Below w.heap.size w V := by rw [hV]; exact (((hB3.setCell (p := ⟨w.heap.size + 1, 0, none⟩) (by simp) _).setCell (p := ⟨w.heap.size + 1, 1, none⟩) (by simp) _).setCell (p := ⟨w.heap.size + 1, 2, none⟩) (by simp) _).setCell (p := ⟨w.heap.size + 1, 3, none⟩) (by simp) _
  clear hV c0 c1 c2 c3 f0 f1 f2 f3
  have c0 := hVR.cell 0 _ rfl
  have c1 := hVR.cell 1 _ rfl
  have c2 := hVR.cell 2 _ rfl
  have c3 := hVR.cell 3 _ rfl
  refine bodyPost_ret (by simp [results, Try.results16, go_sem, c0, c1, c2, c3]; try rfl) rfl ?_
  exact ⟨by rw [hu.out]; rfl, hVB⟩
theorem bytes_any (r : Rd) (n : Int) (w : World) (hs : r.s.size ≤ 9223372036854775807) (hn : n ≤ 9223372036854775807) :
    Calls Try.prog 14 #[r.val, .int .i64 n] w fun e w' => e = .returned (.tuple #[(bytesR r n).1.val, .string (bytesR r n).2]) ∧ Below w.heap.size w w' := by
  have hk := opened_ok r
  have hm := Lib.hid (opened_m r)
  have hs' := Nat.le_trans (opened_s r) hs
  have hopen := open_any r
  obtain ⟨s, at_, err, fat⟩ := r
  obtain ⟨x, hx⟩ : ∃ x, x = Rd.opened ⟨s, at_, err, fat⟩ := ⟨_, rfl⟩
  have hu := (show bytesR ⟨s, at_, err, fat⟩ n = if n < 0 then ((x.failAt 2 x.u).given, ⟨#[]⟩) else ((x.take n).1.given, (x.take n).2) by rw [hx]; rfl)
  rw [← hx] at hk hm hs' hopen
  clear hx
  simp only [Rd.val, Sp.val] at hopen ⊢
  by_cases hneg : n < 0
  · rw [if_pos hneg] at hu
    replace hu := Lib.hid hu
    go_enter Try.func14, Try.ntmps14
    go_wp2_with fail
    refine named fun W hW => ?_
    have hB : Below w.heap.size w W := by rw [hW]; go_grown
    have hR : Blk W (w.heap.size + 1) [.string ⟨#[]⟩, .int .i64 0, .int .i64 0, .int .i64 0] := by
      rw [hW]; exact Blk.is (us := [.string ⟨#[]⟩, .int .i64 0, .int .i64 0, .int .i64 0]) _ (by simp)
    clear hW
    refine (hopen _).mono ?_
    rintro e w1 ⟨rfl, hb1⟩
    have hB1 := bstep hB hb1
    have hR1 := hR.later hb1
    clear hB hR hb1
    go_wp2_with fail
    refine named fun W hW => ?_
    have hA : At W w1.heap.size x := by rw [hW]; exact At.new _ _ _
    have hB : Below w.heap.size w W := by rw [hW]; exact hB1.alloc hB1.size _
    have hR : Blk W (w.heap.size + 1) [.string ⟨#[]⟩, .int .i64 0, .int .i64 0, .int .i64 0] := by rw [hW]; exact hR1.alloc _
    have hlt := hR1.lt
    obtain ⟨b, hb⟩ : ∃ b, b = w1.heap.size := ⟨_, rfl⟩
    rw [← hb] at hA ⊢ hlt
    clear hW hB1 hR1 hb
    refine (fail_any hA 2).mono ?_
    rintro e w2 ⟨rfl, hb2, hA2⟩
    go_wp2_with fail
    refine (rgiven_any hA2).mono ?_
    rintro e w3 ⟨rfl, hb3⟩
    simp only [Sp.given, Rd.val]
    have hR3 := (hR.under hb2 hlt).later hb3
    have hB3 : Below w.heap.size w w3 := bstep (hB.trans (hb2.mono (by omega))) hb3
    clear hB hR hb2 hb3 hA2 hA hlt
    obtain ⟨hlt, c, f⟩ := id hR3
    have c0 := c 0 _ rfl
    have c1 := c 1 _ rfl
    have c2 := c 2 _ rfl
    have c3 := c 3 _ rfl
    have f0 := f 0 _ rfl
    have f1 := f 1 _ rfl
    have f2 := f 2 _ rfl
    have f3 := f 3 _ rfl
    clear c f
    go_wp2
    refine named_post fun V hV => ?_
    have hVR : Blk V (w.heap.size + 1) [.string (x.failAt 2 x.u).s, .int .i64 (x.failAt 2 x.u).u, .int .i64 (x.failAt 2 x.u).e, .int .i64 (x.failAt 2 x.u).a] := by
      rw [hV]; exact (((hR3.set 0 _).set 1 _).set 2 _).set 3 _
    have hVB : Below w.heap.size w V := by rw [hV]; exact (((hB3.setCell (p := ⟨w.heap.size + 1, 0, none⟩) (by simp) _).setCell (p := ⟨w.heap.size + 1, 1, none⟩) (by simp) _).setCell (p := ⟨w.heap.size + 1, 2, none⟩) (by simp) _).setCell (p := ⟨w.heap.size + 1, 3, none⟩) (by simp) _
    clear hV c0 c1 c2 c3 f0 f1 f2 f3
    have c0 := hVR.cell 0 _ rfl
    have c1 := hVR.cell 1 _ rfl
    have c2 := hVR.cell 2 _ rfl
    have c3 := hVR.cell 3 _ rfl
    refine bodyPost_ret (by simp [results, Try.results14, go_sem, c0, c1, c2, c3]; try rfl) rfl ?_
    exact ⟨by rw [hu.out]; rfl, hVB⟩
  · rw [if_neg hneg] at hu
    replace hu := Lib.hid hu
    go_enter Try.func14, Try.ntmps14
    go_wp2_with fail
    refine named fun W hW => ?_
    have hB : Below w.heap.size w W := by rw [hW]; go_grown
    have hR : Blk W (w.heap.size + 1) [.string ⟨#[]⟩, .int .i64 0, .int .i64 0, .int .i64 0] := by
      rw [hW]; exact Blk.is (us := [.string ⟨#[]⟩, .int .i64 0, .int .i64 0, .int .i64 0]) _ (by simp)
    clear hW
    refine (hopen _).mono ?_
    rintro e w1 ⟨rfl, hb1⟩
    have hB1 := bstep hB hb1
    have hR1 := hR.later hb1
    clear hB hR hb1
    go_wp2_with fail
    refine named fun W hW => ?_
    have hA : At W w1.heap.size x := by rw [hW]; exact At.new _ _ _
    have hB : Below w.heap.size w W := by rw [hW]; exact hB1.alloc hB1.size _
    have hR : Blk W (w.heap.size + 1) [.string ⟨#[]⟩, .int .i64 0, .int .i64 0, .int .i64 0] := by rw [hW]; exact hR1.alloc _
    have hlt := hR1.lt
    obtain ⟨b, hb⟩ : ∃ b, b = w1.heap.size := ⟨_, rfl⟩
    rw [← hb] at hA ⊢ hlt
    clear hW hB1 hR1 hb
    refine (take_any hA hk hm.out n (by omega) hn hs').mono ?_
    rintro e w2 ⟨rfl, hb2, hA2⟩
    go_wp2_with fail
    refine (rgiven_any hA2).mono ?_
    rintro e w3 ⟨rfl, hb3⟩
    simp only [Sp.given, Rd.val]
    have hR3 := (hR.under hb2 hlt).later hb3
    have hB3 : Below w.heap.size w w3 := bstep (hB.trans (hb2.mono (by omega))) hb3
    clear hB hR hb2 hb3 hA2 hA hlt
    obtain ⟨hlt, c, f⟩ := id hR3
    have c0 := c 0 _ rfl
    have c1 := c 1 _ rfl
    have c2 := c 2 _ rfl
    have c3 := c 3 _ rfl
    have f0 := f 0 _ rfl
    have f1 := f 1 _ rfl
    have f2 := f 2 _ rfl
    have f3 := f 3 _ rfl
    clear c f
    go_wp2
    refine named_post fun V hV => ?_
    have hVR : Blk V (w.heap.size + 1) [.string ((x.take n).1).s, .int .i64 ((x.take n).1).u, .int .i64 ((x.take n).1).e, .int .i64 ((x.take n).1).a] := by
      rw [hV]; exact (((hR3.set 0 _).set 1 _).set 2 _).set 3 _
    have hVB : Below w.heap.size w V := by rw [hV]; exact (((hB3.setCell (p := ⟨w.heap.size + 1, 0, none⟩) (by simp) _).setCell (p := ⟨w.heap.size + 1, 1, none⟩) (by simp) _).setCell (p := ⟨w.heap.size + 1, 2, none⟩) (by simp) _).setCell (p := ⟨w.heap.size + 1, 3, none⟩) (by simp) _
    clear hV c0 c1 c2 c3 f0 f1 f2 f3
    have c0 := hVR.cell 0 _ rfl
    have c1 := hVR.cell 1 _ rfl
    have c2 := hVR.cell 2 _ rfl
    have c3 := hVR.cell 3 _ rfl
    refine bodyPost_ret (by simp [results, Try.results14, go_sem, c0, c1, c2, c3]; try rfl) rfl ?_
    exact ⟨by rw [hu.out]; rfl, hVB⟩
end Go.Proofs.Ytgcgoiaadigmfaa
