/- Walks: the writers' public functions. -/
import Derived.Test.YtgcgoiaadigmfaaWireO
namespace Go.Proofs.Ytgcgoiaadigmfaa
open Go.RowKit
open Wr

theorem wopened (r : Wt) : r.opened.Ok ∧ r.opened.m ≤ 20000 ∧ r.opened.s.size ≤ 20000 := by
  unfold Wt.opened
  split
  · rename_i h
    have hk := Sp.ok_of_sound h.2
    have h1 := hk.um
    have h2 : r.sp.u = r.s.size := rfl
    have h3 : r.sp.m = r.most := rfl
    refine ⟨hk, h.1, ?_⟩
    show r.s.size ≤ 20000
    omega
  · exact ⟨⟨by decide, by decide⟩, by decide, by decide⟩
namespace Wr
def fitsI (n : Int) (size : Nat) : Bool := n / 2 ^ (8 * size) == 0
def putW (w : Wt) (size n : Int) : Wt := (if isSz size = true ∧ fitsI n size.toNat = true then w.opened.add [strOf (digI n size.toNat)] else w.opened.failAt 2 w.opened.u).wgiven
def addW (w : Wt) (l : List ByteArray) : Wt := (w.opened.add l).wgiven
def putInt64W (w : Wt) (n : Int) : Wt := addW w [strOf (digI n 8)]
def putSizedW (w : Wt) (s : ByteArray) : Wt := (if 65535 < s.size then w.opened.failAt 2 w.opened.u else w.opened.add [strOf (digI s.size 2), s]).wgiven
def doneW (w : Wt) : ByteArray × Int := if w.opened.e ≠ 0 then (⟨#[]⟩, w.opened.e) else (w.opened.s, 0)
def makeW (n : Int) : Wt := (Wt.opened ⟨⟨#[]⟩, n, 0⟩).wgiven
end Wr
theorem fits_is {n : Int} {size : Nat} {b : Bool} (h : fitsI n size = b) (w : World) (hs : size ≤ 8) :
    Calls Try.prog 64 #[.int .u64 n, .int .i64 size] w fun e w' => e = .returned (.bool b) ∧ w = w' := by
  have h1 := fits_any n size w (by omega) (by omega)
  rw [show (8 * (size : Int)).toNat = 8 * size by omega] at h1
  exact h ▸ h1
theorem strOf_size (l : List UInt8) : (strOf l).size = l.length := by
  show l.toArray.size = _
  simp

set_option maxHeartbeats 2000000 in
theorem add_pub (r : Wt) (v : Value) (l : List ByteArray) (w : World) (hv : Sln w v (strs l)) (hl : l.length ≤ 100000) (hz : ∀ s ∈ l, s.size ≤ 1000000) :
    Calls Try.prog 33 #[r.val, v] w fun e w' => e = .returned (addW r l).val ∧ Below w.heap.size w w' := by
  obtain ⟨hk, hm2, hs2⟩ := wopened r
  have hopen := resume_any r
  obtain ⟨s, most, err⟩ := r
  obtain ⟨x, hx⟩ : ∃ x, x = Wt.opened ⟨s, most, err⟩ := ⟨_, rfl⟩
  have hu := Lib.hid (show addW ⟨s, most, err⟩ l = (x.add l).wgiven by rw [hx]; rfl)
  rw [← hx] at hk hm2 hs2 hopen
  clear hx
  simp only [Wt.val, Sp.val] at hopen ⊢
  have hbase : ∀ B o n cap, v = .slice (some ⟨B, o, none⟩) n cap → B < w.heap.size := fun B o n cap e => by
    obtain ⟨b, o', cap', rfl, _, _, hlt, _⟩ := hv
    cases e
    exact hlt
  have HB := Lib.hid hbase
  have HZ := Lib.hid hz
  clear hbase hz
  go_enter Try.func33, Try.ntmps33
  go_wp2_with fail
  refine named fun W hW => ?_
  have hB : Below w.heap.size w W := by rw [hW]; go_grown
  have hR : Blk W (w.heap.size + 1) [.string ⟨#[]⟩, .int .i64 0, .int .i64 0] := by rw [hW]; exact Blk.is (us := [.string ⟨#[]⟩, .int .i64 0, .int .i64 0]) _ (by simp)
  clear hW
  refine (hopen _).mono ?_
  rintro e w1 ⟨rfl, hb1⟩
  replace hB := bstep hB hb1
  replace hR := hR.later hb1
  clear hb1
  go_wp2_with fail
  refine named fun W hW => ?_
  have hA : At W w1.heap.size x := by rw [hW]; exact At.new _ _ _
  have hlt := hR.lt
  replace hR : Blk W (w.heap.size + 1) [.string ⟨#[]⟩, .int .i64 0, .int .i64 0] := by rw [hW]; exact hR.alloc _
  have hlt0 := hB.size
  replace hB : Below w.heap.size w W := by rw [hW]; exact hB.alloc hB.size _
  obtain ⟨b, hb⟩ : ∃ b, b = w1.heap.size := ⟨_, rfl⟩
  rw [← hb] at hA hlt0 ⊢ hlt
  clear hW hb
  have hv2 := hv.later hB
  refine (add_any hA hk hm2 (by omega) hv2 hl HZ.out (fun B o n cap e => by have := HB.out B o n cap e; omega)).mono ?_
  rintro e w2 ⟨rfl, hb2, hA⟩
  replace hR := hR.under hb2 hlt
  replace hB := hB.trans (hb2.mono (by omega))
  clear hb2
  go_wp2_with fail
  refine (wgiven_any hA).mono ?_
  rintro e w9 ⟨rfl, hb9⟩
  simp only [Sp.wgiven, Wt.val]
  replace hR := hR.later hb9
  replace hB := bstep hB hb9
  clear hb9 hA hlt
  have c0 := hR.cell 0 _ rfl
  have c1 := hR.cell 1 _ rfl
  have c2 := hR.cell 2 _ rfl
  have f0 := hR.fr 0 _ rfl
  have f1 := hR.fr 1 _ rfl
  have f2 := hR.fr 2 _ rfl
  have hltR := hR.lt
  go_wp2
  refine named_post fun V hV => ?_
  have hVR : Blk V (w.heap.size + 1) [.string (x.add l).s, .int .i64 (x.add l).m, .int .i64 (x.add l).e] := by rw [hV]; exact ((hR.set 0 _).set 1 _).set 2 _
  have hVB : Below w.heap.size w V := by rw [hV]; exact ((hB.setCell (p := ⟨w.heap.size + 1, 0, none⟩) (by simp) _).setCell (p := ⟨w.heap.size + 1, 1, none⟩) (by simp) _).setCell (p := ⟨w.heap.size + 1, 2, none⟩) (by simp) _
  clear hV c0 c1 c2 f0 f1 f2
  have c0 := hVR.cell 0 _ rfl
  have c1 := hVR.cell 1 _ rfl
  have c2 := hVR.cell 2 _ rfl
  refine bodyPost_ret (by simp [results, Try.results33, go_sem, c0, c1, c2]; try rfl) rfl ?_
  exact ⟨by rw [hu.out]; rfl, hVB⟩
set_option maxHeartbeats 2000000 in
theorem done_any (r : Wt) (w : World) :
    Calls Try.prog 37 #[r.val] w fun e w' => e = .returned (.tuple #[.string (doneW r).1, .int .i64 (doneW r).2]) ∧ Below w.heap.size w w' := by
  obtain ⟨hk, hm2, hs2⟩ := wopened r
  have hopen := resume_any r
  obtain ⟨s, most, err⟩ := r
  obtain ⟨x, hx⟩ : ∃ x, x = Wt.opened ⟨s, most, err⟩ := ⟨_, rfl⟩
  have hu := (show doneW ⟨s, most, err⟩ = if x.e ≠ 0 then (⟨#[]⟩, x.e) else (x.s, 0) by rw [hx]; rfl)
  rw [← hx] at hk hm2 hs2 hopen
  clear hx
  simp only [Wt.val, Sp.val] at hopen ⊢
  by_cases he : x.e = 0
  · rw [if_neg (fun h => h he)] at hu
    replace hu := Lib.hid hu
    have hbe : (x.e != 0) = false := by simp [he]
    have HE := Lib.hid he
    clear he
    go_enter Try.func37, Try.ntmps37
    go_wp2_with fail
    refine named fun W hW => ?_
    have hB : Below w.heap.size w W := by rw [hW]; go_grown
    clear hW
    refine (hopen _).mono ?_
    rintro e w1 ⟨rfl, hb1⟩
    replace hB := bstep hB hb1
    clear hb1
    go_wp2_with fail
    refine named fun W hW => ?_
    have hA : At W w1.heap.size x := by rw [hW]; exact At.new _ _ _
    have hlt0 := hB.size
    replace hB : Below w.heap.size w W := by rw [hW]; exact hB.alloc hB.size _
    obtain ⟨b, hb⟩ : ∃ b, b = w1.heap.size := ⟨_, rfl⟩
    rw [← hb] at hA hlt0 ⊢
    clear hW hb
    refine (failed_any hA).mono ?_
    rintro e w' ⟨rfl, rfl⟩
    rw [hbe]
    obtain ⟨hltA, d0, d1, d2, d3, d4, g0, g1, g2, g3, g4⟩ := id hA
    go_wp2
    go_ret2
    exact ⟨by rw [hu.out]; rfl, hB⟩
  · rw [if_pos he] at hu
    replace hu := Lib.hid hu
    have hbe : (x.e != 0) = true := by simpa using he
    clear he
    go_enter Try.func37, Try.ntmps37
    go_wp2_with fail
    refine named fun W hW => ?_
    have hB : Below w.heap.size w W := by rw [hW]; go_grown
    clear hW
    refine (hopen _).mono ?_
    rintro e w1 ⟨rfl, hb1⟩
    replace hB := bstep hB hb1
    clear hb1
    go_wp2_with fail
    refine named fun W hW => ?_
    have hA : At W w1.heap.size x := by rw [hW]; exact At.new _ _ _
    have hlt0 := hB.size
    replace hB : Below w.heap.size w W := by rw [hW]; exact hB.alloc hB.size _
    obtain ⟨b, hb⟩ : ∃ b, b = w1.heap.size := ⟨_, rfl⟩
    rw [← hb] at hA hlt0 ⊢
    clear hW hb
    refine (failed_any hA).mono ?_
    rintro e w' ⟨rfl, rfl⟩
    rw [hbe]
    obtain ⟨hltA, d0, d1, d2, d3, d4, g0, g1, g2, g3, g4⟩ := id hA
    go_wp2_with fail
    go_quiet (fail)
    go_wp2
    go_ret2
    exact ⟨by rw [hu.out]; rfl, below_drewN hB _⟩
set_option maxHeartbeats 2000000 in
theorem make_any (n : Int) (w : World) :
    Calls Try.prog 27 #[.int .i64 n] w fun e w' => e = .returned (makeW n).val ∧ Below w.heap.size w w' := by
  have hopen := resume_any ⟨⟨#[]⟩, n, 0⟩
  obtain ⟨x, hx⟩ : ∃ x, x = Wt.opened ⟨⟨#[]⟩, n, 0⟩ := ⟨_, rfl⟩
  have hu := Lib.hid (show makeW n = x.wgiven by rw [hx]; rfl)
  rw [← hx] at hopen
  clear hx
  simp only [Wt.val, Sp.val] at hopen ⊢
  go_enter Try.func27, Try.ntmps27
  go_wp2_with fail
  refine named fun W hW => ?_
  have hB : Below w.heap.size w W := by rw [hW]; go_grown
  have hR : Blk W w.heap.size [.string ⟨#[]⟩, .int .i64 0, .int .i64 0] := by rw [hW]; exact Blk.is (us := [.string ⟨#[]⟩, .int .i64 0, .int .i64 0]) _ rfl
  clear hW
  refine (hopen _).mono ?_
  rintro e w1 ⟨rfl, hb1⟩
  replace hB := bstep hB hb1
  replace hR := hR.later hb1
  clear hb1
  go_wp2_with fail
  refine named fun W hW => ?_
  have hA : At W w1.heap.size x := by rw [hW]; exact At.new _ _ _
  have hlt := hR.lt
  replace hR : Blk W w.heap.size [.string ⟨#[]⟩, .int .i64 0, .int .i64 0] := by rw [hW]; exact hR.alloc _
  replace hB : Below w.heap.size w W := by rw [hW]; exact hB.alloc hB.size _
  clear hW
  refine (wgiven_any hA).mono ?_
  rintro e w9 ⟨rfl, hb9⟩
  simp only [Sp.wgiven, Wt.val]
  replace hR := hR.later hb9
  replace hB := bstep hB hb9
  clear hb9 hlt
  have c0 := hR.cell 0 _ rfl
  have c1 := hR.cell 1 _ rfl
  have c2 := hR.cell 2 _ rfl
  have f0 := hR.fr 0 _ rfl
  have f1 := hR.fr 1 _ rfl
  have f2 := hR.fr 2 _ rfl
  have hltR := hR.lt
  go_wp2
  refine named_post fun V hV => ?_
  have hVR : Blk V w.heap.size [.string (x).s, .int .i64 (x).m, .int .i64 (x).e] := by rw [hV]; exact ((hR.set 0 _).set 1 _).set 2 _
  have hVB : Below w.heap.size w V := by rw [hV]; exact ((hB.setCell (p := ⟨w.heap.size, 0, none⟩) (Nat.le_refl _) _).setCell (p := ⟨w.heap.size, 1, none⟩) (Nat.le_refl _) _).setCell (p := ⟨w.heap.size, 2, none⟩) (Nat.le_refl _) _
  clear hV c0 c1 c2 f0 f1 f2
  have c0 := hVR.cell 0 _ rfl
  have c1 := hVR.cell 1 _ rfl
  have c2 := hVR.cell 2 _ rfl
  refine bodyPost_ret (by simp [results, Try.results27, go_sem, c0, c1, c2]; try rfl) rfl ?_
  exact ⟨by rw [hu.out]; rfl, hVB⟩
set_option maxHeartbeats 2000000 in
theorem putSized_any (r : Wt) (s' : ByteArray) (w : World) (hs3 : s'.size ≤ 1000000) :
    Calls Try.prog 35 #[r.val, .string s'] w fun e w' => e = .returned (putSizedW r s').val ∧ Below w.heap.size w w' := by
  obtain ⟨hk, hm2, hs2⟩ := wopened r
  have hopen := resume_any r
  obtain ⟨s, most, err⟩ := r
  obtain ⟨x, hx⟩ : ∃ x, x = Wt.opened ⟨s, most, err⟩ := ⟨_, rfl⟩
  have hu := (show putSizedW ⟨s, most, err⟩ s' = (if 65535 < s'.size then x.failAt 2 x.u else x.add [strOf (digI s'.size 2), s']).wgiven by rw [hx]; rfl)
  rw [← hx] at hk hm2 hs2 hopen
  clear hx
  simp only [Wt.val, Sp.val] at hopen ⊢
  by_cases hl : 65535 < s'.size
  · rw [if_pos hl] at hu
    replace hu := Lib.hid hu
    go_enter Try.func35, Try.ntmps35
    go_wp2_with fail
    refine named fun W hW => ?_
    have hB : Below w.heap.size w W := by rw [hW]; go_grown
    have hR : Blk W (w.heap.size + 1) [.string ⟨#[]⟩, .int .i64 0, .int .i64 0] := by rw [hW]; exact Blk.is (us := [.string ⟨#[]⟩, .int .i64 0, .int .i64 0]) _ (by simp)
    clear hW
    refine (hopen _).mono ?_
    rintro e w1 ⟨rfl, hb1⟩
    replace hB := bstep hB hb1
    replace hR := hR.later hb1
    clear hb1
    go_wp2_with fail
    refine named fun W hW => ?_
    have hA : At W w1.heap.size x := by rw [hW]; exact At.new _ _ _
    have hlt := hR.lt
    replace hR : Blk W (w.heap.size + 1) [.string ⟨#[]⟩, .int .i64 0, .int .i64 0] := by rw [hW]; exact hR.alloc _
    have hlt0 := hB.size
    replace hB : Below w.heap.size w W := by rw [hW]; exact hB.alloc hB.size _
    obtain ⟨b, hb⟩ : ∃ b, b = w1.heap.size := ⟨_, rfl⟩
    rw [← hb] at hA hlt0 ⊢ hlt
    clear hW hb
    refine (fail_any hA 2).mono ?_
    rintro e w2 ⟨rfl, hb2, hA⟩
    replace hR := hR.under hb2 hlt
    replace hB := hB.trans (hb2.mono (by omega))
    clear hb2
    go_wp2_with fail
    refine (wgiven_any hA).mono ?_
    rintro e w9 ⟨rfl, hb9⟩
    simp only [Sp.wgiven, Wt.val]
    replace hR := hR.later hb9
    replace hB := bstep hB hb9
    clear hb9 hA hlt
    have c0 := hR.cell 0 _ rfl
    have c1 := hR.cell 1 _ rfl
    have c2 := hR.cell 2 _ rfl
    have f0 := hR.fr 0 _ rfl
    have f1 := hR.fr 1 _ rfl
    have f2 := hR.fr 2 _ rfl
    have hltR := hR.lt
    go_wp2
    refine named_post fun V hV => ?_
    have hVR : Blk V (w.heap.size + 1) [.string (x.failAt 2 x.u).s, .int .i64 (x.failAt 2 x.u).m, .int .i64 (x.failAt 2 x.u).e] := by rw [hV]; exact ((hR.set 0 _).set 1 _).set 2 _
    have hVB : Below w.heap.size w V := by rw [hV]; exact ((hB.setCell (p := ⟨w.heap.size + 1, 0, none⟩) (by simp) _).setCell (p := ⟨w.heap.size + 1, 1, none⟩) (by simp) _).setCell (p := ⟨w.heap.size + 1, 2, none⟩) (by simp) _
    clear hV c0 c1 c2 f0 f1 f2
    have c0 := hVR.cell 0 _ rfl
    have c1 := hVR.cell 1 _ rfl
    have c2 := hVR.cell 2 _ rfl
    refine bodyPost_ret (by simp [results, Try.results35, go_sem, c0, c1, c2]; try rfl) rfl ?_
    exact ⟨by rw [hu.out]; rfl, hVB⟩
  · rw [if_neg hl] at hu
    replace hu := Lib.hid hu
    go_enter Try.func35, Try.ntmps35
    go_wp2_with fail
    refine named fun W hW => ?_
    have hB : Below w.heap.size w W := by rw [hW]; go_grown
    have hR : Blk W (w.heap.size + 1) [.string ⟨#[]⟩, .int .i64 0, .int .i64 0] := by rw [hW]; exact Blk.is (us := [.string ⟨#[]⟩, .int .i64 0, .int .i64 0]) _ (by simp)
    clear hW
    refine (hopen _).mono ?_
    rintro e w1 ⟨rfl, hb1⟩
    replace hB := bstep hB hb1
    replace hR := hR.later hb1
    clear hb1
    go_wp2_with fail
    refine named fun W hW => ?_
    have hA : At W w1.heap.size x := by rw [hW]; exact At.new _ _ _
    have hlt := hR.lt
    replace hR : Blk W (w.heap.size + 1) [.string ⟨#[]⟩, .int .i64 0, .int .i64 0] := by rw [hW]; exact hR.alloc _
    have hlt0 := hB.size
    replace hB : Below w.heap.size w W := by rw [hW]; exact hB.alloc hB.size _
    obtain ⟨b, hb⟩ : ∃ b, b = w1.heap.size := ⟨_, rfl⟩
    rw [← hb] at hA hlt0 ⊢ hlt
    clear hW hb
    have hdig := digitsN_any s'.size 2 W (.inr (.inl rfl))
    refine hdig.mono ?_
    rintro e w2 ⟨rfl, hb2⟩
    have hA0 := hA
    replace hA := hA.later hb2
    replace hR := hR.later hb2
    replace hB := bstep hB hb2
    clear hdig
    go_wp2_with fail
    refine named fun W3 hW => ?_
    have hv : Blk W3 w2.heap.size (strs [strOf (digI s'.size 2), s']) := by rw [hW]; exact Blk.is (us := strs [strOf (digI s'.size 2), s']) _ rfl
    replace hA := hA.alloc (.cells (strs [strOf (digI s'.size 2), s']).toArray 9)
    replace hR := hR.alloc (.cells (strs [strOf (digI s'.size 2), s']).toArray 9)
    have hltv := Nat.lt_of_lt_of_le hA0.lt hb2.size
    replace hB := hB.alloc hB.size (.cells (strs [strOf (digI s'.size 2), s']).toArray 9)
    have hW' : w2.alloc (.cells (strs [strOf (digI s'.size 2), s']).toArray 9) = W3 := hW.symm
    rw [hW'] at hA hR hB
    clear hW hW' hb2 hA0
    refine (add_any hA hk hm2 (by omega) (Sln.blk hv (by simp [strs])) (by simp) (fun s hs => by
      rcases List.mem_cons.1 hs with rfl | hs
      · rw [strOf_size, digI_length]; decide
      · rw [List.mem_singleton.1 hs]; exact hs3) (fun B o n cap e => by cases e; omega)).mono ?_
    rintro e w4 ⟨rfl, hb2, hA⟩
    replace hR := hR.under hb2 hlt
    replace hB := hB.trans (hb2.mono (by omega))
    clear hb2
    go_wp2_with fail
    refine (wgiven_any hA).mono ?_
    rintro e w9 ⟨rfl, hb9⟩
    simp only [Sp.wgiven, Wt.val]
    replace hR := hR.later hb9
    replace hB := bstep hB hb9
    clear hb9 hA hlt
    have c0 := hR.cell 0 _ rfl
    have c1 := hR.cell 1 _ rfl
    have c2 := hR.cell 2 _ rfl
    have f0 := hR.fr 0 _ rfl
    have f1 := hR.fr 1 _ rfl
    have f2 := hR.fr 2 _ rfl
    have hltR := hR.lt
    go_wp2
    refine named_post fun V hV => ?_
    have hVR : Blk V (w.heap.size + 1) [.string (x.add [strOf (digI s'.size 2), s']).s, .int .i64 (x.add [strOf (digI s'.size 2), s']).m, .int .i64 (x.add [strOf (digI s'.size 2), s']).e] := by rw [hV]; exact ((hR.set 0 _).set 1 _).set 2 _
    have hVB : Below w.heap.size w V := by rw [hV]; exact ((hB.setCell (p := ⟨w.heap.size + 1, 0, none⟩) (by simp) _).setCell (p := ⟨w.heap.size + 1, 1, none⟩) (by simp) _).setCell (p := ⟨w.heap.size + 1, 2, none⟩) (by simp) _
    clear hV c0 c1 c2 f0 f1 f2
    have c0 := hVR.cell 0 _ rfl
    have c1 := hVR.cell 1 _ rfl
    have c2 := hVR.cell 2 _ rfl
    refine bodyPost_ret (by simp [results, Try.results35, go_sem, c0, c1, c2]; try rfl) rfl ?_
    exact ⟨by rw [hu.out]; rfl, hVB⟩
set_option maxHeartbeats 2000000 in
theorem put_any (r : Wt) (size n : Int) (w : World) :
    Calls Try.prog 29 #[r.val, .int .i64 size, .int .u64 n] w fun e w' => e = .returned (putW r size n).val ∧ Below w.heap.size w w' := by
  obtain ⟨hk, hm2, hs2⟩ := wopened r
  have hopen := resume_any r
  obtain ⟨s, most, err⟩ := r
  obtain ⟨x, hx⟩ : ∃ x, x = Wt.opened ⟨s, most, err⟩ := ⟨_, rfl⟩
  have hu := (show putW ⟨s, most, err⟩ size n = (if isSz size = true ∧ fitsI n size.toNat = true then x.add [strOf (digI n size.toNat)] else x.failAt 2 x.u).wgiven by rw [hx]; rfl)
  rw [← hx] at hk hm2 hs2 hopen
  clear hx
  simp only [Wt.val, Sp.val] at hopen ⊢
  cases hz : isSz size
  · rw [if_neg (by rw [hz]; simp)] at hu
    replace hu := Lib.hid hu
    have HZ := Lib.hid hz
    clear hz
    go_enter Try.func29, Try.ntmps29
    go_wp2_with fail
    refine named fun W hW => ?_
    have hB : Below w.heap.size w W := by rw [hW]; go_grown
    have hR : Blk W (w.heap.size + 1) [.string ⟨#[]⟩, .int .i64 0, .int .i64 0] := by rw [hW]; exact Blk.is (us := [.string ⟨#[]⟩, .int .i64 0, .int .i64 0]) _ (by simp)
    clear hW
    refine (hopen _).mono ?_
    rintro e w1 ⟨rfl, hb1⟩
    replace hB := bstep hB hb1
    replace hR := hR.later hb1
    clear hb1
    go_wp2_with fail
    refine named fun W hW => ?_
    have hA : At W w1.heap.size x := by rw [hW]; exact At.new _ _ _
    have hlt := hR.lt
    replace hR : Blk W (w.heap.size + 1) [.string ⟨#[]⟩, .int .i64 0, .int .i64 0] := by rw [hW]; exact hR.alloc _
    have hlt0 := hB.size
    replace hB : Below w.heap.size w W := by rw [hW]; exact hB.alloc hB.size _
    obtain ⟨b, hb⟩ : ∃ b, b = w1.heap.size := ⟨_, rfl⟩
    rw [← hb] at hA hlt0 ⊢ hlt
    clear hW hb
    refine (isSize_is HZ.out _).mono ?_
    rintro e w' ⟨rfl, rfl⟩
    go_wp2_with fail
    refine (fail_any hA 2).mono ?_
    rintro e w2 ⟨rfl, hb2, hA⟩
    replace hR := hR.under hb2 hlt
    replace hB := hB.trans (hb2.mono (by omega))
    clear hb2
    go_wp2_with fail
    refine (wgiven_any hA).mono ?_
    rintro e w9 ⟨rfl, hb9⟩
    simp only [Sp.wgiven, Wt.val]
    replace hR := hR.later hb9
    replace hB := bstep hB hb9
    clear hb9 hA hlt
    have c0 := hR.cell 0 _ rfl
    have c1 := hR.cell 1 _ rfl
    have c2 := hR.cell 2 _ rfl
    have f0 := hR.fr 0 _ rfl
    have f1 := hR.fr 1 _ rfl
    have f2 := hR.fr 2 _ rfl
    have hltR := hR.lt
    go_wp2
    refine named_post fun V hV => ?_
    have hVR : Blk V (w.heap.size + 1) [.string (x.failAt 2 x.u).s, .int .i64 (x.failAt 2 x.u).m, .int .i64 (x.failAt 2 x.u).e] := by rw [hV]; exact ((hR.set 0 _).set 1 _).set 2 _
    have hVB : Below w.heap.size w V := by rw [hV]; exact ((hB.setCell (p := ⟨w.heap.size + 1, 0, none⟩) (by simp) _).setCell (p := ⟨w.heap.size + 1, 1, none⟩) (by simp) _).setCell (p := ⟨w.heap.size + 1, 2, none⟩) (by simp) _
    clear hV c0 c1 c2 f0 f1 f2
    have c0 := hVR.cell 0 _ rfl
    have c1 := hVR.cell 1 _ rfl
    have c2 := hVR.cell 2 _ rfl
    refine bodyPost_ret (by simp [results, Try.results29, go_sem, c0, c1, c2]; try rfl) rfl ?_
    exact ⟨by rw [hu.out]; rfl, hVB⟩
  · have h0 : 0 ≤ size := by have := isSz_iff.1 hz; omega
    obtain ⟨k, rfl⟩ := Int.eq_ofNat_of_zero_le h0
    rw [Int.toNat_natCast] at hu
    have hk8 : k = 1 ∨ k = 2 ∨ k = 4 ∨ k = 8 := by have := isSz_iff.1 hz; omega
    cases hf : fitsI n k
    · rw [if_neg (by rw [hf]; simp)] at hu
      replace hu := Lib.hid hu
      have HZ := Lib.hid hz
      have HF := Lib.hid hf
      clear hz hf
      go_enter Try.func29, Try.ntmps29
      go_wp2_with fail
      refine named fun W hW => ?_
      have hB : Below w.heap.size w W := by rw [hW]; go_grown
      have hR : Blk W (w.heap.size + 1) [.string ⟨#[]⟩, .int .i64 0, .int .i64 0] := by rw [hW]; exact Blk.is (us := [.string ⟨#[]⟩, .int .i64 0, .int .i64 0]) _ (by simp)
      clear hW
      refine (hopen _).mono ?_
      rintro e w1 ⟨rfl, hb1⟩
      replace hB := bstep hB hb1
      replace hR := hR.later hb1
      clear hb1
      go_wp2_with fail
      refine named fun W hW => ?_
      have hA : At W w1.heap.size x := by rw [hW]; exact At.new _ _ _
      have hlt := hR.lt
      replace hR : Blk W (w.heap.size + 1) [.string ⟨#[]⟩, .int .i64 0, .int .i64 0] := by rw [hW]; exact hR.alloc _
      have hlt0 := hB.size
      replace hB : Below w.heap.size w W := by rw [hW]; exact hB.alloc hB.size _
      obtain ⟨b, hb⟩ : ∃ b, b = w1.heap.size := ⟨_, rfl⟩
      rw [← hb] at hA hlt0 ⊢ hlt
      clear hW hb
      refine (isSize_is HZ.out _).mono ?_
      rintro e w' ⟨rfl, rfl⟩
      go_wp2_with fail
      refine (fits_is HF.out _ (by omega)).mono ?_
      rintro e w' ⟨rfl, rfl⟩
      go_wp2_with fail
      refine (fail_any hA 2).mono ?_
      rintro e w2 ⟨rfl, hb2, hA⟩
      replace hR := hR.under hb2 hlt
      replace hB := hB.trans (hb2.mono (by omega))
      clear hb2
      go_wp2_with fail
      refine (wgiven_any hA).mono ?_
      rintro e w9 ⟨rfl, hb9⟩
      simp only [Sp.wgiven, Wt.val]
      replace hR := hR.later hb9
      replace hB := bstep hB hb9
      clear hb9 hA hlt
      have c0 := hR.cell 0 _ rfl
      have c1 := hR.cell 1 _ rfl
      have c2 := hR.cell 2 _ rfl
      have f0 := hR.fr 0 _ rfl
      have f1 := hR.fr 1 _ rfl
      have f2 := hR.fr 2 _ rfl
      have hltR := hR.lt
      go_wp2
      refine named_post fun V hV => ?_
      have hVR : Blk V (w.heap.size + 1) [.string (x.failAt 2 x.u).s, .int .i64 (x.failAt 2 x.u).m, .int .i64 (x.failAt 2 x.u).e] := by rw [hV]; exact ((hR.set 0 _).set 1 _).set 2 _
      have hVB : Below w.heap.size w V := by rw [hV]; exact ((hB.setCell (p := ⟨w.heap.size + 1, 0, none⟩) (by simp) _).setCell (p := ⟨w.heap.size + 1, 1, none⟩) (by simp) _).setCell (p := ⟨w.heap.size + 1, 2, none⟩) (by simp) _
      clear hV c0 c1 c2 f0 f1 f2
      have c0 := hVR.cell 0 _ rfl
      have c1 := hVR.cell 1 _ rfl
      have c2 := hVR.cell 2 _ rfl
      refine bodyPost_ret (by simp [results, Try.results29, go_sem, c0, c1, c2]; try rfl) rfl ?_
      exact ⟨by rw [hu.out]; rfl, hVB⟩
    · rw [if_pos ⟨hz, hf⟩] at hu
      replace hu := Lib.hid hu
      have HZ := Lib.hid hz
      have HF := Lib.hid hf
      clear hz hf
      go_enter Try.func29, Try.ntmps29
      go_wp2_with fail
      refine named fun W hW => ?_
      have hB : Below w.heap.size w W := by rw [hW]; go_grown
      have hR : Blk W (w.heap.size + 1) [.string ⟨#[]⟩, .int .i64 0, .int .i64 0] := by rw [hW]; exact Blk.is (us := [.string ⟨#[]⟩, .int .i64 0, .int .i64 0]) _ (by simp)
      clear hW
      refine (hopen _).mono ?_
      rintro e w1 ⟨rfl, hb1⟩
      replace hB := bstep hB hb1
      replace hR := hR.later hb1
      clear hb1
      go_wp2_with fail
      refine named fun W hW => ?_
      have hA : At W w1.heap.size x := by rw [hW]; exact At.new _ _ _
      have hlt := hR.lt
      replace hR : Blk W (w.heap.size + 1) [.string ⟨#[]⟩, .int .i64 0, .int .i64 0] := by rw [hW]; exact hR.alloc _
      have hlt0 := hB.size
      replace hB : Below w.heap.size w W := by rw [hW]; exact hB.alloc hB.size _
      obtain ⟨b, hb⟩ : ∃ b, b = w1.heap.size := ⟨_, rfl⟩
      rw [← hb] at hA hlt0 ⊢ hlt
      clear hW hb
      refine (isSize_is HZ.out _).mono ?_
      rintro e w' ⟨rfl, rfl⟩
      go_wp2_with fail
      refine (fits_is HF.out _ (by omega)).mono ?_
      rintro e w' ⟨rfl, rfl⟩
      go_wp2_with fail
      have hdig := digitsU_any n k W hk8
      refine hdig.mono ?_
      rintro e w2 ⟨rfl, hb2⟩
      have hA0 := hA
      replace hA := hA.later hb2
      replace hR := hR.later hb2
      replace hB := bstep hB hb2
      clear hdig
      go_wp2_with fail
      refine named fun W3 hW => ?_
      have hv : Blk W3 w2.heap.size (strs [strOf (digI n k)]) := by rw [hW]; exact Blk.is (us := strs [strOf (digI n k)]) _ rfl
      replace hA := hA.alloc (.cells (strs [strOf (digI n k)]).toArray 9)
      replace hR := hR.alloc (.cells (strs [strOf (digI n k)]).toArray 9)
      have hltv := Nat.lt_of_lt_of_le hA0.lt hb2.size
      replace hB := hB.alloc hB.size (.cells (strs [strOf (digI n k)]).toArray 9)
      have hW' : w2.alloc (.cells (strs [strOf (digI n k)]).toArray 9) = W3 := hW.symm
      rw [hW'] at hA hR hB
      clear hW hW' hb2 hA0
      refine (add_any hA hk hm2 (by omega) (Sln.blk hv (by simp [strs])) (by simp) (fun s hs => by
        rw [List.mem_singleton.1 hs, strOf_size, digI_length]; omega) (fun B o n cap e => by cases e; omega)).mono ?_
      rintro e w4 ⟨rfl, hb2, hA⟩
      replace hR := hR.under hb2 hlt
      replace hB := hB.trans (hb2.mono (by omega))
      clear hb2
      go_wp2_with fail
      refine (wgiven_any hA).mono ?_
      rintro e w9 ⟨rfl, hb9⟩
      simp only [Sp.wgiven, Wt.val]
      replace hR := hR.later hb9
      replace hB := bstep hB hb9
      clear hb9 hA hlt
      have c0 := hR.cell 0 _ rfl
      have c1 := hR.cell 1 _ rfl
      have c2 := hR.cell 2 _ rfl
      have f0 := hR.fr 0 _ rfl
      have f1 := hR.fr 1 _ rfl
      have f2 := hR.fr 2 _ rfl
      have hltR := hR.lt
      go_wp2
      refine named_post fun V hV => ?_
      have hVR : Blk V (w.heap.size + 1) [.string (x.add [strOf (digI n k)]).s, .int .i64 (x.add [strOf (digI n k)]).m, .int .i64 (x.add [strOf (digI n k)]).e] := by rw [hV]; exact ((hR.set 0 _).set 1 _).set 2 _
      have hVB : Below w.heap.size w V := by rw [hV]; exact ((hB.setCell (p := ⟨w.heap.size + 1, 0, none⟩) (by simp) _).setCell (p := ⟨w.heap.size + 1, 1, none⟩) (by simp) _).setCell (p := ⟨w.heap.size + 1, 2, none⟩) (by simp) _
      clear hV c0 c1 c2 f0 f1 f2
      have c0 := hVR.cell 0 _ rfl
      have c1 := hVR.cell 1 _ rfl
      have c2 := hVR.cell 2 _ rfl
      refine bodyPost_ret (by simp [results, Try.results29, go_sem, c0, c1, c2]; try rfl) rfl ?_
      exact ⟨by rw [hu.out]; rfl, hVB⟩
end Go.Proofs.Ytgcgoiaadigmfaa
