/- Walk: WireReads. -/
import Derived.Test.YtgcgoiaadigmfaaWireM
import Derived.Test.YtgcgoiaadigmfaaWireN
import Derived.Test.YtgcgoiaadigmfaaWireV
import Derived.Deep.RegionHeld3
namespace Go.Proofs.Ytgcgoiaadigmfaa
open Go.RowKit
open Wr

/-- What the last region holds fast: the cells of the reader and of what is asked, and what lay. -/
theorem keep8 {W wx w' : World} {a0 a1 a2 a3 b1 b2 b3 : Addr} {c0 c1 c2 c3 d1 d2 d3 : Value} (h0 : wx.cell? a0 = some c0) (h1 : wx.cell? a1 = some c1) (h2 : wx.cell? a2 = some c2) (h3 : wx.cell? a3 = some c3)
    (k1 : wx.cell? b1 = some d1) (k2 : wx.cell? b2 = some d2) (k3 : wx.cell? b3 = some d3) (h4 : Below W.heap.size W wx) (hb : Below wx.heap.size wx w') :
    w'.cell? a0 = some c0 ∧ w'.cell? a1 = some c1 ∧ w'.cell? a2 = some c2 ∧ w'.cell? a3 = some c3 ∧ w'.cell? b1 = some d1 ∧ w'.cell? b2 = some d2 ∧ w'.cell? b3 = some d3 ∧ Below W.heap.size W w' :=
  have hl : ∀ {p : Addr} {v : Value}, wx.cell? p = some v → w'.cell? p = some v := fun {_ _} h => (hb.cell (World.block_lt_of_cell? wx _ h)).trans h
  ⟨hl h0, hl h1, hl h2, hl h3, hl k1, hl k2, hl k3, bstep h4 hb⟩
theorem held8 {P : Program} {f : FuncId} {args : Array Value} {v : Value} {W wx : World} {a0 a1 a2 a3 b1 b2 b3 : Addr} {c0 c1 c2 c3 d1 d2 d3 : Value} (hc : ∀ w, Calls P f args w fun e w' => e = .returned v ∧ Below w.heap.size w w')
    (h0 : wx.cell? a0 = some c0) (h1 : wx.cell? a1 = some c1) (h2 : wx.cell? a2 = some c2) (h3 : wx.cell? a3 = some c3)
    (k1 : wx.cell? b1 = some d1) (k2 : wx.cell? b2 = some d2) (k3 : wx.cell? b3 = some d3) (h4 : Below W.heap.size W wx) :
    Calls P f args wx fun e w' => e = .returned v ∧ w'.cell? a0 = some c0 ∧ w'.cell? a1 = some c1 ∧ w'.cell? a2 = some c2 ∧ w'.cell? a3 = some c3 ∧ w'.cell? b1 = some d1 ∧ w'.cell? b2 = some d2 ∧ w'.cell? b3 = some d3 ∧ Below W.heap.size W w' :=
  (hc wx).mono fun _ _ hh => ⟨hh.1, keep8 h0 h1 h2 h3 k1 k2 k3 h4 hh.2⟩
theorem below_drew (n : Nat) (w w' : World) : Below n w w'.drew = Below n w w' := by
  apply propext
  constructor
  · intro h; exact ⟨h.os, h.tape, h.output, h.size, h.block⟩
  · intro h; exact ⟨h.os, h.tape, h.output, h.size, h.block⟩
attribute [local go_sem] below_drew
attribute [local simp] below_drew

set_option maxRecDepth 100000 in
set_option maxHeartbeats 8000000 in
theorem reads_any (r : Rd) (n xe xa : Int) (s' : ByteArray) (w : World) (hs : r.s.size ≤ 9223372036854775807) (hs' : s'.size ≤ 9223372036854775807) (hn : n ≤ 9223372036854775807) :
    Calls Try.prog 3 #[r.val, .agg #[.int .i64 n, .string s', .int .i64 xe, .int .i64 xa]] w fun e w' => e = .returned (.bool true) ∧ Below w.heap.size w w' := by
  obtain ⟨s, at_, err, fat⟩ := r
  simp only at hs
  simp only [Rd.val]
  by_cases hlen : s.size ≤ 300 ∧ s'.size ≤ 300
  · obtain ⟨hl1, hl2⟩ := hlen
    have hk1 : decide ((300 : Int) < (s.size : Int)) = false := by simp; omega
    have hk2 : decide ((300 : Int) < (s'.size : Int)) = false := by simp; omega
    obtain ⟨z, hz⟩ : ∃ z, z = uintR ⟨s, at_, err, fat⟩ n := ⟨_, rfl⟩
    have hU := fun w => uint_any ⟨s, at_, err, fat⟩ n w hs
    have gU := fun w => refUint_any ⟨s, at_, err, fat⟩ n w hs
    rw [← hz] at hU gU
    clear hz
    obtain ⟨⟨u0, u1, u2, u3⟩, un⟩ := z
    simp only [Rd.val] at hU gU
    obtain ⟨z, hz⟩ : ∃ z, z = int64R ⟨s, at_, err, fat⟩ := ⟨_, rfl⟩
    have hI := fun w => int64_any ⟨s, at_, err, fat⟩ w hs
    have gI := fun w => refInt64_any ⟨s, at_, err, fat⟩ w hs
    rw [← hz] at hI gI
    clear hz
    obtain ⟨⟨i0, i1, i2, i3⟩, iN⟩ := z
    simp only [Rd.val] at hI gI
    obtain ⟨z, hz⟩ : ∃ z, z = bytesR ⟨s, at_, err, fat⟩ n := ⟨_, rfl⟩
    have hY := fun w => bytes_any ⟨s, at_, err, fat⟩ n w hs hn
    have gY := fun w => refBytes_any ⟨s, at_, err, fat⟩ n w hs hn
    rw [← hz] at hY gY
    clear hz
    obtain ⟨⟨y0, y1, y2, y3⟩, yn⟩ := z
    simp only [Rd.val] at hY gY
    obtain ⟨z, hz⟩ : ∃ z, z = sizedR ⟨s, at_, err, fat⟩ n := ⟨_, rfl⟩
    have hZ := fun w => sizedR_any ⟨s, at_, err, fat⟩ n w hs
    have gZ := fun w => refSized_any ⟨s, at_, err, fat⟩ n w hs
    rw [← hz] at hZ gZ
    clear hz
    obtain ⟨⟨z0, z1, z2, z3⟩, zn⟩ := z
    simp only [Rd.val] at hZ gZ
    obtain ⟨z, hz⟩ : ∃ z, z = wantR ⟨s, at_, err, fat⟩ s' := ⟨_, rfl⟩
    have hV := fun w => want_any ⟨s, at_, err, fat⟩ s' w hs hs'
    have gV := fun w => refWant_any ⟨s, at_, err, fat⟩ s' w hs hs'
    rw [← hz] at hV gV
    clear hz
    obtain ⟨a0, a1, a2, a3⟩ := z
    simp only [Rd.val] at hV gV
    obtain ⟨z, hz⟩ : ∃ z, z = failR ⟨s, at_, err, fat⟩ xe xa := ⟨_, rfl⟩
    have hF := fun w => failR_any ⟨s, at_, err, fat⟩ xe xa w hs
    have gF := fun w => refFailR_any ⟨s, at_, err, fat⟩ xe xa w hs
    rw [← hz] at hF gF
    clear hz
    obtain ⟨b0, b1, b2, b3⟩ := z
    simp only [Rd.val] at hF gF
    obtain ⟨z, hz⟩ : ∃ z, z = endR ⟨s, at_, err, fat⟩ := ⟨_, rfl⟩
    have hE := fun w => end_any ⟨s, at_, err, fat⟩ w hs
    have gE := fun w => refEnd_any ⟨s, at_, err, fat⟩ w hs
    rw [← hz] at hE gE
    clear hz
    obtain ⟨e0, e1, e2, e3, e4⟩ := z
    simp only [Rd.val] at hE gE
    obtain ⟨z, hz⟩ : ∃ z, z = readR s := ⟨_, rfl⟩
    have hQ := fun w => read_any s w
    have gQ := fun w => refRead_any s w
    rw [← hz] at hQ gQ
    clear hz
    obtain ⟨r0, r1, r2, r3⟩ := z
    simp only [Rd.val] at hQ gQ
    go_enter Try.func3, Try.ntmps3
    go_wp2_with fail
    refine named fun W1 hW => ?_
    have hKr : Blk W1 w.heap.size [.string s, .int .i64 at_, .int .i64 err, .int .i64 fat] := by rw [hW]; exact ((Blk.is (us := [.string s, .int .i64 at_, .int .i64 err, .int .i64 fat]) _ rfl).alloc _)
    have hKx : Blk W1 (w.heap.size + 1) [.int .i64 n, .string s', .int .i64 xe, .int .i64 xa] := by rw [hW]; exact (Blk.is (us := [.int .i64 n, .string s', .int .i64 xe, .int .i64 xa]) _ (by simp))
    have hB : Below w.heap.size w W1 := by rw [hW]; exact (((Below.refl _ _)).alloc (Nat.le_refl _) _).alloc (by simp) _
    have hler : w.heap.size ≤ w.heap.size := by omega
    have hlex : w.heap.size ≤ (w.heap.size + 1) := by omega
    have hltrx : w.heap.size < (w.heap.size + 1) := by omega
    clear hW
    refine (hU _).mono ?_
    rintro e w2 ⟨rfl, hb⟩
    replace hKr := hKr.later hb
    replace hKx := hKx.later hb
    replace hB := bstep hB hb
    clear hb
    have cr0 := hKr.cell 0 _ rfl
    have fr0 := hKr.fr 0 _ rfl
    have cr1 := hKr.cell 1 _ rfl
    have fr1 := hKr.fr 1 _ rfl
    have cr2 := hKr.cell 2 _ rfl
    have fr2 := hKr.fr 2 _ rfl
    have cr3 := hKr.cell 3 _ rfl
    have fr3 := hKr.fr 3 _ rfl
    have cx0 := hKx.cell 0 _ rfl
    have fx0 := hKx.fr 0 _ rfl
    have cx1 := hKx.cell 1 _ rfl
    have fx1 := hKx.fr 1 _ rfl
    have cx2 := hKx.cell 2 _ rfl
    have fx2 := hKx.fr 2 _ rfl
    have cx3 := hKx.cell 3 _ rfl
    have fx3 := hKx.fr 3 _ rfl
    have lr := hKr.lt
    have lx := hKx.lt
    go_wp2_with fail
    have hBold := hB.size
    have hltoldr := hKr.lt
    have hltoldx := hKx.lt
    refine named fun W3 hW => ?_
    replace hKr : Blk W3 w.heap.size [.string s, .int .i64 at_, .int .i64 err, .int .i64 fat] := by rw [hW]; exact (hKr.alloc _)
    replace hKx : Blk W3 (w.heap.size + 1) [.int .i64 n, .string s', .int .i64 xe, .int .i64 xa] := by rw [hW]; exact (hKx.alloc _)
    have hKa : Blk W3 w2.heap.size [.string u0, .int .i64 u1, .int .i64 u2, .int .i64 u3] := by rw [hW]; exact (Blk.is (us := [.string u0, .int .i64 u1, .int .i64 u2, .int .i64 u3]) _ rfl)
    replace hB : Below w.heap.size w W3 := by rw [hW]; exact (hB).alloc hB.size _
    have hlea : w.heap.size ≤ w2.heap.size := by have := hBold; omega
    have hltra : w.heap.size < w2.heap.size := by have := hltoldr; omega
    have hltxa : (w.heap.size + 1) < w2.heap.size := by have := hltoldx; omega
    clear hW cr0 fr0 cr1 fr1 cr2 fr2 cr3 fr3 cx0 fx0 cx1 fx1 cx2 fx2 cx3 fx3 lr lx hBold hltoldr hltoldx
    refine (gU _).mono ?_
    rintro e w4 ⟨rfl, hb⟩
    replace hKr := hKr.later hb
    replace hKx := hKx.later hb
    replace hKa := hKa.later hb
    replace hB := bstep hB hb
    clear hb
    have cr0 := hKr.cell 0 _ rfl
    have fr0 := hKr.fr 0 _ rfl
    have cr1 := hKr.cell 1 _ rfl
    have fr1 := hKr.fr 1 _ rfl
    have cr2 := hKr.cell 2 _ rfl
    have fr2 := hKr.fr 2 _ rfl
    have cr3 := hKr.cell 3 _ rfl
    have fr3 := hKr.fr 3 _ rfl
    have cx0 := hKx.cell 0 _ rfl
    have fx0 := hKx.fr 0 _ rfl
    have cx1 := hKx.cell 1 _ rfl
    have fx1 := hKx.fr 1 _ rfl
    have cx2 := hKx.cell 2 _ rfl
    have fx2 := hKx.fr 2 _ rfl
    have cx3 := hKx.cell 3 _ rfl
    have fx3 := hKx.fr 3 _ rfl
    have ca0 := hKa.cell 0 _ rfl
    have fa0 := hKa.fr 0 _ rfl
    have ca1 := hKa.cell 1 _ rfl
    have fa1 := hKa.fr 1 _ rfl
    have ca2 := hKa.cell 2 _ rfl
    have fa2 := hKa.fr 2 _ rfl
    have ca3 := hKa.cell 3 _ rfl
    have fa3 := hKa.fr 3 _ rfl
    have lr := hKr.lt
    have lx := hKx.lt
    have la := hKa.lt
    go_wp2_with fail
    have hBold := hB.size
    have hltoldr := hKr.lt
    have hltoldx := hKx.lt
    have hltolda := hKa.lt
    refine named fun W5 hW => ?_
    replace hKr : Blk W5 w.heap.size [.string s, .int .i64 at_, .int .i64 err, .int .i64 fat] := by rw [hW]; exact (hKr.alloc _)
    replace hKx : Blk W5 (w.heap.size + 1) [.int .i64 n, .string s', .int .i64 xe, .int .i64 xa] := by rw [hW]; exact (hKx.alloc _)
    replace hKa : Blk W5 w2.heap.size [.string u0, .int .i64 u1, .int .i64 u2, .int .i64 u3] := by rw [hW]; exact (hKa.alloc _)
    have hKb : Blk W5 w4.heap.size [.string u0, .int .i64 u1, .int .i64 u2, .int .i64 u3] := by rw [hW]; exact (Blk.is (us := [.string u0, .int .i64 u1, .int .i64 u2, .int .i64 u3]) _ rfl)
    replace hB : Below w.heap.size w W5 := by rw [hW]; exact (hB).alloc hB.size _
    have hleb : w.heap.size ≤ w4.heap.size := by have := hBold; omega
    have hltrb : w.heap.size < w4.heap.size := by have := hltoldr; omega
    have hltxb : (w.heap.size + 1) < w4.heap.size := by have := hltoldx; omega
    have hltab : w2.heap.size < w4.heap.size := by have := hltolda; omega
    clear hW cr0 fr0 cr1 fr1 cr2 fr2 cr3 fr3 cx0 fx0 cx1 fx1 cx2 fx2 cx3 fx3 ca0 fa0 ca1 fa1 ca2 fa2 ca3 fa3 lr lx la hBold hltoldr hltoldx hltolda
    refine (hI _).mono ?_
    rintro e w6 ⟨rfl, hb⟩
    replace hKr := hKr.later hb
    replace hKx := hKx.later hb
    replace hKa := hKa.later hb
    replace hKb := hKb.later hb
    replace hB := bstep hB hb
    clear hb
    have cr0 := hKr.cell 0 _ rfl
    have fr0 := hKr.fr 0 _ rfl
    have cr1 := hKr.cell 1 _ rfl
    have fr1 := hKr.fr 1 _ rfl
    have cr2 := hKr.cell 2 _ rfl
    have fr2 := hKr.fr 2 _ rfl
    have cr3 := hKr.cell 3 _ rfl
    have fr3 := hKr.fr 3 _ rfl
    have cx0 := hKx.cell 0 _ rfl
    have fx0 := hKx.fr 0 _ rfl
    have cx1 := hKx.cell 1 _ rfl
    have fx1 := hKx.fr 1 _ rfl
    have cx2 := hKx.cell 2 _ rfl
    have fx2 := hKx.fr 2 _ rfl
    have cx3 := hKx.cell 3 _ rfl
    have fx3 := hKx.fr 3 _ rfl
    have ca0 := hKa.cell 0 _ rfl
    have fa0 := hKa.fr 0 _ rfl
    have ca1 := hKa.cell 1 _ rfl
    have fa1 := hKa.fr 1 _ rfl
    have ca2 := hKa.cell 2 _ rfl
    have fa2 := hKa.fr 2 _ rfl
    have ca3 := hKa.cell 3 _ rfl
    have fa3 := hKa.fr 3 _ rfl
    go_wp2_with fail
    refine named fun W7 hW => ?_
    replace hKr : Blk W7 w.heap.size [.string s, .int .i64 at_, .int .i64 err, .int .i64 fat] := by rw [hW]; exact ((((hKr.other (Nat.ne_of_gt hltra) _).other (Nat.ne_of_gt hltra) _).other (Nat.ne_of_gt hltra) _).other (Nat.ne_of_gt hltra) _)
    replace hKx : Blk W7 (w.heap.size + 1) [.int .i64 n, .string s', .int .i64 xe, .int .i64 xa] := by rw [hW]; exact ((((hKx.other (Nat.ne_of_gt hltxa) _).other (Nat.ne_of_gt hltxa) _).other (Nat.ne_of_gt hltxa) _).other (Nat.ne_of_gt hltxa) _)
    replace hKa : Blk W7 w2.heap.size [.string i0, .int .i64 i1, .int .i64 i2, .int .i64 i3] := by rw [hW]; exact ((((hKa.set 0 _).set 1 _).set 2 _).set 3 _)
    replace hKb : Blk W7 w4.heap.size [.string u0, .int .i64 u1, .int .i64 u2, .int .i64 u3] := by rw [hW]; exact ((((hKb.other (Nat.ne_of_lt hltab) _).other (Nat.ne_of_lt hltab) _).other (Nat.ne_of_lt hltab) _).other (Nat.ne_of_lt hltab) _)
    replace hB : Below w.heap.size w W7 := by rw [hW]; exact ((((hB).setCell (p := ⟨w2.heap.size, 0, none⟩) hlea _).setCell (p := ⟨w2.heap.size, 1, none⟩) hlea _).setCell (p := ⟨w2.heap.size, 2, none⟩) hlea _).setCell (p := ⟨w2.heap.size, 3, none⟩) hlea _
    clear hW cr0 fr0 cr1 fr1 cr2 fr2 cr3 fr3 cx0 fx0 cx1 fx1 cx2 fx2 cx3 fx3 ca0 fa0 ca1 fa1 ca2 fa2 ca3 fa3
    refine (gI _).mono ?_
    rintro e w8 ⟨rfl, hb⟩
    replace hKr := hKr.later hb
    replace hKx := hKx.later hb
    replace hKa := hKa.later hb
    replace hKb := hKb.later hb
    replace hB := bstep hB hb
    clear hb
    have cr0 := hKr.cell 0 _ rfl
    have fr0 := hKr.fr 0 _ rfl
    have cr1 := hKr.cell 1 _ rfl
    have fr1 := hKr.fr 1 _ rfl
    have cr2 := hKr.cell 2 _ rfl
    have fr2 := hKr.fr 2 _ rfl
    have cr3 := hKr.cell 3 _ rfl
    have fr3 := hKr.fr 3 _ rfl
    have cx0 := hKx.cell 0 _ rfl
    have fx0 := hKx.fr 0 _ rfl
    have cx1 := hKx.cell 1 _ rfl
    have fx1 := hKx.fr 1 _ rfl
    have cx2 := hKx.cell 2 _ rfl
    have fx2 := hKx.fr 2 _ rfl
    have cx3 := hKx.cell 3 _ rfl
    have fx3 := hKx.fr 3 _ rfl
    have ca0 := hKa.cell 0 _ rfl
    have fa0 := hKa.fr 0 _ rfl
    have ca1 := hKa.cell 1 _ rfl
    have fa1 := hKa.fr 1 _ rfl
    have ca2 := hKa.cell 2 _ rfl
    have fa2 := hKa.fr 2 _ rfl
    have ca3 := hKa.cell 3 _ rfl
    have fa3 := hKa.fr 3 _ rfl
    have cb0 := hKb.cell 0 _ rfl
    have fb0 := hKb.fr 0 _ rfl
    have cb1 := hKb.cell 1 _ rfl
    have fb1 := hKb.fr 1 _ rfl
    have cb2 := hKb.cell 2 _ rfl
    have fb2 := hKb.fr 2 _ rfl
    have cb3 := hKb.cell 3 _ rfl
    have fb3 := hKb.fr 3 _ rfl
    go_wp2_with fail
    refine named fun W9 hW => ?_
    replace hKr : Blk W9 w.heap.size [.string s, .int .i64 at_, .int .i64 err, .int .i64 fat] := by rw [hW]; exact ((((hKr.other (Nat.ne_of_gt hltrb) _).other (Nat.ne_of_gt hltrb) _).other (Nat.ne_of_gt hltrb) _).other (Nat.ne_of_gt hltrb) _)
    replace hKx : Blk W9 (w.heap.size + 1) [.int .i64 n, .string s', .int .i64 xe, .int .i64 xa] := by rw [hW]; exact ((((hKx.other (Nat.ne_of_gt hltxb) _).other (Nat.ne_of_gt hltxb) _).other (Nat.ne_of_gt hltxb) _).other (Nat.ne_of_gt hltxb) _)
    replace hKa : Blk W9 w2.heap.size [.string i0, .int .i64 i1, .int .i64 i2, .int .i64 i3] := by rw [hW]; exact ((((hKa.other (Nat.ne_of_gt hltab) _).other (Nat.ne_of_gt hltab) _).other (Nat.ne_of_gt hltab) _).other (Nat.ne_of_gt hltab) _)
    replace hKb : Blk W9 w4.heap.size [.string i0, .int .i64 i1, .int .i64 i2, .int .i64 i3] := by rw [hW]; exact ((((hKb.set 0 _).set 1 _).set 2 _).set 3 _)
    replace hB : Below w.heap.size w W9 := by rw [hW]; exact ((((hB).setCell (p := ⟨w4.heap.size, 0, none⟩) hleb _).setCell (p := ⟨w4.heap.size, 1, none⟩) hleb _).setCell (p := ⟨w4.heap.size, 2, none⟩) hleb _).setCell (p := ⟨w4.heap.size, 3, none⟩) hleb _
    clear hW cr0 fr0 cr1 fr1 cr2 fr2 cr3 fr3 cx0 fx0 cx1 fx1 cx2 fx2 cx3 fx3 ca0 fa0 ca1 fa1 ca2 fa2 ca3 fa3 cb0 fb0 cb1 fb1 cb2 fb2 cb3 fb3
    refine (hY _).mono ?_
    rintro e w10 ⟨rfl, hb⟩
    replace hKr := hKr.later hb
    replace hKx := hKx.later hb
    replace hKa := hKa.later hb
    replace hKb := hKb.later hb
    replace hB := bstep hB hb
    clear hb
    have cr0 := hKr.cell 0 _ rfl
    have fr0 := hKr.fr 0 _ rfl
    have cr1 := hKr.cell 1 _ rfl
    have fr1 := hKr.fr 1 _ rfl
    have cr2 := hKr.cell 2 _ rfl
    have fr2 := hKr.fr 2 _ rfl
    have cr3 := hKr.cell 3 _ rfl
    have fr3 := hKr.fr 3 _ rfl
    have cx0 := hKx.cell 0 _ rfl
    have fx0 := hKx.fr 0 _ rfl
    have cx1 := hKx.cell 1 _ rfl
    have fx1 := hKx.fr 1 _ rfl
    have cx2 := hKx.cell 2 _ rfl
    have fx2 := hKx.fr 2 _ rfl
    have cx3 := hKx.cell 3 _ rfl
    have fx3 := hKx.fr 3 _ rfl
    have ca0 := hKa.cell 0 _ rfl
    have fa0 := hKa.fr 0 _ rfl
    have ca1 := hKa.cell 1 _ rfl
    have fa1 := hKa.fr 1 _ rfl
    have ca2 := hKa.cell 2 _ rfl
    have fa2 := hKa.fr 2 _ rfl
    have ca3 := hKa.cell 3 _ rfl
    have fa3 := hKa.fr 3 _ rfl
    go_wp2_with fail
    refine named fun W11 hW => ?_
    replace hKr : Blk W11 w.heap.size [.string s, .int .i64 at_, .int .i64 err, .int .i64 fat] := by rw [hW]; exact ((((hKr.other (Nat.ne_of_gt hltra) _).other (Nat.ne_of_gt hltra) _).other (Nat.ne_of_gt hltra) _).other (Nat.ne_of_gt hltra) _)
    replace hKx : Blk W11 (w.heap.size + 1) [.int .i64 n, .string s', .int .i64 xe, .int .i64 xa] := by rw [hW]; exact ((((hKx.other (Nat.ne_of_gt hltxa) _).other (Nat.ne_of_gt hltxa) _).other (Nat.ne_of_gt hltxa) _).other (Nat.ne_of_gt hltxa) _)
    replace hKa : Blk W11 w2.heap.size [.string y0, .int .i64 y1, .int .i64 y2, .int .i64 y3] := by rw [hW]; exact ((((hKa.set 0 _).set 1 _).set 2 _).set 3 _)
    replace hKb : Blk W11 w4.heap.size [.string i0, .int .i64 i1, .int .i64 i2, .int .i64 i3] := by rw [hW]; exact ((((hKb.other (Nat.ne_of_lt hltab) _).other (Nat.ne_of_lt hltab) _).other (Nat.ne_of_lt hltab) _).other (Nat.ne_of_lt hltab) _)
    replace hB : Below w.heap.size w W11 := by rw [hW]; exact ((((hB).setCell (p := ⟨w2.heap.size, 0, none⟩) hlea _).setCell (p := ⟨w2.heap.size, 1, none⟩) hlea _).setCell (p := ⟨w2.heap.size, 2, none⟩) hlea _).setCell (p := ⟨w2.heap.size, 3, none⟩) hlea _
    clear hW cr0 fr0 cr1 fr1 cr2 fr2 cr3 fr3 cx0 fx0 cx1 fx1 cx2 fx2 cx3 fx3 ca0 fa0 ca1 fa1 ca2 fa2 ca3 fa3
    refine (gY _).mono ?_
    rintro e w12 ⟨rfl, hb⟩
    replace hKr := hKr.later hb
    replace hKx := hKx.later hb
    replace hKa := hKa.later hb
    replace hKb := hKb.later hb
    replace hB := bstep hB hb
    clear hb
    have cr0 := hKr.cell 0 _ rfl
    have fr0 := hKr.fr 0 _ rfl
    have cr1 := hKr.cell 1 _ rfl
    have fr1 := hKr.fr 1 _ rfl
    have cr2 := hKr.cell 2 _ rfl
    have fr2 := hKr.fr 2 _ rfl
    have cr3 := hKr.cell 3 _ rfl
    have fr3 := hKr.fr 3 _ rfl
    have cx0 := hKx.cell 0 _ rfl
    have fx0 := hKx.fr 0 _ rfl
    have cx1 := hKx.cell 1 _ rfl
    have fx1 := hKx.fr 1 _ rfl
    have cx2 := hKx.cell 2 _ rfl
    have fx2 := hKx.fr 2 _ rfl
    have cx3 := hKx.cell 3 _ rfl
    have fx3 := hKx.fr 3 _ rfl
    have ca0 := hKa.cell 0 _ rfl
    have fa0 := hKa.fr 0 _ rfl
    have ca1 := hKa.cell 1 _ rfl
    have fa1 := hKa.fr 1 _ rfl
    have ca2 := hKa.cell 2 _ rfl
    have fa2 := hKa.fr 2 _ rfl
    have ca3 := hKa.cell 3 _ rfl
    have fa3 := hKa.fr 3 _ rfl
    have cb0 := hKb.cell 0 _ rfl
    have fb0 := hKb.fr 0 _ rfl
    have cb1 := hKb.cell 1 _ rfl
    have fb1 := hKb.fr 1 _ rfl
    have cb2 := hKb.cell 2 _ rfl
    have fb2 := hKb.fr 2 _ rfl
    have cb3 := hKb.cell 3 _ rfl
    have fb3 := hKb.fr 3 _ rfl
    go_wp2_with fail
    refine named fun W13 hW => ?_
    replace hKr : Blk W13 w.heap.size [.string s, .int .i64 at_, .int .i64 err, .int .i64 fat] := by rw [hW]; exact ((((hKr.other (Nat.ne_of_gt hltrb) _).other (Nat.ne_of_gt hltrb) _).other (Nat.ne_of_gt hltrb) _).other (Nat.ne_of_gt hltrb) _)
    replace hKx : Blk W13 (w.heap.size + 1) [.int .i64 n, .string s', .int .i64 xe, .int .i64 xa] := by rw [hW]; exact ((((hKx.other (Nat.ne_of_gt hltxb) _).other (Nat.ne_of_gt hltxb) _).other (Nat.ne_of_gt hltxb) _).other (Nat.ne_of_gt hltxb) _)
    replace hKa : Blk W13 w2.heap.size [.string y0, .int .i64 y1, .int .i64 y2, .int .i64 y3] := by rw [hW]; exact ((((hKa.other (Nat.ne_of_gt hltab) _).other (Nat.ne_of_gt hltab) _).other (Nat.ne_of_gt hltab) _).other (Nat.ne_of_gt hltab) _)
    replace hKb : Blk W13 w4.heap.size [.string y0, .int .i64 y1, .int .i64 y2, .int .i64 y3] := by rw [hW]; exact ((((hKb.set 0 _).set 1 _).set 2 _).set 3 _)
    replace hB : Below w.heap.size w W13 := by rw [hW]; exact ((((hB).setCell (p := ⟨w4.heap.size, 0, none⟩) hleb _).setCell (p := ⟨w4.heap.size, 1, none⟩) hleb _).setCell (p := ⟨w4.heap.size, 2, none⟩) hleb _).setCell (p := ⟨w4.heap.size, 3, none⟩) hleb _
    clear hW cr0 fr0 cr1 fr1 cr2 fr2 cr3 fr3 cx0 fx0 cx1 fx1 cx2 fx2 cx3 fx3 ca0 fa0 ca1 fa1 ca2 fa2 ca3 fa3 cb0 fb0 cb1 fb1 cb2 fb2 cb3 fb3
    refine (hZ _).mono ?_
    rintro e w14 ⟨rfl, hb⟩
    replace hKr := hKr.later hb
    replace hKx := hKx.later hb
    replace hKa := hKa.later hb
    replace hKb := hKb.later hb
    replace hB := bstep hB hb
    clear hb
    have cr0 := hKr.cell 0 _ rfl
    have fr0 := hKr.fr 0 _ rfl
    have cr1 := hKr.cell 1 _ rfl
    have fr1 := hKr.fr 1 _ rfl
    have cr2 := hKr.cell 2 _ rfl
    have fr2 := hKr.fr 2 _ rfl
    have cr3 := hKr.cell 3 _ rfl
    have fr3 := hKr.fr 3 _ rfl
    have cx0 := hKx.cell 0 _ rfl
    have fx0 := hKx.fr 0 _ rfl
    have cx1 := hKx.cell 1 _ rfl
    have fx1 := hKx.fr 1 _ rfl
    have cx2 := hKx.cell 2 _ rfl
    have fx2 := hKx.fr 2 _ rfl
    have cx3 := hKx.cell 3 _ rfl
    have fx3 := hKx.fr 3 _ rfl
    have ca0 := hKa.cell 0 _ rfl
    have fa0 := hKa.fr 0 _ rfl
    have ca1 := hKa.cell 1 _ rfl
    have fa1 := hKa.fr 1 _ rfl
    have ca2 := hKa.cell 2 _ rfl
    have fa2 := hKa.fr 2 _ rfl
    have ca3 := hKa.cell 3 _ rfl
    have fa3 := hKa.fr 3 _ rfl
    go_wp2_with fail
    refine named fun W15 hW => ?_
    replace hKr : Blk W15 w.heap.size [.string s, .int .i64 at_, .int .i64 err, .int .i64 fat] := by rw [hW]; exact ((((hKr.other (Nat.ne_of_gt hltra) _).other (Nat.ne_of_gt hltra) _).other (Nat.ne_of_gt hltra) _).other (Nat.ne_of_gt hltra) _)
    replace hKx : Blk W15 (w.heap.size + 1) [.int .i64 n, .string s', .int .i64 xe, .int .i64 xa] := by rw [hW]; exact ((((hKx.other (Nat.ne_of_gt hltxa) _).other (Nat.ne_of_gt hltxa) _).other (Nat.ne_of_gt hltxa) _).other (Nat.ne_of_gt hltxa) _)
    replace hKa : Blk W15 w2.heap.size [.string z0, .int .i64 z1, .int .i64 z2, .int .i64 z3] := by rw [hW]; exact ((((hKa.set 0 _).set 1 _).set 2 _).set 3 _)
    replace hKb : Blk W15 w4.heap.size [.string y0, .int .i64 y1, .int .i64 y2, .int .i64 y3] := by rw [hW]; exact ((((hKb.other (Nat.ne_of_lt hltab) _).other (Nat.ne_of_lt hltab) _).other (Nat.ne_of_lt hltab) _).other (Nat.ne_of_lt hltab) _)
    replace hB : Below w.heap.size w W15 := by rw [hW]; exact ((((hB).setCell (p := ⟨w2.heap.size, 0, none⟩) hlea _).setCell (p := ⟨w2.heap.size, 1, none⟩) hlea _).setCell (p := ⟨w2.heap.size, 2, none⟩) hlea _).setCell (p := ⟨w2.heap.size, 3, none⟩) hlea _
    clear hW cr0 fr0 cr1 fr1 cr2 fr2 cr3 fr3 cx0 fx0 cx1 fx1 cx2 fx2 cx3 fx3 ca0 fa0 ca1 fa1 ca2 fa2 ca3 fa3
    refine (gZ _).mono ?_
    rintro e w16 ⟨rfl, hb⟩
    replace hKr := hKr.later hb
    replace hKx := hKx.later hb
    replace hKa := hKa.later hb
    replace hKb := hKb.later hb
    replace hB := bstep hB hb
    clear hb
    have cr0 := hKr.cell 0 _ rfl
    have fr0 := hKr.fr 0 _ rfl
    have cr1 := hKr.cell 1 _ rfl
    have fr1 := hKr.fr 1 _ rfl
    have cr2 := hKr.cell 2 _ rfl
    have fr2 := hKr.fr 2 _ rfl
    have cr3 := hKr.cell 3 _ rfl
    have fr3 := hKr.fr 3 _ rfl
    have cx0 := hKx.cell 0 _ rfl
    have fx0 := hKx.fr 0 _ rfl
    have cx1 := hKx.cell 1 _ rfl
    have fx1 := hKx.fr 1 _ rfl
    have cx2 := hKx.cell 2 _ rfl
    have fx2 := hKx.fr 2 _ rfl
    have cx3 := hKx.cell 3 _ rfl
    have fx3 := hKx.fr 3 _ rfl
    have ca0 := hKa.cell 0 _ rfl
    have fa0 := hKa.fr 0 _ rfl
    have ca1 := hKa.cell 1 _ rfl
    have fa1 := hKa.fr 1 _ rfl
    have ca2 := hKa.cell 2 _ rfl
    have fa2 := hKa.fr 2 _ rfl
    have ca3 := hKa.cell 3 _ rfl
    have fa3 := hKa.fr 3 _ rfl
    have cb0 := hKb.cell 0 _ rfl
    have fb0 := hKb.fr 0 _ rfl
    have cb1 := hKb.cell 1 _ rfl
    have fb1 := hKb.fr 1 _ rfl
    have cb2 := hKb.cell 2 _ rfl
    have fb2 := hKb.fr 2 _ rfl
    have cb3 := hKb.cell 3 _ rfl
    have fb3 := hKb.fr 3 _ rfl
    go_wp2_with fail
    refine named_wp fun W17 hW => ?_
    replace hKr : Blk W17 w.heap.size [.string s, .int .i64 at_, .int .i64 err, .int .i64 fat] := by rw [hW]; exact ((((hKr.other (Nat.ne_of_gt hltrb) _).other (Nat.ne_of_gt hltrb) _).other (Nat.ne_of_gt hltrb) _).other (Nat.ne_of_gt hltrb) _)
    replace hKx : Blk W17 (w.heap.size + 1) [.int .i64 n, .string s', .int .i64 xe, .int .i64 xa] := by rw [hW]; exact ((((hKx.other (Nat.ne_of_gt hltxb) _).other (Nat.ne_of_gt hltxb) _).other (Nat.ne_of_gt hltxb) _).other (Nat.ne_of_gt hltxb) _)
    replace hKa : Blk W17 w2.heap.size [.string z0, .int .i64 z1, .int .i64 z2, .int .i64 z3] := by rw [hW]; exact ((((hKa.other (Nat.ne_of_gt hltab) _).other (Nat.ne_of_gt hltab) _).other (Nat.ne_of_gt hltab) _).other (Nat.ne_of_gt hltab) _)
    replace hKb : Blk W17 w4.heap.size [.string z0, .int .i64 z1, .int .i64 z2, .int .i64 z3] := by rw [hW]; exact ((((hKb.set 0 _).set 1 _).set 2 _).set 3 _)
    replace hB : Below w.heap.size w W17 := by rw [hW]; exact ((((hB).setCell (p := ⟨w4.heap.size, 0, none⟩) hleb _).setCell (p := ⟨w4.heap.size, 1, none⟩) hleb _).setCell (p := ⟨w4.heap.size, 2, none⟩) hleb _).setCell (p := ⟨w4.heap.size, 3, none⟩) hleb _
    clear hW cr0 fr0 cr1 fr1 cr2 fr2 cr3 fr3 cx0 fx0 cx1 fx1 cx2 fx2 cx3 fx3 ca0 fa0 ca1 fa1 ca2 fa2 ca3 fa3 cb0 fb0 cb1 fb1 cb2 fb2 cb3 fb3
    have cr0 := hKr.cell 0 _ rfl
    have fr0 := hKr.fr 0 _ rfl
    have cr1 := hKr.cell 1 _ rfl
    have fr1 := hKr.fr 1 _ rfl
    have cr2 := hKr.cell 2 _ rfl
    have fr2 := hKr.fr 2 _ rfl
    have cr3 := hKr.cell 3 _ rfl
    have fr3 := hKr.fr 3 _ rfl
    have cx0 := hKx.cell 0 _ rfl
    have fx0 := hKx.fr 0 _ rfl
    have cx1 := hKx.cell 1 _ rfl
    have fx1 := hKx.fr 1 _ rfl
    have cx2 := hKx.cell 2 _ rfl
    have fx2 := hKx.fr 2 _ rfl
    have cx3 := hKx.cell 3 _ rfl
    have fx3 := hKx.fr 3 _ rfl
    have hWW : Below W17.heap.size W17 W17 := Below.refl _ _
    go_region_held3 (fun w' => w'.cell? ⟨w.heap.size, 0, none⟩ = some (.string s) ∧ w'.cell? ⟨w.heap.size, 1, none⟩ = some (.int .i64 at_) ∧ w'.cell? ⟨w.heap.size, 2, none⟩ = some (.int .i64 err) ∧ w'.cell? ⟨w.heap.size, 3, none⟩ = some (.int .i64 fat) ∧ w'.cell? ⟨(w.heap.size + 1), 1, none⟩ = some (.string s') ∧ w'.cell? ⟨(w.heap.size + 1), 2, none⟩ = some (.int .i64 xe) ∧ w'.cell? ⟨(w.heap.size + 1), 3, none⟩ = some (.int .i64 xa) ∧ Below W17.heap.size W17 w') (go_keep) (first | (go_at_call 18; refine (held8 (W := W17) (a0 := ⟨w.heap.size, 0, none⟩) (a1 := ⟨w.heap.size, 1, none⟩) (a2 := ⟨w.heap.size, 2, none⟩) (a3 := ⟨w.heap.size, 3, none⟩) (b1 := ⟨(w.heap.size + 1), 1, none⟩) (b2 := ⟨(w.heap.size + 1), 2, none⟩) (b3 := ⟨(w.heap.size + 1), 3, none⟩) (c0 := .string s) (c1 := .int .i64 at_) (c2 := .int .i64 err) (c3 := .int .i64 fat) (d1 := .string s') (d2 := .int .i64 xe) (d3 := .int .i64 xa) hV ?_ ?_ ?_ ?_ ?_ ?_ ?_ ?_).mono ?_; (simp [*]); (simp [*]); (simp [*]); (simp [*]); (simp [*]); (simp [*]); (simp [*]); (simp [*]); rintro e w9 ⟨rfl, q0, q1, q2, q3, q4, q5, q6, q7⟩) | (go_at_call 19; refine (held8 (W := W17) (a0 := ⟨w.heap.size, 0, none⟩) (a1 := ⟨w.heap.size, 1, none⟩) (a2 := ⟨w.heap.size, 2, none⟩) (a3 := ⟨w.heap.size, 3, none⟩) (b1 := ⟨(w.heap.size + 1), 1, none⟩) (b2 := ⟨(w.heap.size + 1), 2, none⟩) (b3 := ⟨(w.heap.size + 1), 3, none⟩) (c0 := .string s) (c1 := .int .i64 at_) (c2 := .int .i64 err) (c3 := .int .i64 fat) (d1 := .string s') (d2 := .int .i64 xe) (d3 := .int .i64 xa) gV ?_ ?_ ?_ ?_ ?_ ?_ ?_ ?_).mono ?_; (simp [*]); (simp [*]); (simp [*]); (simp [*]); (simp [*]); (simp [*]); (simp [*]); (simp [*]); rintro e w9 ⟨rfl, q0, q1, q2, q3, q4, q5, q6, q7⟩) | (go_at_call 20; refine (held8 (W := W17) (a0 := ⟨w.heap.size, 0, none⟩) (a1 := ⟨w.heap.size, 1, none⟩) (a2 := ⟨w.heap.size, 2, none⟩) (a3 := ⟨w.heap.size, 3, none⟩) (b1 := ⟨(w.heap.size + 1), 1, none⟩) (b2 := ⟨(w.heap.size + 1), 2, none⟩) (b3 := ⟨(w.heap.size + 1), 3, none⟩) (c0 := .string s) (c1 := .int .i64 at_) (c2 := .int .i64 err) (c3 := .int .i64 fat) (d1 := .string s') (d2 := .int .i64 xe) (d3 := .int .i64 xa) hF ?_ ?_ ?_ ?_ ?_ ?_ ?_ ?_).mono ?_; (simp [*]); (simp [*]); (simp [*]); (simp [*]); (simp [*]); (simp [*]); (simp [*]); (simp [*]); rintro e w9 ⟨rfl, q0, q1, q2, q3, q4, q5, q6, q7⟩) | (go_at_call 21; refine (held8 (W := W17) (a0 := ⟨w.heap.size, 0, none⟩) (a1 := ⟨w.heap.size, 1, none⟩) (a2 := ⟨w.heap.size, 2, none⟩) (a3 := ⟨w.heap.size, 3, none⟩) (b1 := ⟨(w.heap.size + 1), 1, none⟩) (b2 := ⟨(w.heap.size + 1), 2, none⟩) (b3 := ⟨(w.heap.size + 1), 3, none⟩) (c0 := .string s) (c1 := .int .i64 at_) (c2 := .int .i64 err) (c3 := .int .i64 fat) (d1 := .string s') (d2 := .int .i64 xe) (d3 := .int .i64 xa) gF ?_ ?_ ?_ ?_ ?_ ?_ ?_ ?_).mono ?_; (simp [*]); (simp [*]); (simp [*]); (simp [*]); (simp [*]); (simp [*]); (simp [*]); (simp [*]); rintro e w9 ⟨rfl, q0, q1, q2, q3, q4, q5, q6, q7⟩) | (go_at_call 22; refine (held8 (W := W17) (a0 := ⟨w.heap.size, 0, none⟩) (a1 := ⟨w.heap.size, 1, none⟩) (a2 := ⟨w.heap.size, 2, none⟩) (a3 := ⟨w.heap.size, 3, none⟩) (b1 := ⟨(w.heap.size + 1), 1, none⟩) (b2 := ⟨(w.heap.size + 1), 2, none⟩) (b3 := ⟨(w.heap.size + 1), 3, none⟩) (c0 := .string s) (c1 := .int .i64 at_) (c2 := .int .i64 err) (c3 := .int .i64 fat) (d1 := .string s') (d2 := .int .i64 xe) (d3 := .int .i64 xa) hE ?_ ?_ ?_ ?_ ?_ ?_ ?_ ?_).mono ?_; (simp [*]); (simp [*]); (simp [*]); (simp [*]); (simp [*]); (simp [*]); (simp [*]); (simp [*]); rintro e w9 ⟨rfl, q0, q1, q2, q3, q4, q5, q6, q7⟩) | (go_at_call 23; refine (held8 (W := W17) (a0 := ⟨w.heap.size, 0, none⟩) (a1 := ⟨w.heap.size, 1, none⟩) (a2 := ⟨w.heap.size, 2, none⟩) (a3 := ⟨w.heap.size, 3, none⟩) (b1 := ⟨(w.heap.size + 1), 1, none⟩) (b2 := ⟨(w.heap.size + 1), 2, none⟩) (b3 := ⟨(w.heap.size + 1), 3, none⟩) (c0 := .string s) (c1 := .int .i64 at_) (c2 := .int .i64 err) (c3 := .int .i64 fat) (d1 := .string s') (d2 := .int .i64 xe) (d3 := .int .i64 xa) gE ?_ ?_ ?_ ?_ ?_ ?_ ?_ ?_).mono ?_; (simp [*]); (simp [*]); (simp [*]); (simp [*]); (simp [*]); (simp [*]); (simp [*]); (simp [*]); rintro e w9 ⟨rfl, q0, q1, q2, q3, q4, q5, q6, q7⟩) | (go_at_call 24; refine (held8 (W := W17) (a0 := ⟨w.heap.size, 0, none⟩) (a1 := ⟨w.heap.size, 1, none⟩) (a2 := ⟨w.heap.size, 2, none⟩) (a3 := ⟨w.heap.size, 3, none⟩) (b1 := ⟨(w.heap.size + 1), 1, none⟩) (b2 := ⟨(w.heap.size + 1), 2, none⟩) (b3 := ⟨(w.heap.size + 1), 3, none⟩) (c0 := .string s) (c1 := .int .i64 at_) (c2 := .int .i64 err) (c3 := .int .i64 fat) (d1 := .string s') (d2 := .int .i64 xe) (d3 := .int .i64 xa) hQ ?_ ?_ ?_ ?_ ?_ ?_ ?_ ?_).mono ?_; (simp [*]); (simp [*]); (simp [*]); (simp [*]); (simp [*]); (simp [*]); (simp [*]); (simp [*]); rintro e w9 ⟨rfl, q0, q1, q2, q3, q4, q5, q6, q7⟩) | (go_at_call 25; refine (held8 (W := W17) (a0 := ⟨w.heap.size, 0, none⟩) (a1 := ⟨w.heap.size, 1, none⟩) (a2 := ⟨w.heap.size, 2, none⟩) (a3 := ⟨w.heap.size, 3, none⟩) (b1 := ⟨(w.heap.size + 1), 1, none⟩) (b2 := ⟨(w.heap.size + 1), 2, none⟩) (b3 := ⟨(w.heap.size + 1), 3, none⟩) (c0 := .string s) (c1 := .int .i64 at_) (c2 := .int .i64 err) (c3 := .int .i64 fat) (d1 := .string s') (d2 := .int .i64 xe) (d3 := .int .i64 xa) gQ ?_ ?_ ?_ ?_ ?_ ?_ ?_ ?_).mono ?_; (simp [*]); (simp [*]); (simp [*]); (simp [*]); (simp [*]); (simp [*]); (simp [*]); (simp [*]); rintro e w9 ⟨rfl, q0, q1, q2, q3, q4, q5, q6, q7⟩) | (go_at_call 9; refine (held8 (W := W17) (a0 := ⟨w.heap.size, 0, none⟩) (a1 := ⟨w.heap.size, 1, none⟩) (a2 := ⟨w.heap.size, 2, none⟩) (a3 := ⟨w.heap.size, 3, none⟩) (b1 := ⟨(w.heap.size + 1), 1, none⟩) (b2 := ⟨(w.heap.size + 1), 2, none⟩) (b3 := ⟨(w.heap.size + 1), 3, none⟩) (c0 := .string s) (c1 := .int .i64 at_) (c2 := .int .i64 err) (c3 := .int .i64 fat) (d1 := .string s') (d2 := .int .i64 xe) (d3 := .int .i64 xa) awake_any ?_ ?_ ?_ ?_ ?_ ?_ ?_ ?_).mono ?_; (simp [*]); (simp [*]); (simp [*]); (simp [*]); (simp [*]); (simp [*]); (simp [*]); (simp [*]); rintro e w9 ⟨rfl, q0, q1, q2, q3, q4, q5, q6, q7⟩))
    go_wp2
    go_ret
    exact ⟨by first | rfl | simp, bstep hB q7⟩
  · have hc : 300 < s.size ∨ s.size ≤ 300 ∧ 300 < s'.size := by omega
    rcases hc with h1 | ⟨h1, h2⟩
    · have hk1 : decide ((300 : Int) < (s.size : Int)) = true := by simp; omega
      go_enter Try.func3, Try.ntmps3
      go_wp2_with fail
      refine named fun W1 hW => ?_
      have hKr : Blk W1 w.heap.size [.string s, .int .i64 at_, .int .i64 err, .int .i64 fat] := by rw [hW]; exact ((Blk.is (us := [.string s, .int .i64 at_, .int .i64 err, .int .i64 fat]) _ rfl).alloc _)
      have hKx : Blk W1 (w.heap.size + 1) [.int .i64 n, .string s', .int .i64 xe, .int .i64 xa] := by rw [hW]; exact (Blk.is (us := [.int .i64 n, .string s', .int .i64 xe, .int .i64 xa]) _ (by simp))
      have hB : Below w.heap.size w W1 := by rw [hW]; exact (((Below.refl _ _)).alloc (Nat.le_refl _) _).alloc (by simp) _
      have hler : w.heap.size ≤ w.heap.size := by omega
      have hlex : w.heap.size ≤ (w.heap.size + 1) := by omega
      have hltrx : w.heap.size < (w.heap.size + 1) := by omega
      clear hW
      refine (awake_any _).mono ?_
      rintro e w2 ⟨rfl, hb⟩
      replace hKr := hKr.later hb
      replace hKx := hKx.later hb
      replace hB := bstep hB hb
      clear hb
      go_wp2
      go_ret
      exact ⟨by first | rfl | simp, hB⟩
    · have hk1 : decide ((300 : Int) < (s.size : Int)) = false := by simp; omega
      have hk2 : decide ((300 : Int) < (s'.size : Int)) = true := by simp; omega
      go_enter Try.func3, Try.ntmps3
      go_wp2_with fail
      refine named fun W1 hW => ?_
      have hKr : Blk W1 w.heap.size [.string s, .int .i64 at_, .int .i64 err, .int .i64 fat] := by rw [hW]; exact ((Blk.is (us := [.string s, .int .i64 at_, .int .i64 err, .int .i64 fat]) _ rfl).alloc _)
      have hKx : Blk W1 (w.heap.size + 1) [.int .i64 n, .string s', .int .i64 xe, .int .i64 xa] := by rw [hW]; exact (Blk.is (us := [.int .i64 n, .string s', .int .i64 xe, .int .i64 xa]) _ (by simp))
      have hB : Below w.heap.size w W1 := by rw [hW]; exact (((Below.refl _ _)).alloc (Nat.le_refl _) _).alloc (by simp) _
      have hler : w.heap.size ≤ w.heap.size := by omega
      have hlex : w.heap.size ≤ (w.heap.size + 1) := by omega
      have hltrx : w.heap.size < (w.heap.size + 1) := by omega
      clear hW
      refine (awake_any _).mono ?_
      rintro e w2 ⟨rfl, hb⟩
      replace hKr := hKr.later hb
      replace hKx := hKx.later hb
      replace hB := bstep hB hb
      clear hb
      go_wp2
      go_ret
      exact ⟨by first | rfl | simp, hB⟩
end Go.Proofs.Ytgcgoiaadigmfaa
