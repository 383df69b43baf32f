/- Walks: Parse. -/
import Derived.Test.YtcmdndgaggbhoaaDoorEventG
namespace Go.Proofs.YtcmdndgaggbhoaaDoor.Ev
open Go.RowKit
open Wr

set_option maxHeartbeats 1000000 in
theorem field8_any (r : Rd) (b : Nat) (w : World) (h : Blk w b (rdl r)) (hs : r.s.size ≤ 9223372036854775807) :
    Calls Tryd.prog 50 #[.pointer (some ⟨b, 0, none⟩), .int .i64 8] w fun e w' => e = .returned (.int .u64 (uintR r 8).2) ∧ Blk w' b (rdl (uintR r 8).1) ∧ But b w w' := by
  have hN := number_any r 8 b w h hs
  have hx := uintR_lt r 8 (by decide)
  rw [show ((8 : Nat) : Int) = 8 from rfl] at hx
  obtain ⟨z, hz⟩ : ∃ z, z = uintR r 8 := ⟨_, rfl⟩
  rw [← hz] at hN hx ⊢
  clear hz
  have hw : IntKind.u64.wrap (z.2 : Int) = (z.2 : Int) := IntWalk.u64_in _ ⟨by omega, by omega⟩
  clear hx
  go_enter Tryd.func50, Tryd.ntmps50
  go_wp2_with (first | (go_at_call 45; refine (unused_8 _).mono ?_; rintro e w' ⟨rfl, rfl⟩) | (go_at_call 65; refine hN.mono ?_; rintro e w' ⟨rfl, h1, h2⟩))
  go_ret
  exact ⟨rfl, h1, h2⟩
set_option maxHeartbeats 1000000 in
theorem field1_any (r : Rd) (b : Nat) (w : World) (h : Blk w b (rdl r)) (hs : r.s.size ≤ 9223372036854775807) :
    Calls Tryd.prog 50 #[.pointer (some ⟨b, 0, none⟩), .int .i64 1] w fun e w' => e = .returned (.int .u64 (uintR r 1).2) ∧ Blk w' b (rdl (uintR r 1).1) ∧ But b w w' := by
  have hN := number_any r 1 b w h hs
  have hx := uintR_lt r 1 (by decide)
  rw [show ((1 : Nat) : Int) = 1 from rfl] at hx
  obtain ⟨z, hz⟩ : ∃ z, z = uintR r 1 := ⟨_, rfl⟩
  rw [← hz] at hN hx ⊢
  clear hz
  have hw : IntKind.u64.wrap ((z.2 : Int) * 72057594037927936) = (z.2 : Int) * 72057594037927936 := IntWalk.u64_in _ ⟨by omega, by omega⟩
  have hw3 : (z.2 : Int) * 72057594037927936 / 72057594037927936 = (z.2 : Int) := by omega
  go_enter Tryd.func50, Tryd.ntmps50
  go_wp2_with (first | (go_at_call 45; refine (unused_1 _).mono ?_; rintro e w' ⟨rfl, rfl⟩) | (go_at_call 65; refine hN.mono ?_; rintro e w' ⟨rfl, h1, h2⟩))
  go_ret
  exact ⟨rfl, h1, h2⟩
set_option maxHeartbeats 1000000 in
theorem fieldI_any (r : Rd) (b : Nat) (w : World) (h : Blk w b (rdl r)) (hs : r.s.size ≤ 9223372036854775807) :
    Calls Tryd.prog 52 #[.pointer (some ⟨b, 0, none⟩), .int .i64 8] w fun e w' => e = .returned (.int .i64 (IntKind.i64.wrap (uintR r 8).2)) ∧ Blk w' b (rdl (uintR r 8).1) ∧ But b w w' := by
  have hN := number_any r 8 b w h hs
  have hx := uintR_lt r 8 (by decide)
  rw [show ((8 : Nat) : Int) = 8 from rfl] at hx
  obtain ⟨z, hz⟩ : ∃ z, z = uintR r 8 := ⟨_, rfl⟩
  rw [← hz] at hN hx ⊢
  clear hz
  have hw : IntKind.u64.wrap (z.2 : Int) = (z.2 : Int) := IntWalk.u64_in _ ⟨by omega, by omega⟩
  obtain ⟨y, hy⟩ : ∃ y, IntKind.i64.wrap (z.2 : Int) = y := ⟨_, rfl⟩
  rw [hy]
  clear hx
  go_enter Tryd.func52, Tryd.ntmps52
  go_wp2_with (first | (go_at_call 45; refine (unused_8 _).mono ?_; rintro e w' ⟨rfl, rfl⟩) | (go_at_call 65; refine hN.mono ?_; rintro e w' ⟨rfl, h1, h2⟩))
  go_ret
  exact ⟨rfl, h1, h2⟩

/-- A kind is read. -/
def kindR (r : Rd) : Rd × Nat := (if isKindB ((uintR r 1).2 : Int) = true then (uintR r 1).1 else failR (uintR r 1).1 11 r.at_, (uintR r 1).2)
theorem kindR_s (r : Rd) : (kindR r).1.s.size ≤ r.s.size := by
  unfold kindR
  dsimp only
  split
  · exact uintR_s r 1
  · exact Nat.le_trans (failR_s _ _ _) (uintR_s r 1)
set_option maxHeartbeats 1000000 in
theorem rdKind_any (r : Rd) (b : Nat) (w : World) (h : Blk w b (rdl r)) (hs : r.s.size ≤ 9223372036854775807) :
    Calls Tryd.prog 51 #[.pointer (some ⟨b, 0, none⟩)] w fun e w' => e = .returned (.int .i64 (kindR r).2) ∧ Blk w' b (rdl (kindR r).1) ∧ But b w w' := by
  have hO := offset_any r b w h
  have hF := field1_any r b w h hs
  have hx := uintR_lt r 1 (by decide)
  rw [show ((1 : Nat) : Int) = 1 from rfl] at hx
  have hs1 := Nat.le_trans (uintR_s r 1) hs
  have hFail := fun w h => rdFail_any (uintR r 1).1 11 r.at_ b w h hs1
  unfold kindR
  obtain ⟨z, hz⟩ : ∃ z, z = uintR r 1 := ⟨_, rfl⟩
  rw [← hz] at hF hx hFail ⊢
  clear hz hs1 h
  obtain ⟨z, x⟩ := z
  simp only at hF hx hFail ⊢
  obtain ⟨t, ht⟩ : ∃ t, isKindB (x : Int) = t := ⟨_, rfl⟩
  have hK := @isKind_is (x : Int) t ht
  rw [ht]
  clear ht
  have hx2 : (x : Int) ≤ 255 := by omega
  have hw : IntKind.i64.wrap (x : Int) = (x : Int) := IntWalk.i64_in _ ⟨by omega, by omega⟩
  clear hx
  cases t
  · go_enter Tryd.func51, Tryd.ntmps51
    go_wp2_with (first | (go_at_call 66; refine hO.mono ?_; rintro e w' ⟨rfl, rfl⟩) | (go_at_call 50; refine hF.mono ?_; rintro e w1 ⟨rfl, h1, h2⟩) | (go_at_call 38; refine (hK _).mono ?_; rintro e w' ⟨rfl, rfl⟩) | (go_at_call 67; refine (hFail _ h1).mono ?_; rintro e w2 ⟨rfl, h3, h4⟩))
    go_ret
    exact ⟨rfl, h3, h2.trans h4⟩
  · go_enter Tryd.func51, Tryd.ntmps51
    go_wp2_with (first | (go_at_call 66; refine hO.mono ?_; rintro e w' ⟨rfl, rfl⟩) | (go_at_call 50; refine hF.mono ?_; rintro e w1 ⟨rfl, h1, h2⟩) | (go_at_call 38; refine (hK _).mono ?_; rintro e w' ⟨rfl, rfl⟩))
    go_ret
    exact ⟨rfl, h1, h2⟩
/-- An event is read: its label, its kind, its value; what is left of the reader. -/
def evR (r : Rd) : Rd := (uintR (kindR (uintR r 8).1).1 8).1
def evV (r : Rd) : Int × Int × Int := ((uintR r 8).2, (kindR (uintR r 8).1).2, IntKind.i64.wrap (uintR (kindR (uintR r 8).1).1 8).2)
set_option maxHeartbeats 1000000 in
theorem rdEvent_any (r : Rd) (b : Nat) (w : World) (h : Blk w b (rdl r)) (hs : r.s.size ≤ 9223372036854775807) :
    Calls Tryd.prog 35 #[.pointer (some ⟨b, 0, none⟩)] w fun e w' => e = .returned (ev (evV r).1 (evV r).2.1 (evV r).2.2) ∧ Blk w' b (rdl (evR r)) ∧ But b w w' := by
  have hs1 := Nat.le_trans (uintR_s r 8) hs
  have hs2 := Nat.le_trans (kindR_s (uintR r 8).1) hs1
  have hF := fun w h => field8_any r b w h hs
  have hK := fun w h => rdKind_any (uintR r 8).1 b w h hs1
  have hI := fun w h => fieldI_any (kindR (uintR r 8).1).1 b w h hs2
  unfold evR evV
  obtain ⟨z1, hz1⟩ : ∃ z, z = uintR r 8 := ⟨_, rfl⟩
  rw [← hz1] at hF hK hI ⊢
  clear hz1 hs1 hs2
  obtain ⟨z2, hz2⟩ : ∃ z, z = kindR z1.1 := ⟨_, rfl⟩
  rw [← hz2] at hK hI ⊢
  clear hz2
  obtain ⟨z3, hz3⟩ : ∃ z, z = uintR z2.1 8 := ⟨_, rfl⟩
  rw [← hz3] at hI ⊢
  clear hz3
  obtain ⟨z1, x1⟩ := z1
  obtain ⟨z2, x2⟩ := z2
  obtain ⟨z3, x3⟩ := z3
  simp only [ev] at hF hK hI ⊢
  obtain ⟨y, hy⟩ : ∃ y, y = IntKind.i64.wrap (x3 : Int) := ⟨_, rfl⟩
  rw [← hy] at hI ⊢
  clear hy
  have hlt := h.lt
  go_enter Tryd.func35, Tryd.ntmps35
  go_wp2_with fail
  refine named fun W hW => ?_
  have hB : But b w W := by rw [hW]; exact But.of (by go_grown)
  have hR : Blk W b (rdl r) := by rw [hW]; exact (h.alloc _).alloc _
  have hZ : Blk W w.heap.size [.int .u64 0, .int .i64 0, .int .i64 0] := by rw [hW]; exact (Blk.is _ rfl).alloc _
  have hE : Blk W (w.heap.size + 1) [.int .u64 0, .int .i64 0, .int .i64 0] := by rw [hW]; exact Blk.is _ (by simp)
  clear hW
  have hnZ : w.heap.size ≠ b := by omega
  have hnE : w.heap.size + 1 ≠ b := by omega
  refine (hF _ hR).mono ?_
  rintro e w1 ⟨rfl, hR1, hb1⟩
  replace hZ := hb1.blk hnZ hZ
  replace hE := hb1.blk hnE hE
  replace hB := hB.trans hb1
  clear hb1 hR hF
  have e0 := hE.cell 0 _ rfl
  have f0 := hE.fr 0 _ rfl
  have ltE := hE.lt
  go_wp2_with fail
  refine named fun W1 hW => ?_
  replace hR1 : Blk W1 b (rdl z1) := by rw [hW]; exact hR1.other hnE _
  replace hZ : Blk W1 w.heap.size [.int .u64 0, .int .i64 0, .int .i64 0] := by rw [hW]; exact hZ.other (by simp) _
  replace hE : Blk W1 (w.heap.size + 1) [.int .u64 x1, .int .i64 0, .int .i64 0] := by rw [hW]; exact hE.set 0 _
  replace hB : But b w W1 := by rw [hW]; exact hB.setNew (by simp) _
  clear hW e0 f0 ltE
  refine (hK _ hR1).mono ?_
  rintro e w2 ⟨rfl, hR2, hb2⟩
  replace hZ := hb2.blk hnZ hZ
  replace hE := hb2.blk hnE hE
  replace hB := hB.trans hb2
  clear hb2 hR1 hK
  have e1 := hE.cell 1 _ rfl
  have f1 := hE.fr 1 _ rfl
  have ltE := hE.lt
  go_wp2_with fail
  refine named fun W2 hW => ?_
  replace hR2 : Blk W2 b (rdl z2) := by rw [hW]; exact hR2.other hnE _
  replace hZ : Blk W2 w.heap.size [.int .u64 0, .int .i64 0, .int .i64 0] := by rw [hW]; exact hZ.other (by simp) _
  replace hE : Blk W2 (w.heap.size + 1) [.int .u64 x1, .int .i64 x2, .int .i64 0] := by rw [hW]; exact hE.set 1 _
  replace hB : But b w W2 := by rw [hW]; exact hB.setNew (by simp) _
  clear hW e1 f1 ltE
  refine (hI _ hR2).mono ?_
  rintro e w3 ⟨rfl, hR3, hb3⟩
  replace hZ := hb3.blk hnZ hZ
  replace hE := hb3.blk hnE hE
  replace hB := hB.trans hb3
  clear hb3 hR2 hI
  have e0 := hE.cell 0 _ rfl
  have e1 := hE.cell 1 _ rfl
  have e2 := hE.cell 2 _ rfl
  have f2 := hE.fr 2 _ rfl
  have ltE := hE.lt
  have d0 := hZ.cell 0 _ rfl
  have d1 := hZ.cell 1 _ rfl
  have d2 := hZ.cell 2 _ rfl
  have g0 := hZ.fr 0 _ rfl
  have g1 := hZ.fr 1 _ rfl
  have g2 := hZ.fr 2 _ rfl
  have ltZ := hZ.lt
  go_wp2
  refine named_post fun V hV => ?_
  have hVZ : Blk V w.heap.size [.int .u64 x1, .int .i64 x2, .int .i64 y] := by rw [hV]; exact (((hZ.other (by simp) _).set 0 _).set 1 _).set 2 _
  have hVR : Blk V b (rdl z3) := by rw [hV]; exact (((hR3.other hnE _).other hnZ _).other hnZ _).other hnZ _
  have hVB : But b w V := by rw [hV]; exact (((hB.setNew (p := ⟨w.heap.size + 1, 2, none⟩) (by simp) _).setNew (p := ⟨w.heap.size, 0, none⟩) (by simp) _).setNew (p := ⟨w.heap.size, 1, none⟩) (by simp) _).setNew (p := ⟨w.heap.size, 2, none⟩) (by simp) _
  clear hV e0 e1 e2 f2 ltE d0 d1 d2 g0 g1 g2 ltZ
  have c0 := hVZ.cell 0 _ rfl
  have c1 := hVZ.cell 1 _ rfl
  have c2 := hVZ.cell 2 _ rfl
  refine bodyPost_ret (by simp [results, Tryd.results35, go_sem, c0, c1, c2]; try rfl) rfl ?_
  exact ⟨rfl, hVR, hVB⟩
/-- What Parse answers: the event and no fault, or the fault. -/
def parseV (x : Int × Int × Int) (f : Sp) : Value :=
  if f.e = 0 then .tuple #[ev x.1 x.2.1 x.2.2, .agg #[.int .i64 0, .int .i64 0]] else .tuple #[ev 0 0 0, .agg #[.int .i64 f.e, .int .i64 f.a]]
theorem evR_s (r : Rd) : (evR r).s.size ≤ r.s.size :=
  Nat.le_trans (uintR_s _ _) (Nat.le_trans (kindR_s _) (uintR_s _ _))
set_option maxHeartbeats 8000000 in
theorem parse_any (s : ByteArray) (w : World) (hs : s.size ≤ 9223372036854775807) :
    Calls Tryd.prog 10 #[.string s] w fun e w' => e = .returned (parseV (evV (readR s)) (endR (evR (readR s)))) ∧ Below w.heap.size w w' := by
  have hRead := fun w => wireRead_any s w
  have hE := fun b w h => rdEvent_any (readR s) b w h hs
  have hs2 : (evR (readR s)).s.size ≤ 9223372036854775807 := Nat.le_trans (evR_s _) hs
  have hEnd := fun b w h => rdEnd_any (evR (readR s)) b w h hs2
  obtain ⟨x, hx⟩ : ∃ x, x = evV (readR s) := ⟨_, rfl⟩
  obtain ⟨r2, hr2⟩ : ∃ r, r = evR (readR s) := ⟨_, rfl⟩
  rw [← hx, ← hr2] at hE ⊢
  rw [← hr2] at hEnd
  clear hx hr2 hs2
  obtain ⟨fe, hfe⟩ : ∃ z, z = (endR r2).e := ⟨_, rfl⟩
  obtain ⟨fa, hfa⟩ : ∃ z, z = (endR r2).a := ⟨_, rfl⟩
  have hP := Lib.hid (show parseV x (endR r2) = if fe = 0 then .tuple #[ev x.1 x.2.1 x.2.2, .agg #[.int .i64 0, .int .i64 0]] else .tuple #[ev 0 0 0, .agg #[.int .i64 fe, .int .i64 fa]] by rw [hfe, hfa]; rfl)
  rw [← hfe, ← hfa] at hEnd
  clear hfe hfa
  obtain ⟨l, k, v⟩ := x
  obtain ⟨y, hy⟩ : ∃ y, y = rdl r2 := ⟨_, rfl⟩
  rw [← hy] at hE hEnd
  clear hy
  simp only [readR, Rd.val, rdl, ev] at hRead hE hEnd
  by_cases h0 : fe = 0
  · subst h0
    go_enter Tryd.func10, Tryd.ntmps10
    go_wp2_with fail
    refine named fun W hW => ?_
    have hB : Below w.heap.size w W := by rw [hW]; go_grown
    have hA : Blk W w.heap.size [.int .u64 0, .int .i64 0, .int .i64 0] := by rw [hW]; exact (Blk.is _ rfl).alloc _
    have hF : Blk W (w.heap.size + 1) [.int .i64 0, .int .i64 0] := by rw [hW]; exact Blk.is _ (by simp)
    clear hW
    refine (hRead _).mono ?_
    rintro e w1 ⟨rfl, hb1⟩
    replace hB := bstep hB hb1
    replace hA := hA.later hb1
    replace hF := hF.later hb1
    clear hb1 hRead
    go_wp2_with fail
    refine named fun W1 hW => ?_
    have hltA := hA.lt
    have hltF := hF.lt
    have hle := hB.size
    have hR : Blk W1 w1.heap.size [.string s, .int .i64 0, .int .i64 0, .int .i64 0] := by rw [hW]; exact Blk.is _ rfl
    replace hA : Blk W1 w.heap.size [.int .u64 0, .int .i64 0, .int .i64 0] := by rw [hW]; exact hA.alloc _
    replace hF : Blk W1 (w.heap.size + 1) [.int .i64 0, .int .i64 0] := by rw [hW]; exact hF.alloc _
    replace hB : Below w.heap.size w W1 := by rw [hW]; exact hB.alloc hB.size _
    obtain ⟨R, hRe⟩ : ∃ R, R = w1.heap.size := ⟨_, rfl⟩
    rw [← hRe] at hR hltA hltF hle ⊢
    clear hW hRe
    have hltR := hR.lt
    refine (hE R _ hR).mono ?_
    rintro e w2 ⟨rfl, hR2, hb2⟩
    replace hB := hB.trans (hb2.below hle hltR)
    replace hA := hb2.blk (Nat.ne_of_lt hltA) hA
    replace hF := hb2.blk (Nat.ne_of_lt hltF) hF
    clear hb2 hR hE hltR
    go_wp2_with fail
    refine named fun W2 hW => ?_
    have hX : Blk W2 w2.heap.size [.int .u64 l, .int .i64 k, .int .i64 v] := by rw [hW]; exact Blk.is _ rfl
    replace hR2 : Blk W2 R y := by rw [hW]; exact hR2.alloc _
    replace hA : Blk W2 w.heap.size [.int .u64 0, .int .i64 0, .int .i64 0] := by rw [hW]; exact hA.alloc _
    replace hF : Blk W2 (w.heap.size + 1) [.int .i64 0, .int .i64 0] := by rw [hW]; exact hF.alloc _
    replace hB : Below w.heap.size w W2 := by rw [hW]; exact hB.alloc hB.size _
    obtain ⟨X, hXe⟩ : ∃ X, X = w2.heap.size := ⟨_, rfl⟩
    rw [← hXe] at hX ⊢
    clear hW hXe
    refine (hEnd R _ hR2).mono ?_
    rintro e w3 ⟨rfl, hb3⟩
    replace hB := bstep hB hb3
    replace hA := hA.later hb3
    replace hF := hF.later hb3
    replace hX := hX.later hb3
    clear hb3 hR2 hEnd
    have a0 := hA.cell 0 _ rfl
    have af0 := hA.fr 0 _ rfl
    have x0 := hX.cell 0 _ rfl
    have a1 := hA.cell 1 _ rfl
    have af1 := hA.fr 1 _ rfl
    have x1 := hX.cell 1 _ rfl
    have a2 := hA.cell 2 _ rfl
    have af2 := hA.fr 2 _ rfl
    have x2 := hX.cell 2 _ rfl
    have c0 := hF.cell 0 _ rfl
    have cf0 := hF.fr 0 _ rfl
    have c1 := hF.cell 1 _ rfl
    have cf1 := hF.fr 1 _ rfl
    have ltA := hA.lt
    have ltF := hF.lt
    have ltX := hX.lt
    go_wp2
    refine named_post fun V hV => ?_
    have hVA : Blk V w.heap.size [.int .u64 l, .int .i64 k, .int .i64 v] := by rw [hV]; exact ((((((hA.set 0 _).set 1 _).set 2 _).other (by simp) _).other (by simp) _).alloc _)
    have hVF : Blk V (w.heap.size + 1) [.int .i64 0, .int .i64 0] := by rw [hV]; exact ((((((hF.other (by simp) _).other (by simp) _).other (by simp) _).set 0 _).set 1 _).alloc _)
    have hB5 := ((((hB.setCell (p := ⟨w.heap.size, 0, none⟩) (Nat.le_refl _) (.int .u64 l)).setCell (p := ⟨w.heap.size, 1, none⟩) (Nat.le_refl _) (.int .i64 k)).setCell (p := ⟨w.heap.size, 2, none⟩) (Nat.le_refl _) (.int .i64 v)).setCell (p := ⟨w.heap.size + 1, 0, none⟩) (by simp) (.int .i64 0)).setCell (p := ⟨w.heap.size + 1, 1, none⟩) (by simp) (.int .i64 0)
    have hVB : Below w.heap.size w V := by rw [hV]; exact (hB5.alloc hB5.size _)
    clear hV hB5 a0 a1 a2 af0 af1 af2 c0 c1 cf0 cf1 x0 x1 x2 ltA ltF ltX
    have a0 := hVA.cell 0 _ rfl
    have a1 := hVA.cell 1 _ rfl
    have a2 := hVA.cell 2 _ rfl
    have c0 := hVF.cell 0 _ rfl
    have c1 := hVF.cell 1 _ rfl
    refine bodyPost_ret (by simp [results, Tryd.results10, go_sem, a0, a1, a2, c0, c1]; try rfl) rfl ?_
    exact ⟨by rw [hP.out]; rfl, hVB⟩
  · have hne : (fe != 0) = true := by simpa using h0
    have H0 := Lib.hid h0
    clear h0
    go_enter Tryd.func10, Tryd.ntmps10
    go_wp2_with fail
    refine named fun W hW => ?_
    have hB : Below w.heap.size w W := by rw [hW]; go_grown
    have hA : Blk W w.heap.size [.int .u64 0, .int .i64 0, .int .i64 0] := by rw [hW]; exact (Blk.is _ rfl).alloc _
    have hF : Blk W (w.heap.size + 1) [.int .i64 0, .int .i64 0] := by rw [hW]; exact Blk.is _ (by simp)
    clear hW
    refine (hRead _).mono ?_
    rintro e w1 ⟨rfl, hb1⟩
    replace hB := bstep hB hb1
    replace hA := hA.later hb1
    replace hF := hF.later hb1
    clear hb1 hRead
    go_wp2_with fail
    refine named fun W1 hW => ?_
    have hltA := hA.lt
    have hltF := hF.lt
    have hle := hB.size
    have hR : Blk W1 w1.heap.size [.string s, .int .i64 0, .int .i64 0, .int .i64 0] := by rw [hW]; exact Blk.is _ rfl
    replace hA : Blk W1 w.heap.size [.int .u64 0, .int .i64 0, .int .i64 0] := by rw [hW]; exact hA.alloc _
    replace hF : Blk W1 (w.heap.size + 1) [.int .i64 0, .int .i64 0] := by rw [hW]; exact hF.alloc _
    replace hB : Below w.heap.size w W1 := by rw [hW]; exact hB.alloc hB.size _
    obtain ⟨R, hRe⟩ : ∃ R, R = w1.heap.size := ⟨_, rfl⟩
    rw [← hRe] at hR hltA hltF hle ⊢
    clear hW hRe
    have hltR := hR.lt
    refine (hE R _ hR).mono ?_
    rintro e w2 ⟨rfl, hR2, hb2⟩
    replace hB := hB.trans (hb2.below hle hltR)
    replace hA := hb2.blk (Nat.ne_of_lt hltA) hA
    replace hF := hb2.blk (Nat.ne_of_lt hltF) hF
    clear hb2 hR hE hltR
    go_wp2_with fail
    refine named fun W2 hW => ?_
    have hX : Blk W2 w2.heap.size [.int .u64 l, .int .i64 k, .int .i64 v] := by rw [hW]; exact Blk.is _ rfl
    replace hR2 : Blk W2 R y := by rw [hW]; exact hR2.alloc _
    replace hA : Blk W2 w.heap.size [.int .u64 0, .int .i64 0, .int .i64 0] := by rw [hW]; exact hA.alloc _
    replace hF : Blk W2 (w.heap.size + 1) [.int .i64 0, .int .i64 0] := by rw [hW]; exact hF.alloc _
    replace hB : Below w.heap.size w W2 := by rw [hW]; exact hB.alloc hB.size _
    obtain ⟨X, hXe⟩ : ∃ X, X = w2.heap.size := ⟨_, rfl⟩
    rw [← hXe] at hX ⊢
    clear hW hXe
    refine (hEnd R _ hR2).mono ?_
    rintro e w3 ⟨rfl, hb3⟩
    replace hB := bstep hB hb3
    replace hA := hA.later hb3
    replace hF := hF.later hb3
    replace hX := hX.later hb3
    clear hb3 hR2 hEnd
    have a0 := hA.cell 0 _ rfl
    have af0 := hA.fr 0 _ rfl
    have x0 := hX.cell 0 _ rfl
    have a1 := hA.cell 1 _ rfl
    have af1 := hA.fr 1 _ rfl
    have x1 := hX.cell 1 _ rfl
    have a2 := hA.cell 2 _ rfl
    have af2 := hA.fr 2 _ rfl
    have x2 := hX.cell 2 _ rfl
    have c0 := hF.cell 0 _ rfl
    have cf0 := hF.fr 0 _ rfl
    have c1 := hF.cell 1 _ rfl
    have cf1 := hF.fr 1 _ rfl
    have ltA := hA.lt
    have ltF := hF.lt
    have ltX := hX.lt
    go_wp2_with fail
    go_region
    all_goals go_wp2
    all_goals
      refine named_post fun V hV => ?_
      have hVA : Blk V w.heap.size [.int .u64 0, .int .i64 0, .int .i64 0] := by rw [hV]; exact ((((((hA.set 0 _).set 1 _).set 2 _).other (by simp) _).other (by simp) _).alloc _).drew
      have hVF : Blk V (w.heap.size + 1) [.int .i64 fe, .int .i64 fa] := by rw [hV]; exact ((((((hF.other (by simp) _).other (by simp) _).other (by simp) _).set 0 _).set 1 _).alloc _).drew
      have hB5 := ((((hB.setCell (p := ⟨w.heap.size, 0, none⟩) (Nat.le_refl _) (.int .u64 0)).setCell (p := ⟨w.heap.size, 1, none⟩) (Nat.le_refl _) (.int .i64 0)).setCell (p := ⟨w.heap.size, 2, none⟩) (Nat.le_refl _) (.int .i64 0)).setCell (p := ⟨w.heap.size + 1, 0, none⟩) (by simp) (.int .i64 fe)).setCell (p := ⟨w.heap.size + 1, 1, none⟩) (by simp) (.int .i64 fa)
      have hVB : Below w.heap.size w V := by rw [hV]; exact (hB5.alloc hB5.size _).drew
      clear hV hB5 a0 a1 a2 af0 af1 af2 c0 c1 cf0 cf1 x0 x1 x2 ltA ltF ltX
      have a0 := hVA.cell 0 _ rfl
      have a1 := hVA.cell 1 _ rfl
      have a2 := hVA.cell 2 _ rfl
      have c0 := hVF.cell 0 _ rfl
      have c1 := hVF.cell 1 _ rfl
      refine bodyPost_ret (by simp [results, Tryd.results10, go_sem, a0, a1, a2, c0, c1]; try rfl) rfl ?_
      exact ⟨by rw [hP.out]; rw [if_neg H0.out]; rfl, hVB⟩
end Go.Proofs.YtcmdndgaggbhoaaDoor.Ev
