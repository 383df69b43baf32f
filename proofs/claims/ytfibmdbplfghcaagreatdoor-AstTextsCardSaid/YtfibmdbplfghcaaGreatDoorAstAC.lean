/- Walks: whether two queries are equal, the program's and the document's own answer. Made by program (wip/tools/gen_astAC.py). -/
import Derived.Test.YtfibmdbplfghcaaGreatDoorAstAB
namespace Go.Proofs.YtfibmdbplfghcaaGreatDoor
open Go.RowKit
open A8 Tk7

theorem qrow_is' (k mn mx kd : Int) (bd : Bool) (bn : Int) (cs : List Cn) (nm : List UInt8) (sc sk : Value) (ks : List Tr) (wi : Int) (sh se : Value) (hv : List Hv) (em : List Ag) :
    GQ.row ⟨.mk k mn mx ⟨⟨kd, bd, bn, cs, nm⟩, sc⟩ sk ks, wi, sh, hv, se, em⟩ = [.int .i64 k, .int .i64 mn, .int .i64 mx, .int .i64 kd, .bool bd, .int .u64 bn, sc, .string (strOf nm), sk, .int .u64 wi, sh, se] := rfl
set_option maxRecDepth 100000 in
set_option maxHeartbeats 4000000 in
theorem same_n (xk xmn xmx xkd : Int) (xbd : Bool) (xbn : Int) (xsc : Value) (xnm : ByteArray) (xsk : Value) (xw : Int) (yw : Int) (xh xe : Value) (yk ymn ymx ykd : Int) (ybd : Bool) (ybn : Int) (ysc : Value) (ynm : ByteArray) (ysk : Value) (yh ye : Value) (w : World)
    (hN : ∀ w', Below w.heap.size w w' → Calls Tryz.prog 62 #[.agg #[.int .i64 xk, .int .i64 xmn, .int .i64 xmx, .int .i64 xkd, .bool xbd, .int .u64 xbn, xsc, .string xnm, xsk], .agg #[.int .i64 yk, .int .i64 ymn, .int .i64 ymx, .int .i64 ykd, .bool ybd, .int .u64 ybn, ysc, .string ynm, ysk]] w' fun e w'' => e = .returned (.bool false) ∧ Below w'.heap.size w' w'') :
    Calls Tryz.prog 31 #[.agg #[.int .i64 xk, .int .i64 xmn, .int .i64 xmx, .int .i64 xkd, .bool xbd, .int .u64 xbn, xsc, .string xnm, xsk, .int .u64 xw, xh, xe], .agg #[.int .i64 yk, .int .i64 ymn, .int .i64 ymx, .int .i64 ykd, .bool ybd, .int .u64 ybn, ysc, .string ynm, ysk, .int .u64 yw, yh, ye]] w fun e w' => e = .returned (.bool false) ∧ Below w.heap.size w w' := by
  obtain ⟨W, hWW⟩ : ∃ W, W = (w.alloc (.cells #[.int .i64 xk, .int .i64 xmn, .int .i64 xmx, .int .i64 xkd, .bool xbd, .int .u64 xbn, xsc, .string xnm, xsk, .int .u64 xw, xh, xe] 32)).alloc (.cells #[.int .i64 yk, .int .i64 ymn, .int .i64 ymx, .int .i64 ykd, .bool ybd, .int .u64 ybn, ysc, .string ynm, ysk, .int .u64 yw, yh, ye] 32) := ⟨_, rfl⟩
  have hb2 : Below w.heap.size w W := hWW ▸ b2 _ _ _
  have hX : Blk W w.heap.size [.int .i64 xk, .int .i64 xmn, .int .i64 xmx, .int .i64 xkd, .bool xbd, .int .u64 xbn, xsc, .string xnm, xsk, .int .u64 xw, xh, xe] := by rw [hWW]; exact (Blk.new w [.int .i64 xk, .int .i64 xmn, .int .i64 xmx, .int .i64 xkd, .bool xbd, .int .u64 xbn, xsc, .string xnm, xsk, .int .u64 xw, xh, xe] 32).alloc _
  have hY : Blk W (w.heap.size + 1) [.int .i64 yk, .int .i64 ymn, .int .i64 ymx, .int .i64 ykd, .bool ybd, .int .u64 ybn, ysc, .string ynm, ysk, .int .u64 yw, yh, ye] := by rw [hWW]; exact Blk.is (us := [.int .i64 yk, .int .i64 ymn, .int .i64 ymx, .int .i64 ykd, .bool ybd, .int .u64 ybn, ysc, .string ynm, ysk, .int .u64 yw, yh, ye]) _ (by simp)
  have hN1 := hN W hb2
  have hcell : ∀ w1, Below W.heap.size W w1 → Blk w1 w.heap.size [.int .i64 xk, .int .i64 xmn, .int .i64 xmx, .int .i64 xkd, .bool xbd, .int .u64 xbn, xsc, .string xnm, xsk, .int .u64 xw, xh, xe] ∧ Blk w1 (w.heap.size + 1) [.int .i64 yk, .int .i64 ymn, .int .i64 ymx, .int .i64 ykd, .bool ybd, .int .u64 ybn, ysc, .string ynm, ysk, .int .u64 yw, yh, ye] := fun w1 hb => ⟨hX.later hb, hY.later hb⟩
  clear hX hY hN hcell
  subst hWW
  go_enter Tryz.func31, Tryz.ntmps31
  go_wp2_with (first | (go_at_call 62; refine hN1.mono ?_; rintro e w3 ⟨rfl, hb3⟩))
  go_ret
  exact ⟨rfl, bstep hb2 hb3⟩
set_option maxRecDepth 100000 in
set_option maxHeartbeats 4000000 in
theorem same_w (xk xmn xmx xkd : Int) (xbd : Bool) (xbn : Int) (xsc : Value) (xnm : ByteArray) (xsk : Value) (xw : Int) (yw : Int) (xh xe : Value) (yk ymn ymx ykd : Int) (ybd : Bool) (ybn : Int) (ysc : Value) (ynm : ByteArray) (ysk : Value) (yh ye : Value) (w : World)
    (hN : ∀ w', Below w.heap.size w w' → Calls Tryz.prog 62 #[.agg #[.int .i64 xk, .int .i64 xmn, .int .i64 xmx, .int .i64 xkd, .bool xbd, .int .u64 xbn, xsc, .string xnm, xsk], .agg #[.int .i64 yk, .int .i64 ymn, .int .i64 ymx, .int .i64 ykd, .bool ybd, .int .u64 ybn, ysc, .string ynm, ysk]] w' fun e w'' => e = .returned (.bool true) ∧ Below w'.heap.size w' w'') (h : ¬ xw = yw) :
    Calls Tryz.prog 31 #[.agg #[.int .i64 xk, .int .i64 xmn, .int .i64 xmx, .int .i64 xkd, .bool xbd, .int .u64 xbn, xsc, .string xnm, xsk, .int .u64 xw, xh, xe], .agg #[.int .i64 yk, .int .i64 ymn, .int .i64 ymx, .int .i64 ykd, .bool ybd, .int .u64 ybn, ysc, .string ynm, ysk, .int .u64 yw, yh, ye]] w fun e w' => e = .returned (.bool false) ∧ Below w.heap.size w w' := by
  obtain ⟨W, hWW⟩ : ∃ W, W = (w.alloc (.cells #[.int .i64 xk, .int .i64 xmn, .int .i64 xmx, .int .i64 xkd, .bool xbd, .int .u64 xbn, xsc, .string xnm, xsk, .int .u64 xw, xh, xe] 32)).alloc (.cells #[.int .i64 yk, .int .i64 ymn, .int .i64 ymx, .int .i64 ykd, .bool ybd, .int .u64 ybn, ysc, .string ynm, ysk, .int .u64 yw, yh, ye] 32) := ⟨_, rfl⟩
  have hb2 : Below w.heap.size w W := hWW ▸ b2 _ _ _
  have hX : Blk W w.heap.size [.int .i64 xk, .int .i64 xmn, .int .i64 xmx, .int .i64 xkd, .bool xbd, .int .u64 xbn, xsc, .string xnm, xsk, .int .u64 xw, xh, xe] := by rw [hWW]; exact (Blk.new w [.int .i64 xk, .int .i64 xmn, .int .i64 xmx, .int .i64 xkd, .bool xbd, .int .u64 xbn, xsc, .string xnm, xsk, .int .u64 xw, xh, xe] 32).alloc _
  have hY : Blk W (w.heap.size + 1) [.int .i64 yk, .int .i64 ymn, .int .i64 ymx, .int .i64 ykd, .bool ybd, .int .u64 ybn, ysc, .string ynm, ysk, .int .u64 yw, yh, ye] := by rw [hWW]; exact Blk.is (us := [.int .i64 yk, .int .i64 ymn, .int .i64 ymx, .int .i64 ykd, .bool ybd, .int .u64 ybn, ysc, .string ynm, ysk, .int .u64 yw, yh, ye]) _ (by simp)
  have hN1 := hN W hb2
  have hcell : ∀ w1, Below W.heap.size W w1 → Blk w1 w.heap.size [.int .i64 xk, .int .i64 xmn, .int .i64 xmx, .int .i64 xkd, .bool xbd, .int .u64 xbn, xsc, .string xnm, xsk, .int .u64 xw, xh, xe] ∧ Blk w1 (w.heap.size + 1) [.int .i64 yk, .int .i64 ymn, .int .i64 ymx, .int .i64 ykd, .bool ybd, .int .u64 ybn, ysc, .string ynm, ysk, .int .u64 yw, yh, ye] := fun w1 hb => ⟨hX.later hb, hY.later hb⟩
  have hb0 : (xw == yw) = false := by rw [beq_eq_false_iff_ne]; exact h
  clear hX hY hN
  subst hWW
  go_enter Tryz.func31, Tryz.ntmps31
  go_wp2_with (first | (go_at_call 62; refine hN1.mono ?_; rintro e w3 ⟨rfl, hb3⟩; obtain ⟨HX, HY⟩ := hcell _ hb3; have c9 := HX.cell 9 _ rfl; have d9 := HY.cell 9 _ rfl; have c10 := HX.cell 10 _ rfl; have d10 := HY.cell 10 _ rfl; clear HX HY))
  go_ret
  exact ⟨rfl, bstep hb2 hb3⟩
set_option maxRecDepth 100000 in
set_option maxHeartbeats 4000000 in
theorem same_h (xk xmn xmx xkd : Int) (xbd : Bool) (xbn : Int) (xsc : Value) (xnm : ByteArray) (xsk : Value) (xw : Int) (xh xe : Value) (yk ymn ymx ykd : Int) (ybd : Bool) (ybn : Int) (ysc : Value) (ynm : ByteArray) (ysk : Value) (yh ye : Value) (w : World)
    (hN : ∀ w', Below w.heap.size w w' → Calls Tryz.prog 62 #[.agg #[.int .i64 xk, .int .i64 xmn, .int .i64 xmx, .int .i64 xkd, .bool xbd, .int .u64 xbn, xsc, .string xnm, xsk], .agg #[.int .i64 yk, .int .i64 ymn, .int .i64 ymx, .int .i64 ykd, .bool ybd, .int .u64 ybn, ysc, .string ynm, ysk]] w' fun e w'' => e = .returned (.bool true) ∧ Below w'.heap.size w' w'')
    (hH : ∀ w', Below w.heap.size w w' → Calls Tryz.prog 63 #[xh, yh, .func (.func 64) #[] #[]] w' fun e w'' => e = .returned (.bool false) ∧ Below w'.heap.size w' w'') :
    Calls Tryz.prog 31 #[.agg #[.int .i64 xk, .int .i64 xmn, .int .i64 xmx, .int .i64 xkd, .bool xbd, .int .u64 xbn, xsc, .string xnm, xsk, .int .u64 xw, xh, xe], .agg #[.int .i64 yk, .int .i64 ymn, .int .i64 ymx, .int .i64 ykd, .bool ybd, .int .u64 ybn, ysc, .string ynm, ysk, .int .u64 xw, yh, ye]] w fun e w' => e = .returned (.bool false) ∧ Below w.heap.size w w' := by
  obtain ⟨W, hWW⟩ : ∃ W, W = (w.alloc (.cells #[.int .i64 xk, .int .i64 xmn, .int .i64 xmx, .int .i64 xkd, .bool xbd, .int .u64 xbn, xsc, .string xnm, xsk, .int .u64 xw, xh, xe] 32)).alloc (.cells #[.int .i64 yk, .int .i64 ymn, .int .i64 ymx, .int .i64 ykd, .bool ybd, .int .u64 ybn, ysc, .string ynm, ysk, .int .u64 xw, yh, ye] 32) := ⟨_, rfl⟩
  have hb2 : Below w.heap.size w W := hWW ▸ b2 _ _ _
  have hX : Blk W w.heap.size [.int .i64 xk, .int .i64 xmn, .int .i64 xmx, .int .i64 xkd, .bool xbd, .int .u64 xbn, xsc, .string xnm, xsk, .int .u64 xw, xh, xe] := by rw [hWW]; exact (Blk.new w [.int .i64 xk, .int .i64 xmn, .int .i64 xmx, .int .i64 xkd, .bool xbd, .int .u64 xbn, xsc, .string xnm, xsk, .int .u64 xw, xh, xe] 32).alloc _
  have hY : Blk W (w.heap.size + 1) [.int .i64 yk, .int .i64 ymn, .int .i64 ymx, .int .i64 ykd, .bool ybd, .int .u64 ybn, ysc, .string ynm, ysk, .int .u64 xw, yh, ye] := by rw [hWW]; exact Blk.is (us := [.int .i64 yk, .int .i64 ymn, .int .i64 ymx, .int .i64 ykd, .bool ybd, .int .u64 ybn, ysc, .string ynm, ysk, .int .u64 xw, yh, ye]) _ (by simp)
  have hN1 := hN W hb2
  have hcell : ∀ w1, Below W.heap.size W w1 → Blk w1 w.heap.size [.int .i64 xk, .int .i64 xmn, .int .i64 xmx, .int .i64 xkd, .bool xbd, .int .u64 xbn, xsc, .string xnm, xsk, .int .u64 xw, xh, xe] ∧ Blk w1 (w.heap.size + 1) [.int .i64 yk, .int .i64 ymn, .int .i64 ymx, .int .i64 ykd, .bool ybd, .int .u64 ybn, ysc, .string ynm, ysk, .int .u64 xw, yh, ye] := fun w1 hb => ⟨hX.later hb, hY.later hb⟩
  clear hX hY hN
  subst hWW
  go_enter Tryz.func31, Tryz.ntmps31
  go_wp2_with (first | (go_at_call 62; refine hN1.mono ?_; rintro e w3 ⟨rfl, hb3⟩; obtain ⟨HX, HY⟩ := hcell _ hb3; have c9 := HX.cell 9 _ rfl; have d9 := HY.cell 9 _ rfl; have c10 := HX.cell 10 _ rfl; have d10 := HY.cell 10 _ rfl; clear HX HY) | (go_at_call 63; refine (hH _ (bstep hb2 hb3)).mono ?_; rintro e w4 ⟨rfl, hb4⟩))
  go_ret
  exact ⟨rfl, bstep (bstep hb2 hb3) hb4⟩
set_option maxRecDepth 100000 in
set_option maxHeartbeats 4000000 in
theorem same_e (xk xmn xmx xkd : Int) (xbd : Bool) (xbn : Int) (xsc : Value) (xnm : ByteArray) (xsk : Value) (xw : Int) (xh xe : Value) (yk ymn ymx ykd : Int) (ybd : Bool) (ybn : Int) (ysc : Value) (ynm : ByteArray) (ysk : Value) (yh ye : Value) (q : Bool) (w : World)
    (hN : ∀ w', Below w.heap.size w w' → Calls Tryz.prog 62 #[.agg #[.int .i64 xk, .int .i64 xmn, .int .i64 xmx, .int .i64 xkd, .bool xbd, .int .u64 xbn, xsc, .string xnm, xsk], .agg #[.int .i64 yk, .int .i64 ymn, .int .i64 ymx, .int .i64 ykd, .bool ybd, .int .u64 ybn, ysc, .string ynm, ysk]] w' fun e w'' => e = .returned (.bool true) ∧ Below w'.heap.size w' w'')
    (hH : ∀ w', Below w.heap.size w w' → Calls Tryz.prog 63 #[xh, yh, .func (.func 64) #[] #[]] w' fun e w'' => e = .returned (.bool true) ∧ Below w'.heap.size w' w'')
    (hE : ∀ w', Below w.heap.size w w' → Calls Tryz.prog 65 #[xe, ye, .func (.func 66) #[] #[]] w' fun e w'' => e = .returned (.bool q) ∧ Below w'.heap.size w' w'') :
    Calls Tryz.prog 31 #[.agg #[.int .i64 xk, .int .i64 xmn, .int .i64 xmx, .int .i64 xkd, .bool xbd, .int .u64 xbn, xsc, .string xnm, xsk, .int .u64 xw, xh, xe], .agg #[.int .i64 yk, .int .i64 ymn, .int .i64 ymx, .int .i64 ykd, .bool ybd, .int .u64 ybn, ysc, .string ynm, ysk, .int .u64 xw, yh, ye]] w fun e w' => e = .returned (.bool q) ∧ Below w.heap.size w w' := by
  obtain ⟨W, hWW⟩ : ∃ W, W = (w.alloc (.cells #[.int .i64 xk, .int .i64 xmn, .int .i64 xmx, .int .i64 xkd, .bool xbd, .int .u64 xbn, xsc, .string xnm, xsk, .int .u64 xw, xh, xe] 32)).alloc (.cells #[.int .i64 yk, .int .i64 ymn, .int .i64 ymx, .int .i64 ykd, .bool ybd, .int .u64 ybn, ysc, .string ynm, ysk, .int .u64 xw, yh, ye] 32) := ⟨_, rfl⟩
  have hb2 : Below w.heap.size w W := hWW ▸ b2 _ _ _
  have hX : Blk W w.heap.size [.int .i64 xk, .int .i64 xmn, .int .i64 xmx, .int .i64 xkd, .bool xbd, .int .u64 xbn, xsc, .string xnm, xsk, .int .u64 xw, xh, xe] := by rw [hWW]; exact (Blk.new w [.int .i64 xk, .int .i64 xmn, .int .i64 xmx, .int .i64 xkd, .bool xbd, .int .u64 xbn, xsc, .string xnm, xsk, .int .u64 xw, xh, xe] 32).alloc _
  have hY : Blk W (w.heap.size + 1) [.int .i64 yk, .int .i64 ymn, .int .i64 ymx, .int .i64 ykd, .bool ybd, .int .u64 ybn, ysc, .string ynm, ysk, .int .u64 xw, yh, ye] := by rw [hWW]; exact Blk.is (us := [.int .i64 yk, .int .i64 ymn, .int .i64 ymx, .int .i64 ykd, .bool ybd, .int .u64 ybn, ysc, .string ynm, ysk, .int .u64 xw, yh, ye]) _ (by simp)
  have hN1 := hN W hb2
  have hcell : ∀ w1, Below W.heap.size W w1 → Blk w1 w.heap.size [.int .i64 xk, .int .i64 xmn, .int .i64 xmx, .int .i64 xkd, .bool xbd, .int .u64 xbn, xsc, .string xnm, xsk, .int .u64 xw, xh, xe] ∧ Blk w1 (w.heap.size + 1) [.int .i64 yk, .int .i64 ymn, .int .i64 ymx, .int .i64 ykd, .bool ybd, .int .u64 ybn, ysc, .string ynm, ysk, .int .u64 xw, yh, ye] := fun w1 hb => ⟨hX.later hb, hY.later hb⟩
  clear hX hY hN
  subst hWW
  go_enter Tryz.func31, Tryz.ntmps31
  go_wp2_with (first | (go_at_call 62; refine hN1.mono ?_; rintro e w3 ⟨rfl, hb3⟩; obtain ⟨HX, HY⟩ := hcell _ hb3; have c9 := HX.cell 9 _ rfl; have d9 := HY.cell 9 _ rfl; have c10 := HX.cell 10 _ rfl; have d10 := HY.cell 10 _ rfl; clear HX HY) | (go_at_call 63; refine (hH _ (bstep hb2 hb3)).mono ?_; rintro e w4 ⟨rfl, hb4⟩; obtain ⟨HX, HY⟩ := hcell _ (bstep hb3 hb4); have c11 := HX.cell 11 _ rfl; have d11 := HY.cell 11 _ rfl; clear HX HY) | (go_at_call 65; refine (hE _ (bstep (bstep hb2 hb3) hb4)).mono ?_; rintro e w5 ⟨rfl, hb5⟩))
  go_ret
  exact ⟨rfl, bstep (bstep (bstep hb2 hb3) hb4) hb5⟩
theorem sameq_any (a b : GQ) (w : World) (ha : QW w a) (hb : QW w b) :
    Calls Tryz.prog 31 #[.agg a.row.toArray, .agg b.row.toArray] w fun e w' => e = .returned (.bool (sameQ a.qu b.qu)) ∧ Below w.heap.size w w' := by
  have hN := fun w' (hb' : Below w.heap.size w w') => sameNode_any a.t b.t w' (ha.tr.later hb') (hb.tr.later hb')
  have hH := fun w' (hb' : Below w.heap.size w w') => sameListHave_any a.sh b.sh a.hv b.hv w' (ha.hv.later hb') (hb.hv.later hb')
  have hE := fun w' (hb' : Below w.heap.size w w') => sameListAgg_any a.se b.se a.em b.em w' (ha.em.later hb') (hb.em.later hb')
  have hs : sameQ a.qu b.qu = (decide (a.t.nd = b.t.nd) && decide (a.wi = b.wi) && decide (a.hv = b.hv) && decide (a.em = b.em)) := rfl
  rw [hs]
  clear hs ha hb
  obtain ⟨⟨xk, xmn, xmx, ⟨⟨xkd, xbd, xbn, xcs, xnm⟩, xsc⟩, xsk, xks⟩, xw, xh, xhv, xe, xem⟩ := a
  obtain ⟨⟨yk, ymn, ymx, ⟨⟨ykd, ybd, ybn, ycs, ynm⟩, ysc⟩, ysk, yks⟩, yw, yh, yhv, ye, yem⟩ := b
  simp only at hN hH hE ⊢
  simp only [qrow_is']
  simp only [Tr.row] at hN
  obtain ⟨p, hp⟩ : ∃ p, p = decide (Tr.nd (.mk xk xmn xmx ⟨⟨xkd, xbd, xbn, xcs, xnm⟩, xsc⟩ xsk xks) = Tr.nd (.mk yk ymn ymx ⟨⟨ykd, ybd, ybn, ycs, ynm⟩, ysc⟩ ysk yks)) := ⟨_, rfl⟩
  obtain ⟨q, hq⟩ : ∃ q, q = decide (xhv = yhv) := ⟨_, rfl⟩
  obtain ⟨r, hr⟩ : ∃ r, r = decide (xem = yem) := ⟨_, rfl⟩
  rw [← hp] at hN ⊢
  rw [← hq] at hH ⊢
  rw [← hr] at hE ⊢
  clear hp hq hr
  cases p with
  | false => exact same_n xk xmn xmx xkd xbd xbn xsc (strOf xnm) xsk xw yw xh xe yk ymn ymx ykd ybd ybn ysc (strOf ynm) ysk yh ye w hN
  | true =>
    by_cases ew : xw = yw
    · subst ew
      simp only [decide_true, Bool.true_and]
      cases q with
      | false => exact same_h xk xmn xmx xkd xbd xbn xsc (strOf xnm) xsk xw xh xe yk ymn ymx ykd ybd ybn ysc (strOf ynm) ysk yh ye w hN hH
      | true => exact same_e xk xmn xmx xkd xbd xbn xsc (strOf xnm) xsk xw xh xe yk ymn ymx ykd ybd ybn ysc (strOf ynm) ysk yh ye r w hN hH hE
    · simp only [decide_eq_false ew, Bool.and_false, Bool.false_and]
      exact same_w xk xmn xmx xkd xbd xbn xsc (strOf xnm) xsk xw yw xh xe yk ymn ymx ykd ybd ybn ysc (strOf ynm) ysk yh ye w hN ew
set_option maxRecDepth 100000 in
set_option maxHeartbeats 4000000 in
theorem rsame_n (xk xmn xmx xkd : Int) (xbd : Bool) (xbn : Int) (xsc : Value) (xnm : ByteArray) (xsk : Value) (xw : Int) (yw : Int) (yk ymn ymx ykd : Int) (ybd : Bool) (ybn : Int) (ysc : Value) (ynm : ByteArray) (ysk : Value) (A B A' B' : Option Addr) (n m n' m' c d c' d' : Nat) (w : World)
    (hN : ∀ w', Below w.heap.size w w' → Calls Tryz.prog 67 #[.agg #[.int .i64 xk, .int .i64 xmn, .int .i64 xmx, .int .i64 xkd, .bool xbd, .int .u64 xbn, xsc, .string xnm, xsk], .agg #[.int .i64 yk, .int .i64 ymn, .int .i64 ymx, .int .i64 ykd, .bool ybd, .int .u64 ybn, ysc, .string ynm, ysk]] w' fun e w'' => e = .returned (.bool false) ∧ Below w'.heap.size w' w'') :
    Calls Tryz.prog 32 #[.agg #[.int .i64 xk, .int .i64 xmn, .int .i64 xmx, .int .i64 xkd, .bool xbd, .int .u64 xbn, xsc, .string xnm, xsk, .int .u64 xw, .slice A n c, .slice B m d], .agg #[.int .i64 yk, .int .i64 ymn, .int .i64 ymx, .int .i64 ykd, .bool ybd, .int .u64 ybn, ysc, .string ynm, ysk, .int .u64 yw, .slice A' n' c', .slice B' m' d']] w fun e w' => e = .returned (.bool false) ∧ Below w.heap.size w w' := by
  obtain ⟨W, hWW⟩ : ∃ W, W = (w.alloc (.cells #[.int .i64 xk, .int .i64 xmn, .int .i64 xmx, .int .i64 xkd, .bool xbd, .int .u64 xbn, xsc, .string xnm, xsk, .int .u64 xw, .slice A n c, .slice B m d] 32)).alloc (.cells #[.int .i64 yk, .int .i64 ymn, .int .i64 ymx, .int .i64 ykd, .bool ybd, .int .u64 ybn, ysc, .string ynm, ysk, .int .u64 yw, .slice A' n' c', .slice B' m' d'] 32) := ⟨_, rfl⟩
  have hb2 : Below w.heap.size w W := hWW ▸ b2 _ _ _
  have hX : Blk W w.heap.size [.int .i64 xk, .int .i64 xmn, .int .i64 xmx, .int .i64 xkd, .bool xbd, .int .u64 xbn, xsc, .string xnm, xsk, .int .u64 xw, .slice A n c, .slice B m d] := by rw [hWW]; exact (Blk.new w [.int .i64 xk, .int .i64 xmn, .int .i64 xmx, .int .i64 xkd, .bool xbd, .int .u64 xbn, xsc, .string xnm, xsk, .int .u64 xw, .slice A n c, .slice B m d] 32).alloc _
  have hY : Blk W (w.heap.size + 1) [.int .i64 yk, .int .i64 ymn, .int .i64 ymx, .int .i64 ykd, .bool ybd, .int .u64 ybn, ysc, .string ynm, ysk, .int .u64 yw, .slice A' n' c', .slice B' m' d'] := by rw [hWW]; exact Blk.is (us := [.int .i64 yk, .int .i64 ymn, .int .i64 ymx, .int .i64 ykd, .bool ybd, .int .u64 ybn, ysc, .string ynm, ysk, .int .u64 yw, .slice A' n' c', .slice B' m' d']) _ (by simp)
  have hN1 := hN W hb2
  have hcell : ∀ w1, Below W.heap.size W w1 → Blk w1 w.heap.size [.int .i64 xk, .int .i64 xmn, .int .i64 xmx, .int .i64 xkd, .bool xbd, .int .u64 xbn, xsc, .string xnm, xsk, .int .u64 xw, .slice A n c, .slice B m d] ∧ Blk w1 (w.heap.size + 1) [.int .i64 yk, .int .i64 ymn, .int .i64 ymx, .int .i64 ykd, .bool ybd, .int .u64 ybn, ysc, .string ynm, ysk, .int .u64 yw, .slice A' n' c', .slice B' m' d'] := fun w1 hb => ⟨hX.later hb, hY.later hb⟩
  clear hX hY hN hcell
  subst hWW
  go_enter Tryz.func32, Tryz.ntmps32
  go_wp2_with (go_at_call 67; refine hN1.mono ?_; rintro e w3 ⟨rfl, hb3⟩)
  go_ret
  exact ⟨rfl, bstep hb2 hb3⟩
set_option maxRecDepth 100000 in
set_option maxHeartbeats 4000000 in
theorem rsame_w (xk xmn xmx xkd : Int) (xbd : Bool) (xbn : Int) (xsc : Value) (xnm : ByteArray) (xsk : Value) (xw : Int) (yw : Int) (yk ymn ymx ykd : Int) (ybd : Bool) (ybn : Int) (ysc : Value) (ynm : ByteArray) (ysk : Value) (A B A' B' : Option Addr) (n m n' m' c d c' d' : Nat) (w : World)
    (hN : ∀ w', Below w.heap.size w w' → Calls Tryz.prog 67 #[.agg #[.int .i64 xk, .int .i64 xmn, .int .i64 xmx, .int .i64 xkd, .bool xbd, .int .u64 xbn, xsc, .string xnm, xsk], .agg #[.int .i64 yk, .int .i64 ymn, .int .i64 ymx, .int .i64 ykd, .bool ybd, .int .u64 ybn, ysc, .string ynm, ysk]] w' fun e w'' => e = .returned (.bool true) ∧ Below w'.heap.size w' w'') (h : ¬ xw = yw) :
    Calls Tryz.prog 32 #[.agg #[.int .i64 xk, .int .i64 xmn, .int .i64 xmx, .int .i64 xkd, .bool xbd, .int .u64 xbn, xsc, .string xnm, xsk, .int .u64 xw, .slice A n c, .slice B m d], .agg #[.int .i64 yk, .int .i64 ymn, .int .i64 ymx, .int .i64 ykd, .bool ybd, .int .u64 ybn, ysc, .string ynm, ysk, .int .u64 yw, .slice A' n' c', .slice B' m' d']] w fun e w' => e = .returned (.bool false) ∧ Below w.heap.size w w' := by
  obtain ⟨W, hWW⟩ : ∃ W, W = (w.alloc (.cells #[.int .i64 xk, .int .i64 xmn, .int .i64 xmx, .int .i64 xkd, .bool xbd, .int .u64 xbn, xsc, .string xnm, xsk, .int .u64 xw, .slice A n c, .slice B m d] 32)).alloc (.cells #[.int .i64 yk, .int .i64 ymn, .int .i64 ymx, .int .i64 ykd, .bool ybd, .int .u64 ybn, ysc, .string ynm, ysk, .int .u64 yw, .slice A' n' c', .slice B' m' d'] 32) := ⟨_, rfl⟩
  have hb2 : Below w.heap.size w W := hWW ▸ b2 _ _ _
  have hX : Blk W w.heap.size [.int .i64 xk, .int .i64 xmn, .int .i64 xmx, .int .i64 xkd, .bool xbd, .int .u64 xbn, xsc, .string xnm, xsk, .int .u64 xw, .slice A n c, .slice B m d] := by rw [hWW]; exact (Blk.new w [.int .i64 xk, .int .i64 xmn, .int .i64 xmx, .int .i64 xkd, .bool xbd, .int .u64 xbn, xsc, .string xnm, xsk, .int .u64 xw, .slice A n c, .slice B m d] 32).alloc _
  have hY : Blk W (w.heap.size + 1) [.int .i64 yk, .int .i64 ymn, .int .i64 ymx, .int .i64 ykd, .bool ybd, .int .u64 ybn, ysc, .string ynm, ysk, .int .u64 yw, .slice A' n' c', .slice B' m' d'] := by rw [hWW]; exact Blk.is (us := [.int .i64 yk, .int .i64 ymn, .int .i64 ymx, .int .i64 ykd, .bool ybd, .int .u64 ybn, ysc, .string ynm, ysk, .int .u64 yw, .slice A' n' c', .slice B' m' d']) _ (by simp)
  have hN1 := hN W hb2
  have hcell : ∀ w1, Below W.heap.size W w1 → Blk w1 w.heap.size [.int .i64 xk, .int .i64 xmn, .int .i64 xmx, .int .i64 xkd, .bool xbd, .int .u64 xbn, xsc, .string xnm, xsk, .int .u64 xw, .slice A n c, .slice B m d] ∧ Blk w1 (w.heap.size + 1) [.int .i64 yk, .int .i64 ymn, .int .i64 ymx, .int .i64 ykd, .bool ybd, .int .u64 ybn, ysc, .string ynm, ysk, .int .u64 yw, .slice A' n' c', .slice B' m' d'] := fun w1 hb => ⟨hX.later hb, hY.later hb⟩
  have hb0 : (xw == yw) = false := by rw [beq_eq_false_iff_ne]; exact h
  have hb1 : (xw != yw) = true := by simp only [bne, hb0]; rfl
  clear hX hY hN
  subst hWW
  go_enter Tryz.func32, Tryz.ntmps32
  go_wp2_with (go_at_call 67; refine hN1.mono ?_; rintro e w3 ⟨rfl, hb3⟩; obtain ⟨HX, HY⟩ := hcell _ hb3; have c9 := HX.cell 9 _ rfl; have d9 := HY.cell 9 _ rfl; have c10 := HX.cell 10 _ rfl; have d10 := HY.cell 10 _ rfl; have c11 := HX.cell 11 _ rfl; have d11 := HY.cell 11 _ rfl; clear HX HY)
  go_ret
  exact ⟨rfl, bstep hb2 hb3⟩
set_option maxRecDepth 100000 in
set_option maxHeartbeats 4000000 in
theorem rsame_h (xk xmn xmx xkd : Int) (xbd : Bool) (xbn : Int) (xsc : Value) (xnm : ByteArray) (xsk : Value) (xw : Int) (yk ymn ymx ykd : Int) (ybd : Bool) (ybn : Int) (ysc : Value) (ynm : ByteArray) (ysk : Value) (A B A' B' : Option Addr) (n m n' m' c d c' d' : Nat) (w : World)
    (hN : ∀ w', Below w.heap.size w w' → Calls Tryz.prog 67 #[.agg #[.int .i64 xk, .int .i64 xmn, .int .i64 xmx, .int .i64 xkd, .bool xbd, .int .u64 xbn, xsc, .string xnm, xsk], .agg #[.int .i64 yk, .int .i64 ymn, .int .i64 ymx, .int .i64 ykd, .bool ybd, .int .u64 ybn, ysc, .string ynm, ysk]] w' fun e w'' => e = .returned (.bool true) ∧ Below w'.heap.size w' w'') (h : ¬ n = n') :
    Calls Tryz.prog 32 #[.agg #[.int .i64 xk, .int .i64 xmn, .int .i64 xmx, .int .i64 xkd, .bool xbd, .int .u64 xbn, xsc, .string xnm, xsk, .int .u64 xw, .slice A n c, .slice B m d], .agg #[.int .i64 yk, .int .i64 ymn, .int .i64 ymx, .int .i64 ykd, .bool ybd, .int .u64 ybn, ysc, .string ynm, ysk, .int .u64 xw, .slice A' n' c', .slice B' m' d']] w fun e w' => e = .returned (.bool false) ∧ Below w.heap.size w w' := by
  obtain ⟨W, hWW⟩ : ∃ W, W = (w.alloc (.cells #[.int .i64 xk, .int .i64 xmn, .int .i64 xmx, .int .i64 xkd, .bool xbd, .int .u64 xbn, xsc, .string xnm, xsk, .int .u64 xw, .slice A n c, .slice B m d] 32)).alloc (.cells #[.int .i64 yk, .int .i64 ymn, .int .i64 ymx, .int .i64 ykd, .bool ybd, .int .u64 ybn, ysc, .string ynm, ysk, .int .u64 xw, .slice A' n' c', .slice B' m' d'] 32) := ⟨_, rfl⟩
  have hb2 : Below w.heap.size w W := hWW ▸ b2 _ _ _
  have hX : Blk W w.heap.size [.int .i64 xk, .int .i64 xmn, .int .i64 xmx, .int .i64 xkd, .bool xbd, .int .u64 xbn, xsc, .string xnm, xsk, .int .u64 xw, .slice A n c, .slice B m d] := by rw [hWW]; exact (Blk.new w [.int .i64 xk, .int .i64 xmn, .int .i64 xmx, .int .i64 xkd, .bool xbd, .int .u64 xbn, xsc, .string xnm, xsk, .int .u64 xw, .slice A n c, .slice B m d] 32).alloc _
  have hY : Blk W (w.heap.size + 1) [.int .i64 yk, .int .i64 ymn, .int .i64 ymx, .int .i64 ykd, .bool ybd, .int .u64 ybn, ysc, .string ynm, ysk, .int .u64 xw, .slice A' n' c', .slice B' m' d'] := by rw [hWW]; exact Blk.is (us := [.int .i64 yk, .int .i64 ymn, .int .i64 ymx, .int .i64 ykd, .bool ybd, .int .u64 ybn, ysc, .string ynm, ysk, .int .u64 xw, .slice A' n' c', .slice B' m' d']) _ (by simp)
  have hN1 := hN W hb2
  have hcell : ∀ w1, Below W.heap.size W w1 → Blk w1 w.heap.size [.int .i64 xk, .int .i64 xmn, .int .i64 xmx, .int .i64 xkd, .bool xbd, .int .u64 xbn, xsc, .string xnm, xsk, .int .u64 xw, .slice A n c, .slice B m d] ∧ Blk w1 (w.heap.size + 1) [.int .i64 yk, .int .i64 ymn, .int .i64 ymx, .int .i64 ykd, .bool ybd, .int .u64 ybn, ysc, .string ynm, ysk, .int .u64 xw, .slice A' n' c', .slice B' m' d'] := fun w1 hb => ⟨hX.later hb, hY.later hb⟩
  have hb0 : ((n : Int) == (n' : Int)) = false := by rw [beq_eq_false_iff_ne]; omega
  have hb1 : ((n : Int) != (n' : Int)) = true := by simp only [bne, hb0]; rfl
  clear hX hY hN
  subst hWW
  go_enter Tryz.func32, Tryz.ntmps32
  go_wp2_with (go_at_call 67; refine hN1.mono ?_; rintro e w3 ⟨rfl, hb3⟩; obtain ⟨HX, HY⟩ := hcell _ hb3; have c9 := HX.cell 9 _ rfl; have d9 := HY.cell 9 _ rfl; have c10 := HX.cell 10 _ rfl; have d10 := HY.cell 10 _ rfl; have c11 := HX.cell 11 _ rfl; have d11 := HY.cell 11 _ rfl; clear HX HY)
  go_ret
  exact ⟨rfl, bstep hb2 hb3⟩
set_option maxRecDepth 100000 in
set_option maxHeartbeats 4000000 in
theorem rsame_e (xk xmn xmx xkd : Int) (xbd : Bool) (xbn : Int) (xsc : Value) (xnm : ByteArray) (xsk : Value) (xw : Int) (yk ymn ymx ykd : Int) (ybd : Bool) (ybn : Int) (ysc : Value) (ynm : ByteArray) (ysk : Value) (A B A' B' : Option Addr) (n m n' m' c d c' d' : Nat) (w : World)
    (hN : ∀ w', Below w.heap.size w w' → Calls Tryz.prog 67 #[.agg #[.int .i64 xk, .int .i64 xmn, .int .i64 xmx, .int .i64 xkd, .bool xbd, .int .u64 xbn, xsc, .string xnm, xsk], .agg #[.int .i64 yk, .int .i64 ymn, .int .i64 ymx, .int .i64 ykd, .bool ybd, .int .u64 ybn, ysc, .string ynm, ysk]] w' fun e w'' => e = .returned (.bool true) ∧ Below w'.heap.size w' w'') (hn : n = n') (h : ¬ m = m') :
    Calls Tryz.prog 32 #[.agg #[.int .i64 xk, .int .i64 xmn, .int .i64 xmx, .int .i64 xkd, .bool xbd, .int .u64 xbn, xsc, .string xnm, xsk, .int .u64 xw, .slice A n c, .slice B m d], .agg #[.int .i64 yk, .int .i64 ymn, .int .i64 ymx, .int .i64 ykd, .bool ybd, .int .u64 ybn, ysc, .string ynm, ysk, .int .u64 xw, .slice A' n' c', .slice B' m' d']] w fun e w' => e = .returned (.bool false) ∧ Below w.heap.size w w' := by
  obtain ⟨W, hWW⟩ : ∃ W, W = (w.alloc (.cells #[.int .i64 xk, .int .i64 xmn, .int .i64 xmx, .int .i64 xkd, .bool xbd, .int .u64 xbn, xsc, .string xnm, xsk, .int .u64 xw, .slice A n c, .slice B m d] 32)).alloc (.cells #[.int .i64 yk, .int .i64 ymn, .int .i64 ymx, .int .i64 ykd, .bool ybd, .int .u64 ybn, ysc, .string ynm, ysk, .int .u64 xw, .slice A' n' c', .slice B' m' d'] 32) := ⟨_, rfl⟩
  have hb2 : Below w.heap.size w W := hWW ▸ b2 _ _ _
  have hX : Blk W w.heap.size [.int .i64 xk, .int .i64 xmn, .int .i64 xmx, .int .i64 xkd, .bool xbd, .int .u64 xbn, xsc, .string xnm, xsk, .int .u64 xw, .slice A n c, .slice B m d] := by rw [hWW]; exact (Blk.new w [.int .i64 xk, .int .i64 xmn, .int .i64 xmx, .int .i64 xkd, .bool xbd, .int .u64 xbn, xsc, .string xnm, xsk, .int .u64 xw, .slice A n c, .slice B m d] 32).alloc _
  have hY : Blk W (w.heap.size + 1) [.int .i64 yk, .int .i64 ymn, .int .i64 ymx, .int .i64 ykd, .bool ybd, .int .u64 ybn, ysc, .string ynm, ysk, .int .u64 xw, .slice A' n' c', .slice B' m' d'] := by rw [hWW]; exact Blk.is (us := [.int .i64 yk, .int .i64 ymn, .int .i64 ymx, .int .i64 ykd, .bool ybd, .int .u64 ybn, ysc, .string ynm, ysk, .int .u64 xw, .slice A' n' c', .slice B' m' d']) _ (by simp)
  have hN1 := hN W hb2
  have hcell : ∀ w1, Below W.heap.size W w1 → Blk w1 w.heap.size [.int .i64 xk, .int .i64 xmn, .int .i64 xmx, .int .i64 xkd, .bool xbd, .int .u64 xbn, xsc, .string xnm, xsk, .int .u64 xw, .slice A n c, .slice B m d] ∧ Blk w1 (w.heap.size + 1) [.int .i64 yk, .int .i64 ymn, .int .i64 ymx, .int .i64 ykd, .bool ybd, .int .u64 ybn, ysc, .string ynm, ysk, .int .u64 xw, .slice A' n' c', .slice B' m' d'] := fun w1 hb => ⟨hX.later hb, hY.later hb⟩
  have ha1 : ((n : Int) != (n' : Int)) = false := by simp [hn]
  have hb0 : ((m : Int) == (m' : Int)) = false := by rw [beq_eq_false_iff_ne]; omega
  have hb1 : ((m : Int) != (m' : Int)) = true := by simp only [bne, hb0]; rfl
  clear hX hY hN hn
  subst hWW
  go_enter Tryz.func32, Tryz.ntmps32
  go_wp2_with (go_at_call 67; refine hN1.mono ?_; rintro e w3 ⟨rfl, hb3⟩; obtain ⟨HX, HY⟩ := hcell _ hb3; have c9 := HX.cell 9 _ rfl; have d9 := HY.cell 9 _ rfl; have c10 := HX.cell 10 _ rfl; have d10 := HY.cell 10 _ rfl; have c11 := HX.cell 11 _ rfl; have d11 := HY.cell 11 _ rfl; clear HX HY)
  go_ret
  exact ⟨rfl, bstep hb2 hb3⟩
set_option maxRecDepth 100000 in
set_option maxHeartbeats 8000000 in
theorem rsame_5 (xk xmn xmx xkd : Int) (xbd : Bool) (xbn : Int) (xsc : Value) (xnm : ByteArray) (xsk : Value) (xw : Int) (yk ymn ymx ykd : Int) (ybd : Bool) (ybn : Int) (ysc : Value) (ynm : ByteArray) (ysk : Value) (sh se sh' se' : Value) (xs ys : List Hv) (us vs : List Ag) (w : World) (hl1 : xs.length = ys.length) (hl2 : us.length = vs.length)
    (hu : Sl w 4 xs.length sh (xs.flatMap hvC)) (hv : Sl w 4 ys.length sh' (ys.flatMap hvC)) (hu2 : Sl w 2 us.length se (us.flatMap agC)) (hv2 : Sl w 2 vs.length se' (vs.flatMap agC))
    (hN : ∀ w', Below w.heap.size w w' → Calls Tryz.prog 67 #[.agg #[.int .i64 xk, .int .i64 xmn, .int .i64 xmx, .int .i64 xkd, .bool xbd, .int .u64 xbn, xsc, .string xnm, xsk], .agg #[.int .i64 yk, .int .i64 ymn, .int .i64 ymx, .int .i64 ykd, .bool ybd, .int .u64 ybn, ysc, .string ynm, ysk]] w' fun e w'' => e = .returned (.bool true) ∧ Below w'.heap.size w' w'') :
    Calls Tryz.prog 32 #[.agg #[.int .i64 xk, .int .i64 xmn, .int .i64 xmx, .int .i64 xkd, .bool xbd, .int .u64 xbn, xsc, .string xnm, xsk, .int .u64 xw, sh, se], .agg #[.int .i64 yk, .int .i64 ymn, .int .i64 ymx, .int .i64 ykd, .bool ybd, .int .u64 ybn, ysc, .string ynm, ysk, .int .u64 xw, sh', se']] w fun e w' => e = .returned (.bool (decide (xs = ys) && decide (us = vs))) ∧ Below w.heap.size w w' := by
  obtain ⟨A, c, rfl, hm, hc⟩ := sl_els (by decide) hvC_len hu
  obtain ⟨A', c', rfl, hm', hc'⟩ := sl_els (by decide) hvC_len hv
  obtain ⟨B, d, rfl, hm2, hd⟩ := sl_els (by decide) agC_len hu2
  obtain ⟨B', d', rfl, hm2', hd'⟩ := sl_els (by decide) agC_len hv2
  have HC := Lib.hid hc
  have HC' := Lib.hid hc'
  have HD := Lib.hid hd
  have HD' := Lib.hid hd'
  have HLHave := Lib.hid hl1
  have HLAgg := Lib.hid hl2
  have n1 : ((xs.length : Int) != (ys.length : Int)) = false := by simp [hl1]
  have n2 : ((us.length : Int) != (vs.length : Int)) = false := by simp [hl2]
  obtain ⟨W, hWW⟩ : ∃ W, W = (w.alloc (.cells #[.int .i64 xk, .int .i64 xmn, .int .i64 xmx, .int .i64 xkd, .bool xbd, .int .u64 xbn, xsc, .string xnm, xsk, .int .u64 xw, .slice A xs.length c, .slice B us.length d] 32)).alloc (.cells #[.int .i64 yk, .int .i64 ymn, .int .i64 ymx, .int .i64 ykd, .bool ybd, .int .u64 ybn, ysc, .string ynm, ysk, .int .u64 xw, .slice A' ys.length c', .slice B' vs.length d'] 32) := ⟨_, rfl⟩
  have hb2 : Below w.heap.size w W := hWW ▸ b2 _ _ _
  have hX : Blk W w.heap.size [.int .i64 xk, .int .i64 xmn, .int .i64 xmx, .int .i64 xkd, .bool xbd, .int .u64 xbn, xsc, .string xnm, xsk, .int .u64 xw, .slice A xs.length c, .slice B us.length d] := by rw [hWW]; exact (Blk.new w [.int .i64 xk, .int .i64 xmn, .int .i64 xmx, .int .i64 xkd, .bool xbd, .int .u64 xbn, xsc, .string xnm, xsk, .int .u64 xw, .slice A xs.length c, .slice B us.length d] 32).alloc _
  have hY : Blk W (w.heap.size + 1) [.int .i64 yk, .int .i64 ymn, .int .i64 ymx, .int .i64 ykd, .bool ybd, .int .u64 ybn, ysc, .string ynm, ysk, .int .u64 xw, .slice A' ys.length c', .slice B' vs.length d'] := by rw [hWW]; exact Blk.is (us := [.int .i64 yk, .int .i64 ymn, .int .i64 ymx, .int .i64 ykd, .bool ybd, .int .u64 ybn, ysc, .string ynm, ysk, .int .u64 xw, .slice A' ys.length c', .slice B' vs.length d']) _ (by simp)
  have hN1 := hN W hb2
  have hcell : ∀ w1, Below W.heap.size W w1 → Blk w1 w.heap.size [.int .i64 xk, .int .i64 xmn, .int .i64 xmx, .int .i64 xkd, .bool xbd, .int .u64 xbn, xsc, .string xnm, xsk, .int .u64 xw, .slice A xs.length c, .slice B us.length d] ∧ Blk w1 (w.heap.size + 1) [.int .i64 yk, .int .i64 ymn, .int .i64 ymx, .int .i64 ykd, .bool ybd, .int .u64 ybn, ysc, .string ynm, ysk, .int .u64 xw, .slice A' ys.length c', .slice B' vs.length d'] := fun w1 hb => ⟨hX.later hb, hY.later hb⟩
  have HB0 := Lib.hid hb2
  clear hX hY hN hc hc' hd hd' hu hv hu2 hv2 hl1 hl2 hb2
  go_enter Tryz.func32, Tryz.ntmps32
  go_wp2_with fail
  rw [← hWW]
  clear hWW
  refine hN1.mono ?_
  rintro e1 w3 ⟨rfl, hb3⟩
  have HB := Lib.hid (bstep HB0.out hb3)
  obtain ⟨HX, HY⟩ := hcell _ hb3
  have c9 := HX.cell 9 _ rfl
  have d9 := HY.cell 9 _ rfl
  have c10 := HX.cell 10 _ rfl
  have d10 := HY.cell 10 _ rfl
  have c11 := HX.cell 11 _ rfl
  have d11 := HY.cell 11 _ rfl
  clear HX HY hcell hN1 hb3 HB0
  go_wp2
  clear c9 d9
  go_loopg [5] xs.length (fun g iv wr => ∃ (i n : Nat), i ≤ xs.length ∧ g = xs.length - i ∧ iv = .int .i64 (i : Int) ∧ wr = w3.drewN n ∧ Hid (decide (xs = ys) = decide (xs.drop i = ys.drop i)))
  case atStart => exact ⟨0, 0, Nat.zero_le _, rfl, rfl, rfl, Lib.hid rfl⟩
  case round =>
    obtain ⟨i, n, hi, hg, rfl, rfl, hR⟩ := hrel
    by_cases hz : i < xs.length
    · have hz' : i < ys.length := by have := HLHave.out; omega
      have h1 : (i : Int) < (xs.length : Int) := by omega
      have h2 : (i : Int) < (ys.length : Int) := by omega
      obtain ⟨a, rfl, _, E⟩ := HC.out i hz
      obtain ⟨a', rfl, _, E'⟩ := HC'.out i hz'
      have hwi : IntKind.i64.wrap ((i : Int) + 1) = (i : Int) + 1 := IntWalk.i64_in _ ⟨by omega, by omega⟩
      have hst : decide (xs.drop i = ys.drop i) = (decide (xs[i] = ys[i]) && decide (xs.drop (i + 1) = ys.drop (i + 1))) := by
        rw [List.drop_eq_getElem_cons hz, List.drop_eq_getElem_cons hz']
        simp only [List.cons.injEq, Bool.decide_and]
      obtain ⟨x, hx⟩ : ∃ x, x = xs[i] := ⟨_, rfl⟩
      obtain ⟨y, hy⟩ : ∃ y, y = ys[i] := ⟨_, rfl⟩
      rw [← hx] at E hst
      rw [← hy] at E' hst
      rw [hst] at hR
      replace E := E.later (HB.out)
      replace E' := E'.later (HB.out)
      obtain ⟨⟨x_fn, x_nm⟩, ⟨x_op, x_va⟩⟩ := x
      obtain ⟨⟨y_fn, y_nm⟩, ⟨y_op, y_va⟩⟩ := y
      simp only [hvC] at E E'
      simp only [Hv.mk.injEq, Ag.mk.injEq, Cn.mk.injEq] at hR
      have c0 := E.at0 _ rfl
      have d0 := E'.at0 _ rfl
      have c1 := E.at1 1 _ (by decide) rfl
      have d1 := E'.at1 1 _ (by decide) rfl
      have c2 := E.at1 2 _ (by decide) rfl
      have d2 := E'.at1 2 _ (by decide) rfl
      have c3 := E.at1 3 _ (by decide) rfl
      have d3 := E'.at1 3 _ (by decide) rfl
      clear E E' hst hx hy
      by_cases e0 : x_fn = y_fn
      · subst e0
        by_cases e1 : x_nm = y_nm
        · subst e1
          by_cases e2 : x_op = y_op
          · subst e2
            by_cases e3 : x_va = y_va
            · subst e3
              have hR2 := Lib.hid (show decide (xs = ys) = decide (xs.drop (i + 1) = ys.drop (i + 1)) by rw [hR.out]; simp)
              clear hR
              go_wp2
              go_quiet (fail)
              go_wp2
              go_roundg (xs.length - (i + 1))
              case rel => exact ⟨i + 1, _, by omega, rfl, by go_num, rfl, hR2⟩
              case measure => omega
            · have hR2 := Lib.hid (show decide (xs = ys) = false by rw [hR.out]; simp [e3])
              have hb0 : (x_va == y_va) = false := by rw [beq_eq_false_iff_ne]; exact e3
              clear hR
              go_wp2
              go_quiet (fail)
              go_wp2
              go_ret
              exact ⟨by rw [hR2.out, Bool.false_and]; rfl, below_drewN (below_drewN HB.out n) _⟩
          · have hR2 := Lib.hid (show decide (xs = ys) = false by rw [hR.out]; simp [e2])
            have hb0 : (x_op == y_op) = false := by rw [beq_eq_false_iff_ne]; exact e2
            clear hR
            go_wp2
            go_quiet (fail)
            go_wp2
            go_ret
            exact ⟨by rw [hR2.out, Bool.false_and]; rfl, below_drewN (below_drewN HB.out n) _⟩
        · have hR2 := Lib.hid (show decide (xs = ys) = false by rw [hR.out]; simp [e1])
          have hb0 : ((strOf x_nm).toList == (strOf y_nm).toList) = false := str_ne (fun h => e1 (strOf_inj h))
          have hb1 : ¬ (strOf x_nm).toList = (strOf y_nm).toList := by rw [beq_eq_false_iff_ne] at hb0; exact hb0
          clear hR
          go_wp2
          go_quiet (fail)
          go_wp2
          go_ret
          exact ⟨by rw [hR2.out, Bool.false_and]; rfl, below_drewN (below_drewN HB.out n) _⟩
      · have hR2 := Lib.hid (show decide (xs = ys) = false by rw [hR.out]; simp [e0])
        have hb0 : (x_fn == y_fn) = false := by rw [beq_eq_false_iff_ne]; exact e0
        clear hR
        go_wp2
        go_quiet (fail)
        go_wp2
        go_ret
        exact ⟨by rw [hR2.out, Bool.false_and]; rfl, below_drewN (below_drewN HB.out n) _⟩
    · have h1 : ¬ (i : Int) < (xs.length : Int) := by omega
      have hEHave := Lib.hid (show decide (xs = ys) = true by rw [hR.out, List.drop_eq_nil_of_le (by omega), List.drop_eq_nil_of_le (by have := HLHave.out; omega)]; rfl)
      clear hR
      obtain ⟨V, hV⟩ : ∃ V, V = w3.drewN n := ⟨_, rfl⟩
      have HV := Lib.hid (show Below w.heap.size w V from hV ▸ below_drewN HB.out n)
      have v11 : V.cell? ⟨w.heap.size, 11, none⟩ = some (.slice B us.length d) := by rw [hV]; exact c11
      have w11 : V.cell? ⟨w.heap.size + 1, 11, none⟩ = some (.slice B' vs.length d') := by rw [hV]; exact d11
      clear HC HC' c11 d11
      go_wp2
      rw [← hV]
      clear hV h1 c10 d10
      go_loopg [6] us.length (fun g iv wr => ∃ (i n : Nat), i ≤ us.length ∧ g = us.length - i ∧ iv = .int .i64 (i : Int) ∧ wr = V.drewN n ∧ Hid (decide (us = vs) = decide (us.drop i = vs.drop i)))
      case atStart => exact ⟨0, 0, Nat.zero_le _, rfl, rfl, rfl, Lib.hid rfl⟩
      case round =>
        obtain ⟨i, n, hi, hg, rfl, rfl, hR⟩ := hrel
        by_cases hz : i < us.length
        · have hz' : i < vs.length := by have := HLAgg.out; omega
          have h1 : (i : Int) < (us.length : Int) := by omega
          have h2 : (i : Int) < (vs.length : Int) := by omega
          obtain ⟨a, rfl, _, E⟩ := HD.out i hz
          obtain ⟨a', rfl, _, E'⟩ := HD'.out i hz'
          have hwi : IntKind.i64.wrap ((i : Int) + 1) = (i : Int) + 1 := IntWalk.i64_in _ ⟨by omega, by omega⟩
          have hst : decide (us.drop i = vs.drop i) = (decide (us[i] = vs[i]) && decide (us.drop (i + 1) = vs.drop (i + 1))) := by
            rw [List.drop_eq_getElem_cons hz, List.drop_eq_getElem_cons hz']
            simp only [List.cons.injEq, Bool.decide_and]
          obtain ⟨x, hx⟩ : ∃ x, x = us[i] := ⟨_, rfl⟩
          obtain ⟨y, hy⟩ : ∃ y, y = vs[i] := ⟨_, rfl⟩
          rw [← hx] at E hst
          rw [← hy] at E' hst
          rw [hst] at hR
          replace E := E.later (HV.out)
          replace E' := E'.later (HV.out)
          obtain ⟨x_fn, x_nm⟩ := x
          obtain ⟨y_fn, y_nm⟩ := y
          simp only [agC] at E E'
          simp only [Ag.mk.injEq] at hR
          have c0 := E.at0 _ rfl
          have d0 := E'.at0 _ rfl
          have c1 := E.at1 1 _ (by decide) rfl
          have d1 := E'.at1 1 _ (by decide) rfl
          clear E E' hst hx hy
          by_cases e0 : x_fn = y_fn
          · subst e0
            by_cases e1 : x_nm = y_nm
            · subst e1
              have hR2 := Lib.hid (show decide (us = vs) = decide (us.drop (i + 1) = vs.drop (i + 1)) by rw [hR.out]; simp)
              clear hR
              go_wp2
              go_quiet (fail)
              go_wp2
              go_roundg (us.length - (i + 1))
              case rel => exact ⟨i + 1, _, by omega, rfl, by go_num, rfl, hR2⟩
              case measure => omega
            · have hR2 := Lib.hid (show decide (us = vs) = false by rw [hR.out]; simp [e1])
              have hb0 : ((strOf x_nm).toList == (strOf y_nm).toList) = false := str_ne (fun h => e1 (strOf_inj h))
              have hb1 : ¬ (strOf x_nm).toList = (strOf y_nm).toList := by rw [beq_eq_false_iff_ne] at hb0; exact hb0
              clear hR
              go_wp2
              go_quiet (fail)
              go_wp2
              go_ret
              exact ⟨by rw [hR2.out, Bool.and_false]; rfl, below_drewN (below_drewN HV.out n) _⟩
          · have hR2 := Lib.hid (show decide (us = vs) = false by rw [hR.out]; simp [e0])
            have hb0 : (x_fn == y_fn) = false := by rw [beq_eq_false_iff_ne]; exact e0
            clear hR
            go_wp2
            go_quiet (fail)
            go_wp2
            go_ret
            exact ⟨by rw [hR2.out, Bool.and_false]; rfl, below_drewN (below_drewN HV.out n) _⟩
        · have h1 : ¬ (i : Int) < (us.length : Int) := by omega
          have hEAgg := Lib.hid (show decide (us = vs) = true by rw [hR.out, List.drop_eq_nil_of_le (by omega), List.drop_eq_nil_of_le (by have := HLAgg.out; omega)]; rfl)
          clear hR
          clear HD HD'
          go_wp2
          go_ret
          exact ⟨by rw [hEHave.out, hEAgg.out]; rfl, below_drewN HV.out _⟩

theorem rsameq_any (a b : GQ) (w : World) (ha : QW w a) (hb : QW w b) :
    Calls Tryz.prog 32 #[.agg a.row.toArray, .agg b.row.toArray] w fun e w' => e = .returned (.bool (sameQ a.qu b.qu)) ∧ Below w.heap.size w w' := by
  have hN := fun w' (hb' : Below w.heap.size w w') => rsameNode_any a.t b.t w' (ha.tr.later hb') (hb.tr.later hb')
  have hs : sameQ a.qu b.qu = (decide (a.t.nd = b.t.nd) && decide (a.wi = b.wi) && decide (a.hv = b.hv) && decide (a.em = b.em)) := rfl
  rw [hs]
  obtain ⟨-, -, hh, he, -, -⟩ := ha
  obtain ⟨-, -, hh', he', -, -⟩ := hb
  clear hs
  obtain ⟨⟨xk, xmn, xmx, ⟨⟨xkd, xbd, xbn, xcs, xnm⟩, xsc⟩, xsk, xks⟩, xw, xh, xhv, xe, xem⟩ := a
  obtain ⟨⟨yk, ymn, ymx, ⟨⟨ykd, ybd, ybn, ycs, ynm⟩, ysc⟩, ysk, yks⟩, yw, yh, yhv, ye, yem⟩ := b
  simp only at hN hh he hh' he' ⊢
  simp only [qrow_is']
  simp only [Tr.row] at hN
  obtain ⟨p, hp⟩ : ∃ p, p = decide (Tr.nd (.mk xk xmn xmx ⟨⟨xkd, xbd, xbn, xcs, xnm⟩, xsc⟩ xsk xks) = Tr.nd (.mk yk ymn ymx ⟨⟨ykd, ybd, ybn, ycs, ynm⟩, ysc⟩ ysk yks)) := ⟨_, rfl⟩
  rw [← hp] at hN ⊢
  clear hp
  by_cases h5 : p = true ∧ xw = yw ∧ xhv.length = yhv.length ∧ xem.length = yem.length
  · obtain ⟨rfl, rfl, l1, l2⟩ := h5
    simp only [decide_true, Bool.true_and]
    exact rsame_5 xk xmn xmx xkd xbd xbn xsc (strOf xnm) xsk xw yk ymn ymx ykd ybd ybn ysc (strOf ynm) ysk xh xe yh ye xhv yhv xem yem w l1 l2 hh hh' he he' hN
  · obtain ⟨A, c, rfl, -, -⟩ := sl_get (by decide) hh
    obtain ⟨A', c', rfl, -, -⟩ := sl_get (by decide) hh'
    obtain ⟨B, d, rfl, -, -⟩ := sl_get (by decide) he
    obtain ⟨B', d', rfl, -, -⟩ := sl_get (by decide) he'
    cases p with
    | false => exact rsame_n xk xmn xmx xkd xbd xbn xsc (strOf xnm) xsk xw yw yk ymn ymx ykd ybd ybn ysc (strOf ynm) ysk A B A' B' _ _ _ _ c d c' d' w hN
    | true =>
      by_cases ew : xw = yw
      · subst ew
        by_cases l1 : xhv.length = yhv.length
        · have l2 : ¬ xem.length = yem.length := fun h => h5 ⟨rfl, rfl, l1, h⟩
          have e2 : ¬ xem = yem := fun h => l2 (by rw [h])
          simp only [decide_eq_false e2, Bool.and_false]
          exact rsame_e xk xmn xmx xkd xbd xbn xsc (strOf xnm) xsk xw yk ymn ymx ykd ybd ybn ysc (strOf ynm) ysk A B A' B' _ _ _ _ c d c' d' w hN l1 l2
        · have e1 : ¬ xhv = yhv := fun h => l1 (by rw [h])
          simp only [decide_eq_false e1, Bool.and_false, Bool.false_and]
          exact rsame_h xk xmn xmx xkd xbd xbn xsc (strOf xnm) xsk xw yk ymn ymx ykd ybd ybn ysc (strOf ynm) ysk A B A' B' _ _ _ _ c d c' d' w hN l1
      · simp only [decide_eq_false ew, Bool.and_false, Bool.false_and]
        exact rsame_w xk xmn xmx xkd xbd xbn xsc (strOf xnm) xsk xw yw yk ymn ymx ykd ybd ybn ysc (strOf ynm) ysk A B A' B' _ _ _ _ c d c' d' w hN ew
end Go.Proofs.YtfibmdbplfghcaaGreatDoor
