/- The law on texts of queries: one text, one query; a letter for each atom. Made by program (wip/tools/gen_astTe.py). -/
import Derived.Test.YtfibmdbplfghcaaGreatDoorAstTl
import Derived.Test.YtfibmdbplfghcaaGreatDoorAstAC
import Derived.Test.YtfibmdbplfghcaaGreatDoorAstAt
import Derived.Test.YtfibmdbplfghcaaGreatDoorAstWr
namespace Go.Proofs.YtfibmdbplfghcaaGreatDoor
open Go.RowKit Go.Shelf
open A8 Tk7

theorem cnt_succ (s : ByteArray) (i : Nat) (h : i < s.size) : cntL (s.data.toList.take (i + 1)) = cntL (s.data.toList.take i) + if largeB (s[i]'h) = true then 1 else 0 := by
  have hl : i < s.data.toList.length := by rw [Array.length_toList]; exact h
  rw [take_snoc _ i hl, cnt_app]
  congr 1
  have e : s.data.toList[i] = s[i]'h := by rw [Array.getElem_toList]; rfl
  rw [e]
  unfold cntL
  cases hb : largeB (s[i]'h)
  · rw [List.filter_cons_of_neg (by rw [hb]; decide)]
    rfl
  · rw [List.filter_cons_of_pos hb]
    rfl
theorem cnt_le (l : List UInt8) : cntL l ≤ l.length := List.length_filter_le _ _
set_option maxRecDepth 100000 in
set_option maxHeartbeats 16000000 in
theorem te_1 (xk xmn xmx xkd : Int) (xbd : Bool) (xbn : Int) (xsc : Value) (xnm : ByteArray) (xsk : Value) (xwi : Int) (xsh xse : Value) (yk ymn ymx ykd : Int) (ybd : Bool) (ybn : Int) (ysc : Value) (ynm : ByteArray) (ysk : Value) (ywi : Int) (ysh yse : Value) (w : World) (la : Bool)
    (hla : ∀ w1, Below w.heap.size w w1 → Calls Tryz.prog 8 #[.agg #[.int .i64 xk, .int .i64 xmn, .int .i64 xmx, .int .i64 xkd, .bool xbd, .int .u64 xbn, xsc, .string xnm, xsk, .int .u64 xwi, xsh, xse]] w1 fun e w' => e = .returned (.bool la) ∧ Below w1.heap.size w1 w')
    (hW : ∀ w1, Below w.heap.size w w1 → Calls Tryz.prog 9 #[] w1 fun e w' => e = .returned (.bool true) ∧ Below w1.heap.size w1 w')
    (h1 : la = false) :
    Calls Tryz.prog 6 #[.agg #[.int .i64 xk, .int .i64 xmn, .int .i64 xmx, .int .i64 xkd, .bool xbd, .int .u64 xbn, xsc, .string xnm, xsk, .int .u64 xwi, xsh, xse], .agg #[.int .i64 yk, .int .i64 ymn, .int .i64 ymx, .int .i64 ykd, .bool ybd, .int .u64 ybn, ysc, .string ynm, ysk, .int .u64 ywi, ysh, yse]] w fun e w' => e = .returned (.bool true) ∧ Below w.heap.size w w' := by
  obtain ⟨W, hWW⟩ : ∃ W, W = (w.alloc (.cells #[.int .i64 xk, .int .i64 xmn, .int .i64 xmx, .int .i64 xkd, .bool xbd, .int .u64 xbn, xsc, .string xnm, xsk, .int .u64 xwi, xsh, xse] 32)).alloc (.cells #[.int .i64 yk, .int .i64 ymn, .int .i64 ymx, .int .i64 ykd, .bool ybd, .int .u64 ybn, ysc, .string ynm, ysk, .int .u64 ywi, ysh, yse] 32) := ⟨_, rfl⟩
  have hb2w : Below w.heap.size w W := hWW ▸ b2 _ _ _
  have hX : Blk W w.heap.size [.int .i64 xk, .int .i64 xmn, .int .i64 xmx, .int .i64 xkd, .bool xbd, .int .u64 xbn, xsc, .string xnm, xsk, .int .u64 xwi, xsh, xse] := by rw [hWW]; exact (Blk.new w [.int .i64 xk, .int .i64 xmn, .int .i64 xmx, .int .i64 xkd, .bool xbd, .int .u64 xbn, xsc, .string xnm, xsk, .int .u64 xwi, xsh, xse] 32).alloc _
  have hY : Blk W (w.heap.size + 1) [.int .i64 yk, .int .i64 ymn, .int .i64 ymx, .int .i64 ykd, .bool ybd, .int .u64 ybn, ysc, .string ynm, ysk, .int .u64 ywi, ysh, yse] := by rw [hWW]; exact Blk.is (us := [.int .i64 yk, .int .i64 ymn, .int .i64 ymx, .int .i64 ykd, .bool ybd, .int .u64 ybn, ysc, .string ynm, ysk, .int .u64 ywi, ysh, yse]) _ (by simp)
  have hcell : ∀ w1, Below W.heap.size W w1 → Blk w1 w.heap.size [.int .i64 xk, .int .i64 xmn, .int .i64 xmx, .int .i64 xkd, .bool xbd, .int .u64 xbn, xsc, .string xnm, xsk, .int .u64 xwi, xsh, xse] ∧ Blk w1 (w.heap.size + 1) [.int .i64 yk, .int .i64 ymn, .int .i64 ymx, .int .i64 ykd, .bool ybd, .int .u64 ybn, ysc, .string ynm, ysk, .int .u64 ywi, ysh, yse] := fun w1 hb => ⟨hX.later hb, hY.later hb⟩
  clear hX hY
  have Hhla := Lib.hid hla
  have HhW := Lib.hid hW
  clear hla hW
  subst h1
  go_enter Tryz.func6, Tryz.ntmps6
  go_wp2_with fail
  rw [← hWW]
  clear hWW
  go_wp2_with (first | (go_at_call 8; with_reducible refine (Hhla.out _ hb2w).mono ?_; rintro e w2 ⟨rfl, hb2⟩; have HB := Lib.hid hb2; clear hb2; have HXY := hcell _ HB.out; have c0 := HXY.1.cell 0 _ rfl; have c1 := HXY.1.cell 1 _ rfl; have c2 := HXY.1.cell 2 _ rfl; have c3 := HXY.1.cell 3 _ rfl; have c4 := HXY.1.cell 4 _ rfl; have c5 := HXY.1.cell 5 _ rfl; have c6 := HXY.1.cell 6 _ rfl; have c7 := HXY.1.cell 7 _ rfl; have c8 := HXY.1.cell 8 _ rfl; have c9 := HXY.1.cell 9 _ rfl; have c10 := HXY.1.cell 10 _ rfl; have c11 := HXY.1.cell 11 _ rfl; have d0 := HXY.2.cell 0 _ rfl; have d1 := HXY.2.cell 1 _ rfl; have d2 := HXY.2.cell 2 _ rfl; have d3 := HXY.2.cell 3 _ rfl; have d4 := HXY.2.cell 4 _ rfl; have d5 := HXY.2.cell 5 _ rfl; have d6 := HXY.2.cell 6 _ rfl; have d7 := HXY.2.cell 7 _ rfl; have d8 := HXY.2.cell 8 _ rfl; have d9 := HXY.2.cell 9 _ rfl; have d10 := HXY.2.cell 10 _ rfl; have d11 := HXY.2.cell 11 _ rfl; clear HXY) | (go_at_call 9; with_reducible refine (HhW.out _ (bstep hb2w HB.out)).mono ?_; rintro e w2 ⟨rfl, hb2⟩; replace HB := Lib.hid (bstep HB.out hb2); clear c0 c1 c2 c3 c4 c5 c6 c7 c8 c9 c10 c11 d0 d1 d2 d3 d4 d5 d6 d7 d8 d9 d10 d11; clear hb2; have HXY := hcell _ HB.out; have c0 := HXY.1.cell 0 _ rfl; have c1 := HXY.1.cell 1 _ rfl; have c2 := HXY.1.cell 2 _ rfl; have c3 := HXY.1.cell 3 _ rfl; have c4 := HXY.1.cell 4 _ rfl; have c5 := HXY.1.cell 5 _ rfl; have c6 := HXY.1.cell 6 _ rfl; have c7 := HXY.1.cell 7 _ rfl; have c8 := HXY.1.cell 8 _ rfl; have c9 := HXY.1.cell 9 _ rfl; have c10 := HXY.1.cell 10 _ rfl; have c11 := HXY.1.cell 11 _ rfl; have d0 := HXY.2.cell 0 _ rfl; have d1 := HXY.2.cell 1 _ rfl; have d2 := HXY.2.cell 2 _ rfl; have d3 := HXY.2.cell 3 _ rfl; have d4 := HXY.2.cell 4 _ rfl; have d5 := HXY.2.cell 5 _ rfl; have d6 := HXY.2.cell 6 _ rfl; have d7 := HXY.2.cell 7 _ rfl; have d8 := HXY.2.cell 8 _ rfl; have d9 := HXY.2.cell 9 _ rfl; have d10 := HXY.2.cell 10 _ rfl; have d11 := HXY.2.cell 11 _ rfl; clear HXY))
  go_ret
  exact ⟨rfl, bstep hb2w HB.out⟩
set_option maxRecDepth 100000 in
set_option maxHeartbeats 16000000 in
theorem te_2 (xk xmn xmx xkd : Int) (xbd : Bool) (xbn : Int) (xsc : Value) (xnm : ByteArray) (xsk : Value) (xwi : Int) (xsh xse : Value) (yk ymn ymx ykd : Int) (ybd : Bool) (ybn : Int) (ysc : Value) (ynm : ByteArray) (ysk : Value) (ywi : Int) (ysh yse : Value) (w : World) (la : Bool) (lb : Bool)
    (hla : ∀ w1, Below w.heap.size w w1 → Calls Tryz.prog 8 #[.agg #[.int .i64 xk, .int .i64 xmn, .int .i64 xmx, .int .i64 xkd, .bool xbd, .int .u64 xbn, xsc, .string xnm, xsk, .int .u64 xwi, xsh, xse]] w1 fun e w' => e = .returned (.bool la) ∧ Below w1.heap.size w1 w')
    (hlb : ∀ w1, Below w.heap.size w w1 → Calls Tryz.prog 8 #[.agg #[.int .i64 yk, .int .i64 ymn, .int .i64 ymx, .int .i64 ykd, .bool ybd, .int .u64 ybn, ysc, .string ynm, ysk, .int .u64 ywi, ysh, yse]] w1 fun e w' => e = .returned (.bool lb) ∧ Below w1.heap.size w1 w')
    (hW : ∀ w1, Below w.heap.size w w1 → Calls Tryz.prog 9 #[] w1 fun e w' => e = .returned (.bool true) ∧ Below w1.heap.size w1 w')
    (h1 : la = true) (h2 : lb = false) :
    Calls Tryz.prog 6 #[.agg #[.int .i64 xk, .int .i64 xmn, .int .i64 xmx, .int .i64 xkd, .bool xbd, .int .u64 xbn, xsc, .string xnm, xsk, .int .u64 xwi, xsh, xse], .agg #[.int .i64 yk, .int .i64 ymn, .int .i64 ymx, .int .i64 ykd, .bool ybd, .int .u64 ybn, ysc, .string ynm, ysk, .int .u64 ywi, ysh, yse]] w fun e w' => e = .returned (.bool true) ∧ Below w.heap.size w w' := by
  obtain ⟨W, hWW⟩ : ∃ W, W = (w.alloc (.cells #[.int .i64 xk, .int .i64 xmn, .int .i64 xmx, .int .i64 xkd, .bool xbd, .int .u64 xbn, xsc, .string xnm, xsk, .int .u64 xwi, xsh, xse] 32)).alloc (.cells #[.int .i64 yk, .int .i64 ymn, .int .i64 ymx, .int .i64 ykd, .bool ybd, .int .u64 ybn, ysc, .string ynm, ysk, .int .u64 ywi, ysh, yse] 32) := ⟨_, rfl⟩
  have hb2w : Below w.heap.size w W := hWW ▸ b2 _ _ _
  have hX : Blk W w.heap.size [.int .i64 xk, .int .i64 xmn, .int .i64 xmx, .int .i64 xkd, .bool xbd, .int .u64 xbn, xsc, .string xnm, xsk, .int .u64 xwi, xsh, xse] := by rw [hWW]; exact (Blk.new w [.int .i64 xk, .int .i64 xmn, .int .i64 xmx, .int .i64 xkd, .bool xbd, .int .u64 xbn, xsc, .string xnm, xsk, .int .u64 xwi, xsh, xse] 32).alloc _
  have hY : Blk W (w.heap.size + 1) [.int .i64 yk, .int .i64 ymn, .int .i64 ymx, .int .i64 ykd, .bool ybd, .int .u64 ybn, ysc, .string ynm, ysk, .int .u64 ywi, ysh, yse] := by rw [hWW]; exact Blk.is (us := [.int .i64 yk, .int .i64 ymn, .int .i64 ymx, .int .i64 ykd, .bool ybd, .int .u64 ybn, ysc, .string ynm, ysk, .int .u64 ywi, ysh, yse]) _ (by simp)
  have hcell : ∀ w1, Below W.heap.size W w1 → Blk w1 w.heap.size [.int .i64 xk, .int .i64 xmn, .int .i64 xmx, .int .i64 xkd, .bool xbd, .int .u64 xbn, xsc, .string xnm, xsk, .int .u64 xwi, xsh, xse] ∧ Blk w1 (w.heap.size + 1) [.int .i64 yk, .int .i64 ymn, .int .i64 ymx, .int .i64 ykd, .bool ybd, .int .u64 ybn, ysc, .string ynm, ysk, .int .u64 ywi, ysh, yse] := fun w1 hb => ⟨hX.later hb, hY.later hb⟩
  clear hX hY
  have Hhla := Lib.hid hla
  have Hhlb := Lib.hid hlb
  have HhW := Lib.hid hW
  clear hla hlb hW
  subst h1
  subst h2
  go_enter Tryz.func6, Tryz.ntmps6
  go_wp2_with fail
  rw [← hWW]
  clear hWW
  go_wp2_with (first | (go_at_call 8; with_reducible refine (Hhla.out _ hb2w).mono ?_; rintro e w2 ⟨rfl, hb2⟩; have HB := Lib.hid hb2; clear hb2; have HXY := hcell _ HB.out; have c0 := HXY.1.cell 0 _ rfl; have c1 := HXY.1.cell 1 _ rfl; have c2 := HXY.1.cell 2 _ rfl; have c3 := HXY.1.cell 3 _ rfl; have c4 := HXY.1.cell 4 _ rfl; have c5 := HXY.1.cell 5 _ rfl; have c6 := HXY.1.cell 6 _ rfl; have c7 := HXY.1.cell 7 _ rfl; have c8 := HXY.1.cell 8 _ rfl; have c9 := HXY.1.cell 9 _ rfl; have c10 := HXY.1.cell 10 _ rfl; have c11 := HXY.1.cell 11 _ rfl; have d0 := HXY.2.cell 0 _ rfl; have d1 := HXY.2.cell 1 _ rfl; have d2 := HXY.2.cell 2 _ rfl; have d3 := HXY.2.cell 3 _ rfl; have d4 := HXY.2.cell 4 _ rfl; have d5 := HXY.2.cell 5 _ rfl; have d6 := HXY.2.cell 6 _ rfl; have d7 := HXY.2.cell 7 _ rfl; have d8 := HXY.2.cell 8 _ rfl; have d9 := HXY.2.cell 9 _ rfl; have d10 := HXY.2.cell 10 _ rfl; have d11 := HXY.2.cell 11 _ rfl; clear HXY) | (go_at_call 8; with_reducible refine (Hhlb.out _ (bstep hb2w HB.out)).mono ?_; rintro e w2 ⟨rfl, hb2⟩; replace HB := Lib.hid (bstep HB.out hb2); clear c0 c1 c2 c3 c4 c5 c6 c7 c8 c9 c10 c11 d0 d1 d2 d3 d4 d5 d6 d7 d8 d9 d10 d11; clear hb2; have HXY := hcell _ HB.out; have c0 := HXY.1.cell 0 _ rfl; have c1 := HXY.1.cell 1 _ rfl; have c2 := HXY.1.cell 2 _ rfl; have c3 := HXY.1.cell 3 _ rfl; have c4 := HXY.1.cell 4 _ rfl; have c5 := HXY.1.cell 5 _ rfl; have c6 := HXY.1.cell 6 _ rfl; have c7 := HXY.1.cell 7 _ rfl; have c8 := HXY.1.cell 8 _ rfl; have c9 := HXY.1.cell 9 _ rfl; have c10 := HXY.1.cell 10 _ rfl; have c11 := HXY.1.cell 11 _ rfl; have d0 := HXY.2.cell 0 _ rfl; have d1 := HXY.2.cell 1 _ rfl; have d2 := HXY.2.cell 2 _ rfl; have d3 := HXY.2.cell 3 _ rfl; have d4 := HXY.2.cell 4 _ rfl; have d5 := HXY.2.cell 5 _ rfl; have d6 := HXY.2.cell 6 _ rfl; have d7 := HXY.2.cell 7 _ rfl; have d8 := HXY.2.cell 8 _ rfl; have d9 := HXY.2.cell 9 _ rfl; have d10 := HXY.2.cell 10 _ rfl; have d11 := HXY.2.cell 11 _ rfl; clear HXY) | (go_at_call 9; with_reducible refine (HhW.out _ (bstep hb2w HB.out)).mono ?_; rintro e w2 ⟨rfl, hb2⟩; replace HB := Lib.hid (bstep HB.out hb2); clear c0 c1 c2 c3 c4 c5 c6 c7 c8 c9 c10 c11 d0 d1 d2 d3 d4 d5 d6 d7 d8 d9 d10 d11; clear hb2; have HXY := hcell _ HB.out; have c0 := HXY.1.cell 0 _ rfl; have c1 := HXY.1.cell 1 _ rfl; have c2 := HXY.1.cell 2 _ rfl; have c3 := HXY.1.cell 3 _ rfl; have c4 := HXY.1.cell 4 _ rfl; have c5 := HXY.1.cell 5 _ rfl; have c6 := HXY.1.cell 6 _ rfl; have c7 := HXY.1.cell 7 _ rfl; have c8 := HXY.1.cell 8 _ rfl; have c9 := HXY.1.cell 9 _ rfl; have c10 := HXY.1.cell 10 _ rfl; have c11 := HXY.1.cell 11 _ rfl; have d0 := HXY.2.cell 0 _ rfl; have d1 := HXY.2.cell 1 _ rfl; have d2 := HXY.2.cell 2 _ rfl; have d3 := HXY.2.cell 3 _ rfl; have d4 := HXY.2.cell 4 _ rfl; have d5 := HXY.2.cell 5 _ rfl; have d6 := HXY.2.cell 6 _ rfl; have d7 := HXY.2.cell 7 _ rfl; have d8 := HXY.2.cell 8 _ rfl; have d9 := HXY.2.cell 9 _ rfl; have d10 := HXY.2.cell 10 _ rfl; have d11 := HXY.2.cell 11 _ rfl; clear HXY))
  go_ret
  exact ⟨rfl, bstep hb2w HB.out⟩
set_option maxRecDepth 100000 in
set_option maxHeartbeats 16000000 in
theorem te_3 (xk xmn xmx xkd : Int) (xbd : Bool) (xbn : Int) (xsc : Value) (xnm : ByteArray) (xsk : Value) (xwi : Int) (xsh xse : Value) (yk ymn ymx ykd : Int) (ybd : Bool) (ybn : Int) (ysc : Value) (ynm : ByteArray) (ysk : Value) (ywi : Int) (ysh yse : Value) (w : World) (la : Bool) (lb : Bool) (fa : Int)
    (hla : ∀ w1, Below w.heap.size w w1 → Calls Tryz.prog 8 #[.agg #[.int .i64 xk, .int .i64 xmn, .int .i64 xmx, .int .i64 xkd, .bool xbd, .int .u64 xbn, xsc, .string xnm, xsk, .int .u64 xwi, xsh, xse]] w1 fun e w' => e = .returned (.bool la) ∧ Below w1.heap.size w1 w')
    (hlb : ∀ w1, Below w.heap.size w w1 → Calls Tryz.prog 8 #[.agg #[.int .i64 yk, .int .i64 ymn, .int .i64 ymx, .int .i64 ykd, .bool ybd, .int .u64 ybn, ysc, .string ynm, ysk, .int .u64 ywi, ysh, yse]] w1 fun e w' => e = .returned (.bool lb) ∧ Below w1.heap.size w1 w')
    (hfa : ∀ w1, Below w.heap.size w w1 → Calls Tryz.prog 20 #[.agg #[.int .i64 xk, .int .i64 xmn, .int .i64 xmx, .int .i64 xkd, .bool xbd, .int .u64 xbn, xsc, .string xnm, xsk], .int .i64 40, .int .i64 1] w1 fun e w' => e = .returned (.int .i64 fa) ∧ Below w1.heap.size w1 w')
    (hW : ∀ w1, Below w.heap.size w w1 → Calls Tryz.prog 9 #[] w1 fun e w' => e = .returned (.bool true) ∧ Below w1.heap.size w1 w')
    (h1 : la = true) (h2 : lb = true) (h3 : fa < 0) :
    Calls Tryz.prog 6 #[.agg #[.int .i64 xk, .int .i64 xmn, .int .i64 xmx, .int .i64 xkd, .bool xbd, .int .u64 xbn, xsc, .string xnm, xsk, .int .u64 xwi, xsh, xse], .agg #[.int .i64 yk, .int .i64 ymn, .int .i64 ymx, .int .i64 ykd, .bool ybd, .int .u64 ybn, ysc, .string ynm, ysk, .int .u64 ywi, ysh, yse]] w fun e w' => e = .returned (.bool true) ∧ Below w.heap.size w w' := by
  obtain ⟨W, hWW⟩ : ∃ W, W = (w.alloc (.cells #[.int .i64 xk, .int .i64 xmn, .int .i64 xmx, .int .i64 xkd, .bool xbd, .int .u64 xbn, xsc, .string xnm, xsk, .int .u64 xwi, xsh, xse] 32)).alloc (.cells #[.int .i64 yk, .int .i64 ymn, .int .i64 ymx, .int .i64 ykd, .bool ybd, .int .u64 ybn, ysc, .string ynm, ysk, .int .u64 ywi, ysh, yse] 32) := ⟨_, rfl⟩
  have hb2w : Below w.heap.size w W := hWW ▸ b2 _ _ _
  have hX : Blk W w.heap.size [.int .i64 xk, .int .i64 xmn, .int .i64 xmx, .int .i64 xkd, .bool xbd, .int .u64 xbn, xsc, .string xnm, xsk, .int .u64 xwi, xsh, xse] := by rw [hWW]; exact (Blk.new w [.int .i64 xk, .int .i64 xmn, .int .i64 xmx, .int .i64 xkd, .bool xbd, .int .u64 xbn, xsc, .string xnm, xsk, .int .u64 xwi, xsh, xse] 32).alloc _
  have hY : Blk W (w.heap.size + 1) [.int .i64 yk, .int .i64 ymn, .int .i64 ymx, .int .i64 ykd, .bool ybd, .int .u64 ybn, ysc, .string ynm, ysk, .int .u64 ywi, ysh, yse] := by rw [hWW]; exact Blk.is (us := [.int .i64 yk, .int .i64 ymn, .int .i64 ymx, .int .i64 ykd, .bool ybd, .int .u64 ybn, ysc, .string ynm, ysk, .int .u64 ywi, ysh, yse]) _ (by simp)
  have hcell : ∀ w1, Below W.heap.size W w1 → Blk w1 w.heap.size [.int .i64 xk, .int .i64 xmn, .int .i64 xmx, .int .i64 xkd, .bool xbd, .int .u64 xbn, xsc, .string xnm, xsk, .int .u64 xwi, xsh, xse] ∧ Blk w1 (w.heap.size + 1) [.int .i64 yk, .int .i64 ymn, .int .i64 ymx, .int .i64 ykd, .bool ybd, .int .u64 ybn, ysc, .string ynm, ysk, .int .u64 ywi, ysh, yse] := fun w1 hb => ⟨hX.later hb, hY.later hb⟩
  clear hX hY
  have Hhla := Lib.hid hla
  have Hhlb := Lib.hid hlb
  have Hhfa := Lib.hid hfa
  have HhW := Lib.hid hW
  clear hla hlb hfa hW
  subst h1
  subst h2
  go_enter Tryz.func6, Tryz.ntmps6
  go_wp2_with fail
  rw [← hWW]
  clear hWW
  go_wp2_with (first | (go_at_call 8; with_reducible refine (Hhla.out _ hb2w).mono ?_; rintro e w2 ⟨rfl, hb2⟩; have HB := Lib.hid hb2; clear hb2; have HXY := hcell _ HB.out; have c0 := HXY.1.cell 0 _ rfl; have c1 := HXY.1.cell 1 _ rfl; have c2 := HXY.1.cell 2 _ rfl; have c3 := HXY.1.cell 3 _ rfl; have c4 := HXY.1.cell 4 _ rfl; have c5 := HXY.1.cell 5 _ rfl; have c6 := HXY.1.cell 6 _ rfl; have c7 := HXY.1.cell 7 _ rfl; have c8 := HXY.1.cell 8 _ rfl; have c9 := HXY.1.cell 9 _ rfl; have c10 := HXY.1.cell 10 _ rfl; have c11 := HXY.1.cell 11 _ rfl; have d0 := HXY.2.cell 0 _ rfl; have d1 := HXY.2.cell 1 _ rfl; have d2 := HXY.2.cell 2 _ rfl; have d3 := HXY.2.cell 3 _ rfl; have d4 := HXY.2.cell 4 _ rfl; have d5 := HXY.2.cell 5 _ rfl; have d6 := HXY.2.cell 6 _ rfl; have d7 := HXY.2.cell 7 _ rfl; have d8 := HXY.2.cell 8 _ rfl; have d9 := HXY.2.cell 9 _ rfl; have d10 := HXY.2.cell 10 _ rfl; have d11 := HXY.2.cell 11 _ rfl; clear HXY) | (go_at_call 8; with_reducible refine (Hhlb.out _ (bstep hb2w HB.out)).mono ?_; rintro e w2 ⟨rfl, hb2⟩; replace HB := Lib.hid (bstep HB.out hb2); clear c0 c1 c2 c3 c4 c5 c6 c7 c8 c9 c10 c11 d0 d1 d2 d3 d4 d5 d6 d7 d8 d9 d10 d11; clear hb2; have HXY := hcell _ HB.out; have c0 := HXY.1.cell 0 _ rfl; have c1 := HXY.1.cell 1 _ rfl; have c2 := HXY.1.cell 2 _ rfl; have c3 := HXY.1.cell 3 _ rfl; have c4 := HXY.1.cell 4 _ rfl; have c5 := HXY.1.cell 5 _ rfl; have c6 := HXY.1.cell 6 _ rfl; have c7 := HXY.1.cell 7 _ rfl; have c8 := HXY.1.cell 8 _ rfl; have c9 := HXY.1.cell 9 _ rfl; have c10 := HXY.1.cell 10 _ rfl; have c11 := HXY.1.cell 11 _ rfl; have d0 := HXY.2.cell 0 _ rfl; have d1 := HXY.2.cell 1 _ rfl; have d2 := HXY.2.cell 2 _ rfl; have d3 := HXY.2.cell 3 _ rfl; have d4 := HXY.2.cell 4 _ rfl; have d5 := HXY.2.cell 5 _ rfl; have d6 := HXY.2.cell 6 _ rfl; have d7 := HXY.2.cell 7 _ rfl; have d8 := HXY.2.cell 8 _ rfl; have d9 := HXY.2.cell 9 _ rfl; have d10 := HXY.2.cell 10 _ rfl; have d11 := HXY.2.cell 11 _ rfl; clear HXY) | (go_at_call 20; with_reducible refine (Hhfa.out _ (bstep hb2w HB.out)).mono ?_; rintro e w2 ⟨rfl, hb2⟩; replace HB := Lib.hid (bstep HB.out hb2); clear c0 c1 c2 c3 c4 c5 c6 c7 c8 c9 c10 c11 d0 d1 d2 d3 d4 d5 d6 d7 d8 d9 d10 d11; clear hb2; have HXY := hcell _ HB.out; have c0 := HXY.1.cell 0 _ rfl; have c1 := HXY.1.cell 1 _ rfl; have c2 := HXY.1.cell 2 _ rfl; have c3 := HXY.1.cell 3 _ rfl; have c4 := HXY.1.cell 4 _ rfl; have c5 := HXY.1.cell 5 _ rfl; have c6 := HXY.1.cell 6 _ rfl; have c7 := HXY.1.cell 7 _ rfl; have c8 := HXY.1.cell 8 _ rfl; have c9 := HXY.1.cell 9 _ rfl; have c10 := HXY.1.cell 10 _ rfl; have c11 := HXY.1.cell 11 _ rfl; have d0 := HXY.2.cell 0 _ rfl; have d1 := HXY.2.cell 1 _ rfl; have d2 := HXY.2.cell 2 _ rfl; have d3 := HXY.2.cell 3 _ rfl; have d4 := HXY.2.cell 4 _ rfl; have d5 := HXY.2.cell 5 _ rfl; have d6 := HXY.2.cell 6 _ rfl; have d7 := HXY.2.cell 7 _ rfl; have d8 := HXY.2.cell 8 _ rfl; have d9 := HXY.2.cell 9 _ rfl; have d10 := HXY.2.cell 10 _ rfl; have d11 := HXY.2.cell 11 _ rfl; clear HXY) | (go_at_call 9; with_reducible refine (HhW.out _ (bstep hb2w HB.out)).mono ?_; rintro e w2 ⟨rfl, hb2⟩; replace HB := Lib.hid (bstep HB.out hb2); clear c0 c1 c2 c3 c4 c5 c6 c7 c8 c9 c10 c11 d0 d1 d2 d3 d4 d5 d6 d7 d8 d9 d10 d11; clear hb2; have HXY := hcell _ HB.out; have c0 := HXY.1.cell 0 _ rfl; have c1 := HXY.1.cell 1 _ rfl; have c2 := HXY.1.cell 2 _ rfl; have c3 := HXY.1.cell 3 _ rfl; have c4 := HXY.1.cell 4 _ rfl; have c5 := HXY.1.cell 5 _ rfl; have c6 := HXY.1.cell 6 _ rfl; have c7 := HXY.1.cell 7 _ rfl; have c8 := HXY.1.cell 8 _ rfl; have c9 := HXY.1.cell 9 _ rfl; have c10 := HXY.1.cell 10 _ rfl; have c11 := HXY.1.cell 11 _ rfl; have d0 := HXY.2.cell 0 _ rfl; have d1 := HXY.2.cell 1 _ rfl; have d2 := HXY.2.cell 2 _ rfl; have d3 := HXY.2.cell 3 _ rfl; have d4 := HXY.2.cell 4 _ rfl; have d5 := HXY.2.cell 5 _ rfl; have d6 := HXY.2.cell 6 _ rfl; have d7 := HXY.2.cell 7 _ rfl; have d8 := HXY.2.cell 8 _ rfl; have d9 := HXY.2.cell 9 _ rfl; have d10 := HXY.2.cell 10 _ rfl; have d11 := HXY.2.cell 11 _ rfl; clear HXY))
  go_ret
  exact ⟨rfl, bstep hb2w HB.out⟩
set_option maxRecDepth 100000 in
set_option maxHeartbeats 16000000 in
theorem te_4 (xk xmn xmx xkd : Int) (xbd : Bool) (xbn : Int) (xsc : Value) (xnm : ByteArray) (xsk : Value) (xwi : Int) (xsh xse : Value) (yk ymn ymx ykd : Int) (ybd : Bool) (ybn : Int) (ysc : Value) (ynm : ByteArray) (ysk : Value) (ywi : Int) (ysh yse : Value) (w : World) (la : Bool) (lb : Bool) (fa : Int) (fb : Int)
    (hla : ∀ w1, Below w.heap.size w w1 → Calls Tryz.prog 8 #[.agg #[.int .i64 xk, .int .i64 xmn, .int .i64 xmx, .int .i64 xkd, .bool xbd, .int .u64 xbn, xsc, .string xnm, xsk, .int .u64 xwi, xsh, xse]] w1 fun e w' => e = .returned (.bool la) ∧ Below w1.heap.size w1 w')
    (hlb : ∀ w1, Below w.heap.size w w1 → Calls Tryz.prog 8 #[.agg #[.int .i64 yk, .int .i64 ymn, .int .i64 ymx, .int .i64 ykd, .bool ybd, .int .u64 ybn, ysc, .string ynm, ysk, .int .u64 ywi, ysh, yse]] w1 fun e w' => e = .returned (.bool lb) ∧ Below w1.heap.size w1 w')
    (hfa : ∀ w1, Below w.heap.size w w1 → Calls Tryz.prog 20 #[.agg #[.int .i64 xk, .int .i64 xmn, .int .i64 xmx, .int .i64 xkd, .bool xbd, .int .u64 xbn, xsc, .string xnm, xsk], .int .i64 40, .int .i64 1] w1 fun e w' => e = .returned (.int .i64 fa) ∧ Below w1.heap.size w1 w')
    (hfb : ∀ w1, Below w.heap.size w w1 → Calls Tryz.prog 20 #[.agg #[.int .i64 yk, .int .i64 ymn, .int .i64 ymx, .int .i64 ykd, .bool ybd, .int .u64 ybn, ysc, .string ynm, ysk], .int .i64 40, .int .i64 1] w1 fun e w' => e = .returned (.int .i64 fb) ∧ Below w1.heap.size w1 w')
    (hW : ∀ w1, Below w.heap.size w w1 → Calls Tryz.prog 9 #[] w1 fun e w' => e = .returned (.bool true) ∧ Below w1.heap.size w1 w')
    (h1 : la = true) (h2 : lb = true) (h3 : ¬ fa < 0) (h4 : fb < 0) :
    Calls Tryz.prog 6 #[.agg #[.int .i64 xk, .int .i64 xmn, .int .i64 xmx, .int .i64 xkd, .bool xbd, .int .u64 xbn, xsc, .string xnm, xsk, .int .u64 xwi, xsh, xse], .agg #[.int .i64 yk, .int .i64 ymn, .int .i64 ymx, .int .i64 ykd, .bool ybd, .int .u64 ybn, ysc, .string ynm, ysk, .int .u64 ywi, ysh, yse]] w fun e w' => e = .returned (.bool true) ∧ Below w.heap.size w w' := by
  obtain ⟨W, hWW⟩ : ∃ W, W = (w.alloc (.cells #[.int .i64 xk, .int .i64 xmn, .int .i64 xmx, .int .i64 xkd, .bool xbd, .int .u64 xbn, xsc, .string xnm, xsk, .int .u64 xwi, xsh, xse] 32)).alloc (.cells #[.int .i64 yk, .int .i64 ymn, .int .i64 ymx, .int .i64 ykd, .bool ybd, .int .u64 ybn, ysc, .string ynm, ysk, .int .u64 ywi, ysh, yse] 32) := ⟨_, rfl⟩
  have hb2w : Below w.heap.size w W := hWW ▸ b2 _ _ _
  have hX : Blk W w.heap.size [.int .i64 xk, .int .i64 xmn, .int .i64 xmx, .int .i64 xkd, .bool xbd, .int .u64 xbn, xsc, .string xnm, xsk, .int .u64 xwi, xsh, xse] := by rw [hWW]; exact (Blk.new w [.int .i64 xk, .int .i64 xmn, .int .i64 xmx, .int .i64 xkd, .bool xbd, .int .u64 xbn, xsc, .string xnm, xsk, .int .u64 xwi, xsh, xse] 32).alloc _
  have hY : Blk W (w.heap.size + 1) [.int .i64 yk, .int .i64 ymn, .int .i64 ymx, .int .i64 ykd, .bool ybd, .int .u64 ybn, ysc, .string ynm, ysk, .int .u64 ywi, ysh, yse] := by rw [hWW]; exact Blk.is (us := [.int .i64 yk, .int .i64 ymn, .int .i64 ymx, .int .i64 ykd, .bool ybd, .int .u64 ybn, ysc, .string ynm, ysk, .int .u64 ywi, ysh, yse]) _ (by simp)
  have hcell : ∀ w1, Below W.heap.size W w1 → Blk w1 w.heap.size [.int .i64 xk, .int .i64 xmn, .int .i64 xmx, .int .i64 xkd, .bool xbd, .int .u64 xbn, xsc, .string xnm, xsk, .int .u64 xwi, xsh, xse] ∧ Blk w1 (w.heap.size + 1) [.int .i64 yk, .int .i64 ymn, .int .i64 ymx, .int .i64 ykd, .bool ybd, .int .u64 ybn, ysc, .string ynm, ysk, .int .u64 ywi, ysh, yse] := fun w1 hb => ⟨hX.later hb, hY.later hb⟩
  clear hX hY
  have Hhla := Lib.hid hla
  have Hhlb := Lib.hid hlb
  have Hhfa := Lib.hid hfa
  have Hhfb := Lib.hid hfb
  have HhW := Lib.hid hW
  clear hla hlb hfa hfb hW
  subst h1
  subst h2
  go_enter Tryz.func6, Tryz.ntmps6
  go_wp2_with fail
  rw [← hWW]
  clear hWW
  go_wp2_with (first | (go_at_call 8; with_reducible refine (Hhla.out _ hb2w).mono ?_; rintro e w2 ⟨rfl, hb2⟩; have HB := Lib.hid hb2; clear hb2; have HXY := hcell _ HB.out; have c0 := HXY.1.cell 0 _ rfl; have c1 := HXY.1.cell 1 _ rfl; have c2 := HXY.1.cell 2 _ rfl; have c3 := HXY.1.cell 3 _ rfl; have c4 := HXY.1.cell 4 _ rfl; have c5 := HXY.1.cell 5 _ rfl; have c6 := HXY.1.cell 6 _ rfl; have c7 := HXY.1.cell 7 _ rfl; have c8 := HXY.1.cell 8 _ rfl; have c9 := HXY.1.cell 9 _ rfl; have c10 := HXY.1.cell 10 _ rfl; have c11 := HXY.1.cell 11 _ rfl; have d0 := HXY.2.cell 0 _ rfl; have d1 := HXY.2.cell 1 _ rfl; have d2 := HXY.2.cell 2 _ rfl; have d3 := HXY.2.cell 3 _ rfl; have d4 := HXY.2.cell 4 _ rfl; have d5 := HXY.2.cell 5 _ rfl; have d6 := HXY.2.cell 6 _ rfl; have d7 := HXY.2.cell 7 _ rfl; have d8 := HXY.2.cell 8 _ rfl; have d9 := HXY.2.cell 9 _ rfl; have d10 := HXY.2.cell 10 _ rfl; have d11 := HXY.2.cell 11 _ rfl; clear HXY) | (go_at_call 8; with_reducible refine (Hhlb.out _ (bstep hb2w HB.out)).mono ?_; rintro e w2 ⟨rfl, hb2⟩; replace HB := Lib.hid (bstep HB.out hb2); clear c0 c1 c2 c3 c4 c5 c6 c7 c8 c9 c10 c11 d0 d1 d2 d3 d4 d5 d6 d7 d8 d9 d10 d11; clear hb2; have HXY := hcell _ HB.out; have c0 := HXY.1.cell 0 _ rfl; have c1 := HXY.1.cell 1 _ rfl; have c2 := HXY.1.cell 2 _ rfl; have c3 := HXY.1.cell 3 _ rfl; have c4 := HXY.1.cell 4 _ rfl; have c5 := HXY.1.cell 5 _ rfl; have c6 := HXY.1.cell 6 _ rfl; have c7 := HXY.1.cell 7 _ rfl; have c8 := HXY.1.cell 8 _ rfl; have c9 := HXY.1.cell 9 _ rfl; have c10 := HXY.1.cell 10 _ rfl; have c11 := HXY.1.cell 11 _ rfl; have d0 := HXY.2.cell 0 _ rfl; have d1 := HXY.2.cell 1 _ rfl; have d2 := HXY.2.cell 2 _ rfl; have d3 := HXY.2.cell 3 _ rfl; have d4 := HXY.2.cell 4 _ rfl; have d5 := HXY.2.cell 5 _ rfl; have d6 := HXY.2.cell 6 _ rfl; have d7 := HXY.2.cell 7 _ rfl; have d8 := HXY.2.cell 8 _ rfl; have d9 := HXY.2.cell 9 _ rfl; have d10 := HXY.2.cell 10 _ rfl; have d11 := HXY.2.cell 11 _ rfl; clear HXY) | (go_at_call 20; with_reducible refine (Hhfa.out _ (bstep hb2w HB.out)).mono ?_; rintro e w2 ⟨rfl, hb2⟩; replace HB := Lib.hid (bstep HB.out hb2); clear c0 c1 c2 c3 c4 c5 c6 c7 c8 c9 c10 c11 d0 d1 d2 d3 d4 d5 d6 d7 d8 d9 d10 d11; clear hb2; have HXY := hcell _ HB.out; have c0 := HXY.1.cell 0 _ rfl; have c1 := HXY.1.cell 1 _ rfl; have c2 := HXY.1.cell 2 _ rfl; have c3 := HXY.1.cell 3 _ rfl; have c4 := HXY.1.cell 4 _ rfl; have c5 := HXY.1.cell 5 _ rfl; have c6 := HXY.1.cell 6 _ rfl; have c7 := HXY.1.cell 7 _ rfl; have c8 := HXY.1.cell 8 _ rfl; have c9 := HXY.1.cell 9 _ rfl; have c10 := HXY.1.cell 10 _ rfl; have c11 := HXY.1.cell 11 _ rfl; have d0 := HXY.2.cell 0 _ rfl; have d1 := HXY.2.cell 1 _ rfl; have d2 := HXY.2.cell 2 _ rfl; have d3 := HXY.2.cell 3 _ rfl; have d4 := HXY.2.cell 4 _ rfl; have d5 := HXY.2.cell 5 _ rfl; have d6 := HXY.2.cell 6 _ rfl; have d7 := HXY.2.cell 7 _ rfl; have d8 := HXY.2.cell 8 _ rfl; have d9 := HXY.2.cell 9 _ rfl; have d10 := HXY.2.cell 10 _ rfl; have d11 := HXY.2.cell 11 _ rfl; clear HXY) | (go_at_call 20; with_reducible refine (Hhfb.out _ (bstep hb2w HB.out)).mono ?_; rintro e w2 ⟨rfl, hb2⟩; replace HB := Lib.hid (bstep HB.out hb2); clear c0 c1 c2 c3 c4 c5 c6 c7 c8 c9 c10 c11 d0 d1 d2 d3 d4 d5 d6 d7 d8 d9 d10 d11; clear hb2; have HXY := hcell _ HB.out; have c0 := HXY.1.cell 0 _ rfl; have c1 := HXY.1.cell 1 _ rfl; have c2 := HXY.1.cell 2 _ rfl; have c3 := HXY.1.cell 3 _ rfl; have c4 := HXY.1.cell 4 _ rfl; have c5 := HXY.1.cell 5 _ rfl; have c6 := HXY.1.cell 6 _ rfl; have c7 := HXY.1.cell 7 _ rfl; have c8 := HXY.1.cell 8 _ rfl; have c9 := HXY.1.cell 9 _ rfl; have c10 := HXY.1.cell 10 _ rfl; have c11 := HXY.1.cell 11 _ rfl; have d0 := HXY.2.cell 0 _ rfl; have d1 := HXY.2.cell 1 _ rfl; have d2 := HXY.2.cell 2 _ rfl; have d3 := HXY.2.cell 3 _ rfl; have d4 := HXY.2.cell 4 _ rfl; have d5 := HXY.2.cell 5 _ rfl; have d6 := HXY.2.cell 6 _ rfl; have d7 := HXY.2.cell 7 _ rfl; have d8 := HXY.2.cell 8 _ rfl; have d9 := HXY.2.cell 9 _ rfl; have d10 := HXY.2.cell 10 _ rfl; have d11 := HXY.2.cell 11 _ rfl; clear HXY) | (go_at_call 9; with_reducible refine (HhW.out _ (bstep hb2w HB.out)).mono ?_; rintro e w2 ⟨rfl, hb2⟩; replace HB := Lib.hid (bstep HB.out hb2); clear c0 c1 c2 c3 c4 c5 c6 c7 c8 c9 c10 c11 d0 d1 d2 d3 d4 d5 d6 d7 d8 d9 d10 d11; clear hb2; have HXY := hcell _ HB.out; have c0 := HXY.1.cell 0 _ rfl; have c1 := HXY.1.cell 1 _ rfl; have c2 := HXY.1.cell 2 _ rfl; have c3 := HXY.1.cell 3 _ rfl; have c4 := HXY.1.cell 4 _ rfl; have c5 := HXY.1.cell 5 _ rfl; have c6 := HXY.1.cell 6 _ rfl; have c7 := HXY.1.cell 7 _ rfl; have c8 := HXY.1.cell 8 _ rfl; have c9 := HXY.1.cell 9 _ rfl; have c10 := HXY.1.cell 10 _ rfl; have c11 := HXY.1.cell 11 _ rfl; have d0 := HXY.2.cell 0 _ rfl; have d1 := HXY.2.cell 1 _ rfl; have d2 := HXY.2.cell 2 _ rfl; have d3 := HXY.2.cell 3 _ rfl; have d4 := HXY.2.cell 4 _ rfl; have d5 := HXY.2.cell 5 _ rfl; have d6 := HXY.2.cell 6 _ rfl; have d7 := HXY.2.cell 7 _ rfl; have d8 := HXY.2.cell 8 _ rfl; have d9 := HXY.2.cell 9 _ rfl; have d10 := HXY.2.cell 10 _ rfl; have d11 := HXY.2.cell 11 _ rfl; clear HXY))
  go_ret
  exact ⟨rfl, bstep hb2w HB.out⟩
set_option maxRecDepth 100000 in
set_option maxHeartbeats 16000000 in
theorem te_5 (xk xmn xmx xkd : Int) (xbd : Bool) (xbn : Int) (xsc : Value) (xnm : ByteArray) (xsk : Value) (xwi : Int) (xsh xse : Value) (yk ymn ymx ykd : Int) (ybd : Bool) (ybn : Int) (ysc : Value) (ynm : ByteArray) (ysk : Value) (ywi : Int) (ysh yse : Value) (w : World) (la : Bool) (lb : Bool) (fa : Int) (fb : Int) (sa : ByteArray) (ea : Int) (sb : ByteArray) (eb : Int)
    (hla : ∀ w1, Below w.heap.size w w1 → Calls Tryz.prog 8 #[.agg #[.int .i64 xk, .int .i64 xmn, .int .i64 xmx, .int .i64 xkd, .bool xbd, .int .u64 xbn, xsc, .string xnm, xsk, .int .u64 xwi, xsh, xse]] w1 fun e w' => e = .returned (.bool la) ∧ Below w1.heap.size w1 w')
    (hlb : ∀ w1, Below w.heap.size w w1 → Calls Tryz.prog 8 #[.agg #[.int .i64 yk, .int .i64 ymn, .int .i64 ymx, .int .i64 ykd, .bool ybd, .int .u64 ybn, ysc, .string ynm, ysk, .int .u64 ywi, ysh, yse]] w1 fun e w' => e = .returned (.bool lb) ∧ Below w1.heap.size w1 w')
    (hfa : ∀ w1, Below w.heap.size w w1 → Calls Tryz.prog 20 #[.agg #[.int .i64 xk, .int .i64 xmn, .int .i64 xmx, .int .i64 xkd, .bool xbd, .int .u64 xbn, xsc, .string xnm, xsk], .int .i64 40, .int .i64 1] w1 fun e w' => e = .returned (.int .i64 fa) ∧ Below w1.heap.size w1 w')
    (hfb : ∀ w1, Below w.heap.size w w1 → Calls Tryz.prog 20 #[.agg #[.int .i64 yk, .int .i64 ymn, .int .i64 ymx, .int .i64 ykd, .bool ybd, .int .u64 ybn, ysc, .string ynm, ysk], .int .i64 40, .int .i64 1] w1 fun e w' => e = .returned (.int .i64 fb) ∧ Below w1.heap.size w1 w')
    (hpa : ∀ w1, Below w.heap.size w w1 → Calls Tryz.prog 10 #[.agg #[.int .i64 xk, .int .i64 xmn, .int .i64 xmx, .int .i64 xkd, .bool xbd, .int .u64 xbn, xsc, .string xnm, xsk, .int .u64 xwi, xsh, xse]] w1 fun e w' => e = .returned (.tuple #[.string sa, .int .i64 ea]) ∧ Below w1.heap.size w1 w')
    (hpb : ∀ w1, Below w.heap.size w w1 → Calls Tryz.prog 10 #[.agg #[.int .i64 yk, .int .i64 ymn, .int .i64 ymx, .int .i64 ykd, .bool ybd, .int .u64 ybn, ysc, .string ynm, ysk, .int .u64 ywi, ysh, yse]] w1 fun e w' => e = .returned (.tuple #[.string sb, .int .i64 eb]) ∧ Below w1.heap.size w1 w')
    (hW : ∀ w1, Below w.heap.size w w1 → Calls Tryz.prog 9 #[] w1 fun e w' => e = .returned (.bool true) ∧ Below w1.heap.size w1 w')
    (h1 : la = true) (h2 : lb = true) (h3 : ¬ fa < 0) (h4 : ¬ fb < 0) (h5 : ¬ ea = 0) :
    Calls Tryz.prog 6 #[.agg #[.int .i64 xk, .int .i64 xmn, .int .i64 xmx, .int .i64 xkd, .bool xbd, .int .u64 xbn, xsc, .string xnm, xsk, .int .u64 xwi, xsh, xse], .agg #[.int .i64 yk, .int .i64 ymn, .int .i64 ymx, .int .i64 ykd, .bool ybd, .int .u64 ybn, ysc, .string ynm, ysk, .int .u64 ywi, ysh, yse]] w fun e w' => e = .returned (.bool true) ∧ Below w.heap.size w w' := by
  obtain ⟨W, hWW⟩ : ∃ W, W = (w.alloc (.cells #[.int .i64 xk, .int .i64 xmn, .int .i64 xmx, .int .i64 xkd, .bool xbd, .int .u64 xbn, xsc, .string xnm, xsk, .int .u64 xwi, xsh, xse] 32)).alloc (.cells #[.int .i64 yk, .int .i64 ymn, .int .i64 ymx, .int .i64 ykd, .bool ybd, .int .u64 ybn, ysc, .string ynm, ysk, .int .u64 ywi, ysh, yse] 32) := ⟨_, rfl⟩
  have hb2w : Below w.heap.size w W := hWW ▸ b2 _ _ _
  have hX : Blk W w.heap.size [.int .i64 xk, .int .i64 xmn, .int .i64 xmx, .int .i64 xkd, .bool xbd, .int .u64 xbn, xsc, .string xnm, xsk, .int .u64 xwi, xsh, xse] := by rw [hWW]; exact (Blk.new w [.int .i64 xk, .int .i64 xmn, .int .i64 xmx, .int .i64 xkd, .bool xbd, .int .u64 xbn, xsc, .string xnm, xsk, .int .u64 xwi, xsh, xse] 32).alloc _
  have hY : Blk W (w.heap.size + 1) [.int .i64 yk, .int .i64 ymn, .int .i64 ymx, .int .i64 ykd, .bool ybd, .int .u64 ybn, ysc, .string ynm, ysk, .int .u64 ywi, ysh, yse] := by rw [hWW]; exact Blk.is (us := [.int .i64 yk, .int .i64 ymn, .int .i64 ymx, .int .i64 ykd, .bool ybd, .int .u64 ybn, ysc, .string ynm, ysk, .int .u64 ywi, ysh, yse]) _ (by simp)
  have hcell : ∀ w1, Below W.heap.size W w1 → Blk w1 w.heap.size [.int .i64 xk, .int .i64 xmn, .int .i64 xmx, .int .i64 xkd, .bool xbd, .int .u64 xbn, xsc, .string xnm, xsk, .int .u64 xwi, xsh, xse] ∧ Blk w1 (w.heap.size + 1) [.int .i64 yk, .int .i64 ymn, .int .i64 ymx, .int .i64 ykd, .bool ybd, .int .u64 ybn, ysc, .string ynm, ysk, .int .u64 ywi, ysh, yse] := fun w1 hb => ⟨hX.later hb, hY.later hb⟩
  clear hX hY
  have Hhla := Lib.hid hla
  have Hhlb := Lib.hid hlb
  have Hhfa := Lib.hid hfa
  have Hhfb := Lib.hid hfb
  have Hhpa := Lib.hid hpa
  have Hhpb := Lib.hid hpb
  have HhW := Lib.hid hW
  clear hla hlb hfa hfb hpa hpb hW
  subst h1
  subst h2
  have h5b : (ea != 0) = true := by simp [h5]
  have h5c : (ea == 0) = false := by rw [beq_eq_false_iff_ne]; exact h5
  go_enter Tryz.func6, Tryz.ntmps6
  go_wp2_with fail
  rw [← hWW]
  clear hWW
  go_wp2_with (first | (go_at_call 8; with_reducible refine (Hhla.out _ hb2w).mono ?_; rintro e w2 ⟨rfl, hb2⟩; have HB := Lib.hid hb2; clear hb2; have HXY := hcell _ HB.out; have c0 := HXY.1.cell 0 _ rfl; have c1 := HXY.1.cell 1 _ rfl; have c2 := HXY.1.cell 2 _ rfl; have c3 := HXY.1.cell 3 _ rfl; have c4 := HXY.1.cell 4 _ rfl; have c5 := HXY.1.cell 5 _ rfl; have c6 := HXY.1.cell 6 _ rfl; have c7 := HXY.1.cell 7 _ rfl; have c8 := HXY.1.cell 8 _ rfl; have c9 := HXY.1.cell 9 _ rfl; have c10 := HXY.1.cell 10 _ rfl; have c11 := HXY.1.cell 11 _ rfl; have d0 := HXY.2.cell 0 _ rfl; have d1 := HXY.2.cell 1 _ rfl; have d2 := HXY.2.cell 2 _ rfl; have d3 := HXY.2.cell 3 _ rfl; have d4 := HXY.2.cell 4 _ rfl; have d5 := HXY.2.cell 5 _ rfl; have d6 := HXY.2.cell 6 _ rfl; have d7 := HXY.2.cell 7 _ rfl; have d8 := HXY.2.cell 8 _ rfl; have d9 := HXY.2.cell 9 _ rfl; have d10 := HXY.2.cell 10 _ rfl; have d11 := HXY.2.cell 11 _ rfl; clear HXY) | (go_at_call 8; with_reducible refine (Hhlb.out _ (bstep hb2w HB.out)).mono ?_; rintro e w2 ⟨rfl, hb2⟩; replace HB := Lib.hid (bstep HB.out hb2); clear c0 c1 c2 c3 c4 c5 c6 c7 c8 c9 c10 c11 d0 d1 d2 d3 d4 d5 d6 d7 d8 d9 d10 d11; clear hb2; have HXY := hcell _ HB.out; have c0 := HXY.1.cell 0 _ rfl; have c1 := HXY.1.cell 1 _ rfl; have c2 := HXY.1.cell 2 _ rfl; have c3 := HXY.1.cell 3 _ rfl; have c4 := HXY.1.cell 4 _ rfl; have c5 := HXY.1.cell 5 _ rfl; have c6 := HXY.1.cell 6 _ rfl; have c7 := HXY.1.cell 7 _ rfl; have c8 := HXY.1.cell 8 _ rfl; have c9 := HXY.1.cell 9 _ rfl; have c10 := HXY.1.cell 10 _ rfl; have c11 := HXY.1.cell 11 _ rfl; have d0 := HXY.2.cell 0 _ rfl; have d1 := HXY.2.cell 1 _ rfl; have d2 := HXY.2.cell 2 _ rfl; have d3 := HXY.2.cell 3 _ rfl; have d4 := HXY.2.cell 4 _ rfl; have d5 := HXY.2.cell 5 _ rfl; have d6 := HXY.2.cell 6 _ rfl; have d7 := HXY.2.cell 7 _ rfl; have d8 := HXY.2.cell 8 _ rfl; have d9 := HXY.2.cell 9 _ rfl; have d10 := HXY.2.cell 10 _ rfl; have d11 := HXY.2.cell 11 _ rfl; clear HXY) | (go_at_call 20; with_reducible refine (Hhfa.out _ (bstep hb2w HB.out)).mono ?_; rintro e w2 ⟨rfl, hb2⟩; replace HB := Lib.hid (bstep HB.out hb2); clear c0 c1 c2 c3 c4 c5 c6 c7 c8 c9 c10 c11 d0 d1 d2 d3 d4 d5 d6 d7 d8 d9 d10 d11; clear hb2; have HXY := hcell _ HB.out; have c0 := HXY.1.cell 0 _ rfl; have c1 := HXY.1.cell 1 _ rfl; have c2 := HXY.1.cell 2 _ rfl; have c3 := HXY.1.cell 3 _ rfl; have c4 := HXY.1.cell 4 _ rfl; have c5 := HXY.1.cell 5 _ rfl; have c6 := HXY.1.cell 6 _ rfl; have c7 := HXY.1.cell 7 _ rfl; have c8 := HXY.1.cell 8 _ rfl; have c9 := HXY.1.cell 9 _ rfl; have c10 := HXY.1.cell 10 _ rfl; have c11 := HXY.1.cell 11 _ rfl; have d0 := HXY.2.cell 0 _ rfl; have d1 := HXY.2.cell 1 _ rfl; have d2 := HXY.2.cell 2 _ rfl; have d3 := HXY.2.cell 3 _ rfl; have d4 := HXY.2.cell 4 _ rfl; have d5 := HXY.2.cell 5 _ rfl; have d6 := HXY.2.cell 6 _ rfl; have d7 := HXY.2.cell 7 _ rfl; have d8 := HXY.2.cell 8 _ rfl; have d9 := HXY.2.cell 9 _ rfl; have d10 := HXY.2.cell 10 _ rfl; have d11 := HXY.2.cell 11 _ rfl; clear HXY) | (go_at_call 20; with_reducible refine (Hhfb.out _ (bstep hb2w HB.out)).mono ?_; rintro e w2 ⟨rfl, hb2⟩; replace HB := Lib.hid (bstep HB.out hb2); clear c0 c1 c2 c3 c4 c5 c6 c7 c8 c9 c10 c11 d0 d1 d2 d3 d4 d5 d6 d7 d8 d9 d10 d11; clear hb2; have HXY := hcell _ HB.out; have c0 := HXY.1.cell 0 _ rfl; have c1 := HXY.1.cell 1 _ rfl; have c2 := HXY.1.cell 2 _ rfl; have c3 := HXY.1.cell 3 _ rfl; have c4 := HXY.1.cell 4 _ rfl; have c5 := HXY.1.cell 5 _ rfl; have c6 := HXY.1.cell 6 _ rfl; have c7 := HXY.1.cell 7 _ rfl; have c8 := HXY.1.cell 8 _ rfl; have c9 := HXY.1.cell 9 _ rfl; have c10 := HXY.1.cell 10 _ rfl; have c11 := HXY.1.cell 11 _ rfl; have d0 := HXY.2.cell 0 _ rfl; have d1 := HXY.2.cell 1 _ rfl; have d2 := HXY.2.cell 2 _ rfl; have d3 := HXY.2.cell 3 _ rfl; have d4 := HXY.2.cell 4 _ rfl; have d5 := HXY.2.cell 5 _ rfl; have d6 := HXY.2.cell 6 _ rfl; have d7 := HXY.2.cell 7 _ rfl; have d8 := HXY.2.cell 8 _ rfl; have d9 := HXY.2.cell 9 _ rfl; have d10 := HXY.2.cell 10 _ rfl; have d11 := HXY.2.cell 11 _ rfl; clear HXY) | (go_at_call 10; with_reducible refine (Hhpa.out _ (bstep hb2w HB.out)).mono ?_; rintro e w2 ⟨rfl, hb2⟩; replace HB := Lib.hid (bstep HB.out hb2); clear c0 c1 c2 c3 c4 c5 c6 c7 c8 c9 c10 c11 d0 d1 d2 d3 d4 d5 d6 d7 d8 d9 d10 d11; clear hb2; have HXY := hcell _ HB.out; have c0 := HXY.1.cell 0 _ rfl; have c1 := HXY.1.cell 1 _ rfl; have c2 := HXY.1.cell 2 _ rfl; have c3 := HXY.1.cell 3 _ rfl; have c4 := HXY.1.cell 4 _ rfl; have c5 := HXY.1.cell 5 _ rfl; have c6 := HXY.1.cell 6 _ rfl; have c7 := HXY.1.cell 7 _ rfl; have c8 := HXY.1.cell 8 _ rfl; have c9 := HXY.1.cell 9 _ rfl; have c10 := HXY.1.cell 10 _ rfl; have c11 := HXY.1.cell 11 _ rfl; have d0 := HXY.2.cell 0 _ rfl; have d1 := HXY.2.cell 1 _ rfl; have d2 := HXY.2.cell 2 _ rfl; have d3 := HXY.2.cell 3 _ rfl; have d4 := HXY.2.cell 4 _ rfl; have d5 := HXY.2.cell 5 _ rfl; have d6 := HXY.2.cell 6 _ rfl; have d7 := HXY.2.cell 7 _ rfl; have d8 := HXY.2.cell 8 _ rfl; have d9 := HXY.2.cell 9 _ rfl; have d10 := HXY.2.cell 10 _ rfl; have d11 := HXY.2.cell 11 _ rfl; clear HXY) | (go_at_call 10; with_reducible refine (Hhpb.out _ (bstep hb2w HB.out)).mono ?_; rintro e w2 ⟨rfl, hb2⟩; replace HB := Lib.hid (bstep HB.out hb2); clear c0 c1 c2 c3 c4 c5 c6 c7 c8 c9 c10 c11 d0 d1 d2 d3 d4 d5 d6 d7 d8 d9 d10 d11; clear hb2; have HXY := hcell _ HB.out; have c0 := HXY.1.cell 0 _ rfl; have c1 := HXY.1.cell 1 _ rfl; have c2 := HXY.1.cell 2 _ rfl; have c3 := HXY.1.cell 3 _ rfl; have c4 := HXY.1.cell 4 _ rfl; have c5 := HXY.1.cell 5 _ rfl; have c6 := HXY.1.cell 6 _ rfl; have c7 := HXY.1.cell 7 _ rfl; have c8 := HXY.1.cell 8 _ rfl; have c9 := HXY.1.cell 9 _ rfl; have c10 := HXY.1.cell 10 _ rfl; have c11 := HXY.1.cell 11 _ rfl; have d0 := HXY.2.cell 0 _ rfl; have d1 := HXY.2.cell 1 _ rfl; have d2 := HXY.2.cell 2 _ rfl; have d3 := HXY.2.cell 3 _ rfl; have d4 := HXY.2.cell 4 _ rfl; have d5 := HXY.2.cell 5 _ rfl; have d6 := HXY.2.cell 6 _ rfl; have d7 := HXY.2.cell 7 _ rfl; have d8 := HXY.2.cell 8 _ rfl; have d9 := HXY.2.cell 9 _ rfl; have d10 := HXY.2.cell 10 _ rfl; have d11 := HXY.2.cell 11 _ rfl; clear HXY) | (go_at_call 9; with_reducible refine (HhW.out _ (bstep hb2w HB.out)).mono ?_; rintro e w2 ⟨rfl, hb2⟩; replace HB := Lib.hid (bstep HB.out hb2); clear c0 c1 c2 c3 c4 c5 c6 c7 c8 c9 c10 c11 d0 d1 d2 d3 d4 d5 d6 d7 d8 d9 d10 d11; clear hb2; have HXY := hcell _ HB.out; have c0 := HXY.1.cell 0 _ rfl; have c1 := HXY.1.cell 1 _ rfl; have c2 := HXY.1.cell 2 _ rfl; have c3 := HXY.1.cell 3 _ rfl; have c4 := HXY.1.cell 4 _ rfl; have c5 := HXY.1.cell 5 _ rfl; have c6 := HXY.1.cell 6 _ rfl; have c7 := HXY.1.cell 7 _ rfl; have c8 := HXY.1.cell 8 _ rfl; have c9 := HXY.1.cell 9 _ rfl; have c10 := HXY.1.cell 10 _ rfl; have c11 := HXY.1.cell 11 _ rfl; have d0 := HXY.2.cell 0 _ rfl; have d1 := HXY.2.cell 1 _ rfl; have d2 := HXY.2.cell 2 _ rfl; have d3 := HXY.2.cell 3 _ rfl; have d4 := HXY.2.cell 4 _ rfl; have d5 := HXY.2.cell 5 _ rfl; have d6 := HXY.2.cell 6 _ rfl; have d7 := HXY.2.cell 7 _ rfl; have d8 := HXY.2.cell 8 _ rfl; have d9 := HXY.2.cell 9 _ rfl; have d10 := HXY.2.cell 10 _ rfl; have d11 := HXY.2.cell 11 _ rfl; clear HXY))
  go_ret
  exact ⟨rfl, bstep hb2w HB.out⟩
set_option maxRecDepth 100000 in
set_option maxHeartbeats 16000000 in
theorem te_6 (xk xmn xmx xkd : Int) (xbd : Bool) (xbn : Int) (xsc : Value) (xnm : ByteArray) (xsk : Value) (xwi : Int) (xsh xse : Value) (yk ymn ymx ykd : Int) (ybd : Bool) (ybn : Int) (ysc : Value) (ynm : ByteArray) (ysk : Value) (ywi : Int) (ysh yse : Value) (w : World) (la : Bool) (lb : Bool) (fa : Int) (fb : Int) (sa : ByteArray) (ea : Int) (sb : ByteArray) (eb : Int)
    (hla : ∀ w1, Below w.heap.size w w1 → Calls Tryz.prog 8 #[.agg #[.int .i64 xk, .int .i64 xmn, .int .i64 xmx, .int .i64 xkd, .bool xbd, .int .u64 xbn, xsc, .string xnm, xsk, .int .u64 xwi, xsh, xse]] w1 fun e w' => e = .returned (.bool la) ∧ Below w1.heap.size w1 w')
    (hlb : ∀ w1, Below w.heap.size w w1 → Calls Tryz.prog 8 #[.agg #[.int .i64 yk, .int .i64 ymn, .int .i64 ymx, .int .i64 ykd, .bool ybd, .int .u64 ybn, ysc, .string ynm, ysk, .int .u64 ywi, ysh, yse]] w1 fun e w' => e = .returned (.bool lb) ∧ Below w1.heap.size w1 w')
    (hfa : ∀ w1, Below w.heap.size w w1 → Calls Tryz.prog 20 #[.agg #[.int .i64 xk, .int .i64 xmn, .int .i64 xmx, .int .i64 xkd, .bool xbd, .int .u64 xbn, xsc, .string xnm, xsk], .int .i64 40, .int .i64 1] w1 fun e w' => e = .returned (.int .i64 fa) ∧ Below w1.heap.size w1 w')
    (hfb : ∀ w1, Below w.heap.size w w1 → Calls Tryz.prog 20 #[.agg #[.int .i64 yk, .int .i64 ymn, .int .i64 ymx, .int .i64 ykd, .bool ybd, .int .u64 ybn, ysc, .string ynm, ysk], .int .i64 40, .int .i64 1] w1 fun e w' => e = .returned (.int .i64 fb) ∧ Below w1.heap.size w1 w')
    (hpa : ∀ w1, Below w.heap.size w w1 → Calls Tryz.prog 10 #[.agg #[.int .i64 xk, .int .i64 xmn, .int .i64 xmx, .int .i64 xkd, .bool xbd, .int .u64 xbn, xsc, .string xnm, xsk, .int .u64 xwi, xsh, xse]] w1 fun e w' => e = .returned (.tuple #[.string sa, .int .i64 ea]) ∧ Below w1.heap.size w1 w')
    (hpb : ∀ w1, Below w.heap.size w w1 → Calls Tryz.prog 10 #[.agg #[.int .i64 yk, .int .i64 ymn, .int .i64 ymx, .int .i64 ykd, .bool ybd, .int .u64 ybn, ysc, .string ynm, ysk, .int .u64 ywi, ysh, yse]] w1 fun e w' => e = .returned (.tuple #[.string sb, .int .i64 eb]) ∧ Below w1.heap.size w1 w')
    (hW : ∀ w1, Below w.heap.size w w1 → Calls Tryz.prog 9 #[] w1 fun e w' => e = .returned (.bool true) ∧ Below w1.heap.size w1 w')
    (h1 : la = true) (h2 : lb = true) (h3 : ¬ fa < 0) (h4 : ¬ fb < 0) (h5 : ea = 0) (h6 : ¬ eb = 0) :
    Calls Tryz.prog 6 #[.agg #[.int .i64 xk, .int .i64 xmn, .int .i64 xmx, .int .i64 xkd, .bool xbd, .int .u64 xbn, xsc, .string xnm, xsk, .int .u64 xwi, xsh, xse], .agg #[.int .i64 yk, .int .i64 ymn, .int .i64 ymx, .int .i64 ykd, .bool ybd, .int .u64 ybn, ysc, .string ynm, ysk, .int .u64 ywi, ysh, yse]] w fun e w' => e = .returned (.bool true) ∧ Below w.heap.size w w' := by
  obtain ⟨W, hWW⟩ : ∃ W, W = (w.alloc (.cells #[.int .i64 xk, .int .i64 xmn, .int .i64 xmx, .int .i64 xkd, .bool xbd, .int .u64 xbn, xsc, .string xnm, xsk, .int .u64 xwi, xsh, xse] 32)).alloc (.cells #[.int .i64 yk, .int .i64 ymn, .int .i64 ymx, .int .i64 ykd, .bool ybd, .int .u64 ybn, ysc, .string ynm, ysk, .int .u64 ywi, ysh, yse] 32) := ⟨_, rfl⟩
  have hb2w : Below w.heap.size w W := hWW ▸ b2 _ _ _
  have hX : Blk W w.heap.size [.int .i64 xk, .int .i64 xmn, .int .i64 xmx, .int .i64 xkd, .bool xbd, .int .u64 xbn, xsc, .string xnm, xsk, .int .u64 xwi, xsh, xse] := by rw [hWW]; exact (Blk.new w [.int .i64 xk, .int .i64 xmn, .int .i64 xmx, .int .i64 xkd, .bool xbd, .int .u64 xbn, xsc, .string xnm, xsk, .int .u64 xwi, xsh, xse] 32).alloc _
  have hY : Blk W (w.heap.size + 1) [.int .i64 yk, .int .i64 ymn, .int .i64 ymx, .int .i64 ykd, .bool ybd, .int .u64 ybn, ysc, .string ynm, ysk, .int .u64 ywi, ysh, yse] := by rw [hWW]; exact Blk.is (us := [.int .i64 yk, .int .i64 ymn, .int .i64 ymx, .int .i64 ykd, .bool ybd, .int .u64 ybn, ysc, .string ynm, ysk, .int .u64 ywi, ysh, yse]) _ (by simp)
  have hcell : ∀ w1, Below W.heap.size W w1 → Blk w1 w.heap.size [.int .i64 xk, .int .i64 xmn, .int .i64 xmx, .int .i64 xkd, .bool xbd, .int .u64 xbn, xsc, .string xnm, xsk, .int .u64 xwi, xsh, xse] ∧ Blk w1 (w.heap.size + 1) [.int .i64 yk, .int .i64 ymn, .int .i64 ymx, .int .i64 ykd, .bool ybd, .int .u64 ybn, ysc, .string ynm, ysk, .int .u64 ywi, ysh, yse] := fun w1 hb => ⟨hX.later hb, hY.later hb⟩
  clear hX hY
  have Hhla := Lib.hid hla
  have Hhlb := Lib.hid hlb
  have Hhfa := Lib.hid hfa
  have Hhfb := Lib.hid hfb
  have Hhpa := Lib.hid hpa
  have Hhpb := Lib.hid hpb
  have HhW := Lib.hid hW
  clear hla hlb hfa hfb hpa hpb hW
  subst h1
  subst h2
  subst h5
  have h6b : (eb != 0) = true := by simp [h6]
  have h6c : (eb == 0) = false := by rw [beq_eq_false_iff_ne]; exact h6
  go_enter Tryz.func6, Tryz.ntmps6
  go_wp2_with fail
  rw [← hWW]
  clear hWW
  go_wp2_with (first | (go_at_call 8; with_reducible refine (Hhla.out _ hb2w).mono ?_; rintro e w2 ⟨rfl, hb2⟩; have HB := Lib.hid hb2; clear hb2; have HXY := hcell _ HB.out; have c0 := HXY.1.cell 0 _ rfl; have c1 := HXY.1.cell 1 _ rfl; have c2 := HXY.1.cell 2 _ rfl; have c3 := HXY.1.cell 3 _ rfl; have c4 := HXY.1.cell 4 _ rfl; have c5 := HXY.1.cell 5 _ rfl; have c6 := HXY.1.cell 6 _ rfl; have c7 := HXY.1.cell 7 _ rfl; have c8 := HXY.1.cell 8 _ rfl; have c9 := HXY.1.cell 9 _ rfl; have c10 := HXY.1.cell 10 _ rfl; have c11 := HXY.1.cell 11 _ rfl; have d0 := HXY.2.cell 0 _ rfl; have d1 := HXY.2.cell 1 _ rfl; have d2 := HXY.2.cell 2 _ rfl; have d3 := HXY.2.cell 3 _ rfl; have d4 := HXY.2.cell 4 _ rfl; have d5 := HXY.2.cell 5 _ rfl; have d6 := HXY.2.cell 6 _ rfl; have d7 := HXY.2.cell 7 _ rfl; have d8 := HXY.2.cell 8 _ rfl; have d9 := HXY.2.cell 9 _ rfl; have d10 := HXY.2.cell 10 _ rfl; have d11 := HXY.2.cell 11 _ rfl; clear HXY) | (go_at_call 8; with_reducible refine (Hhlb.out _ (bstep hb2w HB.out)).mono ?_; rintro e w2 ⟨rfl, hb2⟩; replace HB := Lib.hid (bstep HB.out hb2); clear c0 c1 c2 c3 c4 c5 c6 c7 c8 c9 c10 c11 d0 d1 d2 d3 d4 d5 d6 d7 d8 d9 d10 d11; clear hb2; have HXY := hcell _ HB.out; have c0 := HXY.1.cell 0 _ rfl; have c1 := HXY.1.cell 1 _ rfl; have c2 := HXY.1.cell 2 _ rfl; have c3 := HXY.1.cell 3 _ rfl; have c4 := HXY.1.cell 4 _ rfl; have c5 := HXY.1.cell 5 _ rfl; have c6 := HXY.1.cell 6 _ rfl; have c7 := HXY.1.cell 7 _ rfl; have c8 := HXY.1.cell 8 _ rfl; have c9 := HXY.1.cell 9 _ rfl; have c10 := HXY.1.cell 10 _ rfl; have c11 := HXY.1.cell 11 _ rfl; have d0 := HXY.2.cell 0 _ rfl; have d1 := HXY.2.cell 1 _ rfl; have d2 := HXY.2.cell 2 _ rfl; have d3 := HXY.2.cell 3 _ rfl; have d4 := HXY.2.cell 4 _ rfl; have d5 := HXY.2.cell 5 _ rfl; have d6 := HXY.2.cell 6 _ rfl; have d7 := HXY.2.cell 7 _ rfl; have d8 := HXY.2.cell 8 _ rfl; have d9 := HXY.2.cell 9 _ rfl; have d10 := HXY.2.cell 10 _ rfl; have d11 := HXY.2.cell 11 _ rfl; clear HXY) | (go_at_call 20; with_reducible refine (Hhfa.out _ (bstep hb2w HB.out)).mono ?_; rintro e w2 ⟨rfl, hb2⟩; replace HB := Lib.hid (bstep HB.out hb2); clear c0 c1 c2 c3 c4 c5 c6 c7 c8 c9 c10 c11 d0 d1 d2 d3 d4 d5 d6 d7 d8 d9 d10 d11; clear hb2; have HXY := hcell _ HB.out; have c0 := HXY.1.cell 0 _ rfl; have c1 := HXY.1.cell 1 _ rfl; have c2 := HXY.1.cell 2 _ rfl; have c3 := HXY.1.cell 3 _ rfl; have c4 := HXY.1.cell 4 _ rfl; have c5 := HXY.1.cell 5 _ rfl; have c6 := HXY.1.cell 6 _ rfl; have c7 := HXY.1.cell 7 _ rfl; have c8 := HXY.1.cell 8 _ rfl; have c9 := HXY.1.cell 9 _ rfl; have c10 := HXY.1.cell 10 _ rfl; have c11 := HXY.1.cell 11 _ rfl; have d0 := HXY.2.cell 0 _ rfl; have d1 := HXY.2.cell 1 _ rfl; have d2 := HXY.2.cell 2 _ rfl; have d3 := HXY.2.cell 3 _ rfl; have d4 := HXY.2.cell 4 _ rfl; have d5 := HXY.2.cell 5 _ rfl; have d6 := HXY.2.cell 6 _ rfl; have d7 := HXY.2.cell 7 _ rfl; have d8 := HXY.2.cell 8 _ rfl; have d9 := HXY.2.cell 9 _ rfl; have d10 := HXY.2.cell 10 _ rfl; have d11 := HXY.2.cell 11 _ rfl; clear HXY) | (go_at_call 20; with_reducible refine (Hhfb.out _ (bstep hb2w HB.out)).mono ?_; rintro e w2 ⟨rfl, hb2⟩; replace HB := Lib.hid (bstep HB.out hb2); clear c0 c1 c2 c3 c4 c5 c6 c7 c8 c9 c10 c11 d0 d1 d2 d3 d4 d5 d6 d7 d8 d9 d10 d11; clear hb2; have HXY := hcell _ HB.out; have c0 := HXY.1.cell 0 _ rfl; have c1 := HXY.1.cell 1 _ rfl; have c2 := HXY.1.cell 2 _ rfl; have c3 := HXY.1.cell 3 _ rfl; have c4 := HXY.1.cell 4 _ rfl; have c5 := HXY.1.cell 5 _ rfl; have c6 := HXY.1.cell 6 _ rfl; have c7 := HXY.1.cell 7 _ rfl; have c8 := HXY.1.cell 8 _ rfl; have c9 := HXY.1.cell 9 _ rfl; have c10 := HXY.1.cell 10 _ rfl; have c11 := HXY.1.cell 11 _ rfl; have d0 := HXY.2.cell 0 _ rfl; have d1 := HXY.2.cell 1 _ rfl; have d2 := HXY.2.cell 2 _ rfl; have d3 := HXY.2.cell 3 _ rfl; have d4 := HXY.2.cell 4 _ rfl; have d5 := HXY.2.cell 5 _ rfl; have d6 := HXY.2.cell 6 _ rfl; have d7 := HXY.2.cell 7 _ rfl; have d8 := HXY.2.cell 8 _ rfl; have d9 := HXY.2.cell 9 _ rfl; have d10 := HXY.2.cell 10 _ rfl; have d11 := HXY.2.cell 11 _ rfl; clear HXY) | (go_at_call 10; with_reducible refine (Hhpa.out _ (bstep hb2w HB.out)).mono ?_; rintro e w2 ⟨rfl, hb2⟩; replace HB := Lib.hid (bstep HB.out hb2); clear c0 c1 c2 c3 c4 c5 c6 c7 c8 c9 c10 c11 d0 d1 d2 d3 d4 d5 d6 d7 d8 d9 d10 d11; clear hb2; have HXY := hcell _ HB.out; have c0 := HXY.1.cell 0 _ rfl; have c1 := HXY.1.cell 1 _ rfl; have c2 := HXY.1.cell 2 _ rfl; have c3 := HXY.1.cell 3 _ rfl; have c4 := HXY.1.cell 4 _ rfl; have c5 := HXY.1.cell 5 _ rfl; have c6 := HXY.1.cell 6 _ rfl; have c7 := HXY.1.cell 7 _ rfl; have c8 := HXY.1.cell 8 _ rfl; have c9 := HXY.1.cell 9 _ rfl; have c10 := HXY.1.cell 10 _ rfl; have c11 := HXY.1.cell 11 _ rfl; have d0 := HXY.2.cell 0 _ rfl; have d1 := HXY.2.cell 1 _ rfl; have d2 := HXY.2.cell 2 _ rfl; have d3 := HXY.2.cell 3 _ rfl; have d4 := HXY.2.cell 4 _ rfl; have d5 := HXY.2.cell 5 _ rfl; have d6 := HXY.2.cell 6 _ rfl; have d7 := HXY.2.cell 7 _ rfl; have d8 := HXY.2.cell 8 _ rfl; have d9 := HXY.2.cell 9 _ rfl; have d10 := HXY.2.cell 10 _ rfl; have d11 := HXY.2.cell 11 _ rfl; clear HXY) | (go_at_call 10; with_reducible refine (Hhpb.out _ (bstep hb2w HB.out)).mono ?_; rintro e w2 ⟨rfl, hb2⟩; replace HB := Lib.hid (bstep HB.out hb2); clear c0 c1 c2 c3 c4 c5 c6 c7 c8 c9 c10 c11 d0 d1 d2 d3 d4 d5 d6 d7 d8 d9 d10 d11; clear hb2; have HXY := hcell _ HB.out; have c0 := HXY.1.cell 0 _ rfl; have c1 := HXY.1.cell 1 _ rfl; have c2 := HXY.1.cell 2 _ rfl; have c3 := HXY.1.cell 3 _ rfl; have c4 := HXY.1.cell 4 _ rfl; have c5 := HXY.1.cell 5 _ rfl; have c6 := HXY.1.cell 6 _ rfl; have c7 := HXY.1.cell 7 _ rfl; have c8 := HXY.1.cell 8 _ rfl; have c9 := HXY.1.cell 9 _ rfl; have c10 := HXY.1.cell 10 _ rfl; have c11 := HXY.1.cell 11 _ rfl; have d0 := HXY.2.cell 0 _ rfl; have d1 := HXY.2.cell 1 _ rfl; have d2 := HXY.2.cell 2 _ rfl; have d3 := HXY.2.cell 3 _ rfl; have d4 := HXY.2.cell 4 _ rfl; have d5 := HXY.2.cell 5 _ rfl; have d6 := HXY.2.cell 6 _ rfl; have d7 := HXY.2.cell 7 _ rfl; have d8 := HXY.2.cell 8 _ rfl; have d9 := HXY.2.cell 9 _ rfl; have d10 := HXY.2.cell 10 _ rfl; have d11 := HXY.2.cell 11 _ rfl; clear HXY) | (go_at_call 9; with_reducible refine (HhW.out _ (bstep hb2w HB.out)).mono ?_; rintro e w2 ⟨rfl, hb2⟩; replace HB := Lib.hid (bstep HB.out hb2); clear c0 c1 c2 c3 c4 c5 c6 c7 c8 c9 c10 c11 d0 d1 d2 d3 d4 d5 d6 d7 d8 d9 d10 d11; clear hb2; have HXY := hcell _ HB.out; have c0 := HXY.1.cell 0 _ rfl; have c1 := HXY.1.cell 1 _ rfl; have c2 := HXY.1.cell 2 _ rfl; have c3 := HXY.1.cell 3 _ rfl; have c4 := HXY.1.cell 4 _ rfl; have c5 := HXY.1.cell 5 _ rfl; have c6 := HXY.1.cell 6 _ rfl; have c7 := HXY.1.cell 7 _ rfl; have c8 := HXY.1.cell 8 _ rfl; have c9 := HXY.1.cell 9 _ rfl; have c10 := HXY.1.cell 10 _ rfl; have c11 := HXY.1.cell 11 _ rfl; have d0 := HXY.2.cell 0 _ rfl; have d1 := HXY.2.cell 1 _ rfl; have d2 := HXY.2.cell 2 _ rfl; have d3 := HXY.2.cell 3 _ rfl; have d4 := HXY.2.cell 4 _ rfl; have d5 := HXY.2.cell 5 _ rfl; have d6 := HXY.2.cell 6 _ rfl; have d7 := HXY.2.cell 7 _ rfl; have d8 := HXY.2.cell 8 _ rfl; have d9 := HXY.2.cell 9 _ rfl; have d10 := HXY.2.cell 10 _ rfl; have d11 := HXY.2.cell 11 _ rfl; clear HXY))
  go_ret
  exact ⟨rfl, bstep hb2w HB.out⟩
set_option maxRecDepth 100000 in
set_option maxHeartbeats 16000000 in
theorem te_7 (xk xmn xmx xkd : Int) (xbd : Bool) (xbn : Int) (xsc : Value) (xnm : ByteArray) (xsk : Value) (xwi : Int) (xsh xse : Value) (yk ymn ymx ykd : Int) (ybd : Bool) (ybn : Int) (ysc : Value) (ynm : ByteArray) (ysk : Value) (ywi : Int) (ysh yse : Value) (w : World) (la : Bool) (lb : Bool) (fa : Int) (fb : Int) (sa : ByteArray) (ea : Int) (sb : ByteArray) (eb : Int) (M : Nat) (z : Bool)
    (hla : ∀ w1, Below w.heap.size w w1 → Calls Tryz.prog 8 #[.agg #[.int .i64 xk, .int .i64 xmn, .int .i64 xmx, .int .i64 xkd, .bool xbd, .int .u64 xbn, xsc, .string xnm, xsk, .int .u64 xwi, xsh, xse]] w1 fun e w' => e = .returned (.bool la) ∧ Below w1.heap.size w1 w')
    (hlb : ∀ w1, Below w.heap.size w w1 → Calls Tryz.prog 8 #[.agg #[.int .i64 yk, .int .i64 ymn, .int .i64 ymx, .int .i64 ykd, .bool ybd, .int .u64 ybn, ysc, .string ynm, ysk, .int .u64 ywi, ysh, yse]] w1 fun e w' => e = .returned (.bool lb) ∧ Below w1.heap.size w1 w')
    (hfa : ∀ w1, Below w.heap.size w w1 → Calls Tryz.prog 20 #[.agg #[.int .i64 xk, .int .i64 xmn, .int .i64 xmx, .int .i64 xkd, .bool xbd, .int .u64 xbn, xsc, .string xnm, xsk], .int .i64 40, .int .i64 1] w1 fun e w' => e = .returned (.int .i64 fa) ∧ Below w1.heap.size w1 w')
    (hfb : ∀ w1, Below w.heap.size w w1 → Calls Tryz.prog 20 #[.agg #[.int .i64 yk, .int .i64 ymn, .int .i64 ymx, .int .i64 ykd, .bool ybd, .int .u64 ybn, ysc, .string ynm, ysk], .int .i64 40, .int .i64 1] w1 fun e w' => e = .returned (.int .i64 fb) ∧ Below w1.heap.size w1 w')
    (hpa : ∀ w1, Below w.heap.size w w1 → Calls Tryz.prog 10 #[.agg #[.int .i64 xk, .int .i64 xmn, .int .i64 xmx, .int .i64 xkd, .bool xbd, .int .u64 xbn, xsc, .string xnm, xsk, .int .u64 xwi, xsh, xse]] w1 fun e w' => e = .returned (.tuple #[.string sa, .int .i64 ea]) ∧ Below w1.heap.size w1 w')
    (hpb : ∀ w1, Below w.heap.size w w1 → Calls Tryz.prog 10 #[.agg #[.int .i64 yk, .int .i64 ymn, .int .i64 ymx, .int .i64 ykd, .bool ybd, .int .u64 ybn, ysc, .string ynm, ysk, .int .u64 ywi, ysh, yse]] w1 fun e w' => e = .returned (.tuple #[.string sb, .int .i64 eb]) ∧ Below w1.heap.size w1 w')
    (hat : ∀ w1, Below w.heap.size w w1 → Calls Tryz.prog 21 #[.agg #[.int .i64 xk, .int .i64 xmn, .int .i64 xmx, .int .i64 xkd, .bool xbd, .int .u64 xbn, xsc, .string xnm, xsk]] w1 fun e w' => (∃ (A : Option Addr) (c : Nat), e = .returned (.tuple #[.slice A M c, .int .i64 0])) ∧ Below w1.heap.size w1 w')
    (hsm : ∀ w1, Below w.heap.size w w1 → Calls Tryz.prog 31 #[.agg #[.int .i64 xk, .int .i64 xmn, .int .i64 xmx, .int .i64 xkd, .bool xbd, .int .u64 xbn, xsc, .string xnm, xsk, .int .u64 xwi, xsh, xse], .agg #[.int .i64 yk, .int .i64 ymn, .int .i64 ymx, .int .i64 ykd, .bool ybd, .int .u64 ybn, ysc, .string ynm, ysk, .int .u64 ywi, ysh, yse]] w1 fun e w' => e = .returned (.bool z) ∧ Below w1.heap.size w1 w')
    (hW : ∀ w1, Below w.heap.size w w1 → Calls Tryz.prog 9 #[] w1 fun e w' => e = .returned (.bool true) ∧ Below w1.heap.size w1 w')
    (h1 : la = true) (h2 : lb = true) (h3 : ¬ fa < 0) (h4 : ¬ fb < 0) (h5 : ea = 0) (h6 : eb = 0) (hsz : sa.size ≤ 1000000) (hM : cntL sa.data.toList = M) (hz : (sa.toList == sb.toList) = z) :
    Calls Tryz.prog 6 #[.agg #[.int .i64 xk, .int .i64 xmn, .int .i64 xmx, .int .i64 xkd, .bool xbd, .int .u64 xbn, xsc, .string xnm, xsk, .int .u64 xwi, xsh, xse], .agg #[.int .i64 yk, .int .i64 ymn, .int .i64 ymx, .int .i64 ykd, .bool ybd, .int .u64 ybn, ysc, .string ynm, ysk, .int .u64 ywi, ysh, yse]] w fun e w' => e = .returned (.bool true) ∧ Below w.heap.size w w' := by
  obtain ⟨W, hWW⟩ : ∃ W, W = (w.alloc (.cells #[.int .i64 xk, .int .i64 xmn, .int .i64 xmx, .int .i64 xkd, .bool xbd, .int .u64 xbn, xsc, .string xnm, xsk, .int .u64 xwi, xsh, xse] 32)).alloc (.cells #[.int .i64 yk, .int .i64 ymn, .int .i64 ymx, .int .i64 ykd, .bool ybd, .int .u64 ybn, ysc, .string ynm, ysk, .int .u64 ywi, ysh, yse] 32) := ⟨_, rfl⟩
  have hb2w : Below w.heap.size w W := hWW ▸ b2 _ _ _
  have hX : Blk W w.heap.size [.int .i64 xk, .int .i64 xmn, .int .i64 xmx, .int .i64 xkd, .bool xbd, .int .u64 xbn, xsc, .string xnm, xsk, .int .u64 xwi, xsh, xse] := by rw [hWW]; exact (Blk.new w [.int .i64 xk, .int .i64 xmn, .int .i64 xmx, .int .i64 xkd, .bool xbd, .int .u64 xbn, xsc, .string xnm, xsk, .int .u64 xwi, xsh, xse] 32).alloc _
  have hY : Blk W (w.heap.size + 1) [.int .i64 yk, .int .i64 ymn, .int .i64 ymx, .int .i64 ykd, .bool ybd, .int .u64 ybn, ysc, .string ynm, ysk, .int .u64 ywi, ysh, yse] := by rw [hWW]; exact Blk.is (us := [.int .i64 yk, .int .i64 ymn, .int .i64 ymx, .int .i64 ykd, .bool ybd, .int .u64 ybn, ysc, .string ynm, ysk, .int .u64 ywi, ysh, yse]) _ (by simp)
  have hcell : ∀ w1, Below W.heap.size W w1 → Blk w1 w.heap.size [.int .i64 xk, .int .i64 xmn, .int .i64 xmx, .int .i64 xkd, .bool xbd, .int .u64 xbn, xsc, .string xnm, xsk, .int .u64 xwi, xsh, xse] ∧ Blk w1 (w.heap.size + 1) [.int .i64 yk, .int .i64 ymn, .int .i64 ymx, .int .i64 ykd, .bool ybd, .int .u64 ybn, ysc, .string ynm, ysk, .int .u64 ywi, ysh, yse] := fun w1 hb => ⟨hX.later hb, hY.later hb⟩
  clear hX hY
  have Hhla := Lib.hid hla
  have Hhlb := Lib.hid hlb
  have Hhfa := Lib.hid hfa
  have Hhfb := Lib.hid hfb
  have Hhpa := Lib.hid hpa
  have Hhpb := Lib.hid hpb
  have Hhat := Lib.hid hat
  have Hhsm := Lib.hid hsm
  have HhW := Lib.hid hW
  clear hla hlb hfa hfb hpa hpb hat hsm hW
  subst h1
  subst h2
  subst h5
  subst h6
  have HM := Lib.hid hM
  have hMM : ((M : Int) == (M : Int)) = true := by simp
  have hzz : (z == z) = true := by simp
  clear hM
  go_enter Tryz.func6, Tryz.ntmps6
  go_wp2_with fail
  rw [← hWW]
  clear hWW
  go_wp2_with (first | (go_at_call 8; with_reducible refine (Hhla.out _ hb2w).mono ?_; rintro e w2 ⟨rfl, hb2⟩; have HB := Lib.hid hb2; clear hb2; have HXY := hcell _ HB.out; have c0 := HXY.1.cell 0 _ rfl; have c1 := HXY.1.cell 1 _ rfl; have c2 := HXY.1.cell 2 _ rfl; have c3 := HXY.1.cell 3 _ rfl; have c4 := HXY.1.cell 4 _ rfl; have c5 := HXY.1.cell 5 _ rfl; have c6 := HXY.1.cell 6 _ rfl; have c7 := HXY.1.cell 7 _ rfl; have c8 := HXY.1.cell 8 _ rfl; have c9 := HXY.1.cell 9 _ rfl; have c10 := HXY.1.cell 10 _ rfl; have c11 := HXY.1.cell 11 _ rfl; have d0 := HXY.2.cell 0 _ rfl; have d1 := HXY.2.cell 1 _ rfl; have d2 := HXY.2.cell 2 _ rfl; have d3 := HXY.2.cell 3 _ rfl; have d4 := HXY.2.cell 4 _ rfl; have d5 := HXY.2.cell 5 _ rfl; have d6 := HXY.2.cell 6 _ rfl; have d7 := HXY.2.cell 7 _ rfl; have d8 := HXY.2.cell 8 _ rfl; have d9 := HXY.2.cell 9 _ rfl; have d10 := HXY.2.cell 10 _ rfl; have d11 := HXY.2.cell 11 _ rfl; clear HXY) | (go_at_call 8; with_reducible refine (Hhlb.out _ (bstep hb2w HB.out)).mono ?_; rintro e w2 ⟨rfl, hb2⟩; replace HB := Lib.hid (bstep HB.out hb2); clear c0 c1 c2 c3 c4 c5 c6 c7 c8 c9 c10 c11 d0 d1 d2 d3 d4 d5 d6 d7 d8 d9 d10 d11; clear hb2; have HXY := hcell _ HB.out; have c0 := HXY.1.cell 0 _ rfl; have c1 := HXY.1.cell 1 _ rfl; have c2 := HXY.1.cell 2 _ rfl; have c3 := HXY.1.cell 3 _ rfl; have c4 := HXY.1.cell 4 _ rfl; have c5 := HXY.1.cell 5 _ rfl; have c6 := HXY.1.cell 6 _ rfl; have c7 := HXY.1.cell 7 _ rfl; have c8 := HXY.1.cell 8 _ rfl; have c9 := HXY.1.cell 9 _ rfl; have c10 := HXY.1.cell 10 _ rfl; have c11 := HXY.1.cell 11 _ rfl; have d0 := HXY.2.cell 0 _ rfl; have d1 := HXY.2.cell 1 _ rfl; have d2 := HXY.2.cell 2 _ rfl; have d3 := HXY.2.cell 3 _ rfl; have d4 := HXY.2.cell 4 _ rfl; have d5 := HXY.2.cell 5 _ rfl; have d6 := HXY.2.cell 6 _ rfl; have d7 := HXY.2.cell 7 _ rfl; have d8 := HXY.2.cell 8 _ rfl; have d9 := HXY.2.cell 9 _ rfl; have d10 := HXY.2.cell 10 _ rfl; have d11 := HXY.2.cell 11 _ rfl; clear HXY) | (go_at_call 20; with_reducible refine (Hhfa.out _ (bstep hb2w HB.out)).mono ?_; rintro e w2 ⟨rfl, hb2⟩; replace HB := Lib.hid (bstep HB.out hb2); clear c0 c1 c2 c3 c4 c5 c6 c7 c8 c9 c10 c11 d0 d1 d2 d3 d4 d5 d6 d7 d8 d9 d10 d11; clear hb2; have HXY := hcell _ HB.out; have c0 := HXY.1.cell 0 _ rfl; have c1 := HXY.1.cell 1 _ rfl; have c2 := HXY.1.cell 2 _ rfl; have c3 := HXY.1.cell 3 _ rfl; have c4 := HXY.1.cell 4 _ rfl; have c5 := HXY.1.cell 5 _ rfl; have c6 := HXY.1.cell 6 _ rfl; have c7 := HXY.1.cell 7 _ rfl; have c8 := HXY.1.cell 8 _ rfl; have c9 := HXY.1.cell 9 _ rfl; have c10 := HXY.1.cell 10 _ rfl; have c11 := HXY.1.cell 11 _ rfl; have d0 := HXY.2.cell 0 _ rfl; have d1 := HXY.2.cell 1 _ rfl; have d2 := HXY.2.cell 2 _ rfl; have d3 := HXY.2.cell 3 _ rfl; have d4 := HXY.2.cell 4 _ rfl; have d5 := HXY.2.cell 5 _ rfl; have d6 := HXY.2.cell 6 _ rfl; have d7 := HXY.2.cell 7 _ rfl; have d8 := HXY.2.cell 8 _ rfl; have d9 := HXY.2.cell 9 _ rfl; have d10 := HXY.2.cell 10 _ rfl; have d11 := HXY.2.cell 11 _ rfl; clear HXY) | (go_at_call 20; with_reducible refine (Hhfb.out _ (bstep hb2w HB.out)).mono ?_; rintro e w2 ⟨rfl, hb2⟩; replace HB := Lib.hid (bstep HB.out hb2); clear c0 c1 c2 c3 c4 c5 c6 c7 c8 c9 c10 c11 d0 d1 d2 d3 d4 d5 d6 d7 d8 d9 d10 d11; clear hb2; have HXY := hcell _ HB.out; have c0 := HXY.1.cell 0 _ rfl; have c1 := HXY.1.cell 1 _ rfl; have c2 := HXY.1.cell 2 _ rfl; have c3 := HXY.1.cell 3 _ rfl; have c4 := HXY.1.cell 4 _ rfl; have c5 := HXY.1.cell 5 _ rfl; have c6 := HXY.1.cell 6 _ rfl; have c7 := HXY.1.cell 7 _ rfl; have c8 := HXY.1.cell 8 _ rfl; have c9 := HXY.1.cell 9 _ rfl; have c10 := HXY.1.cell 10 _ rfl; have c11 := HXY.1.cell 11 _ rfl; have d0 := HXY.2.cell 0 _ rfl; have d1 := HXY.2.cell 1 _ rfl; have d2 := HXY.2.cell 2 _ rfl; have d3 := HXY.2.cell 3 _ rfl; have d4 := HXY.2.cell 4 _ rfl; have d5 := HXY.2.cell 5 _ rfl; have d6 := HXY.2.cell 6 _ rfl; have d7 := HXY.2.cell 7 _ rfl; have d8 := HXY.2.cell 8 _ rfl; have d9 := HXY.2.cell 9 _ rfl; have d10 := HXY.2.cell 10 _ rfl; have d11 := HXY.2.cell 11 _ rfl; clear HXY) | (go_at_call 10; with_reducible refine (Hhpa.out _ (bstep hb2w HB.out)).mono ?_; rintro e w2 ⟨rfl, hb2⟩; replace HB := Lib.hid (bstep HB.out hb2); clear c0 c1 c2 c3 c4 c5 c6 c7 c8 c9 c10 c11 d0 d1 d2 d3 d4 d5 d6 d7 d8 d9 d10 d11; clear hb2; have HXY := hcell _ HB.out; have c0 := HXY.1.cell 0 _ rfl; have c1 := HXY.1.cell 1 _ rfl; have c2 := HXY.1.cell 2 _ rfl; have c3 := HXY.1.cell 3 _ rfl; have c4 := HXY.1.cell 4 _ rfl; have c5 := HXY.1.cell 5 _ rfl; have c6 := HXY.1.cell 6 _ rfl; have c7 := HXY.1.cell 7 _ rfl; have c8 := HXY.1.cell 8 _ rfl; have c9 := HXY.1.cell 9 _ rfl; have c10 := HXY.1.cell 10 _ rfl; have c11 := HXY.1.cell 11 _ rfl; have d0 := HXY.2.cell 0 _ rfl; have d1 := HXY.2.cell 1 _ rfl; have d2 := HXY.2.cell 2 _ rfl; have d3 := HXY.2.cell 3 _ rfl; have d4 := HXY.2.cell 4 _ rfl; have d5 := HXY.2.cell 5 _ rfl; have d6 := HXY.2.cell 6 _ rfl; have d7 := HXY.2.cell 7 _ rfl; have d8 := HXY.2.cell 8 _ rfl; have d9 := HXY.2.cell 9 _ rfl; have d10 := HXY.2.cell 10 _ rfl; have d11 := HXY.2.cell 11 _ rfl; clear HXY) | (go_at_call 10; with_reducible refine (Hhpb.out _ (bstep hb2w HB.out)).mono ?_; rintro e w2 ⟨rfl, hb2⟩; replace HB := Lib.hid (bstep HB.out hb2); clear c0 c1 c2 c3 c4 c5 c6 c7 c8 c9 c10 c11 d0 d1 d2 d3 d4 d5 d6 d7 d8 d9 d10 d11; clear hb2; have HXY := hcell _ HB.out; have c0 := HXY.1.cell 0 _ rfl; have c1 := HXY.1.cell 1 _ rfl; have c2 := HXY.1.cell 2 _ rfl; have c3 := HXY.1.cell 3 _ rfl; have c4 := HXY.1.cell 4 _ rfl; have c5 := HXY.1.cell 5 _ rfl; have c6 := HXY.1.cell 6 _ rfl; have c7 := HXY.1.cell 7 _ rfl; have c8 := HXY.1.cell 8 _ rfl; have c9 := HXY.1.cell 9 _ rfl; have c10 := HXY.1.cell 10 _ rfl; have c11 := HXY.1.cell 11 _ rfl; have d0 := HXY.2.cell 0 _ rfl; have d1 := HXY.2.cell 1 _ rfl; have d2 := HXY.2.cell 2 _ rfl; have d3 := HXY.2.cell 3 _ rfl; have d4 := HXY.2.cell 4 _ rfl; have d5 := HXY.2.cell 5 _ rfl; have d6 := HXY.2.cell 6 _ rfl; have d7 := HXY.2.cell 7 _ rfl; have d8 := HXY.2.cell 8 _ rfl; have d9 := HXY.2.cell 9 _ rfl; have d10 := HXY.2.cell 10 _ rfl; have d11 := HXY.2.cell 11 _ rfl; clear HXY) | (go_at_call 21; with_reducible refine (Hhat.out _ (bstep hb2w HB.out)).mono ?_; rintro e w2 ⟨⟨A, c, rfl⟩, hb2⟩; replace HB := Lib.hid (bstep HB.out hb2); clear c0 c1 c2 c3 c4 c5 c6 c7 c8 c9 c10 c11 d0 d1 d2 d3 d4 d5 d6 d7 d8 d9 d10 d11; clear hb2; have HXY := hcell _ HB.out; have c0 := HXY.1.cell 0 _ rfl; have c1 := HXY.1.cell 1 _ rfl; have c2 := HXY.1.cell 2 _ rfl; have c3 := HXY.1.cell 3 _ rfl; have c4 := HXY.1.cell 4 _ rfl; have c5 := HXY.1.cell 5 _ rfl; have c6 := HXY.1.cell 6 _ rfl; have c7 := HXY.1.cell 7 _ rfl; have c8 := HXY.1.cell 8 _ rfl; have c9 := HXY.1.cell 9 _ rfl; have c10 := HXY.1.cell 10 _ rfl; have c11 := HXY.1.cell 11 _ rfl; have d0 := HXY.2.cell 0 _ rfl; have d1 := HXY.2.cell 1 _ rfl; have d2 := HXY.2.cell 2 _ rfl; have d3 := HXY.2.cell 3 _ rfl; have d4 := HXY.2.cell 4 _ rfl; have d5 := HXY.2.cell 5 _ rfl; have d6 := HXY.2.cell 6 _ rfl; have d7 := HXY.2.cell 7 _ rfl; have d8 := HXY.2.cell 8 _ rfl; have d9 := HXY.2.cell 9 _ rfl; have d10 := HXY.2.cell 10 _ rfl; have d11 := HXY.2.cell 11 _ rfl; clear HXY) | (go_at_call 31; with_reducible refine (Hhsm.out _ (bstep hb2w HB.out)).mono ?_; rintro e w2 ⟨rfl, hb2⟩; replace HB := Lib.hid (bstep HB.out hb2); clear c0 c1 c2 c3 c4 c5 c6 c7 c8 c9 c10 c11 d0 d1 d2 d3 d4 d5 d6 d7 d8 d9 d10 d11; clear hb2; have HXY := hcell _ HB.out; have c0 := HXY.1.cell 0 _ rfl; have c1 := HXY.1.cell 1 _ rfl; have c2 := HXY.1.cell 2 _ rfl; have c3 := HXY.1.cell 3 _ rfl; have c4 := HXY.1.cell 4 _ rfl; have c5 := HXY.1.cell 5 _ rfl; have c6 := HXY.1.cell 6 _ rfl; have c7 := HXY.1.cell 7 _ rfl; have c8 := HXY.1.cell 8 _ rfl; have c9 := HXY.1.cell 9 _ rfl; have c10 := HXY.1.cell 10 _ rfl; have c11 := HXY.1.cell 11 _ rfl; have d0 := HXY.2.cell 0 _ rfl; have d1 := HXY.2.cell 1 _ rfl; have d2 := HXY.2.cell 2 _ rfl; have d3 := HXY.2.cell 3 _ rfl; have d4 := HXY.2.cell 4 _ rfl; have d5 := HXY.2.cell 5 _ rfl; have d6 := HXY.2.cell 6 _ rfl; have d7 := HXY.2.cell 7 _ rfl; have d8 := HXY.2.cell 8 _ rfl; have d9 := HXY.2.cell 9 _ rfl; have d10 := HXY.2.cell 10 _ rfl; have d11 := HXY.2.cell 11 _ rfl; clear HXY) | (go_at_call 9; with_reducible refine (HhW.out _ (bstep hb2w HB.out)).mono ?_; rintro e w2 ⟨rfl, hb2⟩; replace HB := Lib.hid (bstep HB.out hb2); clear c0 c1 c2 c3 c4 c5 c6 c7 c8 c9 c10 c11 d0 d1 d2 d3 d4 d5 d6 d7 d8 d9 d10 d11; clear hb2; have HXY := hcell _ HB.out; have c0 := HXY.1.cell 0 _ rfl; have c1 := HXY.1.cell 1 _ rfl; have c2 := HXY.1.cell 2 _ rfl; have c3 := HXY.1.cell 3 _ rfl; have c4 := HXY.1.cell 4 _ rfl; have c5 := HXY.1.cell 5 _ rfl; have c6 := HXY.1.cell 6 _ rfl; have c7 := HXY.1.cell 7 _ rfl; have c8 := HXY.1.cell 8 _ rfl; have c9 := HXY.1.cell 9 _ rfl; have c10 := HXY.1.cell 10 _ rfl; have c11 := HXY.1.cell 11 _ rfl; have d0 := HXY.2.cell 0 _ rfl; have d1 := HXY.2.cell 1 _ rfl; have d2 := HXY.2.cell 2 _ rfl; have d3 := HXY.2.cell 3 _ rfl; have d4 := HXY.2.cell 4 _ rfl; have d5 := HXY.2.cell 5 _ rfl; have d6 := HXY.2.cell 6 _ rfl; have d7 := HXY.2.cell 7 _ rfl; have d8 := HXY.2.cell 8 _ rfl; have d9 := HXY.2.cell 9 _ rfl; have d10 := HXY.2.cell 10 _ rfl; have d11 := HXY.2.cell 11 _ rfl; clear HXY))
  go_loopg [10, 11] sa.size (fun g lv iv wr => ∃ (i n : Nat), i ≤ sa.size ∧ g = sa.size - i ∧ iv = .int .i64 (i : Int) ∧ lv = .int .i64 ((cntL (sa.data.toList.take i) : Nat) : Int) ∧ wr = w2.drewN n)
  case atStart => exact ⟨0, 0, Nat.zero_le _, rfl, rfl, rfl, rfl⟩
  case round =>
    obtain ⟨i, n, hi, hg, rfl, rfl, rfl⟩ := hrel
    by_cases hz : i < sa.size
    · have g1 : (i : Int) < (sa.size : Int) := by omega
      have hwi : IntKind.i64.wrap ((i : Int) + 1) = (i : Int) + 1 := IntWalk.i64_in _ ⟨by omega, by omega⟩
      have hcs := cnt_succ sa i hz
      have hcl := cnt_le (sa.data.toList.take i)
      rw [List.length_take] at hcl
      obtain ⟨K, hK⟩ : ∃ K, K = cntL (sa.data.toList.take i) := ⟨_, rfl⟩
      rw [← hK] at hcs hcl ⊢
      have hwK : IntKind.i64.wrap ((K : Int) + 1) = (K : Int) + 1 := IntWalk.i64_in _ ⟨by omega, by omega⟩
      clear hK
      by_cases p : 65 ≤ (sa[i]'hz).toNat
      · by_cases r : (sa[i]'hz).toNat ≤ 90
        · have hb : largeB (sa[i]'hz) = true := by unfold largeB; rw [decide_eq_true p, decide_eq_true r]; rfl
          rw [hb, if_pos rfl] at hcs
          have p1 : (65 : Int) ≤ ((sa[i]'hz).toNat : Int) := by omega
          have r1 : ((sa[i]'hz).toNat : Int) ≤ 90 := by omega
          have HCS := Lib.hid hcs
          clear hcs hb hcl
          go_wp2
          go_roundg (sa.size - (i + 1))
          case rel => exact ⟨i + 1, n, by omega, rfl, by go_num, by rw [HCS.out]; rfl, rfl⟩
          case measure => omega
        · have hb : largeB (sa[i]'hz) = false := by unfold largeB; rw [decide_eq_false r, Bool.and_false]
          rw [hb, if_neg (by decide)] at hcs
          have p1 : (65 : Int) ≤ ((sa[i]'hz).toNat : Int) := by omega
          have r1 : ¬ ((sa[i]'hz).toNat : Int) ≤ 90 := by omega
          have HCS := Lib.hid hcs
          clear hcs hb hcl
          go_wp2
          go_roundg (sa.size - (i + 1))
          case rel => exact ⟨i + 1, n, by omega, rfl, by go_num, by rw [HCS.out]; rfl, rfl⟩
          case measure => omega
      · have hb : largeB (sa[i]'hz) = false := by unfold largeB; rw [decide_eq_false p]; rfl
        rw [hb, if_neg (by decide)] at hcs
        have p1 : ¬ (65 : Int) ≤ ((sa[i]'hz).toNat : Int) := by omega
        have HCS := Lib.hid hcs
        clear hcs hb hcl
        go_wp2
        go_roundg (sa.size - (i + 1))
        case rel => exact ⟨i + 1, n, by omega, rfl, by go_num, by rw [HCS.out]; rfl, rfl⟩
        case measure => omega
    · have g1 : ¬ (i : Int) < (sa.size : Int) := by omega
      have hil : i = sa.size := by omega
      subst hil
      have hcs : cntL (sa.data.toList.take sa.size) = M := by rw [List.take_of_length_le (by rw [Array.length_toList]; exact Nat.le_refl _)]; exact HM.out
      rw [hcs]
      clear hcs
      replace HB := Lib.hid (below_drewN HB.out n)
      clear c0 c1 c2 c3 c4 c5 c6 c7 c8 c9 c10 c11 d0 d1 d2 d3 d4 d5 d6 d7 d8 d9 d10 d11
      have HXY := hcell _ HB.out; have c0 := HXY.1.cell 0 _ rfl; have c1 := HXY.1.cell 1 _ rfl; have c2 := HXY.1.cell 2 _ rfl; have c3 := HXY.1.cell 3 _ rfl; have c4 := HXY.1.cell 4 _ rfl; have c5 := HXY.1.cell 5 _ rfl; have c6 := HXY.1.cell 6 _ rfl; have c7 := HXY.1.cell 7 _ rfl; have c8 := HXY.1.cell 8 _ rfl; have c9 := HXY.1.cell 9 _ rfl; have c10 := HXY.1.cell 10 _ rfl; have c11 := HXY.1.cell 11 _ rfl; have d0 := HXY.2.cell 0 _ rfl; have d1 := HXY.2.cell 1 _ rfl; have d2 := HXY.2.cell 2 _ rfl; have d3 := HXY.2.cell 3 _ rfl; have d4 := HXY.2.cell 4 _ rfl; have d5 := HXY.2.cell 5 _ rfl; have d6 := HXY.2.cell 6 _ rfl; have d7 := HXY.2.cell 7 _ rfl; have d8 := HXY.2.cell 8 _ rfl; have d9 := HXY.2.cell 9 _ rfl; have d10 := HXY.2.cell 10 _ rfl; have d11 := HXY.2.cell 11 _ rfl; clear HXY
      go_wp2_with (first | (go_at_call 31; with_reducible refine (Hhsm.out _ (bstep hb2w HB.out)).mono ?_; rintro e w2 ⟨rfl, hb2⟩; replace HB := Lib.hid (bstep HB.out hb2); clear c0 c1 c2 c3 c4 c5 c6 c7 c8 c9 c10 c11 d0 d1 d2 d3 d4 d5 d6 d7 d8 d9 d10 d11; clear hb2; have HXY := hcell _ HB.out; have c0 := HXY.1.cell 0 _ rfl; have c1 := HXY.1.cell 1 _ rfl; have c2 := HXY.1.cell 2 _ rfl; have c3 := HXY.1.cell 3 _ rfl; have c4 := HXY.1.cell 4 _ rfl; have c5 := HXY.1.cell 5 _ rfl; have c6 := HXY.1.cell 6 _ rfl; have c7 := HXY.1.cell 7 _ rfl; have c8 := HXY.1.cell 8 _ rfl; have c9 := HXY.1.cell 9 _ rfl; have c10 := HXY.1.cell 10 _ rfl; have c11 := HXY.1.cell 11 _ rfl; have d0 := HXY.2.cell 0 _ rfl; have d1 := HXY.2.cell 1 _ rfl; have d2 := HXY.2.cell 2 _ rfl; have d3 := HXY.2.cell 3 _ rfl; have d4 := HXY.2.cell 4 _ rfl; have d5 := HXY.2.cell 5 _ rfl; have d6 := HXY.2.cell 6 _ rfl; have d7 := HXY.2.cell 7 _ rfl; have d8 := HXY.2.cell 8 _ rfl; have d9 := HXY.2.cell 9 _ rfl; have d10 := HXY.2.cell 10 _ rfl; have d11 := HXY.2.cell 11 _ rfl; clear HXY) | (go_at_call 9; with_reducible refine (HhW.out _ (bstep hb2w HB.out)).mono ?_; rintro e w2 ⟨rfl, hb2⟩; replace HB := Lib.hid (bstep HB.out hb2); clear c0 c1 c2 c3 c4 c5 c6 c7 c8 c9 c10 c11 d0 d1 d2 d3 d4 d5 d6 d7 d8 d9 d10 d11; clear hb2; have HXY := hcell _ HB.out; have c0 := HXY.1.cell 0 _ rfl; have c1 := HXY.1.cell 1 _ rfl; have c2 := HXY.1.cell 2 _ rfl; have c3 := HXY.1.cell 3 _ rfl; have c4 := HXY.1.cell 4 _ rfl; have c5 := HXY.1.cell 5 _ rfl; have c6 := HXY.1.cell 6 _ rfl; have c7 := HXY.1.cell 7 _ rfl; have c8 := HXY.1.cell 8 _ rfl; have c9 := HXY.1.cell 9 _ rfl; have c10 := HXY.1.cell 10 _ rfl; have c11 := HXY.1.cell 11 _ rfl; have d0 := HXY.2.cell 0 _ rfl; have d1 := HXY.2.cell 1 _ rfl; have d2 := HXY.2.cell 2 _ rfl; have d3 := HXY.2.cell 3 _ rfl; have d4 := HXY.2.cell 4 _ rfl; have d5 := HXY.2.cell 5 _ rfl; have d6 := HXY.2.cell 6 _ rfl; have d7 := HXY.2.cell 7 _ rfl; have d8 := HXY.2.cell 8 _ rfl; have d9 := HXY.2.cell 9 _ rfl; have d10 := HXY.2.cell 10 _ rfl; have d11 := HXY.2.cell 11 _ rfl; clear HXY))
      go_ret
      exact ⟨rfl, bstep hb2w HB.out⟩
theorem qrow_te (k mn mx kd : Int) (bd : Bool) (bn : Int) (cs : List Cn) (nm : List UInt8) (sc sk : Value) (ks : List Tr) (wi : Int) (sh : Value) (hv : List Hv) (se : Value) (em : List Ag) : (GQ.row ⟨.mk k mn mx ⟨⟨kd, bd, bn, cs, nm⟩, sc⟩ sk ks, wi, sh, hv, se, em⟩).toArray = #[.int .i64 k, .int .i64 mn, .int .i64 mx, .int .i64 kd, .bool bd, .int .u64 bn, sc, .string (strOf nm), sk, .int .u64 wi, sh, se] := rfl
theorem ltexts_any (a b : GQ) (w : World) (hL : Lay w) (ha : QW w a) (hb : QW w b) :
    Calls Tryz.prog 6 #[.agg a.row.toArray, .agg b.row.toArray] w fun e w' => e = .returned (.bool true) ∧ Below w.heap.size w w' := by
  have hla := fun w' (hb' : Below w.heap.size w w') => light_any a w' (ha.later hb')
  have hlb := fun w' (hb' : Below w.heap.size w w') => light_any b w' (hb.later hb')
  have hfa := fun w1 (hb' : Below w.heap.size w w1) => few_any a.t 40 1 w1 (ha.tr.later hb') ⟨by omega, by omega⟩ (by omega)
  have hfb := fun w1 (hb' : Below w.heap.size w w1) => few_any b.t 40 1 w1 (hb.tr.later hb') ⟨by omega, by omega⟩ (by omega)
  have hW := fun w' (hb' : Below w.heap.size w w') => awake_any w' (hL.later hb')
  have hsm := fun w' (hb' : Below w.heap.size w w') => sameq_any a b w' (ha.later hb') (hb.later hb')
  have row9 : ∀ q : GQ, ∃ k mn mx kd bd bn cs nm sc sk ks wi sh hv se em, q = ⟨.mk k mn mx ⟨⟨kd, bd, bn, cs, nm⟩, sc⟩ sk ks, wi, sh, hv, se, em⟩ := fun q => by
    obtain ⟨⟨k, mn, mx, ⟨⟨kd, bd, bn, cs, nm⟩, sc⟩, sk, ks⟩, wi, sh, hv, se, em⟩ := q
    exact ⟨_, _, _, _, _, _, _, _, _, _, _, _, _, _, _, _, rfl⟩
  cases hA : lightB a.qu with
  | false =>
    rw [hA] at hla
    clear hA ha hb hlb hfa hfb hsm
    obtain ⟨xk, xmn, xmx, xkd, xbd, xbn, xcs, xnm, xsc, xsk, xks, xwi, xsh, xhv, xse, xem, rfl⟩ := row9 a
    obtain ⟨yk, ymn, ymx, ykd, ybd, ybn, ycs, ynm, ysc, ysk, yks, ywi, ysh, yhv, yse, yem, rfl⟩ := row9 b
    simp only [qrow_te] at hla ⊢
    exact te_1 _ _ _ _ _ _ _ _ _ _ _ _ _ _ _ _ _ _ _ _ _ _ _ _ w _ hla hW rfl
  | true =>
    obtain ⟨⟨ka, -⟩, kb, kc⟩ := light_small ha hA
    rw [hA] at hla
    cases hB : lightB b.qu with
    | false =>
      rw [hB] at hlb
      clear hA ha hb hfa hfb hsm hB kb kc ka
      obtain ⟨xk, xmn, xmx, xkd, xbd, xbn, xcs, xnm, xsc, xsk, xks, xwi, xsh, xhv, xse, xem, rfl⟩ := row9 a
      obtain ⟨yk, ymn, ymx, ykd, ybd, ybn, ycs, ynm, ysc, ysk, yks, ywi, ysh, yhv, yse, yem, rfl⟩ := row9 b
      simp only [qrow_te] at hla hlb ⊢
      exact te_2 _ _ _ _ _ _ _ _ _ _ _ _ _ _ _ _ _ _ _ _ _ _ _ _ w _ _ hla hlb hW rfl rfl
    | true =>
      obtain ⟨⟨ka', -⟩, kb', -⟩ := light_small hb hB
      rw [hB] at hlb
      have hpa := fun w' (hb' : Below w.heap.size w w') => print_any a w' (hL.later hb') (ha.later hb') (by omega) (by omega)
      have hpb := fun w' (hb' : Below w.heap.size w w') => print_any b w' (hL.later hb') (hb.later hb') (by omega) (by omega)
      have hat := fun w' (hb' : Below w.heap.size w w') => atoms_any a.t w' (ha.tr.later hb') (by omega) (hL.sg.later hb') (fun t ht => by have := kc t ht; omega)
      have hea : printE a.qu = 0 → checkB a.qu = true ∧ printS a.qu = queryT a.qu := fun h => by
        unfold printE at h
        unfold printS
        split at h
        · rename_i h1
          split at h
          · rename_i h2
            exact ⟨h1, if_pos ⟨h1, h2⟩⟩
          · exact absurd h (by decide)
        · exact absurd h (by decide)
      have heb : printE b.qu = 0 → checkB b.qu = true ∧ printS b.qu = queryT b.qu := fun h => by
        unfold printE at h
        unfold printS
        split at h
        · rename_i h1
          split at h
          · rename_i h2
            exact ⟨h1, if_pos ⟨h1, h2⟩⟩
          · exact absurd h (by decide)
        · exact absurd h (by decide)
      have hfin : printE a.qu = 0 → printE b.qu = 0 → soundE a.t.nd = 0 ∧ (strOf (printS a.qu)).size ≤ 1000000 ∧ cntL (strOf (printS a.qu)).data.toList = (atomsN a.t.nd).length ∧ ((strOf (printS a.qu)).toList == (strOf (printS b.qu)).toList) = sameQ a.qu b.qu := fun h1 h2 => by
        obtain ⟨c1, e1⟩ := hea h1
        obtain ⟨c2, e2⟩ := heb h2
        have s1 := (checkB_iff.1 c1).1.1.1
        have s2 := (checkB_iff.1 c2).1.1.1
        have g1 : GoodQ a.qu := ⟨c1, light_good ha s1, ha.wi.1⟩
        have g2 : GoodQ b.qu := ⟨c2, light_good hb s2, hb.wi.1⟩
        have s1' : soundN 1 a.t.nd = true := s1
        refine ⟨by unfold soundE; rw [s1']; rfl, ?_, ?_, ?_⟩
        · rw [e1, strOf_size]; omega
        · rw [e1, strOf_dat, cnt_query g1]
          unfold atomsN
          rw [if_pos s1', List.length_map]
          rfl
        · rw [e1, e2, strOf_toL, strOf_toL]
          cases hq : sameQ a.qu b.qu with
          | true => rw [(sameQ_iff _ _).1 hq]; simp
          | false =>
            rw [beq_eq_false_iff_ne]
            intro e
            rw [query_tells g1 g2 e, sameQ_refl] at hq
            cases hq
      obtain ⟨ea, hea'⟩ : ∃ e, e = printE a.qu := ⟨_, rfl⟩
      obtain ⟨eb, heb'⟩ : ∃ e, e = printE b.qu := ⟨_, rfl⟩
      obtain ⟨sa, hsa⟩ : ∃ e, e = strOf (printS a.qu) := ⟨_, rfl⟩
      obtain ⟨sb, hsb⟩ : ∃ e, e = strOf (printS b.qu) := ⟨_, rfl⟩
      rw [← hea', ← hsa] at hpa
      rw [← heb', ← hsb] at hpb
      rw [← hea', ← heb', ← hsa, ← hsb] at hfin
      obtain ⟨z, hz⟩ : ∃ z, z = sameQ a.qu b.qu := ⟨_, rfl⟩
      rw [← hz] at hfin hsm
      have hat2 : soundE a.t.nd = 0 → ∀ w1, Below w.heap.size w w1 → Calls Tryz.prog 21 #[.agg a.t.row.toArray] w1 fun e w' => (∃ (A : Option Addr) (c : Nat), e = .returned (.tuple #[.slice A (atomsN a.t.nd).length c, .int .i64 0])) ∧ Below w1.heap.size w1 w' := fun h0 w1 hb1 => (hat w1 hb1).mono (by
        rintro e w' ⟨gs, A, c, h1, rfl, -, -, h5⟩
        have h6 : gs.length = (atomsN a.t.nd).length := by have := congrArg List.length (show gs.map (fun g => g.a) = atomsN a.t.nd from h1); rwa [List.length_map] at this
        rw [h6, h0]
        exact ⟨⟨A, c, rfl⟩, h5⟩)
      obtain ⟨M, hM⟩ : ∃ M, M = (atomsN a.t.nd).length := ⟨_, rfl⟩
      rw [← hM] at hat2 hfin
      clear hea heb hea' heb' hsa hsb hz hM hA hB ka kb kc ka' kb' hat ha hb hL
      obtain ⟨fa, hfa'⟩ : ∃ f, f = fewN 40 1 a.t.nd := ⟨_, rfl⟩
      obtain ⟨fb, hfb'⟩ : ∃ f, f = fewN 40 1 b.t.nd := ⟨_, rfl⟩
      obtain ⟨S, hS⟩ : ∃ f, f = soundE a.t.nd := ⟨_, rfl⟩
      rw [← hfa'] at hfa
      rw [← hfb'] at hfb
      rw [← hS] at hat2 hfin
      clear hfa' hfb' hS
      obtain ⟨xk, xmn, xmx, xkd, xbd, xbn, xcs, xnm, xsc, xsk, xks, xwi, xsh, xhv, xse, xem, rfl⟩ := row9 a
      obtain ⟨yk, ymn, ymx, ykd, ybd, ybn, ycs, ynm, ysc, ysk, yks, ywi, ysh, yhv, yse, yem, rfl⟩ := row9 b
      simp only [qrow_te, Tr.row] at hla hlb hfa hfb hpa hpb hat2 hsm ⊢
      by_cases f1 : fa < 0
      · exact te_3 _ _ _ _ _ _ _ _ _ _ _ _ _ _ _ _ _ _ _ _ _ _ _ _ w _ _ _ hla hlb hfa hW rfl rfl f1
      · by_cases f2 : fb < 0
        · exact te_4 _ _ _ _ _ _ _ _ _ _ _ _ _ _ _ _ _ _ _ _ _ _ _ _ w _ _ _ _ hla hlb hfa hfb hW rfl rfl f1 f2
        · by_cases e1 : ea = 0
          · by_cases e2 : eb = 0
            · obtain ⟨g0, g1, g2, g3⟩ := hfin e1 e2
              exact te_7 _ _ _ _ _ _ _ _ _ _ _ _ _ _ _ _ _ _ _ _ _ _ _ _ w _ _ _ _ _ _ _ _ _ _ hla hlb hfa hfb hpa hpb (hat2 g0) hsm hW rfl rfl f1 f2 e1 e2 g1 g2 g3
            · exact te_6 _ _ _ _ _ _ _ _ _ _ _ _ _ _ _ _ _ _ _ _ _ _ _ _ w _ _ _ _ _ _ _ _ hla hlb hfa hfb hpa hpb hW rfl rfl f1 f2 e1 e2
          · exact te_5 _ _ _ _ _ _ _ _ _ _ _ _ _ _ _ _ _ _ _ _ _ _ _ _ w _ _ _ _ _ _ _ _ hla hlb hfa hfb hpa hpb hW rfl rfl f1 f2 e1
end Go.Proofs.YtfibmdbplfghcaaGreatDoor
