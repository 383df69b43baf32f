/- The law on sound queries and their texts. Made by program (wip/tools/gen_astPr.py). -/
import Derived.Test.YtfibmdbplfghcaaGreatDoorAstPp
import Derived.Test.YtfibmdbplfghcaaGreatDoorAstWr
import Derived.Test.YtfibmdbplfghcaaGreatDoorAstY
namespace Go.Proofs.YtfibmdbplfghcaaGreatDoor
open Go.RowKit Go.Shelf
open A8 Tk7

attribute [local go_sem] below_drew9
attribute [local simp] below_drew9
set_option maxRecDepth 100000 in
set_option maxHeartbeats 16000000 in
theorem pr_1 (xk xmn xmx xkd : Int) (xbd : Bool) (xbn : Int) (xsc : Value) (xnm : ByteArray) (xsk : Value) (xwi : Int) (xsh xse : Value) (s : ByteArray) (w : World) (la : Bool)
    (hli : ∀ w1, Below w.heap.size w w1 → Calls Tryz.prog 8 #[.agg #[.int .i64 xk, .int .i64 xmn, .int .i64 xmx, .int .i64 xkd, .bool xbd, .int .u64 xbn, xsc, .string xnm, xsk, .int .u64 xwi, xsh, xse]] w1 fun e w' => e = .returned (.bool la) ∧ Below w1.heap.size w1 w')
    (hW : ∀ w1, Below w.heap.size w w1 → Calls Tryz.prog 9 #[] w1 fun e w' => e = .returned (.bool true) ∧ Below w1.heap.size w1 w')
    (h1 : la = false) :
    Calls Tryz.prog 3 #[.agg #[.int .i64 xk, .int .i64 xmn, .int .i64 xmx, .int .i64 xkd, .bool xbd, .int .u64 xbn, xsc, .string xnm, xsk, .int .u64 xwi, xsh, xse], .string s] w fun e w' => e = .returned (.bool true) ∧ Below w.heap.size w w' := by
  obtain ⟨W, hWW⟩ : ∃ W, W = w.alloc (.cells #[.int .i64 xk, .int .i64 xmn, .int .i64 xmx, .int .i64 xkd, .bool xbd, .int .u64 xbn, xsc, .string xnm, xsk, .int .u64 xwi, xsh, xse] 32) := ⟨_, rfl⟩
  have hb1 : Below w.heap.size w W := hWW ▸ b1 _ _
  have hX : Blk W w.heap.size [.int .i64 xk, .int .i64 xmn, .int .i64 xmx, .int .i64 xkd, .bool xbd, .int .u64 xbn, xsc, .string xnm, xsk, .int .u64 xwi, xsh, xse] := hWW ▸ Blk.new w _ _
  have hcell : ∀ w1, Below W.heap.size W w1 → Blk w1 w.heap.size [.int .i64 xk, .int .i64 xmn, .int .i64 xmx, .int .i64 xkd, .bool xbd, .int .u64 xbn, xsc, .string xnm, xsk, .int .u64 xwi, xsh, xse] := fun w1 hb => hX.later hb
  have c0 := hX.lt
  clear c0 hX
  have Hhli := Lib.hid hli
  have HhW := Lib.hid hW
  clear hli hW
  subst h1
  go_enter Tryz.func3, Tryz.ntmps3
  go_wp2_with fail
  rw [← hWW]
  clear hWW
  go_wp2_with (first | (go_at_call 8; with_reducible refine (Hhli.out _ hb1).mono ?_; rintro e w2 ⟨rfl, hb2⟩; have HB := Lib.hid hb2; clear hb2; have HXY := hcell _ HB.out; have c0 := HXY.cell 0 _ rfl; have c1 := HXY.cell 1 _ rfl; have c2 := HXY.cell 2 _ rfl; have c3 := HXY.cell 3 _ rfl; have c4 := HXY.cell 4 _ rfl; have c5 := HXY.cell 5 _ rfl; have c6 := HXY.cell 6 _ rfl; have c7 := HXY.cell 7 _ rfl; have c8 := HXY.cell 8 _ rfl; have c9 := HXY.cell 9 _ rfl; have c10 := HXY.cell 10 _ rfl; have c11 := HXY.cell 11 _ rfl; clear HXY) | (go_at_call 9; with_reducible refine (HhW.out _ (bstep hb1 HB.out)).mono ?_; rintro e w2 ⟨rfl, hb2⟩; replace HB := Lib.hid (bstep HB.out hb2); clear c0 c1 c2 c3 c4 c5 c6 c7 c8 c9 c10 c11; clear hb2; have HXY := hcell _ HB.out; have c0 := HXY.cell 0 _ rfl; have c1 := HXY.cell 1 _ rfl; have c2 := HXY.cell 2 _ rfl; have c3 := HXY.cell 3 _ rfl; have c4 := HXY.cell 4 _ rfl; have c5 := HXY.cell 5 _ rfl; have c6 := HXY.cell 6 _ rfl; have c7 := HXY.cell 7 _ rfl; have c8 := HXY.cell 8 _ rfl; have c9 := HXY.cell 9 _ rfl; have c10 := HXY.cell 10 _ rfl; have c11 := HXY.cell 11 _ rfl; clear HXY))
  go_ret
  exact ⟨rfl, bstep hb1 HB.out⟩
set_option maxRecDepth 100000 in
set_option maxHeartbeats 16000000 in
theorem pr_2 (xk xmn xmx xkd : Int) (xbd : Bool) (xbn : Int) (xsc : Value) (xnm : ByteArray) (xsk : Value) (xwi : Int) (xsh xse : Value) (s : ByteArray) (w : World) (la : Bool)
    (hli : ∀ w1, Below w.heap.size w w1 → Calls Tryz.prog 8 #[.agg #[.int .i64 xk, .int .i64 xmn, .int .i64 xmx, .int .i64 xkd, .bool xbd, .int .u64 xbn, xsc, .string xnm, xsk, .int .u64 xwi, xsh, xse]] w1 fun e w' => e = .returned (.bool la) ∧ Below w1.heap.size w1 w')
    (hW : ∀ w1, Below w.heap.size w w1 → Calls Tryz.prog 9 #[] w1 fun e w' => e = .returned (.bool true) ∧ Below w1.heap.size w1 w')
    (h1 : la = true) (h2 : (30 : Int) < (s.size : Int)) :
    Calls Tryz.prog 3 #[.agg #[.int .i64 xk, .int .i64 xmn, .int .i64 xmx, .int .i64 xkd, .bool xbd, .int .u64 xbn, xsc, .string xnm, xsk, .int .u64 xwi, xsh, xse], .string s] w fun e w' => e = .returned (.bool true) ∧ Below w.heap.size w w' := by
  obtain ⟨W, hWW⟩ : ∃ W, W = w.alloc (.cells #[.int .i64 xk, .int .i64 xmn, .int .i64 xmx, .int .i64 xkd, .bool xbd, .int .u64 xbn, xsc, .string xnm, xsk, .int .u64 xwi, xsh, xse] 32) := ⟨_, rfl⟩
  have hb1 : Below w.heap.size w W := hWW ▸ b1 _ _
  have hX : Blk W w.heap.size [.int .i64 xk, .int .i64 xmn, .int .i64 xmx, .int .i64 xkd, .bool xbd, .int .u64 xbn, xsc, .string xnm, xsk, .int .u64 xwi, xsh, xse] := hWW ▸ Blk.new w _ _
  have hcell : ∀ w1, Below W.heap.size W w1 → Blk w1 w.heap.size [.int .i64 xk, .int .i64 xmn, .int .i64 xmx, .int .i64 xkd, .bool xbd, .int .u64 xbn, xsc, .string xnm, xsk, .int .u64 xwi, xsh, xse] := fun w1 hb => hX.later hb
  have c0 := hX.lt
  clear c0 hX
  have Hhli := Lib.hid hli
  have HhW := Lib.hid hW
  clear hli hW
  subst h1
  go_enter Tryz.func3, Tryz.ntmps3
  go_wp2_with fail
  rw [← hWW]
  clear hWW
  go_wp2_with (first | (go_at_call 8; with_reducible refine (Hhli.out _ hb1).mono ?_; rintro e w2 ⟨rfl, hb2⟩; have HB := Lib.hid hb2; clear hb2; have HXY := hcell _ HB.out; have c0 := HXY.cell 0 _ rfl; have c1 := HXY.cell 1 _ rfl; have c2 := HXY.cell 2 _ rfl; have c3 := HXY.cell 3 _ rfl; have c4 := HXY.cell 4 _ rfl; have c5 := HXY.cell 5 _ rfl; have c6 := HXY.cell 6 _ rfl; have c7 := HXY.cell 7 _ rfl; have c8 := HXY.cell 8 _ rfl; have c9 := HXY.cell 9 _ rfl; have c10 := HXY.cell 10 _ rfl; have c11 := HXY.cell 11 _ rfl; clear HXY) | (go_at_call 9; with_reducible refine (HhW.out _ (bstep hb1 HB.out)).mono ?_; rintro e w2 ⟨rfl, hb2⟩; replace HB := Lib.hid (bstep HB.out hb2); clear c0 c1 c2 c3 c4 c5 c6 c7 c8 c9 c10 c11; clear hb2; have HXY := hcell _ HB.out; have c0 := HXY.cell 0 _ rfl; have c1 := HXY.cell 1 _ rfl; have c2 := HXY.cell 2 _ rfl; have c3 := HXY.cell 3 _ rfl; have c4 := HXY.cell 4 _ rfl; have c5 := HXY.cell 5 _ rfl; have c6 := HXY.cell 6 _ rfl; have c7 := HXY.cell 7 _ rfl; have c8 := HXY.cell 8 _ rfl; have c9 := HXY.cell 9 _ rfl; have c10 := HXY.cell 10 _ rfl; have c11 := HXY.cell 11 _ rfl; clear HXY))
  go_ret
  exact ⟨rfl, bstep hb1 HB.out⟩
set_option maxRecDepth 100000 in
set_option maxHeartbeats 16000000 in
theorem pr_3 (xk xmn xmx xkd : Int) (xbd : Bool) (xbn : Int) (xsc : Value) (xnm : ByteArray) (xsk : Value) (xwi : Int) (xsh xse : Value) (s : ByteArray) (w : World) (la : Bool) (sa sb : ByteArray) (ea eb ec ed : Int) (z : Bool)
    (hli : ∀ w1, Below w.heap.size w w1 → Calls Tryz.prog 8 #[.agg #[.int .i64 xk, .int .i64 xmn, .int .i64 xmx, .int .i64 xkd, .bool xbd, .int .u64 xbn, xsc, .string xnm, xsk, .int .u64 xwi, xsh, xse]] w1 fun e w' => e = .returned (.bool la) ∧ Below w1.heap.size w1 w')
    (hpa : ∀ w1, Below w.heap.size w w1 → Calls Tryz.prog 10 #[.agg #[.int .i64 xk, .int .i64 xmn, .int .i64 xmx, .int .i64 xkd, .bool xbd, .int .u64 xbn, xsc, .string xnm, xsk, .int .u64 xwi, xsh, xse]] w1 fun e w' => e = .returned (.tuple #[.string sa, .int .i64 ea]) ∧ Below w1.heap.size w1 w')
    (hpb : ∀ w1, Below w.heap.size w w1 → Calls Tryz.prog 11 #[.agg #[.int .i64 xk, .int .i64 xmn, .int .i64 xmx, .int .i64 xkd, .bool xbd, .int .u64 xbn, xsc, .string xnm, xsk, .int .u64 xwi, xsh, xse]] w1 fun e w' => e = .returned (.tuple #[.string sa, .int .i64 ea]) ∧ Below w1.heap.size w1 w')
    (hqa : ∀ w1, Below w.heap.size w w1 → Calls Tryz.prog 12 #[.agg #[.int .i64 xk, .int .i64 xmn, .int .i64 xmx, .int .i64 xkd, .bool xbd, .int .u64 xbn, xsc, .string xnm, xsk]] w1 fun e w' => e = .returned (.tuple #[.string sb, .int .i64 eb]) ∧ Below w1.heap.size w1 w')
    (hqb : ∀ w1, Below w.heap.size w w1 → Calls Tryz.prog 13 #[.agg #[.int .i64 xk, .int .i64 xmn, .int .i64 xmx, .int .i64 xkd, .bool xbd, .int .u64 xbn, xsc, .string xnm, xsk]] w1 fun e w' => e = .returned (.tuple #[.string sb, .int .i64 eb]) ∧ Below w1.heap.size w1 w')
    (hca : ∀ w1, Below w.heap.size w w1 → Calls Tryz.prog 14 #[.agg #[.int .i64 xk, .int .i64 xmn, .int .i64 xmx, .int .i64 xkd, .bool xbd, .int .u64 xbn, xsc, .string xnm, xsk, .int .u64 xwi, xsh, xse]] w1 fun e w' => e = .returned (.int .i64 ec) ∧ Below w1.heap.size w1 w')
    (hcb : ∀ w1, Below w.heap.size w w1 → Calls Tryz.prog 15 #[.agg #[.int .i64 xk, .int .i64 xmn, .int .i64 xmx, .int .i64 xkd, .bool xbd, .int .u64 xbn, xsc, .string xnm, xsk, .int .u64 xwi, xsh, xse]] w1 fun e w' => e = .returned (.int .i64 ec) ∧ Below w1.heap.size w1 w')
    (hsa : ∀ w1, Below w.heap.size w w1 → Calls Tryz.prog 16 #[.agg #[.int .i64 xk, .int .i64 xmn, .int .i64 xmx, .int .i64 xkd, .bool xbd, .int .u64 xbn, xsc, .string xnm, xsk]] w1 fun e w' => e = .returned (.int .i64 ed) ∧ Below w1.heap.size w1 w')
    (hsb : ∀ w1, Below w.heap.size w w1 → Calls Tryz.prog 17 #[.agg #[.int .i64 xk, .int .i64 xmn, .int .i64 xmx, .int .i64 xkd, .bool xbd, .int .u64 xbn, xsc, .string xnm, xsk]] w1 fun e w' => e = .returned (.int .i64 ed) ∧ Below w1.heap.size w1 w')
    (hna : ∀ w1, Below w.heap.size w w1 → Calls Tryz.prog 18 #[.string s] w1 fun e w' => e = .returned (.bool z) ∧ Below w1.heap.size w1 w')
    (hnb : ∀ w1, Below w.heap.size w w1 → Calls Tryz.prog 19 #[.string s] w1 fun e w' => e = .returned (.bool z) ∧ Below w1.heap.size w1 w')
    (hW : ∀ w1, Below w.heap.size w w1 → Calls Tryz.prog 9 #[] w1 fun e w' => e = .returned (.bool true) ∧ Below w1.heap.size w1 w')
    (h1 : la = true) (h2 : ¬ (30 : Int) < (s.size : Int)) :
    Calls Tryz.prog 3 #[.agg #[.int .i64 xk, .int .i64 xmn, .int .i64 xmx, .int .i64 xkd, .bool xbd, .int .u64 xbn, xsc, .string xnm, xsk, .int .u64 xwi, xsh, xse], .string s] w fun e w' => e = .returned (.bool true) ∧ Below w.heap.size w w' := by
  obtain ⟨W, hWW⟩ : ∃ W, W = w.alloc (.cells #[.int .i64 xk, .int .i64 xmn, .int .i64 xmx, .int .i64 xkd, .bool xbd, .int .u64 xbn, xsc, .string xnm, xsk, .int .u64 xwi, xsh, xse] 32) := ⟨_, rfl⟩
  have hb1 : Below w.heap.size w W := hWW ▸ b1 _ _
  have hX : Blk W w.heap.size [.int .i64 xk, .int .i64 xmn, .int .i64 xmx, .int .i64 xkd, .bool xbd, .int .u64 xbn, xsc, .string xnm, xsk, .int .u64 xwi, xsh, xse] := hWW ▸ Blk.new w _ _
  have hcell : ∀ w1, Below W.heap.size W w1 → Blk w1 w.heap.size [.int .i64 xk, .int .i64 xmn, .int .i64 xmx, .int .i64 xkd, .bool xbd, .int .u64 xbn, xsc, .string xnm, xsk, .int .u64 xwi, xsh, xse] := fun w1 hb => hX.later hb
  have c0 := hX.lt
  clear c0 hX
  have Hhli := Lib.hid hli
  have Hhpa := Lib.hid hpa
  have Hhpb := Lib.hid hpb
  have Hhqa := Lib.hid hqa
  have Hhqb := Lib.hid hqb
  have Hhca := Lib.hid hca
  have Hhcb := Lib.hid hcb
  have Hhsa := Lib.hid hsa
  have Hhsb := Lib.hid hsb
  have Hhna := Lib.hid hna
  have Hhnb := Lib.hid hnb
  have HhW := Lib.hid hW
  clear hli hpa hpb hqa hqb hca hcb hsa hsb hna hnb hW
  subst h1
  have r0 : (ec == ec) = true := by simp
  have r1 : (ed == ed) = true := by simp
  have r2 : (ea == ea) = true := by simp
  have r3 : (eb == eb) = true := by simp
  have r4 : (z == z) = true := by simp
  have r5 : (sa.toList == sa.toList) = true := by simp
  have r6 : (sb.toList == sb.toList) = true := by simp
  go_enter Tryz.func3, Tryz.ntmps3
  go_wp2_with fail
  rw [← hWW]
  clear hWW
  go_upto_region 7 with (first | (go_at_call 8; with_reducible refine (Hhli.out _ hb1).mono ?_; rintro e w2 ⟨rfl, hb2⟩; have HB := Lib.hid hb2; clear hb2; have HXY := hcell _ HB.out; have c0 := HXY.cell 0 _ rfl; have c1 := HXY.cell 1 _ rfl; have c2 := HXY.cell 2 _ rfl; have c3 := HXY.cell 3 _ rfl; have c4 := HXY.cell 4 _ rfl; have c5 := HXY.cell 5 _ rfl; have c6 := HXY.cell 6 _ rfl; have c7 := HXY.cell 7 _ rfl; have c8 := HXY.cell 8 _ rfl; have c9 := HXY.cell 9 _ rfl; have c10 := HXY.cell 10 _ rfl; have c11 := HXY.cell 11 _ rfl; clear HXY) | (go_at_call 10; with_reducible refine (Hhpa.out _ (bstep hb1 HB.out)).mono ?_; rintro e w2 ⟨rfl, hb2⟩; replace HB := Lib.hid (bstep HB.out hb2); clear c0 c1 c2 c3 c4 c5 c6 c7 c8 c9 c10 c11; clear hb2; have HXY := hcell _ HB.out; have c0 := HXY.cell 0 _ rfl; have c1 := HXY.cell 1 _ rfl; have c2 := HXY.cell 2 _ rfl; have c3 := HXY.cell 3 _ rfl; have c4 := HXY.cell 4 _ rfl; have c5 := HXY.cell 5 _ rfl; have c6 := HXY.cell 6 _ rfl; have c7 := HXY.cell 7 _ rfl; have c8 := HXY.cell 8 _ rfl; have c9 := HXY.cell 9 _ rfl; have c10 := HXY.cell 10 _ rfl; have c11 := HXY.cell 11 _ rfl; clear HXY) | (go_at_call 11; with_reducible refine (Hhpb.out _ (bstep hb1 HB.out)).mono ?_; rintro e w2 ⟨rfl, hb2⟩; replace HB := Lib.hid (bstep HB.out hb2); clear c0 c1 c2 c3 c4 c5 c6 c7 c8 c9 c10 c11; clear hb2; have HXY := hcell _ HB.out; have c0 := HXY.cell 0 _ rfl; have c1 := HXY.cell 1 _ rfl; have c2 := HXY.cell 2 _ rfl; have c3 := HXY.cell 3 _ rfl; have c4 := HXY.cell 4 _ rfl; have c5 := HXY.cell 5 _ rfl; have c6 := HXY.cell 6 _ rfl; have c7 := HXY.cell 7 _ rfl; have c8 := HXY.cell 8 _ rfl; have c9 := HXY.cell 9 _ rfl; have c10 := HXY.cell 10 _ rfl; have c11 := HXY.cell 11 _ rfl; clear HXY) | (go_at_call 12; with_reducible refine (Hhqa.out _ (bstep hb1 HB.out)).mono ?_; rintro e w2 ⟨rfl, hb2⟩; replace HB := Lib.hid (bstep HB.out hb2); clear c0 c1 c2 c3 c4 c5 c6 c7 c8 c9 c10 c11; clear hb2; have HXY := hcell _ HB.out; have c0 := HXY.cell 0 _ rfl; have c1 := HXY.cell 1 _ rfl; have c2 := HXY.cell 2 _ rfl; have c3 := HXY.cell 3 _ rfl; have c4 := HXY.cell 4 _ rfl; have c5 := HXY.cell 5 _ rfl; have c6 := HXY.cell 6 _ rfl; have c7 := HXY.cell 7 _ rfl; have c8 := HXY.cell 8 _ rfl; have c9 := HXY.cell 9 _ rfl; have c10 := HXY.cell 10 _ rfl; have c11 := HXY.cell 11 _ rfl; clear HXY) | (go_at_call 13; with_reducible refine (Hhqb.out _ (bstep hb1 HB.out)).mono ?_; rintro e w2 ⟨rfl, hb2⟩; replace HB := Lib.hid (bstep HB.out hb2); clear c0 c1 c2 c3 c4 c5 c6 c7 c8 c9 c10 c11; clear hb2; have HXY := hcell _ HB.out; have c0 := HXY.cell 0 _ rfl; have c1 := HXY.cell 1 _ rfl; have c2 := HXY.cell 2 _ rfl; have c3 := HXY.cell 3 _ rfl; have c4 := HXY.cell 4 _ rfl; have c5 := HXY.cell 5 _ rfl; have c6 := HXY.cell 6 _ rfl; have c7 := HXY.cell 7 _ rfl; have c8 := HXY.cell 8 _ rfl; have c9 := HXY.cell 9 _ rfl; have c10 := HXY.cell 10 _ rfl; have c11 := HXY.cell 11 _ rfl; clear HXY))
  have hB := bstep hb1 HB.out
  clear Hhli Hhpa Hhpb Hhqa Hhqb hcell HB hb1
  go_region_held3 (fun w' => w'.cell? ⟨w.heap.size, 0, none⟩ = some (.int .i64 xk) ∧ w'.cell? ⟨w.heap.size, 1, none⟩ = some (.int .i64 xmn) ∧ w'.cell? ⟨w.heap.size, 2, none⟩ = some (.int .i64 xmx) ∧ w'.cell? ⟨w.heap.size, 3, none⟩ = some (.int .i64 xkd) ∧ w'.cell? ⟨w.heap.size, 4, none⟩ = some (.bool xbd) ∧ w'.cell? ⟨w.heap.size, 5, none⟩ = some (.int .u64 xbn) ∧ w'.cell? ⟨w.heap.size, 6, none⟩ = some (xsc) ∧ w'.cell? ⟨w.heap.size, 7, none⟩ = some (.string xnm) ∧ w'.cell? ⟨w.heap.size, 8, none⟩ = some (xsk) ∧ w'.cell? ⟨w.heap.size, 9, none⟩ = some (.int .u64 xwi) ∧ w'.cell? ⟨w.heap.size, 10, none⟩ = some (xsh) ∧ w'.cell? ⟨w.heap.size, 11, none⟩ = some (xse) ∧ Below w.heap.size w w') (go_keep)
    (first | (go_at_call 14; with_reducible refine (held12 (W := w) (a0 := ⟨w.heap.size, 0, none⟩) (c0 := .int .i64 xk) (a1 := ⟨w.heap.size, 1, none⟩) (c1 := .int .i64 xmn) (a2 := ⟨w.heap.size, 2, none⟩) (c2 := .int .i64 xmx) (a3 := ⟨w.heap.size, 3, none⟩) (c3 := .int .i64 xkd) (a4 := ⟨w.heap.size, 4, none⟩) (c4 := .bool xbd) (a5 := ⟨w.heap.size, 5, none⟩) (c5 := .int .u64 xbn) (a6 := ⟨w.heap.size, 6, none⟩) (c6 := xsc) (a7 := ⟨w.heap.size, 7, none⟩) (c7 := .string xnm) (a8 := ⟨w.heap.size, 8, none⟩) (c8 := xsk) (a9 := ⟨w.heap.size, 9, none⟩) (c9 := .int .u64 xwi) (a10 := ⟨w.heap.size, 10, none⟩) (c10 := xsh) (a11 := ⟨w.heap.size, 11, none⟩) (c11 := xse) Hhca.out ?_ ?_ ?_ ?_ ?_ ?_ ?_ ?_ ?_ ?_ ?_ ?_ ?_ ).mono ?_; (first | assumption | (simp [*])); (first | assumption | (simp [*])); (first | assumption | (simp [*])); (first | assumption | (simp [*])); (first | assumption | (simp [*])); (first | assumption | (simp [*])); (first | assumption | (simp [*])); (first | assumption | (simp [*])); (first | assumption | (simp [*])); (first | assumption | (simp [*])); (first | assumption | (simp [*])); (first | assumption | (simp [*])); (first | assumption | (simp [*])); rintro e w9 ⟨rfl, g0, g1, g2, g3, g4, g5, g6, g7, g8, g9, g10, g11, g12⟩) | (go_at_call 15; with_reducible refine (held12 (W := w) (a0 := ⟨w.heap.size, 0, none⟩) (c0 := .int .i64 xk) (a1 := ⟨w.heap.size, 1, none⟩) (c1 := .int .i64 xmn) (a2 := ⟨w.heap.size, 2, none⟩) (c2 := .int .i64 xmx) (a3 := ⟨w.heap.size, 3, none⟩) (c3 := .int .i64 xkd) (a4 := ⟨w.heap.size, 4, none⟩) (c4 := .bool xbd) (a5 := ⟨w.heap.size, 5, none⟩) (c5 := .int .u64 xbn) (a6 := ⟨w.heap.size, 6, none⟩) (c6 := xsc) (a7 := ⟨w.heap.size, 7, none⟩) (c7 := .string xnm) (a8 := ⟨w.heap.size, 8, none⟩) (c8 := xsk) (a9 := ⟨w.heap.size, 9, none⟩) (c9 := .int .u64 xwi) (a10 := ⟨w.heap.size, 10, none⟩) (c10 := xsh) (a11 := ⟨w.heap.size, 11, none⟩) (c11 := xse) Hhcb.out ?_ ?_ ?_ ?_ ?_ ?_ ?_ ?_ ?_ ?_ ?_ ?_ ?_ ).mono ?_; (first | assumption | (simp [*])); (first | assumption | (simp [*])); (first | assumption | (simp [*])); (first | assumption | (simp [*])); (first | assumption | (simp [*])); (first | assumption | (simp [*])); (first | assumption | (simp [*])); (first | assumption | (simp [*])); (first | assumption | (simp [*])); (first | assumption | (simp [*])); (first | assumption | (simp [*])); (first | assumption | (simp [*])); (first | assumption | (simp [*])); rintro e w9 ⟨rfl, g0, g1, g2, g3, g4, g5, g6, g7, g8, g9, g10, g11, g12⟩) | (go_at_call 16; with_reducible refine (held12 (W := w) (a0 := ⟨w.heap.size, 0, none⟩) (c0 := .int .i64 xk) (a1 := ⟨w.heap.size, 1, none⟩) (c1 := .int .i64 xmn) (a2 := ⟨w.heap.size, 2, none⟩) (c2 := .int .i64 xmx) (a3 := ⟨w.heap.size, 3, none⟩) (c3 := .int .i64 xkd) (a4 := ⟨w.heap.size, 4, none⟩) (c4 := .bool xbd) (a5 := ⟨w.heap.size, 5, none⟩) (c5 := .int .u64 xbn) (a6 := ⟨w.heap.size, 6, none⟩) (c6 := xsc) (a7 := ⟨w.heap.size, 7, none⟩) (c7 := .string xnm) (a8 := ⟨w.heap.size, 8, none⟩) (c8 := xsk) (a9 := ⟨w.heap.size, 9, none⟩) (c9 := .int .u64 xwi) (a10 := ⟨w.heap.size, 10, none⟩) (c10 := xsh) (a11 := ⟨w.heap.size, 11, none⟩) (c11 := xse) Hhsa.out ?_ ?_ ?_ ?_ ?_ ?_ ?_ ?_ ?_ ?_ ?_ ?_ ?_ ).mono ?_; (first | assumption | (simp [*])); (first | assumption | (simp [*])); (first | assumption | (simp [*])); (first | assumption | (simp [*])); (first | assumption | (simp [*])); (first | assumption | (simp [*])); (first | assumption | (simp [*])); (first | assumption | (simp [*])); (first | assumption | (simp [*])); (first | assumption | (simp [*])); (first | assumption | (simp [*])); (first | assumption | (simp [*])); (first | assumption | (simp [*])); rintro e w9 ⟨rfl, g0, g1, g2, g3, g4, g5, g6, g7, g8, g9, g10, g11, g12⟩) | (go_at_call 17; with_reducible refine (held12 (W := w) (a0 := ⟨w.heap.size, 0, none⟩) (c0 := .int .i64 xk) (a1 := ⟨w.heap.size, 1, none⟩) (c1 := .int .i64 xmn) (a2 := ⟨w.heap.size, 2, none⟩) (c2 := .int .i64 xmx) (a3 := ⟨w.heap.size, 3, none⟩) (c3 := .int .i64 xkd) (a4 := ⟨w.heap.size, 4, none⟩) (c4 := .bool xbd) (a5 := ⟨w.heap.size, 5, none⟩) (c5 := .int .u64 xbn) (a6 := ⟨w.heap.size, 6, none⟩) (c6 := xsc) (a7 := ⟨w.heap.size, 7, none⟩) (c7 := .string xnm) (a8 := ⟨w.heap.size, 8, none⟩) (c8 := xsk) (a9 := ⟨w.heap.size, 9, none⟩) (c9 := .int .u64 xwi) (a10 := ⟨w.heap.size, 10, none⟩) (c10 := xsh) (a11 := ⟨w.heap.size, 11, none⟩) (c11 := xse) Hhsb.out ?_ ?_ ?_ ?_ ?_ ?_ ?_ ?_ ?_ ?_ ?_ ?_ ?_ ).mono ?_; (first | assumption | (simp [*])); (first | assumption | (simp [*])); (first | assumption | (simp [*])); (first | assumption | (simp [*])); (first | assumption | (simp [*])); (first | assumption | (simp [*])); (first | assumption | (simp [*])); (first | assumption | (simp [*])); (first | assumption | (simp [*])); (first | assumption | (simp [*])); (first | assumption | (simp [*])); (first | assumption | (simp [*])); (first | assumption | (simp [*])); rintro e w9 ⟨rfl, g0, g1, g2, g3, g4, g5, g6, g7, g8, g9, g10, g11, g12⟩) | (go_at_call 18; with_reducible refine (held12 (W := w) (a0 := ⟨w.heap.size, 0, none⟩) (c0 := .int .i64 xk) (a1 := ⟨w.heap.size, 1, none⟩) (c1 := .int .i64 xmn) (a2 := ⟨w.heap.size, 2, none⟩) (c2 := .int .i64 xmx) (a3 := ⟨w.heap.size, 3, none⟩) (c3 := .int .i64 xkd) (a4 := ⟨w.heap.size, 4, none⟩) (c4 := .bool xbd) (a5 := ⟨w.heap.size, 5, none⟩) (c5 := .int .u64 xbn) (a6 := ⟨w.heap.size, 6, none⟩) (c6 := xsc) (a7 := ⟨w.heap.size, 7, none⟩) (c7 := .string xnm) (a8 := ⟨w.heap.size, 8, none⟩) (c8 := xsk) (a9 := ⟨w.heap.size, 9, none⟩) (c9 := .int .u64 xwi) (a10 := ⟨w.heap.size, 10, none⟩) (c10 := xsh) (a11 := ⟨w.heap.size, 11, none⟩) (c11 := xse) Hhna.out ?_ ?_ ?_ ?_ ?_ ?_ ?_ ?_ ?_ ?_ ?_ ?_ ?_ ).mono ?_; (first | assumption | (simp [*])); (first | assumption | (simp [*])); (first | assumption | (simp [*])); (first | assumption | (simp [*])); (first | assumption | (simp [*])); (first | assumption | (simp [*])); (first | assumption | (simp [*])); (first | assumption | (simp [*])); (first | assumption | (simp [*])); (first | assumption | (simp [*])); (first | assumption | (simp [*])); (first | assumption | (simp [*])); (first | assumption | (simp [*])); rintro e w9 ⟨rfl, g0, g1, g2, g3, g4, g5, g6, g7, g8, g9, g10, g11, g12⟩) | (go_at_call 19; with_reducible refine (held12 (W := w) (a0 := ⟨w.heap.size, 0, none⟩) (c0 := .int .i64 xk) (a1 := ⟨w.heap.size, 1, none⟩) (c1 := .int .i64 xmn) (a2 := ⟨w.heap.size, 2, none⟩) (c2 := .int .i64 xmx) (a3 := ⟨w.heap.size, 3, none⟩) (c3 := .int .i64 xkd) (a4 := ⟨w.heap.size, 4, none⟩) (c4 := .bool xbd) (a5 := ⟨w.heap.size, 5, none⟩) (c5 := .int .u64 xbn) (a6 := ⟨w.heap.size, 6, none⟩) (c6 := xsc) (a7 := ⟨w.heap.size, 7, none⟩) (c7 := .string xnm) (a8 := ⟨w.heap.size, 8, none⟩) (c8 := xsk) (a9 := ⟨w.heap.size, 9, none⟩) (c9 := .int .u64 xwi) (a10 := ⟨w.heap.size, 10, none⟩) (c10 := xsh) (a11 := ⟨w.heap.size, 11, none⟩) (c11 := xse) Hhnb.out ?_ ?_ ?_ ?_ ?_ ?_ ?_ ?_ ?_ ?_ ?_ ?_ ?_ ).mono ?_; (first | assumption | (simp [*])); (first | assumption | (simp [*])); (first | assumption | (simp [*])); (first | assumption | (simp [*])); (first | assumption | (simp [*])); (first | assumption | (simp [*])); (first | assumption | (simp [*])); (first | assumption | (simp [*])); (first | assumption | (simp [*])); (first | assumption | (simp [*])); (first | assumption | (simp [*])); (first | assumption | (simp [*])); (first | assumption | (simp [*])); rintro e w9 ⟨rfl, g0, g1, g2, g3, g4, g5, g6, g7, g8, g9, g10, g11, g12⟩) | (go_at_call 9; with_reducible refine (held12 (W := w) (a0 := ⟨w.heap.size, 0, none⟩) (c0 := .int .i64 xk) (a1 := ⟨w.heap.size, 1, none⟩) (c1 := .int .i64 xmn) (a2 := ⟨w.heap.size, 2, none⟩) (c2 := .int .i64 xmx) (a3 := ⟨w.heap.size, 3, none⟩) (c3 := .int .i64 xkd) (a4 := ⟨w.heap.size, 4, none⟩) (c4 := .bool xbd) (a5 := ⟨w.heap.size, 5, none⟩) (c5 := .int .u64 xbn) (a6 := ⟨w.heap.size, 6, none⟩) (c6 := xsc) (a7 := ⟨w.heap.size, 7, none⟩) (c7 := .string xnm) (a8 := ⟨w.heap.size, 8, none⟩) (c8 := xsk) (a9 := ⟨w.heap.size, 9, none⟩) (c9 := .int .u64 xwi) (a10 := ⟨w.heap.size, 10, none⟩) (c10 := xsh) (a11 := ⟨w.heap.size, 11, none⟩) (c11 := xse) HhW.out ?_ ?_ ?_ ?_ ?_ ?_ ?_ ?_ ?_ ?_ ?_ ?_ ?_ ).mono ?_; (first | assumption | (simp [*])); (first | assumption | (simp [*])); (first | assumption | (simp [*])); (first | assumption | (simp [*])); (first | assumption | (simp [*])); (first | assumption | (simp [*])); (first | assumption | (simp [*])); (first | assumption | (simp [*])); (first | assumption | (simp [*])); (first | assumption | (simp [*])); (first | assumption | (simp [*])); (first | assumption | (simp [*])); (first | assumption | (simp [*])); rintro e w9 ⟨rfl, g0, g1, g2, g3, g4, g5, g6, g7, g8, g9, g10, g11, g12⟩))
  go_wp2
  go_ret
  exact ⟨rfl, by first | assumption | (simp [*])⟩
theorem qrow_pr (k mn mx kd : Int) (bd : Bool) (bn : Int) (cs : List Cn) (nm : List UInt8) (sc sk : Value) (ks : List Tr) (wi : Int) (sh : Value) (hv : List Hv) (se : Value) (em : List Ag) : (GQ.row ⟨.mk k mn mx ⟨⟨kd, bd, bn, cs, nm⟩, sc⟩ sk ks, wi, sh, hv, se, em⟩).toArray = #[.int .i64 k, .int .i64 mn, .int .i64 mx, .int .i64 kd, .bool bd, .int .u64 bn, sc, .string (strOf nm), sk, .int .u64 wi, sh, se] := rfl
theorem lprints_any {hs : Prop} (a : GQ) (s : ByteArray) (w : World) (hL : Lay w) (ha : QW w a) (_ : hs) :
    Calls Tryz.prog 3 #[.agg a.row.toArray, .string s] w fun e w' => e = .returned (.bool true) ∧ Below w.heap.size w w' := by
  have hli := fun w' (hb' : Below w.heap.size w w') => light_any a w' (ha.later hb')
  have hW := fun w' (hb' : Below w.heap.size w w') => awake_any w' (hL.later hb')
  cases hA : lightB a.qu with
  | false =>
    rw [hA] at hli
    clear hA ha
    obtain ⟨⟨k, mn, mx, ⟨⟨kd, bd, bn, cs, nm⟩, sc⟩, sk, ks⟩, wi, sh, hv, se, em⟩ := a
    simp only [qrow_pr] at hli ⊢
    exact pr_1 _ _ _ _ _ _ _ _ _ _ _ _ s w _ hli hW rfl
  | true =>
    by_cases h30 : (30 : Int) < (s.size : Int)
    · rw [hA] at hli
      clear hA ha
      obtain ⟨⟨k, mn, mx, ⟨⟨kd, bd, bn, cs, nm⟩, sc⟩, sk, ks⟩, wi, sh, hv, se, em⟩ := a
      simp only [qrow_pr] at hli ⊢
      exact pr_2 _ _ _ _ _ _ _ _ _ _ _ _ s w _ hli hW rfl h30
    · obtain ⟨⟨k1, k2⟩, k3, k4⟩ := light_small ha hA
      have hlb : lightB a.qu = (decide (a.hv.length ≤ 20) && decide (a.em.length ≤ 20) && decide (0 ≤ fewN 250 1 a.t.nd) && a.hv.all (fun h => decide (h.ag.nm.length ≤ 30)) && a.em.all (fun a => decide (a.nm.length ≤ 30))) := rfl
      have hll := hA
      rw [hlb] at hll
      simp only [Bool.and_eq_true, decide_eq_true_eq, List.all_eq_true] at hll
      obtain ⟨m1, m2⟩ := small_of ha.tr (by omega) hll.1.1.2
      have hpa := fun w' (hb' : Below w.heap.size w w') => print_any a w' (hL.later hb') (ha.later hb') (by omega) (by omega)
      have hpb := fun w' (hb' : Below w.heap.size w w') => rPrint_any a w' (ha.later hb') hA
      have hqa := fun w' (hb' : Below w.heap.size w w') => pattern_any a.t w' (hL.later hb') (ha.tr.later hb') (by omega) (by omega)
      have hqb := fun w' (hb' : Below w.heap.size w w') => rPattern_any a.t w' (ha.tr.later hb') m1 (by omega)
      have hca := fun w' (hb' : Below w.heap.size w w') => checkq_any a w' (ha.later hb') (by omega) (hL.sg.later hb')
      have hcb := fun w' (hb' : Below w.heap.size w w') => rCheck_any a w' (ha.later hb')
      have hsa := fun w' (hb' : Below w.heap.size w w') => sound_any a.t w' (ha.tr.later hb') (by omega) (hL.sg.later hb')
      have hsb := fun w' (hb' : Below w.heap.size w w') => rSound_any a.t w' (ha.tr.later hb')
      have hna : ∀ w1, Below w.heap.size w w1 → Calls Tryz.prog 18 #[.string s] w1 fun e w' => e = .returned (.bool (nameB s.data.toList)) ∧ Below w1.heap.size w1 w' := fun w' hb' => by
        have := name_any s.data.toList w' (hL.sg.later hb')
        rw [dat_str] at this
        exact this
      have hnb : ∀ w1, Below w.heap.size w w1 → Calls Tryz.prog 19 #[.string s] w1 fun e w' => e = .returned (.bool (nameB s.data.toList)) ∧ Below w1.heap.size w1 w' := fun w' hb' => rname_any s w'
      rw [hA] at hli
      clear hA ha hL hlb hll k1 k2 k3 k4 m1 m2
      generalize nameB s.data.toList = z at hna hnb
      obtain ⟨⟨k, mn, mx, ⟨⟨kd, bd, bn, cs, nm⟩, sc⟩, sk, ks⟩, wi, sh, hv, se, em⟩ := a
      simp only [qrow_pr, Tr.row] at hli hpa hpb hqa hqb hca hcb hsa hsb ⊢
      exact pr_3 _ _ _ _ _ _ _ _ _ _ _ _ s w _ _ _ _ _ _ _ _ hli hpa hpb hqa hqb hca hcb hsa hsb hna hnb hW rfl h30
end Go.Proofs.YtfibmdbplfghcaaGreatDoor
