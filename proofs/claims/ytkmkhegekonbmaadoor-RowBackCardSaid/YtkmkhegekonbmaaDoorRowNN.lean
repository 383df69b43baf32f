/- Walks: the chapter's examples. -/
import Derived.Test.YtkmkhegekonbmaaDoorRowMM
namespace Go.Proofs.YtkmkhegekonbmaaDoor
open Go.RowKit
open Rw6

set_option maxRecDepth 100000 in
set_option maxHeartbeats 8000000 in
theorem known_any (w : World) : Calls Tryd.prog 5 #[] w fun e w' => e = .returned (.bool true) ∧ Below w.heap.size w w' := by
  have HB := Lib.hid (Below.refl w.heap.size w)
  go_enter Tryd.func5, Tryd.ntmps5
  go_wp2_with (first
    | (go_at_call 25; with_reducible refine (rowsK1 _).mono ?_; rintro e w1 ⟨hb, A1, c1, rfl⟩; replace HB := Lib.hid ((bstep HB.out hb).alloc (bstep HB.out hb).size (.cells #[.int .i64 0, .int .i64 0] 47)); clear hb)
    | (go_at_call 25; with_reducible refine (rowsK2 _).mono ?_; rintro e w2 ⟨hb, A2, c2, rfl⟩; have K1 : Hid (Blk w2 w1.heap.size [.int .i64 0, .int .i64 0]) := Lib.hid ((Blk.is _ rfl).later hb); replace HB := Lib.hid ((bstep HB.out hb).alloc (bstep HB.out hb).size (.cells #[.int .i64 0, .int .i64 0] 47)); clear hb)
    | (go_at_call 27; with_reducible refine (wordL_any true ⟨#[65, 34]⟩ 0 _).mono ?_; rintro e w3 ⟨rfl, hb⟩; replace K1 := Lib.hid ((K1.out.alloc (.cells #[.int .i64 0, .int .i64 0] 47)).later hb); have K2 : Hid (Blk w3 w2.heap.size [.int .i64 0, .int .i64 0]) := Lib.hid ((Blk.is _ rfl).later hb); replace HB := Lib.hid (bstep HB.out hb); clear hb)
    | (go_at_call 26; with_reducible refine (singleK _).mono ?_; rintro e w4 ⟨rfl, hb⟩; have K1' := K1.out.later hb; have K2' := K2.out.later hb; have k10 := K1'.cell 0 _ rfl; have k11 := K1'.cell 1 _ rfl; have k20 := K2'.cell 0 _ rfl; have k21 := K2'.cell 1 _ rfl; clear K1' K2'; replace HB := Lib.hid (bstep HB.out hb); clear hb)
    | (go_at_call 28; with_reducible refine (failsK1 _).mono ?_; rintro e wx ⟨rfl, hb⟩; replace HB := Lib.hid (bstep HB.out hb); clear hb)
    | (go_at_call 28; with_reducible refine (failsK2 _).mono ?_; rintro e wx ⟨rfl, hb⟩; replace HB := Lib.hid (bstep HB.out hb); clear hb)
    | (go_at_call 28; with_reducible refine (failsK3 _).mono ?_; rintro e wx ⟨rfl, hb⟩; replace HB := Lib.hid (bstep HB.out hb); clear hb)
    | (go_at_call 28; with_reducible refine (failsK4 _).mono ?_; rintro e wx ⟨rfl, hb⟩; replace HB := Lib.hid (bstep HB.out hb); clear hb)
    | (go_at_call 28; with_reducible refine (failsK5 _).mono ?_; rintro e wx ⟨rfl, hb⟩; replace HB := Lib.hid (bstep HB.out hb); clear hb)
    | (go_at_call 15; with_reducible refine (wordK1 _).mono ?_; rintro e wx ⟨rfl, hb⟩; replace HB := Lib.hid (bstep HB.out hb); clear hb)
    | (go_at_call 15; with_reducible refine (wordK2 _).mono ?_; rintro e wx ⟨rfl, hb⟩; replace HB := Lib.hid (bstep HB.out hb); clear hb)
    | (go_at_call 29; with_reducible refine (bareK1 _).mono ?_; rintro e wx ⟨rfl, rfl⟩)
    | (go_at_call 29; with_reducible refine (bareK2 _).mono ?_; rintro e wx ⟨rfl, rfl⟩)
    | (go_at_call 30; with_reducible refine (numK1 _).mono ?_; rintro e wx ⟨rfl, hb⟩; replace HB := Lib.hid (bstep HB.out hb); clear hb)
    | (go_at_call 30; with_reducible refine (numK2 _).mono ?_; rintro e wx ⟨rfl, hb⟩; replace HB := Lib.hid (bstep HB.out hb); clear hb)
    | (go_at_call 30; with_reducible refine (numK3 _).mono ?_; rintro e wx ⟨rfl, hb⟩; replace HB := Lib.hid (bstep HB.out hb); clear hb)
    | (go_at_call 30; with_reducible refine (numK4 _).mono ?_; rintro e wx ⟨rfl, hb⟩; replace HB := Lib.hid (bstep HB.out hb); clear hb)
    | (go_at_call 31; with_reducible refine (sgnK1 _).mono ?_; rintro e wx ⟨rfl, hb⟩; replace HB := Lib.hid (bstep HB.out hb); clear hb)
    | (go_at_call 31; with_reducible refine (sgnK2 _).mono ?_; rintro e wx ⟨rfl, hb⟩; replace HB := Lib.hid (bstep HB.out hb); clear hb)
    | (go_at_call 31; with_reducible refine (sgnK3 _).mono ?_; rintro e wx ⟨rfl, hb⟩; replace HB := Lib.hid (bstep HB.out hb); clear hb)
    | (go_at_call 31; with_reducible refine (sgnK4 _).mono ?_; rintro e wx ⟨rfl, hb⟩; replace HB := Lib.hid (bstep HB.out hb); clear hb)
    | (go_at_call 19; (with_reducible refine (whichK1 _ _ _ rfl rfl).mono ?_); rintro e wx ⟨rfl, hb⟩; replace HB := Lib.hid (bstep HB.out hb); clear hb)
    | (go_at_call 19; (with_reducible refine (whichK2 _ _ _ rfl rfl).mono ?_); rintro e wx ⟨rfl, hb⟩; replace HB := Lib.hid (bstep HB.out hb); clear hb)
    | (go_at_call 19; (with_reducible refine (whichK3 _ _ _ rfl rfl).mono ?_); rintro e wx ⟨rfl, hb⟩; replace HB := Lib.hid (bstep HB.out hb); clear hb)
    | (go_at_call 27; with_reducible refine (wordL_any _ _ _ _).mono ?_; rintro e wx ⟨rfl, hb⟩; replace HB := Lib.hid (bstep HB.out hb); clear hb)
    | (go_at_call 10; with_reducible refine (awake_any _).mono ?_; rintro e wx ⟨rfl, hb⟩; replace HB := Lib.hid (bstep HB.out hb); clear hb))
  go_ret
  exact ⟨rfl, HB.out⟩
end Go.Proofs.YtkmkhegekonbmaaDoor
