/- Walks: the example that each statement asks at its end. -/
import Derived.Test.YtkmkhegekonbmaaDoorRowKK
namespace Go.Proofs.YtkmkhegekonbmaaDoor
open Go.RowKit
open Rw6

theorem make1_a (w W : World) (b : Nat) (hW : W = w.alloc (.cells #[.string ⟨#[97]⟩, .string ⟨#[98, 32, 99]⟩] 9)) (hb : b = w.heap.size) :
    Calls Tryd.prog 23 #[.slice (some ⟨b, 0, none⟩) 2 2] W fun e w' => ∃ A c, e = .returned (.agg #[.int .i64 0, .slice A 2 c]) ∧ Below w.heap.size w w' ∧ WSl w' (.slice A 2 c) [mkW ⟨#[97]⟩, mkW ⟨#[98, 32, 99]⟩] := by
  subst hW hb
  have h := make_is _ [⟨#[97]⟩, ⟨#[98, 32, 99]⟩] _ (Slc.lit w [.string ⟨#[97]⟩, .string ⟨#[98, 32, 99]⟩] 9 2 rfl (by decide)) (by decide) (by decide)
  refine h.mono ?_
  rintro e w' ⟨A, c, rfl, hb, ho⟩
  exact ⟨A, c, rfl, (below1 _ _).trans (hb.mono (by rw [World.size_alloc]; omega)), own_wsl ho⟩
theorem make2_a (w W : World) (b : Nat) (hW : W = w.alloc (.cells #[.string ⟨#[55]⟩] 9)) (hb : b = w.heap.size) :
    Calls Tryd.prog 23 #[.slice (some ⟨b, 0, none⟩) 1 1] W fun e w' => ∃ A c, e = .returned (.agg #[.int .i64 0, .slice A 1 c]) ∧ Below w.heap.size w w' ∧ WSl w' (.slice A 1 c) [mkW ⟨#[55]⟩] := by
  subst hW hb
  have h := make_is _ [⟨#[55]⟩] _ (Slc.lit w [.string ⟨#[55]⟩] 9 1 rfl (by decide)) (by decide) (by decide)
  refine h.mono ?_
  rintro e w' ⟨A, c, rfl, hb, ho⟩
  exact ⟨A, c, rfl, (below1 _ _).trans (hb.mono (by rw [World.size_alloc]; omega)), own_wsl ho⟩
theorem text_a (w W : World) (b : Nat) (A1 A2 : Option Addr) (c1 c2 : Nat) (h1 : WSl w (.slice A1 2 c1) [mkW ⟨#[97]⟩, mkW ⟨#[98, 32, 99]⟩]) (h2 : WSl w (.slice A2 1 c2) [mkW ⟨#[55]⟩])
    (hW : W = w.alloc (.cells #[.int .i64 0, .slice A1 2 c1, .int .i64 0, .slice A2 1 c2] 43)) (hb : b = w.heap.size) :
    Calls Tryd.prog 12 #[.slice (some ⟨b, 0, none⟩) 2 2] W fun e w' => e = .returned (.tuple #[.string ⟨#[97, 32, 34, 98, 32, 99, 34, 10, 55, 10]⟩, .int .i64 0]) ∧ Below w.heap.size w w' := by
  subst hW hb
  have h3 := rsl_lit w [(0, [mkW ⟨#[97]⟩, mkW ⟨#[98, 32, 99]⟩]), (0, [mkW ⟨#[55]⟩])] [.slice A1 2 c1, .slice A2 1 c2] (by simp) rfl (fun i u r hu hr => by
    match i with
    | 0 => cases hu; cases hr; exact h1
    | 1 => cases hu; cases hr; exact h2
    | i + 2 => simp at hu)
  have h := text_any _ _ _ h3 (by simp) (by decide)
  rw [text_awake] at h
  refine h.mono ?_
  rintro e w' ⟨rfl, hb⟩
  exact ⟨rfl, (below1 _ _).trans (hb.mono (by rw [World.size_alloc]; omega))⟩
theorem rows_a (w : World) : Calls Tryd.prog 25 #[.string ⟨#[97, 32, 34, 98, 32, 99, 34, 32, 35, 32, 110, 111, 10, 32, 32, 120, 10]⟩] w fun e w' => Below w.heap.size w w' ∧ ∃ A c, e = .returned (.tuple #[.slice A 2 c, .agg #[.int .i64 0, .int .i64 0]]) ∧ RSl w' (.slice A 2 c) (rsI rsA) := rows_ok read_awake w
set_option maxRecDepth 100000 in
set_option maxHeartbeats 4000000 in
theorem awake_any (w : World) : Calls Tryd.prog 10 #[] w fun e w' => e = .returned (.bool true) ∧ Below w.heap.size w w' := by
  have hW1 := fun w => wordL_any false ⟨#[97]⟩ 0 w
  have hW2 := fun w => wordL_any true ⟨#[98, 32, 99]⟩ 2 w
  have hW3 := fun w => wordL_any false ⟨#[120]⟩ 15 w
  go_enter Tryd.func10, Tryd.ntmps10
  go_wp2_with (first
    | (go_at_call 25; go_loud (with_reducible refine (rows_a _).mono ?_; rintro e w1 ⟨hb1, A, c, rfl, hrs⟩; have HRS := Lib.hid hrs; clear hrs))
    | (go_at_call 27; with_reducible refine (hW1 _).mono ?_; rintro e w2 ⟨rfl, hb2⟩)
    | (go_at_call 27; with_reducible refine (hW2 _).mono ?_; rintro e w3 ⟨rfl, hb3⟩)
    | (go_at_call 27; with_reducible refine (hW3 _).mono ?_; rintro e w4 ⟨rfl, hb4⟩)
    | (go_at_call 23; go_loud ((with_reducible refine (make1_a ((w4.alloc (.cells #[.bool false, .string ⟨#[120]⟩, .int .i64 15] 31)).alloc (.cells #[.int .i64 0, .slice (some ⟨w3.heap.size, 0, none⟩) 2 2, .int .i64 13, .slice (some ⟨w4.heap.size, 0, none⟩) 1 1] 43)) _ _ ?hA ?hB).mono ?_); (case hA => rfl); (case hB => simp only [World.size_alloc]); rintro e w5 ⟨A5, c5, rfl, hb5, hm5⟩))
    | (go_at_call 23; go_loud ((with_reducible refine (make2_a w5 _ _ ?hA ?hB).mono ?_); (case hA => rfl); (case hB => rfl); rintro e w6 ⟨A6, c6, rfl, hb6, hm6⟩))
    | (go_at_call 12; go_loud ((with_reducible refine (text_a w6 _ _ A5 A6 c5 c6 (hm5.later hb6) hm6 ?hA ?hB).mono ?_); (case hA => rfl); (case hB => rfl); rintro e w7 ⟨rfl, hb7⟩; have K2 : Blk w2 w1.heap.size [.int .i64 0, .int .i64 0] := (Blk.is _ rfl).later hb2; have C5 := bstep (bstep (bstep (bstep hb3 (below1 w3 _)) hb4) (below2 w4 _ _)) hb5; have C7 := bstep (bstep C5 hb6) hb7; have K7 := K2.later C7; have k0 := K7.cell 0 _ rfl; have k1 := K7.cell 1 _ rfl; have H7 := HRS.out.later (bstep (bstep (below1 w1 _) hb2) C7); have want := (want_any w3 w4 (by rw [World.size_alloc] at hb4; exact hb4)).later (bstep (bstep hb5 hb6) hb7); have HH := Lib.hid H7; have WW := Lib.hid want; have BB := Lib.hid (bstep hb1 (bstep (bstep (below1 w1 _) hb2) C7)); clear K2 K7 H7 want))
    | (go_at_call 14; go_loud (refine (sameRows_same _ _ (rsI rsA) _ HH.out WW.out).mono ?_; rintro e w8 ⟨rfl, n, rfl⟩)))
  go_ret
  exact ⟨rfl, below_drewN BB.out _⟩
end Go.Proofs.YtkmkhegekonbmaaDoor
