/- Walk: LatticeKnown: the chapter's examples. -/
import Derived.Test.YtdhbadngbhdanaaDoorLatOr
import Derived.Test.YtdhbadngbhdanaaDoorLatU
import Derived.Test.YtdhbadngbhdanaaDoorLatW
namespace Go.Proofs.YtdhbadngbhdanaaDoor.Lt
open Go.RowKit Go.Shelf

theorem h1237 : heightL [1, 2, 3, 7] = 3 := by decide +kernel
theorem ilit (w : World) (l : List Nat) (n : Nat) (hn : l.length = n) (hm : n ≤ 1000) : Slc (w.alloc (.cells (nv l).toArray 3)) (.slice (some ⟨w.heap.size, 0, none⟩) n n) (nv l) :=
  Slc.lit w (nv l) 3 n (by simp [nv, vals, hn]) (by omega)
theorem al {w w' : World} (o : Obj) (h : Below (w.alloc o).heap.size (w.alloc o) w') : Below w.heap.size w w' := bstep ((Below.refl _ w).alloc (Nat.le_refl _) o) h
/-- What a call on a literal family answers. -/
def OnLit (f : FuncId) (l : List Nat) (xs : List Value) (Q : World → Ending → World → Prop) : Prop :=
  ∀ w : World, Calls Tryd.prog f (([Value.slice (some ⟨w.heap.size, 0, none⟩) l.length l.length] ++ xs).toArray) (w.alloc (.cells (lv l).toArray 23)) (Q w)
theorem cap_lit (A : Option Addr) (n : Nat) : Cap (.slice A n n) := ⟨_, _, _, rfl, Nat.le_refl _⟩
set_option maxRecDepth 100000 in
set_option maxHeartbeats 8000000 in
theorem known_any (w : World) (hg : 0 < w.heap.size) (hT : TabAt 0 Lib.deBruijn64tab w) :
    Calls Tryd.prog 4 #[] w fun e w' => e = .returned (.bool true) ∧ Below w.heap.size w w' := by
  have HTB := Lib.hid (show ∀ W, Below w.heap.size w W → ∀ o, 0 < (W.alloc o).heap.size ∧ TabAt 0 Lib.deBruijn64tab (W.alloc o) from fun W hb o => ⟨by have := hb.size; rw [World.size_alloc]; omega, tab_below hT (hb.alloc hb.size o) hg⟩)
  have j0 : ∀ w : World, Calls Tryd.prog 20 #[.slice none 0 0] w fun e w' => e = .returned (.tuple #[.int .u64 0, .int .i64 0]) ∧ Below w.heap.size w w' := fun w => join_all (l := []) (Slc.nil w) (fun x hx => by cases hx)
  have m1 : ∀ w : World, Calls Tryd.prog 21 #[.slice (some ⟨w.heap.size, 0, none⟩) 2 2] (w.alloc (.cells #[.int .u64 3, .int .u64 6] 23)) fun e w' => e = .returned (.tuple #[.int .u64 2, .int .i64 0]) ∧ Below w.heap.size w w' := fun w =>
    (meet_all (lit w [3, 6] 2 rfl (by decide)) (u64_small (by decide)) (cap_lit _ _)).mono fun e w' ⟨h1, h2⟩ => ⟨h1, al _ h2⟩
  have m0 : ∀ w : World, Calls Tryd.prog 21 #[.slice none 0 0] w fun e w' => e = .returned (.tuple #[.int .u64 0, .int .i64 7]) ∧ Below w.heap.size w w' := fun w => meet_all (l := []) (Slc.nil w) (fun x hx => by cases hx) (cap_lit _ _)
  have b1 : ∀ w : World, Calls Tryd.prog 8 #[.slice (some ⟨w.heap.size, 0, none⟩) 4 4, .int .u64 5] (w.alloc (.cells #[.int .u64 1, .int .u64 2, .int .u64 3, .int .u64 0] 23)) fun e w' => ∃ v, e = .returned (.tuple #[v, .int .i64 0]) ∧ Slc w' v (nv [0, 3]) ∧ Below w.heap.size w w' := fun w =>
    (below_all 5 (lit w [1, 2, 3, 0] 4 rfl (by decide)) (u64_small (by decide)) (by decide)).mono fun e w' ⟨v, h1, h2, h3⟩ => ⟨v, h1, h2, al _ h3⟩
  have x1 : ∀ w : World, Calls Tryd.prog 11 #[.slice (some ⟨w.heap.size, 0, none⟩) 4 4] (w.alloc (.cells #[.int .u64 1, .int .u64 3, .int .u64 4, .int .u64 3] 23)) fun e w' => ∃ v, e = .returned (.tuple #[v, .int .i64 0]) ∧ Slc w' v (nv [1, 2, 3]) ∧ Below w.heap.size w w' := fun w =>
    (maximal_all (lit w [1, 3, 4, 3] 4 rfl (by decide)) (u64_small (by decide))).mono fun e w' ⟨v, h1, h2, h3⟩ => ⟨v, h1, h2, al _ h3⟩
  have n1 : ∀ w : World, Calls Tryd.prog 13 #[.slice (some ⟨w.heap.size, 0, none⟩) 4 4] (w.alloc (.cells #[.int .u64 1, .int .u64 3, .int .u64 4, .int .u64 3] 23)) fun e w' => ∃ v, e = .returned (.tuple #[v, .int .i64 0]) ∧ Slc w' v (nv [0, 2]) ∧ Below w.heap.size w w' := fun w =>
    (minimal_all (lit w [1, 3, 4, 3] 4 rfl (by decide)) (u64_small (by decide))).mono fun e w' ⟨v, h1, h2, h3⟩ => ⟨v, h1, h2, al _ h3⟩
  have c1 : ∀ W, Below w.heap.size w W → Calls Tryd.prog 15 #[.slice (some ⟨W.heap.size, 0, none⟩) 3 3] (W.alloc (.cells #[.int .u64 0, .int .u64 1, .int .u64 3] 23)) fun e w' => e = .returned (.tuple #[.bool true, .int .i64 0]) ∧ Below W.heap.size W w' := fun W hb =>
    (chain_all (lit W [0, 1, 3] 3 rfl (by decide)) (u64_small (by decide)) (HTB.out W hb _).1 (HTB.out W hb _).2).mono fun e w' ⟨h1, h2⟩ => ⟨h1, al _ h2⟩
  have c2 : ∀ W, Below w.heap.size w W → Calls Tryd.prog 15 #[.slice (some ⟨W.heap.size, 0, none⟩) 2 2] (W.alloc (.cells #[.int .u64 1, .int .u64 2] 23)) fun e w' => e = .returned (.tuple #[.bool false, .int .i64 0]) ∧ Below W.heap.size W w' := fun W hb =>
    (chain_all (lit W [1, 2] 2 rfl (by decide)) (u64_small (by decide)) (HTB.out W hb _).1 (HTB.out W hb _).2).mono fun e w' ⟨h1, h2⟩ => ⟨h1, al _ h2⟩
  have t1 : ∀ W, Below w.heap.size w W → Calls Tryd.prog 17 #[.slice (some ⟨W.heap.size, 0, none⟩) 4 4] (W.alloc (.cells #[.int .u64 1, .int .u64 2, .int .u64 3, .int .u64 7] 23)) fun e w' => e = .returned (.tuple #[.int .i64 3, .int .i64 0]) ∧ Below W.heap.size W w' := fun W hb =>
    (height_all (lit W [1, 2, 3, 7] 4 rfl (by decide)) (u64_small (by decide)) (HTB.out W hb _).1 (HTB.out W hb _).2).mono fun e w' ⟨h1, h2⟩ => ⟨by rw [h1]; unfold heightR; rw [h1237]; rfl, al _ h2⟩
  have k1 : ∀ w : World, Calls Tryd.prog 22 #[.slice (some ⟨w.heap.size, 0, none⟩) 2 2] (w.alloc (.cells #[.int .u64 1, .int .u64 1] 23)) fun e w' => ∃ v, e = .returned (.tuple #[v, .int .i64 0]) ∧ Slc w' v (lv [1]) ∧ Below w.heap.size w w' := fun w =>
    (closure_few (lit w [1, 1] 2 rfl (by decide)) (u64_small (by decide)) (by decide) (show closureR [1, 1] = ([1], 0) by decide)).mono fun e w' ⟨v, h1, h2, h3⟩ => ⟨v, h1, h2, al _ h3⟩
  have k0 : ∀ w : World, Calls Tryd.prog 22 #[.slice none 0 0] w fun e w' => ∃ A cap, e = .returned (.tuple #[.slice A 0 cap, .int .i64 0]) ∧ Below w.heap.size w w' := fun w =>
    (closure_few (l := []) (Slc.nil w) (fun x hx => by cases hx) (by decide) (show closureR [] = ([], 0) by decide)).mono fun e w' ⟨v, h1, h2, h3⟩ => by
      obtain ⟨A, cap, rfl, _, _⟩ := nats h2
      exact ⟨A, cap, h1, h3⟩
  have v1 : ∀ w : World, Calls Tryd.prog 23 #[.slice (some ⟨w.heap.size, 0, none⟩) 3 3, .int .u64 3] (w.alloc (.cells #[.int .u64 1, .int .u64 2, .int .u64 4] 23)) fun e w' => e = .returned (.tuple #[.int .u64 3, .int .i64 0]) ∧ Below w.heap.size w w' := fun w =>
    (cover_all 3 (lit w [1, 2, 4] 3 rfl (by decide)) (u64_small (by decide)) (by decide)).mono fun e w' ⟨h1, h2⟩ => ⟨h1, al _ h2⟩
  have v2 : ∀ w : World, Calls Tryd.prog 23 #[.slice (some ⟨w.heap.size, 0, none⟩) 1 1, .int .u64 2] (w.alloc (.cells #[.int .u64 1] 23)) fun e w' => e = .returned (.tuple #[.int .u64 0, .int .i64 13]) ∧ Below w.heap.size w w' := fun w =>
    (cover_all 2 (lit w [1] 1 rfl (by decide)) (u64_small (by decide)) (by decide)).mono fun e w' ⟨h1, h2⟩ => ⟨h1, al _ h2⟩
  have v3 : ∀ w : World, Calls Tryd.prog 23 #[.slice (some ⟨w.heap.size, 0, none⟩) 2 2, .int .u64 1] (w.alloc (.cells #[.int .u64 2, .int .u64 1] 23)) fun e w' => e = .returned (.tuple #[.int .u64 3, .int .i64 0]) ∧ Below w.heap.size w w' := fun w =>
    (cover_all 1 (lit w [2, 1] 2 rfl (by decide)) (u64_small (by decide)) (by decide)).mono fun e w' ⟨h1, h2⟩ => ⟨h1, al _ h2⟩
  have s2 : ∀ (W : World) (v : Value) (a b : Nat), Slc W v (nv [a, b]) → Calls Tryd.prog 10 #[v, .slice (some ⟨W.heap.size, 0, none⟩) 2 2] (W.alloc (.cells #[.int .i64 (a : Int), .int .i64 (b : Int)] 3)) fun e w' => e = .returned (.bool true) ∧ Below W.heap.size W w' := fun W v a b hv =>
    (sameInts_is (hv.alloc _) (ilit W [a, b] 2 rfl (by decide))).mono fun e w' ⟨h1, h2⟩ => ⟨h1, al _ h2⟩
  have s3 : ∀ (W : World) (v : Value), Slc W v (nv [1, 2, 3]) → Calls Tryd.prog 10 #[v, .slice (some ⟨W.heap.size, 0, none⟩) 3 3] (W.alloc (.cells #[.int .i64 1, .int .i64 2, .int .i64 3] 3)) fun e w' => e = .returned (.bool true) ∧ Below W.heap.size W w' := fun W v hv =>
    (sameInts_is (hv.alloc _) (ilit W [1, 2, 3] 3 rfl (by decide))).mono fun e w' ⟨h1, h2⟩ => ⟨h1, al _ h2⟩
  have s1 : ∀ (W : World) (v : Value), Slc W v (lv [1]) → Calls Tryd.prog 19 #[v, .slice (some ⟨W.heap.size, 0, none⟩) 1 1] (W.alloc (.cells #[.int .u64 1] 23)) fun e w' => e = .returned (.bool true) ∧ Below W.heap.size W w' := fun W v hv =>
    (same_is (hv.alloc _) (lit W [1] 1 rfl (by decide))).mono fun e w' ⟨h1, h2⟩ => ⟨h1, al _ h2⟩
  clear hT hg
  go_enter Tryd.func4, Tryd.ntmps4
  go_wp2_with fail
  refine (j0 _).mono ?_
  rintro e w1 ⟨rfl, h1⟩
  go_wp2_with fail
  refine (m1 _).mono ?_
  rintro e w2 ⟨rfl, h2⟩
  have B2 := bstep h1 h2
  go_wp2_with fail
  refine (m0 _).mono ?_
  rintro e w3 ⟨rfl, h3⟩
  have B3 := bstep B2 h3
  go_wp2_with fail
  refine (b1 _).mono ?_
  rintro e w4 ⟨va, rfl, ha, h4⟩
  have B4 := bstep B3 h4
  go_wp2_with fail
  refine (x1 _).mono ?_
  rintro e w5 ⟨vb, rfl, hb, h5⟩
  have B5 := bstep B4 h5
  go_wp2_with fail
  refine (n1 _).mono ?_
  rintro e w6 ⟨vc, rfl, hc, h6⟩
  have B6 := bstep B5 h6
  have ha6 := (ha.below h5).below h6
  have hb6 := hb.below h6
  go_wp2_with fail
  refine (s2 _ va 0 3 ha6).mono ?_
  rintro e w7 ⟨rfl, h7⟩
  have B7 := bstep B6 h7
  go_wp2_with fail
  refine (s3 _ vb (hb6.below h7)).mono ?_
  rintro e w8 ⟨rfl, h8⟩
  have B8 := bstep B7 h8
  go_wp2_with fail
  refine (s2 _ vc 0 2 ((hc.below h7).below h8)).mono ?_
  rintro e w9 ⟨rfl, h9⟩
  have B9 := bstep B8 h9
  clear ha hb hc ha6 hb6 h1 h2 h3 h4 h5 h6 h7 h8 h9 B2 B3 B4 B5 B6 B7 B8
  go_wp2_with fail
  refine (c1 _ B9).mono ?_
  rintro e w10 ⟨rfl, h10⟩
  have B10 := bstep B9 h10
  go_wp2_with fail
  refine (c2 _ B10).mono ?_
  rintro e w11 ⟨rfl, h11⟩
  have B11 := bstep B10 h11
  go_wp2_with fail
  refine (t1 _ B11).mono ?_
  rintro e w12 ⟨rfl, h12⟩
  have B12 := bstep B11 h12
  clear h10 h11 h12 B9 B10 B11
  go_wp2_with fail
  refine (k1 _).mono ?_
  rintro e w13 ⟨vd, rfl, hd, h13⟩
  have B13 := bstep B12 h13
  go_wp2_with fail
  refine (k0 _).mono ?_
  rintro e w14 ⟨A0, cap0, rfl, h14⟩
  have B14 := bstep B13 h14
  go_wp2_with fail
  refine (s1 _ vd (hd.below h14)).mono ?_
  rintro e w15 ⟨rfl, h15⟩
  have B15 := bstep B14 h15
  clear hd h13 h14 h15 B12 B13 B14
  go_wp2_with fail
  refine (v1 _).mono ?_
  rintro e w16 ⟨rfl, h16⟩
  have B16 := bstep B15 h16
  go_wp2_with fail
  refine (v2 _).mono ?_
  rintro e w17 ⟨rfl, h17⟩
  have B17 := bstep B16 h17
  go_wp2_with fail
  refine (v3 _).mono ?_
  rintro e w18 ⟨rfl, h18⟩
  have B18 := bstep B17 h18
  go_wp2_with (go_at_call 6; refine (awake_any _).mono ?_; rintro e w19 ⟨rfl, h19⟩)
  go_ret
  exact ⟨rfl, bstep B18 h19⟩
end Go.Proofs.YtdhbadngbhdanaaDoor.Lt
