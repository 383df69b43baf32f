/- Walks: atoms that are equal, sound atoms, nodes that are sound if their kids are. Made by program (wip/tools/gen_astI.py). -/
import Derived.Test.YtfibmdbplfghcaaGreatDoorAstE
namespace Go.Proofs.YtfibmdbplfghcaaGreatDoor
open Go.RowKit
open A8 Tk7

theorem isEmpty_is (l : List UInt8) : (strOf l).toList.isEmpty = l.isEmpty := by rw [strOf_toL]

set_option maxRecDepth 100000 in
set_option maxHeartbeats 2000000 in
theorem sameAtom_0 (xk : Int) (xb : Bool) (xn : Int) (xs : ByteArray) (yk : Int) (yb : Bool) (yn : Int) (ys : ByteArray) (A B : Option Addr) (n m c e : Nat) (sx sy : Value) (hsx : sx = .slice A n c) (hsy : sy = .slice B m e) (h : ¬ xk = yk) (w : World) :
    Calls Tryz.prog 94 #[.agg #[.int .i64 xk, .bool xb, .int .u64 xn, sx, .string xs], .agg #[.int .i64 yk, .bool yb, .int .u64 yn, sy, .string ys]] w fun e w' => e = .returned (.bool false) ∧ Below w.heap.size w w' := by
  subst hsx hsy
  have hb : (xk == yk) = false := by rw [beq_eq_false_iff_ne]; exact h
  go_enter Tryz.func94, Tryz.ntmps94
  go_wp2
  go_ret
  exact ⟨rfl, b2 _ _ _⟩

set_option maxRecDepth 100000 in
set_option maxHeartbeats 2000000 in
theorem sameAtom_1 (xk : Int) (xb : Bool) (xn : Int) (xs : ByteArray) (yb : Bool) (yn : Int) (ys : ByteArray) (A B : Option Addr) (n m c e : Nat) (sx sy : Value) (hsx : sx = .slice A n c) (hsy : sy = .slice B m e) (h : ¬ xb = yb) (w : World) :
    Calls Tryz.prog 94 #[.agg #[.int .i64 xk, .bool xb, .int .u64 xn, sx, .string xs], .agg #[.int .i64 xk, .bool yb, .int .u64 yn, sy, .string ys]] w fun e w' => e = .returned (.bool false) ∧ Below w.heap.size w w' := by
  subst hsx hsy
  have hb : (xb == yb) = false := by rw [beq_eq_false_iff_ne]; exact h
  go_enter Tryz.func94, Tryz.ntmps94
  go_wp2
  go_ret
  exact ⟨rfl, b2 _ _ _⟩

set_option maxRecDepth 100000 in
set_option maxHeartbeats 2000000 in
theorem sameAtom_2 (xk : Int) (xb : Bool) (xn : Int) (xs : ByteArray) (yn : Int) (ys : ByteArray) (A B : Option Addr) (n m c e : Nat) (sx sy : Value) (hsx : sx = .slice A n c) (hsy : sy = .slice B m e) (h : ¬ xn = yn) (w : World) :
    Calls Tryz.prog 94 #[.agg #[.int .i64 xk, .bool xb, .int .u64 xn, sx, .string xs], .agg #[.int .i64 xk, .bool xb, .int .u64 yn, sy, .string ys]] w fun e w' => e = .returned (.bool false) ∧ Below w.heap.size w w' := by
  subst hsx hsy
  have hb : (xn == yn) = false := by rw [beq_eq_false_iff_ne]; exact h
  go_enter Tryz.func94, Tryz.ntmps94
  go_wp2
  go_ret
  exact ⟨rfl, b2 _ _ _⟩

set_option maxRecDepth 100000 in
set_option maxHeartbeats 2000000 in
theorem sameAtom_3 (xk : Int) (xb : Bool) (xn : Int) (xs : ByteArray) (ys : ByteArray) (A B : Option Addr) (n m c e : Nat) (sx sy : Value) (hsx : sx = .slice A n c) (hsy : sy = .slice B m e) (h : ¬ xs = ys) (w : World) :
    Calls Tryz.prog 94 #[.agg #[.int .i64 xk, .bool xb, .int .u64 xn, sx, .string xs], .agg #[.int .i64 xk, .bool xb, .int .u64 xn, sy, .string ys]] w fun e w' => e = .returned (.bool false) ∧ Below w.heap.size w w' := by
  subst hsx hsy
  have hb : (xs.toList == ys.toList) = false := str_ne h
  have hb2 : ¬ xs.toList = ys.toList := by rw [beq_eq_false_iff_ne] at hb; exact hb
  go_enter Tryz.func94, Tryz.ntmps94
  go_wp2
  go_ret
  exact ⟨rfl, b2 _ _ _⟩

set_option maxRecDepth 100000 in
set_option maxHeartbeats 2000000 in
theorem sameAtom_4 (xk : Int) (xb : Bool) (xn : Int) (xs : ByteArray)  (A B : Option Addr) (n m c e : Nat) (sx sy : Value) (hsx : sx = .slice A n c) (hsy : sy = .slice B m e) (w : World) (q : Bool)
    (hq : ∀ w', Below w.heap.size w w' → Calls Tryz.prog 112 #[sx, sy, .func (.func 113) #[] #[]] w' fun e w'' => e = .returned (.bool q) ∧ Below w'.heap.size w' w'') :
    Calls Tryz.prog 94 #[.agg #[.int .i64 xk, .bool xb, .int .u64 xn, sx, .string xs], .agg #[.int .i64 xk, .bool xb, .int .u64 xn, sy, .string xs]] w fun e w' => e = .returned (.bool q) ∧ Below w.heap.size w w' := by
  subst hsx hsy
  go_enter Tryz.func94, Tryz.ntmps94
  go_wp2_with (go_at_call 112; refine (hq _ (b2 _ _ _)).mono ?_; rintro e w' ⟨rfl, hb⟩)
  go_ret
  exact ⟨rfl, bstep (b2 _ _ _) hb⟩

theorem sameAtom_any (g h : GA) (w : World) (hg : OneA w g) (hh : OneA w h) :
    Calls Tryz.prog 94 #[.agg (gaC g).toArray, .agg (gaC h).toArray] w fun e w' => e = .returned (.bool (decide (g.a = h.a))) ∧ Below w.heap.size w w' := by
  obtain ⟨⟨kd, bd, bn, cs, nm⟩, sc⟩ := g
  obtain ⟨⟨kd', bd', bn', cs', nm'⟩, sc'⟩ := h
  obtain ⟨-, h1⟩ := hg
  obtain ⟨-, h2⟩ := hh
  simp only at h1 h2
  have hq := fun w' (hb : Below w.heap.size w w') => sameListCond_any sc sc' cs cs' w' (h1.later hb) (h2.later hb)
  obtain ⟨A, c, hA, -, -⟩ := sl_get (by decide) h1
  obtain ⟨B, e, hB, -, -⟩ := sl_get (by decide) h2
  simp only [gaC, At.mk.injEq]
  by_cases e1 : kd = kd'
  · subst e1
    by_cases e2 : bd = bd'
    · subst e2
      by_cases e3 : bn = bn'
      · subst e3
        by_cases e5 : nm = nm'
        · subst e5
          simp only [true_and, and_true]
          exact sameAtom_4 kd bd bn (strOf nm) A B _ _ c e sc sc' hA hB w _ hq
        · simp only [e5, and_false, decide_false]
          exact sameAtom_3 kd bd bn (strOf nm) (strOf nm') A B _ _ c e sc sc' hA hB (fun h => e5 (strOf_inj h)) w
      · simp only [e3, false_and, and_false, decide_false]
        exact sameAtom_2 kd bd bn (strOf nm) bn' (strOf nm') A B _ _ c e sc sc' hA hB e3 w
    · simp only [e2, false_and, and_false, decide_false]
      exact sameAtom_1 kd bd bn (strOf nm) bd' bn' (strOf nm') A B _ _ c e sc sc' hA hB e2 w
  · simp only [e1, false_and, decide_false]
    exact sameAtom_0 kd bd bn (strOf nm) kd' bd' bn' (strOf nm') A B _ _ c e sc sc' hA hB e1 w

set_option maxRecDepth 100000 in
set_option maxHeartbeats 2000000 in
theorem isAtom_f (k n : Int) (A : Option Addr) (m c : Nat) (s : ByteArray) (b : Bool) (w : World)
    (h1 : ∀ w, Calls Tryz.prog 88 #[.int .i64 0, .int .i64 k, .int .i64 25] w fun e w' => e = .returned (.bool false) ∧ w = w') :
    Calls Tryz.prog 93 #[.agg #[.int .i64 k, .bool b, .int .u64 n, .slice A m c, .string s]] w fun e w' => e = .returned (.bool false) ∧ Below w.heap.size w w' := by
  go_enter Tryz.func93, Tryz.ntmps93
  go_wp2_with (first | (go_at_call 88; refine (h1 _).mono ?_; rintro e w2 ⟨rfl, rfl⟩))
  go_ret
  exact ⟨rfl, b1 _ _⟩

set_option maxRecDepth 100000 in
set_option maxHeartbeats 2000000 in
theorem isAtom_n (k n : Int) (A : Option Addr) (m c : Nat) (s : ByteArray) (_q3 : Bool) (hz : ¬ n = 0) (w : World)
    (h1 : ∀ w, Calls Tryz.prog 88 #[.int .i64 0, .int .i64 k, .int .i64 25] w fun e w' => e = .returned (.bool true) ∧ w = w') :
    Calls Tryz.prog 93 #[.agg #[.int .i64 k, .bool false, .int .u64 n, .slice A m c, .string s]] w fun e w' => e = .returned (.bool false) ∧ Below w.heap.size w w' := by
  have hzb : (n == 0) = false := by rw [beq_eq_false_iff_ne]; exact hz
  go_enter Tryz.func93, Tryz.ntmps93
  go_wp2_with (first | (go_at_call 88; refine (h1 _).mono ?_; rintro e w2 ⟨rfl, rfl⟩))
  go_ret
  exact ⟨rfl, b1 _ _⟩

set_option maxRecDepth 100000 in
set_option maxHeartbeats 2000000 in
theorem isAtom_tf (k n : Int) (A : Option Addr) (m c : Nat) (s : ByteArray) (_q3 : Bool) (w : World)
    (h1 : ∀ w, Calls Tryz.prog 88 #[.int .i64 0, .int .i64 k, .int .i64 25] w fun e w' => e = .returned (.bool true) ∧ w = w')
    (h2 : ∀ w', Below w.heap.size w w' → Calls Tryz.prog 111 #[.slice A m c, .func (.func 85) #[] #[]] w' fun e w'' => e = .returned (.bool false) ∧ Below w'.heap.size w' w'') :
    Calls Tryz.prog 93 #[.agg #[.int .i64 k, .bool true, .int .u64 n, .slice A m c, .string s]] w fun e w' => e = .returned (.bool false) ∧ Below w.heap.size w w' := by
  go_enter Tryz.func93, Tryz.ntmps93
  go_wp2_with (first | (go_at_call 88; refine (h1 _).mono ?_; rintro e w2 ⟨rfl, rfl⟩) | (go_at_call 111; refine (h2 _ (b1 _ _)).mono ?_; rintro e w3 ⟨rfl, hb3⟩))
  go_ret
  exact ⟨rfl, bstep (b1 _ _) hb3⟩

set_option maxRecDepth 100000 in
set_option maxHeartbeats 2000000 in
theorem isAtom_te (k n : Int) (A : Option Addr) (m c : Nat) (s : ByteArray) (_q3 : Bool) (w : World)
    (h1 : ∀ w, Calls Tryz.prog 88 #[.int .i64 0, .int .i64 k, .int .i64 25] w fun e w' => e = .returned (.bool true) ∧ w = w')
    (h2 : ∀ w', Below w.heap.size w w' → Calls Tryz.prog 111 #[.slice A m c, .func (.func 85) #[] #[]] w' fun e w'' => e = .returned (.bool true) ∧ Below w'.heap.size w' w'')
    (he : s.toList.isEmpty = true) :
    Calls Tryz.prog 93 #[.agg #[.int .i64 k, .bool true, .int .u64 n, .slice A m c, .string s]] w fun e w' => e = .returned (.bool true) ∧ Below w.heap.size w w' := by
  have hbx : ∀ w1, Below (w.alloc (.cells #[.int .i64 k, .bool true, .int .u64 n, .slice A m c, .string s] 25)).heap.size (w.alloc (.cells #[.int .i64 k, .bool true, .int .u64 n, .slice A m c, .string s] 25)) w1 → Blk w1 w.heap.size [.int .i64 k, .bool true, .int .u64 n, .slice A m c, .string s] := fun w1 hb => (Blk.new w [.int .i64 k, .bool true, .int .u64 n, .slice A m c, .string s] 25).later hb
  go_enter Tryz.func93, Tryz.ntmps93
  go_wp2_with (first | (go_at_call 88; refine (h1 _).mono ?_; rintro e w2 ⟨rfl, rfl⟩) | (go_at_call 111; refine (h2 _ (b1 _ _)).mono ?_; rintro e w3 ⟨rfl, hb3⟩; have c4 := (hbx _ hb3).cell 4 _ rfl))
  go_ret
  exact ⟨rfl, bstep (b1 _ _) hb3⟩

set_option maxRecDepth 100000 in
set_option maxHeartbeats 2000000 in
theorem isAtom_tm (k n : Int) (A : Option Addr) (m c : Nat) (s : ByteArray) (q3 : Bool) (w : World)
    (h1 : ∀ w, Calls Tryz.prog 88 #[.int .i64 0, .int .i64 k, .int .i64 25] w fun e w' => e = .returned (.bool true) ∧ w = w')
    (h2 : ∀ w', Below w.heap.size w w' → Calls Tryz.prog 111 #[.slice A m c, .func (.func 85) #[] #[]] w' fun e w'' => e = .returned (.bool true) ∧ Below w'.heap.size w' w'')
    (he : s.toList.isEmpty = false)
    (h3 : ∀ w', Below w.heap.size w w' → Calls Tryz.prog 18 #[.string s] w' fun e w'' => e = .returned (.bool q3) ∧ Below w'.heap.size w' w'') :
    Calls Tryz.prog 93 #[.agg #[.int .i64 k, .bool true, .int .u64 n, .slice A m c, .string s]] w fun e w' => e = .returned (.bool q3) ∧ Below w.heap.size w w' := by
  have hbx : ∀ w1, Below (w.alloc (.cells #[.int .i64 k, .bool true, .int .u64 n, .slice A m c, .string s] 25)).heap.size (w.alloc (.cells #[.int .i64 k, .bool true, .int .u64 n, .slice A m c, .string s] 25)) w1 → Blk w1 w.heap.size [.int .i64 k, .bool true, .int .u64 n, .slice A m c, .string s] := fun w1 hb => (Blk.new w [.int .i64 k, .bool true, .int .u64 n, .slice A m c, .string s] 25).later hb
  go_enter Tryz.func93, Tryz.ntmps93
  go_wp2_with (first | (go_at_call 88; refine (h1 _).mono ?_; rintro e w2 ⟨rfl, rfl⟩) | (go_at_call 111; refine (h2 _ (b1 _ _)).mono ?_; rintro e w3 ⟨rfl, hb3⟩; have c4 := (hbx _ hb3).cell 4 _ rfl) | (go_at_call 18; refine (h3 _ (bstep (b1 _ _) hb3)).mono ?_; rintro e w4 ⟨rfl, hb4⟩))
  go_ret
  exact ⟨rfl, bstep (bstep (b1 _ _) hb3) hb4⟩

set_option maxRecDepth 100000 in
set_option maxHeartbeats 2000000 in
theorem isAtom_zf (k _n : Int) (A : Option Addr) (m c : Nat) (s : ByteArray) (_q3 : Bool) (w : World)
    (h1 : ∀ w, Calls Tryz.prog 88 #[.int .i64 0, .int .i64 k, .int .i64 25] w fun e w' => e = .returned (.bool true) ∧ w = w')
    (h2 : ∀ w', Below w.heap.size w w' → Calls Tryz.prog 111 #[.slice A m c, .func (.func 85) #[] #[]] w' fun e w'' => e = .returned (.bool false) ∧ Below w'.heap.size w' w'') :
    Calls Tryz.prog 93 #[.agg #[.int .i64 k, .bool false, .int .u64 0, .slice A m c, .string s]] w fun e w' => e = .returned (.bool false) ∧ Below w.heap.size w w' := by
  go_enter Tryz.func93, Tryz.ntmps93
  go_wp2_with (first | (go_at_call 88; refine (h1 _).mono ?_; rintro e w2 ⟨rfl, rfl⟩) | (go_at_call 111; refine (h2 _ (b1 _ _)).mono ?_; rintro e w3 ⟨rfl, hb3⟩))
  go_ret
  exact ⟨rfl, bstep (b1 _ _) hb3⟩

set_option maxRecDepth 100000 in
set_option maxHeartbeats 2000000 in
theorem isAtom_ze (k _n : Int) (A : Option Addr) (m c : Nat) (s : ByteArray) (_q3 : Bool) (w : World)
    (h1 : ∀ w, Calls Tryz.prog 88 #[.int .i64 0, .int .i64 k, .int .i64 25] w fun e w' => e = .returned (.bool true) ∧ w = w')
    (h2 : ∀ w', Below w.heap.size w w' → Calls Tryz.prog 111 #[.slice A m c, .func (.func 85) #[] #[]] w' fun e w'' => e = .returned (.bool true) ∧ Below w'.heap.size w' w'')
    (he : s.toList.isEmpty = true) :
    Calls Tryz.prog 93 #[.agg #[.int .i64 k, .bool false, .int .u64 0, .slice A m c, .string s]] w fun e w' => e = .returned (.bool true) ∧ Below w.heap.size w w' := by
  have hbx : ∀ w1, Below (w.alloc (.cells #[.int .i64 k, .bool false, .int .u64 0, .slice A m c, .string s] 25)).heap.size (w.alloc (.cells #[.int .i64 k, .bool false, .int .u64 0, .slice A m c, .string s] 25)) w1 → Blk w1 w.heap.size [.int .i64 k, .bool false, .int .u64 0, .slice A m c, .string s] := fun w1 hb => (Blk.new w [.int .i64 k, .bool false, .int .u64 0, .slice A m c, .string s] 25).later hb
  go_enter Tryz.func93, Tryz.ntmps93
  go_wp2_with (first | (go_at_call 88; refine (h1 _).mono ?_; rintro e w2 ⟨rfl, rfl⟩) | (go_at_call 111; refine (h2 _ (b1 _ _)).mono ?_; rintro e w3 ⟨rfl, hb3⟩; have c4 := (hbx _ hb3).cell 4 _ rfl))
  go_ret
  exact ⟨rfl, bstep (b1 _ _) hb3⟩

set_option maxRecDepth 100000 in
set_option maxHeartbeats 2000000 in
theorem isAtom_zm (k _n : Int) (A : Option Addr) (m c : Nat) (s : ByteArray) (q3 : Bool) (w : World)
    (h1 : ∀ w, Calls Tryz.prog 88 #[.int .i64 0, .int .i64 k, .int .i64 25] w fun e w' => e = .returned (.bool true) ∧ w = w')
    (h2 : ∀ w', Below w.heap.size w w' → Calls Tryz.prog 111 #[.slice A m c, .func (.func 85) #[] #[]] w' fun e w'' => e = .returned (.bool true) ∧ Below w'.heap.size w' w'')
    (he : s.toList.isEmpty = false)
    (h3 : ∀ w', Below w.heap.size w w' → Calls Tryz.prog 18 #[.string s] w' fun e w'' => e = .returned (.bool q3) ∧ Below w'.heap.size w' w'') :
    Calls Tryz.prog 93 #[.agg #[.int .i64 k, .bool false, .int .u64 0, .slice A m c, .string s]] w fun e w' => e = .returned (.bool q3) ∧ Below w.heap.size w w' := by
  have hbx : ∀ w1, Below (w.alloc (.cells #[.int .i64 k, .bool false, .int .u64 0, .slice A m c, .string s] 25)).heap.size (w.alloc (.cells #[.int .i64 k, .bool false, .int .u64 0, .slice A m c, .string s] 25)) w1 → Blk w1 w.heap.size [.int .i64 k, .bool false, .int .u64 0, .slice A m c, .string s] := fun w1 hb => (Blk.new w [.int .i64 k, .bool false, .int .u64 0, .slice A m c, .string s] 25).later hb
  go_enter Tryz.func93, Tryz.ntmps93
  go_wp2_with (first | (go_at_call 88; refine (h1 _).mono ?_; rintro e w2 ⟨rfl, rfl⟩) | (go_at_call 111; refine (h2 _ (b1 _ _)).mono ?_; rintro e w3 ⟨rfl, hb3⟩; have c4 := (hbx _ hb3).cell 4 _ rfl) | (go_at_call 18; refine (h3 _ (bstep (b1 _ _) hb3)).mono ?_; rintro e w4 ⟨rfl, hb4⟩))
  go_ret
  exact ⟨rfl, bstep (bstep (b1 _ _) hb3) hb4⟩

theorem isAtom_any (g : GA) (w : World) (hg : OneA w g) (hG : SG w) :
    Calls Tryz.prog 93 #[.agg (gaC g).toArray] w fun e w' => e = .returned (.bool (atomB g.a)) ∧ Below w.heap.size w w' := by
  obtain ⟨⟨kd, bd, bn, cs, nm⟩, sc⟩ := g
  obtain ⟨-, h1⟩ := hg
  simp only at h1
  have hq1 := fun w => isFrom_any 0 kd 25 w
  have hq2 := fun w' (hb : Below w.heap.size w w') => areAllCond_any sc cs w' (h1.later hb)
  have hq3 := fun w' (hb : Below w.heap.size w w') => name_any nm w' (hG.later hb)
  obtain ⟨A, c, rfl, -, -⟩ := sl_get (by decide) h1
  simp only [gaC, atomB]
  have he := isEmpty_is nm
  cases e1 : (decide (0 ≤ kd) && decide (kd ≤ 25)) with
  | false =>
    rw [e1] at hq1
    simp only [Bool.false_and]
    exact isAtom_f kd bn A _ c (strOf nm) bd w hq1
  | true =>
    rw [e1] at hq1
    cases bd with
    | true =>
      cases e2 : cs.all condB with
      | false =>
        rw [e2] at hq2
        simp only [Bool.true_or, Bool.and_false, Bool.false_and]
        exact isAtom_tf kd bn A _ c (strOf nm) true w hq1 hq2
      | true =>
        rw [e2] at hq2
        cases e3 : nm.isEmpty with
        | true =>
          rw [e3] at he
          simp only [Bool.true_or, Bool.and_true]
          exact isAtom_te kd bn A _ c (strOf nm) true w hq1 hq2 he
        | false =>
          rw [e3] at he
          simp only [Bool.true_or, Bool.and_true, Bool.true_and, Bool.false_or]
          exact isAtom_tm kd bn A _ c (strOf nm) _ w hq1 hq2 he hq3
    | false =>
      by_cases e4 : bn = 0
      · subst e4
        cases e2 : cs.all condB with
        | false =>
          rw [e2] at hq2
          simp only [decide_true, Bool.or_true, Bool.and_false, Bool.false_and]
          exact isAtom_zf kd 0 A _ c (strOf nm) true w hq1 hq2
        | true =>
          rw [e2] at hq2
          cases e3 : nm.isEmpty with
          | true =>
            rw [e3] at he
            simp only [decide_true, Bool.or_true, Bool.true_or, Bool.and_true]
            exact isAtom_ze kd 0 A _ c (strOf nm) true w hq1 hq2 he
          | false =>
            rw [e3] at he
            simp only [decide_true, Bool.or_true, Bool.and_true, Bool.true_and, Bool.false_or]
            exact isAtom_zm kd 0 A _ c (strOf nm) _ w hq1 hq2 he hq3
      · simp only [e4, decide_false, Bool.or_false, Bool.and_false, Bool.false_and]
        exact isAtom_n kd bn A _ c (strOf nm) true e4 w hq1

end Go.Proofs.YtfibmdbplfghcaaGreatDoor
