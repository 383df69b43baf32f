/- Walks: the kit's comparing of atoms, nodes and queries. Made by program (wip/tools/gen_parSk.py). -/
import Derived.Test.YtdoioaeppepndaaGreatDoorAstSe
namespace Go.Proofs.YtdoioaeppepndaaGreatDoor
open Go.RowKit
open A8 Tk7

theorem qrow_sk (k mn mx kd : Int) (bd : Bool) (bn : Int) (cs : List Cn) (nm : List UInt8) (sc sk : Value) (ks : List Tr) (wi : Int) (sh se : Value) (hv : List Hv) (em : List Ag) :
    GQ.row ⟨.mk k mn mx ⟨⟨kd, bd, bn, cs, nm⟩, sc⟩ sk ks, wi, sh, hv, se, em⟩ = [.int .i64 k, .int .i64 mn, .int .i64 mx, .int .i64 kd, .bool bd, .int .u64 bn, sc, .string (strOf nm), sk, .int .u64 wi, sh, se] := rfl

set_option maxRecDepth 100000 in
set_option maxHeartbeats 4000000 in
theorem ksameAtom_0 (xk : Int) (xb : Bool) (xn : Int) (xs : ByteArray) (yk : Int) (yb : Bool) (yn : Int) (ys : ByteArray) (A B : Option Addr) (n m c e : Nat) (h : ¬ xk = yk) (w : World) :
    Calls Tryz.prog 100 #[.agg #[.int .i64 xk, .bool xb, .int .u64 xn, .slice A n c, .string xs], .agg #[.int .i64 yk, .bool yb, .int .u64 yn, .slice B m e, .string ys]] w fun e w' => e = .returned (.bool false) ∧ Below w.heap.size w w' := by
  have hb : (xk == yk) = false := by rw [beq_eq_false_iff_ne]; exact h
  have hb3 : (xk != yk) = true := by simp only [bne, hb]; rfl
  go_enter Tryz.func100, Tryz.ntmps100
  go_wp2
  go_ret
  exact ⟨rfl, b2 _ _ _⟩
set_option maxRecDepth 100000 in
set_option maxHeartbeats 4000000 in
theorem ksameAtom_1 (xk : Int) (xb : Bool) (xn : Int) (xs : ByteArray) (yb : Bool) (yn : Int) (ys : ByteArray) (A B : Option Addr) (n m c e : Nat) (h : ¬ xb = yb) (w : World) :
    Calls Tryz.prog 100 #[.agg #[.int .i64 xk, .bool xb, .int .u64 xn, .slice A n c, .string xs], .agg #[.int .i64 xk, .bool yb, .int .u64 yn, .slice B m e, .string ys]] w fun e w' => e = .returned (.bool false) ∧ Below w.heap.size w w' := by
  have hb : (xb == yb) = false := by rw [beq_eq_false_iff_ne]; exact h
  have hb3 : (xb != yb) = true := by simp only [bne, hb]; rfl
  go_enter Tryz.func100, Tryz.ntmps100
  go_wp2
  go_ret
  exact ⟨rfl, b2 _ _ _⟩
set_option maxRecDepth 100000 in
set_option maxHeartbeats 4000000 in
theorem ksameAtom_2 (xk : Int) (xb : Bool) (xn : Int) (xs : ByteArray) (yn : Int) (ys : ByteArray) (A B : Option Addr) (n m c e : Nat) (h : ¬ xn = yn) (w : World) :
    Calls Tryz.prog 100 #[.agg #[.int .i64 xk, .bool xb, .int .u64 xn, .slice A n c, .string xs], .agg #[.int .i64 xk, .bool xb, .int .u64 yn, .slice B m e, .string ys]] w fun e w' => e = .returned (.bool false) ∧ Below w.heap.size w w' := by
  have hb : (xn == yn) = false := by rw [beq_eq_false_iff_ne]; exact h
  have hb3 : (xn != yn) = true := by simp only [bne, hb]; rfl
  go_enter Tryz.func100, Tryz.ntmps100
  go_wp2
  go_ret
  exact ⟨rfl, b2 _ _ _⟩
set_option maxRecDepth 100000 in
set_option maxHeartbeats 4000000 in
theorem ksameAtom_3 (xk : Int) (xb : Bool) (xn : Int) (xs : ByteArray) (ys : ByteArray) (A B : Option Addr) (n m c e : Nat) (h : ¬ xs = ys) (w : World) :
    Calls Tryz.prog 100 #[.agg #[.int .i64 xk, .bool xb, .int .u64 xn, .slice A n c, .string xs], .agg #[.int .i64 xk, .bool xb, .int .u64 xn, .slice B m e, .string ys]] w fun e w' => e = .returned (.bool false) ∧ Below w.heap.size w w' := by
  have hb : (xs.toList == ys.toList) = false := str_ne h
  have hb2 : ¬ xs.toList = ys.toList := by rw [beq_eq_false_iff_ne] at hb; exact hb
  go_enter Tryz.func100, Tryz.ntmps100
  go_wp2
  go_ret
  exact ⟨rfl, b2 _ _ _⟩
set_option maxRecDepth 100000 in
set_option maxHeartbeats 4000000 in
theorem ksameAtom_4 (xk : Int) (xb : Bool) (xn : Int) (xs : ByteArray)  (A B : Option Addr) (n m c e : Nat) (h : ¬ n = m) (w : World) :
    Calls Tryz.prog 100 #[.agg #[.int .i64 xk, .bool xb, .int .u64 xn, .slice A n c, .string xs], .agg #[.int .i64 xk, .bool xb, .int .u64 xn, .slice B m e, .string xs]] w fun e w' => e = .returned (.bool false) ∧ Below w.heap.size w w' := by
  have hb : ((n : Int) == (m : Int)) = false := by rw [beq_eq_false_iff_ne]; omega
  have hb3 : ((n : Int) != (m : Int)) = true := by simp only [bne, hb]; rfl
  go_enter Tryz.func100, Tryz.ntmps100
  go_wp2
  go_ret
  exact ⟨rfl, b2 _ _ _⟩
set_option maxRecDepth 100000 in
set_option maxHeartbeats 4000000 in
theorem ksameAtom_5 (xk : Int) (xb : Bool) (xn : Int) (s : ByteArray) (u v : Value) (xs ys : List Cn) (w : World) (hlen : xs.length = ys.length) (hu : Sl w 2 xs.length u (xs.flatMap cnC)) (hv : Sl w 2 ys.length v (ys.flatMap cnC)) :
    Calls Tryz.prog 100 #[.agg #[.int .i64 xk, .bool xb, .int .u64 xn, u, .string s], .agg #[.int .i64 xk, .bool xb, .int .u64 xn, v, .string s]] w fun e w' => e = .returned (.bool (decide (xs = ys))) ∧ Below w.heap.size w w' := by
  obtain ⟨A, c, rfl, hm, hc⟩ := sl_els (by decide) cnC_len hu
  obtain ⟨B, e, rfl, hm', hc'⟩ := sl_els (by decide) cnC_len hv
  have HC := Lib.hid hc
  have HC' := Lib.hid hc'
  have HLCond := Lib.hid hlen
  have hbe : ((xs.length : Int) == (ys.length : Int)) = true := by simp [hlen]
  have hbe2 : ((xs.length : Int) != (ys.length : Int)) = false := by simp [hlen]
  obtain ⟨W, hWW⟩ : ∃ W, W = (w.alloc (.cells #[.int .i64 xk, .bool xb, .int .u64 xn, .slice A xs.length c, .string s] 28)).alloc (.cells #[.int .i64 xk, .bool xb, .int .u64 xn, .slice B ys.length e, .string s] 28) := ⟨_, rfl⟩
  have hb2 : Below w.heap.size w W := hWW ▸ b2 _ _ _
  have hX : Blk W w.heap.size [.int .i64 xk, .bool xb, .int .u64 xn, .slice A xs.length c, .string s] := by rw [hWW]; exact (Blk.new w [.int .i64 xk, .bool xb, .int .u64 xn, .slice A xs.length c, .string s] 28).alloc _
  have hY : Blk W (w.heap.size + 1) [.int .i64 xk, .bool xb, .int .u64 xn, .slice B ys.length e, .string s] := by rw [hWW]; exact Blk.is (us := [.int .i64 xk, .bool xb, .int .u64 xn, .slice B ys.length e, .string s]) _ (by simp)
  have x3 := hX.cell 3 _ rfl
  have y3 := hY.cell 3 _ rfl
  have HB := Lib.hid hb2
  clear hc hc' hu hv hlen hX hY hb2
  go_enter Tryz.func100, Tryz.ntmps100
  go_wp2
  rw [← hWW]
  clear hWW
  go_loopg [5] xs.length (fun g iv wr => ∃ (i n : Nat), i ≤ xs.length ∧ g = xs.length - i ∧ iv = .int .i64 (i : Int) ∧ wr = W.drewN n ∧ Hid (decide (xs = ys) = decide (xs.drop i = ys.drop i)))
  case atStart => exact ⟨0, 0, Nat.zero_le _, rfl, rfl, rfl, Lib.hid rfl⟩
  case round =>
    obtain ⟨i, n, hi, hg, rfl, rfl, hR⟩ := hrel
    by_cases hz : i < xs.length
    · have hz' : i < ys.length := by have := HLCond.out; omega
      have h1 : (i : Int) < (xs.length : Int) := by omega
      have h2 : (i : Int) < (ys.length : Int) := by omega
      obtain ⟨a, rfl, _, E⟩ := HC.out i hz
      obtain ⟨a', rfl, _, E'⟩ := HC'.out i hz'
      have hwi : IntKind.i64.wrap ((i : Int) + 1) = (i : Int) + 1 := IntWalk.i64_in _ ⟨by omega, by omega⟩
      have hst : decide (xs.drop i = ys.drop i) = (decide (xs[i] = ys[i]) && decide (xs.drop (i + 1) = ys.drop (i + 1))) := by
        rw [List.drop_eq_getElem_cons hz, List.drop_eq_getElem_cons hz']
        simp only [List.cons.injEq, Bool.decide_and]
      obtain ⟨x, hx⟩ : ∃ x, x = xs[i] := ⟨_, rfl⟩
      obtain ⟨y, hy⟩ : ∃ y, y = ys[i] := ⟨_, rfl⟩
      rw [← hx] at E hst
      rw [← hy] at E' hst
      rw [hst] at hR
      replace E := E.later (HB.out)
      replace E' := E'.later (HB.out)
      obtain ⟨x_op, x_va⟩ := x
      obtain ⟨y_op, y_va⟩ := y
      simp only [cnC] at E E'
      simp only [Cn.mk.injEq] at hR
      have c0 := E.at0 _ rfl
      have d0 := E'.at0 _ rfl
      have c1 := E.at1 1 _ (by decide) rfl
      have d1 := E'.at1 1 _ (by decide) rfl
      clear E E' hst hx hy
      by_cases e0 : x_op = y_op
      · subst e0
        by_cases e1 : x_va = y_va
        · subst e1
          have hR2 := Lib.hid (show decide (xs = ys) = decide (xs.drop (i + 1) = ys.drop (i + 1)) by rw [hR.out]; simp)
          clear hR
          go_wp2
          go_quiet (fail)
          go_wp2
          go_roundg (xs.length - (i + 1))
          case rel => exact ⟨i + 1, _, by omega, rfl, by go_num, rfl, hR2⟩
          case measure => omega
        · have hR2 := Lib.hid (show decide (xs = ys) = false by rw [hR.out]; simp [e1])
          have hb0 : (x_va == y_va) = false := by rw [beq_eq_false_iff_ne]; exact e1
          clear hR
          go_wp2
          go_quiet (fail)
          go_wp2
          go_ret
          exact ⟨by rw [hR2.out]; rfl, below_drewN (below_drewN HB.out n) _⟩
      · have hR2 := Lib.hid (show decide (xs = ys) = false by rw [hR.out]; simp [e0])
        have hb0 : (x_op == y_op) = false := by rw [beq_eq_false_iff_ne]; exact e0
        clear hR
        go_wp2
        go_quiet (fail)
        go_wp2
        go_ret
        exact ⟨by rw [hR2.out]; rfl, below_drewN (below_drewN HB.out n) _⟩
    · have h1 : ¬ (i : Int) < (xs.length : Int) := by omega
      have hECond := Lib.hid (show decide (xs = ys) = true by rw [hR.out, List.drop_eq_nil_of_le (by omega), List.drop_eq_nil_of_le (by have := HLCond.out; omega)]; rfl)
      clear hR
      clear HC HC'
      go_wp2
      go_ret
      exact ⟨by rw [hECond.out]; rfl, below_drewN HB.out _⟩
theorem ksameAtom_any (g h : GA) (w : World) (hg : OneA w g) (hh : OneA w h) :
    Calls Tryz.prog 100 #[.agg (gaC g).toArray, .agg (gaC h).toArray] w fun e w' => e = .returned (.bool (decide (g.a = h.a))) ∧ Below w.heap.size w w' := by
  obtain ⟨⟨kd, bd, bn, cs, nm⟩, sc⟩ := g
  obtain ⟨⟨kd', bd', bn', cs', nm'⟩, sc'⟩ := h
  obtain ⟨-, h1⟩ := hg
  obtain ⟨-, h2⟩ := hh
  simp only at h1 h2
  simp only [gaC, At.mk.injEq]
  by_cases e1 : kd = kd'
  · subst e1
    by_cases e2 : bd = bd'
    · subst e2
      by_cases e3 : bn = bn'
      · subst e3
        by_cases e5 : nm = nm'
        · subst e5
          simp only [true_and, and_true]
          by_cases e4 : cs.length = cs'.length
          · exact ksameAtom_5 kd bd bn (strOf nm) sc sc' cs cs' w e4 h1 h2
          · have : ¬ cs = cs' := fun e => e4 (by rw [e])
            simp only [this, decide_false]
            obtain ⟨A, c, rfl, -, -⟩ := sl_get (by decide) h1
            obtain ⟨B, e, rfl, -, -⟩ := sl_get (by decide) h2
            exact ksameAtom_4 kd bd bn (strOf nm) A B _ _ c e e4 w
        · simp only [e5, and_false, decide_false]
          obtain ⟨A, c, rfl, -, -⟩ := sl_get (by decide) h1
          obtain ⟨B, e, rfl, -, -⟩ := sl_get (by decide) h2
          exact ksameAtom_3 kd bd bn (strOf nm) (strOf nm') A B _ _ c e (fun h => e5 (strOf_inj h)) w
      · simp only [e3, false_and, and_false, decide_false]
        obtain ⟨A, c, rfl, -, -⟩ := sl_get (by decide) h1
        obtain ⟨B, e, rfl, -, -⟩ := sl_get (by decide) h2
        exact ksameAtom_2 kd bd bn (strOf nm) bn' (strOf nm') A B _ _ c e e3 w
    · simp only [e2, false_and, and_false, decide_false]
      obtain ⟨A, c, rfl, -, -⟩ := sl_get (by decide) h1
      obtain ⟨B, e, rfl, -, -⟩ := sl_get (by decide) h2
      exact ksameAtom_1 kd bd bn (strOf nm) bd' bn' (strOf nm') A B _ _ c e e2 w
  · simp only [e1, false_and, decide_false]
    obtain ⟨A, c, rfl, -, -⟩ := sl_get (by decide) h1
    obtain ⟨B, e, rfl, -, -⟩ := sl_get (by decide) h2
    exact ksameAtom_0 kd bd bn (strOf nm) kd' bd' bn' (strOf nm') A B _ _ c e e1 w

set_option maxRecDepth 100000 in
set_option maxHeartbeats 4000000 in
theorem ksameNode_0 (xk xmn xmx : Int) (yk : Int) (ymn : Int) (ymx : Int) (xkd : Int) (xbd : Bool) (xbn : Int) (xsc : Value) (xnm : ByteArray) (ykd : Int) (ybd : Bool) (ybn : Int) (ysc : Value) (ynm : ByteArray) (A B : Option Addr) (n m c e : Nat) (w : World) (h : ¬ xk = yk)  :
    Calls Tryz.prog 59 #[.agg #[.int .i64 xk, .int .i64 xmn, .int .i64 xmx, .int .i64 xkd, .bool xbd, .int .u64 xbn, xsc, .string xnm, .slice A n c], .agg #[.int .i64 yk, .int .i64 ymn, .int .i64 ymx, .int .i64 ykd, .bool ybd, .int .u64 ybn, ysc, .string ynm, .slice B m e]] w fun e w' => e = .returned (.bool false) ∧ Below w.heap.size w w' := by
  have hb : (xk == yk) = false := by rw [beq_eq_false_iff_ne]; exact h
  have hb3 : (xk != yk) = true := by simp only [bne, hb]; rfl
  go_enter Tryz.func59, Tryz.ntmps59
  go_wp2
  go_ret
  exact ⟨rfl, b2 _ _ _⟩
set_option maxRecDepth 100000 in
set_option maxHeartbeats 4000000 in
theorem ksameNode_1 (xk xmn xmx : Int) (ymn : Int) (ymx : Int) (xkd : Int) (xbd : Bool) (xbn : Int) (xsc : Value) (xnm : ByteArray) (ykd : Int) (ybd : Bool) (ybn : Int) (ysc : Value) (ynm : ByteArray) (A B : Option Addr) (n m c e : Nat) (w : World) (h : ¬ xmn = ymn)  :
    Calls Tryz.prog 59 #[.agg #[.int .i64 xk, .int .i64 xmn, .int .i64 xmx, .int .i64 xkd, .bool xbd, .int .u64 xbn, xsc, .string xnm, .slice A n c], .agg #[.int .i64 xk, .int .i64 ymn, .int .i64 ymx, .int .i64 ykd, .bool ybd, .int .u64 ybn, ysc, .string ynm, .slice B m e]] w fun e w' => e = .returned (.bool false) ∧ Below w.heap.size w w' := by
  have hb : (xmn == ymn) = false := by rw [beq_eq_false_iff_ne]; exact h
  have hb3 : (xmn != ymn) = true := by simp only [bne, hb]; rfl
  go_enter Tryz.func59, Tryz.ntmps59
  go_wp2
  go_ret
  exact ⟨rfl, b2 _ _ _⟩
set_option maxRecDepth 100000 in
set_option maxHeartbeats 4000000 in
theorem ksameNode_2 (xk xmn xmx : Int) (ymx : Int) (xkd : Int) (xbd : Bool) (xbn : Int) (xsc : Value) (xnm : ByteArray) (ykd : Int) (ybd : Bool) (ybn : Int) (ysc : Value) (ynm : ByteArray) (A B : Option Addr) (n m c e : Nat) (w : World) (h : ¬ xmx = ymx)  :
    Calls Tryz.prog 59 #[.agg #[.int .i64 xk, .int .i64 xmn, .int .i64 xmx, .int .i64 xkd, .bool xbd, .int .u64 xbn, xsc, .string xnm, .slice A n c], .agg #[.int .i64 xk, .int .i64 xmn, .int .i64 ymx, .int .i64 ykd, .bool ybd, .int .u64 ybn, ysc, .string ynm, .slice B m e]] w fun e w' => e = .returned (.bool false) ∧ Below w.heap.size w w' := by
  have hb : (xmx == ymx) = false := by rw [beq_eq_false_iff_ne]; exact h
  have hb3 : (xmx != ymx) = true := by simp only [bne, hb]; rfl
  go_enter Tryz.func59, Tryz.ntmps59
  go_wp2
  go_ret
  exact ⟨rfl, b2 _ _ _⟩
set_option maxRecDepth 100000 in
set_option maxHeartbeats 4000000 in
theorem ksameNode_3 (xk xmn xmx : Int) (xkd : Int) (xbd : Bool) (xbn : Int) (xsc : Value) (xnm : ByteArray) (ykd : Int) (ybd : Bool) (ybn : Int) (ysc : Value) (ynm : ByteArray) (A B : Option Addr) (n m c e : Nat) (w : World) 
    (hA : ∀ w', Below w.heap.size w w' → Calls Tryz.prog 100 #[.agg #[.int .i64 xkd, .bool xbd, .int .u64 xbn, xsc, .string xnm], .agg #[.int .i64 ykd, .bool ybd, .int .u64 ybn, ysc, .string ynm]] w' fun e w'' => e = .returned (.bool false) ∧ Below w'.heap.size w' w'') :
    Calls Tryz.prog 59 #[.agg #[.int .i64 xk, .int .i64 xmn, .int .i64 xmx, .int .i64 xkd, .bool xbd, .int .u64 xbn, xsc, .string xnm, .slice A n c], .agg #[.int .i64 xk, .int .i64 xmn, .int .i64 xmx, .int .i64 ykd, .bool ybd, .int .u64 ybn, ysc, .string ynm, .slice B m e]] w fun e w' => e = .returned (.bool false) ∧ Below w.heap.size w w' := by
  go_enter Tryz.func59, Tryz.ntmps59
  go_wp2_with (go_at_call 100; refine (hA _ (b2 _ _ _)).mono ?_; rintro e w3 ⟨rfl, hb3⟩)
  go_ret
  exact ⟨rfl, bstep (b2 _ _ _) hb3⟩
set_option maxRecDepth 100000 in
set_option maxHeartbeats 4000000 in
theorem ksameNode_4 (xk xmn xmx : Int) (xkd : Int) (xbd : Bool) (xbn : Int) (xsc : Value) (xnm : ByteArray) (ykd : Int) (ybd : Bool) (ybn : Int) (ysc : Value) (ynm : ByteArray) (A B : Option Addr) (n m c e : Nat) (w : World) (h : ¬ n = m) 
    (hA : ∀ w', Below w.heap.size w w' → Calls Tryz.prog 100 #[.agg #[.int .i64 xkd, .bool xbd, .int .u64 xbn, xsc, .string xnm], .agg #[.int .i64 ykd, .bool ybd, .int .u64 ybn, ysc, .string ynm]] w' fun e w'' => e = .returned (.bool true) ∧ Below w'.heap.size w' w'') :
    Calls Tryz.prog 59 #[.agg #[.int .i64 xk, .int .i64 xmn, .int .i64 xmx, .int .i64 xkd, .bool xbd, .int .u64 xbn, xsc, .string xnm, .slice A n c], .agg #[.int .i64 xk, .int .i64 xmn, .int .i64 xmx, .int .i64 ykd, .bool ybd, .int .u64 ybn, ysc, .string ynm, .slice B m e]] w fun e w' => e = .returned (.bool false) ∧ Below w.heap.size w w' := by
  have hb : ((n : Int) == (m : Int)) = false := by rw [beq_eq_false_iff_ne]; omega
  have hbn : ((n : Int) != (m : Int)) = true := by simp only [bne, hb]; rfl
  obtain ⟨W, hWW⟩ : ∃ W, W = (w.alloc (.cells #[.int .i64 xk, .int .i64 xmn, .int .i64 xmx, .int .i64 xkd, .bool xbd, .int .u64 xbn, xsc, .string xnm, .slice A n c] 31)).alloc (.cells #[.int .i64 xk, .int .i64 xmn, .int .i64 xmx, .int .i64 ykd, .bool ybd, .int .u64 ybn, ysc, .string ynm, .slice B m e] 31) := ⟨_, rfl⟩
  have hb2 : Below w.heap.size w W := hWW ▸ b2 _ _ _
  have hX : Blk W w.heap.size [.int .i64 xk, .int .i64 xmn, .int .i64 xmx, .int .i64 xkd, .bool xbd, .int .u64 xbn, xsc, .string xnm, .slice A n c] := by rw [hWW]; exact (Blk.new w [.int .i64 xk, .int .i64 xmn, .int .i64 xmx, .int .i64 xkd, .bool xbd, .int .u64 xbn, xsc, .string xnm, .slice A n c] 31).alloc _
  have hY : Blk W (w.heap.size + 1) [.int .i64 xk, .int .i64 xmn, .int .i64 xmx, .int .i64 ykd, .bool ybd, .int .u64 ybn, ysc, .string ynm, .slice B m e] := by rw [hWW]; exact Blk.is (us := [.int .i64 xk, .int .i64 xmn, .int .i64 xmx, .int .i64 ykd, .bool ybd, .int .u64 ybn, ysc, .string ynm, .slice B m e]) _ (by simp)
  have hA1 := hA W hb2
  have hcell : ∀ w1, Below W.heap.size W w1 → w1.cell? ⟨w.heap.size, 8, none⟩ = some (.slice A n c) ∧ w1.cell? ⟨w.heap.size + 1, 8, none⟩ = some (.slice B m e) := fun w1 hb => ⟨(hX.later hb).cell 8 _ rfl, (hY.later hb).cell 8 _ rfl⟩
  clear hX hY hA
  subst hWW
  go_enter Tryz.func59, Tryz.ntmps59
  go_wp2_with (go_at_call 100; refine hA1.mono ?_; rintro e w3 ⟨rfl, hb3⟩; obtain ⟨c8, d8⟩ := hcell _ hb3)
  go_ret
  exact ⟨rfl, bstep hb2 hb3⟩
set_option maxRecDepth 100000 in
set_option maxHeartbeats 8000000 in
theorem ksameNode_5 (xk xmn xmx xkd : Int) (xbd : Bool) (xbn : Int) (xsc : Value) (xnm : ByteArray) (ykd : Int) (ybd : Bool) (ybn : Int) (ysc : Value) (ynm : ByteArray) (u v : Value) (xs ys : List Tr) (w : World) (hlen : xs.length = ys.length)
    (hu : Sl w 9 xs.length u (xs.flatMap Tr.row)) (hv : Sl w 9 ys.length v (ys.flatMap Tr.row))
    (hA : ∀ w', Below w.heap.size w w' → Calls Tryz.prog 100 #[.agg #[.int .i64 xkd, .bool xbd, .int .u64 xbn, xsc, .string xnm], .agg #[.int .i64 ykd, .bool ybd, .int .u64 ybn, ysc, .string ynm]] w' fun e w'' => e = .returned (.bool true) ∧ Below w'.heap.size w' w'')
    (hel : ∀ x ∈ xs, ∀ y ∈ ys, ∀ w1, Below w.heap.size w w1 → Calls Tryz.prog 59 #[.agg x.row.toArray, .agg y.row.toArray] w1 fun e w' => e = .returned (.bool (decide (x.nd = y.nd))) ∧ Below w1.heap.size w1 w') :
    Calls Tryz.prog 59 #[.agg #[.int .i64 xk, .int .i64 xmn, .int .i64 xmx, .int .i64 xkd, .bool xbd, .int .u64 xbn, xsc, .string xnm, u], .agg #[.int .i64 xk, .int .i64 xmn, .int .i64 xmx, .int .i64 ykd, .bool ybd, .int .u64 ybn, ysc, .string ynm, v]] w fun e w' => e = .returned (.bool (decide (xs.map Tr.nd = ys.map Tr.nd))) ∧ Below w.heap.size w w' := by
  obtain ⟨A, c, rfl, hm, hc⟩ := sl_els (by decide) row_len hu
  obtain ⟨B, e, rfl, hm', hc'⟩ := sl_els (by decide) row_len hv
  have HC := Lib.hid hc
  have HC' := Lib.hid hc'
  have HH := Lib.hid hel
  have HL := Lib.hid hlen
  have hbe : ((xs.length : Int) == (ys.length : Int)) = true := by simp [hlen]
  have hbe2 : ((xs.length : Int) != (ys.length : Int)) = false := by simp [hlen]
  obtain ⟨W, hWW⟩ : ∃ W, W = (w.alloc (.cells #[.int .i64 xk, .int .i64 xmn, .int .i64 xmx, .int .i64 xkd, .bool xbd, .int .u64 xbn, xsc, .string xnm, .slice A xs.length c] 31)).alloc (.cells #[.int .i64 xk, .int .i64 xmn, .int .i64 xmx, .int .i64 ykd, .bool ybd, .int .u64 ybn, ysc, .string ynm, .slice B ys.length e] 31) := ⟨_, rfl⟩
  have hb2 : Below w.heap.size w W := hWW ▸ b2 _ _ _
  have hX : Blk W w.heap.size [.int .i64 xk, .int .i64 xmn, .int .i64 xmx, .int .i64 xkd, .bool xbd, .int .u64 xbn, xsc, .string xnm, .slice A xs.length c] := by rw [hWW]; exact (Blk.new w [.int .i64 xk, .int .i64 xmn, .int .i64 xmx, .int .i64 xkd, .bool xbd, .int .u64 xbn, xsc, .string xnm, .slice A xs.length c] 31).alloc _
  have hY : Blk W (w.heap.size + 1) [.int .i64 xk, .int .i64 xmn, .int .i64 xmx, .int .i64 ykd, .bool ybd, .int .u64 ybn, ysc, .string ynm, .slice B ys.length e] := by rw [hWW]; exact Blk.is (us := [.int .i64 xk, .int .i64 xmn, .int .i64 xmx, .int .i64 ykd, .bool ybd, .int .u64 ybn, ysc, .string ynm, .slice B ys.length e]) _ (by simp)
  have hA1 := hA W hb2
  have HX := Lib.hid (fun w1 (hb : Below W.heap.size W w1) => (show w1.cell? ⟨w.heap.size, 8, none⟩ = some (.slice A xs.length c) ∧ w1.cell? ⟨w.heap.size + 1, 8, none⟩ = some (.slice B ys.length e) from ⟨(hX.later hb).cell 8 _ rfl, (hY.later hb).cell 8 _ rfl⟩))
  have HB := Lib.hid hb2
  clear hc hc' hu hv hlen hX hY hb2 hel hA
  go_enter Tryz.func59, Tryz.ntmps59
  go_wp2_with fail
  rw [← hWW]
  clear hWW
  refine hA1.mono ?_
  rintro e1 w3 ⟨rfl, hb3⟩
  have HB3 := Lib.hid hb3
  obtain ⟨c8, d8⟩ := HX.out _ hb3
  clear hA1 hb3
  go_wp2
  clear c8 d8
  go_loopg [5] xs.length (fun g iv wr => ∃ k : Nat, k ≤ xs.length ∧ g = xs.length - k ∧ iv = .int .i64 (k : Int) ∧ Hid (Below W.heap.size W wr) ∧ Hid (decide (xs.map Tr.nd = ys.map Tr.nd) = decide ((xs.drop k).map Tr.nd = (ys.drop k).map Tr.nd)))
  case atStart => exact ⟨0, Nat.zero_le _, rfl, rfl, HB3, Lib.hid rfl⟩
  case round =>
      obtain ⟨k, hk, hg, rfl, hBW, hS⟩ := hrel
      have hBr := bstep HB.out hBW.out
      by_cases hlt : k < xs.length
      · have hlt2 : k < ys.length := by rw [← HL.out]; exact hlt
        obtain ⟨a, rfl, ha, E⟩ := HC.out k hlt
        obtain ⟨a', rfl, ha', E'⟩ := HC'.out k hlt2
        have hst : decide ((xs.drop k).map Tr.nd = (ys.drop k).map Tr.nd) = (decide ((xs[k]).nd = (ys[k]).nd) && decide ((xs.drop (k + 1)).map Tr.nd = (ys.drop (k + 1)).map Tr.nd)) := by
          rw [List.drop_eq_getElem_cons hlt, List.drop_eq_getElem_cons hlt2]
          simp only [List.map_cons, List.cons.injEq, Bool.decide_and]
        have hq := HH.out xs[k] (List.getElem_mem hlt) ys[k] (List.getElem_mem hlt2) wr.drew hBr.drew
        obtain ⟨x, hx⟩ : ∃ x, x = xs[k] := ⟨_, rfl⟩
        obtain ⟨y, hy⟩ : ∃ y, y = ys[k] := ⟨_, rfl⟩
        rw [← hx] at E hst hq
        rw [← hy] at E' hst hq
        obtain ⟨q, hqq⟩ : ∃ q, q = decide (x.nd = y.nd) := ⟨_, rfl⟩
        rw [← hqq] at hst hq
        rw [hst] at hS
        replace E := (E.later hBr).later (Below.refl _ _).drew
        replace E' := (E'.later hBr).later (Below.refl _ _).drew
        obtain ⟨c8, d8⟩ := HX.out _ hBW.out
        obtain ⟨f8, g8⟩ := HX.out wr.drew hBW.out.drew
        clear hx hy hqq hst HH HX
        obtain ⟨yk, ymn, ymx, ⟨⟨zkd, zbd, zbn, ycs, znm⟩, zsc⟩, ysk, yks⟩ := y
        obtain ⟨zk, zmn, zmx, ⟨⟨wkd, wbd, wbn, xcs, wnm⟩, wsc⟩, xsk, xks⟩ := x
        simp only [Tr.row] at hq E E'
        have c0 := E.at0 _ rfl
        have d0 := E'.at0 _ rfl
        have c1 := E.at1 1 _ (by decide) rfl
        have d1 := E'.at1 1 _ (by decide) rfl
        have c2 := E.at1 2 _ (by decide) rfl
        have d2 := E'.at1 2 _ (by decide) rfl
        have c3 := E.at1 3 _ (by decide) rfl
        have d3 := E'.at1 3 _ (by decide) rfl
        have c4 := E.at1 4 _ (by decide) rfl
        have d4 := E'.at1 4 _ (by decide) rfl
        have c5 := E.at1 5 _ (by decide) rfl
        have d5 := E'.at1 5 _ (by decide) rfl
        have c6 := E.at1 6 _ (by decide) rfl
        have d6 := E'.at1 6 _ (by decide) rfl
        have c7 := E.at1 7 _ (by decide) rfl
        have d7 := E'.at1 7 _ (by decide) rfl
        have k8 := E.at1 8 _ (by decide) rfl
        have l8 := E'.at1 8 _ (by decide) rfl
        have h1 : (k : Int) < (xs.length : Int) := by omega
        have h2 : (k : Int) < (ys.length : Int) := by omega
        have hwk : IntKind.i64.wrap ((k : Int) + 1) = (k : Int) + 1 := IntWalk.i64_in _ ⟨by omega, by omega⟩
        clear E E' HC HC'
        have HB2 := fun (w2 : World) (hb2 : Below wr.drew.heap.size wr.drew w2) => bstep hBW.out.drew hb2
        cases q with
        | true =>
          have HS2 := Lib.hid (show decide (xs.map Tr.nd = ys.map Tr.nd) = decide ((xs.drop (k + 1)).map Tr.nd = (ys.drop (k + 1)).map Tr.nd) by rw [hS.out, Bool.true_and])
          clear hS
          go_wp2
          go_region_with (go_at_call 59; refine hq.mono ?_; rintro e w2 ⟨rfl, hb2⟩)
          all_goals
            go_wp2
            go_roundg (xs.length - (k + 1))
            case rel => exact ⟨k + 1, by omega, rfl, by go_num, Lib.hid (HB2 _ hb2), HS2⟩
            case measure => omega
        | false =>
          have HS2 := Lib.hid (show decide (xs.map Tr.nd = ys.map Tr.nd) = false by rw [hS.out, Bool.false_and])
          clear hS
          go_wp2
          go_region_with (go_at_call 59; refine hq.mono ?_; rintro e w2 ⟨rfl, hb2⟩)
          all_goals
            go_wp2
            go_ret
            exact ⟨by rw [HS2.out]; rfl, bstep HB.out (HB2 _ hb2)⟩
      · have e1 := Lib.hid (show decide (xs.map Tr.nd = ys.map Tr.nd) = true by rw [hS.out, List.drop_eq_nil_of_le (by omega), List.drop_eq_nil_of_le (by have := HL.out; omega)]; rfl)
        have hi : ¬ (k : Int) < (xs.length : Int) := by omega
        obtain ⟨c8, d8⟩ := HX.out _ hBW.out
        clear HC HC' hS HH HX
        go_wp2
        go_ret
        exact ⟨by rw [e1.out]; rfl, hBr⟩
theorem ksameNode_any (S : Tr) : ∀ (T : Tr) (w : World), TrW w S → TrW w T →
    Calls Tryz.prog 59 #[.agg S.row.toArray, .agg T.row.toArray] w fun e w' => e = .returned (.bool (decide (S.nd = T.nd))) ∧ Below w.heap.size w w' := by
  refine Tr.ind (P := fun S => ∀ (T : Tr) (w : World), TrW w S → TrW w T →
    Calls Tryz.prog 59 #[.agg S.row.toArray, .agg T.row.toArray] w fun e w' => e = .returned (.bool (decide (S.nd = T.nd))) ∧ Below w.heap.size w w') (fun xk xmn xmx xg xsk xks ih => ?_) S
  intro T w hS hT
  obtain ⟨yk, ymn, ymx, yg, ysk, yks⟩ := T
  have hx := hS.one
  have hy := hT.one
  obtain ⟨-, hxg, hxl⟩ := hx
  obtain ⟨-, hyg, hyl⟩ := hy
  have hA := fun w' (hb : Below w.heap.size w w') => ksameAtom_any xg yg w' (hxg.later hb) (hyg.later hb)
  have hH := fun x (hx : x ∈ xks) y (hy : y ∈ yks) w1 (hb1 : Below w.heap.size w w1) => ih x hx y w1 ((hS.kid hx).later hb1) ((hT.kid hy).later hb1)
  obtain ⟨xa, xsc⟩ := xg
  obtain ⟨ya, ysc⟩ := yg
  have hE : (Tr.nd (.mk xk xmn xmx ⟨xa, xsc⟩ xsk xks) = Tr.nd (.mk yk ymn ymx ⟨ya, ysc⟩ ysk yks)) ↔ (xk = yk ∧ xmn = ymn ∧ xmx = ymx ∧ xa = ya ∧ xks.map Tr.nd = yks.map Tr.nd) := by rw [nd_mk, nd_mk, Nd.mk.injEq]
  have hD : decide (Tr.nd (.mk xk xmn xmx ⟨xa, xsc⟩ xsk xks) = Tr.nd (.mk yk ymn ymx ⟨ya, ysc⟩ ysk yks)) = (decide (xk = yk) && (decide (xmn = ymn) && (decide (xmx = ymx) && (decide (xa = ya) && decide (xks.map Tr.nd = yks.map Tr.nd))))) := by
    rw [Bool.eq_iff_iff]
    simp only [decide_eq_true_eq, Bool.and_eq_true]
    exact hE
  rw [hD]
  clear hD hE
  simp only at hA
  obtain ⟨xkd, xbd, xbn, xcs, xnm⟩ := xa
  obtain ⟨ykd, ybd, ybn, ycs, ynm⟩ := ya
  simp only [gaC, Tr.row] at hA ⊢
  by_cases e5 : xk = yk ∧ xmn = ymn ∧ xmx = ymx ∧ (decide ((⟨xkd, xbd, xbn, xcs, xnm⟩ : At) = ⟨ykd, ybd, ybn, ycs, ynm⟩)) = true ∧ xks.length = yks.length
  · obtain ⟨rfl, rfl, rfl, ea, el⟩ := e5
    rw [ea] at hA ⊢
    simp only [decide_true, Bool.true_and]
    exact ksameNode_5 xk xmn xmx xkd xbd xbn xsc (strOf xnm) ykd ybd ybn ysc (strOf ynm) xsk ysk xks yks w el hxl hyl hA hH
  · obtain ⟨A, c, rfl, -, -⟩ := sl_get (by decide) hxl
    obtain ⟨B, e, rfl, -, -⟩ := sl_get (by decide) hyl
    by_cases e1 : xk = yk
    · subst e1
      by_cases e2 : xmn = ymn
      · subst e2
        by_cases e3 : xmx = ymx
        · subst e3
          simp only [decide_true, Bool.true_and]
          cases ea : decide ((⟨xkd, xbd, xbn, xcs, xnm⟩ : At) = ⟨ykd, ybd, ybn, ycs, ynm⟩) with
          | false =>
            rw [ea] at hA
            simp only [Bool.false_and]
            exact ksameNode_3 xk xmn xmx xkd xbd xbn xsc (strOf xnm) ykd ybd ybn ysc (strOf ynm) A B _ _ c e w hA
          | true =>
            rw [ea] at hA
            have el : ¬ xks.length = yks.length := fun h => e5 ⟨rfl, rfl, rfl, ea, h⟩
            have ed : decide (xks.map Tr.nd = yks.map Tr.nd) = false := by rw [decide_eq_false_iff_not]; exact fun h => el (by have := congrArg List.length h; simpa using this)
            rw [ed]
            exact ksameNode_4 xk xmn xmx xkd xbd xbn xsc (strOf xnm) ykd ybd ybn ysc (strOf ynm) A B _ _ c e w el hA
        · simp only [decide_eq_false e3, Bool.false_and, Bool.and_false]
          exact ksameNode_2 xk xmn xmx ymx xkd xbd xbn xsc (strOf xnm) ykd ybd ybn ysc (strOf ynm) A B _ _ c e w e3
      · simp only [decide_eq_false e2, Bool.false_and, Bool.and_false]
        exact ksameNode_1 xk xmn xmx ymn ymx xkd xbd xbn xsc (strOf xnm) ykd ybd ybn ysc (strOf ynm) A B _ _ c e w e2
    · simp only [decide_eq_false e1, Bool.false_and]
      exact ksameNode_0 xk xmn xmx yk ymn ymx xkd xbd xbn xsc (strOf xnm) ykd ybd ybn ysc (strOf ynm) A B _ _ c e w e1
set_option maxRecDepth 100000 in
set_option maxHeartbeats 4000000 in
theorem ksame_n (xk xmn xmx xkd : Int) (xbd : Bool) (xbn : Int) (xsc : Value) (xnm : ByteArray) (xsk : Value) (xw : Int) (yw : Int) (yk ymn ymx ykd : Int) (ybd : Bool) (ybn : Int) (ysc : Value) (ynm : ByteArray) (ysk : Value) (A B A' B' : Option Addr) (n m n' m' c d c' d' : Nat) (w : World)
    (hN : ∀ w', Below w.heap.size w w' → Calls Tryz.prog 59 #[.agg #[.int .i64 xk, .int .i64 xmn, .int .i64 xmx, .int .i64 xkd, .bool xbd, .int .u64 xbn, xsc, .string xnm, xsk], .agg #[.int .i64 yk, .int .i64 ymn, .int .i64 ymx, .int .i64 ykd, .bool ybd, .int .u64 ybn, ysc, .string ynm, ysk]] w' fun e w'' => e = .returned (.bool false) ∧ Below w'.heap.size w' w'') :
    Calls Tryz.prog 15 #[.agg #[.int .i64 xk, .int .i64 xmn, .int .i64 xmx, .int .i64 xkd, .bool xbd, .int .u64 xbn, xsc, .string xnm, xsk, .int .u64 xw, .slice A n c, .slice B m d], .agg #[.int .i64 yk, .int .i64 ymn, .int .i64 ymx, .int .i64 ykd, .bool ybd, .int .u64 ybn, ysc, .string ynm, ysk, .int .u64 yw, .slice A' n' c', .slice B' m' d']] w fun e w' => e = .returned (.bool false) ∧ Below w.heap.size w w' := by
  obtain ⟨W, hWW⟩ : ∃ W, W = (w.alloc (.cells #[.int .i64 xk, .int .i64 xmn, .int .i64 xmx, .int .i64 xkd, .bool xbd, .int .u64 xbn, xsc, .string xnm, xsk, .int .u64 xw, .slice A n c, .slice B m d] 35)).alloc (.cells #[.int .i64 yk, .int .i64 ymn, .int .i64 ymx, .int .i64 ykd, .bool ybd, .int .u64 ybn, ysc, .string ynm, ysk, .int .u64 yw, .slice A' n' c', .slice B' m' d'] 35) := ⟨_, rfl⟩
  have hb2 : Below w.heap.size w W := hWW ▸ b2 _ _ _
  have hX : Blk W w.heap.size [.int .i64 xk, .int .i64 xmn, .int .i64 xmx, .int .i64 xkd, .bool xbd, .int .u64 xbn, xsc, .string xnm, xsk, .int .u64 xw, .slice A n c, .slice B m d] := by rw [hWW]; exact (Blk.new w [.int .i64 xk, .int .i64 xmn, .int .i64 xmx, .int .i64 xkd, .bool xbd, .int .u64 xbn, xsc, .string xnm, xsk, .int .u64 xw, .slice A n c, .slice B m d] 35).alloc _
  have hY : Blk W (w.heap.size + 1) [.int .i64 yk, .int .i64 ymn, .int .i64 ymx, .int .i64 ykd, .bool ybd, .int .u64 ybn, ysc, .string ynm, ysk, .int .u64 yw, .slice A' n' c', .slice B' m' d'] := by rw [hWW]; exact Blk.is (us := [.int .i64 yk, .int .i64 ymn, .int .i64 ymx, .int .i64 ykd, .bool ybd, .int .u64 ybn, ysc, .string ynm, ysk, .int .u64 yw, .slice A' n' c', .slice B' m' d']) _ (by simp)
  have hN1 := hN W hb2
  have hcell : ∀ w1, Below W.heap.size W w1 → Blk w1 w.heap.size [.int .i64 xk, .int .i64 xmn, .int .i64 xmx, .int .i64 xkd, .bool xbd, .int .u64 xbn, xsc, .string xnm, xsk, .int .u64 xw, .slice A n c, .slice B m d] ∧ Blk w1 (w.heap.size + 1) [.int .i64 yk, .int .i64 ymn, .int .i64 ymx, .int .i64 ykd, .bool ybd, .int .u64 ybn, ysc, .string ynm, ysk, .int .u64 yw, .slice A' n' c', .slice B' m' d'] := fun w1 hb => ⟨hX.later hb, hY.later hb⟩
  clear hX hY hN hcell
  subst hWW
  go_enter Tryz.func15, Tryz.ntmps15
  go_wp2_with (go_at_call 59; refine hN1.mono ?_; rintro e w3 ⟨rfl, hb3⟩)
  go_ret
  exact ⟨rfl, bstep hb2 hb3⟩
set_option maxRecDepth 100000 in
set_option maxHeartbeats 4000000 in
theorem ksame_w (xk xmn xmx xkd : Int) (xbd : Bool) (xbn : Int) (xsc : Value) (xnm : ByteArray) (xsk : Value) (xw : Int) (yw : Int) (yk ymn ymx ykd : Int) (ybd : Bool) (ybn : Int) (ysc : Value) (ynm : ByteArray) (ysk : Value) (A B A' B' : Option Addr) (n m n' m' c d c' d' : Nat) (w : World)
    (hN : ∀ w', Below w.heap.size w w' → Calls Tryz.prog 59 #[.agg #[.int .i64 xk, .int .i64 xmn, .int .i64 xmx, .int .i64 xkd, .bool xbd, .int .u64 xbn, xsc, .string xnm, xsk], .agg #[.int .i64 yk, .int .i64 ymn, .int .i64 ymx, .int .i64 ykd, .bool ybd, .int .u64 ybn, ysc, .string ynm, ysk]] w' fun e w'' => e = .returned (.bool true) ∧ Below w'.heap.size w' w'') (h : ¬ xw = yw) :
    Calls Tryz.prog 15 #[.agg #[.int .i64 xk, .int .i64 xmn, .int .i64 xmx, .int .i64 xkd, .bool xbd, .int .u64 xbn, xsc, .string xnm, xsk, .int .u64 xw, .slice A n c, .slice B m d], .agg #[.int .i64 yk, .int .i64 ymn, .int .i64 ymx, .int .i64 ykd, .bool ybd, .int .u64 ybn, ysc, .string ynm, ysk, .int .u64 yw, .slice A' n' c', .slice B' m' d']] w fun e w' => e = .returned (.bool false) ∧ Below w.heap.size w w' := by
  obtain ⟨W, hWW⟩ : ∃ W, W = (w.alloc (.cells #[.int .i64 xk, .int .i64 xmn, .int .i64 xmx, .int .i64 xkd, .bool xbd, .int .u64 xbn, xsc, .string xnm, xsk, .int .u64 xw, .slice A n c, .slice B m d] 35)).alloc (.cells #[.int .i64 yk, .int .i64 ymn, .int .i64 ymx, .int .i64 ykd, .bool ybd, .int .u64 ybn, ysc, .string ynm, ysk, .int .u64 yw, .slice A' n' c', .slice B' m' d'] 35) := ⟨_, rfl⟩
  have hb2 : Below w.heap.size w W := hWW ▸ b2 _ _ _
  have hX : Blk W w.heap.size [.int .i64 xk, .int .i64 xmn, .int .i64 xmx, .int .i64 xkd, .bool xbd, .int .u64 xbn, xsc, .string xnm, xsk, .int .u64 xw, .slice A n c, .slice B m d] := by rw [hWW]; exact (Blk.new w [.int .i64 xk, .int .i64 xmn, .int .i64 xmx, .int .i64 xkd, .bool xbd, .int .u64 xbn, xsc, .string xnm, xsk, .int .u64 xw, .slice A n c, .slice B m d] 35).alloc _
  have hY : Blk W (w.heap.size + 1) [.int .i64 yk, .int .i64 ymn, .int .i64 ymx, .int .i64 ykd, .bool ybd, .int .u64 ybn, ysc, .string ynm, ysk, .int .u64 yw, .slice A' n' c', .slice B' m' d'] := by rw [hWW]; exact Blk.is (us := [.int .i64 yk, .int .i64 ymn, .int .i64 ymx, .int .i64 ykd, .bool ybd, .int .u64 ybn, ysc, .string ynm, ysk, .int .u64 yw, .slice A' n' c', .slice B' m' d']) _ (by simp)
  have hN1 := hN W hb2
  have hcell : ∀ w1, Below W.heap.size W w1 → Blk w1 w.heap.size [.int .i64 xk, .int .i64 xmn, .int .i64 xmx, .int .i64 xkd, .bool xbd, .int .u64 xbn, xsc, .string xnm, xsk, .int .u64 xw, .slice A n c, .slice B m d] ∧ Blk w1 (w.heap.size + 1) [.int .i64 yk, .int .i64 ymn, .int .i64 ymx, .int .i64 ykd, .bool ybd, .int .u64 ybn, ysc, .string ynm, ysk, .int .u64 yw, .slice A' n' c', .slice B' m' d'] := fun w1 hb => ⟨hX.later hb, hY.later hb⟩
  have hb0 : (xw == yw) = false := by rw [beq_eq_false_iff_ne]; exact h
  have hb1 : (xw != yw) = true := by simp only [bne, hb0]; rfl
  clear hX hY hN
  subst hWW
  go_enter Tryz.func15, Tryz.ntmps15
  go_wp2_with (go_at_call 59; refine hN1.mono ?_; rintro e w3 ⟨rfl, hb3⟩; obtain ⟨HX, HY⟩ := hcell _ hb3; have c9 := HX.cell 9 _ rfl; have d9 := HY.cell 9 _ rfl; have c10 := HX.cell 10 _ rfl; have d10 := HY.cell 10 _ rfl; have c11 := HX.cell 11 _ rfl; have d11 := HY.cell 11 _ rfl; clear HX HY)
  go_ret
  exact ⟨rfl, bstep hb2 hb3⟩
set_option maxRecDepth 100000 in
set_option maxHeartbeats 4000000 in
theorem ksame_h (xk xmn xmx xkd : Int) (xbd : Bool) (xbn : Int) (xsc : Value) (xnm : ByteArray) (xsk : Value) (xw : Int) (yk ymn ymx ykd : Int) (ybd : Bool) (ybn : Int) (ysc : Value) (ynm : ByteArray) (ysk : Value) (A B A' B' : Option Addr) (n m n' m' c d c' d' : Nat) (w : World)
    (hN : ∀ w', Below w.heap.size w w' → Calls Tryz.prog 59 #[.agg #[.int .i64 xk, .int .i64 xmn, .int .i64 xmx, .int .i64 xkd, .bool xbd, .int .u64 xbn, xsc, .string xnm, xsk], .agg #[.int .i64 yk, .int .i64 ymn, .int .i64 ymx, .int .i64 ykd, .bool ybd, .int .u64 ybn, ysc, .string ynm, ysk]] w' fun e w'' => e = .returned (.bool true) ∧ Below w'.heap.size w' w'') (h : ¬ n = n') :
    Calls Tryz.prog 15 #[.agg #[.int .i64 xk, .int .i64 xmn, .int .i64 xmx, .int .i64 xkd, .bool xbd, .int .u64 xbn, xsc, .string xnm, xsk, .int .u64 xw, .slice A n c, .slice B m d], .agg #[.int .i64 yk, .int .i64 ymn, .int .i64 ymx, .int .i64 ykd, .bool ybd, .int .u64 ybn, ysc, .string ynm, ysk, .int .u64 xw, .slice A' n' c', .slice B' m' d']] w fun e w' => e = .returned (.bool false) ∧ Below w.heap.size w w' := by
  obtain ⟨W, hWW⟩ : ∃ W, W = (w.alloc (.cells #[.int .i64 xk, .int .i64 xmn, .int .i64 xmx, .int .i64 xkd, .bool xbd, .int .u64 xbn, xsc, .string xnm, xsk, .int .u64 xw, .slice A n c, .slice B m d] 35)).alloc (.cells #[.int .i64 yk, .int .i64 ymn, .int .i64 ymx, .int .i64 ykd, .bool ybd, .int .u64 ybn, ysc, .string ynm, ysk, .int .u64 xw, .slice A' n' c', .slice B' m' d'] 35) := ⟨_, rfl⟩
  have hb2 : Below w.heap.size w W := hWW ▸ b2 _ _ _
  have hX : Blk W w.heap.size [.int .i64 xk, .int .i64 xmn, .int .i64 xmx, .int .i64 xkd, .bool xbd, .int .u64 xbn, xsc, .string xnm, xsk, .int .u64 xw, .slice A n c, .slice B m d] := by rw [hWW]; exact (Blk.new w [.int .i64 xk, .int .i64 xmn, .int .i64 xmx, .int .i64 xkd, .bool xbd, .int .u64 xbn, xsc, .string xnm, xsk, .int .u64 xw, .slice A n c, .slice B m d] 35).alloc _
  have hY : Blk W (w.heap.size + 1) [.int .i64 yk, .int .i64 ymn, .int .i64 ymx, .int .i64 ykd, .bool ybd, .int .u64 ybn, ysc, .string ynm, ysk, .int .u64 xw, .slice A' n' c', .slice B' m' d'] := by rw [hWW]; exact Blk.is (us := [.int .i64 yk, .int .i64 ymn, .int .i64 ymx, .int .i64 ykd, .bool ybd, .int .u64 ybn, ysc, .string ynm, ysk, .int .u64 xw, .slice A' n' c', .slice B' m' d']) _ (by simp)
  have hN1 := hN W hb2
  have hcell : ∀ w1, Below W.heap.size W w1 → Blk w1 w.heap.size [.int .i64 xk, .int .i64 xmn, .int .i64 xmx, .int .i64 xkd, .bool xbd, .int .u64 xbn, xsc, .string xnm, xsk, .int .u64 xw, .slice A n c, .slice B m d] ∧ Blk w1 (w.heap.size + 1) [.int .i64 yk, .int .i64 ymn, .int .i64 ymx, .int .i64 ykd, .bool ybd, .int .u64 ybn, ysc, .string ynm, ysk, .int .u64 xw, .slice A' n' c', .slice B' m' d'] := fun w1 hb => ⟨hX.later hb, hY.later hb⟩
  have hb0 : ((n : Int) == (n' : Int)) = false := by rw [beq_eq_false_iff_ne]; omega
  have hb1 : ((n : Int) != (n' : Int)) = true := by simp only [bne, hb0]; rfl
  clear hX hY hN
  subst hWW
  go_enter Tryz.func15, Tryz.ntmps15
  go_wp2_with (go_at_call 59; refine hN1.mono ?_; rintro e w3 ⟨rfl, hb3⟩; obtain ⟨HX, HY⟩ := hcell _ hb3; have c9 := HX.cell 9 _ rfl; have d9 := HY.cell 9 _ rfl; have c10 := HX.cell 10 _ rfl; have d10 := HY.cell 10 _ rfl; have c11 := HX.cell 11 _ rfl; have d11 := HY.cell 11 _ rfl; clear HX HY)
  go_ret
  exact ⟨rfl, bstep hb2 hb3⟩
set_option maxRecDepth 100000 in
set_option maxHeartbeats 4000000 in
theorem ksame_e (xk xmn xmx xkd : Int) (xbd : Bool) (xbn : Int) (xsc : Value) (xnm : ByteArray) (xsk : Value) (xw : Int) (yk ymn ymx ykd : Int) (ybd : Bool) (ybn : Int) (ysc : Value) (ynm : ByteArray) (ysk : Value) (A B A' B' : Option Addr) (n m n' m' c d c' d' : Nat) (w : World)
    (hN : ∀ w', Below w.heap.size w w' → Calls Tryz.prog 59 #[.agg #[.int .i64 xk, .int .i64 xmn, .int .i64 xmx, .int .i64 xkd, .bool xbd, .int .u64 xbn, xsc, .string xnm, xsk], .agg #[.int .i64 yk, .int .i64 ymn, .int .i64 ymx, .int .i64 ykd, .bool ybd, .int .u64 ybn, ysc, .string ynm, ysk]] w' fun e w'' => e = .returned (.bool true) ∧ Below w'.heap.size w' w'') (hn : n = n') (h : ¬ m = m') :
    Calls Tryz.prog 15 #[.agg #[.int .i64 xk, .int .i64 xmn, .int .i64 xmx, .int .i64 xkd, .bool xbd, .int .u64 xbn, xsc, .string xnm, xsk, .int .u64 xw, .slice A n c, .slice B m d], .agg #[.int .i64 yk, .int .i64 ymn, .int .i64 ymx, .int .i64 ykd, .bool ybd, .int .u64 ybn, ysc, .string ynm, ysk, .int .u64 xw, .slice A' n' c', .slice B' m' d']] w fun e w' => e = .returned (.bool false) ∧ Below w.heap.size w w' := by
  obtain ⟨W, hWW⟩ : ∃ W, W = (w.alloc (.cells #[.int .i64 xk, .int .i64 xmn, .int .i64 xmx, .int .i64 xkd, .bool xbd, .int .u64 xbn, xsc, .string xnm, xsk, .int .u64 xw, .slice A n c, .slice B m d] 35)).alloc (.cells #[.int .i64 yk, .int .i64 ymn, .int .i64 ymx, .int .i64 ykd, .bool ybd, .int .u64 ybn, ysc, .string ynm, ysk, .int .u64 xw, .slice A' n' c', .slice B' m' d'] 35) := ⟨_, rfl⟩
  have hb2 : Below w.heap.size w W := hWW ▸ b2 _ _ _
  have hX : Blk W w.heap.size [.int .i64 xk, .int .i64 xmn, .int .i64 xmx, .int .i64 xkd, .bool xbd, .int .u64 xbn, xsc, .string xnm, xsk, .int .u64 xw, .slice A n c, .slice B m d] := by rw [hWW]; exact (Blk.new w [.int .i64 xk, .int .i64 xmn, .int .i64 xmx, .int .i64 xkd, .bool xbd, .int .u64 xbn, xsc, .string xnm, xsk, .int .u64 xw, .slice A n c, .slice B m d] 35).alloc _
  have hY : Blk W (w.heap.size + 1) [.int .i64 yk, .int .i64 ymn, .int .i64 ymx, .int .i64 ykd, .bool ybd, .int .u64 ybn, ysc, .string ynm, ysk, .int .u64 xw, .slice A' n' c', .slice B' m' d'] := by rw [hWW]; exact Blk.is (us := [.int .i64 yk, .int .i64 ymn, .int .i64 ymx, .int .i64 ykd, .bool ybd, .int .u64 ybn, ysc, .string ynm, ysk, .int .u64 xw, .slice A' n' c', .slice B' m' d']) _ (by simp)
  have hN1 := hN W hb2
  have hcell : ∀ w1, Below W.heap.size W w1 → Blk w1 w.heap.size [.int .i64 xk, .int .i64 xmn, .int .i64 xmx, .int .i64 xkd, .bool xbd, .int .u64 xbn, xsc, .string xnm, xsk, .int .u64 xw, .slice A n c, .slice B m d] ∧ Blk w1 (w.heap.size + 1) [.int .i64 yk, .int .i64 ymn, .int .i64 ymx, .int .i64 ykd, .bool ybd, .int .u64 ybn, ysc, .string ynm, ysk, .int .u64 xw, .slice A' n' c', .slice B' m' d'] := fun w1 hb => ⟨hX.later hb, hY.later hb⟩
  have ha1 : ((n : Int) != (n' : Int)) = false := by simp [hn]
  have hb0 : ((m : Int) == (m' : Int)) = false := by rw [beq_eq_false_iff_ne]; omega
  have hb1 : ((m : Int) != (m' : Int)) = true := by simp only [bne, hb0]; rfl
  clear hX hY hN hn
  subst hWW
  go_enter Tryz.func15, Tryz.ntmps15
  go_wp2_with (go_at_call 59; refine hN1.mono ?_; rintro e w3 ⟨rfl, hb3⟩; obtain ⟨HX, HY⟩ := hcell _ hb3; have c9 := HX.cell 9 _ rfl; have d9 := HY.cell 9 _ rfl; have c10 := HX.cell 10 _ rfl; have d10 := HY.cell 10 _ rfl; have c11 := HX.cell 11 _ rfl; have d11 := HY.cell 11 _ rfl; clear HX HY)
  go_ret
  exact ⟨rfl, bstep hb2 hb3⟩
set_option maxRecDepth 100000 in
set_option maxHeartbeats 8000000 in
theorem ksame_5 (xk xmn xmx xkd : Int) (xbd : Bool) (xbn : Int) (xsc : Value) (xnm : ByteArray) (xsk : Value) (xw : Int) (yk ymn ymx ykd : Int) (ybd : Bool) (ybn : Int) (ysc : Value) (ynm : ByteArray) (ysk : Value) (sh se sh' se' : Value) (xs ys : List Hv) (us vs : List Ag) (w : World) (hl1 : xs.length = ys.length) (hl2 : us.length = vs.length)
    (hu : Sl w 4 xs.length sh (xs.flatMap hvC)) (hv : Sl w 4 ys.length sh' (ys.flatMap hvC)) (hu2 : Sl w 2 us.length se (us.flatMap agC)) (hv2 : Sl w 2 vs.length se' (vs.flatMap agC))
    (hN : ∀ w', Below w.heap.size w w' → Calls Tryz.prog 59 #[.agg #[.int .i64 xk, .int .i64 xmn, .int .i64 xmx, .int .i64 xkd, .bool xbd, .int .u64 xbn, xsc, .string xnm, xsk], .agg #[.int .i64 yk, .int .i64 ymn, .int .i64 ymx, .int .i64 ykd, .bool ybd, .int .u64 ybn, ysc, .string ynm, ysk]] w' fun e w'' => e = .returned (.bool true) ∧ Below w'.heap.size w' w'') :
    Calls Tryz.prog 15 #[.agg #[.int .i64 xk, .int .i64 xmn, .int .i64 xmx, .int .i64 xkd, .bool xbd, .int .u64 xbn, xsc, .string xnm, xsk, .int .u64 xw, sh, se], .agg #[.int .i64 yk, .int .i64 ymn, .int .i64 ymx, .int .i64 ykd, .bool ybd, .int .u64 ybn, ysc, .string ynm, ysk, .int .u64 xw, sh', se']] w fun e w' => e = .returned (.bool (decide (xs = ys) && decide (us = vs))) ∧ Below w.heap.size w w' := by
  obtain ⟨A, c, rfl, hm, hc⟩ := sl_els (by decide) hvC_len hu
  obtain ⟨A', c', rfl, hm', hc'⟩ := sl_els (by decide) hvC_len hv
  obtain ⟨B, d, rfl, hm2, hd⟩ := sl_els (by decide) agC_len hu2
  obtain ⟨B', d', rfl, hm2', hd'⟩ := sl_els (by decide) agC_len hv2
  have HC := Lib.hid hc
  have HC' := Lib.hid hc'
  have HD := Lib.hid hd
  have HD' := Lib.hid hd'
  have HLHave := Lib.hid hl1
  have HLAgg := Lib.hid hl2
  have n1 : ((xs.length : Int) != (ys.length : Int)) = false := by simp [hl1]
  have n2 : ((us.length : Int) != (vs.length : Int)) = false := by simp [hl2]
  obtain ⟨W, hWW⟩ : ∃ W, W = (w.alloc (.cells #[.int .i64 xk, .int .i64 xmn, .int .i64 xmx, .int .i64 xkd, .bool xbd, .int .u64 xbn, xsc, .string xnm, xsk, .int .u64 xw, .slice A xs.length c, .slice B us.length d] 35)).alloc (.cells #[.int .i64 yk, .int .i64 ymn, .int .i64 ymx, .int .i64 ykd, .bool ybd, .int .u64 ybn, ysc, .string ynm, ysk, .int .u64 xw, .slice A' ys.length c', .slice B' vs.length d'] 35) := ⟨_, rfl⟩
  have hb2 : Below w.heap.size w W := hWW ▸ b2 _ _ _
  have hX : Blk W w.heap.size [.int .i64 xk, .int .i64 xmn, .int .i64 xmx, .int .i64 xkd, .bool xbd, .int .u64 xbn, xsc, .string xnm, xsk, .int .u64 xw, .slice A xs.length c, .slice B us.length d] := by rw [hWW]; exact (Blk.new w [.int .i64 xk, .int .i64 xmn, .int .i64 xmx, .int .i64 xkd, .bool xbd, .int .u64 xbn, xsc, .string xnm, xsk, .int .u64 xw, .slice A xs.length c, .slice B us.length d] 35).alloc _
  have hY : Blk W (w.heap.size + 1) [.int .i64 yk, .int .i64 ymn, .int .i64 ymx, .int .i64 ykd, .bool ybd, .int .u64 ybn, ysc, .string ynm, ysk, .int .u64 xw, .slice A' ys.length c', .slice B' vs.length d'] := by rw [hWW]; exact Blk.is (us := [.int .i64 yk, .int .i64 ymn, .int .i64 ymx, .int .i64 ykd, .bool ybd, .int .u64 ybn, ysc, .string ynm, ysk, .int .u64 xw, .slice A' ys.length c', .slice B' vs.length d']) _ (by simp)
  have hN1 := hN W hb2
  have hcell : ∀ w1, Below W.heap.size W w1 → Blk w1 w.heap.size [.int .i64 xk, .int .i64 xmn, .int .i64 xmx, .int .i64 xkd, .bool xbd, .int .u64 xbn, xsc, .string xnm, xsk, .int .u64 xw, .slice A xs.length c, .slice B us.length d] ∧ Blk w1 (w.heap.size + 1) [.int .i64 yk, .int .i64 ymn, .int .i64 ymx, .int .i64 ykd, .bool ybd, .int .u64 ybn, ysc, .string ynm, ysk, .int .u64 xw, .slice A' ys.length c', .slice B' vs.length d'] := fun w1 hb => ⟨hX.later hb, hY.later hb⟩
  have HB0 := Lib.hid hb2
  clear hX hY hN hc hc' hd hd' hu hv hu2 hv2 hl1 hl2 hb2
  go_enter Tryz.func15, Tryz.ntmps15
  go_wp2_with fail
  rw [← hWW]
  clear hWW
  refine hN1.mono ?_
  rintro e1 w3 ⟨rfl, hb3⟩
  have HB := Lib.hid (bstep HB0.out hb3)
  obtain ⟨HX, HY⟩ := hcell _ hb3
  have c9 := HX.cell 9 _ rfl
  have d9 := HY.cell 9 _ rfl
  have c10 := HX.cell 10 _ rfl
  have d10 := HY.cell 10 _ rfl
  have c11 := HX.cell 11 _ rfl
  have d11 := HY.cell 11 _ rfl
  clear HX HY hcell hN1 hb3 HB0
  go_wp2
  clear c9 d9
  go_loopg [5] xs.length (fun g iv wr => ∃ (i n : Nat), i ≤ xs.length ∧ g = xs.length - i ∧ iv = .int .i64 (i : Int) ∧ wr = w3.drewN n ∧ Hid (decide (xs = ys) = decide (xs.drop i = ys.drop i)))
  case atStart => exact ⟨0, 0, Nat.zero_le _, rfl, rfl, rfl, Lib.hid rfl⟩
  case round =>
    obtain ⟨i, n, hi, hg, rfl, rfl, hR⟩ := hrel
    by_cases hz : i < xs.length
    · have hz' : i < ys.length := by have := HLHave.out; omega
      have h1 : (i : Int) < (xs.length : Int) := by omega
      have h2 : (i : Int) < (ys.length : Int) := by omega
      obtain ⟨a, rfl, _, E⟩ := HC.out i hz
      obtain ⟨a', rfl, _, E'⟩ := HC'.out i hz'
      have hwi : IntKind.i64.wrap ((i : Int) + 1) = (i : Int) + 1 := IntWalk.i64_in _ ⟨by omega, by omega⟩
      have hst : decide (xs.drop i = ys.drop i) = (decide (xs[i] = ys[i]) && decide (xs.drop (i + 1) = ys.drop (i + 1))) := by
        rw [List.drop_eq_getElem_cons hz, List.drop_eq_getElem_cons hz']
        simp only [List.cons.injEq, Bool.decide_and]
      obtain ⟨x, hx⟩ : ∃ x, x = xs[i] := ⟨_, rfl⟩
      obtain ⟨y, hy⟩ : ∃ y, y = ys[i] := ⟨_, rfl⟩
      rw [← hx] at E hst
      rw [← hy] at E' hst
      rw [hst] at hR
      replace E := E.later (HB.out)
      replace E' := E'.later (HB.out)
      obtain ⟨⟨x_fn, x_nm⟩, ⟨x_op, x_va⟩⟩ := x
      obtain ⟨⟨y_fn, y_nm⟩, ⟨y_op, y_va⟩⟩ := y
      simp only [hvC] at E E'
      simp only [Hv.mk.injEq, Ag.mk.injEq, Cn.mk.injEq] at hR
      have c0 := E.at0 _ rfl
      have d0 := E'.at0 _ rfl
      have c1 := E.at1 1 _ (by decide) rfl
      have d1 := E'.at1 1 _ (by decide) rfl
      have c2 := E.at1 2 _ (by decide) rfl
      have d2 := E'.at1 2 _ (by decide) rfl
      have c3 := E.at1 3 _ (by decide) rfl
      have d3 := E'.at1 3 _ (by decide) rfl
      clear E E' hst hx hy
      by_cases e0 : x_fn = y_fn
      · subst e0
        by_cases e1 : x_nm = y_nm
        · subst e1
          by_cases e2 : x_op = y_op
          · subst e2
            by_cases e3 : x_va = y_va
            · subst e3
              have hR2 := Lib.hid (show decide (xs = ys) = decide (xs.drop (i + 1) = ys.drop (i + 1)) by rw [hR.out]; simp)
              clear hR
              go_wp2
              go_quiet (fail)
              go_wp2
              go_roundg (xs.length - (i + 1))
              case rel => exact ⟨i + 1, _, by omega, rfl, by go_num, rfl, hR2⟩
              case measure => omega
            · have hR2 := Lib.hid (show decide (xs = ys) = false by rw [hR.out]; simp [e3])
              have hb0 : (x_va == y_va) = false := by rw [beq_eq_false_iff_ne]; exact e3
              clear hR
              go_wp2
              go_quiet (fail)
              go_wp2
              go_ret
              exact ⟨by rw [hR2.out, Bool.false_and]; rfl, below_drewN (below_drewN HB.out n) _⟩
          · have hR2 := Lib.hid (show decide (xs = ys) = false by rw [hR.out]; simp [e2])
            have hb0 : (x_op == y_op) = false := by rw [beq_eq_false_iff_ne]; exact e2
            clear hR
            go_wp2
            go_quiet (fail)
            go_wp2
            go_ret
            exact ⟨by rw [hR2.out, Bool.false_and]; rfl, below_drewN (below_drewN HB.out n) _⟩
        · have hR2 := Lib.hid (show decide (xs = ys) = false by rw [hR.out]; simp [e1])
          have hb0 : ((strOf x_nm).toList == (strOf y_nm).toList) = false := str_ne (fun h => e1 (strOf_inj h))
          have hb1 : ¬ (strOf x_nm).toList = (strOf y_nm).toList := by rw [beq_eq_false_iff_ne] at hb0; exact hb0
          clear hR
          go_wp2
          go_quiet (fail)
          go_wp2
          go_ret
          exact ⟨by rw [hR2.out, Bool.false_and]; rfl, below_drewN (below_drewN HB.out n) _⟩
      · have hR2 := Lib.hid (show decide (xs = ys) = false by rw [hR.out]; simp [e0])
        have hb0 : (x_fn == y_fn) = false := by rw [beq_eq_false_iff_ne]; exact e0
        clear hR
        go_wp2
        go_quiet (fail)
        go_wp2
        go_ret
        exact ⟨by rw [hR2.out, Bool.false_and]; rfl, below_drewN (below_drewN HB.out n) _⟩
    · have h1 : ¬ (i : Int) < (xs.length : Int) := by omega
      have hEHave := Lib.hid (show decide (xs = ys) = true by rw [hR.out, List.drop_eq_nil_of_le (by omega), List.drop_eq_nil_of_le (by have := HLHave.out; omega)]; rfl)
      clear hR
      obtain ⟨V, hV⟩ : ∃ V, V = w3.drewN n := ⟨_, rfl⟩
      have HV := Lib.hid (show Below w.heap.size w V from hV ▸ below_drewN HB.out n)
      have v11 : V.cell? ⟨w.heap.size, 11, none⟩ = some (.slice B us.length d) := by rw [hV]; exact c11
      have w11 : V.cell? ⟨w.heap.size + 1, 11, none⟩ = some (.slice B' vs.length d') := by rw [hV]; exact d11
      clear HC HC' c11 d11
      go_wp2
      rw [← hV]
      clear hV h1 c10 d10
      go_loopg [6] us.length (fun g iv wr => ∃ (i n : Nat), i ≤ us.length ∧ g = us.length - i ∧ iv = .int .i64 (i : Int) ∧ wr = V.drewN n ∧ Hid (decide (us = vs) = decide (us.drop i = vs.drop i)))
      case atStart => exact ⟨0, 0, Nat.zero_le _, rfl, rfl, rfl, Lib.hid rfl⟩
      case round =>
        obtain ⟨i, n, hi, hg, rfl, rfl, hR⟩ := hrel
        by_cases hz : i < us.length
        · have hz' : i < vs.length := by have := HLAgg.out; omega
          have h1 : (i : Int) < (us.length : Int) := by omega
          have h2 : (i : Int) < (vs.length : Int) := by omega
          obtain ⟨a, rfl, _, E⟩ := HD.out i hz
          obtain ⟨a', rfl, _, E'⟩ := HD'.out i hz'
          have hwi : IntKind.i64.wrap ((i : Int) + 1) = (i : Int) + 1 := IntWalk.i64_in _ ⟨by omega, by omega⟩
          have hst : decide (us.drop i = vs.drop i) = (decide (us[i] = vs[i]) && decide (us.drop (i + 1) = vs.drop (i + 1))) := by
            rw [List.drop_eq_getElem_cons hz, List.drop_eq_getElem_cons hz']
            simp only [List.cons.injEq, Bool.decide_and]
          obtain ⟨x, hx⟩ : ∃ x, x = us[i] := ⟨_, rfl⟩
          obtain ⟨y, hy⟩ : ∃ y, y = vs[i] := ⟨_, rfl⟩
          rw [← hx] at E hst
          rw [← hy] at E' hst
          rw [hst] at hR
          replace E := E.later (HV.out)
          replace E' := E'.later (HV.out)
          obtain ⟨x_fn, x_nm⟩ := x
          obtain ⟨y_fn, y_nm⟩ := y
          simp only [agC] at E E'
          simp only [Ag.mk.injEq] at hR
          have c0 := E.at0 _ rfl
          have d0 := E'.at0 _ rfl
          have c1 := E.at1 1 _ (by decide) rfl
          have d1 := E'.at1 1 _ (by decide) rfl
          clear E E' hst hx hy
          by_cases e0 : x_fn = y_fn
          · subst e0
            by_cases e1 : x_nm = y_nm
            · subst e1
              have hR2 := Lib.hid (show decide (us = vs) = decide (us.drop (i + 1) = vs.drop (i + 1)) by rw [hR.out]; simp)
              clear hR
              go_wp2
              go_quiet (fail)
              go_wp2
              go_roundg (us.length - (i + 1))
              case rel => exact ⟨i + 1, _, by omega, rfl, by go_num, rfl, hR2⟩
              case measure => omega
            · have hR2 := Lib.hid (show decide (us = vs) = false by rw [hR.out]; simp [e1])
              have hb0 : ((strOf x_nm).toList == (strOf y_nm).toList) = false := str_ne (fun h => e1 (strOf_inj h))
              have hb1 : ¬ (strOf x_nm).toList = (strOf y_nm).toList := by rw [beq_eq_false_iff_ne] at hb0; exact hb0
              clear hR
              go_wp2
              go_quiet (fail)
              go_wp2
              go_ret
              exact ⟨by rw [hR2.out, Bool.and_false]; rfl, below_drewN (below_drewN HV.out n) _⟩
          · have hR2 := Lib.hid (show decide (us = vs) = false by rw [hR.out]; simp [e0])
            have hb0 : (x_fn == y_fn) = false := by rw [beq_eq_false_iff_ne]; exact e0
            clear hR
            go_wp2
            go_quiet (fail)
            go_wp2
            go_ret
            exact ⟨by rw [hR2.out, Bool.and_false]; rfl, below_drewN (below_drewN HV.out n) _⟩
        · have h1 : ¬ (i : Int) < (us.length : Int) := by omega
          have hEAgg := Lib.hid (show decide (us = vs) = true by rw [hR.out, List.drop_eq_nil_of_le (by omega), List.drop_eq_nil_of_le (by have := HLAgg.out; omega)]; rfl)
          clear hR
          clear HD HD'
          go_wp2
          go_ret
          exact ⟨by rw [hEHave.out, hEAgg.out]; rfl, below_drewN HV.out _⟩

theorem ksameq_any (a b : GQ) (w : World) (ha : QW w a) (hb : QW w b) :
    Calls Tryz.prog 15 #[.agg a.row.toArray, .agg b.row.toArray] w fun e w' => e = .returned (.bool (sameQ a.qu b.qu)) ∧ Below w.heap.size w w' := by
  have hN := fun w' (hb' : Below w.heap.size w w') => ksameNode_any a.t b.t w' (ha.tr.later hb') (hb.tr.later hb')
  have hs : sameQ a.qu b.qu = (decide (a.t.nd = b.t.nd) && decide (a.wi = b.wi) && decide (a.hv = b.hv) && decide (a.em = b.em)) := rfl
  rw [hs]
  obtain ⟨-, -, hh, he, -, -⟩ := ha
  obtain ⟨-, -, hh', he', -, -⟩ := hb
  clear hs
  obtain ⟨⟨xk, xmn, xmx, ⟨⟨xkd, xbd, xbn, xcs, xnm⟩, xsc⟩, xsk, xks⟩, xw, xh, xhv, xe, xem⟩ := a
  obtain ⟨⟨yk, ymn, ymx, ⟨⟨ykd, ybd, ybn, ycs, ynm⟩, ysc⟩, ysk, yks⟩, yw, yh, yhv, ye, yem⟩ := b
  simp only at hN hh he hh' he' ⊢
  simp only [qrow_sk]
  simp only [Tr.row] at hN
  obtain ⟨p, hp⟩ : ∃ p, p = decide (Tr.nd (.mk xk xmn xmx ⟨⟨xkd, xbd, xbn, xcs, xnm⟩, xsc⟩ xsk xks) = Tr.nd (.mk yk ymn ymx ⟨⟨ykd, ybd, ybn, ycs, ynm⟩, ysc⟩ ysk yks)) := ⟨_, rfl⟩
  rw [← hp] at hN ⊢
  clear hp
  by_cases h5 : p = true ∧ xw = yw ∧ xhv.length = yhv.length ∧ xem.length = yem.length
  · obtain ⟨rfl, rfl, l1, l2⟩ := h5
    simp only [decide_true, Bool.true_and]
    exact ksame_5 xk xmn xmx xkd xbd xbn xsc (strOf xnm) xsk xw yk ymn ymx ykd ybd ybn ysc (strOf ynm) ysk xh xe yh ye xhv yhv xem yem w l1 l2 hh hh' he he' hN
  · obtain ⟨A, c, rfl, -, -⟩ := sl_get (by decide) hh
    obtain ⟨A', c', rfl, -, -⟩ := sl_get (by decide) hh'
    obtain ⟨B, d, rfl, -, -⟩ := sl_get (by decide) he
    obtain ⟨B', d', rfl, -, -⟩ := sl_get (by decide) he'
    cases p with
    | false => exact ksame_n xk xmn xmx xkd xbd xbn xsc (strOf xnm) xsk xw yw yk ymn ymx ykd ybd ybn ysc (strOf ynm) ysk A B A' B' _ _ _ _ c d c' d' w hN
    | true =>
      by_cases ew : xw = yw
      · subst ew
        by_cases l1 : xhv.length = yhv.length
        · have l2 : ¬ xem.length = yem.length := fun h => h5 ⟨rfl, rfl, l1, h⟩
          have e2 : ¬ xem = yem := fun h => l2 (by rw [h])
          simp only [decide_eq_false e2, Bool.and_false]
          exact ksame_e xk xmn xmx xkd xbd xbn xsc (strOf xnm) xsk xw yk ymn ymx ykd ybd ybn ysc (strOf ynm) ysk A B A' B' _ _ _ _ c d c' d' w hN l1 l2
        · have e1 : ¬ xhv = yhv := fun h => l1 (by rw [h])
          simp only [decide_eq_false e1, Bool.and_false, Bool.false_and]
          exact ksame_h xk xmn xmx xkd xbd xbn xsc (strOf xnm) xsk xw yk ymn ymx ykd ybd ybn ysc (strOf ynm) ysk A B A' B' _ _ _ _ c d c' d' w hN l1
      · simp only [decide_eq_false ew, Bool.and_false, Bool.false_and]
        exact ksame_w xk xmn xmx xkd xbd xbn xsc (strOf xnm) xsk xw yw yk ymn ymx ykd ybd ybn ysc (strOf ynm) ysk A B A' B' _ _ _ _ c d c' d' w hN ew
end Go.Proofs.YtdoioaeppepndaaGreatDoor
