/- Walks: the document's own comparing of atoms. Made by program (wip/tools/gen_astAA.py). -/
import Derived.Test.YtfibmdbplfghcaaGreatDoorAstZ
import Derived.Deep.QuietTactic
namespace Go.Proofs.YtfibmdbplfghcaaGreatDoor
open Go.RowKit
open A8 Tk7

set_option maxRecDepth 100000 in
set_option maxHeartbeats 4000000 in
theorem rsameAtom_0 (xk : Int) (xb : Bool) (xn : Int) (xs : ByteArray) (yk : Int) (yb : Bool) (yn : Int) (ys : ByteArray) (A B : Option Addr) (n m c e : Nat) (h : ¬ xk = yk) (w : World) :
    Calls Tryz.prog 97 #[.agg #[.int .i64 xk, .bool xb, .int .u64 xn, .slice A n c, .string xs], .agg #[.int .i64 yk, .bool yb, .int .u64 yn, .slice B m e, .string ys]] w fun e w' => e = .returned (.bool false) ∧ Below w.heap.size w w' := by
  have hb : (xk == yk) = false := by rw [beq_eq_false_iff_ne]; exact h
  have hb3 : (xk != yk) = true := by simp only [bne, hb]; rfl
  go_enter Tryz.func97, Tryz.ntmps97
  go_wp2
  go_ret
  exact ⟨rfl, b2 _ _ _⟩
set_option maxRecDepth 100000 in
set_option maxHeartbeats 4000000 in
theorem rsameAtom_1 (xk : Int) (xb : Bool) (xn : Int) (xs : ByteArray) (yb : Bool) (yn : Int) (ys : ByteArray) (A B : Option Addr) (n m c e : Nat) (h : ¬ xb = yb) (w : World) :
    Calls Tryz.prog 97 #[.agg #[.int .i64 xk, .bool xb, .int .u64 xn, .slice A n c, .string xs], .agg #[.int .i64 xk, .bool yb, .int .u64 yn, .slice B m e, .string ys]] w fun e w' => e = .returned (.bool false) ∧ Below w.heap.size w w' := by
  have hb : (xb == yb) = false := by rw [beq_eq_false_iff_ne]; exact h
  have hb3 : (xb != yb) = true := by simp only [bne, hb]; rfl
  go_enter Tryz.func97, Tryz.ntmps97
  go_wp2
  go_ret
  exact ⟨rfl, b2 _ _ _⟩
set_option maxRecDepth 100000 in
set_option maxHeartbeats 4000000 in
theorem rsameAtom_2 (xk : Int) (xb : Bool) (xn : Int) (xs : ByteArray) (yn : Int) (ys : ByteArray) (A B : Option Addr) (n m c e : Nat) (h : ¬ xn = yn) (w : World) :
    Calls Tryz.prog 97 #[.agg #[.int .i64 xk, .bool xb, .int .u64 xn, .slice A n c, .string xs], .agg #[.int .i64 xk, .bool xb, .int .u64 yn, .slice B m e, .string ys]] w fun e w' => e = .returned (.bool false) ∧ Below w.heap.size w w' := by
  have hb : (xn == yn) = false := by rw [beq_eq_false_iff_ne]; exact h
  have hb3 : (xn != yn) = true := by simp only [bne, hb]; rfl
  go_enter Tryz.func97, Tryz.ntmps97
  go_wp2
  go_ret
  exact ⟨rfl, b2 _ _ _⟩
set_option maxRecDepth 100000 in
set_option maxHeartbeats 4000000 in
theorem rsameAtom_3 (xk : Int) (xb : Bool) (xn : Int) (xs : ByteArray) (ys : ByteArray) (A B : Option Addr) (n m c e : Nat) (h : ¬ xs = ys) (w : World) :
    Calls Tryz.prog 97 #[.agg #[.int .i64 xk, .bool xb, .int .u64 xn, .slice A n c, .string xs], .agg #[.int .i64 xk, .bool xb, .int .u64 xn, .slice B m e, .string ys]] w fun e w' => e = .returned (.bool false) ∧ Below w.heap.size w w' := by
  have hb : (xs.toList == ys.toList) = false := str_ne h
  have hb2 : ¬ xs.toList = ys.toList := by rw [beq_eq_false_iff_ne] at hb; exact hb
  go_enter Tryz.func97, Tryz.ntmps97
  go_wp2
  go_ret
  exact ⟨rfl, b2 _ _ _⟩
set_option maxRecDepth 100000 in
set_option maxHeartbeats 4000000 in
theorem rsameAtom_4 (xk : Int) (xb : Bool) (xn : Int) (xs : ByteArray)  (A B : Option Addr) (n m c e : Nat) (h : ¬ n = m) (w : World) :
    Calls Tryz.prog 97 #[.agg #[.int .i64 xk, .bool xb, .int .u64 xn, .slice A n c, .string xs], .agg #[.int .i64 xk, .bool xb, .int .u64 xn, .slice B m e, .string xs]] w fun e w' => e = .returned (.bool false) ∧ Below w.heap.size w w' := by
  have hb : ((n : Int) == (m : Int)) = false := by rw [beq_eq_false_iff_ne]; omega
  have hb3 : ((n : Int) != (m : Int)) = true := by simp only [bne, hb]; rfl
  go_enter Tryz.func97, Tryz.ntmps97
  go_wp2
  go_ret
  exact ⟨rfl, b2 _ _ _⟩
set_option maxRecDepth 100000 in
set_option maxHeartbeats 4000000 in
theorem rsameAtom_5 (xk : Int) (xb : Bool) (xn : Int) (s : ByteArray) (u v : Value) (xs ys : List Cn) (w : World) (hlen : xs.length = ys.length) (hu : Sl w 2 xs.length u (xs.flatMap cnC)) (hv : Sl w 2 ys.length v (ys.flatMap cnC)) :
    Calls Tryz.prog 97 #[.agg #[.int .i64 xk, .bool xb, .int .u64 xn, u, .string s], .agg #[.int .i64 xk, .bool xb, .int .u64 xn, v, .string s]] w fun e w' => e = .returned (.bool (decide (xs = ys))) ∧ Below w.heap.size w w' := by
  obtain ⟨A, c, rfl, hm, hc⟩ := sl_els (by decide) cnC_len hu
  obtain ⟨B, e, rfl, hm', hc'⟩ := sl_els (by decide) cnC_len hv
  have HC := Lib.hid hc
  have HC' := Lib.hid hc'
  have HLCond := Lib.hid hlen
  have hbe : ((xs.length : Int) == (ys.length : Int)) = true := by simp [hlen]
  have hbe2 : ((xs.length : Int) != (ys.length : Int)) = false := by simp [hlen]
  obtain ⟨W, hWW⟩ : ∃ W, W = (w.alloc (.cells #[.int .i64 xk, .bool xb, .int .u64 xn, .slice A xs.length c, .string s] 25)).alloc (.cells #[.int .i64 xk, .bool xb, .int .u64 xn, .slice B ys.length e, .string s] 25) := ⟨_, rfl⟩
  have hb2 : Below w.heap.size w W := hWW ▸ b2 _ _ _
  have hX : Blk W w.heap.size [.int .i64 xk, .bool xb, .int .u64 xn, .slice A xs.length c, .string s] := by rw [hWW]; exact (Blk.new w [.int .i64 xk, .bool xb, .int .u64 xn, .slice A xs.length c, .string s] 25).alloc _
  have hY : Blk W (w.heap.size + 1) [.int .i64 xk, .bool xb, .int .u64 xn, .slice B ys.length e, .string s] := by rw [hWW]; exact Blk.is (us := [.int .i64 xk, .bool xb, .int .u64 xn, .slice B ys.length e, .string s]) _ (by simp)
  have x3 := hX.cell 3 _ rfl
  have y3 := hY.cell 3 _ rfl
  have HB := Lib.hid hb2
  clear hc hc' hu hv hlen hX hY hb2
  go_enter Tryz.func97, Tryz.ntmps97
  go_wp2
  rw [← hWW]
  clear hWW
  go_loopg [5] xs.length (fun g iv wr => ∃ (i n : Nat), i ≤ xs.length ∧ g = xs.length - i ∧ iv = .int .i64 (i : Int) ∧ wr = W.drewN n ∧ Hid (decide (xs = ys) = decide (xs.drop i = ys.drop i)))
  case atStart => exact ⟨0, 0, Nat.zero_le _, rfl, rfl, rfl, Lib.hid rfl⟩
  case round =>
    obtain ⟨i, n, hi, hg, rfl, rfl, hR⟩ := hrel
    by_cases hz : i < xs.length
    · have hz' : i < ys.length := by have := HLCond.out; omega
      have h1 : (i : Int) < (xs.length : Int) := by omega
      have h2 : (i : Int) < (ys.length : Int) := by omega
      obtain ⟨a, rfl, _, E⟩ := HC.out i hz
      obtain ⟨a', rfl, _, E'⟩ := HC'.out i hz'
      have hwi : IntKind.i64.wrap ((i : Int) + 1) = (i : Int) + 1 := IntWalk.i64_in _ ⟨by omega, by omega⟩
      have hst : decide (xs.drop i = ys.drop i) = (decide (xs[i] = ys[i]) && decide (xs.drop (i + 1) = ys.drop (i + 1))) := by
        rw [List.drop_eq_getElem_cons hz, List.drop_eq_getElem_cons hz']
        simp only [List.cons.injEq, Bool.decide_and]
      obtain ⟨x, hx⟩ : ∃ x, x = xs[i] := ⟨_, rfl⟩
      obtain ⟨y, hy⟩ : ∃ y, y = ys[i] := ⟨_, rfl⟩
      rw [← hx] at E hst
      rw [← hy] at E' hst
      rw [hst] at hR
      replace E := E.later (HB.out)
      replace E' := E'.later (HB.out)
      obtain ⟨x_op, x_va⟩ := x
      obtain ⟨y_op, y_va⟩ := y
      simp only [cnC] at E E'
      simp only [Cn.mk.injEq] at hR
      have c0 := E.at0 _ rfl
      have d0 := E'.at0 _ rfl
      have c1 := E.at1 1 _ (by decide) rfl
      have d1 := E'.at1 1 _ (by decide) rfl
      clear E E' hst hx hy
      by_cases e0 : x_op = y_op
      · subst e0
        by_cases e1 : x_va = y_va
        · subst e1
          have hR2 := Lib.hid (show decide (xs = ys) = decide (xs.drop (i + 1) = ys.drop (i + 1)) by rw [hR.out]; simp)
          clear hR
          go_wp2
          go_quiet (fail)
          go_wp2
          go_roundg (xs.length - (i + 1))
          case rel => exact ⟨i + 1, _, by omega, rfl, by go_num, rfl, hR2⟩
          case measure => omega
        · have hR2 := Lib.hid (show decide (xs = ys) = false by rw [hR.out]; simp [e1])
          have hb0 : (x_va == y_va) = false := by rw [beq_eq_false_iff_ne]; exact e1
          clear hR
          go_wp2
          go_quiet (fail)
          go_wp2
          go_ret
          exact ⟨by rw [hR2.out]; rfl, below_drewN (below_drewN HB.out n) _⟩
      · have hR2 := Lib.hid (show decide (xs = ys) = false by rw [hR.out]; simp [e0])
        have hb0 : (x_op == y_op) = false := by rw [beq_eq_false_iff_ne]; exact e0
        clear hR
        go_wp2
        go_quiet (fail)
        go_wp2
        go_ret
        exact ⟨by rw [hR2.out]; rfl, below_drewN (below_drewN HB.out n) _⟩
    · have h1 : ¬ (i : Int) < (xs.length : Int) := by omega
      have hECond := Lib.hid (show decide (xs = ys) = true by rw [hR.out, List.drop_eq_nil_of_le (by omega), List.drop_eq_nil_of_le (by have := HLCond.out; omega)]; rfl)
      clear hR
      clear HC HC'
      go_wp2
      go_ret
      exact ⟨by rw [hECond.out]; rfl, below_drewN HB.out _⟩
theorem rsameAtom_any (g h : GA) (w : World) (hg : OneA w g) (hh : OneA w h) :
    Calls Tryz.prog 97 #[.agg (gaC g).toArray, .agg (gaC h).toArray] w fun e w' => e = .returned (.bool (decide (g.a = h.a))) ∧ Below w.heap.size w w' := by
  obtain ⟨⟨kd, bd, bn, cs, nm⟩, sc⟩ := g
  obtain ⟨⟨kd', bd', bn', cs', nm'⟩, sc'⟩ := h
  obtain ⟨-, h1⟩ := hg
  obtain ⟨-, h2⟩ := hh
  simp only at h1 h2
  simp only [gaC, At.mk.injEq]
  by_cases e1 : kd = kd'
  · subst e1
    by_cases e2 : bd = bd'
    · subst e2
      by_cases e3 : bn = bn'
      · subst e3
        by_cases e5 : nm = nm'
        · subst e5
          simp only [true_and, and_true]
          by_cases e4 : cs.length = cs'.length
          · exact rsameAtom_5 kd bd bn (strOf nm) sc sc' cs cs' w e4 h1 h2
          · have : ¬ cs = cs' := fun e => e4 (by rw [e])
            simp only [this, decide_false]
            obtain ⟨A, c, rfl, -, -⟩ := sl_get (by decide) h1
            obtain ⟨B, e, rfl, -, -⟩ := sl_get (by decide) h2
            exact rsameAtom_4 kd bd bn (strOf nm) A B _ _ c e e4 w
        · simp only [e5, and_false, decide_false]
          obtain ⟨A, c, rfl, -, -⟩ := sl_get (by decide) h1
          obtain ⟨B, e, rfl, -, -⟩ := sl_get (by decide) h2
          exact rsameAtom_3 kd bd bn (strOf nm) (strOf nm') A B _ _ c e (fun h => e5 (strOf_inj h)) w
      · simp only [e3, false_and, and_false, decide_false]
        obtain ⟨A, c, rfl, -, -⟩ := sl_get (by decide) h1
        obtain ⟨B, e, rfl, -, -⟩ := sl_get (by decide) h2
        exact rsameAtom_2 kd bd bn (strOf nm) bn' (strOf nm') A B _ _ c e e3 w
    · simp only [e2, false_and, and_false, decide_false]
      obtain ⟨A, c, rfl, -, -⟩ := sl_get (by decide) h1
      obtain ⟨B, e, rfl, -, -⟩ := sl_get (by decide) h2
      exact rsameAtom_1 kd bd bn (strOf nm) bd' bn' (strOf nm') A B _ _ c e e2 w
  · simp only [e1, false_and, decide_false]
    obtain ⟨A, c, rfl, -, -⟩ := sl_get (by decide) h1
    obtain ⟨B, e, rfl, -, -⟩ := sl_get (by decide) h2
    exact rsameAtom_0 kd bd bn (strOf nm) kd' bd' bn' (strOf nm') A B _ _ c e e1 w
end Go.Proofs.YtfibmdbplfghcaaGreatDoor
