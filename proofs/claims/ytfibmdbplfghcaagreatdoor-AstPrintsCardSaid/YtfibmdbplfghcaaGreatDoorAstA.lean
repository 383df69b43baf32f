/- Walks: two values are compared. Made by program (wip/tools/gen_astA.py). -/
import Derived.Test.YtfibmdbplfghcaaGreatDoorProg
import Derived.Test.YtfibmdbplfghcaaGreatDoorAstMem
import Derived.Outline
import Derived.Deep.LoopGhost
import Derived.BigQuiet
import Derived.Handy
namespace Go.Proofs.YtfibmdbplfghcaaGreatDoor
open Go.RowKit
open A8
theorem strOf_inj {a b : List UInt8} (h : strOf a = strOf b) : a = b := by
  have := congrArg (fun s : ByteArray => s.data.toList) h
  simpa [strOf] using this
set_option maxRecDepth 100000 in
set_option maxHeartbeats 2000000 in
theorem equalCond_0 (x0 : Int) (x1 : Int) (y0 : Int) (y1 : Int) (h : ¬ x0 = y0) (w : World) :
    Calls Tryz.prog 113 #[.agg #[.int .i64 x0, .int .i64 x1], .agg #[.int .i64 y0, .int .i64 y1]] w fun e w' => e = .returned (.bool false) ∧ Below w.heap.size w w' := by
  have hb : (x0 == y0) = false := by rw [beq_eq_false_iff_ne]; exact h
  go_enter Tryz.func113, Tryz.ntmps113
  go_wp2
  go_ret
  exact ⟨rfl, b2 _ _ _⟩
set_option maxRecDepth 100000 in
set_option maxHeartbeats 2000000 in
theorem equalCond_1 (x0 : Int) (x1 : Int) (y1 : Int) (h : ¬ x1 = y1) (w : World) :
    Calls Tryz.prog 113 #[.agg #[.int .i64 x0, .int .i64 x1], .agg #[.int .i64 x0, .int .i64 y1]] w fun e w' => e = .returned (.bool false) ∧ Below w.heap.size w w' := by
  have hb : (x1 == y1) = false := by rw [beq_eq_false_iff_ne]; exact h
  go_enter Tryz.func113, Tryz.ntmps113
  go_wp2
  go_ret
  exact ⟨rfl, b2 _ _ _⟩
set_option maxRecDepth 100000 in
set_option maxHeartbeats 2000000 in
theorem equalCond_2 (x0 : Int) (x1 : Int)   (w : World) :
    Calls Tryz.prog 113 #[.agg #[.int .i64 x0, .int .i64 x1], .agg #[.int .i64 x0, .int .i64 x1]] w fun e w' => e = .returned (.bool true) ∧ Below w.heap.size w w' := by
  go_enter Tryz.func113, Tryz.ntmps113
  go_wp2
  go_ret
  exact ⟨rfl, b2 _ _ _⟩
theorem equalCond_any (x y : Cn) (w : World) :
    Calls Tryz.prog 113 #[.agg (cnC x).toArray, .agg (cnC y).toArray] w fun e w' => e = .returned (.bool (decide (x = y))) ∧ Below w.heap.size w w' := by
  obtain ⟨a, b⟩ := x
  obtain ⟨c, d⟩ := y
  simp only [Cn.mk.injEq]
  by_cases h1 : a = c
  · subst h1
    by_cases h2 : b = d
    · subst h2
      simp only [and_self, decide_true]
      exact equalCond_2 a b w
    · simp only [h2, and_false, decide_false]
      exact equalCond_1 a b d h2 w
  · simp only [h1, false_and, decide_false]
    exact equalCond_0 a b c d h1 w
set_option maxRecDepth 100000 in
set_option maxHeartbeats 2000000 in
theorem equalAgg_0 (x0 : Int) (x1 : ByteArray) (y0 : Int) (y1 : ByteArray) (h : ¬ x0 = y0) (w : World) :
    Calls Tryz.prog 66 #[.agg #[.int .i64 x0, .string x1], .agg #[.int .i64 y0, .string y1]] w fun e w' => e = .returned (.bool false) ∧ Below w.heap.size w w' := by
  have hb : (x0 == y0) = false := by rw [beq_eq_false_iff_ne]; exact h
  go_enter Tryz.func66, Tryz.ntmps66
  go_wp2
  go_ret
  exact ⟨rfl, b2 _ _ _⟩
set_option maxRecDepth 100000 in
set_option maxHeartbeats 2000000 in
theorem equalAgg_1 (x0 : Int) (x1 : ByteArray) (y1 : ByteArray) (h : ¬ x1 = y1) (w : World) :
    Calls Tryz.prog 66 #[.agg #[.int .i64 x0, .string x1], .agg #[.int .i64 x0, .string y1]] w fun e w' => e = .returned (.bool false) ∧ Below w.heap.size w w' := by
  have hb : (x1.toList == y1.toList) = false := str_ne h
  have hb2 : ¬ x1.toList = y1.toList := by rw [beq_eq_false_iff_ne] at hb; exact hb
  go_enter Tryz.func66, Tryz.ntmps66
  go_wp2
  go_ret
  exact ⟨rfl, b2 _ _ _⟩
set_option maxRecDepth 100000 in
set_option maxHeartbeats 2000000 in
theorem equalAgg_2 (x0 : Int) (x1 : ByteArray)   (w : World) :
    Calls Tryz.prog 66 #[.agg #[.int .i64 x0, .string x1], .agg #[.int .i64 x0, .string x1]] w fun e w' => e = .returned (.bool true) ∧ Below w.heap.size w w' := by
  go_enter Tryz.func66, Tryz.ntmps66
  go_wp2
  go_ret
  exact ⟨rfl, b2 _ _ _⟩
theorem equalAgg_any (x y : Ag) (w : World) :
    Calls Tryz.prog 66 #[.agg (agC x).toArray, .agg (agC y).toArray] w fun e w' => e = .returned (.bool (decide (x = y))) ∧ Below w.heap.size w w' := by
  obtain ⟨a, b⟩ := x
  obtain ⟨c, d⟩ := y
  simp only [Ag.mk.injEq]
  by_cases h1 : a = c
  · subst h1
    by_cases h2 : b = d
    · subst h2
      simp only [and_self, decide_true]
      exact equalAgg_2 a (strOf b) w
    · simp only [h2, and_false, decide_false]
      exact equalAgg_1 a (strOf b) (strOf d) (fun e => h2 (strOf_inj e)) w
  · simp only [h1, false_and, decide_false]
    exact equalAgg_0 a (strOf b) c (strOf d) h1 w
set_option maxRecDepth 100000 in
set_option maxHeartbeats 2000000 in
theorem equalHave_0 (x0 : Int) (x1 : ByteArray) (x2 : Int) (x3 : Int) (y0 : Int) (y1 : ByteArray) (y2 : Int) (y3 : Int) (h : ¬ x0 = y0) (w : World) :
    Calls Tryz.prog 64 #[.agg #[.int .i64 x0, .string x1, .int .i64 x2, .int .i64 x3], .agg #[.int .i64 y0, .string y1, .int .i64 y2, .int .i64 y3]] w fun e w' => e = .returned (.bool false) ∧ Below w.heap.size w w' := by
  have hb : (x0 == y0) = false := by rw [beq_eq_false_iff_ne]; exact h
  go_enter Tryz.func64, Tryz.ntmps64
  go_wp2
  go_ret
  exact ⟨rfl, b2 _ _ _⟩
set_option maxRecDepth 100000 in
set_option maxHeartbeats 2000000 in
theorem equalHave_1 (x0 : Int) (x1 : ByteArray) (x2 : Int) (x3 : Int) (y1 : ByteArray) (y2 : Int) (y3 : Int) (h : ¬ x1 = y1) (w : World) :
    Calls Tryz.prog 64 #[.agg #[.int .i64 x0, .string x1, .int .i64 x2, .int .i64 x3], .agg #[.int .i64 x0, .string y1, .int .i64 y2, .int .i64 y3]] w fun e w' => e = .returned (.bool false) ∧ Below w.heap.size w w' := by
  have hb : (x1.toList == y1.toList) = false := str_ne h
  have hb2 : ¬ x1.toList = y1.toList := by rw [beq_eq_false_iff_ne] at hb; exact hb
  go_enter Tryz.func64, Tryz.ntmps64
  go_wp2
  go_ret
  exact ⟨rfl, b2 _ _ _⟩
set_option maxRecDepth 100000 in
set_option maxHeartbeats 2000000 in
theorem equalHave_2 (x0 : Int) (x1 : ByteArray) (x2 : Int) (x3 : Int) (y2 : Int) (y3 : Int) (h : ¬ x2 = y2) (w : World) :
    Calls Tryz.prog 64 #[.agg #[.int .i64 x0, .string x1, .int .i64 x2, .int .i64 x3], .agg #[.int .i64 x0, .string x1, .int .i64 y2, .int .i64 y3]] w fun e w' => e = .returned (.bool false) ∧ Below w.heap.size w w' := by
  have hb : (x2 == y2) = false := by rw [beq_eq_false_iff_ne]; exact h
  go_enter Tryz.func64, Tryz.ntmps64
  go_wp2
  go_ret
  exact ⟨rfl, b2 _ _ _⟩
set_option maxRecDepth 100000 in
set_option maxHeartbeats 2000000 in
theorem equalHave_3 (x0 : Int) (x1 : ByteArray) (x2 : Int) (x3 : Int) (y3 : Int) (h : ¬ x3 = y3) (w : World) :
    Calls Tryz.prog 64 #[.agg #[.int .i64 x0, .string x1, .int .i64 x2, .int .i64 x3], .agg #[.int .i64 x0, .string x1, .int .i64 x2, .int .i64 y3]] w fun e w' => e = .returned (.bool false) ∧ Below w.heap.size w w' := by
  have hb : (x3 == y3) = false := by rw [beq_eq_false_iff_ne]; exact h
  go_enter Tryz.func64, Tryz.ntmps64
  go_wp2
  go_ret
  exact ⟨rfl, b2 _ _ _⟩
set_option maxRecDepth 100000 in
set_option maxHeartbeats 2000000 in
theorem equalHave_4 (x0 : Int) (x1 : ByteArray) (x2 : Int) (x3 : Int)   (w : World) :
    Calls Tryz.prog 64 #[.agg #[.int .i64 x0, .string x1, .int .i64 x2, .int .i64 x3], .agg #[.int .i64 x0, .string x1, .int .i64 x2, .int .i64 x3]] w fun e w' => e = .returned (.bool true) ∧ Below w.heap.size w w' := by
  go_enter Tryz.func64, Tryz.ntmps64
  go_wp2
  go_ret
  exact ⟨rfl, b2 _ _ _⟩
theorem equalHave_any (x y : Hv) (w : World) :
    Calls Tryz.prog 64 #[.agg (hvC x).toArray, .agg (hvC y).toArray] w fun e w' => e = .returned (.bool (decide (x = y))) ∧ Below w.heap.size w w' := by
  obtain ⟨⟨a, b⟩, ⟨p, q⟩⟩ := x
  obtain ⟨⟨c, d⟩, ⟨r, s⟩⟩ := y
  simp only [Hv.mk.injEq, Ag.mk.injEq, Cn.mk.injEq]
  by_cases h1 : a = c
  · subst h1
    by_cases h2 : b = d
    · subst h2
      by_cases h3 : p = r
      · subst h3
        by_cases h4 : q = s
        · subst h4
          simp only [and_self, decide_true]
          exact equalHave_4 a (strOf b) p q w
        · simp only [h4, and_false, decide_false]
          exact equalHave_3 a (strOf b) p q s h4 w
      · simp only [h3, false_and, and_false, decide_false]
        exact equalHave_2 a (strOf b) p q r s h3 w
    · simp only [h2, and_false, false_and, decide_false]
      exact equalHave_1 a (strOf b) p q (strOf d) r s (fun e => h2 (strOf_inj e)) w
  · simp only [h1, false_and, decide_false]
    exact equalHave_0 a (strOf b) p q c (strOf d) r s h1 w
end Go.Proofs.YtfibmdbplfghcaaGreatDoor
