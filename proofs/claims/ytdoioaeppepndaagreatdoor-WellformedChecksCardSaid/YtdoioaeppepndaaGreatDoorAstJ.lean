/- Walks: nodes that are sound if their kids are. Made by program (wip/tools/gen_astJ.py). -/
import Derived.Test.YtdoioaeppepndaaGreatDoorAstOne
namespace Go.Proofs.YtdoioaeppepndaaGreatDoor
open Go.RowKit
open A8 Tk7

theorem len_zero (p : Nat) : ((p : Int) == 0) = decide (p = 0) := by
  by_cases h : p = 0
  · subst h; rfl
  · rw [decide_eq_false h, beq_eq_false_iff_ne]; omega
theorem len_two (p : Nat) : decide (2 ≤ (p : Int)) = decide (2 ≤ p) := by
  by_cases h : 2 ≤ p
  · rw [decide_eq_true h, decide_eq_true_iff]; omega
  · rw [decide_eq_false h, decide_eq_false_iff_not]; omega

set_option maxRecDepth 100000 in
set_option maxHeartbeats 2000000 in
theorem isNode_1af (mn : Int) (hmn : ¬ mn = 0) (mx : Int) (kd : Int) (bd : Bool) (bn : Int) (A B : Option Addr) (m c p e : Nat) (nm : ByteArray) (w : World)
    (hA : ∀ w', Below w.heap.size w w' → Calls Tryz.prog 148 #[.agg #[.int .i64 kd, .bool bd, .int .u64 bn, .slice A m c, .string nm]] w' fun e w'' => e = .returned (.bool false) ∧ Below w'.heap.size w' w'') :
    Calls Tryz.prog 137 #[.agg #[.int .i64 1, .int .i64 mn, .int .i64 mx, .int .i64 kd, .bool bd, .int .u64 bn, .slice A m c, .string nm, .slice B p e]] w fun e w' => e = .returned (.bool (false)) ∧ Below w.heap.size w w' := by
  have hm1 : (mn == 0) = false := by rw [beq_eq_false_iff_ne]; exact hmn
  have hbx : ∀ w1, Below (w.alloc (.cells #[.int .i64 1, .int .i64 mn, .int .i64 mx, .int .i64 kd, .bool bd, .int .u64 bn, .slice A m c, .string nm, .slice B p e] 31)).heap.size (w.alloc (.cells #[.int .i64 1, .int .i64 mn, .int .i64 mx, .int .i64 kd, .bool bd, .int .u64 bn, .slice A m c, .string nm, .slice B p e] 31)) w1 → Blk w1 w.heap.size [.int .i64 1, .int .i64 mn, .int .i64 mx, .int .i64 kd, .bool bd, .int .u64 bn, .slice A m c, .string nm, .slice B p e] := fun w1 hb => (Blk.new w [.int .i64 1, .int .i64 mn, .int .i64 mx, .int .i64 kd, .bool bd, .int .u64 bn, .slice A m c, .string nm, .slice B p e] 31).later hb
  go_enter Tryz.func137, Tryz.ntmps137
  go_wp2_with (first | (go_at_call 148; refine (hA _ (b1 _ _)).mono ?_; rintro e w3 ⟨rfl, hb3⟩; have HX := hbx _ hb3; have c1 := HX.cell 1 _ rfl; have c2 := HX.cell 2 _ rfl; have c8 := HX.cell 8 _ rfl; clear HX))
  go_ret
  exact ⟨rfl, bstep (b1 _ _) hb3⟩

set_option maxRecDepth 100000 in
set_option maxHeartbeats 2000000 in
theorem isNode_1ag (mn : Int) (hmn : ¬ mn = 0) (mx : Int) (kd : Int) (bd : Bool) (bn : Int) (A B : Option Addr) (m c p e : Nat) (nm : ByteArray) (w : World)
    (hA : ∀ w', Below w.heap.size w w' → Calls Tryz.prog 148 #[.agg #[.int .i64 kd, .bool bd, .int .u64 bn, .slice A m c, .string nm]] w' fun e w'' => e = .returned (.bool true) ∧ Below w'.heap.size w' w'') (hF1 : ∀ w, Calls Tryz.prog 145 #[.int .i64 0, .int .i64 mn, .int .i64 99] w fun e w' => e = .returned (.bool false) ∧ w = w') :
    Calls Tryz.prog 137 #[.agg #[.int .i64 1, .int .i64 mn, .int .i64 mx, .int .i64 kd, .bool bd, .int .u64 bn, .slice A m c, .string nm, .slice B p e]] w fun e w' => e = .returned (.bool (false)) ∧ Below w.heap.size w w' := by
  have hm1 : (mn == 0) = false := by rw [beq_eq_false_iff_ne]; exact hmn
  have hbx : ∀ w1, Below (w.alloc (.cells #[.int .i64 1, .int .i64 mn, .int .i64 mx, .int .i64 kd, .bool bd, .int .u64 bn, .slice A m c, .string nm, .slice B p e] 31)).heap.size (w.alloc (.cells #[.int .i64 1, .int .i64 mn, .int .i64 mx, .int .i64 kd, .bool bd, .int .u64 bn, .slice A m c, .string nm, .slice B p e] 31)) w1 → Blk w1 w.heap.size [.int .i64 1, .int .i64 mn, .int .i64 mx, .int .i64 kd, .bool bd, .int .u64 bn, .slice A m c, .string nm, .slice B p e] := fun w1 hb => (Blk.new w [.int .i64 1, .int .i64 mn, .int .i64 mx, .int .i64 kd, .bool bd, .int .u64 bn, .slice A m c, .string nm, .slice B p e] 31).later hb
  go_enter Tryz.func137, Tryz.ntmps137
  go_wp2_with (first | (go_at_call 148; refine (hA _ (b1 _ _)).mono ?_; rintro e w3 ⟨rfl, hb3⟩; have HX := hbx _ hb3; have c1 := HX.cell 1 _ rfl; have c2 := HX.cell 2 _ rfl; have c8 := HX.cell 8 _ rfl; clear HX) | (go_at_call 145; with_reducible refine (hF1 _).mono ?_; rintro e w4 ⟨rfl, rfl⟩))
  go_ret
  exact ⟨rfl, bstep (b1 _ _) hb3⟩

set_option maxRecDepth 100000 in
set_option maxHeartbeats 2000000 in
theorem isNode_1ah (mn : Int) (hmn : ¬ mn = 0) (mx : Int) (kd : Int) (bd : Bool) (bn : Int) (A B : Option Addr) (m c p e : Nat) (nm : ByteArray) (w : World)
    (hA : ∀ w', Below w.heap.size w w' → Calls Tryz.prog 148 #[.agg #[.int .i64 kd, .bool bd, .int .u64 bn, .slice A m c, .string nm]] w' fun e w'' => e = .returned (.bool true) ∧ Below w'.heap.size w' w'') (hF1 : ∀ w, Calls Tryz.prog 145 #[.int .i64 0, .int .i64 mn, .int .i64 99] w fun e w' => e = .returned (.bool true) ∧ w = w') (hF2 : ∀ w, Calls Tryz.prog 145 #[.int .i64 0, .int .i64 mx, .int .i64 99] w fun e w' => e = .returned (.bool false) ∧ w = w') :
    Calls Tryz.prog 137 #[.agg #[.int .i64 1, .int .i64 mn, .int .i64 mx, .int .i64 kd, .bool bd, .int .u64 bn, .slice A m c, .string nm, .slice B p e]] w fun e w' => e = .returned (.bool (false)) ∧ Below w.heap.size w w' := by
  have hm1 : (mn == 0) = false := by rw [beq_eq_false_iff_ne]; exact hmn
  have hbx : ∀ w1, Below (w.alloc (.cells #[.int .i64 1, .int .i64 mn, .int .i64 mx, .int .i64 kd, .bool bd, .int .u64 bn, .slice A m c, .string nm, .slice B p e] 31)).heap.size (w.alloc (.cells #[.int .i64 1, .int .i64 mn, .int .i64 mx, .int .i64 kd, .bool bd, .int .u64 bn, .slice A m c, .string nm, .slice B p e] 31)) w1 → Blk w1 w.heap.size [.int .i64 1, .int .i64 mn, .int .i64 mx, .int .i64 kd, .bool bd, .int .u64 bn, .slice A m c, .string nm, .slice B p e] := fun w1 hb => (Blk.new w [.int .i64 1, .int .i64 mn, .int .i64 mx, .int .i64 kd, .bool bd, .int .u64 bn, .slice A m c, .string nm, .slice B p e] 31).later hb
  go_enter Tryz.func137, Tryz.ntmps137
  go_wp2_with (first | (go_at_call 148; refine (hA _ (b1 _ _)).mono ?_; rintro e w3 ⟨rfl, hb3⟩; have HX := hbx _ hb3; have c1 := HX.cell 1 _ rfl; have c2 := HX.cell 2 _ rfl; have c8 := HX.cell 8 _ rfl; clear HX) | (go_at_call 145; with_reducible refine (hF1 _).mono ?_; rintro e w4 ⟨rfl, rfl⟩) | (go_at_call 145; with_reducible refine (hF2 _).mono ?_; rintro e w5 ⟨rfl, rfl⟩))
  go_ret
  exact ⟨rfl, bstep (b1 _ _) hb3⟩

set_option maxRecDepth 100000 in
set_option maxHeartbeats 2000000 in
theorem isNode_1at (mn : Int) (hmn : ¬ mn = 0) (mx : Int) (kd : Int) (bd : Bool) (bn : Int) (A B : Option Addr) (m c p e : Nat) (nm : ByteArray) (w : World)
    (hA : ∀ w', Below w.heap.size w w' → Calls Tryz.prog 148 #[.agg #[.int .i64 kd, .bool bd, .int .u64 bn, .slice A m c, .string nm]] w' fun e w'' => e = .returned (.bool true) ∧ Below w'.heap.size w' w'') (hF1 : ∀ w, Calls Tryz.prog 145 #[.int .i64 0, .int .i64 mn, .int .i64 99] w fun e w' => e = .returned (.bool true) ∧ w = w') (hF2 : ∀ w, Calls Tryz.prog 145 #[.int .i64 0, .int .i64 mx, .int .i64 99] w fun e w' => e = .returned (.bool true) ∧ w = w') :
    Calls Tryz.prog 137 #[.agg #[.int .i64 1, .int .i64 mn, .int .i64 mx, .int .i64 kd, .bool bd, .int .u64 bn, .slice A m c, .string nm, .slice B p e]] w fun e w' => e = .returned (.bool (decide (p = 0))) ∧ Below w.heap.size w w' := by
  have hm1 : (mn == 0) = false := by rw [beq_eq_false_iff_ne]; exact hmn
  have hbx : ∀ w1, Below (w.alloc (.cells #[.int .i64 1, .int .i64 mn, .int .i64 mx, .int .i64 kd, .bool bd, .int .u64 bn, .slice A m c, .string nm, .slice B p e] 31)).heap.size (w.alloc (.cells #[.int .i64 1, .int .i64 mn, .int .i64 mx, .int .i64 kd, .bool bd, .int .u64 bn, .slice A m c, .string nm, .slice B p e] 31)) w1 → Blk w1 w.heap.size [.int .i64 1, .int .i64 mn, .int .i64 mx, .int .i64 kd, .bool bd, .int .u64 bn, .slice A m c, .string nm, .slice B p e] := fun w1 hb => (Blk.new w [.int .i64 1, .int .i64 mn, .int .i64 mx, .int .i64 kd, .bool bd, .int .u64 bn, .slice A m c, .string nm, .slice B p e] 31).later hb
  go_enter Tryz.func137, Tryz.ntmps137
  go_wp2_with (first | (go_at_call 148; refine (hA _ (b1 _ _)).mono ?_; rintro e w3 ⟨rfl, hb3⟩; have HX := hbx _ hb3; have c1 := HX.cell 1 _ rfl; have c2 := HX.cell 2 _ rfl; have c8 := HX.cell 8 _ rfl; clear HX) | (go_at_call 145; with_reducible refine (hF1 _).mono ?_; rintro e w4 ⟨rfl, rfl⟩) | (go_at_call 145; with_reducible refine (hF2 _).mono ?_; rintro e w5 ⟨rfl, rfl⟩))
  go_ret
  exact ⟨ret_bool (len_zero p), bstep (b1 _ _) hb3⟩

set_option maxRecDepth 100000 in
set_option maxHeartbeats 2000000 in
theorem isNode_2af (mn : Int) (hmn : ¬ mn = 0) (mx : Int) (kd : Int) (bd : Bool) (bn : Int) (A B : Option Addr) (m c p e : Nat) (nm : ByteArray) (w : World)
    (hA : ∀ w', Below w.heap.size w w' → Calls Tryz.prog 148 #[.agg #[.int .i64 kd, .bool bd, .int .u64 bn, .slice A m c, .string nm]] w' fun e w'' => e = .returned (.bool false) ∧ Below w'.heap.size w' w'') :
    Calls Tryz.prog 137 #[.agg #[.int .i64 2, .int .i64 mn, .int .i64 mx, .int .i64 kd, .bool bd, .int .u64 bn, .slice A m c, .string nm, .slice B p e]] w fun e w' => e = .returned (.bool (false)) ∧ Below w.heap.size w w' := by
  have hm1 : (mn == 0) = false := by rw [beq_eq_false_iff_ne]; exact hmn
  have hbx : ∀ w1, Below (w.alloc (.cells #[.int .i64 2, .int .i64 mn, .int .i64 mx, .int .i64 kd, .bool bd, .int .u64 bn, .slice A m c, .string nm, .slice B p e] 31)).heap.size (w.alloc (.cells #[.int .i64 2, .int .i64 mn, .int .i64 mx, .int .i64 kd, .bool bd, .int .u64 bn, .slice A m c, .string nm, .slice B p e] 31)) w1 → Blk w1 w.heap.size [.int .i64 2, .int .i64 mn, .int .i64 mx, .int .i64 kd, .bool bd, .int .u64 bn, .slice A m c, .string nm, .slice B p e] := fun w1 hb => (Blk.new w [.int .i64 2, .int .i64 mn, .int .i64 mx, .int .i64 kd, .bool bd, .int .u64 bn, .slice A m c, .string nm, .slice B p e] 31).later hb
  go_enter Tryz.func137, Tryz.ntmps137
  go_wp2_with (first | (go_at_call 148; refine (hA _ (b1 _ _)).mono ?_; rintro e w3 ⟨rfl, hb3⟩; have HX := hbx _ hb3; have c1 := HX.cell 1 _ rfl; have c2 := HX.cell 2 _ rfl; have c8 := HX.cell 8 _ rfl; clear HX))
  go_ret
  exact ⟨rfl, bstep (b1 _ _) hb3⟩

set_option maxRecDepth 100000 in
set_option maxHeartbeats 2000000 in
theorem isNode_2at (mn : Int) (hmn : ¬ mn = 0) (mx : Int) (kd : Int) (bd : Bool) (bn : Int) (A B : Option Addr) (m c p e : Nat) (nm : ByteArray) (w : World)
    (hA : ∀ w', Below w.heap.size w w' → Calls Tryz.prog 148 #[.agg #[.int .i64 kd, .bool bd, .int .u64 bn, .slice A m c, .string nm]] w' fun e w'' => e = .returned (.bool true) ∧ Below w'.heap.size w' w'') :
    Calls Tryz.prog 137 #[.agg #[.int .i64 2, .int .i64 mn, .int .i64 mx, .int .i64 kd, .bool bd, .int .u64 bn, .slice A m c, .string nm, .slice B p e]] w fun e w' => e = .returned (.bool (false)) ∧ Below w.heap.size w w' := by
  have hm1 : (mn == 0) = false := by rw [beq_eq_false_iff_ne]; exact hmn
  have hbx : ∀ w1, Below (w.alloc (.cells #[.int .i64 2, .int .i64 mn, .int .i64 mx, .int .i64 kd, .bool bd, .int .u64 bn, .slice A m c, .string nm, .slice B p e] 31)).heap.size (w.alloc (.cells #[.int .i64 2, .int .i64 mn, .int .i64 mx, .int .i64 kd, .bool bd, .int .u64 bn, .slice A m c, .string nm, .slice B p e] 31)) w1 → Blk w1 w.heap.size [.int .i64 2, .int .i64 mn, .int .i64 mx, .int .i64 kd, .bool bd, .int .u64 bn, .slice A m c, .string nm, .slice B p e] := fun w1 hb => (Blk.new w [.int .i64 2, .int .i64 mn, .int .i64 mx, .int .i64 kd, .bool bd, .int .u64 bn, .slice A m c, .string nm, .slice B p e] 31).later hb
  go_enter Tryz.func137, Tryz.ntmps137
  go_wp2_with (first | (go_at_call 148; refine (hA _ (b1 _ _)).mono ?_; rintro e w3 ⟨rfl, hb3⟩; have HX := hbx _ hb3; have c1 := HX.cell 1 _ rfl; have c2 := HX.cell 2 _ rfl; have c8 := HX.cell 8 _ rfl; clear HX))
  go_ret
  exact ⟨rfl, bstep (b1 _ _) hb3⟩

set_option maxRecDepth 100000 in
set_option maxHeartbeats 2000000 in
theorem isNode_3af (mn : Int) (hmn : ¬ mn = 0) (mx : Int) (kd : Int) (bd : Bool) (bn : Int) (A B : Option Addr) (m c p e : Nat) (nm : ByteArray) (w : World)
    (hA : ∀ w', Below w.heap.size w w' → Calls Tryz.prog 149 #[.agg #[.int .i64 kd, .bool bd, .int .u64 bn, .slice A m c, .string nm], .agg #[.int .i64 0, .bool false, .int .u64 0, .slice none 0 0, .string ⟨#[]⟩]] w' fun e w'' => e = .returned (.bool false) ∧ Below w'.heap.size w' w'') :
    Calls Tryz.prog 137 #[.agg #[.int .i64 3, .int .i64 mn, .int .i64 mx, .int .i64 kd, .bool bd, .int .u64 bn, .slice A m c, .string nm, .slice B p e]] w fun e w' => e = .returned (.bool (false)) ∧ Below w.heap.size w w' := by
  have hm1 : (mn == 0) = false := by rw [beq_eq_false_iff_ne]; exact hmn
  have hbx : ∀ w1, Below (w.alloc (.cells #[.int .i64 3, .int .i64 mn, .int .i64 mx, .int .i64 kd, .bool bd, .int .u64 bn, .slice A m c, .string nm, .slice B p e] 31)).heap.size (w.alloc (.cells #[.int .i64 3, .int .i64 mn, .int .i64 mx, .int .i64 kd, .bool bd, .int .u64 bn, .slice A m c, .string nm, .slice B p e] 31)) w1 → Blk w1 w.heap.size [.int .i64 3, .int .i64 mn, .int .i64 mx, .int .i64 kd, .bool bd, .int .u64 bn, .slice A m c, .string nm, .slice B p e] := fun w1 hb => (Blk.new w [.int .i64 3, .int .i64 mn, .int .i64 mx, .int .i64 kd, .bool bd, .int .u64 bn, .slice A m c, .string nm, .slice B p e] 31).later hb
  go_enter Tryz.func137, Tryz.ntmps137
  go_wp2_with (first | (go_at_call 149; refine (hA _ (b1 _ _)).mono ?_; rintro e w3 ⟨rfl, hb3⟩; have HX := hbx _ hb3; have c1 := HX.cell 1 _ rfl; have c2 := HX.cell 2 _ rfl; have c8 := HX.cell 8 _ rfl; clear HX))
  go_ret
  exact ⟨rfl, bstep (b1 _ _) hb3⟩

set_option maxRecDepth 100000 in
set_option maxHeartbeats 2000000 in
theorem isNode_3at (mn : Int) (hmn : ¬ mn = 0) (mx : Int) (kd : Int) (bd : Bool) (bn : Int) (A B : Option Addr) (m c p e : Nat) (nm : ByteArray) (w : World)
    (hA : ∀ w', Below w.heap.size w w' → Calls Tryz.prog 149 #[.agg #[.int .i64 kd, .bool bd, .int .u64 bn, .slice A m c, .string nm], .agg #[.int .i64 0, .bool false, .int .u64 0, .slice none 0 0, .string ⟨#[]⟩]] w' fun e w'' => e = .returned (.bool true) ∧ Below w'.heap.size w' w'') :
    Calls Tryz.prog 137 #[.agg #[.int .i64 3, .int .i64 mn, .int .i64 mx, .int .i64 kd, .bool bd, .int .u64 bn, .slice A m c, .string nm, .slice B p e]] w fun e w' => e = .returned (.bool (false)) ∧ Below w.heap.size w w' := by
  have hm1 : (mn == 0) = false := by rw [beq_eq_false_iff_ne]; exact hmn
  have hbx : ∀ w1, Below (w.alloc (.cells #[.int .i64 3, .int .i64 mn, .int .i64 mx, .int .i64 kd, .bool bd, .int .u64 bn, .slice A m c, .string nm, .slice B p e] 31)).heap.size (w.alloc (.cells #[.int .i64 3, .int .i64 mn, .int .i64 mx, .int .i64 kd, .bool bd, .int .u64 bn, .slice A m c, .string nm, .slice B p e] 31)) w1 → Blk w1 w.heap.size [.int .i64 3, .int .i64 mn, .int .i64 mx, .int .i64 kd, .bool bd, .int .u64 bn, .slice A m c, .string nm, .slice B p e] := fun w1 hb => (Blk.new w [.int .i64 3, .int .i64 mn, .int .i64 mx, .int .i64 kd, .bool bd, .int .u64 bn, .slice A m c, .string nm, .slice B p e] 31).later hb
  go_enter Tryz.func137, Tryz.ntmps137
  go_wp2_with (first | (go_at_call 149; refine (hA _ (b1 _ _)).mono ?_; rintro e w3 ⟨rfl, hb3⟩; have HX := hbx _ hb3; have c1 := HX.cell 1 _ rfl; have c2 := HX.cell 2 _ rfl; have c8 := HX.cell 8 _ rfl; clear HX))
  go_ret
  exact ⟨rfl, bstep (b1 _ _) hb3⟩

set_option maxRecDepth 100000 in
set_option maxHeartbeats 2000000 in
theorem isNode_4af (mn : Int) (hmn : ¬ mn = 0) (mx : Int) (kd : Int) (bd : Bool) (bn : Int) (A B : Option Addr) (m c p e : Nat) (nm : ByteArray) (w : World)
    (hA : ∀ w', Below w.heap.size w w' → Calls Tryz.prog 149 #[.agg #[.int .i64 kd, .bool bd, .int .u64 bn, .slice A m c, .string nm], .agg #[.int .i64 0, .bool false, .int .u64 0, .slice none 0 0, .string ⟨#[]⟩]] w' fun e w'' => e = .returned (.bool false) ∧ Below w'.heap.size w' w'') :
    Calls Tryz.prog 137 #[.agg #[.int .i64 4, .int .i64 mn, .int .i64 mx, .int .i64 kd, .bool bd, .int .u64 bn, .slice A m c, .string nm, .slice B p e]] w fun e w' => e = .returned (.bool (false)) ∧ Below w.heap.size w w' := by
  have hm1 : (mn == 0) = false := by rw [beq_eq_false_iff_ne]; exact hmn
  have hbx : ∀ w1, Below (w.alloc (.cells #[.int .i64 4, .int .i64 mn, .int .i64 mx, .int .i64 kd, .bool bd, .int .u64 bn, .slice A m c, .string nm, .slice B p e] 31)).heap.size (w.alloc (.cells #[.int .i64 4, .int .i64 mn, .int .i64 mx, .int .i64 kd, .bool bd, .int .u64 bn, .slice A m c, .string nm, .slice B p e] 31)) w1 → Blk w1 w.heap.size [.int .i64 4, .int .i64 mn, .int .i64 mx, .int .i64 kd, .bool bd, .int .u64 bn, .slice A m c, .string nm, .slice B p e] := fun w1 hb => (Blk.new w [.int .i64 4, .int .i64 mn, .int .i64 mx, .int .i64 kd, .bool bd, .int .u64 bn, .slice A m c, .string nm, .slice B p e] 31).later hb
  go_enter Tryz.func137, Tryz.ntmps137
  go_wp2_with (first | (go_at_call 149; refine (hA _ (b1 _ _)).mono ?_; rintro e w3 ⟨rfl, hb3⟩; have HX := hbx _ hb3; have c1 := HX.cell 1 _ rfl; have c2 := HX.cell 2 _ rfl; have c8 := HX.cell 8 _ rfl; clear HX))
  go_ret
  exact ⟨rfl, bstep (b1 _ _) hb3⟩

set_option maxRecDepth 100000 in
set_option maxHeartbeats 2000000 in
theorem isNode_4at (mn : Int) (hmn : ¬ mn = 0) (mx : Int) (kd : Int) (bd : Bool) (bn : Int) (A B : Option Addr) (m c p e : Nat) (nm : ByteArray) (w : World)
    (hA : ∀ w', Below w.heap.size w w' → Calls Tryz.prog 149 #[.agg #[.int .i64 kd, .bool bd, .int .u64 bn, .slice A m c, .string nm], .agg #[.int .i64 0, .bool false, .int .u64 0, .slice none 0 0, .string ⟨#[]⟩]] w' fun e w'' => e = .returned (.bool true) ∧ Below w'.heap.size w' w'') :
    Calls Tryz.prog 137 #[.agg #[.int .i64 4, .int .i64 mn, .int .i64 mx, .int .i64 kd, .bool bd, .int .u64 bn, .slice A m c, .string nm, .slice B p e]] w fun e w' => e = .returned (.bool (false)) ∧ Below w.heap.size w w' := by
  have hm1 : (mn == 0) = false := by rw [beq_eq_false_iff_ne]; exact hmn
  have hbx : ∀ w1, Below (w.alloc (.cells #[.int .i64 4, .int .i64 mn, .int .i64 mx, .int .i64 kd, .bool bd, .int .u64 bn, .slice A m c, .string nm, .slice B p e] 31)).heap.size (w.alloc (.cells #[.int .i64 4, .int .i64 mn, .int .i64 mx, .int .i64 kd, .bool bd, .int .u64 bn, .slice A m c, .string nm, .slice B p e] 31)) w1 → Blk w1 w.heap.size [.int .i64 4, .int .i64 mn, .int .i64 mx, .int .i64 kd, .bool bd, .int .u64 bn, .slice A m c, .string nm, .slice B p e] := fun w1 hb => (Blk.new w [.int .i64 4, .int .i64 mn, .int .i64 mx, .int .i64 kd, .bool bd, .int .u64 bn, .slice A m c, .string nm, .slice B p e] 31).later hb
  go_enter Tryz.func137, Tryz.ntmps137
  go_wp2_with (first | (go_at_call 149; refine (hA _ (b1 _ _)).mono ?_; rintro e w3 ⟨rfl, hb3⟩; have HX := hbx _ hb3; have c1 := HX.cell 1 _ rfl; have c2 := HX.cell 2 _ rfl; have c8 := HX.cell 8 _ rfl; clear HX))
  go_ret
  exact ⟨rfl, bstep (b1 _ _) hb3⟩

set_option maxRecDepth 100000 in
set_option maxHeartbeats 2000000 in
theorem isNode_oax (k : Int) (h1 : ¬ k = 1) (h2 : ¬ k = 2) (h3 : ¬ k = 3) (h4 : ¬ k = 4) (mn : Int) (hmn : ¬ mn = 0) (mx : Int) (kd : Int) (bd : Bool) (bn : Int) (A B : Option Addr) (m c p e : Nat) (nm : ByteArray) (w : World)
     :
    Calls Tryz.prog 137 #[.agg #[.int .i64 k, .int .i64 mn, .int .i64 mx, .int .i64 kd, .bool bd, .int .u64 bn, .slice A m c, .string nm, .slice B p e]] w fun e w' => e = .returned (.bool (false)) ∧ Below w.heap.size w w' := by
  have hm1 : (mn == 0) = false := by rw [beq_eq_false_iff_ne]; exact hmn
  have hk1 : (k == 1) = false := by rw [beq_eq_false_iff_ne]; exact h1
  have hk2 : (k == 2) = false := by rw [beq_eq_false_iff_ne]; exact h2
  have hk3 : (k == 3) = false := by rw [beq_eq_false_iff_ne]; exact h3
  have hk4 : (k == 4) = false := by rw [beq_eq_false_iff_ne]; exact h4
  go_enter Tryz.func137, Tryz.ntmps137
  go_wp2
  go_ret
  exact ⟨rfl, b1 _ _⟩

set_option maxRecDepth 100000 in
set_option maxHeartbeats 2000000 in
theorem isNode_1bf (mx : Int) (hmx : ¬ mx = 0) (kd : Int) (bd : Bool) (bn : Int) (A B : Option Addr) (m c p e : Nat) (nm : ByteArray) (w : World)
    (hA : ∀ w', Below w.heap.size w w' → Calls Tryz.prog 148 #[.agg #[.int .i64 kd, .bool bd, .int .u64 bn, .slice A m c, .string nm]] w' fun e w'' => e = .returned (.bool false) ∧ Below w'.heap.size w' w'') :
    Calls Tryz.prog 137 #[.agg #[.int .i64 1, .int .i64 0, .int .i64 mx, .int .i64 kd, .bool bd, .int .u64 bn, .slice A m c, .string nm, .slice B p e]] w fun e w' => e = .returned (.bool (false)) ∧ Below w.heap.size w w' := by
  have hm2 : (mx == 0) = false := by rw [beq_eq_false_iff_ne]; exact hmx
  have hbx : ∀ w1, Below (w.alloc (.cells #[.int .i64 1, .int .i64 0, .int .i64 mx, .int .i64 kd, .bool bd, .int .u64 bn, .slice A m c, .string nm, .slice B p e] 31)).heap.size (w.alloc (.cells #[.int .i64 1, .int .i64 0, .int .i64 mx, .int .i64 kd, .bool bd, .int .u64 bn, .slice A m c, .string nm, .slice B p e] 31)) w1 → Blk w1 w.heap.size [.int .i64 1, .int .i64 0, .int .i64 mx, .int .i64 kd, .bool bd, .int .u64 bn, .slice A m c, .string nm, .slice B p e] := fun w1 hb => (Blk.new w [.int .i64 1, .int .i64 0, .int .i64 mx, .int .i64 kd, .bool bd, .int .u64 bn, .slice A m c, .string nm, .slice B p e] 31).later hb
  go_enter Tryz.func137, Tryz.ntmps137
  go_wp2_with (first | (go_at_call 148; refine (hA _ (b1 _ _)).mono ?_; rintro e w3 ⟨rfl, hb3⟩; have HX := hbx _ hb3; have c1 := HX.cell 1 _ rfl; have c2 := HX.cell 2 _ rfl; have c8 := HX.cell 8 _ rfl; clear HX))
  go_ret
  exact ⟨rfl, bstep (b1 _ _) hb3⟩

set_option maxRecDepth 100000 in
set_option maxHeartbeats 2000000 in
theorem isNode_1bh (mx : Int) (hmx : ¬ mx = 0) (kd : Int) (bd : Bool) (bn : Int) (A B : Option Addr) (m c p e : Nat) (nm : ByteArray) (w : World)
    (hA : ∀ w', Below w.heap.size w w' → Calls Tryz.prog 148 #[.agg #[.int .i64 kd, .bool bd, .int .u64 bn, .slice A m c, .string nm]] w' fun e w'' => e = .returned (.bool true) ∧ Below w'.heap.size w' w'') (hF1 : ∀ w, Calls Tryz.prog 145 #[.int .i64 0, .int .i64 0, .int .i64 99] w fun e w' => e = .returned (.bool true) ∧ w = w') (hF2 : ∀ w, Calls Tryz.prog 145 #[.int .i64 0, .int .i64 mx, .int .i64 99] w fun e w' => e = .returned (.bool false) ∧ w = w') :
    Calls Tryz.prog 137 #[.agg #[.int .i64 1, .int .i64 0, .int .i64 mx, .int .i64 kd, .bool bd, .int .u64 bn, .slice A m c, .string nm, .slice B p e]] w fun e w' => e = .returned (.bool (false)) ∧ Below w.heap.size w w' := by
  have hm2 : (mx == 0) = false := by rw [beq_eq_false_iff_ne]; exact hmx
  have hbx : ∀ w1, Below (w.alloc (.cells #[.int .i64 1, .int .i64 0, .int .i64 mx, .int .i64 kd, .bool bd, .int .u64 bn, .slice A m c, .string nm, .slice B p e] 31)).heap.size (w.alloc (.cells #[.int .i64 1, .int .i64 0, .int .i64 mx, .int .i64 kd, .bool bd, .int .u64 bn, .slice A m c, .string nm, .slice B p e] 31)) w1 → Blk w1 w.heap.size [.int .i64 1, .int .i64 0, .int .i64 mx, .int .i64 kd, .bool bd, .int .u64 bn, .slice A m c, .string nm, .slice B p e] := fun w1 hb => (Blk.new w [.int .i64 1, .int .i64 0, .int .i64 mx, .int .i64 kd, .bool bd, .int .u64 bn, .slice A m c, .string nm, .slice B p e] 31).later hb
  go_enter Tryz.func137, Tryz.ntmps137
  go_wp2_with (first | (go_at_call 148; refine (hA _ (b1 _ _)).mono ?_; rintro e w3 ⟨rfl, hb3⟩; have HX := hbx _ hb3; have c1 := HX.cell 1 _ rfl; have c2 := HX.cell 2 _ rfl; have c8 := HX.cell 8 _ rfl; clear HX) | (go_at_call 145; with_reducible refine (hF1 _).mono ?_; rintro e w4 ⟨rfl, rfl⟩) | (go_at_call 145; with_reducible refine (hF2 _).mono ?_; rintro e w5 ⟨rfl, rfl⟩))
  go_ret
  exact ⟨rfl, bstep (b1 _ _) hb3⟩

set_option maxRecDepth 100000 in
set_option maxHeartbeats 2000000 in
theorem isNode_1bt (mx : Int) (hmx : ¬ mx = 0) (kd : Int) (bd : Bool) (bn : Int) (A B : Option Addr) (m c p e : Nat) (nm : ByteArray) (w : World)
    (hA : ∀ w', Below w.heap.size w w' → Calls Tryz.prog 148 #[.agg #[.int .i64 kd, .bool bd, .int .u64 bn, .slice A m c, .string nm]] w' fun e w'' => e = .returned (.bool true) ∧ Below w'.heap.size w' w'') (hF1 : ∀ w, Calls Tryz.prog 145 #[.int .i64 0, .int .i64 0, .int .i64 99] w fun e w' => e = .returned (.bool true) ∧ w = w') (hF2 : ∀ w, Calls Tryz.prog 145 #[.int .i64 0, .int .i64 mx, .int .i64 99] w fun e w' => e = .returned (.bool true) ∧ w = w') :
    Calls Tryz.prog 137 #[.agg #[.int .i64 1, .int .i64 0, .int .i64 mx, .int .i64 kd, .bool bd, .int .u64 bn, .slice A m c, .string nm, .slice B p e]] w fun e w' => e = .returned (.bool (decide (p = 0))) ∧ Below w.heap.size w w' := by
  have hm2 : (mx == 0) = false := by rw [beq_eq_false_iff_ne]; exact hmx
  have hbx : ∀ w1, Below (w.alloc (.cells #[.int .i64 1, .int .i64 0, .int .i64 mx, .int .i64 kd, .bool bd, .int .u64 bn, .slice A m c, .string nm, .slice B p e] 31)).heap.size (w.alloc (.cells #[.int .i64 1, .int .i64 0, .int .i64 mx, .int .i64 kd, .bool bd, .int .u64 bn, .slice A m c, .string nm, .slice B p e] 31)) w1 → Blk w1 w.heap.size [.int .i64 1, .int .i64 0, .int .i64 mx, .int .i64 kd, .bool bd, .int .u64 bn, .slice A m c, .string nm, .slice B p e] := fun w1 hb => (Blk.new w [.int .i64 1, .int .i64 0, .int .i64 mx, .int .i64 kd, .bool bd, .int .u64 bn, .slice A m c, .string nm, .slice B p e] 31).later hb
  go_enter Tryz.func137, Tryz.ntmps137
  go_wp2_with (first | (go_at_call 148; refine (hA _ (b1 _ _)).mono ?_; rintro e w3 ⟨rfl, hb3⟩; have HX := hbx _ hb3; have c1 := HX.cell 1 _ rfl; have c2 := HX.cell 2 _ rfl; have c8 := HX.cell 8 _ rfl; clear HX) | (go_at_call 145; with_reducible refine (hF1 _).mono ?_; rintro e w4 ⟨rfl, rfl⟩) | (go_at_call 145; with_reducible refine (hF2 _).mono ?_; rintro e w5 ⟨rfl, rfl⟩))
  go_ret
  exact ⟨ret_bool (len_zero p), bstep (b1 _ _) hb3⟩

set_option maxRecDepth 100000 in
set_option maxHeartbeats 2000000 in
theorem isNode_2bf (mx : Int) (hmx : ¬ mx = 0) (kd : Int) (bd : Bool) (bn : Int) (A B : Option Addr) (m c p e : Nat) (nm : ByteArray) (w : World)
    (hA : ∀ w', Below w.heap.size w w' → Calls Tryz.prog 148 #[.agg #[.int .i64 kd, .bool bd, .int .u64 bn, .slice A m c, .string nm]] w' fun e w'' => e = .returned (.bool false) ∧ Below w'.heap.size w' w'') :
    Calls Tryz.prog 137 #[.agg #[.int .i64 2, .int .i64 0, .int .i64 mx, .int .i64 kd, .bool bd, .int .u64 bn, .slice A m c, .string nm, .slice B p e]] w fun e w' => e = .returned (.bool (false)) ∧ Below w.heap.size w w' := by
  have hm2 : (mx == 0) = false := by rw [beq_eq_false_iff_ne]; exact hmx
  have hbx : ∀ w1, Below (w.alloc (.cells #[.int .i64 2, .int .i64 0, .int .i64 mx, .int .i64 kd, .bool bd, .int .u64 bn, .slice A m c, .string nm, .slice B p e] 31)).heap.size (w.alloc (.cells #[.int .i64 2, .int .i64 0, .int .i64 mx, .int .i64 kd, .bool bd, .int .u64 bn, .slice A m c, .string nm, .slice B p e] 31)) w1 → Blk w1 w.heap.size [.int .i64 2, .int .i64 0, .int .i64 mx, .int .i64 kd, .bool bd, .int .u64 bn, .slice A m c, .string nm, .slice B p e] := fun w1 hb => (Blk.new w [.int .i64 2, .int .i64 0, .int .i64 mx, .int .i64 kd, .bool bd, .int .u64 bn, .slice A m c, .string nm, .slice B p e] 31).later hb
  go_enter Tryz.func137, Tryz.ntmps137
  go_wp2_with (first | (go_at_call 148; refine (hA _ (b1 _ _)).mono ?_; rintro e w3 ⟨rfl, hb3⟩; have HX := hbx _ hb3; have c1 := HX.cell 1 _ rfl; have c2 := HX.cell 2 _ rfl; have c8 := HX.cell 8 _ rfl; clear HX))
  go_ret
  exact ⟨rfl, bstep (b1 _ _) hb3⟩

set_option maxRecDepth 100000 in
set_option maxHeartbeats 2000000 in
theorem isNode_2bt (mx : Int) (hmx : ¬ mx = 0) (kd : Int) (bd : Bool) (bn : Int) (A B : Option Addr) (m c p e : Nat) (nm : ByteArray) (w : World)
    (hA : ∀ w', Below w.heap.size w w' → Calls Tryz.prog 148 #[.agg #[.int .i64 kd, .bool bd, .int .u64 bn, .slice A m c, .string nm]] w' fun e w'' => e = .returned (.bool true) ∧ Below w'.heap.size w' w'') :
    Calls Tryz.prog 137 #[.agg #[.int .i64 2, .int .i64 0, .int .i64 mx, .int .i64 kd, .bool bd, .int .u64 bn, .slice A m c, .string nm, .slice B p e]] w fun e w' => e = .returned (.bool (false)) ∧ Below w.heap.size w w' := by
  have hm2 : (mx == 0) = false := by rw [beq_eq_false_iff_ne]; exact hmx
  have hbx : ∀ w1, Below (w.alloc (.cells #[.int .i64 2, .int .i64 0, .int .i64 mx, .int .i64 kd, .bool bd, .int .u64 bn, .slice A m c, .string nm, .slice B p e] 31)).heap.size (w.alloc (.cells #[.int .i64 2, .int .i64 0, .int .i64 mx, .int .i64 kd, .bool bd, .int .u64 bn, .slice A m c, .string nm, .slice B p e] 31)) w1 → Blk w1 w.heap.size [.int .i64 2, .int .i64 0, .int .i64 mx, .int .i64 kd, .bool bd, .int .u64 bn, .slice A m c, .string nm, .slice B p e] := fun w1 hb => (Blk.new w [.int .i64 2, .int .i64 0, .int .i64 mx, .int .i64 kd, .bool bd, .int .u64 bn, .slice A m c, .string nm, .slice B p e] 31).later hb
  go_enter Tryz.func137, Tryz.ntmps137
  go_wp2_with (first | (go_at_call 148; refine (hA _ (b1 _ _)).mono ?_; rintro e w3 ⟨rfl, hb3⟩; have HX := hbx _ hb3; have c1 := HX.cell 1 _ rfl; have c2 := HX.cell 2 _ rfl; have c8 := HX.cell 8 _ rfl; clear HX))
  go_ret
  exact ⟨rfl, bstep (b1 _ _) hb3⟩

set_option maxRecDepth 100000 in
set_option maxHeartbeats 2000000 in
theorem isNode_3bf (mx : Int) (hmx : ¬ mx = 0) (kd : Int) (bd : Bool) (bn : Int) (A B : Option Addr) (m c p e : Nat) (nm : ByteArray) (w : World)
    (hA : ∀ w', Below w.heap.size w w' → Calls Tryz.prog 149 #[.agg #[.int .i64 kd, .bool bd, .int .u64 bn, .slice A m c, .string nm], .agg #[.int .i64 0, .bool false, .int .u64 0, .slice none 0 0, .string ⟨#[]⟩]] w' fun e w'' => e = .returned (.bool false) ∧ Below w'.heap.size w' w'') :
    Calls Tryz.prog 137 #[.agg #[.int .i64 3, .int .i64 0, .int .i64 mx, .int .i64 kd, .bool bd, .int .u64 bn, .slice A m c, .string nm, .slice B p e]] w fun e w' => e = .returned (.bool (false)) ∧ Below w.heap.size w w' := by
  have hm2 : (mx == 0) = false := by rw [beq_eq_false_iff_ne]; exact hmx
  have hbx : ∀ w1, Below (w.alloc (.cells #[.int .i64 3, .int .i64 0, .int .i64 mx, .int .i64 kd, .bool bd, .int .u64 bn, .slice A m c, .string nm, .slice B p e] 31)).heap.size (w.alloc (.cells #[.int .i64 3, .int .i64 0, .int .i64 mx, .int .i64 kd, .bool bd, .int .u64 bn, .slice A m c, .string nm, .slice B p e] 31)) w1 → Blk w1 w.heap.size [.int .i64 3, .int .i64 0, .int .i64 mx, .int .i64 kd, .bool bd, .int .u64 bn, .slice A m c, .string nm, .slice B p e] := fun w1 hb => (Blk.new w [.int .i64 3, .int .i64 0, .int .i64 mx, .int .i64 kd, .bool bd, .int .u64 bn, .slice A m c, .string nm, .slice B p e] 31).later hb
  go_enter Tryz.func137, Tryz.ntmps137
  go_wp2_with (first | (go_at_call 149; refine (hA _ (b1 _ _)).mono ?_; rintro e w3 ⟨rfl, hb3⟩; have HX := hbx _ hb3; have c1 := HX.cell 1 _ rfl; have c2 := HX.cell 2 _ rfl; have c8 := HX.cell 8 _ rfl; clear HX))
  go_ret
  exact ⟨rfl, bstep (b1 _ _) hb3⟩

set_option maxRecDepth 100000 in
set_option maxHeartbeats 2000000 in
theorem isNode_3bt (mx : Int) (hmx : ¬ mx = 0) (kd : Int) (bd : Bool) (bn : Int) (A B : Option Addr) (m c p e : Nat) (nm : ByteArray) (w : World)
    (hA : ∀ w', Below w.heap.size w w' → Calls Tryz.prog 149 #[.agg #[.int .i64 kd, .bool bd, .int .u64 bn, .slice A m c, .string nm], .agg #[.int .i64 0, .bool false, .int .u64 0, .slice none 0 0, .string ⟨#[]⟩]] w' fun e w'' => e = .returned (.bool true) ∧ Below w'.heap.size w' w'') :
    Calls Tryz.prog 137 #[.agg #[.int .i64 3, .int .i64 0, .int .i64 mx, .int .i64 kd, .bool bd, .int .u64 bn, .slice A m c, .string nm, .slice B p e]] w fun e w' => e = .returned (.bool (false)) ∧ Below w.heap.size w w' := by
  have hm2 : (mx == 0) = false := by rw [beq_eq_false_iff_ne]; exact hmx
  have hbx : ∀ w1, Below (w.alloc (.cells #[.int .i64 3, .int .i64 0, .int .i64 mx, .int .i64 kd, .bool bd, .int .u64 bn, .slice A m c, .string nm, .slice B p e] 31)).heap.size (w.alloc (.cells #[.int .i64 3, .int .i64 0, .int .i64 mx, .int .i64 kd, .bool bd, .int .u64 bn, .slice A m c, .string nm, .slice B p e] 31)) w1 → Blk w1 w.heap.size [.int .i64 3, .int .i64 0, .int .i64 mx, .int .i64 kd, .bool bd, .int .u64 bn, .slice A m c, .string nm, .slice B p e] := fun w1 hb => (Blk.new w [.int .i64 3, .int .i64 0, .int .i64 mx, .int .i64 kd, .bool bd, .int .u64 bn, .slice A m c, .string nm, .slice B p e] 31).later hb
  go_enter Tryz.func137, Tryz.ntmps137
  go_wp2_with (first | (go_at_call 149; refine (hA _ (b1 _ _)).mono ?_; rintro e w3 ⟨rfl, hb3⟩; have HX := hbx _ hb3; have c1 := HX.cell 1 _ rfl; have c2 := HX.cell 2 _ rfl; have c8 := HX.cell 8 _ rfl; clear HX))
  go_ret
  exact ⟨rfl, bstep (b1 _ _) hb3⟩

set_option maxRecDepth 100000 in
set_option maxHeartbeats 2000000 in
theorem isNode_4bf (mx : Int) (hmx : ¬ mx = 0) (kd : Int) (bd : Bool) (bn : Int) (A B : Option Addr) (m c p e : Nat) (nm : ByteArray) (w : World)
    (hA : ∀ w', Below w.heap.size w w' → Calls Tryz.prog 149 #[.agg #[.int .i64 kd, .bool bd, .int .u64 bn, .slice A m c, .string nm], .agg #[.int .i64 0, .bool false, .int .u64 0, .slice none 0 0, .string ⟨#[]⟩]] w' fun e w'' => e = .returned (.bool false) ∧ Below w'.heap.size w' w'') :
    Calls Tryz.prog 137 #[.agg #[.int .i64 4, .int .i64 0, .int .i64 mx, .int .i64 kd, .bool bd, .int .u64 bn, .slice A m c, .string nm, .slice B p e]] w fun e w' => e = .returned (.bool (false)) ∧ Below w.heap.size w w' := by
  have hm2 : (mx == 0) = false := by rw [beq_eq_false_iff_ne]; exact hmx
  have hbx : ∀ w1, Below (w.alloc (.cells #[.int .i64 4, .int .i64 0, .int .i64 mx, .int .i64 kd, .bool bd, .int .u64 bn, .slice A m c, .string nm, .slice B p e] 31)).heap.size (w.alloc (.cells #[.int .i64 4, .int .i64 0, .int .i64 mx, .int .i64 kd, .bool bd, .int .u64 bn, .slice A m c, .string nm, .slice B p e] 31)) w1 → Blk w1 w.heap.size [.int .i64 4, .int .i64 0, .int .i64 mx, .int .i64 kd, .bool bd, .int .u64 bn, .slice A m c, .string nm, .slice B p e] := fun w1 hb => (Blk.new w [.int .i64 4, .int .i64 0, .int .i64 mx, .int .i64 kd, .bool bd, .int .u64 bn, .slice A m c, .string nm, .slice B p e] 31).later hb
  go_enter Tryz.func137, Tryz.ntmps137
  go_wp2_with (first | (go_at_call 149; refine (hA _ (b1 _ _)).mono ?_; rintro e w3 ⟨rfl, hb3⟩; have HX := hbx _ hb3; have c1 := HX.cell 1 _ rfl; have c2 := HX.cell 2 _ rfl; have c8 := HX.cell 8 _ rfl; clear HX))
  go_ret
  exact ⟨rfl, bstep (b1 _ _) hb3⟩

set_option maxRecDepth 100000 in
set_option maxHeartbeats 2000000 in
theorem isNode_4bt (mx : Int) (hmx : ¬ mx = 0) (kd : Int) (bd : Bool) (bn : Int) (A B : Option Addr) (m c p e : Nat) (nm : ByteArray) (w : World)
    (hA : ∀ w', Below w.heap.size w w' → Calls Tryz.prog 149 #[.agg #[.int .i64 kd, .bool bd, .int .u64 bn, .slice A m c, .string nm], .agg #[.int .i64 0, .bool false, .int .u64 0, .slice none 0 0, .string ⟨#[]⟩]] w' fun e w'' => e = .returned (.bool true) ∧ Below w'.heap.size w' w'') :
    Calls Tryz.prog 137 #[.agg #[.int .i64 4, .int .i64 0, .int .i64 mx, .int .i64 kd, .bool bd, .int .u64 bn, .slice A m c, .string nm, .slice B p e]] w fun e w' => e = .returned (.bool (false)) ∧ Below w.heap.size w w' := by
  have hm2 : (mx == 0) = false := by rw [beq_eq_false_iff_ne]; exact hmx
  have hbx : ∀ w1, Below (w.alloc (.cells #[.int .i64 4, .int .i64 0, .int .i64 mx, .int .i64 kd, .bool bd, .int .u64 bn, .slice A m c, .string nm, .slice B p e] 31)).heap.size (w.alloc (.cells #[.int .i64 4, .int .i64 0, .int .i64 mx, .int .i64 kd, .bool bd, .int .u64 bn, .slice A m c, .string nm, .slice B p e] 31)) w1 → Blk w1 w.heap.size [.int .i64 4, .int .i64 0, .int .i64 mx, .int .i64 kd, .bool bd, .int .u64 bn, .slice A m c, .string nm, .slice B p e] := fun w1 hb => (Blk.new w [.int .i64 4, .int .i64 0, .int .i64 mx, .int .i64 kd, .bool bd, .int .u64 bn, .slice A m c, .string nm, .slice B p e] 31).later hb
  go_enter Tryz.func137, Tryz.ntmps137
  go_wp2_with (first | (go_at_call 149; refine (hA _ (b1 _ _)).mono ?_; rintro e w3 ⟨rfl, hb3⟩; have HX := hbx _ hb3; have c1 := HX.cell 1 _ rfl; have c2 := HX.cell 2 _ rfl; have c8 := HX.cell 8 _ rfl; clear HX))
  go_ret
  exact ⟨rfl, bstep (b1 _ _) hb3⟩

set_option maxRecDepth 100000 in
set_option maxHeartbeats 2000000 in
theorem isNode_obx (k : Int) (h1 : ¬ k = 1) (h2 : ¬ k = 2) (h3 : ¬ k = 3) (h4 : ¬ k = 4) (mx : Int) (hmx : ¬ mx = 0) (kd : Int) (bd : Bool) (bn : Int) (A B : Option Addr) (m c p e : Nat) (nm : ByteArray) (w : World)
     :
    Calls Tryz.prog 137 #[.agg #[.int .i64 k, .int .i64 0, .int .i64 mx, .int .i64 kd, .bool bd, .int .u64 bn, .slice A m c, .string nm, .slice B p e]] w fun e w' => e = .returned (.bool (false)) ∧ Below w.heap.size w w' := by
  have hm2 : (mx == 0) = false := by rw [beq_eq_false_iff_ne]; exact hmx
  have hk1 : (k == 1) = false := by rw [beq_eq_false_iff_ne]; exact h1
  have hk2 : (k == 2) = false := by rw [beq_eq_false_iff_ne]; exact h2
  have hk3 : (k == 3) = false := by rw [beq_eq_false_iff_ne]; exact h3
  have hk4 : (k == 4) = false := by rw [beq_eq_false_iff_ne]; exact h4
  go_enter Tryz.func137, Tryz.ntmps137
  go_wp2
  go_ret
  exact ⟨rfl, b1 _ _⟩

set_option maxRecDepth 100000 in
set_option maxHeartbeats 2000000 in
theorem isNode_1cf  (kd : Int) (bd : Bool) (bn : Int) (A B : Option Addr) (m c p e : Nat) (nm : ByteArray) (w : World)
    (hA : ∀ w', Below w.heap.size w w' → Calls Tryz.prog 148 #[.agg #[.int .i64 kd, .bool bd, .int .u64 bn, .slice A m c, .string nm]] w' fun e w'' => e = .returned (.bool false) ∧ Below w'.heap.size w' w'') :
    Calls Tryz.prog 137 #[.agg #[.int .i64 1, .int .i64 0, .int .i64 0, .int .i64 kd, .bool bd, .int .u64 bn, .slice A m c, .string nm, .slice B p e]] w fun e w' => e = .returned (.bool (false)) ∧ Below w.heap.size w w' := by
  have hbx : ∀ w1, Below (w.alloc (.cells #[.int .i64 1, .int .i64 0, .int .i64 0, .int .i64 kd, .bool bd, .int .u64 bn, .slice A m c, .string nm, .slice B p e] 31)).heap.size (w.alloc (.cells #[.int .i64 1, .int .i64 0, .int .i64 0, .int .i64 kd, .bool bd, .int .u64 bn, .slice A m c, .string nm, .slice B p e] 31)) w1 → Blk w1 w.heap.size [.int .i64 1, .int .i64 0, .int .i64 0, .int .i64 kd, .bool bd, .int .u64 bn, .slice A m c, .string nm, .slice B p e] := fun w1 hb => (Blk.new w [.int .i64 1, .int .i64 0, .int .i64 0, .int .i64 kd, .bool bd, .int .u64 bn, .slice A m c, .string nm, .slice B p e] 31).later hb
  go_enter Tryz.func137, Tryz.ntmps137
  go_wp2_with (first | (go_at_call 148; refine (hA _ (b1 _ _)).mono ?_; rintro e w3 ⟨rfl, hb3⟩; have HX := hbx _ hb3; have c1 := HX.cell 1 _ rfl; have c2 := HX.cell 2 _ rfl; have c8 := HX.cell 8 _ rfl; clear HX))
  go_ret
  exact ⟨rfl, bstep (b1 _ _) hb3⟩

set_option maxRecDepth 100000 in
set_option maxHeartbeats 2000000 in
theorem isNode_1ct  (kd : Int) (bd : Bool) (bn : Int) (A B : Option Addr) (m c p e : Nat) (nm : ByteArray) (w : World)
    (hA : ∀ w', Below w.heap.size w w' → Calls Tryz.prog 148 #[.agg #[.int .i64 kd, .bool bd, .int .u64 bn, .slice A m c, .string nm]] w' fun e w'' => e = .returned (.bool true) ∧ Below w'.heap.size w' w'') (hF1 : ∀ w, Calls Tryz.prog 145 #[.int .i64 0, .int .i64 0, .int .i64 99] w fun e w' => e = .returned (.bool true) ∧ w = w') :
    Calls Tryz.prog 137 #[.agg #[.int .i64 1, .int .i64 0, .int .i64 0, .int .i64 kd, .bool bd, .int .u64 bn, .slice A m c, .string nm, .slice B p e]] w fun e w' => e = .returned (.bool (decide (p = 0))) ∧ Below w.heap.size w w' := by
  have hbx : ∀ w1, Below (w.alloc (.cells #[.int .i64 1, .int .i64 0, .int .i64 0, .int .i64 kd, .bool bd, .int .u64 bn, .slice A m c, .string nm, .slice B p e] 31)).heap.size (w.alloc (.cells #[.int .i64 1, .int .i64 0, .int .i64 0, .int .i64 kd, .bool bd, .int .u64 bn, .slice A m c, .string nm, .slice B p e] 31)) w1 → Blk w1 w.heap.size [.int .i64 1, .int .i64 0, .int .i64 0, .int .i64 kd, .bool bd, .int .u64 bn, .slice A m c, .string nm, .slice B p e] := fun w1 hb => (Blk.new w [.int .i64 1, .int .i64 0, .int .i64 0, .int .i64 kd, .bool bd, .int .u64 bn, .slice A m c, .string nm, .slice B p e] 31).later hb
  go_enter Tryz.func137, Tryz.ntmps137
  go_wp2_with (first | (go_at_call 148; refine (hA _ (b1 _ _)).mono ?_; rintro e w3 ⟨rfl, hb3⟩; have HX := hbx _ hb3; have c1 := HX.cell 1 _ rfl; have c2 := HX.cell 2 _ rfl; have c8 := HX.cell 8 _ rfl; clear HX) | (go_at_call 145; with_reducible refine (hF1 _).mono ?_; rintro e w4 ⟨rfl, rfl⟩))
  go_ret
  exact ⟨ret_bool (len_zero p), bstep (b1 _ _) hb3⟩

set_option maxRecDepth 100000 in
set_option maxHeartbeats 2000000 in
theorem isNode_2cf  (kd : Int) (bd : Bool) (bn : Int) (A B : Option Addr) (m c p e : Nat) (nm : ByteArray) (w : World)
    (hA : ∀ w', Below w.heap.size w w' → Calls Tryz.prog 148 #[.agg #[.int .i64 kd, .bool bd, .int .u64 bn, .slice A m c, .string nm]] w' fun e w'' => e = .returned (.bool false) ∧ Below w'.heap.size w' w'') :
    Calls Tryz.prog 137 #[.agg #[.int .i64 2, .int .i64 0, .int .i64 0, .int .i64 kd, .bool bd, .int .u64 bn, .slice A m c, .string nm, .slice B p e]] w fun e w' => e = .returned (.bool (false)) ∧ Below w.heap.size w w' := by
  have hbx : ∀ w1, Below (w.alloc (.cells #[.int .i64 2, .int .i64 0, .int .i64 0, .int .i64 kd, .bool bd, .int .u64 bn, .slice A m c, .string nm, .slice B p e] 31)).heap.size (w.alloc (.cells #[.int .i64 2, .int .i64 0, .int .i64 0, .int .i64 kd, .bool bd, .int .u64 bn, .slice A m c, .string nm, .slice B p e] 31)) w1 → Blk w1 w.heap.size [.int .i64 2, .int .i64 0, .int .i64 0, .int .i64 kd, .bool bd, .int .u64 bn, .slice A m c, .string nm, .slice B p e] := fun w1 hb => (Blk.new w [.int .i64 2, .int .i64 0, .int .i64 0, .int .i64 kd, .bool bd, .int .u64 bn, .slice A m c, .string nm, .slice B p e] 31).later hb
  go_enter Tryz.func137, Tryz.ntmps137
  go_wp2_with (first | (go_at_call 148; refine (hA _ (b1 _ _)).mono ?_; rintro e w3 ⟨rfl, hb3⟩; have HX := hbx _ hb3; have c1 := HX.cell 1 _ rfl; have c2 := HX.cell 2 _ rfl; have c8 := HX.cell 8 _ rfl; clear HX))
  go_ret
  exact ⟨rfl, bstep (b1 _ _) hb3⟩

set_option maxRecDepth 100000 in
set_option maxHeartbeats 2000000 in
theorem isNode_2ct  (kd : Int) (bd : Bool) (bn : Int) (A B : Option Addr) (m c p e : Nat) (nm : ByteArray) (w : World)
    (hA : ∀ w', Below w.heap.size w w' → Calls Tryz.prog 148 #[.agg #[.int .i64 kd, .bool bd, .int .u64 bn, .slice A m c, .string nm]] w' fun e w'' => e = .returned (.bool true) ∧ Below w'.heap.size w' w'') :
    Calls Tryz.prog 137 #[.agg #[.int .i64 2, .int .i64 0, .int .i64 0, .int .i64 kd, .bool bd, .int .u64 bn, .slice A m c, .string nm, .slice B p e]] w fun e w' => e = .returned (.bool (decide (p = 0))) ∧ Below w.heap.size w w' := by
  have hbx : ∀ w1, Below (w.alloc (.cells #[.int .i64 2, .int .i64 0, .int .i64 0, .int .i64 kd, .bool bd, .int .u64 bn, .slice A m c, .string nm, .slice B p e] 31)).heap.size (w.alloc (.cells #[.int .i64 2, .int .i64 0, .int .i64 0, .int .i64 kd, .bool bd, .int .u64 bn, .slice A m c, .string nm, .slice B p e] 31)) w1 → Blk w1 w.heap.size [.int .i64 2, .int .i64 0, .int .i64 0, .int .i64 kd, .bool bd, .int .u64 bn, .slice A m c, .string nm, .slice B p e] := fun w1 hb => (Blk.new w [.int .i64 2, .int .i64 0, .int .i64 0, .int .i64 kd, .bool bd, .int .u64 bn, .slice A m c, .string nm, .slice B p e] 31).later hb
  go_enter Tryz.func137, Tryz.ntmps137
  go_wp2_with (first | (go_at_call 148; refine (hA _ (b1 _ _)).mono ?_; rintro e w3 ⟨rfl, hb3⟩; have HX := hbx _ hb3; have c1 := HX.cell 1 _ rfl; have c2 := HX.cell 2 _ rfl; have c8 := HX.cell 8 _ rfl; clear HX))
  go_ret
  exact ⟨ret_bool (len_zero p), bstep (b1 _ _) hb3⟩

set_option maxRecDepth 100000 in
set_option maxHeartbeats 2000000 in
theorem isNode_3cf  (kd : Int) (bd : Bool) (bn : Int) (A B : Option Addr) (m c p e : Nat) (nm : ByteArray) (w : World)
    (hA : ∀ w', Below w.heap.size w w' → Calls Tryz.prog 149 #[.agg #[.int .i64 kd, .bool bd, .int .u64 bn, .slice A m c, .string nm], .agg #[.int .i64 0, .bool false, .int .u64 0, .slice none 0 0, .string ⟨#[]⟩]] w' fun e w'' => e = .returned (.bool false) ∧ Below w'.heap.size w' w'') :
    Calls Tryz.prog 137 #[.agg #[.int .i64 3, .int .i64 0, .int .i64 0, .int .i64 kd, .bool bd, .int .u64 bn, .slice A m c, .string nm, .slice B p e]] w fun e w' => e = .returned (.bool (false)) ∧ Below w.heap.size w w' := by
  have hbx : ∀ w1, Below (w.alloc (.cells #[.int .i64 3, .int .i64 0, .int .i64 0, .int .i64 kd, .bool bd, .int .u64 bn, .slice A m c, .string nm, .slice B p e] 31)).heap.size (w.alloc (.cells #[.int .i64 3, .int .i64 0, .int .i64 0, .int .i64 kd, .bool bd, .int .u64 bn, .slice A m c, .string nm, .slice B p e] 31)) w1 → Blk w1 w.heap.size [.int .i64 3, .int .i64 0, .int .i64 0, .int .i64 kd, .bool bd, .int .u64 bn, .slice A m c, .string nm, .slice B p e] := fun w1 hb => (Blk.new w [.int .i64 3, .int .i64 0, .int .i64 0, .int .i64 kd, .bool bd, .int .u64 bn, .slice A m c, .string nm, .slice B p e] 31).later hb
  go_enter Tryz.func137, Tryz.ntmps137
  go_wp2_with (first | (go_at_call 149; refine (hA _ (b1 _ _)).mono ?_; rintro e w3 ⟨rfl, hb3⟩; have HX := hbx _ hb3; have c1 := HX.cell 1 _ rfl; have c2 := HX.cell 2 _ rfl; have c8 := HX.cell 8 _ rfl; clear HX))
  go_ret
  exact ⟨rfl, bstep (b1 _ _) hb3⟩

set_option maxRecDepth 100000 in
set_option maxHeartbeats 2000000 in
theorem isNode_3ct  (kd : Int) (bd : Bool) (bn : Int) (A B : Option Addr) (m c p e : Nat) (nm : ByteArray) (w : World)
    (hA : ∀ w', Below w.heap.size w w' → Calls Tryz.prog 149 #[.agg #[.int .i64 kd, .bool bd, .int .u64 bn, .slice A m c, .string nm], .agg #[.int .i64 0, .bool false, .int .u64 0, .slice none 0 0, .string ⟨#[]⟩]] w' fun e w'' => e = .returned (.bool true) ∧ Below w'.heap.size w' w'') :
    Calls Tryz.prog 137 #[.agg #[.int .i64 3, .int .i64 0, .int .i64 0, .int .i64 kd, .bool bd, .int .u64 bn, .slice A m c, .string nm, .slice B p e]] w fun e w' => e = .returned (.bool (decide (2 ≤ p))) ∧ Below w.heap.size w w' := by
  have hbx : ∀ w1, Below (w.alloc (.cells #[.int .i64 3, .int .i64 0, .int .i64 0, .int .i64 kd, .bool bd, .int .u64 bn, .slice A m c, .string nm, .slice B p e] 31)).heap.size (w.alloc (.cells #[.int .i64 3, .int .i64 0, .int .i64 0, .int .i64 kd, .bool bd, .int .u64 bn, .slice A m c, .string nm, .slice B p e] 31)) w1 → Blk w1 w.heap.size [.int .i64 3, .int .i64 0, .int .i64 0, .int .i64 kd, .bool bd, .int .u64 bn, .slice A m c, .string nm, .slice B p e] := fun w1 hb => (Blk.new w [.int .i64 3, .int .i64 0, .int .i64 0, .int .i64 kd, .bool bd, .int .u64 bn, .slice A m c, .string nm, .slice B p e] 31).later hb
  go_enter Tryz.func137, Tryz.ntmps137
  go_wp2_with (first | (go_at_call 149; refine (hA _ (b1 _ _)).mono ?_; rintro e w3 ⟨rfl, hb3⟩; have HX := hbx _ hb3; have c1 := HX.cell 1 _ rfl; have c2 := HX.cell 2 _ rfl; have c8 := HX.cell 8 _ rfl; clear HX))
  go_ret
  exact ⟨ret_bool (len_two p), bstep (b1 _ _) hb3⟩

set_option maxRecDepth 100000 in
set_option maxHeartbeats 2000000 in
theorem isNode_4cf  (kd : Int) (bd : Bool) (bn : Int) (A B : Option Addr) (m c p e : Nat) (nm : ByteArray) (w : World)
    (hA : ∀ w', Below w.heap.size w w' → Calls Tryz.prog 149 #[.agg #[.int .i64 kd, .bool bd, .int .u64 bn, .slice A m c, .string nm], .agg #[.int .i64 0, .bool false, .int .u64 0, .slice none 0 0, .string ⟨#[]⟩]] w' fun e w'' => e = .returned (.bool false) ∧ Below w'.heap.size w' w'') :
    Calls Tryz.prog 137 #[.agg #[.int .i64 4, .int .i64 0, .int .i64 0, .int .i64 kd, .bool bd, .int .u64 bn, .slice A m c, .string nm, .slice B p e]] w fun e w' => e = .returned (.bool (false)) ∧ Below w.heap.size w w' := by
  have hbx : ∀ w1, Below (w.alloc (.cells #[.int .i64 4, .int .i64 0, .int .i64 0, .int .i64 kd, .bool bd, .int .u64 bn, .slice A m c, .string nm, .slice B p e] 31)).heap.size (w.alloc (.cells #[.int .i64 4, .int .i64 0, .int .i64 0, .int .i64 kd, .bool bd, .int .u64 bn, .slice A m c, .string nm, .slice B p e] 31)) w1 → Blk w1 w.heap.size [.int .i64 4, .int .i64 0, .int .i64 0, .int .i64 kd, .bool bd, .int .u64 bn, .slice A m c, .string nm, .slice B p e] := fun w1 hb => (Blk.new w [.int .i64 4, .int .i64 0, .int .i64 0, .int .i64 kd, .bool bd, .int .u64 bn, .slice A m c, .string nm, .slice B p e] 31).later hb
  go_enter Tryz.func137, Tryz.ntmps137
  go_wp2_with (first | (go_at_call 149; refine (hA _ (b1 _ _)).mono ?_; rintro e w3 ⟨rfl, hb3⟩; have HX := hbx _ hb3; have c1 := HX.cell 1 _ rfl; have c2 := HX.cell 2 _ rfl; have c8 := HX.cell 8 _ rfl; clear HX))
  go_ret
  exact ⟨rfl, bstep (b1 _ _) hb3⟩

set_option maxRecDepth 100000 in
set_option maxHeartbeats 2000000 in
theorem isNode_4ct  (kd : Int) (bd : Bool) (bn : Int) (A B : Option Addr) (m c p e : Nat) (nm : ByteArray) (w : World)
    (hA : ∀ w', Below w.heap.size w w' → Calls Tryz.prog 149 #[.agg #[.int .i64 kd, .bool bd, .int .u64 bn, .slice A m c, .string nm], .agg #[.int .i64 0, .bool false, .int .u64 0, .slice none 0 0, .string ⟨#[]⟩]] w' fun e w'' => e = .returned (.bool true) ∧ Below w'.heap.size w' w'') :
    Calls Tryz.prog 137 #[.agg #[.int .i64 4, .int .i64 0, .int .i64 0, .int .i64 kd, .bool bd, .int .u64 bn, .slice A m c, .string nm, .slice B p e]] w fun e w' => e = .returned (.bool (decide (2 ≤ p))) ∧ Below w.heap.size w w' := by
  have hbx : ∀ w1, Below (w.alloc (.cells #[.int .i64 4, .int .i64 0, .int .i64 0, .int .i64 kd, .bool bd, .int .u64 bn, .slice A m c, .string nm, .slice B p e] 31)).heap.size (w.alloc (.cells #[.int .i64 4, .int .i64 0, .int .i64 0, .int .i64 kd, .bool bd, .int .u64 bn, .slice A m c, .string nm, .slice B p e] 31)) w1 → Blk w1 w.heap.size [.int .i64 4, .int .i64 0, .int .i64 0, .int .i64 kd, .bool bd, .int .u64 bn, .slice A m c, .string nm, .slice B p e] := fun w1 hb => (Blk.new w [.int .i64 4, .int .i64 0, .int .i64 0, .int .i64 kd, .bool bd, .int .u64 bn, .slice A m c, .string nm, .slice B p e] 31).later hb
  go_enter Tryz.func137, Tryz.ntmps137
  go_wp2_with (first | (go_at_call 149; refine (hA _ (b1 _ _)).mono ?_; rintro e w3 ⟨rfl, hb3⟩; have HX := hbx _ hb3; have c1 := HX.cell 1 _ rfl; have c2 := HX.cell 2 _ rfl; have c8 := HX.cell 8 _ rfl; clear HX))
  go_ret
  exact ⟨ret_bool (len_two p), bstep (b1 _ _) hb3⟩

set_option maxRecDepth 100000 in
set_option maxHeartbeats 2000000 in
theorem isNode_ocx (k : Int) (h1 : ¬ k = 1) (h2 : ¬ k = 2) (h3 : ¬ k = 3) (h4 : ¬ k = 4) (kd : Int) (bd : Bool) (bn : Int) (A B : Option Addr) (m c p e : Nat) (nm : ByteArray) (w : World)
     :
    Calls Tryz.prog 137 #[.agg #[.int .i64 k, .int .i64 0, .int .i64 0, .int .i64 kd, .bool bd, .int .u64 bn, .slice A m c, .string nm, .slice B p e]] w fun e w' => e = .returned (.bool (false)) ∧ Below w.heap.size w w' := by
  have hk1 : (k == 1) = false := by rw [beq_eq_false_iff_ne]; exact h1
  have hk2 : (k == 2) = false := by rw [beq_eq_false_iff_ne]; exact h2
  have hk3 : (k == 3) = false := by rw [beq_eq_false_iff_ne]; exact h3
  have hk4 : (k == 4) = false := by rw [beq_eq_false_iff_ne]; exact h4
  go_enter Tryz.func137, Tryz.ntmps137
  go_wp2
  go_ret
  exact ⟨rfl, b1 _ _⟩

theorem isNode_mk (k mn mx : Int) (kd : Int) (bd : Bool) (bn : Int) (cs : List Cn) (nm : List UInt8) (sc sk : Value) (ks : List Tr) (w : World) (hok : OkA ⟨kd, bd, bn, cs, nm⟩) (h1 : Sl w 2 cs.length sc (cs.flatMap cnC)) (h2 : Sl w 9 ks.length sk (ks.flatMap Tr.row)) (hG : SG w) :
    Calls Tryz.prog 137 #[.agg #[.int .i64 k, .int .i64 mn, .int .i64 mx, .int .i64 kd, .bool bd, .int .u64 bn, sc, .string (strOf nm), sk]] w fun e w' => e = .returned (.bool (nodeB k mn mx ⟨kd, bd, bn, cs, nm⟩ ks.length)) ∧ Below w.heap.size w w' := by
  have hA := fun w' (hb : Below w.heap.size w w') => isAtom_any ⟨⟨kd, bd, bn, cs, nm⟩, sc⟩ w' (OneA.later ⟨hok, h1⟩ hb) (hG.later hb)
  have hZ := fun w' (hb : Below w.heap.size w w') => sameAtom_any ⟨⟨kd, bd, bn, cs, nm⟩, sc⟩ ga0 w' (OneA.later ⟨hok, h1⟩ hb) (one0 w')
  have hz0 : ∀ a : At, decide (a = ga0.a) = zeroB a := zero_is
  simp only [hz0] at hZ
  obtain ⟨A, c, rfl, -, -⟩ := sl_get (by decide) h1
  obtain ⟨B, e, rfl, -, -⟩ := sl_get (by decide) h2
  have hsz : strOf [] = ⟨#[]⟩ := rfl
  simp only [gaC, ga0, hsz] at hA hZ
  unfold nodeB
  clear h1 h2 hok hG hz0 hsz
  by_cases e1 : k = 1
  · subst e1
    rw [if_pos rfl]
    by_cases hmn : mn = 0
    · subst hmn
      by_cases hmx : mx = 0
      · subst hmx
        cases ea : atomB ⟨kd, bd, bn, cs, nm⟩ with
        | false =>
          rw [ea] at hA
          simp only [Bool.false_and]
          exact isNode_1cf kd bd bn A B _ c _ e (strOf nm) w hA
        | true =>
          rw [ea] at hA
          simp only [Bool.true_and]
          have hF1 : ∀ w, Calls Tryz.prog 145 #[.int .i64 0, .int .i64 0, .int .i64 99] w fun e w' => e = .returned (.bool true) ∧ w = w' := fun w => isFrom_any 0 0 99 w
          exact isNode_1ct kd bd bn A B _ c _ e (strOf nm) w hA hF1
      · skip
        cases ea : atomB ⟨kd, bd, bn, cs, nm⟩ with
        | false =>
          rw [ea] at hA
          simp only [Bool.false_and]
          exact isNode_1bf mx hmx kd bd bn A B _ c _ e (strOf nm) w hA
        | true =>
          rw [ea] at hA
          simp only [Bool.true_and]
          have hF1 : ∀ w, Calls Tryz.prog 145 #[.int .i64 0, .int .i64 0, .int .i64 99] w fun e w' => e = .returned (.bool true) ∧ w = w' := fun w => isFrom_any 0 0 99 w
          have hF2 := fun w => isFrom_any 0 mx 99 w
          have hz : (decide ((0 : Int) ≤ 0) && decide ((0 : Int) ≤ 99)) = true := rfl
          rw [hz, Bool.true_and]
          cases eb : (decide (0 ≤ mx) && decide (mx ≤ 99)) with
          | false =>
            rw [eb] at hF2
            exact isNode_1bh mx hmx kd bd bn A B _ c _ e (strOf nm) w hA hF1 hF2
          | true =>
            rw [eb] at hF2
            exact isNode_1bt mx hmx kd bd bn A B _ c _ e (strOf nm) w hA hF1 hF2
    · skip
      cases ea : atomB ⟨kd, bd, bn, cs, nm⟩ with
      | false =>
        rw [ea] at hA
        simp only [Bool.false_and]
        exact isNode_1af mn hmn mx kd bd bn A B _ c _ e (strOf nm) w hA
      | true =>
        rw [ea] at hA
        simp only [Bool.true_and]
        have hF1 := fun w => isFrom_any 0 mn 99 w
        have hF2 := fun w => isFrom_any 0 mx 99 w
        cases ec : (decide (0 ≤ mn) && decide (mn ≤ 99)) with
        | false =>
          rw [ec] at hF1
          simp only [Bool.false_and]
          exact isNode_1ag mn hmn mx kd bd bn A B _ c _ e (strOf nm) w hA hF1
        | true =>
          rw [ec] at hF1
          rw [Bool.true_and]
          cases eb : (decide (0 ≤ mx) && decide (mx ≤ 99)) with
          | false =>
            rw [eb] at hF2
            exact isNode_1ah mn hmn mx kd bd bn A B _ c _ e (strOf nm) w hA hF1 hF2
          | true =>
            rw [eb] at hF2
            exact isNode_1at mn hmn mx kd bd bn A B _ c _ e (strOf nm) w hA hF1 hF2
  · rw [if_neg e1]
    by_cases e2 : k = 2
    · subst e2
      rw [if_pos rfl]
      by_cases hmn : mn = 0
      · subst hmn
        by_cases hmx : mx = 0
        · subst hmx
          cases ea : atomB ⟨kd, bd, bn, cs, nm⟩ with
          | false =>
            rw [ea] at hA
            simp only [Bool.false_and]
            exact isNode_2cf kd bd bn A B _ c _ e (strOf nm) w hA
          | true =>
            rw [ea] at hA
            simp only [decide_true, Bool.true_and, Bool.and_true]
            exact isNode_2ct kd bd bn A B _ c _ e (strOf nm) w hA
        · skip
          cases ea : atomB ⟨kd, bd, bn, cs, nm⟩ with
          | false =>
            rw [ea] at hA
            simp only [Bool.false_and]
            exact isNode_2bf mx hmx kd bd bn A B _ c _ e (strOf nm) w hA
          | true =>
            rw [ea] at hA
            simp only [hmx, decide_false, Bool.false_and, Bool.and_false]
            exact isNode_2bt mx hmx kd bd bn A B _ c _ e (strOf nm) w hA
      · skip
        cases ea : atomB ⟨kd, bd, bn, cs, nm⟩ with
        | false =>
          rw [ea] at hA
          simp only [Bool.false_and]
          exact isNode_2af mn hmn mx kd bd bn A B _ c _ e (strOf nm) w hA
        | true =>
          rw [ea] at hA
          simp only [hmn, decide_false, Bool.false_and, Bool.and_false]
          exact isNode_2at mn hmn mx kd bd bn A B _ c _ e (strOf nm) w hA
    · rw [if_neg e2]
      by_cases e3 : k = 3
      · subst e3
        rw [if_pos (.inl rfl)]
        by_cases hmn : mn = 0
        · subst hmn
          by_cases hmx : mx = 0
          · subst hmx
            cases ea : zeroB ⟨kd, bd, bn, cs, nm⟩ with
            | false =>
              rw [ea] at hZ
              simp only [Bool.false_and]
              exact isNode_3cf kd bd bn A B _ c _ e (strOf nm) w hZ
            | true =>
              rw [ea] at hZ
              simp only [decide_true, Bool.true_and, Bool.and_true]
              exact isNode_3ct kd bd bn A B _ c _ e (strOf nm) w hZ
          · skip
            cases ea : zeroB ⟨kd, bd, bn, cs, nm⟩ with
            | false =>
              rw [ea] at hZ
              simp only [Bool.false_and]
              exact isNode_3bf mx hmx kd bd bn A B _ c _ e (strOf nm) w hZ
            | true =>
              rw [ea] at hZ
              simp only [hmx, decide_false, Bool.false_and, Bool.and_false]
              exact isNode_3bt mx hmx kd bd bn A B _ c _ e (strOf nm) w hZ
        · skip
          cases ea : zeroB ⟨kd, bd, bn, cs, nm⟩ with
          | false =>
            rw [ea] at hZ
            simp only [Bool.false_and]
            exact isNode_3af mn hmn mx kd bd bn A B _ c _ e (strOf nm) w hZ
          | true =>
            rw [ea] at hZ
            simp only [hmn, decide_false, Bool.false_and, Bool.and_false]
            exact isNode_3at mn hmn mx kd bd bn A B _ c _ e (strOf nm) w hZ
      · by_cases e4 : k = 4
        · subst e4
          rw [if_pos (.inr rfl)]
          by_cases hmn : mn = 0
          · subst hmn
            by_cases hmx : mx = 0
            · subst hmx
              cases ea : zeroB ⟨kd, bd, bn, cs, nm⟩ with
              | false =>
                rw [ea] at hZ
                simp only [Bool.false_and]
                exact isNode_4cf kd bd bn A B _ c _ e (strOf nm) w hZ
              | true =>
                rw [ea] at hZ
                simp only [decide_true, Bool.true_and, Bool.and_true]
                exact isNode_4ct kd bd bn A B _ c _ e (strOf nm) w hZ
            · skip
              cases ea : zeroB ⟨kd, bd, bn, cs, nm⟩ with
              | false =>
                rw [ea] at hZ
                simp only [Bool.false_and]
                exact isNode_4bf mx hmx kd bd bn A B _ c _ e (strOf nm) w hZ
              | true =>
                rw [ea] at hZ
                simp only [hmx, decide_false, Bool.false_and, Bool.and_false]
                exact isNode_4bt mx hmx kd bd bn A B _ c _ e (strOf nm) w hZ
          · skip
            cases ea : zeroB ⟨kd, bd, bn, cs, nm⟩ with
            | false =>
              rw [ea] at hZ
              simp only [Bool.false_and]
              exact isNode_4af mn hmn mx kd bd bn A B _ c _ e (strOf nm) w hZ
            | true =>
              rw [ea] at hZ
              simp only [hmn, decide_false, Bool.false_and, Bool.and_false]
              exact isNode_4at mn hmn mx kd bd bn A B _ c _ e (strOf nm) w hZ
        · rw [if_neg (fun h => h.elim e3 e4)]
          by_cases hmn : mn = 0
          · subst hmn
            by_cases hmx : mx = 0
            · subst hmx
              exact isNode_ocx k e1 e2 e3 e4 kd bd bn A B _ c _ e (strOf nm) w
            · skip
              exact isNode_obx k e1 e2 e3 e4 mx hmx kd bd bn A B _ c _ e (strOf nm) w
          · skip
            exact isNode_oax k e1 e2 e3 e4 mn hmn mx kd bd bn A B _ c _ e (strOf nm) w
theorem isNode_any (T : Tr) (w : World) (hT : OneT w T) (hG : SG w) :
    Calls Tryz.prog 137 #[.agg T.row.toArray] w fun e w' => e = .returned (.bool (nodeB T.nd.kind T.mn T.mx T.nd.atom T.nd.kids.length)) ∧ Below w.heap.size w w' := by
  obtain ⟨k, mn, mx, ⟨⟨kd, bd, bn, cs, nm⟩, sc⟩, sk, ks⟩ := T
  obtain ⟨-, ⟨hok, h1⟩, h2⟩ := hT
  have h := isNode_mk k mn mx kd bd bn cs nm sc sk ks w hok h1 h2 hG
  rw [nd_mk]
  have hl : (Nd.kids (.mk k mn mx ⟨kd, bd, bn, cs, nm⟩ (ks.map Tr.nd))).length = ks.length := List.length_map _
  rw [hl]
  exact h

end Go.Proofs.YtdoioaeppepndaaGreatDoor
