/- Walk: the document's own text of a node. Made by program (wip/tools/gen_astRg.py). -/
import Derived.Test.YtfibmdbplfghcaaGreatDoorAstRm
import Derived.Test.YtfibmdbplfghcaaGreatDoorAstRl
namespace Go.Proofs.YtfibmdbplfghcaaGreatDoor
open Go.RowKit
open A8 Tk7 Lb

theorem len_nl (l : List Nd) : l.length ≤ nodesL l := by
  induction l with
  | nil => exact Nat.zero_le _
  | cons x xs ih =>
    have h1 : 1 ≤ nodesN x := by cases x; rw [nodesN]; omega
    rw [nodesL, List.length_cons]
    omega
theorem below_drew9 (n : Nat) (w w' : World) : Below n w w'.drew = Below n w w' := by
  apply propext
  constructor
  · intro h; exact ⟨h.os, h.tape, h.output, h.size, h.block⟩
  · intro h; exact ⟨h.os, h.tape, h.output, h.size, h.block⟩
attribute [local go_sem] below_drew9
attribute [local simp] below_drew9
theorem take_nil_len {α : Type} (l : List α) (i : Nat) (h : i < l.length) : l.take i = [] ↔ i = 0 := by
  constructor
  · intro e
    have := congrArg List.length e
    rw [List.length_take, List.length_nil] at this
    omega
  · intro e
    rw [e]
    rfl
/-- Nine cells and what lay. -/
theorem held9 {P : Program} {f : FuncId} {args : Array Value} {v : Value} {W wx : World} {a0 a1 a2 a3 a4 a5 a6 a7 a8 : Addr} {c0 c1 c2 c3 c4 c5 c6 c7 c8 : Value} (hc : ∀ w, Below W.heap.size W w → Calls P f args w fun e w' => e = .returned v ∧ Below w.heap.size w w')
    (h0 : wx.cell? a0 = some c0) (h1 : wx.cell? a1 = some c1) (h2 : wx.cell? a2 = some c2) (h3 : wx.cell? a3 = some c3) (h4 : wx.cell? a4 = some c4) (h5 : wx.cell? a5 = some c5) (h6 : wx.cell? a6 = some c6) (h7 : wx.cell? a7 = some c7) (h8 : wx.cell? a8 = some c8) (h : Below W.heap.size W wx) :
    Calls P f args wx fun e w' => e = .returned v ∧ w'.cell? a0 = some c0 ∧ w'.cell? a1 = some c1 ∧ w'.cell? a2 = some c2 ∧ w'.cell? a3 = some c3 ∧ w'.cell? a4 = some c4 ∧ w'.cell? a5 = some c5 ∧ w'.cell? a6 = some c6 ∧ w'.cell? a7 = some c7 ∧ w'.cell? a8 = some c8 ∧ Below W.heap.size W w' :=
  (hc wx h).mono fun _ w' hh =>
    have hl : ∀ {p : Addr} {v : Value}, wx.cell? p = some v → w'.cell? p = some v := fun {_ _} h => (hh.2.cell (World.block_lt_of_cell? wx _ h)).trans h
    ⟨hh.1, hl h0, hl h1, hl h2, hl h3, hl h4, hl h5, hl h6, hl h7, hl h8, bstep h hh.2⟩
set_option maxRecDepth 100000 in
theorem rtext_1a (kd : Int) (bd : Bool) (bn : Int) (sc : Value) (nm : ByteArray) (sk : Value) (D : List UInt8) (w : World)
    (hat : ∀ w1, Below w.heap.size w w1 → Calls Tryz.prog 76 #[.agg #[.int .i64 kd, .bool bd, .int .u64 bn, sc, .string nm]] w1 fun e w' => e = .returned (.string (strOf D)) ∧ Below w1.heap.size w1 w') :
    Calls Tryz.prog 36 #[.agg #[.int .i64 1, .int .i64 1, .int .i64 1, .int .i64 kd, .bool bd, .int .u64 bn, sc, .string nm, sk]] w fun e w' => e = .returned (.string (strOf D)) ∧ Below w.heap.size w w' := by
  obtain ⟨W, hWW⟩ : ∃ W, W = w.alloc (.cells #[.int .i64 1, .int .i64 1, .int .i64 1, .int .i64 kd, .bool bd, .int .u64 bn, sc, .string nm, sk] 28) := ⟨_, rfl⟩
  have hb1 : Below w.heap.size w W := hWW ▸ b1 _ _
  have hBx : Blk W w.heap.size [.int .i64 1, .int .i64 1, .int .i64 1, .int .i64 kd, .bool bd, .int .u64 bn, sc, .string nm, sk] := hWW ▸ Blk.new w _ _
  have c0 := hBx.cell 0 _ rfl
  have c1 := hBx.cell 1 _ rfl
  have c2 := hBx.cell 2 _ rfl
  have c3 := hBx.cell 3 _ rfl
  have c4 := hBx.cell 4 _ rfl
  have c5 := hBx.cell 5 _ rfl
  have c6 := hBx.cell 6 _ rfl
  have c7 := hBx.cell 7 _ rfl
  have c8 := hBx.cell 8 _ rfl
  obtain ⟨R, hR⟩ : ∃ R, R = strOf D := ⟨_, rfl⟩
  rw [← hR] at hat ⊢
  have HT := Lib.hid hat
  have HB := Lib.hid hb1
  clear hat hb1 hBx hR
  go_enter Tryz.func36, Tryz.ntmps36
  go_wp2_with fail
  rw [← hWW]
  clear hWW
  go_wp2_with (go_at_call 76; refine (HT.out _ HB.out).mono ?_; rintro e w2 ⟨rfl, hb2⟩)
  go_ret
  exact ⟨rfl, bstep HB.out hb2⟩
set_option maxRecDepth 100000 in
theorem rtext_2 (mn mx kd : Int) (bd : Bool) (bn : Int) (sc : Value) (nm : ByteArray) (sk : Value) (D : List UInt8) (w : World) (hDl : D.length ≤ 100000)
    (hat : ∀ w1, Below w.heap.size w w1 → Calls Tryz.prog 76 #[.agg #[.int .i64 kd, .bool bd, .int .u64 bn, sc, .string nm]] w1 fun e w' => e = .returned (.string (strOf D)) ∧ Below w1.heap.size w1 w') :
    Calls Tryz.prog 36 #[.agg #[.int .i64 2, .int .i64 mn, .int .i64 mx, .int .i64 kd, .bool bd, .int .u64 bn, sc, .string nm, sk]] w fun e w' => e = .returned (.string (strOf ([110, 111, 116, 32] ++ D))) ∧ Below w.heap.size w w' := by
  obtain ⟨W, hWW⟩ : ∃ W, W = w.alloc (.cells #[.int .i64 2, .int .i64 mn, .int .i64 mx, .int .i64 kd, .bool bd, .int .u64 bn, sc, .string nm, sk] 28) := ⟨_, rfl⟩
  have hb1 : Below w.heap.size w W := hWW ▸ b1 _ _
  have hBx : Blk W w.heap.size [.int .i64 2, .int .i64 mn, .int .i64 mx, .int .i64 kd, .bool bd, .int .u64 bn, sc, .string nm, sk] := hWW ▸ Blk.new w _ _
  have c0 := hBx.cell 0 _ rfl
  have c1 := hBx.cell 1 _ rfl
  have c2 := hBx.cell 2 _ rfl
  have c3 := hBx.cell 3 _ rfl
  have c4 := hBx.cell 4 _ rfl
  have c5 := hBx.cell 5 _ rfl
  have c6 := hBx.cell 6 _ rfl
  have c7 := hBx.cell 7 _ rfl
  have c8 := hBx.cell 8 _ rfl
  have s1 : ∀ w, (Op.stringOp .add ⟨#[110, 111, 116, 32]⟩ (strOf D)).run Tryz.prog w = .ok (.string (strOf ([110, 111, 116, 32] ++ D))) w := fun w => sum8 [110, 111, 116, 32] D (by simp; omega) w
  obtain ⟨R, hR⟩ : ∃ R, R = strOf D := ⟨_, rfl⟩
  obtain ⟨R2, hR2⟩ : ∃ R, R = strOf ([110, 111, 116, 32] ++ D) := ⟨_, rfl⟩
  rw [← hR] at hat s1
  rw [← hR2] at s1 ⊢
  have HT := Lib.hid hat
  have HB := Lib.hid hb1
  clear hat hb1 hBx hR hR2
  go_enter Tryz.func36, Tryz.ntmps36
  go_wp2_with fail
  rw [← hWW]
  clear hWW
  go_wp2_with (go_at_call 76; refine (HT.out _ HB.out).mono ?_; rintro e w2 ⟨rfl, hb2⟩)
  go_ret
  exact ⟨rfl, bstep HB.out hb2⟩
set_option maxRecDepth 100000 in
set_option maxHeartbeats 8000000 in
theorem rtext_1b (mn mx kd : Int) (bd : Bool) (bn : Int) (sc : Value) (nm : ByteArray) (sk : Value) (D : List UInt8) (w : World) (hDl : D.length ≤ 100000) (h1 : ¬ mn = 1) (hm : 0 ≤ mn ∧ mn ≤ 99) (hx : 0 ≤ mx ∧ mx ≤ 99)
    (hat : ∀ w1, Below w.heap.size w w1 → Calls Tryz.prog 76 #[.agg #[.int .i64 kd, .bool bd, .int .u64 bn, sc, .string nm]] w1 fun e w' => e = .returned (.string (strOf D)) ∧ Below w1.heap.size w1 w') :
    Calls Tryz.prog 36 #[.agg #[.int .i64 1, .int .i64 mn, .int .i64 mx, .int .i64 kd, .bool bd, .int .u64 bn, sc, .string nm, sk]] w fun e w' => e = .returned (.string (strOf (D ++ ([123] ++ (Lib.itoa mn ++ [44] ++ Lib.itoa mx) ++ [125])))) ∧ Below w.heap.size w w' := by
  obtain ⟨W, hWW⟩ : ∃ W, W = w.alloc (.cells #[.int .i64 1, .int .i64 mn, .int .i64 mx, .int .i64 kd, .bool bd, .int .u64 bn, sc, .string nm, sk] 28) := ⟨_, rfl⟩
  have hb1 : Below w.heap.size w W := hWW ▸ b1 _ _
  have hBx : Blk W w.heap.size [.int .i64 1, .int .i64 mn, .int .i64 mx, .int .i64 kd, .bool bd, .int .u64 bn, sc, .string nm, sk] := hWW ▸ Blk.new w _ _
  have c0 := hBx.cell 0 _ rfl
  have c1 := hBx.cell 1 _ rfl
  have c2 := hBx.cell 2 _ rfl
  have c3 := hBx.cell 3 _ rfl
  have c4 := hBx.cell 4 _ rfl
  have c5 := hBx.cell 5 _ rfl
  have c6 := hBx.cell 6 _ rfl
  have c7 := hBx.cell 7 _ rfl
  have c8 := hBx.cell 8 _ rfl
  have g1 : (mn == 1) = false := by rw [beq_eq_false_iff_ne]; exact h1
  have g2 : ¬ mn = 1 := h1
  
  have hdm : ∀ w1, Below w.heap.size w w1 → Calls Tryz.prog 37 #[.int .u64 mn] w1 fun e w' => e = .returned (.string (strOf (Lib.itoa mn))) ∧ Below w1.heap.size w1 w' := fun w1 _ => by
    have h := rdigits_any (mn : Int).toNat (by omega) w1
    rw [show (((mn : Int).toNat : Nat) : Int) = mn by omega] at h
    refine h.mono ?_
    rintro e w' ⟨rfl, m, rfl⟩
    exact ⟨by rw [itoa_form, if_neg (by omega)], below_drewN (Below.refl _ _) m⟩
  have hdx : ∀ w1, Below w.heap.size w w1 → Calls Tryz.prog 37 #[.int .u64 mx] w1 fun e w' => e = .returned (.string (strOf (Lib.itoa mx))) ∧ Below w1.heap.size w1 w' := fun w1 _ => by
    have h := rdigits_any mx.toNat (by omega) w1
    rw [show ((mx.toNat : Nat) : Int) = mx by omega] at h
    refine h.mono ?_
    rintro e w' ⟨rfl, m, rfl⟩
    exact ⟨by rw [itoa_form, if_neg (by omega)], below_drewN (Below.refl _ _) m⟩
  have hl1 := itoaK mn (by omega) (by omega)
  have hl2 := itoaK mx (by omega) (by omega)
  have hwm : IntKind.u64.wrap mn = mn := IntWalk.u64_in _ ⟨by omega, by omega⟩
  have hwx : IntKind.u64.wrap mx = mx := IntWalk.u64_in _ ⟨by omega, by omega⟩
  have s1 : ∀ w, (Op.stringOp .add (strOf D) ⟨#[123]⟩).run Tryz.prog w = .ok (.string (strOf (D ++ [123]))) w := fun w => sum8 _ [123] (by simp; omega) w
  have s2 : ∀ w, (Op.stringOp .add (strOf (D ++ [123])) (strOf (Lib.itoa mn))).run Tryz.prog w = .ok (.string (strOf (D ++ [123] ++ Lib.itoa mn))) w := fun w => sum8 _ _ (by simp; omega) w
  have s3 : ∀ w, (Op.stringOp .add (strOf (D ++ [123] ++ Lib.itoa mn)) ⟨#[44]⟩).run Tryz.prog w = .ok (.string (strOf (D ++ [123] ++ Lib.itoa mn ++ [44]))) w := fun w => sum8 _ [44] (by simp; omega) w
  have s4 : ∀ w, (Op.stringOp .add (strOf (D ++ [123] ++ Lib.itoa mn ++ [44])) (strOf (Lib.itoa mx))).run Tryz.prog w = .ok (.string (strOf (D ++ [123] ++ Lib.itoa mn ++ [44] ++ Lib.itoa mx))) w := fun w => sum8 _ _ (by simp; omega) w
  have s5 : ∀ w, (Op.stringOp .add (strOf (D ++ [123] ++ Lib.itoa mn ++ [44] ++ Lib.itoa mx)) ⟨#[125]⟩).run Tryz.prog w = .ok (.string (strOf (D ++ ([123] ++ (Lib.itoa mn ++ [44] ++ Lib.itoa mx) ++ [125])))) w := fun w => by
    rw [show D ++ ([123] ++ (Lib.itoa mn ++ [44] ++ Lib.itoa mx) ++ [125]) = (D ++ [123] ++ Lib.itoa mn ++ [44] ++ Lib.itoa mx) ++ [125] by simp]
    exact sum8 _ [125] (by simp; omega) w
  obtain ⟨R0, hR0⟩ : ∃ R, R = strOf D := ⟨_, rfl⟩
  obtain ⟨R1, hR1⟩ : ∃ R, R = strOf (D ++ [123]) := ⟨_, rfl⟩
  obtain ⟨R2, hR2⟩ : ∃ R, R = strOf (D ++ [123] ++ Lib.itoa mn) := ⟨_, rfl⟩
  obtain ⟨R3, hR3⟩ : ∃ R, R = strOf (D ++ [123] ++ Lib.itoa mn ++ [44]) := ⟨_, rfl⟩
  obtain ⟨R4, hR4⟩ : ∃ R, R = strOf (D ++ [123] ++ Lib.itoa mn ++ [44] ++ Lib.itoa mx) := ⟨_, rfl⟩
  obtain ⟨R5, hR5⟩ : ∃ R, R = strOf (D ++ ([123] ++ (Lib.itoa mn ++ [44] ++ Lib.itoa mx) ++ [125])) := ⟨_, rfl⟩
  obtain ⟨X1, hX1⟩ : ∃ R, R = strOf (Lib.itoa mn) := ⟨_, rfl⟩
  obtain ⟨X2, hX2⟩ : ∃ R, R = strOf (Lib.itoa mx) := ⟨_, rfl⟩
  rw [← hR0] at hat s1
  rw [← hR1] at s1 s2
  rw [← hR2] at s2 s3
  rw [← hR3] at s3 s4
  rw [← hR4] at s4 s5
  rw [← hR5] at s5 ⊢
  rw [← hX1] at hdm s2
  rw [← hX2] at hdx s4
  clear hR0 hR1 hR2 hR3 hR4 hR5 hX1 hX2 hl1 hl2 hBx hm hx hDl
  go_enter Tryz.func36, Tryz.ntmps36
  go_upto_region 5 with fail
  rw [← hWW]
  clear hWW
  go_region_held3 (fun w' => w'.cell? ⟨w.heap.size, 0, none⟩ = some (.int .i64 1) ∧ w'.cell? ⟨w.heap.size, 1, none⟩ = some (.int .i64 mn) ∧ w'.cell? ⟨w.heap.size, 2, none⟩ = some (.int .i64 mx) ∧ w'.cell? ⟨w.heap.size, 3, none⟩ = some (.int .i64 kd) ∧ w'.cell? ⟨w.heap.size, 4, none⟩ = some (.bool bd) ∧ w'.cell? ⟨w.heap.size, 5, none⟩ = some (.int .u64 bn) ∧ w'.cell? ⟨w.heap.size, 6, none⟩ = some (sc) ∧ w'.cell? ⟨w.heap.size, 7, none⟩ = some (.string nm) ∧ w'.cell? ⟨w.heap.size, 8, none⟩ = some (sk) ∧ Below w.heap.size w w') (go_keep)
    (first | (go_at_call 76; with_reducible refine (held9 (W := w) (a0 := ⟨w.heap.size, 0, none⟩) (c0 := .int .i64 1) (a1 := ⟨w.heap.size, 1, none⟩) (c1 := .int .i64 mn) (a2 := ⟨w.heap.size, 2, none⟩) (c2 := .int .i64 mx) (a3 := ⟨w.heap.size, 3, none⟩) (c3 := .int .i64 kd) (a4 := ⟨w.heap.size, 4, none⟩) (c4 := .bool bd) (a5 := ⟨w.heap.size, 5, none⟩) (c5 := .int .u64 bn) (a6 := ⟨w.heap.size, 6, none⟩) (c6 := sc) (a7 := ⟨w.heap.size, 7, none⟩) (c7 := .string nm) (a8 := ⟨w.heap.size, 8, none⟩) (c8 := sk) hat ?_ ?_ ?_ ?_ ?_ ?_ ?_ ?_ ?_ ?_ ).mono ?_; (first | assumption | (simp [*])); (first | assumption | (simp [*])); (first | assumption | (simp [*])); (first | assumption | (simp [*])); (first | assumption | (simp [*])); (first | assumption | (simp [*])); (first | assumption | (simp [*])); (first | assumption | (simp [*])); (first | assumption | (simp [*])); (first | assumption | (simp [*])); rintro e w9 ⟨rfl, g0, g1, g2, g3, g4, g5, g6, g7, g8, g9⟩) | (go_at_call 37; with_reducible refine (held9 (W := w) (a0 := ⟨w.heap.size, 0, none⟩) (c0 := .int .i64 1) (a1 := ⟨w.heap.size, 1, none⟩) (c1 := .int .i64 mn) (a2 := ⟨w.heap.size, 2, none⟩) (c2 := .int .i64 mx) (a3 := ⟨w.heap.size, 3, none⟩) (c3 := .int .i64 kd) (a4 := ⟨w.heap.size, 4, none⟩) (c4 := .bool bd) (a5 := ⟨w.heap.size, 5, none⟩) (c5 := .int .u64 bn) (a6 := ⟨w.heap.size, 6, none⟩) (c6 := sc) (a7 := ⟨w.heap.size, 7, none⟩) (c7 := .string nm) (a8 := ⟨w.heap.size, 8, none⟩) (c8 := sk) hdm ?_ ?_ ?_ ?_ ?_ ?_ ?_ ?_ ?_ ?_ ).mono ?_; (first | assumption | (simp [*])); (first | assumption | (simp [*])); (first | assumption | (simp [*])); (first | assumption | (simp [*])); (first | assumption | (simp [*])); (first | assumption | (simp [*])); (first | assumption | (simp [*])); (first | assumption | (simp [*])); (first | assumption | (simp [*])); (first | assumption | (simp [*])); rintro e w9 ⟨rfl, g0, g1, g2, g3, g4, g5, g6, g7, g8, g9⟩) | (go_at_call 37; with_reducible refine (held9 (W := w) (a0 := ⟨w.heap.size, 0, none⟩) (c0 := .int .i64 1) (a1 := ⟨w.heap.size, 1, none⟩) (c1 := .int .i64 mn) (a2 := ⟨w.heap.size, 2, none⟩) (c2 := .int .i64 mx) (a3 := ⟨w.heap.size, 3, none⟩) (c3 := .int .i64 kd) (a4 := ⟨w.heap.size, 4, none⟩) (c4 := .bool bd) (a5 := ⟨w.heap.size, 5, none⟩) (c5 := .int .u64 bn) (a6 := ⟨w.heap.size, 6, none⟩) (c6 := sc) (a7 := ⟨w.heap.size, 7, none⟩) (c7 := .string nm) (a8 := ⟨w.heap.size, 8, none⟩) (c8 := sk) hdx ?_ ?_ ?_ ?_ ?_ ?_ ?_ ?_ ?_ ?_ ).mono ?_; (first | assumption | (simp [*])); (first | assumption | (simp [*])); (first | assumption | (simp [*])); (first | assumption | (simp [*])); (first | assumption | (simp [*])); (first | assumption | (simp [*])); (first | assumption | (simp [*])); (first | assumption | (simp [*])); (first | assumption | (simp [*])); (first | assumption | (simp [*])); rintro e w9 ⟨rfl, g0, g1, g2, g3, g4, g5, g6, g7, g8, g9⟩))
  go_wp2
  go_ret
  exact ⟨rfl, by first | assumption | (simp [*])⟩
set_option maxRecDepth 100000 in
set_option maxHeartbeats 8000000 in
theorem rtext_1c (mx kd : Int) (bd : Bool) (bn : Int) (sc : Value) (nm : ByteArray) (sk : Value) (D : List UInt8) (w : World) (hDl : D.length ≤ 100000) (h1 : ¬ mx = 1) (hx : 0 ≤ mx ∧ mx ≤ 99)
    (hat : ∀ w1, Below w.heap.size w w1 → Calls Tryz.prog 76 #[.agg #[.int .i64 kd, .bool bd, .int .u64 bn, sc, .string nm]] w1 fun e w' => e = .returned (.string (strOf D)) ∧ Below w1.heap.size w1 w') :
    Calls Tryz.prog 36 #[.agg #[.int .i64 1, .int .i64 1, .int .i64 mx, .int .i64 kd, .bool bd, .int .u64 bn, sc, .string nm, sk]] w fun e w' => e = .returned (.string (strOf (D ++ ([123] ++ (Lib.itoa 1 ++ [44] ++ Lib.itoa mx) ++ [125])))) ∧ Below w.heap.size w w' := by
  obtain ⟨W, hWW⟩ : ∃ W, W = w.alloc (.cells #[.int .i64 1, .int .i64 1, .int .i64 mx, .int .i64 kd, .bool bd, .int .u64 bn, sc, .string nm, sk] 28) := ⟨_, rfl⟩
  have hb1 : Below w.heap.size w W := hWW ▸ b1 _ _
  have hBx : Blk W w.heap.size [.int .i64 1, .int .i64 1, .int .i64 mx, .int .i64 kd, .bool bd, .int .u64 bn, sc, .string nm, sk] := hWW ▸ Blk.new w _ _
  have c0 := hBx.cell 0 _ rfl
  have c1 := hBx.cell 1 _ rfl
  have c2 := hBx.cell 2 _ rfl
  have c3 := hBx.cell 3 _ rfl
  have c4 := hBx.cell 4 _ rfl
  have c5 := hBx.cell 5 _ rfl
  have c6 := hBx.cell 6 _ rfl
  have c7 := hBx.cell 7 _ rfl
  have c8 := hBx.cell 8 _ rfl
  have g1 : (mx == 1) = false := by rw [beq_eq_false_iff_ne]; exact h1
  have g2 : ¬ mx = 1 := h1
  have hm : (0 : Int) ≤ 1 ∧ (1 : Int) ≤ 99 := by decide
  have hdm : ∀ w1, Below w.heap.size w w1 → Calls Tryz.prog 37 #[.int .u64 1] w1 fun e w' => e = .returned (.string (strOf (Lib.itoa 1))) ∧ Below w1.heap.size w1 w' := fun w1 _ => by
    have h := rdigits_any (1 : Int).toNat (by omega) w1
    rw [show (((1 : Int).toNat : Nat) : Int) = 1 by omega] at h
    refine h.mono ?_
    rintro e w' ⟨rfl, m, rfl⟩
    exact ⟨by rw [itoa_form, if_neg (by omega)], below_drewN (Below.refl _ _) m⟩
  have hdx : ∀ w1, Below w.heap.size w w1 → Calls Tryz.prog 37 #[.int .u64 mx] w1 fun e w' => e = .returned (.string (strOf (Lib.itoa mx))) ∧ Below w1.heap.size w1 w' := fun w1 _ => by
    have h := rdigits_any mx.toNat (by omega) w1
    rw [show ((mx.toNat : Nat) : Int) = mx by omega] at h
    refine h.mono ?_
    rintro e w' ⟨rfl, m, rfl⟩
    exact ⟨by rw [itoa_form, if_neg (by omega)], below_drewN (Below.refl _ _) m⟩
  have hl1 := itoaK 1 (by omega) (by omega)
  have hl2 := itoaK mx (by omega) (by omega)
  have hwm : IntKind.u64.wrap 1 = 1 := IntWalk.u64_in _ ⟨by omega, by omega⟩
  have hwx : IntKind.u64.wrap mx = mx := IntWalk.u64_in _ ⟨by omega, by omega⟩
  have s1 : ∀ w, (Op.stringOp .add (strOf D) ⟨#[123]⟩).run Tryz.prog w = .ok (.string (strOf (D ++ [123]))) w := fun w => sum8 _ [123] (by simp; omega) w
  have s2 : ∀ w, (Op.stringOp .add (strOf (D ++ [123])) (strOf (Lib.itoa 1))).run Tryz.prog w = .ok (.string (strOf (D ++ [123] ++ Lib.itoa 1))) w := fun w => sum8 _ _ (by simp; omega) w
  have s3 : ∀ w, (Op.stringOp .add (strOf (D ++ [123] ++ Lib.itoa 1)) ⟨#[44]⟩).run Tryz.prog w = .ok (.string (strOf (D ++ [123] ++ Lib.itoa 1 ++ [44]))) w := fun w => sum8 _ [44] (by simp; omega) w
  have s4 : ∀ w, (Op.stringOp .add (strOf (D ++ [123] ++ Lib.itoa 1 ++ [44])) (strOf (Lib.itoa mx))).run Tryz.prog w = .ok (.string (strOf (D ++ [123] ++ Lib.itoa 1 ++ [44] ++ Lib.itoa mx))) w := fun w => sum8 _ _ (by simp; omega) w
  have s5 : ∀ w, (Op.stringOp .add (strOf (D ++ [123] ++ Lib.itoa 1 ++ [44] ++ Lib.itoa mx)) ⟨#[125]⟩).run Tryz.prog w = .ok (.string (strOf (D ++ ([123] ++ (Lib.itoa 1 ++ [44] ++ Lib.itoa mx) ++ [125])))) w := fun w => by
    rw [show D ++ ([123] ++ (Lib.itoa 1 ++ [44] ++ Lib.itoa mx) ++ [125]) = (D ++ [123] ++ Lib.itoa 1 ++ [44] ++ Lib.itoa mx) ++ [125] by simp]
    exact sum8 _ [125] (by simp; omega) w
  obtain ⟨R0, hR0⟩ : ∃ R, R = strOf D := ⟨_, rfl⟩
  obtain ⟨R1, hR1⟩ : ∃ R, R = strOf (D ++ [123]) := ⟨_, rfl⟩
  obtain ⟨R2, hR2⟩ : ∃ R, R = strOf (D ++ [123] ++ Lib.itoa 1) := ⟨_, rfl⟩
  obtain ⟨R3, hR3⟩ : ∃ R, R = strOf (D ++ [123] ++ Lib.itoa 1 ++ [44]) := ⟨_, rfl⟩
  obtain ⟨R4, hR4⟩ : ∃ R, R = strOf (D ++ [123] ++ Lib.itoa 1 ++ [44] ++ Lib.itoa mx) := ⟨_, rfl⟩
  obtain ⟨R5, hR5⟩ : ∃ R, R = strOf (D ++ ([123] ++ (Lib.itoa 1 ++ [44] ++ Lib.itoa mx) ++ [125])) := ⟨_, rfl⟩
  obtain ⟨X1, hX1⟩ : ∃ R, R = strOf (Lib.itoa 1) := ⟨_, rfl⟩
  obtain ⟨X2, hX2⟩ : ∃ R, R = strOf (Lib.itoa mx) := ⟨_, rfl⟩
  rw [← hR0] at hat s1
  rw [← hR1] at s1 s2
  rw [← hR2] at s2 s3
  rw [← hR3] at s3 s4
  rw [← hR4] at s4 s5
  rw [← hR5] at s5 ⊢
  rw [← hX1] at hdm s2
  rw [← hX2] at hdx s4
  clear hR0 hR1 hR2 hR3 hR4 hR5 hX1 hX2 hl1 hl2 hBx hm hx hDl
  go_enter Tryz.func36, Tryz.ntmps36
  go_upto_region 5 with fail
  rw [← hWW]
  clear hWW
  go_region_held3 (fun w' => w'.cell? ⟨w.heap.size, 0, none⟩ = some (.int .i64 1) ∧ w'.cell? ⟨w.heap.size, 1, none⟩ = some (.int .i64 1) ∧ w'.cell? ⟨w.heap.size, 2, none⟩ = some (.int .i64 mx) ∧ w'.cell? ⟨w.heap.size, 3, none⟩ = some (.int .i64 kd) ∧ w'.cell? ⟨w.heap.size, 4, none⟩ = some (.bool bd) ∧ w'.cell? ⟨w.heap.size, 5, none⟩ = some (.int .u64 bn) ∧ w'.cell? ⟨w.heap.size, 6, none⟩ = some (sc) ∧ w'.cell? ⟨w.heap.size, 7, none⟩ = some (.string nm) ∧ w'.cell? ⟨w.heap.size, 8, none⟩ = some (sk) ∧ Below w.heap.size w w') (go_keep)
    (first | (go_at_call 76; with_reducible refine (held9 (W := w) (a0 := ⟨w.heap.size, 0, none⟩) (c0 := .int .i64 1) (a1 := ⟨w.heap.size, 1, none⟩) (c1 := .int .i64 1) (a2 := ⟨w.heap.size, 2, none⟩) (c2 := .int .i64 mx) (a3 := ⟨w.heap.size, 3, none⟩) (c3 := .int .i64 kd) (a4 := ⟨w.heap.size, 4, none⟩) (c4 := .bool bd) (a5 := ⟨w.heap.size, 5, none⟩) (c5 := .int .u64 bn) (a6 := ⟨w.heap.size, 6, none⟩) (c6 := sc) (a7 := ⟨w.heap.size, 7, none⟩) (c7 := .string nm) (a8 := ⟨w.heap.size, 8, none⟩) (c8 := sk) hat ?_ ?_ ?_ ?_ ?_ ?_ ?_ ?_ ?_ ?_ ).mono ?_; (first | assumption | (simp [*])); (first | assumption | (simp [*])); (first | assumption | (simp [*])); (first | assumption | (simp [*])); (first | assumption | (simp [*])); (first | assumption | (simp [*])); (first | assumption | (simp [*])); (first | assumption | (simp [*])); (first | assumption | (simp [*])); (first | assumption | (simp [*])); rintro e w9 ⟨rfl, g0, g1, g2, g3, g4, g5, g6, g7, g8, g9⟩) | (go_at_call 37; with_reducible refine (held9 (W := w) (a0 := ⟨w.heap.size, 0, none⟩) (c0 := .int .i64 1) (a1 := ⟨w.heap.size, 1, none⟩) (c1 := .int .i64 1) (a2 := ⟨w.heap.size, 2, none⟩) (c2 := .int .i64 mx) (a3 := ⟨w.heap.size, 3, none⟩) (c3 := .int .i64 kd) (a4 := ⟨w.heap.size, 4, none⟩) (c4 := .bool bd) (a5 := ⟨w.heap.size, 5, none⟩) (c5 := .int .u64 bn) (a6 := ⟨w.heap.size, 6, none⟩) (c6 := sc) (a7 := ⟨w.heap.size, 7, none⟩) (c7 := .string nm) (a8 := ⟨w.heap.size, 8, none⟩) (c8 := sk) hdm ?_ ?_ ?_ ?_ ?_ ?_ ?_ ?_ ?_ ?_ ).mono ?_; (first | assumption | (simp [*])); (first | assumption | (simp [*])); (first | assumption | (simp [*])); (first | assumption | (simp [*])); (first | assumption | (simp [*])); (first | assumption | (simp [*])); (first | assumption | (simp [*])); (first | assumption | (simp [*])); (first | assumption | (simp [*])); (first | assumption | (simp [*])); rintro e w9 ⟨rfl, g0, g1, g2, g3, g4, g5, g6, g7, g8, g9⟩) | (go_at_call 37; with_reducible refine (held9 (W := w) (a0 := ⟨w.heap.size, 0, none⟩) (c0 := .int .i64 1) (a1 := ⟨w.heap.size, 1, none⟩) (c1 := .int .i64 1) (a2 := ⟨w.heap.size, 2, none⟩) (c2 := .int .i64 mx) (a3 := ⟨w.heap.size, 3, none⟩) (c3 := .int .i64 kd) (a4 := ⟨w.heap.size, 4, none⟩) (c4 := .bool bd) (a5 := ⟨w.heap.size, 5, none⟩) (c5 := .int .u64 bn) (a6 := ⟨w.heap.size, 6, none⟩) (c6 := sc) (a7 := ⟨w.heap.size, 7, none⟩) (c7 := .string nm) (a8 := ⟨w.heap.size, 8, none⟩) (c8 := sk) hdx ?_ ?_ ?_ ?_ ?_ ?_ ?_ ?_ ?_ ?_ ).mono ?_; (first | assumption | (simp [*])); (first | assumption | (simp [*])); (first | assumption | (simp [*])); (first | assumption | (simp [*])); (first | assumption | (simp [*])); (first | assumption | (simp [*])); (first | assumption | (simp [*])); (first | assumption | (simp [*])); (first | assumption | (simp [*])); (first | assumption | (simp [*])); rintro e w9 ⟨rfl, g0, g1, g2, g3, g4, g5, g6, g7, g8, g9⟩))
  go_wp2
  go_ret
  exact ⟨rfl, by first | assumption | (simp [*])⟩
set_option maxRecDepth 100000 in
set_option maxHeartbeats 16000000 in
theorem rtext_3 (mn mx kd : Int) (bd : Bool) (bn : Int) (sc : Value) (nm : ByteArray) (B : Option Addr) (e9 : Nat) (ks : List Tr) (w : World) (hsl : Sl w 9 ks.length (.slice B ks.length e9) (ks.flatMap Tr.row)) (hkl : ks.length ≤ 250) (hkt : ∀ t ∈ ks, (textN t.nd).length ≤ 250000) (hone : ∀ t ∈ ks, OneT w t)
    (hkid : ∀ t ∈ ks, ∀ w1, Below w.heap.size w w1 → Calls Tryz.prog 36 #[.agg t.row.toArray] w1 fun e w' => e = .returned (.string (strOf (textN t.nd))) ∧ Below w1.heap.size w1 w') :
    Calls Tryz.prog 36 #[.agg #[.int .i64 3, .int .i64 mn, .int .i64 mx, .int .i64 kd, .bool bd, .int .u64 bn, sc, .string nm, .slice B ks.length e9]] w fun e w' => e = .returned (.string (strOf (sepL [32, 59, 32] (ks.map fun t => wrapT 3 t.nd.kind (textN t.nd))))) ∧ Below w.heap.size w w' := by
  obtain ⟨pre, hpre⟩ : ∃ pre : Nat → List UInt8, pre = fun i => sepL [32, 59, 32] ((ks.take i).map fun t => wrapT 3 t.nd.kind (textN t.nd)) := ⟨_, rfl⟩
  have hp0 : pre 0 = [] := by rw [hpre]; rfl
  have hpn : pre ks.length = sepL [32, 59, 32] (ks.map fun t => wrapT 3 t.nd.kind (textN t.nd)) := by rw [hpre]; show sepL _ ((ks.take ks.length).map _) = _; rw [List.take_of_length_le (Nat.le_refl _)]
  have hps : ∀ i (h : i < ks.length), pre (i + 1) = if i = 0 then wrapT 3 (ks[i]).nd.kind (textN (ks[i]).nd) else pre i ++ ([32, 59, 32] ++ wrapT 3 (ks[i]).nd.kind (textN (ks[i]).nd)) := fun i h => by
    rw [hpre]
    show sepL _ ((ks.take (i + 1)).map _) = _
    rw [take_snoc ks i h, List.map_append, List.map_cons, List.map_nil, sep_snoc]
    simp only [List.map_eq_nil_iff, take_nil_len ks i h]
  have hwl : ∀ t ∈ ks, (wrapT 3 t.nd.kind (textN t.nd)).length ≤ 250002 := fun t ht => by
    have := hkt t ht
    unfold wrapT
    split
    · simp only [List.length_append, List.length_cons, List.length_nil]; omega
    · omega
  have hpl : ∀ i, (pre i).length ≤ 63000000 := fun i => by
    rw [hpre]
    have h := sepK [32, 59, 32] 250002 ((ks.take i).map fun t => wrapT 3 t.nd.kind (textN t.nd)) (fun y hy => by
      obtain ⟨u, hu, rfl⟩ := List.mem_map.1 hy
      exact hwl u (List.mem_of_mem_take hu))
    rw [List.length_map, List.length_take] at h
    have h2 : (250002 + [32, 59, 32].length) * min i ks.length ≤ 250005 * 250 := Nat.mul_le_mul_left 250005 (by omega)
    show (sepL _ _).length ≤ _
    omega
  rw [← hpn]
  obtain ⟨_, _, hAA, hm, hels⟩ := sl_els (by decide) row_len hsl
  obtain ⟨W, hWW⟩ : ∃ W, W = w.alloc (.cells #[.int .i64 3, .int .i64 mn, .int .i64 mx, .int .i64 kd, .bool bd, .int .u64 bn, sc, .string nm, .slice B ks.length e9] 28) := ⟨_, rfl⟩
  have hb1 : Below w.heap.size w W := hWW ▸ b1 _ _
  have hBx : Blk W w.heap.size [.int .i64 3, .int .i64 mn, .int .i64 mx, .int .i64 kd, .bool bd, .int .u64 bn, sc, .string nm, .slice B ks.length e9] := hWW ▸ Blk.new w _ _
  have HX := Lib.hid hBx
  have HE := Lib.hid hels
  have HQ := Lib.hid hkid
  have HP0 := Lib.hid hp0
  have HPS := Lib.hid hps
  have HPLn := Lib.hid hpl
  have HWL := Lib.hid hwl
  have HB := Lib.hid hb1
  have HKT := Lib.hid hkt
  have HON := Lib.hid hone
  cases hAA
  have c0 := hBx.cell 0 _ rfl
  have c1 := hBx.cell 1 _ rfl
  have c2 := hBx.cell 2 _ rfl
  have c3 := hBx.cell 3 _ rfl
  have c4 := hBx.cell 4 _ rfl
  have c5 := hBx.cell 5 _ rfl
  have c6 := hBx.cell 6 _ rfl
  have c7 := hBx.cell 7 _ rfl
  have c8 := hBx.cell 8 _ rfl
  clear hpre hp0 hpn hps hwl hpl hsl hels hkid hb1 hBx hkt hone
  go_enter Tryz.func36, Tryz.ntmps36
  go_wp2
  rw [← hWW]
  clear hWW
  go_loopg [3, 4] ks.length (fun g ov iv wr => ∃ i : Nat, i ≤ ks.length ∧ g = ks.length - i ∧ iv = .int .i64 (i : Int) ∧ ov = .string (strOf (pre i)) ∧ Hid (Below W.heap.size W wr))
  case atStart => exact ⟨0, Nat.zero_le _, rfl, rfl, by rw [HP0.out]; rfl, Lib.hid (Below.refl _ _)⟩
  case round =>
    obtain ⟨i, hi, hg, rfl, rfl, HW⟩ := hrel
    clear c0 c1 c2 c3 c4 c5 c6 c7 c8
    have hx := HX.out.later HW.out
    have c0 := hx.cell 0 _ rfl
    have c1 := hx.cell 1 _ rfl
    have c2 := hx.cell 2 _ rfl
    have c3 := hx.cell 3 _ rfl
    have c4 := hx.cell 4 _ rfl
    have c5 := hx.cell 5 _ rfl
    have c6 := hx.cell 6 _ rfl
    have c7 := hx.cell 7 _ rfl
    have c8 := hx.cell 8 _ rfl
    clear hx
    have hBw := bstep HB.out HW.out
    by_cases hlt : i < ks.length
    · have g1 : (i : Int) < (ks.length : Int) := by omega
      obtain ⟨a, hCa, _, E⟩ := HE.out i hlt
      replace E := E.later hBw
      have hq := HQ.out ks[i] (List.getElem_mem hlt)
      have hps := HPS.out i hlt
      have hpl := HPLn.out i
      have hyl := HKT.out ks[i] (List.getElem_mem hlt)
      have hon := HON.out ks[i] (List.getElem_mem hlt)
      obtain ⟨t, ht⟩ : ∃ t, t = ks[i] := ⟨_, rfl⟩
      rw [← ht] at E hq hps hyl hon
      obtain ⟨X, hX⟩ : ∃ X, X = textN t.nd := ⟨_, rfl⟩
      rw [← hX] at hq hps hyl
      clear ht hX HWL HKT HON
      cases hCa
      obtain ⟨yk, ymn, ymx, ⟨⟨ykd, ybd, ybn, ycs, ynm'⟩, ysc⟩, ysk, yks⟩ := t
      obtain ⟨-, ⟨-, hsc9⟩, hsk9⟩ := hon
      obtain ⟨C9, cc9, hC9, -, -⟩ := sl_get (by decide) hsc9
      obtain ⟨K9, ck9, hK9, -, -⟩ := sl_get (by decide) hsk9
      simp only at hC9 hK9
      obtain ⟨n9, hn9⟩ : ∃ n, n = ycs.length := ⟨_, rfl⟩
      obtain ⟨m9, hm9⟩ : ∃ n, n = yks.length := ⟨_, rfl⟩
      rw [← hn9] at hC9
      rw [← hm9] at hK9
      clear hsc9 hsk9 hn9 hm9
      subst hC9
      subst hK9
      simp only [Tr.row] at E hq
      obtain ⟨ynm, hynm⟩ : ∃ s, s = strOf ynm' := ⟨_, rfl⟩
      rw [← hynm] at E hq
      rw [nd_mk] at hps
      change pre (i + 1) = if i = 0 then wrapT 3 yk X else pre i ++ ([32, 59, 32] ++ wrapT 3 yk X) at hps
      obtain ⟨Y, hYd⟩ : ∃ Y, Y = wrapT 3 yk X := ⟨_, rfl⟩
      rw [← hYd] at hps
      have e0 := E.at0 _ rfl
      have e1 := E.at1 1 _ (by decide) rfl
      have e2 := E.at1 2 _ (by decide) rfl
      have e3 := E.at1 3 _ (by decide) rfl
      have e4 := E.at1 4 _ (by decide) rfl
      have e5 := E.at1 5 _ (by decide) rfl
      have e6 := E.at1 6 _ (by decide) rfl
      have e7 := E.at1 7 _ (by decide) rfl
      have e8 := E.at1 8 _ (by decide) rfl
      have hwi : IntKind.i64.wrap ((i : Int) + 1) = (i : Int) + 1 := IntWalk.i64_in _ ⟨by omega, by omega⟩
      have hKid := Lib.hid (Blk.new wr [.int .i64 yk, .int .i64 ymn, .int .i64 ymx, .int .i64 ykd, .bool ybd, .int .u64 ybn, .slice C9 n9 cc9, .string ynm, .slice K9 m9 ck9] 28)
      unfold wrapT at hYd
      clear E hynm
      have HYd := hYd
      by_cases hi0 : i = 0
      · rw [if_pos hi0] at hps
        have hyl2 : Y.length ≤ 250002 := by
          rw [hYd]
          split
          · simp only [List.length_append, List.length_cons, List.length_nil]; omega
          · omega
        by_cases q4 : yk = 4
        · subst q4
          clear hYd
          have hy : Y = [40] ++ X ++ [41] := HYd.trans (if_pos (by omega))
          have p1 : ∀ w, (Op.stringOp .add ⟨#[40]⟩ (strOf X)).run Tryz.prog w = .ok (.string (strOf ([40] ++ X))) w := fun w => sum8 [40] X (by simp; omega) w
          have p2 : ∀ w, (Op.stringOp .add (strOf ([40] ++ X)) ⟨#[41]⟩).run Tryz.prog w = .ok (.string (strOf Y)) w := fun w => by rw [hy]; exact sum8 _ [41] (by simp; omega) w
          have p3 : ∀ w, (Op.stringOp .add ⟨#[]⟩ (strOf Y)).run Tryz.prog w = .ok (.string (strOf (pre (i + 1)))) w := fun w => by rw [hps]; exact sum8 [] Y (by simp; omega) w
          have hib : ((i : Int) == 0) = true := by rw [hi0]; rfl
          obtain ⟨XS, hXS⟩ : ∃ R, R = strOf X := ⟨_, rfl⟩
          obtain ⟨PN, hPN⟩ : ∃ R, R = strOf (pre (i + 1)) := ⟨_, rfl⟩
          rw [← hXS] at hq
          obtain ⟨X1, hX1⟩ : ∃ R, R = strOf ([40] ++ X) := ⟨_, rfl⟩
          obtain ⟨YS, hYS⟩ : ∃ R, R = strOf Y := ⟨_, rfl⟩
          rw [← hXS, ← hX1] at p1
          rw [← hX1, ← hYS] at p2
          rw [← hYS, ← hPN] at p3
          have hpe : strOf (pre i) = ⟨#[]⟩ := by rw [hi0, HP0.out]; rfl
          rw [hpe]
          clear hpe hi0
          have HPN := Lib.hid hPN
          clear hy hXS hPN hYS hps hpl hyl hX1 HE HQ HP0 HPS HPLn HYd
          go_wp2_with (go_at_call 36; refine (hq _ (bstep hBw (b1 _ _))).mono ?_; rintro e w3 ⟨rfl, hb3⟩; have hB3 := Lib.hid (bstep hBw (bstep (b1 _ _) hb3)); have hW3 := Lib.hid (bstep HW.out (bstep (b1 _ _) hb3)); have hK := hKid.out.later hb3; have hX3 := HX.out.later hW3.out; have y0 := hK.cell 0 _ rfl; have c0 := hX3.cell 0 _ rfl; have c8 := hX3.cell 8 _ rfl; clear hK hX3 hb3)
          go_roundg (ks.length - (i + 1))
          case rel => exact ⟨i + 1, by omega, rfl, by go_num, by rw [HPN.out], hW3⟩
          case measure => omega
        · by_cases q3 : yk = 3
          · subst q3
            clear hYd
            have hy : Y = [40] ++ X ++ [41] := HYd.trans (if_pos (by omega))
            have p1 : ∀ w, (Op.stringOp .add ⟨#[40]⟩ (strOf X)).run Tryz.prog w = .ok (.string (strOf ([40] ++ X))) w := fun w => sum8 [40] X (by simp; omega) w
            have p2 : ∀ w, (Op.stringOp .add (strOf ([40] ++ X)) ⟨#[41]⟩).run Tryz.prog w = .ok (.string (strOf Y)) w := fun w => by rw [hy]; exact sum8 _ [41] (by simp; omega) w
            have p3 : ∀ w, (Op.stringOp .add ⟨#[]⟩ (strOf Y)).run Tryz.prog w = .ok (.string (strOf (pre (i + 1)))) w := fun w => by rw [hps]; exact sum8 [] Y (by simp; omega) w
            have hib : ((i : Int) == 0) = true := by rw [hi0]; rfl
            obtain ⟨XS, hXS⟩ : ∃ R, R = strOf X := ⟨_, rfl⟩
            obtain ⟨PN, hPN⟩ : ∃ R, R = strOf (pre (i + 1)) := ⟨_, rfl⟩
            rw [← hXS] at hq
            obtain ⟨X1, hX1⟩ : ∃ R, R = strOf ([40] ++ X) := ⟨_, rfl⟩
            obtain ⟨YS, hYS⟩ : ∃ R, R = strOf Y := ⟨_, rfl⟩
            rw [← hXS, ← hX1] at p1
            rw [← hX1, ← hYS] at p2
            rw [← hYS, ← hPN] at p3
            have hpe : strOf (pre i) = ⟨#[]⟩ := by rw [hi0, HP0.out]; rfl
            rw [hpe]
            clear hpe hi0
            have HPN := Lib.hid hPN
            clear hy hXS hPN hYS hps hpl hyl hX1 HE HQ HP0 HPS HPLn HYd q4
            go_wp2_with (go_at_call 36; refine (hq _ (bstep hBw (b1 _ _))).mono ?_; rintro e w3 ⟨rfl, hb3⟩; have hB3 := Lib.hid (bstep hBw (bstep (b1 _ _) hb3)); have hW3 := Lib.hid (bstep HW.out (bstep (b1 _ _) hb3)); have hK := hKid.out.later hb3; have hX3 := HX.out.later hW3.out; have y0 := hK.cell 0 _ rfl; have c0 := hX3.cell 0 _ rfl; have c8 := hX3.cell 8 _ rfl; clear hK hX3 hb3)
            go_roundg (ks.length - (i + 1))
            case rel => exact ⟨i + 1, by omega, rfl, by go_num, by rw [HPN.out], hW3⟩
            case measure => omega
          · clear hYd
            have hy : Y = X := HYd.trans (if_neg (by omega))
            have k4 : (yk == 4) = false := by rw [beq_eq_false_iff_ne]; exact q4
            have k4b : ¬ yk = 4 := q4
            have k3 : (yk == 3) = false := by rw [beq_eq_false_iff_ne]; exact q3
            have k3b : ¬ yk = 3 := q3
            have p3 : ∀ w, (Op.stringOp .add ⟨#[]⟩ (strOf Y)).run Tryz.prog w = .ok (.string (strOf (pre (i + 1)))) w := fun w => by rw [hps]; exact sum8 [] Y (by simp; omega) w
            have hib : ((i : Int) == 0) = true := by rw [hi0]; rfl
            obtain ⟨XS, hXS⟩ : ∃ R, R = strOf X := ⟨_, rfl⟩
            obtain ⟨PN, hPN⟩ : ∃ R, R = strOf (pre (i + 1)) := ⟨_, rfl⟩
            rw [← hXS] at hq
            obtain ⟨YS, hYS⟩ : ∃ R, R = strOf Y := ⟨_, rfl⟩
            have hYX : YS = XS := by rw [hYS, hXS, hy]
            rw [← hYS, ← hPN] at p3
            rw [hYX] at p3
            have hpe : strOf (pre i) = ⟨#[]⟩ := by rw [hi0, HP0.out]; rfl
            rw [hpe]
            clear hpe hi0
            have HPN := Lib.hid hPN
            clear hy hXS hPN hYS hps hpl hyl hYX HE HQ HP0 HPS HPLn HYd q4 q3
            go_wp2_with (go_at_call 36; refine (hq _ (bstep hBw (b1 _ _))).mono ?_; rintro e w3 ⟨rfl, hb3⟩; have hB3 := Lib.hid (bstep hBw (bstep (b1 _ _) hb3)); have hW3 := Lib.hid (bstep HW.out (bstep (b1 _ _) hb3)); have hK := hKid.out.later hb3; have hX3 := HX.out.later hW3.out; have y0 := hK.cell 0 _ rfl; have c0 := hX3.cell 0 _ rfl; have c8 := hX3.cell 8 _ rfl; clear hK hX3 hb3)
            go_roundg (ks.length - (i + 1))
            case rel => exact ⟨i + 1, by omega, rfl, by go_num, by rw [HPN.out], hW3⟩
            case measure => omega
      · rw [if_neg hi0] at hps
        have hyl2 : Y.length ≤ 250002 := by
          rw [hYd]
          split
          · simp only [List.length_append, List.length_cons, List.length_nil]; omega
          · omega
        by_cases q4 : yk = 4
        · subst q4
          clear hYd
          have hy : Y = [40] ++ X ++ [41] := HYd.trans (if_pos (by omega))
          have p1 : ∀ w, (Op.stringOp .add ⟨#[40]⟩ (strOf X)).run Tryz.prog w = .ok (.string (strOf ([40] ++ X))) w := fun w => sum8 [40] X (by simp; omega) w
          have p2 : ∀ w, (Op.stringOp .add (strOf ([40] ++ X)) ⟨#[41]⟩).run Tryz.prog w = .ok (.string (strOf Y)) w := fun w => by rw [hy]; exact sum8 _ [41] (by simp; omega) w
          have p3 : ∀ w, (Op.stringOp .add (strOf (pre i)) ⟨#[32, 59, 32]⟩).run Tryz.prog w = .ok (.string (strOf (pre i ++ [32, 59, 32]))) w := fun w => sum8 _ [32, 59, 32] (by simp; omega) w
          have p4 : ∀ w, (Op.stringOp .add (strOf (pre i ++ [32, 59, 32])) (strOf Y)).run Tryz.prog w = .ok (.string (strOf (pre (i + 1)))) w := fun w => by
            rw [hps, show pre i ++ ([32, 59, 32] ++ Y) = (pre i ++ [32, 59, 32]) ++ Y by simp]
            exact sum8 _ _ (by simp; omega) w
          have hib : ((i : Int) == 0) = false := by rw [beq_eq_false_iff_ne]; omega
          obtain ⟨XS, hXS⟩ : ∃ R, R = strOf X := ⟨_, rfl⟩
          obtain ⟨PN, hPN⟩ : ∃ R, R = strOf (pre (i + 1)) := ⟨_, rfl⟩
          rw [← hXS] at hq
          obtain ⟨X1, hX1⟩ : ∃ R, R = strOf ([40] ++ X) := ⟨_, rfl⟩
          obtain ⟨YS, hYS⟩ : ∃ R, R = strOf Y := ⟨_, rfl⟩
          rw [← hXS, ← hX1] at p1
          rw [← hX1, ← hYS] at p2
          obtain ⟨P0, hP0⟩ : ∃ R, R = strOf (pre i) := ⟨_, rfl⟩
          obtain ⟨P1, hP1⟩ : ∃ R, R = strOf (pre i ++ [32, 59, 32]) := ⟨_, rfl⟩
          rw [← hP0, ← hP1] at p3
          rw [← hP1, ← hYS, ← hPN] at p4
          rw [← hP0]
          have HPN := Lib.hid hPN
          clear hy hXS hPN hYS hps hpl hyl hX1 hP0 hP1 HE HQ HP0 HPS HPLn HYd
          go_wp2_with (go_at_call 36; refine (hq _ (bstep hBw (b1 _ _))).mono ?_; rintro e w3 ⟨rfl, hb3⟩; have hB3 := Lib.hid (bstep hBw (bstep (b1 _ _) hb3)); have hW3 := Lib.hid (bstep HW.out (bstep (b1 _ _) hb3)); have hK := hKid.out.later hb3; have hX3 := HX.out.later hW3.out; have y0 := hK.cell 0 _ rfl; have c0 := hX3.cell 0 _ rfl; have c8 := hX3.cell 8 _ rfl; clear hK hX3 hb3)
          go_roundg (ks.length - (i + 1))
          case rel => exact ⟨i + 1, by omega, rfl, by go_num, by rw [HPN.out], hW3⟩
          case measure => omega
        · by_cases q3 : yk = 3
          · subst q3
            clear hYd
            have hy : Y = [40] ++ X ++ [41] := HYd.trans (if_pos (by omega))
            have p1 : ∀ w, (Op.stringOp .add ⟨#[40]⟩ (strOf X)).run Tryz.prog w = .ok (.string (strOf ([40] ++ X))) w := fun w => sum8 [40] X (by simp; omega) w
            have p2 : ∀ w, (Op.stringOp .add (strOf ([40] ++ X)) ⟨#[41]⟩).run Tryz.prog w = .ok (.string (strOf Y)) w := fun w => by rw [hy]; exact sum8 _ [41] (by simp; omega) w
            have p3 : ∀ w, (Op.stringOp .add (strOf (pre i)) ⟨#[32, 59, 32]⟩).run Tryz.prog w = .ok (.string (strOf (pre i ++ [32, 59, 32]))) w := fun w => sum8 _ [32, 59, 32] (by simp; omega) w
            have p4 : ∀ w, (Op.stringOp .add (strOf (pre i ++ [32, 59, 32])) (strOf Y)).run Tryz.prog w = .ok (.string (strOf (pre (i + 1)))) w := fun w => by
              rw [hps, show pre i ++ ([32, 59, 32] ++ Y) = (pre i ++ [32, 59, 32]) ++ Y by simp]
              exact sum8 _ _ (by simp; omega) w
            have hib : ((i : Int) == 0) = false := by rw [beq_eq_false_iff_ne]; omega
            obtain ⟨XS, hXS⟩ : ∃ R, R = strOf X := ⟨_, rfl⟩
            obtain ⟨PN, hPN⟩ : ∃ R, R = strOf (pre (i + 1)) := ⟨_, rfl⟩
            rw [← hXS] at hq
            obtain ⟨X1, hX1⟩ : ∃ R, R = strOf ([40] ++ X) := ⟨_, rfl⟩
            obtain ⟨YS, hYS⟩ : ∃ R, R = strOf Y := ⟨_, rfl⟩
            rw [← hXS, ← hX1] at p1
            rw [← hX1, ← hYS] at p2
            obtain ⟨P0, hP0⟩ : ∃ R, R = strOf (pre i) := ⟨_, rfl⟩
            obtain ⟨P1, hP1⟩ : ∃ R, R = strOf (pre i ++ [32, 59, 32]) := ⟨_, rfl⟩
            rw [← hP0, ← hP1] at p3
            rw [← hP1, ← hYS, ← hPN] at p4
            rw [← hP0]
            have HPN := Lib.hid hPN
            clear hy hXS hPN hYS hps hpl hyl hX1 hP0 hP1 HE HQ HP0 HPS HPLn HYd q4
            go_wp2_with (go_at_call 36; refine (hq _ (bstep hBw (b1 _ _))).mono ?_; rintro e w3 ⟨rfl, hb3⟩; have hB3 := Lib.hid (bstep hBw (bstep (b1 _ _) hb3)); have hW3 := Lib.hid (bstep HW.out (bstep (b1 _ _) hb3)); have hK := hKid.out.later hb3; have hX3 := HX.out.later hW3.out; have y0 := hK.cell 0 _ rfl; have c0 := hX3.cell 0 _ rfl; have c8 := hX3.cell 8 _ rfl; clear hK hX3 hb3)
            go_roundg (ks.length - (i + 1))
            case rel => exact ⟨i + 1, by omega, rfl, by go_num, by rw [HPN.out], hW3⟩
            case measure => omega
          · clear hYd
            have hy : Y = X := HYd.trans (if_neg (by omega))
            have k4 : (yk == 4) = false := by rw [beq_eq_false_iff_ne]; exact q4
            have k4b : ¬ yk = 4 := q4
            have k3 : (yk == 3) = false := by rw [beq_eq_false_iff_ne]; exact q3
            have k3b : ¬ yk = 3 := q3
            have p3 : ∀ w, (Op.stringOp .add (strOf (pre i)) ⟨#[32, 59, 32]⟩).run Tryz.prog w = .ok (.string (strOf (pre i ++ [32, 59, 32]))) w := fun w => sum8 _ [32, 59, 32] (by simp; omega) w
            have p4 : ∀ w, (Op.stringOp .add (strOf (pre i ++ [32, 59, 32])) (strOf Y)).run Tryz.prog w = .ok (.string (strOf (pre (i + 1)))) w := fun w => by
              rw [hps, show pre i ++ ([32, 59, 32] ++ Y) = (pre i ++ [32, 59, 32]) ++ Y by simp]
              exact sum8 _ _ (by simp; omega) w
            have hib : ((i : Int) == 0) = false := by rw [beq_eq_false_iff_ne]; omega
            obtain ⟨XS, hXS⟩ : ∃ R, R = strOf X := ⟨_, rfl⟩
            obtain ⟨PN, hPN⟩ : ∃ R, R = strOf (pre (i + 1)) := ⟨_, rfl⟩
            rw [← hXS] at hq
            obtain ⟨YS, hYS⟩ : ∃ R, R = strOf Y := ⟨_, rfl⟩
            have hYX : YS = XS := by rw [hYS, hXS, hy]
            obtain ⟨P0, hP0⟩ : ∃ R, R = strOf (pre i) := ⟨_, rfl⟩
            obtain ⟨P1, hP1⟩ : ∃ R, R = strOf (pre i ++ [32, 59, 32]) := ⟨_, rfl⟩
            rw [← hP0, ← hP1] at p3
            rw [← hP1, ← hYS, ← hPN] at p4
            rw [hYX] at p4
            rw [← hP0]
            have HPN := Lib.hid hPN
            clear hy hXS hPN hYS hps hpl hyl hYX hP0 hP1 HE HQ HP0 HPS HPLn HYd q4 q3
            go_wp2_with (go_at_call 36; refine (hq _ (bstep hBw (b1 _ _))).mono ?_; rintro e w3 ⟨rfl, hb3⟩; have hB3 := Lib.hid (bstep hBw (bstep (b1 _ _) hb3)); have hW3 := Lib.hid (bstep HW.out (bstep (b1 _ _) hb3)); have hK := hKid.out.later hb3; have hX3 := HX.out.later hW3.out; have y0 := hK.cell 0 _ rfl; have c0 := hX3.cell 0 _ rfl; have c8 := hX3.cell 8 _ rfl; clear hK hX3 hb3)
            go_roundg (ks.length - (i + 1))
            case rel => exact ⟨i + 1, by omega, rfl, by go_num, by rw [HPN.out], hW3⟩
            case measure => omega
    · have g1 : ¬ (i : Int) < (ks.length : Int) := by omega
      have hil : i = ks.length := by omega
      subst hil
      clear HE HQ HP0 HPS HPLn HWL HKT HON
      go_wp2
      go_ret
      exact ⟨rfl, hBw⟩
set_option maxRecDepth 100000 in
set_option maxHeartbeats 16000000 in
theorem rtext_4 (mn mx kd : Int) (bd : Bool) (bn : Int) (sc : Value) (nm : ByteArray) (B : Option Addr) (e9 : Nat) (ks : List Tr) (w : World) (hsl : Sl w 9 ks.length (.slice B ks.length e9) (ks.flatMap Tr.row)) (hkl : ks.length ≤ 250) (hkt : ∀ t ∈ ks, (textN t.nd).length ≤ 250000) (hone : ∀ t ∈ ks, OneT w t)
    (hkid : ∀ t ∈ ks, ∀ w1, Below w.heap.size w w1 → Calls Tryz.prog 36 #[.agg t.row.toArray] w1 fun e w' => e = .returned (.string (strOf (textN t.nd))) ∧ Below w1.heap.size w1 w') :
    Calls Tryz.prog 36 #[.agg #[.int .i64 4, .int .i64 mn, .int .i64 mx, .int .i64 kd, .bool bd, .int .u64 bn, sc, .string nm, .slice B ks.length e9]] w fun e w' => e = .returned (.string (strOf (sepL [32, 124, 32] (ks.map fun t => wrapT 4 t.nd.kind (textN t.nd))))) ∧ Below w.heap.size w w' := by
  obtain ⟨pre, hpre⟩ : ∃ pre : Nat → List UInt8, pre = fun i => sepL [32, 124, 32] ((ks.take i).map fun t => wrapT 4 t.nd.kind (textN t.nd)) := ⟨_, rfl⟩
  have hp0 : pre 0 = [] := by rw [hpre]; rfl
  have hpn : pre ks.length = sepL [32, 124, 32] (ks.map fun t => wrapT 4 t.nd.kind (textN t.nd)) := by rw [hpre]; show sepL _ ((ks.take ks.length).map _) = _; rw [List.take_of_length_le (Nat.le_refl _)]
  have hps : ∀ i (h : i < ks.length), pre (i + 1) = if i = 0 then wrapT 4 (ks[i]).nd.kind (textN (ks[i]).nd) else pre i ++ ([32, 124, 32] ++ wrapT 4 (ks[i]).nd.kind (textN (ks[i]).nd)) := fun i h => by
    rw [hpre]
    show sepL _ ((ks.take (i + 1)).map _) = _
    rw [take_snoc ks i h, List.map_append, List.map_cons, List.map_nil, sep_snoc]
    simp only [List.map_eq_nil_iff, take_nil_len ks i h]
  have hwl : ∀ t ∈ ks, (wrapT 4 t.nd.kind (textN t.nd)).length ≤ 250002 := fun t ht => by
    have := hkt t ht
    unfold wrapT
    split
    · simp only [List.length_append, List.length_cons, List.length_nil]; omega
    · omega
  have hpl : ∀ i, (pre i).length ≤ 63000000 := fun i => by
    rw [hpre]
    have h := sepK [32, 124, 32] 250002 ((ks.take i).map fun t => wrapT 4 t.nd.kind (textN t.nd)) (fun y hy => by
      obtain ⟨u, hu, rfl⟩ := List.mem_map.1 hy
      exact hwl u (List.mem_of_mem_take hu))
    rw [List.length_map, List.length_take] at h
    have h2 : (250002 + [32, 124, 32].length) * min i ks.length ≤ 250005 * 250 := Nat.mul_le_mul_left 250005 (by omega)
    show (sepL _ _).length ≤ _
    omega
  rw [← hpn]
  obtain ⟨_, _, hAA, hm, hels⟩ := sl_els (by decide) row_len hsl
  obtain ⟨W, hWW⟩ : ∃ W, W = w.alloc (.cells #[.int .i64 4, .int .i64 mn, .int .i64 mx, .int .i64 kd, .bool bd, .int .u64 bn, sc, .string nm, .slice B ks.length e9] 28) := ⟨_, rfl⟩
  have hb1 : Below w.heap.size w W := hWW ▸ b1 _ _
  have hBx : Blk W w.heap.size [.int .i64 4, .int .i64 mn, .int .i64 mx, .int .i64 kd, .bool bd, .int .u64 bn, sc, .string nm, .slice B ks.length e9] := hWW ▸ Blk.new w _ _
  have HX := Lib.hid hBx
  have HE := Lib.hid hels
  have HQ := Lib.hid hkid
  have HP0 := Lib.hid hp0
  have HPS := Lib.hid hps
  have HPLn := Lib.hid hpl
  have HWL := Lib.hid hwl
  have HB := Lib.hid hb1
  have HKT := Lib.hid hkt
  have HON := Lib.hid hone
  cases hAA
  have c0 := hBx.cell 0 _ rfl
  have c1 := hBx.cell 1 _ rfl
  have c2 := hBx.cell 2 _ rfl
  have c3 := hBx.cell 3 _ rfl
  have c4 := hBx.cell 4 _ rfl
  have c5 := hBx.cell 5 _ rfl
  have c6 := hBx.cell 6 _ rfl
  have c7 := hBx.cell 7 _ rfl
  have c8 := hBx.cell 8 _ rfl
  clear hpre hp0 hpn hps hwl hpl hsl hels hkid hb1 hBx hkt hone
  go_enter Tryz.func36, Tryz.ntmps36
  go_wp2
  rw [← hWW]
  clear hWW
  go_loopg [3, 4] ks.length (fun g ov iv wr => ∃ i : Nat, i ≤ ks.length ∧ g = ks.length - i ∧ iv = .int .i64 (i : Int) ∧ ov = .string (strOf (pre i)) ∧ Hid (Below W.heap.size W wr))
  case atStart => exact ⟨0, Nat.zero_le _, rfl, rfl, by rw [HP0.out]; rfl, Lib.hid (Below.refl _ _)⟩
  case round =>
    obtain ⟨i, hi, hg, rfl, rfl, HW⟩ := hrel
    clear c0 c1 c2 c3 c4 c5 c6 c7 c8
    have hx := HX.out.later HW.out
    have c0 := hx.cell 0 _ rfl
    have c1 := hx.cell 1 _ rfl
    have c2 := hx.cell 2 _ rfl
    have c3 := hx.cell 3 _ rfl
    have c4 := hx.cell 4 _ rfl
    have c5 := hx.cell 5 _ rfl
    have c6 := hx.cell 6 _ rfl
    have c7 := hx.cell 7 _ rfl
    have c8 := hx.cell 8 _ rfl
    clear hx
    have hBw := bstep HB.out HW.out
    by_cases hlt : i < ks.length
    · have g1 : (i : Int) < (ks.length : Int) := by omega
      obtain ⟨a, hCa, _, E⟩ := HE.out i hlt
      replace E := E.later hBw
      have hq := HQ.out ks[i] (List.getElem_mem hlt)
      have hps := HPS.out i hlt
      have hpl := HPLn.out i
      have hyl := HKT.out ks[i] (List.getElem_mem hlt)
      have hon := HON.out ks[i] (List.getElem_mem hlt)
      obtain ⟨t, ht⟩ : ∃ t, t = ks[i] := ⟨_, rfl⟩
      rw [← ht] at E hq hps hyl hon
      obtain ⟨X, hX⟩ : ∃ X, X = textN t.nd := ⟨_, rfl⟩
      rw [← hX] at hq hps hyl
      clear ht hX HWL HKT HON
      cases hCa
      obtain ⟨yk, ymn, ymx, ⟨⟨ykd, ybd, ybn, ycs, ynm'⟩, ysc⟩, ysk, yks⟩ := t
      obtain ⟨-, ⟨-, hsc9⟩, hsk9⟩ := hon
      obtain ⟨C9, cc9, hC9, -, -⟩ := sl_get (by decide) hsc9
      obtain ⟨K9, ck9, hK9, -, -⟩ := sl_get (by decide) hsk9
      simp only at hC9 hK9
      obtain ⟨n9, hn9⟩ : ∃ n, n = ycs.length := ⟨_, rfl⟩
      obtain ⟨m9, hm9⟩ : ∃ n, n = yks.length := ⟨_, rfl⟩
      rw [← hn9] at hC9
      rw [← hm9] at hK9
      clear hsc9 hsk9 hn9 hm9
      subst hC9
      subst hK9
      simp only [Tr.row] at E hq
      obtain ⟨ynm, hynm⟩ : ∃ s, s = strOf ynm' := ⟨_, rfl⟩
      rw [← hynm] at E hq
      rw [nd_mk] at hps
      change pre (i + 1) = if i = 0 then wrapT 4 yk X else pre i ++ ([32, 124, 32] ++ wrapT 4 yk X) at hps
      obtain ⟨Y, hYd⟩ : ∃ Y, Y = wrapT 4 yk X := ⟨_, rfl⟩
      rw [← hYd] at hps
      have e0 := E.at0 _ rfl
      have e1 := E.at1 1 _ (by decide) rfl
      have e2 := E.at1 2 _ (by decide) rfl
      have e3 := E.at1 3 _ (by decide) rfl
      have e4 := E.at1 4 _ (by decide) rfl
      have e5 := E.at1 5 _ (by decide) rfl
      have e6 := E.at1 6 _ (by decide) rfl
      have e7 := E.at1 7 _ (by decide) rfl
      have e8 := E.at1 8 _ (by decide) rfl
      have hwi : IntKind.i64.wrap ((i : Int) + 1) = (i : Int) + 1 := IntWalk.i64_in _ ⟨by omega, by omega⟩
      have hKid := Lib.hid (Blk.new wr [.int .i64 yk, .int .i64 ymn, .int .i64 ymx, .int .i64 ykd, .bool ybd, .int .u64 ybn, .slice C9 n9 cc9, .string ynm, .slice K9 m9 ck9] 28)
      unfold wrapT at hYd
      clear E hynm
      have HYd := hYd
      by_cases hi0 : i = 0
      · rw [if_pos hi0] at hps
        have hyl2 : Y.length ≤ 250002 := by
          rw [hYd]
          split
          · simp only [List.length_append, List.length_cons, List.length_nil]; omega
          · omega
        by_cases q4 : yk = 4
        · subst q4
          clear hYd
          have hy : Y = [40] ++ X ++ [41] := HYd.trans (if_pos (by omega))
          have p1 : ∀ w, (Op.stringOp .add ⟨#[40]⟩ (strOf X)).run Tryz.prog w = .ok (.string (strOf ([40] ++ X))) w := fun w => sum8 [40] X (by simp; omega) w
          have p2 : ∀ w, (Op.stringOp .add (strOf ([40] ++ X)) ⟨#[41]⟩).run Tryz.prog w = .ok (.string (strOf Y)) w := fun w => by rw [hy]; exact sum8 _ [41] (by simp; omega) w
          have p3 : ∀ w, (Op.stringOp .add ⟨#[]⟩ (strOf Y)).run Tryz.prog w = .ok (.string (strOf (pre (i + 1)))) w := fun w => by rw [hps]; exact sum8 [] Y (by simp; omega) w
          have hib : ((i : Int) == 0) = true := by rw [hi0]; rfl
          obtain ⟨XS, hXS⟩ : ∃ R, R = strOf X := ⟨_, rfl⟩
          obtain ⟨PN, hPN⟩ : ∃ R, R = strOf (pre (i + 1)) := ⟨_, rfl⟩
          rw [← hXS] at hq
          obtain ⟨X1, hX1⟩ : ∃ R, R = strOf ([40] ++ X) := ⟨_, rfl⟩
          obtain ⟨YS, hYS⟩ : ∃ R, R = strOf Y := ⟨_, rfl⟩
          rw [← hXS, ← hX1] at p1
          rw [← hX1, ← hYS] at p2
          rw [← hYS, ← hPN] at p3
          have hpe : strOf (pre i) = ⟨#[]⟩ := by rw [hi0, HP0.out]; rfl
          rw [hpe]
          clear hpe hi0
          have HPN := Lib.hid hPN
          clear hy hXS hPN hYS hps hpl hyl hX1 HE HQ HP0 HPS HPLn HYd
          go_wp2_with (go_at_call 36; refine (hq _ (bstep hBw (b1 _ _))).mono ?_; rintro e w3 ⟨rfl, hb3⟩; have hB3 := Lib.hid (bstep hBw (bstep (b1 _ _) hb3)); have hW3 := Lib.hid (bstep HW.out (bstep (b1 _ _) hb3)); have hK := hKid.out.later hb3; have hX3 := HX.out.later hW3.out; have y0 := hK.cell 0 _ rfl; have c0 := hX3.cell 0 _ rfl; have c8 := hX3.cell 8 _ rfl; clear hK hX3 hb3)
          go_roundg (ks.length - (i + 1))
          case rel => exact ⟨i + 1, by omega, rfl, by go_num, by rw [HPN.out], hW3⟩
          case measure => omega
        · by_cases q3 : yk = 3
          · subst q3
            clear hYd
            have hy : Y = X := HYd.trans (if_neg (by omega))
            have p3 : ∀ w, (Op.stringOp .add ⟨#[]⟩ (strOf Y)).run Tryz.prog w = .ok (.string (strOf (pre (i + 1)))) w := fun w => by rw [hps]; exact sum8 [] Y (by simp; omega) w
            have hib : ((i : Int) == 0) = true := by rw [hi0]; rfl
            obtain ⟨XS, hXS⟩ : ∃ R, R = strOf X := ⟨_, rfl⟩
            obtain ⟨PN, hPN⟩ : ∃ R, R = strOf (pre (i + 1)) := ⟨_, rfl⟩
            rw [← hXS] at hq
            obtain ⟨YS, hYS⟩ : ∃ R, R = strOf Y := ⟨_, rfl⟩
            have hYX : YS = XS := by rw [hYS, hXS, hy]
            rw [← hYS, ← hPN] at p3
            rw [hYX] at p3
            have hpe : strOf (pre i) = ⟨#[]⟩ := by rw [hi0, HP0.out]; rfl
            rw [hpe]
            clear hpe hi0
            have HPN := Lib.hid hPN
            clear hy hXS hPN hYS hps hpl hyl hYX HE HQ HP0 HPS HPLn HYd q4
            go_wp2_with (go_at_call 36; refine (hq _ (bstep hBw (b1 _ _))).mono ?_; rintro e w3 ⟨rfl, hb3⟩; have hB3 := Lib.hid (bstep hBw (bstep (b1 _ _) hb3)); have hW3 := Lib.hid (bstep HW.out (bstep (b1 _ _) hb3)); have hK := hKid.out.later hb3; have hX3 := HX.out.later hW3.out; have y0 := hK.cell 0 _ rfl; have c0 := hX3.cell 0 _ rfl; have c8 := hX3.cell 8 _ rfl; clear hK hX3 hb3)
            go_roundg (ks.length - (i + 1))
            case rel => exact ⟨i + 1, by omega, rfl, by go_num, by rw [HPN.out], hW3⟩
            case measure => omega
          · clear hYd
            have hy : Y = X := HYd.trans (if_neg (by omega))
            have k4 : (yk == 4) = false := by rw [beq_eq_false_iff_ne]; exact q4
            have k4b : ¬ yk = 4 := q4
            have k3 : (yk == 3) = false := by rw [beq_eq_false_iff_ne]; exact q3
            have k3b : ¬ yk = 3 := q3
            have p3 : ∀ w, (Op.stringOp .add ⟨#[]⟩ (strOf Y)).run Tryz.prog w = .ok (.string (strOf (pre (i + 1)))) w := fun w => by rw [hps]; exact sum8 [] Y (by simp; omega) w
            have hib : ((i : Int) == 0) = true := by rw [hi0]; rfl
            obtain ⟨XS, hXS⟩ : ∃ R, R = strOf X := ⟨_, rfl⟩
            obtain ⟨PN, hPN⟩ : ∃ R, R = strOf (pre (i + 1)) := ⟨_, rfl⟩
            rw [← hXS] at hq
            obtain ⟨YS, hYS⟩ : ∃ R, R = strOf Y := ⟨_, rfl⟩
            have hYX : YS = XS := by rw [hYS, hXS, hy]
            rw [← hYS, ← hPN] at p3
            rw [hYX] at p3
            have hpe : strOf (pre i) = ⟨#[]⟩ := by rw [hi0, HP0.out]; rfl
            rw [hpe]
            clear hpe hi0
            have HPN := Lib.hid hPN
            clear hy hXS hPN hYS hps hpl hyl hYX HE HQ HP0 HPS HPLn HYd q4 q3
            go_wp2_with (go_at_call 36; refine (hq _ (bstep hBw (b1 _ _))).mono ?_; rintro e w3 ⟨rfl, hb3⟩; have hB3 := Lib.hid (bstep hBw (bstep (b1 _ _) hb3)); have hW3 := Lib.hid (bstep HW.out (bstep (b1 _ _) hb3)); have hK := hKid.out.later hb3; have hX3 := HX.out.later hW3.out; have y0 := hK.cell 0 _ rfl; have c0 := hX3.cell 0 _ rfl; have c8 := hX3.cell 8 _ rfl; clear hK hX3 hb3)
            go_roundg (ks.length - (i + 1))
            case rel => exact ⟨i + 1, by omega, rfl, by go_num, by rw [HPN.out], hW3⟩
            case measure => omega
      · rw [if_neg hi0] at hps
        have hyl2 : Y.length ≤ 250002 := by
          rw [hYd]
          split
          · simp only [List.length_append, List.length_cons, List.length_nil]; omega
          · omega
        by_cases q4 : yk = 4
        · subst q4
          clear hYd
          have hy : Y = [40] ++ X ++ [41] := HYd.trans (if_pos (by omega))
          have p1 : ∀ w, (Op.stringOp .add ⟨#[40]⟩ (strOf X)).run Tryz.prog w = .ok (.string (strOf ([40] ++ X))) w := fun w => sum8 [40] X (by simp; omega) w
          have p2 : ∀ w, (Op.stringOp .add (strOf ([40] ++ X)) ⟨#[41]⟩).run Tryz.prog w = .ok (.string (strOf Y)) w := fun w => by rw [hy]; exact sum8 _ [41] (by simp; omega) w
          have p3 : ∀ w, (Op.stringOp .add (strOf (pre i)) ⟨#[32, 124, 32]⟩).run Tryz.prog w = .ok (.string (strOf (pre i ++ [32, 124, 32]))) w := fun w => sum8 _ [32, 124, 32] (by simp; omega) w
          have p4 : ∀ w, (Op.stringOp .add (strOf (pre i ++ [32, 124, 32])) (strOf Y)).run Tryz.prog w = .ok (.string (strOf (pre (i + 1)))) w := fun w => by
            rw [hps, show pre i ++ ([32, 124, 32] ++ Y) = (pre i ++ [32, 124, 32]) ++ Y by simp]
            exact sum8 _ _ (by simp; omega) w
          have hib : ((i : Int) == 0) = false := by rw [beq_eq_false_iff_ne]; omega
          obtain ⟨XS, hXS⟩ : ∃ R, R = strOf X := ⟨_, rfl⟩
          obtain ⟨PN, hPN⟩ : ∃ R, R = strOf (pre (i + 1)) := ⟨_, rfl⟩
          rw [← hXS] at hq
          obtain ⟨X1, hX1⟩ : ∃ R, R = strOf ([40] ++ X) := ⟨_, rfl⟩
          obtain ⟨YS, hYS⟩ : ∃ R, R = strOf Y := ⟨_, rfl⟩
          rw [← hXS, ← hX1] at p1
          rw [← hX1, ← hYS] at p2
          obtain ⟨P0, hP0⟩ : ∃ R, R = strOf (pre i) := ⟨_, rfl⟩
          obtain ⟨P1, hP1⟩ : ∃ R, R = strOf (pre i ++ [32, 124, 32]) := ⟨_, rfl⟩
          rw [← hP0, ← hP1] at p3
          rw [← hP1, ← hYS, ← hPN] at p4
          rw [← hP0]
          have HPN := Lib.hid hPN
          clear hy hXS hPN hYS hps hpl hyl hX1 hP0 hP1 HE HQ HP0 HPS HPLn HYd
          go_wp2_with (go_at_call 36; refine (hq _ (bstep hBw (b1 _ _))).mono ?_; rintro e w3 ⟨rfl, hb3⟩; have hB3 := Lib.hid (bstep hBw (bstep (b1 _ _) hb3)); have hW3 := Lib.hid (bstep HW.out (bstep (b1 _ _) hb3)); have hK := hKid.out.later hb3; have hX3 := HX.out.later hW3.out; have y0 := hK.cell 0 _ rfl; have c0 := hX3.cell 0 _ rfl; have c8 := hX3.cell 8 _ rfl; clear hK hX3 hb3)
          go_roundg (ks.length - (i + 1))
          case rel => exact ⟨i + 1, by omega, rfl, by go_num, by rw [HPN.out], hW3⟩
          case measure => omega
        · by_cases q3 : yk = 3
          · subst q3
            clear hYd
            have hy : Y = X := HYd.trans (if_neg (by omega))
            have p3 : ∀ w, (Op.stringOp .add (strOf (pre i)) ⟨#[32, 124, 32]⟩).run Tryz.prog w = .ok (.string (strOf (pre i ++ [32, 124, 32]))) w := fun w => sum8 _ [32, 124, 32] (by simp; omega) w
            have p4 : ∀ w, (Op.stringOp .add (strOf (pre i ++ [32, 124, 32])) (strOf Y)).run Tryz.prog w = .ok (.string (strOf (pre (i + 1)))) w := fun w => by
              rw [hps, show pre i ++ ([32, 124, 32] ++ Y) = (pre i ++ [32, 124, 32]) ++ Y by simp]
              exact sum8 _ _ (by simp; omega) w
            have hib : ((i : Int) == 0) = false := by rw [beq_eq_false_iff_ne]; omega
            obtain ⟨XS, hXS⟩ : ∃ R, R = strOf X := ⟨_, rfl⟩
            obtain ⟨PN, hPN⟩ : ∃ R, R = strOf (pre (i + 1)) := ⟨_, rfl⟩
            rw [← hXS] at hq
            obtain ⟨YS, hYS⟩ : ∃ R, R = strOf Y := ⟨_, rfl⟩
            have hYX : YS = XS := by rw [hYS, hXS, hy]
            obtain ⟨P0, hP0⟩ : ∃ R, R = strOf (pre i) := ⟨_, rfl⟩
            obtain ⟨P1, hP1⟩ : ∃ R, R = strOf (pre i ++ [32, 124, 32]) := ⟨_, rfl⟩
            rw [← hP0, ← hP1] at p3
            rw [← hP1, ← hYS, ← hPN] at p4
            rw [hYX] at p4
            rw [← hP0]
            have HPN := Lib.hid hPN
            clear hy hXS hPN hYS hps hpl hyl hYX hP0 hP1 HE HQ HP0 HPS HPLn HYd q4
            go_wp2_with (go_at_call 36; refine (hq _ (bstep hBw (b1 _ _))).mono ?_; rintro e w3 ⟨rfl, hb3⟩; have hB3 := Lib.hid (bstep hBw (bstep (b1 _ _) hb3)); have hW3 := Lib.hid (bstep HW.out (bstep (b1 _ _) hb3)); have hK := hKid.out.later hb3; have hX3 := HX.out.later hW3.out; have y0 := hK.cell 0 _ rfl; have c0 := hX3.cell 0 _ rfl; have c8 := hX3.cell 8 _ rfl; clear hK hX3 hb3)
            go_roundg (ks.length - (i + 1))
            case rel => exact ⟨i + 1, by omega, rfl, by go_num, by rw [HPN.out], hW3⟩
            case measure => omega
          · clear hYd
            have hy : Y = X := HYd.trans (if_neg (by omega))
            have k4 : (yk == 4) = false := by rw [beq_eq_false_iff_ne]; exact q4
            have k4b : ¬ yk = 4 := q4
            have k3 : (yk == 3) = false := by rw [beq_eq_false_iff_ne]; exact q3
            have k3b : ¬ yk = 3 := q3
            have p3 : ∀ w, (Op.stringOp .add (strOf (pre i)) ⟨#[32, 124, 32]⟩).run Tryz.prog w = .ok (.string (strOf (pre i ++ [32, 124, 32]))) w := fun w => sum8 _ [32, 124, 32] (by simp; omega) w
            have p4 : ∀ w, (Op.stringOp .add (strOf (pre i ++ [32, 124, 32])) (strOf Y)).run Tryz.prog w = .ok (.string (strOf (pre (i + 1)))) w := fun w => by
              rw [hps, show pre i ++ ([32, 124, 32] ++ Y) = (pre i ++ [32, 124, 32]) ++ Y by simp]
              exact sum8 _ _ (by simp; omega) w
            have hib : ((i : Int) == 0) = false := by rw [beq_eq_false_iff_ne]; omega
            obtain ⟨XS, hXS⟩ : ∃ R, R = strOf X := ⟨_, rfl⟩
            obtain ⟨PN, hPN⟩ : ∃ R, R = strOf (pre (i + 1)) := ⟨_, rfl⟩
            rw [← hXS] at hq
            obtain ⟨YS, hYS⟩ : ∃ R, R = strOf Y := ⟨_, rfl⟩
            have hYX : YS = XS := by rw [hYS, hXS, hy]
            obtain ⟨P0, hP0⟩ : ∃ R, R = strOf (pre i) := ⟨_, rfl⟩
            obtain ⟨P1, hP1⟩ : ∃ R, R = strOf (pre i ++ [32, 124, 32]) := ⟨_, rfl⟩
            rw [← hP0, ← hP1] at p3
            rw [← hP1, ← hYS, ← hPN] at p4
            rw [hYX] at p4
            rw [← hP0]
            have HPN := Lib.hid hPN
            clear hy hXS hPN hYS hps hpl hyl hYX hP0 hP1 HE HQ HP0 HPS HPLn HYd q4 q3
            go_wp2_with (go_at_call 36; refine (hq _ (bstep hBw (b1 _ _))).mono ?_; rintro e w3 ⟨rfl, hb3⟩; have hB3 := Lib.hid (bstep hBw (bstep (b1 _ _) hb3)); have hW3 := Lib.hid (bstep HW.out (bstep (b1 _ _) hb3)); have hK := hKid.out.later hb3; have hX3 := HX.out.later hW3.out; have y0 := hK.cell 0 _ rfl; have c0 := hX3.cell 0 _ rfl; have c8 := hX3.cell 8 _ rfl; clear hK hX3 hb3)
            go_roundg (ks.length - (i + 1))
            case rel => exact ⟨i + 1, by omega, rfl, by go_num, by rw [HPN.out], hW3⟩
            case measure => omega
    · have g1 : ¬ (i : Int) < (ks.length : Int) := by omega
      have hil : i = ks.length := by omega
      subst hil
      clear HE HQ HP0 HPS HPLn HWL HKT HON
      go_wp2
      go_ret
      exact ⟨rfl, hBw⟩
theorem rtext_any (T : Tr) : ∀ w, TrW w T → soundN 1 T.nd = true → SmallN T.nd → nodesN T.nd ≤ 250 →
    Calls Tryz.prog 36 #[.agg T.row.toArray] w fun e w' => e = .returned (.string (strOf (textN T.nd))) ∧ Below w.heap.size w w' := by
  refine Tr.ind (P := fun T => ∀ w, TrW w T → soundN 1 T.nd = true → SmallN T.nd → nodesN T.nd ≤ 250 →
    Calls Tryz.prog 36 #[.agg T.row.toArray] w fun e w' => e = .returned (.string (strOf (textN T.nd))) ∧ Below w.heap.size w w') (fun k mn mx g sk ks ih => ?_) T
  intro w hT hs hm hn
  obtain ⟨-, hoA, hsl⟩ := hT.one
  have hG : GoodN (Tr.mk k mn mx g sk ks).nd := by
    refine ⟨hs, fun t ht => ?_⟩
    rw [← subsT_nd] at ht
    obtain ⟨u, hu, rfl⟩ := List.mem_map.1 ht
    have h1 := hT u hu
    obtain ⟨k, mn, mx, g, sk, ks⟩ := u
    obtain ⟨-, ⟨h4, -⟩, -⟩ := h1
    rw [nd_mk]
    exact h4.bn
  have hm0 := hm (Tr.mk k mn mx g sk ks).nd (by rw [nd_mk, subsN]; exact List.mem_cons_self)
  rw [nd_mk] at hs hm hn hG hm0
  obtain ⟨⟨m1, m2⟩, m3, -⟩ := hm0
  change g.a.cs.length ≤ 20 at m1
  change g.a.nm.length ≤ 30 at m2
  change ∀ c ∈ g.a.cs, okV c.va at m3
  rw [nd_mk]
  have hat := fun (ha : atomB g.a = true) w1 (hb : Below w.heap.size w w1) => ratomText_any g w1 (hoA.later hb) ha (by omega) (by omega)
  have hal : (atomT g.a).length ≤ 900 := atomK m1 m2 m3
  rcases hG.cases with ⟨rfl, h0, ha, hmn, hmx⟩ | ⟨rfl, h0, ha, rfl, rfl⟩ | ⟨h34, rfl, rfl, hz, h2⟩
  · have hat1 := hat ha
    have htx : textN (.mk 1 mn mx g.a (ks.map Tr.nd)) = atomT g.a ++ timesT mn mx := by rw [textN, if_pos rfl]
    rw [htx]
    obtain ⟨⟨kd, bd, bn, cs, nm⟩, sc⟩ := g
    simp only [gaC] at hat1
    simp only [Tr.row]
    by_cases e1 : mn = 1
    · subst e1
      by_cases e2 : mx = 1
      · subst e2
        rw [show timesT 1 1 = [] from if_pos ⟨rfl, rfl⟩, List.append_nil]
        exact rtext_1a kd bd bn sc _ sk _ w hat1
      · rw [show timesT 1 mx = [123] ++ (Lib.itoa 1 ++ [44] ++ Lib.itoa mx) ++ [125] from if_neg (by omega)]
        exact rtext_1c mx kd bd bn sc _ sk _ w (by simp only at hal; omega) e2 hmx hat1
    · rw [show timesT mn mx = [123] ++ (Lib.itoa mn ++ [44] ++ Lib.itoa mx) ++ [125] from if_neg (by omega)]
      exact rtext_1b mn mx kd bd bn sc _ sk _ w (by simp only at hal; omega) e1 hmn hmx hat1
  · have hat1 := hat ha
    have htx : textN (.mk 2 0 0 g.a (ks.map Tr.nd)) = [110, 111, 116, 32] ++ atomT g.a := by rw [textN, if_neg (by decide), if_pos rfl]
    rw [htx]
    obtain ⟨⟨kd, bd, bn, cs, nm⟩, sc⟩ := g
    simp only [gaC] at hat1
    simp only [Tr.row]
    exact rtext_2 0 0 kd bd bn sc _ sk _ w (by simp only at hal; omega) hat1
  · have hkn : ∀ t ∈ ks, soundN 1 t.nd = true ∧ SmallN t.nd ∧ nodesN t.nd ≤ 250 := fun t ht => by
      have hmem : t.nd ∈ ks.map Tr.nd := List.mem_map_of_mem ht
      refine ⟨sound_kid hs t.nd hmem, hm.kid hmem, ?_⟩
      rw [nodesN] at hn
      have := nodes_mem _ _ hmem
      omega
    have hkl : ks.length ≤ 250 := by
      rw [nodesN] at hn
      have := len_nl (ks.map Tr.nd)
      rw [List.length_map] at this
      omega
    have hkt : ∀ t ∈ ks, (textN t.nd).length ≤ 250000 := fun t ht => by
      obtain ⟨h1, h2, h3⟩ := hkn t ht
      have := textK _ h2
      omega
    have hkid : ∀ t ∈ ks, ∀ w1, Below w.heap.size w w1 → Calls Tryz.prog 36 #[.agg t.row.toArray] w1 fun e w' => e = .returned (.string (strOf (textN t.nd))) ∧ Below w1.heap.size w1 w' := fun t ht w1 hb => by
      obtain ⟨h1, h2, h3⟩ := hkn t ht
      exact ih t ht w1 ((hT.kid ht).later hb) h1 h2 h3
    have hsl2 := hsl
    obtain ⟨B, e9, rfl, -, -⟩ := sl_get (by decide) hsl2
    obtain ⟨⟨kd, bd, bn, cs, nm⟩, sc⟩ := g
    simp only [Tr.row]
    rcases h34 with rfl | rfl
    · rw [textN, if_neg (by decide), if_neg (by decide), if_pos rfl, textL_map, List.map_map]
      exact rtext_3 0 0 kd bd bn sc _ B e9 ks w hsl hkl hkt (fun t ht => (hT.kid ht).one) hkid
    · rw [textN, if_neg (by decide), if_neg (by decide), if_neg (by decide), if_pos rfl, textL_map, List.map_map]
      exact rtext_4 0 0 kd bd bn sc _ B e9 ks w hsl hkl hkt (fun t ht => (hT.kid ht).one) hkid
end Go.Proofs.YtfibmdbplfghcaaGreatDoor
