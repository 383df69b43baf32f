/- Walks: what the writer writes of an atom. Made by program (wip/tools/gen_astN.py). -/
import Derived.Test.YtfibmdbplfghcaaGreatDoorAstL
namespace Go.Proofs.YtfibmdbplfghcaaGreatDoor
open Go.RowKit Go.Shelf
open A8 Tk7 Lb

set_option maxRecDepth 100000 in
set_option maxHeartbeats 8000000 in
theorem atom_ne (n0 b : Nat) (l C : List UInt8) (i r : Nat) (hi : i ≤ 25) (A : Option Addr) (m c : Nat) (M : ByteArray) (w : World) (hW : Wt n0 b l w)
    (hl : l.length + 1 + 0 + C.length + 0 ≤ 1000000)
    
    (hC : ∀ acc w1, Kept n0 b w w1 → Wt n0 b acc w1 → acc.length + C.length ≤ 1000000 → Calls Tryz.prog 104 #[.pointer (some ⟨b, 0, none⟩), .string ⟨#[91]⟩, .slice A m c, .string ⟨#[44]⟩, .string ⟨#[93]⟩, .func (.func 101) #[.pointer (some ⟨b, 0, none⟩)] #[]] w1 (WrP n0 b acc C w1))
    (hMe : M.toList.isEmpty = true) :
    Calls Tryz.prog 80 #[.pointer (some ⟨b, 0, none⟩), .agg #[.int .i64 (i : Int), .bool false, .int .u64 (r : Int), .slice A m c, .string M]] w (WrP n0 b l ([UInt8.ofNat (65 + i)] ++ ([]) ++ C ++ ([])) w) := by
  obtain ⟨W, hWW⟩ : ∃ W, W = w.alloc (.cells #[.int .i64 (i : Int), .bool false, .int .u64 (r : Int), .slice A m c, .string M] 25) := ⟨_, rfl⟩
  have hn0 := wt_le hW
  have hb1 : Below w.heap.size w W := hWW ▸ b1 _ _
  have hk1 : Kept n0 b w W := Kept.of hb1 hn0
  have hBx : Bx W w.heap.size 25 [.int .i64 (i : Int), .bool false, .int .u64 (r : Int), .slice A m c, .string M] := hWW ▸ Bx.new w _ _
  have hne : w.heap.size ≠ b := by have := wt_lt hW; omega
  have hW1 := hW.later hb1
  have c0 := hBx.blk.drew.cell 0 _ rfl
  have hcell : ∀ w1, Kept n0 b W.drew w1 → Blk w1 w.heap.size [.int .i64 (i : Int), .bool false, .int .u64 (r : Int), .slice A m c, .string M] := fun w1 hk => (Bx.kept (w := W.drew) hBx hk hne (by decide)).blk
  have hP := fun w1 (h : Wt n0 b l w1) => writeByte_any n0 b l (UInt8.ofNat (65 + i)) (65 + (i : Int)) (by rw [UInt8.toNat_ofNat']; omega) w1 h (by omega) (wt_le h)
  have hwr1 : IntKind.u8.wrap (i : Int) = (i : Int) := by simp [IntKind.wrap, IntKind.signed, IntKind.bits]; omega
  have hwr2 : IntKind.u8.wrap (65 + (i : Int)) = 65 + (i : Int) := by simp [IntKind.wrap, IntKind.signed, IntKind.bits]; omega
  have hCl := fun w1 (hk : Kept n0 b W.drew w1) (h : Wt n0 b (l ++ [UInt8.ofNat (65 + i)]) w1) => hC (l ++ [UInt8.ofNat (65 + i)]) w1 (hk1.trans (kept_drew hk)) h (by simp only [List.length_append, List.length_singleton]; omega)
  have fin : ∀ w2, Kept n0 b W.drew w2 → Wt n0 b (l ++ [UInt8.ofNat (65 + i)] ++ C) w2 → WrP n0 b l ([UInt8.ofNat (65 + i)] ++ ([]) ++ C ++ ([])) w (.returned (.tuple #[])) w2 := fun w2 h1 h2 => ⟨rfl, by simpa only [List.append_assoc, List.append_nil, List.cons_append, List.nil_append, List.singleton_append] using h2, hk1.trans (kept_drew h1)⟩
  have hWd := wt_drew hW1
  unfold WrP at hCl
  clear hC hW1 hBx hb1 hk1 hW hl
  go_enter Tryz.func80, Tryz.ntmps80
  go_wp2_with fail
  rw [← hWW]
  clear hWW
  go_region_with (go_at_call 100; refine (hP _ hWd).mono ?_; rintro e w1 ⟨rfl, hX1, hk1⟩)
  all_goals
    have hb := hcell _ hk1
    have c1 := hb.cell 1 _ rfl
    have c2 := hb.drew.cell 2 _ rfl
    have c3 := hb.cell 3 _ rfl
    have c4 := hb.cell 4 _ rfl
    clear hb
    go_wp2_with (go_at_call 104; refine (hCl _ hk1 hX1).mono ?_; rintro e w5 ⟨rfl, hX5, hk5⟩; have hK5 := hk1.trans hk5; have g4 := (hcell _ hK5).cell 4 _ rfl)
    go_end0
    exact fin _ hK5 hX5
set_option maxRecDepth 100000 in
set_option maxHeartbeats 8000000 in
theorem atom_nm (n0 b : Nat) (l C N : List UInt8) (i r : Nat) (hi : i ≤ 25) (A : Option Addr) (m c : Nat) (M : ByteArray) (w : World) (hW : Wt n0 b l w)
    (hl : l.length + 1 + 0 + C.length + (1 + N.length) ≤ 1000000)
    
    (hC : ∀ acc w1, Kept n0 b w w1 → Wt n0 b acc w1 → acc.length + C.length ≤ 1000000 → Calls Tryz.prog 104 #[.pointer (some ⟨b, 0, none⟩), .string ⟨#[91]⟩, .slice A m c, .string ⟨#[44]⟩, .string ⟨#[93]⟩, .func (.func 101) #[.pointer (some ⟨b, 0, none⟩)] #[]] w1 (WrP n0 b acc C w1))
    (hM : M = strOf N) (hMe : M.toList.isEmpty = false) :
    Calls Tryz.prog 80 #[.pointer (some ⟨b, 0, none⟩), .agg #[.int .i64 (i : Int), .bool false, .int .u64 (r : Int), .slice A m c, .string M]] w (WrP n0 b l ([UInt8.ofNat (65 + i)] ++ ([]) ++ C ++ (58 :: N)) w) := by
  obtain ⟨W, hWW⟩ : ∃ W, W = w.alloc (.cells #[.int .i64 (i : Int), .bool false, .int .u64 (r : Int), .slice A m c, .string M] 25) := ⟨_, rfl⟩
  have hn0 := wt_le hW
  have hb1 : Below w.heap.size w W := hWW ▸ b1 _ _
  have hk1 : Kept n0 b w W := Kept.of hb1 hn0
  have hBx : Bx W w.heap.size 25 [.int .i64 (i : Int), .bool false, .int .u64 (r : Int), .slice A m c, .string M] := hWW ▸ Bx.new w _ _
  have hne : w.heap.size ≠ b := by have := wt_lt hW; omega
  have hW1 := hW.later hb1
  have c0 := hBx.blk.drew.cell 0 _ rfl
  have hcell : ∀ w1, Kept n0 b W.drew w1 → Blk w1 w.heap.size [.int .i64 (i : Int), .bool false, .int .u64 (r : Int), .slice A m c, .string M] := fun w1 hk => (Bx.kept (w := W.drew) hBx hk hne (by decide)).blk
  have hP := fun w1 (h : Wt n0 b l w1) => writeByte_any n0 b l (UInt8.ofNat (65 + i)) (65 + (i : Int)) (by rw [UInt8.toNat_ofNat']; omega) w1 h (by omega) (wt_le h)
  have hwr1 : IntKind.u8.wrap (i : Int) = (i : Int) := by simp [IntKind.wrap, IntKind.signed, IntKind.bits]; omega
  have hwr2 : IntKind.u8.wrap (65 + (i : Int)) = 65 + (i : Int) := by simp [IntKind.wrap, IntKind.signed, IntKind.bits]; omega
  have hCl := fun w1 (hk : Kept n0 b W.drew w1) (h : Wt n0 b (l ++ [UInt8.ofNat (65 + i)]) w1) => hC (l ++ [UInt8.ofNat (65 + i)]) w1 (hk1.trans (kept_drew hk)) h (by simp only [List.length_append, List.length_singleton]; omega)
  have hCo := fun w1 (h : Wt n0 b (l ++ [UInt8.ofNat (65 + i)] ++ C) w1) => writeByte_any n0 b (l ++ [UInt8.ofNat (65 + i)] ++ C) 58 58 rfl w1 h (by simp only [List.length_append, List.length_singleton]; omega) (wt_le h)
  have hNs := fun w1 (h : Wt n0 b (l ++ [UInt8.ofNat (65 + i)] ++ C ++ [58]) w1) => writeLit_any n0 b (l ++ [UInt8.ofNat (65 + i)] ++ C ++ [58]) N M hM w1 h (by simp only [List.length_append, List.length_singleton]; omega) (wt_le h)
  have fin : ∀ w2, Kept n0 b W.drew w2 → Wt n0 b (l ++ [UInt8.ofNat (65 + i)] ++ C ++ [58] ++ N) w2 → WrP n0 b l ([UInt8.ofNat (65 + i)] ++ ([]) ++ C ++ (58 :: N)) w (.returned (.tuple #[])) w2 := fun w2 h1 h2 => ⟨rfl, by simpa only [List.append_assoc, List.append_nil, List.cons_append, List.nil_append, List.singleton_append] using h2, hk1.trans (kept_drew h1)⟩
  have hWd := wt_drew hW1
  unfold WrP at hCl
  clear hC hW1 hBx hb1 hk1 hW hl hM
  go_enter Tryz.func80, Tryz.ntmps80
  go_wp2_with fail
  rw [← hWW]
  clear hWW
  go_region_with (go_at_call 100; refine (hP _ hWd).mono ?_; rintro e w1 ⟨rfl, hX1, hk1⟩)
  all_goals
    have hb := hcell _ hk1
    have c1 := hb.cell 1 _ rfl
    have c2 := hb.drew.cell 2 _ rfl
    have c3 := hb.cell 3 _ rfl
    have c4 := hb.cell 4 _ rfl
    clear hb
    go_wp2_with (go_at_call 104; refine (hCl _ hk1 hX1).mono ?_; rintro e w5 ⟨rfl, hX5, hk5⟩; have hK5 := hk1.trans hk5; have hb := hcell _ hK5; have g4 := hb.cell 4 _ rfl; have g4d := hb.drew.cell 4 _ rfl; clear hb)
    go_wp2_with (go_at_call 100; with_reducible refine (hCo _ hX5).mono ?_; rintro e w6 ⟨rfl, hX6, hk6⟩; have hK6 := hK5.trans hk6; have j4 := (hcell _ hK6).drew.cell 4 _ rfl)
    go_region_with (go_at_call 68; refine (hNs _ (wt_drew hX6)).mono ?_; rintro e w7 ⟨rfl, hX7, hk7⟩)
    all_goals
      go_wp2
      go_end0
      exact fin _ (hK6.trans (kept_drew hk7)) hX7
set_option maxRecDepth 100000 in
set_option maxHeartbeats 8000000 in
theorem atom_be (n0 b : Nat) (l L C : List UInt8) (i r : Nat) (hi : i ≤ 25) (A : Option Addr) (m c : Nat) (M : ByteArray) (w : World) (hW : Wt n0 b l w)
    (hl : l.length + 1 + (1 + L.length) + C.length + 0 ≤ 1000000)
    (hL : ∀ w1, Kept n0 b w w1 → Calls Tryz.prog 103 #[.int .u64 (r : Int)] w1 fun e w2 => e = .returned (.string (strOf L)) ∧ Below w1.heap.size w1 w2)
    (hC : ∀ acc w1, Kept n0 b w w1 → Wt n0 b acc w1 → acc.length + C.length ≤ 1000000 → Calls Tryz.prog 104 #[.pointer (some ⟨b, 0, none⟩), .string ⟨#[91]⟩, .slice A m c, .string ⟨#[44]⟩, .string ⟨#[93]⟩, .func (.func 101) #[.pointer (some ⟨b, 0, none⟩)] #[]] w1 (WrP n0 b acc C w1))
    (hMe : M.toList.isEmpty = true) :
    Calls Tryz.prog 80 #[.pointer (some ⟨b, 0, none⟩), .agg #[.int .i64 (i : Int), .bool true, .int .u64 (r : Int), .slice A m c, .string M]] w (WrP n0 b l ([UInt8.ofNat (65 + i)] ++ (64 :: L) ++ C ++ ([])) w) := by
  obtain ⟨W, hWW⟩ : ∃ W, W = w.alloc (.cells #[.int .i64 (i : Int), .bool true, .int .u64 (r : Int), .slice A m c, .string M] 25) := ⟨_, rfl⟩
  have hn0 := wt_le hW
  have hb1 : Below w.heap.size w W := hWW ▸ b1 _ _
  have hk1 : Kept n0 b w W := Kept.of hb1 hn0
  have hBx : Bx W w.heap.size 25 [.int .i64 (i : Int), .bool true, .int .u64 (r : Int), .slice A m c, .string M] := hWW ▸ Bx.new w _ _
  have hne : w.heap.size ≠ b := by have := wt_lt hW; omega
  have hW1 := hW.later hb1
  have c0 := hBx.blk.drew.cell 0 _ rfl
  have hcell : ∀ w1, Kept n0 b W.drew w1 → Blk w1 w.heap.size [.int .i64 (i : Int), .bool true, .int .u64 (r : Int), .slice A m c, .string M] := fun w1 hk => (Bx.kept (w := W.drew) hBx hk hne (by decide)).blk
  have hP := fun w1 (h : Wt n0 b l w1) => writeByte_any n0 b l (UInt8.ofNat (65 + i)) (65 + (i : Int)) (by rw [UInt8.toNat_ofNat']; omega) w1 h (by omega) (wt_le h)
  have hwr1 : IntKind.u8.wrap (i : Int) = (i : Int) := by simp [IntKind.wrap, IntKind.signed, IntKind.bits]; omega
  have hwr2 : IntKind.u8.wrap (65 + (i : Int)) = 65 + (i : Int) := by simp [IntKind.wrap, IntKind.signed, IntKind.bits]; omega
  have hAt := fun w1 (h : Wt n0 b (l ++ [UInt8.ofNat (65 + i)]) w1) => writeByte_any n0 b (l ++ [UInt8.ofNat (65 + i)]) 64 64 rfl w1 h (by simp only [List.length_append, List.length_singleton]; omega) (wt_le h)
  have hLb := fun w1 (hk : Kept n0 b W.drew w1) => hL w1 (hk1.trans (kept_drew hk))
  have hLs := fun w1 (h : Wt n0 b (l ++ [UInt8.ofNat (65 + i)] ++ [64]) w1) => writeStr_any n0 b (l ++ [UInt8.ofNat (65 + i)] ++ [64]) L w1 h (by simp only [List.length_append, List.length_singleton]; omega) (wt_le h)
  have hLd := fun (w1 w2 w3 : World) (h : Kept n0 b W.drew w1) (h2 : Below w1.drew.heap.size w1.drew w2) (h3 : Kept n0 b w2 w3) => (h.trans (kept_drew ((Kept.of h2 (show n0 ≤ w1.heap.size from kept_n0 (b := b) (w := W.drew) (w1 := w1) h (show n0 ≤ W.heap.size from (kept_n0 hk1 hn0)))).trans h3)) : Kept n0 b W.drew w3)
  have hCl := fun w1 (hk : Kept n0 b W.drew w1) (h : Wt n0 b (l ++ [UInt8.ofNat (65 + i)] ++ [64] ++ L) w1) => hC (l ++ [UInt8.ofNat (65 + i)] ++ [64] ++ L) w1 (hk1.trans (kept_drew hk)) h (by simp only [List.length_append, List.length_singleton]; omega)
  have fin : ∀ w2, Kept n0 b W.drew w2 → Wt n0 b (l ++ [UInt8.ofNat (65 + i)] ++ [64] ++ L ++ C) w2 → WrP n0 b l ([UInt8.ofNat (65 + i)] ++ (64 :: L) ++ C ++ ([])) w (.returned (.tuple #[])) w2 := fun w2 h1 h2 => ⟨rfl, by simpa only [List.append_assoc, List.append_nil, List.cons_append, List.nil_append, List.singleton_append] using h2, hk1.trans (kept_drew h1)⟩
  have hWd := wt_drew hW1
  unfold WrP at hCl
  clear hC hW1 hBx hb1 hk1 hW hl hL
  go_enter Tryz.func80, Tryz.ntmps80
  go_wp2_with fail
  rw [← hWW]
  clear hWW
  go_region_with (go_at_call 100; refine (hP _ hWd).mono ?_; rintro e w1 ⟨rfl, hX1, hk1⟩)
  all_goals
    have hb := hcell _ hk1
    have c1 := hb.cell 1 _ rfl
    have c2 := hb.drew.cell 2 _ rfl
    have c3 := hb.cell 3 _ rfl
    have c4 := hb.cell 4 _ rfl
    clear hb
    go_wp2_with (go_at_call 100; with_reducible refine (hAt _ hX1).mono ?_; rintro e w2 ⟨rfl, hX2, hk2⟩; have hK2 := hk1.trans hk2; have d2 := (hcell _ hK2).drew.cell 2 _ rfl)
    go_region_with (first | (go_at_call 103; refine (hLb _ (show Kept n0 b W.drew _ from ⟨hK2.1.drew, hK2.2.drew⟩)).mono ?_; rintro e w3 ⟨rfl, hb3⟩) | (go_at_call 68; refine (hLs _ ((wt_drew hX2).later hb3)).mono ?_; rintro e w4 ⟨rfl, hX4, hk4⟩))
    all_goals
      have hK4 := hLd _ _ _ hK2 hb3 hk4
      have hb := hcell _ hK4
      have e3 := hb.cell 3 _ rfl
      clear hb
      go_wp2_with (go_at_call 104; refine (hCl _ hK4 hX4).mono ?_; rintro e w5 ⟨rfl, hX5, hk5⟩; have hK5 := hK4.trans hk5; have g4 := (hcell _ hK5).cell 4 _ rfl)
      go_end0
      exact fin _ hK5 hX5
set_option maxRecDepth 100000 in
set_option maxHeartbeats 8000000 in
theorem atom_bm (n0 b : Nat) (l L C N : List UInt8) (i r : Nat) (hi : i ≤ 25) (A : Option Addr) (m c : Nat) (M : ByteArray) (w : World) (hW : Wt n0 b l w)
    (hl : l.length + 1 + (1 + L.length) + C.length + (1 + N.length) ≤ 1000000)
    (hL : ∀ w1, Kept n0 b w w1 → Calls Tryz.prog 103 #[.int .u64 (r : Int)] w1 fun e w2 => e = .returned (.string (strOf L)) ∧ Below w1.heap.size w1 w2)
    (hC : ∀ acc w1, Kept n0 b w w1 → Wt n0 b acc w1 → acc.length + C.length ≤ 1000000 → Calls Tryz.prog 104 #[.pointer (some ⟨b, 0, none⟩), .string ⟨#[91]⟩, .slice A m c, .string ⟨#[44]⟩, .string ⟨#[93]⟩, .func (.func 101) #[.pointer (some ⟨b, 0, none⟩)] #[]] w1 (WrP n0 b acc C w1))
    (hM : M = strOf N) (hMe : M.toList.isEmpty = false) :
    Calls Tryz.prog 80 #[.pointer (some ⟨b, 0, none⟩), .agg #[.int .i64 (i : Int), .bool true, .int .u64 (r : Int), .slice A m c, .string M]] w (WrP n0 b l ([UInt8.ofNat (65 + i)] ++ (64 :: L) ++ C ++ (58 :: N)) w) := by
  obtain ⟨W, hWW⟩ : ∃ W, W = w.alloc (.cells #[.int .i64 (i : Int), .bool true, .int .u64 (r : Int), .slice A m c, .string M] 25) := ⟨_, rfl⟩
  have hn0 := wt_le hW
  have hb1 : Below w.heap.size w W := hWW ▸ b1 _ _
  have hk1 : Kept n0 b w W := Kept.of hb1 hn0
  have hBx : Bx W w.heap.size 25 [.int .i64 (i : Int), .bool true, .int .u64 (r : Int), .slice A m c, .string M] := hWW ▸ Bx.new w _ _
  have hne : w.heap.size ≠ b := by have := wt_lt hW; omega
  have hW1 := hW.later hb1
  have c0 := hBx.blk.drew.cell 0 _ rfl
  have hcell : ∀ w1, Kept n0 b W.drew w1 → Blk w1 w.heap.size [.int .i64 (i : Int), .bool true, .int .u64 (r : Int), .slice A m c, .string M] := fun w1 hk => (Bx.kept (w := W.drew) hBx hk hne (by decide)).blk
  have hP := fun w1 (h : Wt n0 b l w1) => writeByte_any n0 b l (UInt8.ofNat (65 + i)) (65 + (i : Int)) (by rw [UInt8.toNat_ofNat']; omega) w1 h (by omega) (wt_le h)
  have hwr1 : IntKind.u8.wrap (i : Int) = (i : Int) := by simp [IntKind.wrap, IntKind.signed, IntKind.bits]; omega
  have hwr2 : IntKind.u8.wrap (65 + (i : Int)) = 65 + (i : Int) := by simp [IntKind.wrap, IntKind.signed, IntKind.bits]; omega
  have hAt := fun w1 (h : Wt n0 b (l ++ [UInt8.ofNat (65 + i)]) w1) => writeByte_any n0 b (l ++ [UInt8.ofNat (65 + i)]) 64 64 rfl w1 h (by simp only [List.length_append, List.length_singleton]; omega) (wt_le h)
  have hLb := fun w1 (hk : Kept n0 b W.drew w1) => hL w1 (hk1.trans (kept_drew hk))
  have hLs := fun w1 (h : Wt n0 b (l ++ [UInt8.ofNat (65 + i)] ++ [64]) w1) => writeStr_any n0 b (l ++ [UInt8.ofNat (65 + i)] ++ [64]) L w1 h (by simp only [List.length_append, List.length_singleton]; omega) (wt_le h)
  have hLd := fun (w1 w2 w3 : World) (h : Kept n0 b W.drew w1) (h2 : Below w1.drew.heap.size w1.drew w2) (h3 : Kept n0 b w2 w3) => (h.trans (kept_drew ((Kept.of h2 (show n0 ≤ w1.heap.size from kept_n0 (b := b) (w := W.drew) (w1 := w1) h (show n0 ≤ W.heap.size from (kept_n0 hk1 hn0)))).trans h3)) : Kept n0 b W.drew w3)
  have hCl := fun w1 (hk : Kept n0 b W.drew w1) (h : Wt n0 b (l ++ [UInt8.ofNat (65 + i)] ++ [64] ++ L) w1) => hC (l ++ [UInt8.ofNat (65 + i)] ++ [64] ++ L) w1 (hk1.trans (kept_drew hk)) h (by simp only [List.length_append, List.length_singleton]; omega)
  have hCo := fun w1 (h : Wt n0 b (l ++ [UInt8.ofNat (65 + i)] ++ [64] ++ L ++ C) w1) => writeByte_any n0 b (l ++ [UInt8.ofNat (65 + i)] ++ [64] ++ L ++ C) 58 58 rfl w1 h (by simp only [List.length_append, List.length_singleton]; omega) (wt_le h)
  have hNs := fun w1 (h : Wt n0 b (l ++ [UInt8.ofNat (65 + i)] ++ [64] ++ L ++ C ++ [58]) w1) => writeLit_any n0 b (l ++ [UInt8.ofNat (65 + i)] ++ [64] ++ L ++ C ++ [58]) N M hM w1 h (by simp only [List.length_append, List.length_singleton]; omega) (wt_le h)
  have fin : ∀ w2, Kept n0 b W.drew w2 → Wt n0 b (l ++ [UInt8.ofNat (65 + i)] ++ [64] ++ L ++ C ++ [58] ++ N) w2 → WrP n0 b l ([UInt8.ofNat (65 + i)] ++ (64 :: L) ++ C ++ (58 :: N)) w (.returned (.tuple #[])) w2 := fun w2 h1 h2 => ⟨rfl, by simpa only [List.append_assoc, List.append_nil, List.cons_append, List.nil_append, List.singleton_append] using h2, hk1.trans (kept_drew h1)⟩
  have hWd := wt_drew hW1
  unfold WrP at hCl
  clear hC hW1 hBx hb1 hk1 hW hl hL hM
  go_enter Tryz.func80, Tryz.ntmps80
  go_wp2_with fail
  rw [← hWW]
  clear hWW
  go_region_with (go_at_call 100; refine (hP _ hWd).mono ?_; rintro e w1 ⟨rfl, hX1, hk1⟩)
  all_goals
    have hb := hcell _ hk1
    have c1 := hb.cell 1 _ rfl
    have c2 := hb.drew.cell 2 _ rfl
    have c3 := hb.cell 3 _ rfl
    have c4 := hb.cell 4 _ rfl
    clear hb
    go_wp2_with (go_at_call 100; with_reducible refine (hAt _ hX1).mono ?_; rintro e w2 ⟨rfl, hX2, hk2⟩; have hK2 := hk1.trans hk2; have d2 := (hcell _ hK2).drew.cell 2 _ rfl)
    go_region_with (first | (go_at_call 103; refine (hLb _ (show Kept n0 b W.drew _ from ⟨hK2.1.drew, hK2.2.drew⟩)).mono ?_; rintro e w3 ⟨rfl, hb3⟩) | (go_at_call 68; refine (hLs _ ((wt_drew hX2).later hb3)).mono ?_; rintro e w4 ⟨rfl, hX4, hk4⟩))
    all_goals
      have hK4 := hLd _ _ _ hK2 hb3 hk4
      have hb := hcell _ hK4
      have e3 := hb.cell 3 _ rfl
      clear hb
      go_wp2_with (go_at_call 104; refine (hCl _ hK4 hX4).mono ?_; rintro e w5 ⟨rfl, hX5, hk5⟩; have hK5 := hK4.trans hk5; have hb := hcell _ hK5; have g4 := hb.cell 4 _ rfl; have g4d := hb.drew.cell 4 _ rfl; clear hb)
      go_wp2_with (go_at_call 100; with_reducible refine (hCo _ hX5).mono ?_; rintro e w6 ⟨rfl, hX6, hk6⟩; have hK6 := hK5.trans hk6; have j4 := (hcell _ hK6).drew.cell 4 _ rfl)
      go_region_with (go_at_call 68; refine (hNs _ (wt_drew hX6)).mono ?_; rintro e w7 ⟨rfl, hX7, hk7⟩)
      all_goals
        go_wp2
        go_end0
        exact fin _ (hK6.trans (kept_drew hk7)) hX7
end Go.Proofs.YtfibmdbplfghcaaGreatDoor
