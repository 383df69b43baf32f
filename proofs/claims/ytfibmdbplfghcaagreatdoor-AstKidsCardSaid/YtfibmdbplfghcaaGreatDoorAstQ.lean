/- Walks: what the writer writes of a node, whatever it is; of a query; the texts. Made by program (wip/tools/gen_astQ.py). -/
import Derived.Test.YtfibmdbplfghcaaGreatDoorAstP
namespace Go.Proofs.YtfibmdbplfghcaaGreatDoor
open Go.RowKit Go.Shelf
open A8 Tk7 Lb

set_option maxRecDepth 100000 in
set_option maxHeartbeats 4000000 in
theorem node_1 (n0 b : Nat) (l : List UInt8) (X Y : List UInt8) (mn mx kd : Int) (bd : Bool) (bn : Int) (sc : Value) (nm : ByteArray) (sk : Value) (w : World) (hW : Wt n0 b l w)
    (hA : ∀ w1, Kept n0 b w w1 → Wt n0 b l w1 → Calls Tryz.prog 80 #[.pointer (some ⟨b, 0, none⟩), .agg #[.int .i64 kd, .bool bd, .int .u64 bn, sc, .string nm]] w1 (WrP n0 b l X w1))
    (hT : ∀ w1, Kept n0 b w w1 → Wt n0 b (l ++ X) w1 → Calls Tryz.prog 81 #[.pointer (some ⟨b, 0, none⟩), .int .i64 mn, .int .i64 mx] w1 (WrP n0 b (l ++ X) Y w1)) :
    Calls Tryz.prog 41 #[.pointer (some ⟨b, 0, none⟩), .agg #[.int .i64 1, .int .i64 mn, .int .i64 mx, .int .i64 kd, .bool bd, .int .u64 bn, sc, .string nm, sk]] w (WrP n0 b l (X ++ Y) w) := by
  obtain ⟨W, hWW⟩ : ∃ W, W = w.alloc (.cells #[.int .i64 1, .int .i64 mn, .int .i64 mx, .int .i64 kd, .bool bd, .int .u64 bn, sc, .string nm, sk] 28) := ⟨_, rfl⟩
  have hn0 := wt_le hW
  have hb1 : Below w.heap.size w W := hWW ▸ b1 _ _
  have hk1 : Kept n0 b w W := Kept.of hb1 hn0
  have hBx : Bx W w.heap.size 28 [.int .i64 1, .int .i64 mn, .int .i64 mx, .int .i64 kd, .bool bd, .int .u64 bn, sc, .string nm, sk] := hWW ▸ Bx.new w _ _
  have hne : w.heap.size ≠ b := by have := wt_lt hW; omega
  have hW1 := hW.later hb1
  have hcell : ∀ w1, Kept n0 b W w1 → Blk w1 w.heap.size [.int .i64 1, .int .i64 mn, .int .i64 mx, .int .i64 kd, .bool bd, .int .u64 bn, sc, .string nm, sk] := fun w1 hk => (hBx.kept hk hne (by decide)).blk
  have hA1 := hA W hk1 hW1
  have hT1 := fun w1 (hk : Kept n0 b W w1) (h : Wt n0 b (l ++ X) w1) => hT w1 (hk1.trans hk) h
  have fin : ∀ w1 w2, Wt n0 b (l ++ X ++ Y) w2 → Kept n0 b W w1 → Kept n0 b w1 w2 → WrP n0 b l (X ++ Y) w (.returned (.tuple #[])) w2 := fun w1 w2 h1 h2 h3 => ⟨rfl, by rw [← List.append_assoc]; exact h1, hk1.trans (h2.trans h3)⟩
  unfold WrP at hA1 hT1
  clear hA hT hW1 hBx hb1 hk1 hW
  subst hWW
  go_enter Tryz.func41, Tryz.ntmps41
  go_wp2_with (first | (go_at_call 80; refine hA1.mono ?_; rintro e w2 ⟨rfl, h1, h2⟩; have HX := hcell _ h2; have c1 := HX.cell 1 _ rfl; have c2 := HX.cell 2 _ rfl; clear HX) | (go_at_call 81; refine (hT1 _ h2 h1).mono ?_; rintro e w3 ⟨rfl, h3, h4⟩))
  go_end0
  exact fin _ _ h3 h2 h4
set_option maxRecDepth 100000 in
set_option maxHeartbeats 4000000 in
theorem node_2 (n0 b : Nat) (l : List UInt8) (X : List UInt8) (mn mx kd : Int) (bd : Bool) (bn : Int) (sc : Value) (nm : ByteArray) (sk : Value) (w : World) (hW : Wt n0 b l w)
    (hl : l.length + 4 ≤ 1000000) (hA : ∀ w1, Kept n0 b w w1 → Wt n0 b (l ++ [110, 111, 116, 32]) w1 → Calls Tryz.prog 80 #[.pointer (some ⟨b, 0, none⟩), .agg #[.int .i64 kd, .bool bd, .int .u64 bn, sc, .string nm]] w1 (WrP n0 b (l ++ [110, 111, 116, 32]) X w1)) :
    Calls Tryz.prog 41 #[.pointer (some ⟨b, 0, none⟩), .agg #[.int .i64 2, .int .i64 mn, .int .i64 mx, .int .i64 kd, .bool bd, .int .u64 bn, sc, .string nm, sk]] w (WrP n0 b l ([110, 111, 116, 32] ++ X) w) := by
  obtain ⟨W, hWW⟩ : ∃ W, W = w.alloc (.cells #[.int .i64 2, .int .i64 mn, .int .i64 mx, .int .i64 kd, .bool bd, .int .u64 bn, sc, .string nm, sk] 28) := ⟨_, rfl⟩
  have hn0 := wt_le hW
  have hb1 : Below w.heap.size w W := hWW ▸ b1 _ _
  have hk1 : Kept n0 b w W := Kept.of hb1 hn0
  have hBx : Bx W w.heap.size 28 [.int .i64 2, .int .i64 mn, .int .i64 mx, .int .i64 kd, .bool bd, .int .u64 bn, sc, .string nm, sk] := hWW ▸ Bx.new w _ _
  have hne : w.heap.size ≠ b := by have := wt_lt hW; omega
  have hW1 := hW.later hb1
  have hcell : ∀ w1, Kept n0 b W w1 → Blk w1 w.heap.size [.int .i64 2, .int .i64 mn, .int .i64 mx, .int .i64 kd, .bool bd, .int .u64 bn, sc, .string nm, sk] := fun w1 hk => (hBx.kept hk hne (by decide)).blk
  have hN := writeLit_any n0 b l [110, 111, 116, 32] ⟨#[110, 111, 116, 32]⟩ rfl W hW1 hl (wt_le hW1)
  have hA1 := fun w1 (hk : Kept n0 b W w1) (h : Wt n0 b (l ++ [110, 111, 116, 32]) w1) => hA w1 (hk1.trans hk) h
  have fin : ∀ w1 w2, Wt n0 b (l ++ [110, 111, 116, 32] ++ X) w2 → Kept n0 b W w1 → Kept n0 b w1 w2 → WrP n0 b l ([110, 111, 116, 32] ++ X) w (.returned (.tuple #[])) w2 := fun w1 w2 h1 h2 h3 => ⟨rfl, by rw [← List.append_assoc]; exact h1, hk1.trans (h2.trans h3)⟩
  unfold WrP at hA1
  clear hA hW1 hBx hb1 hk1 hW hl
  subst hWW
  go_enter Tryz.func41, Tryz.ntmps41
  go_wp2_with (first | (go_at_call 68; refine hN.mono ?_; rintro e w2 ⟨rfl, h1, h2⟩; have HX := hcell _ h2; have c3 := HX.cell 3 _ rfl; have c4 := HX.cell 4 _ rfl; have c5 := HX.cell 5 _ rfl; have c6 := HX.cell 6 _ rfl; have c7 := HX.cell 7 _ rfl; clear HX) | (go_at_call 80; refine (hA1 _ h2 h1).mono ?_; rintro e w3 ⟨rfl, h3, h4⟩))
  go_end0
  exact fin _ _ h3 h2 h4
set_option maxRecDepth 100000 in
set_option maxHeartbeats 4000000 in
theorem node_3 (n0 b : Nat) (l : List UInt8) (X : List UInt8) (mn mx kd : Int) (bd : Bool) (bn : Int) (sc : Value) (nm : ByteArray) (sk : Value) (w : World) (hW : Wt n0 b l w)
    (hK : ∀ w1, Kept n0 b w w1 → Wt n0 b l w1 → Calls Tryz.prog 82 #[.pointer (some ⟨b, 0, none⟩), .agg #[.int .i64 3, .int .i64 mn, .int .i64 mx, .int .i64 kd, .bool bd, .int .u64 bn, sc, .string nm, sk], .string ⟨#[32, 59, 32]⟩] w1 (WrP n0 b l X w1)) :
    Calls Tryz.prog 41 #[.pointer (some ⟨b, 0, none⟩), .agg #[.int .i64 3, .int .i64 mn, .int .i64 mx, .int .i64 kd, .bool bd, .int .u64 bn, sc, .string nm, sk]] w (WrP n0 b l (X) w) := by
  obtain ⟨W, hWW⟩ : ∃ W, W = w.alloc (.cells #[.int .i64 3, .int .i64 mn, .int .i64 mx, .int .i64 kd, .bool bd, .int .u64 bn, sc, .string nm, sk] 28) := ⟨_, rfl⟩
  have hn0 := wt_le hW
  have hb1 : Below w.heap.size w W := hWW ▸ b1 _ _
  have hk1 : Kept n0 b w W := Kept.of hb1 hn0
  have hBx : Bx W w.heap.size 28 [.int .i64 3, .int .i64 mn, .int .i64 mx, .int .i64 kd, .bool bd, .int .u64 bn, sc, .string nm, sk] := hWW ▸ Bx.new w _ _
  have hne : w.heap.size ≠ b := by have := wt_lt hW; omega
  have hW1 := hW.later hb1
  have hK1 := hK W hk1 hW1
  have fin : ∀ w2, Wt n0 b (l ++ X) w2 → Kept n0 b W w2 → WrP n0 b l X w (.returned (.tuple #[])) w2 := fun w2 h1 h2 => ⟨rfl, h1, hk1.trans h2⟩
  unfold WrP at hK1
  clear hK hW1 hBx hb1 hk1 hW hne
  subst hWW
  go_enter Tryz.func41, Tryz.ntmps41
  go_wp2_with (go_at_call 82; refine hK1.mono ?_; rintro e w2 ⟨rfl, h1, h2⟩)
  go_end0
  exact fin _ h1 h2
set_option maxRecDepth 100000 in
set_option maxHeartbeats 4000000 in
theorem node_4 (n0 b : Nat) (l : List UInt8) (X : List UInt8) (mn mx kd : Int) (bd : Bool) (bn : Int) (sc : Value) (nm : ByteArray) (sk : Value) (w : World) (hW : Wt n0 b l w)
    (hK : ∀ w1, Kept n0 b w w1 → Wt n0 b l w1 → Calls Tryz.prog 82 #[.pointer (some ⟨b, 0, none⟩), .agg #[.int .i64 4, .int .i64 mn, .int .i64 mx, .int .i64 kd, .bool bd, .int .u64 bn, sc, .string nm, sk], .string ⟨#[32, 124, 32]⟩] w1 (WrP n0 b l X w1)) :
    Calls Tryz.prog 41 #[.pointer (some ⟨b, 0, none⟩), .agg #[.int .i64 4, .int .i64 mn, .int .i64 mx, .int .i64 kd, .bool bd, .int .u64 bn, sc, .string nm, sk]] w (WrP n0 b l (X) w) := by
  obtain ⟨W, hWW⟩ : ∃ W, W = w.alloc (.cells #[.int .i64 4, .int .i64 mn, .int .i64 mx, .int .i64 kd, .bool bd, .int .u64 bn, sc, .string nm, sk] 28) := ⟨_, rfl⟩
  have hn0 := wt_le hW
  have hb1 : Below w.heap.size w W := hWW ▸ b1 _ _
  have hk1 : Kept n0 b w W := Kept.of hb1 hn0
  have hBx : Bx W w.heap.size 28 [.int .i64 4, .int .i64 mn, .int .i64 mx, .int .i64 kd, .bool bd, .int .u64 bn, sc, .string nm, sk] := hWW ▸ Bx.new w _ _
  have hne : w.heap.size ≠ b := by have := wt_lt hW; omega
  have hW1 := hW.later hb1
  have hK1 := hK W hk1 hW1
  have fin : ∀ w2, Wt n0 b (l ++ X) w2 → Kept n0 b W w2 → WrP n0 b l X w (.returned (.tuple #[])) w2 := fun w2 h1 h2 => ⟨rfl, h1, hk1.trans h2⟩
  unfold WrP at hK1
  clear hK hW1 hBx hb1 hk1 hW hne
  subst hWW
  go_enter Tryz.func41, Tryz.ntmps41
  go_wp2_with (go_at_call 82; refine hK1.mono ?_; rintro e w2 ⟨rfl, h1, h2⟩)
  go_end0
  exact fin _ h1 h2
theorem node_any (w0 : World) (hL : Lay w0) (b : Nat) (T : Tr) : ∀ (d : Nat) (l : List UInt8) (w : World), TrW w0 T → soundN d T.nd = true → Below w0.heap.size w0 w → Wt w0.heap.size b l w → l.length + (textN T.nd).length ≤ 1000000 →
    Calls Tryz.prog 41 #[.pointer (some ⟨b, 0, none⟩), .agg T.row.toArray] w (WrP w0.heap.size b l (textN T.nd) w) := by
  refine Tr.ind (P := fun T => ∀ (d : Nat) (l : List UInt8) (w : World), TrW w0 T → soundN d T.nd = true → Below w0.heap.size w0 w → Wt w0.heap.size b l w → l.length + (textN T.nd).length ≤ 1000000 →
    Calls Tryz.prog 41 #[.pointer (some ⟨b, 0, none⟩), .agg T.row.toArray] w (WrP w0.heap.size b l (textN T.nd) w)) (fun k mn mx g sk ks ih => ?_) T
  intro d l w hT hs hB hW hl
  obtain ⟨⟨-, hmn, hmx⟩, hga, hsl⟩ := hT.one
  have hkid := fun t (ht : t ∈ ks) => hT.kid ht
  have hone := fun t (ht : t ∈ ks) => (hT.kid ht).one
  rw [Tr.nd, soundN, Bool.and_eq_true, Bool.and_eq_true] at hs
  obtain ⟨⟨-, hn⟩, hks⟩ := hs
  rw [soundL_all, ndL_map, List.all_map] at hks
  have hN : ∀ t ∈ ks, ∀ acc w1, Below w0.heap.size w0 w1 → Wt w0.heap.size b acc w1 → acc.length + (textN t.nd).length ≤ 1000000 → Calls Tryz.prog 41 #[.pointer (some ⟨b, 0, none⟩), .agg t.row.toArray] w1 (WrP w0.heap.size b acc (textN t.nd) w1) := fun t ht acc w1 h1 h2 h3 =>
    ih t ht (d + 1) acc w1 (hkid t ht) (List.all_eq_true.1 hks t ht) h1 h2 h3
  obtain ⟨⟨kd, bd, bn, cs, nm⟩, sc⟩ := g
  rw [Tr.nd] at hl ⊢
  rw [textN] at hl ⊢
  simp only [Tr.row]
  dsimp only at hl hn ⊢
  unfold nodeB at hn
  by_cases e1 : k = 1
  · subst e1
    rw [if_pos rfl] at hl hn ⊢
    simp only [Bool.and_eq_true] at hn
    rw [List.length_append] at hl
    exact node_1 w0.heap.size b l _ _ mn mx kd bd bn sc (strOf nm) sk w hW
      (fun w1 hk h => atomw_any w0 hL b l ⟨⟨kd, bd, bn, cs, nm⟩, sc⟩ hga hn.1.1.1 w1 h (hB.trans hk.1) (by dsimp only; omega))
      (fun w1 hk h => timesw_any w0 hL b _ mn mx hmn hmx w1 h (hB.trans hk.1) (by rw [List.length_append]; omega))
  · rw [if_neg e1] at hl hn ⊢
    by_cases e2 : k = 2
    · subst e2
      rw [if_pos rfl] at hl hn ⊢
      simp only [Bool.and_eq_true] at hn
      rw [List.length_append] at hl
      exact node_2 w0.heap.size b l _ mn mx kd bd bn sc (strOf nm) sk w hW (by simp at hl; omega)
        (fun w1 hk h => atomw_any w0 hL b _ ⟨⟨kd, bd, bn, cs, nm⟩, sc⟩ hga hn.1.1 w1 h (hB.trans hk.1) (by dsimp only; rw [List.length_append]; omega))
    · rw [if_neg e2] at hl hn ⊢
      by_cases e3 : k = 3
      · subst e3
        rw [if_pos rfl] at hl ⊢
        exact node_3 w0.heap.size b l _ mn mx kd bd bn sc (strOf nm) sk w hW
          (fun w1 hk h => kids_any w0.heap.size b l w0 3 mn mx kd bd bn sc (strOf nm) sk ks [32, 59, 32] ⟨#[32, 59, 32]⟩ rfl w1 rfl (hB.trans hk.1) hsl hone h hl hN)
      · rw [if_neg e3] at hl ⊢
        by_cases e4 : k = 4
        · subst e4
          rw [if_pos rfl] at hl ⊢
          exact node_4 w0.heap.size b l _ mn mx kd bd bn sc (strOf nm) sk w hW
            (fun w1 hk h => kids_any w0.heap.size b l w0 4 mn mx kd bd bn sc (strOf nm) sk ks [32, 124, 32] ⟨#[32, 124, 32]⟩ rfl w1 rfl (hB.trans hk.1) hsl hone h hl hN)
        · rw [if_neg (fun h => h.elim e3 e4)] at hn
          cases hn
end Go.Proofs.YtfibmdbplfghcaaGreatDoor
