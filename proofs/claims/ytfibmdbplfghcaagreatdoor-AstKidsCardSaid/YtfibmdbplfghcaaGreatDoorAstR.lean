/- Walks: what the writer writes of a query; Pattern and Print. -/
import Derived.Test.YtfibmdbplfghcaaGreatDoorAstQ
namespace Go.Proofs.YtfibmdbplfghcaaGreatDoor
open Go.RowKit Go.Shelf
open A8 Tk7 Lb

theorem fresh_wt (n0 : Nat) (w : World) (hn : n0 ≤ w.heap.size) : Wt n0 w.heap.size [] (w.alloc (.cells #[.pointer none, .slice none 0 0] 68)) :=
  .inl ⟨hn, .slice none 0 0, World.alloc_heap_new w _, World.ownsRow_nil _ _ _ _, by simp [Value.ownBlock]⟩
set_option maxRecDepth 100000 in
set_option maxHeartbeats 2000000 in
theorem wrText_any (n0 b : Nat) (l : List UInt8) (w : World) (hW : Wt n0 b l w) (h0 : l ≠ []) :
    Calls Tryz.prog 35 #[.pointer (some ⟨b, 0, none⟩)] w fun e w' => e = .returned (.tuple #[.string (strOf (if l.length ≤ 400 then l else [])), .int .i64 (if l.length ≤ 400 then 0 else 4)]) ∧ Below n0 w w' := by
  have hLn := wrLen_any n0 b l w hW
  have hSt := wrString_any n0 b l w hW h0
  by_cases h : l.length ≤ 400
  · rw [if_pos h, if_pos h]
    have h' : ¬ (400 : Int) < (l.length : Int) := by omega
    obtain ⟨s, hs⟩ : ∃ s, s = strOf l := ⟨_, rfl⟩
    rw [← hs] at hSt ⊢
    clear hW h0 hs h
    go_enter Tryz.func35, Tryz.ntmps35
    go_wp2_with (first | (go_at_call 74; refine hLn.mono ?_; rintro e w2 ⟨rfl, rfl⟩) | (go_at_call 75; refine hSt.mono ?_; rintro e w3 ⟨rfl, hb⟩))
    go_ret2
    exact ⟨rfl, hb⟩
  · rw [if_neg h, if_neg h]
    have h' : (400 : Int) < (l.length : Int) := by omega
    clear hW h0 h hSt
    go_enter Tryz.func35, Tryz.ntmps35
    go_wp2_with (go_at_call 74; refine hLn.mono ?_; rintro e w2 ⟨rfl, rfl⟩)
    go_ret2
    exact ⟨rfl, Below.refl _ _⟩
set_option maxRecDepth 100000 in
set_option maxHeartbeats 8000000 in
theorem query_walk (n0 b : Nat) (l X Y H E : List UInt8) (k mn mx kd : Int) (bd : Bool) (bn : Int) (sc : Value) (nm : ByteArray) (sk : Value) (wi : Int) (sh se : Value) (w : World) (hW : Wt n0 b l w) (hwi : IntKind.i64.wrap wi = wi) (hl : l.length + X.length + 8 ≤ 1000000)
    (hN : ∀ w1, Kept n0 b w w1 → Wt n0 b l w1 → Calls Tryz.prog 41 #[.pointer (some ⟨b, 0, none⟩), .agg #[.int .i64 k, .int .i64 mn, .int .i64 mx, .int .i64 kd, .bool bd, .int .u64 bn, sc, .string nm, sk]] w1 (WrP n0 b l X w1))
    (hY : ∀ w1 l1, Kept n0 b w w1 → l1 = l ++ X ++ [32, 119, 105, 116, 104, 105, 110, 32] → Wt n0 b l1 w1 → Calls Tryz.prog 69 #[.pointer (some ⟨b, 0, none⟩), .int .i64 wi] w1 (WrP n0 b l1 Y w1))
    (hH : ∀ w1 l1, Kept n0 b w w1 → l1 = l ++ X ++ [32, 119, 105, 116, 104, 105, 110, 32] ++ Y → Wt n0 b l1 w1 → Calls Tryz.prog 70 #[.pointer (some ⟨b, 0, none⟩), .string ⟨#[32, 104, 97, 118, 105, 110, 103, 32]⟩, sh, .string ⟨#[32, 97, 110, 100, 32]⟩, .string ⟨#[]⟩, .func (.func 71) #[.pointer (some ⟨b, 0, none⟩)] #[]] w1 (WrP n0 b l1 H w1))
    (hE : ∀ w1 l1, Kept n0 b w w1 → l1 = l ++ X ++ [32, 119, 105, 116, 104, 105, 110, 32] ++ Y ++ H → Wt n0 b l1 w1 → Calls Tryz.prog 72 #[.pointer (some ⟨b, 0, none⟩), .string ⟨#[32, 101, 109, 105, 116, 32]⟩, se, .string ⟨#[44, 32]⟩, .string ⟨#[]⟩, .func (.func 73) #[.pointer (some ⟨b, 0, none⟩)] #[]] w1 (WrP n0 b l1 E w1)) :
    Calls Tryz.prog 34 #[.pointer (some ⟨b, 0, none⟩), .agg #[.int .i64 k, .int .i64 mn, .int .i64 mx, .int .i64 kd, .bool bd, .int .u64 bn, sc, .string nm, sk, .int .u64 wi, sh, se]] w (WrP n0 b l (X ++ [32, 119, 105, 116, 104, 105, 110, 32] ++ Y ++ H ++ E) w) := by
  obtain ⟨W, hWW⟩ : ∃ W, W = w.alloc (.cells #[.int .i64 k, .int .i64 mn, .int .i64 mx, .int .i64 kd, .bool bd, .int .u64 bn, sc, .string nm, sk, .int .u64 wi, sh, se] 32) := ⟨_, rfl⟩
  have hn0 := wt_le hW
  have hb1 : Below w.heap.size w W := hWW ▸ b1 _ _
  have hk1 : Kept n0 b w W := Kept.of hb1 hn0
  have hBx : Bx W w.heap.size 32 [.int .i64 k, .int .i64 mn, .int .i64 mx, .int .i64 kd, .bool bd, .int .u64 bn, sc, .string nm, sk, .int .u64 wi, sh, se] := hWW ▸ Bx.new w _ _
  have hne : w.heap.size ≠ b := by have := wt_lt hW; omega
  have hW1 := hW.later hb1
  have hcell : ∀ w1, Kept n0 b W w1 → Blk w1 w.heap.size [.int .i64 k, .int .i64 mn, .int .i64 mx, .int .i64 kd, .bool bd, .int .u64 bn, sc, .string nm, sk, .int .u64 wi, sh, se] := fun w1 hk => (hBx.kept hk hne (by decide)).blk
  have hN1 := hN W hk1 hW1
  have hS1 := fun w1 (h : Wt n0 b (l ++ X) w1) => writeLit_any n0 b (l ++ X) [32, 119, 105, 116, 104, 105, 110, 32] ⟨#[32, 119, 105, 116, 104, 105, 110, 32]⟩ rfl w1 h (by rw [List.length_append]; simp only [List.length_cons, List.length_nil]; omega) (wt_le h)
  obtain ⟨l1, hl1⟩ : ∃ l1, l1 = l ++ X ++ [32, 119, 105, 116, 104, 105, 110, 32] := ⟨_, rfl⟩
  have hY1 := fun w1 (hk : Kept n0 b W w1) (h : Wt n0 b l1 w1) => hY w1 l1 (hk1.trans hk) hl1 h
  have hH1 := fun w1 (hk : Kept n0 b W w1) (h : Wt n0 b (l1 ++ Y) w1) => hH w1 (l1 ++ Y) (hk1.trans hk) (by rw [hl1]) h
  have hE1 := fun w1 (hk : Kept n0 b W w1) (h : Wt n0 b (l1 ++ Y ++ H) w1) => hE w1 (l1 ++ Y ++ H) (hk1.trans hk) (by rw [hl1]) h
  have fin : ∀ w2, Wt n0 b (l1 ++ Y ++ H ++ E) w2 → Kept n0 b W w2 → WrP n0 b l (X ++ [32, 119, 105, 116, 104, 105, 110, 32] ++ Y ++ H ++ E) w (.returned (.tuple #[])) w2 := fun w2 h1 h2 => ⟨rfl, by rw [hl1] at h1; simpa only [List.append_assoc] using h1, hk1.trans h2⟩
  rw [← hl1] at hS1
  unfold WrP at hN1 hY1 hH1 hE1
  clear hN hY hH hE hW1 hBx hb1 hk1 hW hne hl1 hl
  subst hWW
  go_enter Tryz.func34, Tryz.ntmps34
  go_wp2_with (go_at_call 41; refine hN1.mono ?_; rintro e w2 ⟨rfl, h2, k2⟩)
  go_wp2_with (go_at_call 68; refine (hS1 _ h2).mono ?_; rintro e w3 ⟨rfl, h3, k3⟩; have hK3 := k2.trans k3; have c9 := (hcell _ hK3).cell 9 _ rfl)
  go_wp2_with (go_at_call 69; refine (hY1 _ hK3 h3).mono ?_; rintro e w4 ⟨rfl, h4, k4⟩; have hK4 := hK3.trans k4; have c10 := (hcell _ hK4).cell 10 _ rfl)
  go_wp2_with (go_at_call 70; refine (hH1 _ hK4 h4).mono ?_; rintro e w5 ⟨rfl, h5, k5⟩; have hK5 := hK4.trans k5; have c11 := (hcell _ hK5).cell 11 _ rfl)
  go_wp2_with (go_at_call 72; refine (hE1 _ hK5 h5).mono ?_; rintro e w6 ⟨rfl, h6, k6⟩)
  go_end0
  exact fin _ h6 (hK5.trans k6)
end Go.Proofs.YtfibmdbplfghcaaGreatDoor
