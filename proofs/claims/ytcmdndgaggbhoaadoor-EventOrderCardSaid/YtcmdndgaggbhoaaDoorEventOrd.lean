/- Walk: EventOrder. -/
import Derived.Test.YtcmdndgaggbhoaaDoorEventL
namespace Go.Proofs.YtcmdndgaggbhoaaDoor.Ev
open Go.RowKit Go.Shelf

/-- What a region holds fast beside the tables and what lay: six cells. -/
theorem held6t {P : Program} {f : FuncId} {args : Array Value} {v : Value} {W wx : World} {a0 a1 a2 a3 a4 a5 : Addr} {c0 c1 c2 c3 c4 c5 : Value} (hc : ∀ w, Calls P f args w fun e w' => e = .returned v ∧ Below w.heap.size w w')
    (h0 : wx.cell? a0 = some c0) (h1 : wx.cell? a1 = some c1) (h2 : wx.cell? a2 = some c2) (h3 : wx.cell? a3 = some c3) (h4 : wx.cell? a4 = some c4) (h5 : wx.cell? a5 = some c5) (ht : Tab2 wx) (h : Below W.heap.size W wx) :
    Calls P f args wx fun e w' => e = .returned v ∧ w'.cell? a0 = some c0 ∧ w'.cell? a1 = some c1 ∧ w'.cell? a2 = some c2 ∧ w'.cell? a3 = some c3 ∧ w'.cell? a4 = some c4 ∧ w'.cell? a5 = some c5 ∧ Tab2 w' ∧ Below W.heap.size W w' :=
  (hc wx).mono fun _ w' hh =>
    have hl : ∀ {p : Addr} {v : Value}, wx.cell? p = some v → w'.cell? p = some v := fun {_ _} h => (hh.2.cell (World.block_lt_of_cell? wx _ h)).trans h
    ⟨hh.1, hl h0, hl h1, hl h2, hl h3, hl h4, hl h5, ht.below hh.2, bstep h hh.2⟩
attribute [local go_sem] tab2_drew below_drew_eq
attribute [local simp] tab2_drew below_drew_eq
/-- Three comparisons, as the order of one pair of numbers after another has them. -/
theorem cmp_cases (a m b n c o : Int) :
    (cmpI a m b n = 1) ∨ (cmpI a m b n = 0 ∧ a = b ∧ m = n ∧ (0 < cmpI b n c o ∨ ¬ 0 < cmpI b n c o ∧ cmpI a m c o ≤ 0)) ∨ (cmpI a m b n = -1 ∧ (0 < cmpI b n c o ∨ ¬ 0 < cmpI b n c o ∧ cmpI a m c o < 0)) := by
  unfold cmpI
  split
  · rename_i h
    obtain ⟨rfl, rfl⟩ := h
    refine .inr (.inl ⟨rfl, rfl, rfl, ?_⟩)
    split
    · exact .inr ⟨by decide, by decide⟩
    · split
      · exact .inr ⟨by decide, by decide⟩
      · exact .inl (by decide)
  · split
    · refine .inr (.inr ⟨rfl, ?_⟩)
      split
      · refine .inr ⟨by decide, ?_⟩
        rw [if_neg (by omega), if_pos (by omega)]
        decide
      · split
        · refine .inr ⟨by decide, ?_⟩
          rw [if_neg (by omega), if_pos (by omega)]
          decide
        · exact .inl (by decide)
    · exact .inl rfl
theorem cmp_turned (a m b n : Int) : cmpI b n a m = -cmpI a m b n := by
  unfold cmpI
  split
  · rw [if_pos (by omega)]; rfl
  · rw [if_neg (by omega : ¬ (a = b ∧ m = n))]
    split
    · rw [if_neg (by omega)]
    · rw [if_pos (by omega)]; rfl
theorem cmp_zero {a m b n : Int} (h : ¬ cmpI a m b n = 0) : ¬ (a = b ∧ m = n) := fun e => h (by simp [cmpI, e.1, e.2])
theorem cmpRaw (a m b n : Int) (w : World) :
    Calls Tryd.prog 24 #[.agg #[.int .u64 a, .int .u64 m], .agg #[.int .u64 b, .int .u64 n]] w fun e w' => e = .returned (.int .i64 (cmpI a m b n)) ∧ Below w.heap.size w w' := compare_any a m b n w
set_option maxRecDepth 100000 in
set_option maxHeartbeats 4000000 in
theorem order_any (a m b n c o : Int) (w : World) (ht : Tab2 w) :
    Calls Tryd.prog 6 #[idv a m, idv b n, idv c o] w fun e w' => e = .returned (.bool true) ∧ Below w.heap.size w w' := by
  have hq := cmp_cases a m b n c o
  have h0 := @cmp_zero a m b n
  have HQ := Lib.hid hq
  have H0 := Lib.hid h0
  clear hq h0
  simp only [idv]
  go_enter Tryd.func6, Tryd.ntmps6
  go_wp2_with fail
  refine named_wp fun W hW => ?_
  have hB : Below w.heap.size w W := by rw [hW]; go_grown
  have hA : Blk W w.heap.size [.int .u64 a, .int .u64 m] := by rw [hW]; exact ((Blk.is _ rfl).alloc _).alloc _
  have hE : Blk W (w.heap.size + 1) [.int .u64 b, .int .u64 n] := by rw [hW]; exact (Blk.is _ (by simp)).alloc _
  have hC : Blk W (w.heap.size + 2) [.int .u64 c, .int .u64 o] := by rw [hW]; exact Blk.is _ (by simp)
  have ht1 : Tab2 W := ht.below hB
  clear hW ht
  have k0 := hA.cell 0 _ rfl
  have k1 := hA.cell 1 _ rfl
  have k2 := hE.cell 0 _ rfl
  have k3 := hE.cell 1 _ rfl
  have k4 := hC.cell 0 _ rfl
  have k5 := hC.cell 1 _ rfl
  clear hA hE hC
  go_region_held3 (fun w' => w'.cell? ⟨w.heap.size, 0, none⟩ = some (.int .u64 a) ∧ w'.cell? ⟨w.heap.size, 1, none⟩ = some (.int .u64 m) ∧ w'.cell? ⟨w.heap.size + 1, 0, none⟩ = some (.int .u64 b) ∧ w'.cell? ⟨w.heap.size + 1, 1, none⟩ = some (.int .u64 n) ∧ w'.cell? ⟨w.heap.size + 2, 0, none⟩ = some (.int .u64 c) ∧ w'.cell? ⟨w.heap.size + 2, 1, none⟩ = some (.int .u64 o) ∧ Tab2 w' ∧ Below w.heap.size w w') (go_keep)
    ((go_at_call 24; refine (held6t (W := w) (a0 := ⟨w.heap.size, 0, none⟩) (a1 := ⟨w.heap.size, 1, none⟩) (a2 := ⟨w.heap.size + 1, 0, none⟩) (a3 := ⟨w.heap.size + 1, 1, none⟩) (a4 := ⟨w.heap.size + 2, 0, none⟩) (a5 := ⟨w.heap.size + 2, 1, none⟩) (c0 := .int .u64 a) (c1 := .int .u64 m) (c2 := .int .u64 b) (c3 := .int .u64 n) (c4 := .int .u64 c) (c5 := .int .u64 o) (cmpRaw _ _ _ _) ?_ ?_ ?_ ?_ ?_ ?_ ?_ ?_).mono ?_; (simp [*]); (simp [*]); (simp [*]); (simp [*]); (simp [*]); (simp [*]); (simp [*]); (simp [*]); rintro e w9 ⟨rfl, g0, g1, g2, g3, g4, g5, g6, g7⟩))
  clear k0 k1 k2 k3 k4 k5
  rcases HQ.out with hx | ⟨hx, e1, e2, hyz⟩ | ⟨hx, hyz⟩
  · have hne := H0.out (by rw [hx]; decide)
    clear H0 HQ
    by_cases h1 : a = b
    · subst h1
      have h2 : ¬ m = n := fun e => hne ⟨rfl, e⟩
      clear hne
      have hr := cmp_turned a m a n
      rw [hx] at hr
      go_wp2_with (go_at_call 24; refine (cmpRaw _ _ _ _ _).mono ?_; rintro e w8 ⟨rfl, hb8⟩)
      refine (awake_any _ (g6.below hb8)).mono ?_
      rintro e w7 ⟨rfl, hb7⟩
      go_wp2
      go_ret
      exact ⟨rfl, bstep (bstep g7 hb8) hb7⟩
    · clear hne
      have hr := cmp_turned a m b n
      rw [hx] at hr
      go_wp2_with (go_at_call 24; refine (cmpRaw _ _ _ _ _).mono ?_; rintro e w8 ⟨rfl, hb8⟩)
      refine (awake_any _ (g6.below hb8)).mono ?_
      rintro e w7 ⟨rfl, hb7⟩
      go_wp2
      go_ret
      exact ⟨rfl, bstep (bstep g7 hb8) hb7⟩
  · subst e1
    subst e2
    clear H0 HQ
    rcases hyz with hy | ⟨hy, hz⟩
    · go_wp2_with (go_at_call 24; refine (cmpRaw _ _ _ _ _).mono ?_; rintro e w8 ⟨rfl, hb8⟩)
      refine (awake_any _ (g6.below hb8)).mono ?_
      rintro e w7 ⟨rfl, hb7⟩
      go_wp2
      go_ret
      exact ⟨rfl, bstep (bstep g7 hb8) hb7⟩
    · go_wp2_with (go_at_call 24; refine (cmpRaw _ _ _ _ _).mono ?_; rintro e w8 ⟨rfl, hb8⟩)
      refine (awake_any _ (g6.below hb8)).mono ?_
      rintro e w7 ⟨rfl, hb7⟩
      go_wp2
      go_ret
      exact ⟨rfl, bstep (bstep g7 hb8) hb7⟩
  · rcases hyz with hy | ⟨hy, hz⟩
    · have hne := H0.out (by rw [hx]; decide)
      clear H0 HQ
      by_cases h1 : a = b
      · subst h1
        have h2 : ¬ m = n := fun e => hne ⟨rfl, e⟩
        clear hne
        have hr := cmp_turned a m a n
        rw [hx] at hr
        go_wp2_with (go_at_call 24; refine (cmpRaw _ _ _ _ _).mono ?_; rintro e w8 ⟨rfl, hb8⟩)
        refine (awake_any _ (g6.below hb8)).mono ?_
        rintro e w7 ⟨rfl, hb7⟩
        go_wp2
        go_ret
        exact ⟨rfl, bstep (bstep g7 hb8) hb7⟩
      · clear hne
        have hr := cmp_turned a m b n
        rw [hx] at hr
        go_wp2_with (go_at_call 24; refine (cmpRaw _ _ _ _ _).mono ?_; rintro e w8 ⟨rfl, hb8⟩)
        refine (awake_any _ (g6.below hb8)).mono ?_
        rintro e w7 ⟨rfl, hb7⟩
        go_wp2
        go_ret
        exact ⟨rfl, bstep (bstep g7 hb8) hb7⟩
    · have hne := H0.out (by rw [hx]; decide)
      clear H0 HQ
      by_cases h1 : a = b
      · subst h1
        have h2 : ¬ m = n := fun e => hne ⟨rfl, e⟩
        clear hne
        have hr := cmp_turned a m a n
        rw [hx] at hr
        have hz2 : cmpI a m c o ≤ 0 := by omega
        go_wp2_with (go_at_call 24; refine (cmpRaw _ _ _ _ _).mono ?_; rintro e w8 ⟨rfl, hb8⟩)
        refine (awake_any _ (g6.below hb8)).mono ?_
        rintro e w7 ⟨rfl, hb7⟩
        go_wp2
        go_ret
        exact ⟨rfl, bstep (bstep g7 hb8) hb7⟩
      · clear hne
        have hr := cmp_turned a m b n
        rw [hx] at hr
        have hz2 : cmpI a m c o ≤ 0 := by omega
        go_wp2_with (go_at_call 24; refine (cmpRaw _ _ _ _ _).mono ?_; rintro e w8 ⟨rfl, hb8⟩)
        refine (awake_any _ (g6.below hb8)).mono ?_
        rintro e w7 ⟨rfl, hb7⟩
        go_wp2
        go_ret
        exact ⟨rfl, bstep (bstep g7 hb8) hb7⟩
end Go.Proofs.YtcmdndgaggbhoaaDoor.Ev
