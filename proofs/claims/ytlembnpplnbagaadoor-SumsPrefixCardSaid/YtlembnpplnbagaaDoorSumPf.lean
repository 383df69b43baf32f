/- Walk: SumsPrefix: a list's sum is its last running sum; beginnings; one number more. -/
import Derived.Test.YtlembnpplnbagaaDoorSumQ
import Derived.Test.YtlembnpplnbagaaDoorSumPm
import Derived.Test.YtlembnpplnbagaaDoorSumArg
import Derived.Test.YtlembnpplnbagaaDoorSumLs
namespace Go.Proofs.YtlembnpplnbagaaDoor
open Go.RowKit Go.Shelf
open Sm

theorem own1_of {B : Nat} {e : TypeId} {w wr w1 : World} {us : List Value} {v v1 : Value} {m : Nat} (h : Own1 B e w [] v wr) (h1 : w1.ownsRow B e 1 v1 m us) (hm : us.length = m) (hg : wr.grownBy w1 v.ownBlock) : Own1 B e w us v1 w1 := by
  have hb : Below B w w1 := h.2.1.grown hg h.2.2 (fun k hk => (h.1.lt k hk).1)
  exact ⟨by rw [hm]; exact h1, hb, Nat.le_trans h.2.2 hg.size⟩
theorem cellNext (w : World) (o : Obj) (x : Value) (t : TypeId) : ∀ j u, [x][j]? = some u → ((w.alloc o).alloc (.cells #[x] t)).cell? ((⟨w.heap.size + 1, 0, none⟩ : Addr).add j) = some u := by
  have h := cell_one_new (w.alloc o) x t
  simpa using h
set_option maxRecDepth 100000 in
set_option maxHeartbeats 16000000 in
theorem prefix_any (v : Value) (l : List Int) (n : Int) (w : World) (h : Slc w v (vals .i64 l)) (hl : ∀ x ∈ l, okI x = true) (hcap : Cap5 v) (hn : okI n = true) (ht : Laid5 w) :
    Calls Tryd.prog 9 #[v, .int .i64 n] w fun e w' => e = .returned (.bool true) ∧ Below w.heap.size w w' := by
  have hK := known5_any w ht
  by_cases h60 : 60 < l.length
  · obtain ⟨A, cap, rfl, hm, hc⟩ := h.ints
    have c1 : (60 : Int) < (l.length : Int) := by omega
    clear h hc h60 hl ht hcap hn
    go_enter Tryd.func9, Tryd.ntmps9
    go_wp2_with (go_at_call 7; refine hK.mono ?_; rintro e w1 ⟨rfl, hb⟩)
    go_ret
    exact ⟨rfl, hb⟩
  · have hS := fun (w : World) (v : Value) (h : Slc w v (vals .i64 l)) => sum_any v l w h hl (by omega)
    have hR := fun (w : World) (v : Value) (h : Slc w v (vals .i64 l)) => sumRunning_any v l w h hl (by omega)
    have hP : ∀ (w : World) (a : Addr) (m cap k : Nat) (X : Int), (runI l)[k]? = some X → Slc w (.slice (some a) m cap) (vals .i64 l) → Calls Tryd.prog 22 #[.slice (some a) (k + 1) cap] w fun e w' => e = .returned (.tuple #[.int .i64 X, .int .i64 0]) ∧ Below w.heap.size w w' := fun w a m cap k X hX h => by
      obtain ⟨hk, rfl⟩ := List.getElem?_eq_some_iff.1 hX
      have hle := run_le l
      have h2 := sum_any _ _ w (slc_take (k := k + 1) h (by omega)) (fun x hx => hl x (List.mem_of_mem_take hx)) (by rw [List.length_take]; omega)
      rw [(run_take hk).1, (run_take hk).2] at h2
      exact h2
    have hM : runE l = 0 → ∀ (w : World) (v : Value), Slc w v (vals .i64 (l ++ [n])) → Calls Tryd.prog 22 #[v] w fun e w' => e = .returned (.tuple #[.int .i64 (numI (sumN l + n)), .int .i64 (errI (sumN l + n))]) ∧ Below w.heap.size w w' := fun h0 w v h => by
      have h2 := sum_any v (l ++ [n]) w h (fun x hx => by rcases List.mem_append.1 hx with hx | hx; exact hl x hx; obtain rfl := List.mem_singleton.1 hx; exact hn) (by rw [List.length_append]; simp; omega)
      rw [(run_snoc h0).1, (run_snoc h0).2] at h2
      exact h2
    have hA := fun w => add_any (sumN l) n (sumN_ok l) hn w
    unfold two at hA
    have hf := run_facts l
    have hlast : runE l = 0 → 0 < (runI l).length → (runI l)[(runI l).length - 1]? = some (sumN l) := fun h0 hp => by
      rw [sumN_last (R := runI l) rfl h0 hp]
      exact List.getElem?_eq_getElem (by omega)
    have hnil := sumN_nil (l := l)
    obtain ⟨A, cap, rfl, hm, _⟩ := h.ints
    have HH := Lib.hid h
    have HC : Hid (l.length ≤ cap) := by
      obtain ⟨A', n', cap', e, hle⟩ := hcap
      obtain ⟨-, hn', hc'⟩ := Value.slice.inj e
      exact Lib.hid (by omega)
    obtain ⟨L, hL⟩ : ∃ L, L = l.length := ⟨_, rfl⟩
    obtain ⟨R, hRe⟩ : ∃ R, R = runI l := ⟨_, rfl⟩
    obtain ⟨r, hr⟩ : ∃ r, r = R.length := ⟨_, rfl⟩
    obtain ⟨s, hs⟩ : ∃ s, s = sumN l := ⟨_, rfl⟩
    obtain ⟨E, hE⟩ : ∃ E, E = runE l := ⟨_, rfl⟩
    have c1 : ¬ (60 : Int) < (L : Int) := by omega
    simp only [← hL, ← hRe, ← hs, ← hE] at hS hR hP hM hA hf hlast hnil HH HC hm h60 ⊢
    simp only [← hr] at hf hlast
    have HL := Lib.hid hL
    have HR := Lib.hid hr
    clear hL hRe hr hs hE h hcap hl ht hn
    rcases hf with ⟨rfl, rfl⟩ | ⟨rfl, hrL⟩
    · have hM' := hM rfl
      clear hM
      have hM := hM'
      clear hM'
      rcases HH.out.split with ⟨hv, hl0⟩ | ⟨a, cap', hv, _, _⟩
      · obtain ⟨rfl, -, rfl⟩ := Value.slice.inj hv
        have hl00 : l = [] := by cases l with | nil => rfl | cons x xs => simp [vals] at hl0
        have HV := Lib.hid hl00
        have hr0 : r = 0 := by have := HL.out; rw [hl00] at this; exact this
        obtain ⟨hs0, -⟩ := hnil hr0
        subst hs0 hr0
        clear hv hl0 hl00 hnil hlast hP
        go_enter Tryd.func9, Tryd.ntmps9
        go_wp2_with (first
          | (go_at_call 7; refine hK.mono ?_; rintro e w1 ⟨rfl, B1⟩)
          | (go_at_call 22; refine (hS _ _ (HH.out.below B1)).mono ?_; rintro e w2 ⟨rfl, hb2⟩; have B2 := bstep B1 hb2)
          | (go_at_call 24; refine (hR _ _ (HH.out.below B2)).mono ?_; rintro e w3 ⟨r1, rfl, R1, hb3⟩; have B3 := Lib.hid (bstep B2 hb3); have R3 := Lib.hid R1; obtain ⟨Ar, cr, rfl, _, _⟩ := R1.ints; rw [← HR.out]; clear R1 B1 B2 hb2 hb3))
        have R3' := R3.out
        rw [← HR.out] at R3'
        have R4 := Lib.hid R3'
        clear R3' R3
        go_loopw [10] (fun i wr => ∃ k : Nat, k ≤ 0 ∧ i = .int .i64 (k : Int) ∧ Below w3.heap.size w3 wr) (fun i _ => 0 - (intOf i).toNat)
        case atStart => exact ⟨0, Nat.zero_le _, rfl, Below.refl _ _⟩
        case round =>
          obtain ⟨k, hk, rfl, hB⟩ := hrel
          obtain ⟨W0, hW0⟩ : ∃ W, W = wr := ⟨_, rfl⟩
          subst hW0
          have HB := Lib.hid hB
          have BW := Lib.hid (bstep B3.out hB)
          clear hB
          by_cases hlt : k < 0
          · exact absurd hlt (by omega)
          · clear hlt
            obtain ⟨i0, hi, hz0, hz1, hz2⟩ := info_parts infoI64
            have hown : Own1 W0.heap.size 2 W0 [] (.slice (some ⟨W0.heap.size, 0, none⟩) 0 0) (W0.alloc (.cells #[] 2)) := Own1.made _ _ _ (by decide) rfl
            have hlen : (vals .i64 l).length = l.length := vals_length _ _
            go_wp2_with (first
              | (at_builtin; refine wpList_append_own _ rfl _ _ 30 rfl W0.heap.size 2 i0 (.int .i64 0) 1 8 Tryd.underlying30 hi hz0 hz1 hz2 rfl (by decide) _ _ _ rfl (hown.1.alloc _) ⟨W0.heap.size + 1, 0, none⟩ 1 1 [.int .i64 n] rfl rfl (cellNext _ _ _ _) (by simp [Value.oneCell']) (by simp; unfold maxLen; omega) (by simp) (by have := hown.2.2; simp at this ⊢; omega) ?_; intro v8 w8 hown'' hgrow' _; have hown2 := hown.snoc hown'' hgrow'; have S8 : Slc w8 v8 (vals .i64 (l ++ [n])) := (by rw [vals_snoc]; rw [HV.out]; exact hown2.slc); have B8 := hown2.2.1)
              | (go_at_call 22; (with_reducible refine (hM _ _ S8).mono ?_); rintro e w9 ⟨rfl, hb9⟩; have B9 := bstep B8 hb9)
              | (go_at_call 11; (with_reducible refine (hA _).mono ?_); rintro e w' ⟨rfl, rfl⟩))
            go_ret
            exact ⟨rfl, bstep BW.out B9⟩
      · obtain ⟨rfl, -, rfl⟩ := Value.slice.inj hv
        clear hv
        have HLAST := Lib.hid (hlast rfl)
        have HNIL := Lib.hid hnil
        clear hlast hnil
        go_enter Tryd.func9, Tryd.ntmps9
        go_wp2_with (first
          | (go_at_call 7; refine hK.mono ?_; rintro e w1 ⟨rfl, B1⟩)
          | (go_at_call 22; refine (hS _ _ (HH.out.below B1)).mono ?_; rintro e w2 ⟨rfl, hb2⟩; have B2 := bstep B1 hb2)
          | (go_at_call 24; refine (hR _ _ (HH.out.below B2)).mono ?_; rintro e w3 ⟨r1, rfl, R1, hb3⟩; have B3 := Lib.hid (bstep B2 hb3); have R3 := Lib.hid R1; obtain ⟨Ar, cr, rfl, _, _⟩ := R1.ints; rw [← HR.out]; clear R1 B1 B2 hb2 hb3))
        have R3' := R3.out
        rw [← HR.out] at R3'
        have R4 := Lib.hid R3'
        clear R3' R3
        go_loopw [10] (fun i wr => ∃ k : Nat, k ≤ r ∧ i = .int .i64 (k : Int) ∧ Below w3.heap.size w3 wr) (fun i _ => r - (intOf i).toNat)
        case atStart => exact ⟨0, Nat.zero_le _, rfl, Below.refl _ _⟩
        case round =>
          obtain ⟨k, hk, rfl, hB⟩ := hrel
          obtain ⟨W0, hW0⟩ : ∃ W, W = wr := ⟨_, rfl⟩
          subst hW0
          have HB := Lib.hid hB
          have BW := Lib.hid (bstep B3.out hB)
          clear hB
          by_cases hlt : k < r
          · obtain ⟨a3, rfl, hc3⟩ := ints_at (R4.out.below HB.out) k (by have := HR.out; omega)
            have hlt3 := World.block_lt_of_cell? W0 _ hc3
            have hkR : k < R.length := by have := HR.out; omega
            obtain ⟨X, hX⟩ : ∃ X, X = R[k]'hkR := ⟨_, rfl⟩
            rw [← hX] at hc3
            have hp := hP W0 a _ cap k X (by rw [hX]; exact List.getElem?_eq_getElem hkR) (HH.out.below BW.out)
            have z1 : (k : Int) < (r : Int) := by omega
            have z2 : (k : Int) + 1 ≤ (cap : Int) := by have := HC.out; omega
            have z3 : IntKind.i64.wrap ((k : Int) + 1) = (k : Int) + 1 := IntWalk.i64_in _ ⟨by omega, by have := HL.out; omega⟩
            have z4 : (0 : Int) ≤ (k : Int) + 1 := by omega
            have z5 : ((k : Int) + 1).toNat = k + 1 := by omega
            clear hX hkR
            go_wp2_with (go_at_call 22; refine hp.mono ?_; rintro e w6 ⟨rfl, hb6⟩; have hc6 := (hb6.cell hlt3).trans hc3)
            go_roundw
            case rel => exact ⟨k + 1, by omega, by go_num, bstep HB.out hb6⟩
            case measure => simp [intOf]; omega
          · have z8 : ¬ (k : Int) < (r : Int) := by omega
            by_cases h0 : r = 0
            · obtain ⟨hs0, -⟩ := HNIL.out h0
              subst hs0 h0
              obtain ⟨i0, hi, hz0, hz1, hz2⟩ := info_parts infoI64
              have hown : Own1 W0.heap.size 2 W0 [] (.slice (some ⟨W0.heap.size, 0, none⟩) 0 0) (W0.alloc (.cells #[] 2)) := Own1.made _ _ _ (by decide) rfl
              have hlen : (vals .i64 l).length = l.length := vals_length _ _
              have hc' : ∀ (i : Nat) (u : Value), (vals .i64 l)[i]? = some u → (W0.alloc (.cells #[] 2)).cell? (a.add i) = some u := fun i u hu => by
                obtain ⟨hi2, rfl⟩ := List.getElem?_eq_some_iff.1 hu
                obtain ⟨a', ha', hcell⟩ := ints_at (HH.out.below BW.out) i (by rw [← hlen]; exact hi2)
                cases ha'
                rw [vals_get]
                exact (((Below.refl W0.heap.size W0).alloc (Nat.le_refl _) (.cells #[] 2)).cell (World.block_lt_of_cell? W0 _ hcell)).trans hcell
              go_wp2_with (first
                | (at_builtin; refine wpList_append_own _ rfl _ _ 30 rfl W0.heap.size 2 i0 (.int .i64 0) 1 8 Tryd.underlying30 hi hz0 hz1 hz2 rfl (by decide) _ _ _ rfl hown.1 a 0 cap (vals .i64 l) rfl (by rw [HL.out]; simp [vals]) hc' (by simp [vals, Value.oneCell']) (by have := h60; simp only [List.length_nil]; unfold maxLen; omega) (by have := h60; simp only [List.length_nil]; omega) (by have := hown.2.2; omega) ?_; intro v7 w7 hown' hgrow _; have hown1 : Own1 W0.heap.size 2 W0 (vals .i64 l) v7 w7 := own1_of hown (by simpa using hown') (by simp [vals, ← HL.out]) hgrow)
                | (at_builtin; refine wpList_append_own _ rfl _ _ 30 rfl W0.heap.size 2 i0 (.int .i64 0) 1 8 Tryd.underlying30 hi hz0 hz1 hz2 rfl (by decide) _ _ _ rfl (hown1.1.alloc _) ⟨(w7).heap.size, 0, none⟩ 1 1 [.int .i64 n] rfl rfl (cell_one_new _ _ _) (by simp [Value.oneCell']) (by have := HL.out; simp only [vals_length]; unfold maxLen; omega) (by have := HL.out; simp only [vals_length]; omega) (by have := hown1.2.2; simp at this ⊢; omega) ?_; intro v8 w8 hown'' hgrow' _; have hown2 := hown1.snoc hown'' hgrow'; have S8 : Slc w8 v8 (vals .i64 (l ++ [n])) := (by rw [vals_snoc]; exact hown2.slc); have B8 := hown2.2.1)
                | (go_at_call 22; (with_reducible refine (hM _ _ S8).mono ?_); rintro e w9 ⟨rfl, hb9⟩; have B9 := bstep B8 hb9)
                | (go_at_call 11; (with_reducible refine (hA _).mono ?_); rintro e w' ⟨rfl, rfl⟩))
              go_ret
              exact ⟨rfl, bstep BW.out B9⟩
            · have z9 : ((r : Int) == 0) = false := by rw [beq_eq_false_iff_ne]; omega
              have z9b : ¬ (r = 0) := h0
              have z9c : 0 < r := by omega
              have hls := HLAST.out (by omega)
              obtain ⟨hk5, e5⟩ := List.getElem?_eq_some_iff.1 hls
              obtain ⟨a5, ha5, hc5⟩ := ints_at (R4.out.below HB.out) (r - 1) hk5
              cases ha5
              rw [e5] at hc5
              clear hls hk5 e5
              have hlt5 := World.block_lt_of_cell? W0 _ hc5
              obtain ⟨i0, hi, hz0, hz1, hz2⟩ := info_parts infoI64
              have hown : Own1 W0.heap.size 2 W0 [] (.slice (some ⟨W0.heap.size, 0, none⟩) 0 0) (W0.alloc (.cells #[] 2)) := Own1.made _ _ _ (by decide) rfl
              have hlen : (vals .i64 l).length = l.length := vals_length _ _
              have hc' : ∀ (i : Nat) (u : Value), (vals .i64 l)[i]? = some u → (W0.alloc (.cells #[] 2)).cell? (a.add i) = some u := fun i u hu => by
                obtain ⟨hi2, rfl⟩ := List.getElem?_eq_some_iff.1 hu
                obtain ⟨a', ha', hcell⟩ := ints_at (HH.out.below BW.out) i (by rw [← hlen]; exact hi2)
                cases ha'
                rw [vals_get]
                exact (((Below.refl W0.heap.size W0).alloc (Nat.le_refl _) (.cells #[] 2)).cell (World.block_lt_of_cell? W0 _ hcell)).trans hcell
              go_wp2_with (first
                | (at_builtin; refine wpList_append_own _ rfl _ _ 30 rfl W0.heap.size 2 i0 (.int .i64 0) 1 8 Tryd.underlying30 hi hz0 hz1 hz2 rfl (by decide) _ _ _ rfl hown.1 a r cap (vals .i64 l) rfl (by rw [HL.out]; simp [vals]) hc' (by simp [vals, Value.oneCell']) (by have := h60; simp only [List.length_nil]; unfold maxLen; omega) (by have := h60; simp only [List.length_nil]; omega) (by have := hown.2.2; omega) ?_; intro v7 w7 hown' hgrow _; have hown1 : Own1 W0.heap.size 2 W0 (vals .i64 l) v7 w7 := own1_of hown (by simpa using hown') (by simp [vals, ← HL.out]) hgrow)
                | (at_builtin; refine wpList_append_own _ rfl _ _ 30 rfl W0.heap.size 2 i0 (.int .i64 0) 1 8 Tryd.underlying30 hi hz0 hz1 hz2 rfl (by decide) _ _ _ rfl (hown1.1.alloc _) ⟨(w7).heap.size, 0, none⟩ 1 1 [.int .i64 n] rfl rfl (cell_one_new _ _ _) (by simp [Value.oneCell']) (by have := HL.out; simp only [vals_length]; unfold maxLen; omega) (by have := HL.out; simp only [vals_length]; omega) (by have := hown1.2.2; simp at this ⊢; omega) ?_; intro v8 w8 hown'' hgrow' _; have hown2 := hown1.snoc hown'' hgrow'; have S8 : Slc w8 v8 (vals .i64 (l ++ [n])) := (by rw [vals_snoc]; exact hown2.slc); have B8 := hown2.2.1)
                | (go_at_call 22; (with_reducible refine (hM _ _ S8).mono ?_); rintro e w9 ⟨rfl, hb9⟩; have B9 := bstep B8 hb9; have hc9 := (B9.cell hlt5).trans hc5)
                | (go_at_call 11; (with_reducible refine (hA _).mono ?_); rintro e w' ⟨rfl, rfl⟩))
              go_ret
              exact ⟨rfl, bstep BW.out B9⟩
    · rcases HH.out.split with ⟨hv, hl0⟩ | ⟨a, cap', hv, _, _⟩
      · obtain ⟨rfl, hL0, rfl⟩ := Value.slice.inj hv
        exact absurd hrL (by omega)
      · obtain ⟨rfl, -, rfl⟩ := Value.slice.inj hv
        clear hv
        clear hlast hnil hM
        have z6 : ¬ (L : Int) < (r : Int) := by omega
        have z7 : ((r : Int) == (L : Int)) = false := by rw [beq_eq_false_iff_ne]; omega
        have z7b : ¬ ((r : Int) = (L : Int)) := by omega
        have z7c : ¬ (r = L) := by omega
        have z6d : decide (L < r) = false := decide_eq_false (by omega)
        go_enter Tryd.func9, Tryd.ntmps9
        go_wp2_with (first
          | (go_at_call 7; refine hK.mono ?_; rintro e w1 ⟨rfl, B1⟩)
          | (go_at_call 22; refine (hS _ _ (HH.out.below B1)).mono ?_; rintro e w2 ⟨rfl, hb2⟩; have B2 := bstep B1 hb2)
          | (go_at_call 24; refine (hR _ _ (HH.out.below B2)).mono ?_; rintro e w3 ⟨r1, rfl, R1, hb3⟩; have B3 := Lib.hid (bstep B2 hb3); have R3 := Lib.hid R1; obtain ⟨Ar, cr, rfl, _, _⟩ := R1.ints; rw [← HR.out]; clear R1 B1 B2 hb2 hb3))
        have R3' := R3.out
        rw [← HR.out] at R3'
        have R4 := Lib.hid R3'
        clear R3' R3
        go_loopw [10] (fun i wr => ∃ k : Nat, k ≤ r ∧ i = .int .i64 (k : Int) ∧ Below w3.heap.size w3 wr) (fun i _ => r - (intOf i).toNat)
        case atStart => exact ⟨0, Nat.zero_le _, rfl, Below.refl _ _⟩
        case round =>
          obtain ⟨k, hk, rfl, hB⟩ := hrel
          obtain ⟨W0, hW0⟩ : ∃ W, W = wr := ⟨_, rfl⟩
          subst hW0
          have HB := Lib.hid hB
          have BW := Lib.hid (bstep B3.out hB)
          clear hB
          by_cases hlt : k < r
          · obtain ⟨a3, rfl, hc3⟩ := ints_at (R4.out.below HB.out) k (by have := HR.out; omega)
            have hlt3 := World.block_lt_of_cell? W0 _ hc3
            have hkR : k < R.length := by have := HR.out; omega
            obtain ⟨X, hX⟩ : ∃ X, X = R[k]'hkR := ⟨_, rfl⟩
            rw [← hX] at hc3
            have hp := hP W0 a _ cap k X (by rw [hX]; exact List.getElem?_eq_getElem hkR) (HH.out.below BW.out)
            have z1 : (k : Int) < (r : Int) := by omega
            have z2 : (k : Int) + 1 ≤ (cap : Int) := by have := HC.out; omega
            have z3 : IntKind.i64.wrap ((k : Int) + 1) = (k : Int) + 1 := IntWalk.i64_in _ ⟨by omega, by have := HL.out; omega⟩
            have z4 : (0 : Int) ≤ (k : Int) + 1 := by omega
            have z5 : ((k : Int) + 1).toNat = k + 1 := by omega
            clear hX hkR
            go_wp2_with (go_at_call 22; refine hp.mono ?_; rintro e w6 ⟨rfl, hb6⟩; have hc6 := (hb6.cell hlt3).trans hc3)
            go_roundw
            case rel => exact ⟨k + 1, by omega, by go_num, bstep HB.out hb6⟩
            case measure => simp [intOf]; omega
          · have z8 : ¬ (k : Int) < (r : Int) := by omega
            go_wp2
            go_ret
            exact ⟨rfl, BW.out⟩
end Go.Proofs.YtlembnpplnbagaaDoor
