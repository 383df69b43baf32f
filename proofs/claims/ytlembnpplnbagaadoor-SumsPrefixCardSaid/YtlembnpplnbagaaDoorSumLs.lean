/- Walk: SumsLists: sums of lists and running sums are the reference's; the list is not changed. -/
import Derived.Test.YtlembnpplnbagaaDoorSumQ
import Derived.BigQuiet
import Derived.Deep.DeepCutAuto
import Derived.Laws.OwnMore
namespace Go.Proofs.YtlembnpplnbagaaDoor
open Go.RowKit Go.Shelf
open Sm

/-- An operation of a quiet region that its guard leaves out. -/
theorem wpQuiet_skip5 {P : Program} {ops : Array Oper} {C : World → Prop} {Q : Act → Prop} {a : Act} {o : Oper} {rest : List Oper} (hw : Region.wanted o (yielded ops a.tmps) = false)
    (h : wpQuiet P ops C Q rest (a.put o.dst undef)) : wpQuiet P ops C Q (o :: rest) a := by
  unfold wpQuiet
  rw [hw]
  exact h
/-- Nothing has turned but that the tape was drawn from. -/
def Dn5 (w w' : World) : Prop := ∃ n, w' = w.drewN n
theorem Dn5.refl (w : World) : Dn5 w w := ⟨0, rfl⟩
theorem Dn5.drewN {w a : World} (h : Dn5 w a) (n : Nat) : Dn5 w (a.drewN n) := by
  obtain ⟨m, rfl⟩ := h
  exact ⟨m + n, World.drewN_drewN _ _ _⟩
theorem Slc.dn5 {w w' : World} {v : Value} {us : List Value} (h : Slc w v us) (hd : Dn5 w w') : Slc w' v us := by
  obtain ⟨n, rfl⟩ := hd
  exact h.drewN n
theorem below_dn5 {B : Nat} {w a b : World} (h : Below B w a) (hd : Dn5 a b) : Below B w b := by
  obtain ⟨n, rfl⟩ := hd
  exact below_drewN h n
theorem ints_at {w : World} {A : Option Addr} {n cap : Nat} {l : List Int} (h : Slc w (.slice A n cap) (vals .i64 l)) (i : Nat) (hi : i < l.length) : ∃ a, A = some a ∧ w.cell? (a.add i) = some (.int .i64 l[i]) := by
  obtain ⟨A', cap', e, _, hc⟩ := h.ints
  cases e
  obtain ⟨a, h1, _, h3⟩ := hc i hi
  exact ⟨a, h1, h3⟩
set_option maxRecDepth 100000 in
set_option maxHeartbeats 16000000 in
theorem lists_any (v : Value) (l : List Int) (w : World) (h : Slc w v (vals .i64 l)) (hl : ∀ x ∈ l, okI x = true) (ht : Laid5 w) :
    Calls Tryd.prog 4 #[v] w fun e w' => e = .returned (.bool true) ∧ Below w.heap.size w w' := by
  by_cases h100 : 100 < l.length
  · obtain ⟨A, cap, rfl, hm, hc⟩ := h.ints
    have c1 : (100 : Int) < (l.length : Int) := by omega
    clear h hc h100 hl
    go_enter Tryd.func4, Tryd.ntmps4
    go_wp2_with (go_at_call 21; refine (awake5_any _ ht).mono ?_; rintro e w1 ⟨rfl, hb⟩)
    go_ret
    exact ⟨rfl, hb⟩
  · obtain ⟨A, cap, rfl, hm, hc0⟩ := h.ints
    have c1 : ¬ (100 : Int) < (l.length : Int) := by omega
    have HH := Lib.hid h
    have HT := Lib.hid ht
    have H100 := Lib.hid h100
    have hS := fun (w : World) (v : Value) (h : Slc w v (vals .i64 l)) => sum_any v l w h hl (by omega)
    have hS' := fun (w : World) (v : Value) (h : Slc w v (vals .i64 l)) => refSum_any v l w h hl (by omega)
    have hR := fun (w : World) (v : Value) (h : Slc w v (vals .i64 l)) => sumRunning_any v l w h hl (by omega)
    have hR' := fun (w : World) (v : Value) (h : Slc w v (vals .i64 l)) => refRunning_any v l w h hl (by omega)
    have hRl := run_le l
    generalize sumN l = s at hS hS'
    generalize runE l = e at hS hS' hR hR'
    generalize runI l = R at hR hR' hRl
    clear hc0 h ht hl
    obtain ⟨n, hn⟩ : ∃ n, n = l.length := ⟨_, rfl⟩
    rw [← hn] at c1 HH H100 hRl hm ⊢
    have HN := Lib.hid hn
    clear hn
    go_enter Tryd.func4, Tryd.ntmps4
    go_upto_region 3 with (fail)
    go_cut [3] (fun s3 wx => Slc wx s3 (vals .i64 l) ∧ Below w.heap.size w wx)
    case first =>
      clear hS hS' hR hR'
      obtain ⟨i0, hi, hz0, hz1, hz2⟩ := info_parts infoI64
      have hown : Own1 w.heap.size 2 w [] (.slice (some ⟨w.heap.size, 0, none⟩) 0 0) (w.alloc (.cells #[] 2)) := Own1.made _ _ _ (by decide) rfl
      have hnew : Slc (w.alloc (.cells #[] 2)) (.slice (some ⟨w.heap.size, 0, none⟩) 0 0) [] := Slc.empty _ _ _
      rcases HH.out.split with ⟨hv, hl0⟩ | ⟨a, cap', hv, hml, hc⟩
      · have hln : n = 0 := by have := congrArg List.length hl0; rw [HN.out]; simpa [vals] using this
        have HL := Lib.hid hl0
        clear hl0
        obtain ⟨rfl, -, rfl⟩ := Value.slice.inj hv
        subst hln
        go_wp2_with (at_builtin; refine wpList_append_own_none rfl _ _ 30 rfl w.heap.size 2 i0 1 Tryd.underlying30 hi _ 0 [] rfl hown.1 rfl ?_)
        go_meet
        case rel => exact ⟨by rw [HL.out]; exact hnew, hown.2.1⟩
      · obtain ⟨rfl, -, rfl⟩ := Value.slice.inj hv
        clear hv
        have hlv : (vals .i64 l).length = n := by rw [HN.out]; exact vals_length _ _
        have hc' : ∀ (i : Nat) (u : Value), (vals .i64 l)[i]? = some u → (w.alloc (.cells #[] 2)).cell? (a.add i) = some u := fun i u hu => by
          obtain ⟨h1, h2⟩ := hc i u hu
          exact ((Below.refl w.heap.size w).alloc (Nat.le_refl _) (.cells #[] 2)).cell (p := a.add i) (by rw [add_block]; exact h1) |>.trans h2
        clear hc
        go_wp2_with (at_builtin; refine wpList_append_own _ rfl _ _ 30 rfl w.heap.size 2 i0 (.int .i64 0) 1 8 Tryd.underlying30 hi hz0 hz1 hz2 rfl (by decide) _ _ _ rfl hown.1 a n cap (vals .i64 l) rfl (by rw [HN.out]; simp [vals]) hc' (by simp [vals, Value.oneCell']) (by have := H100.out; simp only [List.length_nil]; unfold maxLen; omega) (by have := H100.out; simp only [List.length_nil]; omega) (by have := hown.2.2; omega) ?_; intro v' w1 hown' hgrow _)
        go_meet
        case rel => exact ⟨Slc.of_own (n := n) (by simpa using hown'), hown.2.1.grown hgrow hown.2.2 (fun k hk => (hown.1.lt k hk).1)⟩
    case rest =>
      obtain ⟨hm1, B1⟩ := hcut
      obtain ⟨A1, cap1, rfl, _, _⟩ := hm1.ints
      have M1 := Lib.hid hm1
      clear hm1
      go_wp2_with (first
        | (go_at_call 22; with_reducible refine (hS _ _ M1.out).mono ?_; rintro e w2 ⟨rfl, hb2⟩; have B2 := bstep B1 hb2; have M2 := Lib.hid (M1.out.below hb2))
        | (go_at_call 23; with_reducible refine (hS' _ _ (HH.out.below B2)).mono ?_; rintro e w3 ⟨rfl, hb3⟩; have B3 := bstep B2 hb3; have M3 := Lib.hid (M2.out.below hb3))
        | (go_at_call 24; (with_reducible refine (hR _ _ M3.out).mono ?_); rintro e w4 ⟨r1, rfl, R1, hb4⟩; have B4 := bstep B3 hb4; have M4 := Lib.hid (M3.out.below hb4); obtain ⟨Ar1, cr1, rfl, _, _⟩ := R1.ints)
        | (go_at_call 25; (with_reducible refine (hR' _ _ (HH.out.below B4)).mono ?_); rintro e w5 ⟨r2, rfl, R2, hb5⟩; have B5 := Lib.hid (bstep B4 hb5); have M5 := Lib.hid (M4.out.below hb5); have R15 := Lib.hid (R1.below hb5); have R25 := Lib.hid R2; obtain ⟨Ar2, cr2, rfl, _, _⟩ := R2.ints))
      have L5 := Lib.hid (HH.out.below B5.out)
      clear R1 R2 hb2 hb3 hb4 hb5 B1 B2 B3 B4 hS hS' hR hR'
      go_loopw [12] (fun i wr => ∃ k : Nat, k ≤ n ∧ i = .int .i64 (k : Int) ∧ Dn5 w5 wr) (fun i _ => n - (intOf i).toNat)
      case atStart => exact ⟨0, Nat.zero_le _, rfl, Dn5.refl _⟩
      case round =>
        obtain ⟨k, hk, rfl, hD⟩ := hrel
        obtain ⟨W0, hW0⟩ : ∃ W, W = wr := ⟨_, rfl⟩
        subst hW0
        have HD := Lib.hid hD
        clear hD
        by_cases hlt : k < n
        · have hkl : k < l.length := by have := HN.out; omega
          have zl : (k : Int) < (l.length : Int) := by omega
          have zn : (k : Int) < (n : Int) := by omega
          obtain ⟨a, rfl, hc1⟩ := ints_at (L5.out.dn5 HD.out) k hkl
          obtain ⟨a1, rfl, hc2⟩ := ints_at (M5.out.dn5 HD.out) k hkl
          obtain ⟨X, hX⟩ : ∃ X, X = l[k] := ⟨_, rfl⟩
          rw [← hX] at hc1 hc2
          clear hX
          by_cases hkr : k < R.length
          · obtain ⟨a3, rfl, hc3⟩ := ints_at (R15.out.dn5 HD.out) k hkr
            obtain ⟨a4, rfl, hc4⟩ := ints_at (R25.out.dn5 HD.out) k hkr
            obtain ⟨Y, hY⟩ : ∃ X, X = R[k] := ⟨_, rfl⟩
            rw [← hY] at hc3 hc4
            clear hY
            have zr : (k : Int) < (R.length : Int) := by omega
            have zrb : decide ((k : Int) < (R.length : Int)) = true := decide_eq_true zr
            go_wp2
            go_quiet (fail)
            go_wp2
            go_roundw
            case rel => exact ⟨k + 1, by omega, by go_num, HD.out.drewN _⟩
            case measure => simp [intOf]; omega
          · have zr : ¬ (k : Int) < (R.length : Int) := by omega
            have zrb : decide ((k : Int) < (R.length : Int)) = false := decide_eq_false zr
            go_wp2
            refine wp_region_quiet_lit (by kernel_rfl) (by kernel_rfl) ?_
            with_reducible refine wpQuiet_step (fun K hK => ?_)
            go_simp
            with_reducible refine hK _ ?_
            clear hK K
            with_reducible refine wpQuiet_step (fun K hK => ?_)
            go_simp
            with_reducible refine hK _ ?_
            clear hK K
            with_reducible refine wpQuiet_step (fun K hK => ?_)
            go_simp
            with_reducible refine hK _ ?_
            clear hK K
            with_reducible refine wpQuiet_step (fun K hK => ?_)
            go_simp
            with_reducible refine hK _ ?_
            clear hK K
            with_reducible refine wpQuiet_step (fun K hK => ?_)
            go_simp
            with_reducible refine hK _ ?_
            clear hK K
            with_reducible refine wpQuiet_step (fun K hK => ?_)
            go_simp
            with_reducible refine hK _ ?_
            clear hK K
            with_reducible refine wpQuiet_step (fun K hK => ?_)
            go_simp
            with_reducible refine hK _ ?_
            clear hK K
            with_reducible refine wpQuiet_step (fun K hK => ?_)
            go_simp
            with_reducible refine hK _ ?_
            clear hK K
            with_reducible refine wpQuiet_step (fun K hK => ?_)
            go_simp
            with_reducible refine hK _ ?_
            clear hK K
            with_reducible refine wpQuiet_step (fun K hK => ?_)
            go_simp
            with_reducible refine hK _ ?_
            clear hK K
            with_reducible refine wpQuiet_step (fun K hK => ?_)
            go_simp
            with_reducible refine hK _ ?_
            clear hK K
            with_reducible refine wpQuiet_step (fun K hK => ?_)
            go_simp
            with_reducible refine hK _ ?_
            clear hK K
            with_reducible refine wpQuiet_step (fun K hK => ?_)
            go_simp
            with_reducible refine hK _ ?_
            clear hK K
            with_reducible refine wpQuiet_step (fun K hK => ?_)
            go_simp
            with_reducible refine hK _ ?_
            clear hK K
            with_reducible refine wpQuiet_step (fun K hK => ?_)
            go_simp
            with_reducible refine hK _ ?_
            clear hK K
            with_reducible refine wpQuiet_skip5 ?_ ?_
            · kernel_rfl
            with_reducible refine wpQuiet_skip5 ?_ ?_
            · kernel_rfl
            with_reducible refine wpQuiet_skip5 ?_ ?_
            · kernel_rfl
            with_reducible refine wpQuiet_skip5 ?_ ?_
            · kernel_rfl
            with_reducible refine wpQuiet_skip5 ?_ ?_
            · kernel_rfl
            with_reducible refine wpQuiet_skip5 ?_ ?_
            · kernel_rfl
            with_reducible refine wpQuiet_skip5 ?_ ?_
            · kernel_rfl
            with_reducible refine wpQuiet_skip5 ?_ ?_
            · kernel_rfl
            with_reducible refine wpQuiet_skip5 ?_ ?_
            · kernel_rfl
            (try simp only [Act.put, List.setIfInBounds_toArray, List.set_cons_zero, List.set_cons_succ])
            with_reducible refine wpQuiet_step (fun K hK => ?_)
            go_simp
            with_reducible refine hK _ ?_
            clear hK K
            with_reducible refine wpQuiet_step (fun K hK => ?_)
            go_simp
            with_reducible refine hK _ ?_
            clear hK K
            refine wpQuiet_nil ?_
            intro _ hw'
            obtain ⟨nq, hw''⟩ := hw'
            subst hw''
            go_wp2
            go_roundw
            case rel => exact ⟨k + 1, by omega, by go_num, HD.out.drewN _⟩
            case measure => simp [intOf]; omega
        · have zn : ¬ (k : Int) < (n : Int) := by omega
          have BW := below_dn5 B5.out HD.out
          go_wp2_with (go_at_call 21; refine (awake5_any _ (HT.out.below BW)).mono ?_; rintro e w6 ⟨rfl, hb6⟩)
          go_ret
          exact ⟨rfl, bstep BW hb6⟩
end Go.Proofs.YtlembnpplnbagaaDoor
