/- The iterator of package label over the categories of a label. -/
import Derived.RangeFuncNested
import Derived.RangeFuncFrom
import Derived.RangeFuncBox
import Derived.RangeFuncBound
import Derived.RangeFuncCalls
import Derived.RangeFuncLeaves
import Derived.Shelf.Abstract
import Derived.Shelf.RegionOpen
import Derived.WalkKit
import Derived.OwnWalkIn
import Derived.TacticsInMore
import Derived.LoopNIn
import Derived.LoopIn
import Derived.Outline
import Derived.Test.YtnlioeheogkkiaaDoorTz
import Derived.Test.YtnlioeheogkkiaaDoorWords
import Derived.Test.YtnlioeheogkkiaaDoorLabelMath
namespace Go.Proofs.YtnlioeheogkkiaaDoor
open Go.RowKit Go.Shelf
open Lb
attribute [local go_sem] Oper.semAt_some

theorem tabAt_below {g n₀ : Nat} {tab : List Nat} {w w' : World} (h : TabAt g tab w) (hb : Below n₀ w w') (hg : g < n₀) : TabAt g tab w' :=
  fun j hj => (hb.cell (p := ⟨g, j, none⟩) hg).trans (h j hj)

set_option maxHeartbeats 1000000 in
theorem cats1_in (n : Nat) (hn : 1 ≤ n) (l Bn n₀ : Nat) (r : Nat) (hr : r < 18446744073709551616) (hg : 0 < n₀) (J Jx : List (Fin 64) → World → Prop)
    (hY : ∀ (pre : List (Fin 64)) (x : Fin 64) (W : World), J pre W → pre.length < (cats r).length → YieldAt Fence.wide (n - 1) Tryd.prog l #[.int .i64 (x.val : Int)] W fun e W' =>
      (e = .returned (.bool true) ∧ J (pre ++ [x]) W' ∧ Below n₀ W W') ∨ (e = .returned (.bool false) ∧ Jx (pre ++ [x]) W'))
    (W : World) (hBn : W.cell? ⟨Bn, 0, none⟩ = some (.int .u64 (r : Int))) (hT : TabAt 0 Lib.deBruijn64tab W) (h0 : J [] W) :
    CallsIn Fence.wide n Tryd.prog 56 #[.func (.yield l) #[] #[], .pointer (some ⟨Bn, 0, none⟩)] W fun e W' => (∃ v, e = .returned v) ∧
      ((∃ ys : List (Fin 64), ys.map (·.val) = cats r ∧ J ys W') ∨ (∃ pre : List (Fin 64), (pre.map (·.val) <+: cats r ∧ pre ≠ []) ∧ Jx pre W')) := by
  refine callsIn_of_wp Tryd.func56 rfl trivial ?_ rfl
  simp only [Tryd.ntmps56, List.size_toArray, List.length_cons, List.length_nil, Nat.reduceAdd, Nat.reduceSub, Array.replicate_succ, Array.replicate_zero, List.push_toArray, List.append_toArray, List.nil_append, List.cons_append]
  gi_wp2
  gi_loopw [3] (fun v wr => ∃ (pre : List (Fin 64)) (q : Nat), v = .int .u64 (q : Int) ∧ q < 18446744073709551616 ∧ cats r = pre.map (·.val) ++ cats q ∧ Below n₀ W wr ∧ J pre wr) (fun v _ => (cats (intOf v).toNat).length)
  case atStart => exact ⟨[], r, rfl, hr, rfl, Below.refl _ _, h0⟩
  case round =>
    obtain ⟨pre, q, rfl, hq, hcs, hb, hJ⟩ := hrel
    by_cases hz : q = 0
    · subst hz
      have hcs' := Lib.hid hcs
      clear hcs
      gi_wp2
      go_end0
      exact ⟨⟨_, rfl⟩, .inl ⟨pre, by rw [hcs'.out, cats_zero, List.append_nil], hJ⟩⟩
    · obtain ⟨hst, hk⟩ := cats_step q hz hq
      have hst' := Lib.hid hst
      have hcs' := Lib.hid hcs
      have hlen : pre.length < (cats r).length := by rw [hcs, hst]; simp
      have hqb : ((q : Int) != 0) = true := by simp; omega
      clear hst hcs
      have hnx := Lib.hid (show bits .and .u64 (q : Int) ((q : Int) - 1) = ((q &&& (q - 1) : Nat) : Int) by rw [show (q : Int) - 1 = ((q - 1 : Nat) : Int) by omega, and_nat _ _ hq (by omega)])
      obtain ⟨fn, tmps, assign, body, hy, hR⟩ := hY pre ⟨Lib.ctz 64 q, hk⟩ wr hJ hlen
      dsimp only at hy
      gi_wp2_with (refine ⟨trivial, ?_⟩; gi_at_call 57; refine (callsIn_wide.2 (tz64_any q hq _ (fun _ => tabAt_below hT hb hg))).mono ?_; rintro e w' ⟨rfl, rfl⟩)
      refine hR.mono ?_
      rintro e W3 (⟨rfl, hJ3, hk3⟩ | ⟨rfl, hJx3⟩)
      · gi_wp2
        go_roundw
        case rel => exact ⟨pre ++ [⟨Lib.ctz 64 q, hk⟩], q &&& (q - 1), by rw [hnx.out], and_pred_lt q hq, by rw [hcs'.out, hst'.out]; simp, hb.trans hk3, hJ3⟩
        case measure => rw [hnx.out]; simp only [intOf, Int.toNat_natCast]; rw [hst'.out]; simp
      · gi_wp2
        refine bodyPost_ret (results_none rfl _ _ _) rfl ?_
        exact ⟨⟨_, rfl⟩, .inr ⟨pre ++ [⟨Lib.ctz 64 q, hk⟩], ⟨⟨cats (q &&& (q - 1)), by rw [hcs'.out, hst'.out]; simp⟩, by simp⟩, hJx3⟩⟩

theorem cats_stops (n : Nat) (hn : 1 ≤ n) (Bn n₀ r : Nat) (w : World) (hr : r < 18446744073709551616) (hg : 0 < n₀) (hn0 : n₀ ≤ w.heap.size) (hB : Bn < w.heap.size)
    (hc : w.cell? ⟨Bn, 0, none⟩ = some (.int .u64 (r : Int))) (hT : TabAt 0 Lib.deBruijn64tab w) :
    SeqStopsK Fence.wide n Tryd.prog 56 #[.pointer (some ⟨Bn, 0, none⟩)] (fun x : Fin 64 => #[.int .i64 (x.val : Int)]) (Below n₀) (fun xs => xs.map (·.val) = cats r) (fun pre => pre.map (·.val) <+: cats r ∧ pre ≠ []) (cats r).length w :=
  fun l J Jx W hW _ _ hY h0 => cats1_in n hn l Bn n₀ r hr hg J Jx hY W ((hW.cell (p := ⟨Bn, 0, none⟩) hB).trans hc) (tabAt_below hT hW (Nat.lt_of_lt_of_le hg hn0)) h0

theorem categories_any (l : Int) (w : World) :
    Calls Tryd.prog 46 #[.int .u64 l] w fun e w' => e = .returned (.func (.func 56) #[] #[.pointer (some ⟨w.heap.size, 0, none⟩)]) ∧ w' = w.alloc (.cells #[.int .u64 l] 22) := by
  go_enter Tryd.func46, Tryd.ntmps46
  go_wp2
  go_ret
  exact ⟨rfl, rfl⟩

theorem tabAt_alloc {g : Nat} {tab : List Nat} {w : World} (h : TabAt g tab w) (hg : g < w.heap.size) (o : Obj) : TabAt g tab (w.alloc o) :=
  tabAt_below h ((Below.refl w.heap.size w).alloc (Nat.le_refl _) o) hg

theorem box_at {W : World} {B : Nat} {v : Value} {t : TypeId} (h : W.heap[B]? = some (.cells #[v] t (0, 0))) : W.cell? ⟨B, 0, none⟩ = some v ∧ W.frozen? ⟨B, 0, none⟩ = false := by
  constructor <;> simp [World.cell?, World.frozen?, h]
theorem box_new (W : World) (v : Value) (t : TypeId) : (W.alloc (.cells #[v] t)).cell? ⟨W.heap.size, 0, none⟩ = some v ∧ (W.alloc (.cells #[v] t)).frozen? ⟨W.heap.size, 0, none⟩ = false :=
  box_at (World.alloc_heap_new W _)
theorem cell_past {W : World} {a : Addr} {v : Value} (o : Obj) (h : W.cell? a = some v) : (W.alloc o).cell? a = some v := cell_kept h (World.grownBy_alloc W o none) (fun r e => by cases e)
theorem frozen_past {W : World} {a : Addr} {v : Value} (o : Obj) (h : W.cell? a = some v) (hf : W.frozen? a = false) : (W.alloc o).frozen? a = false := (frozen_kept h (World.grownBy_alloc W o none) (fun r e => by cases e)).trans hf

theorem cell_set_two {w : World} {a b : Addr} {u v : Value} (ha : w.cell? a = some u) (hb : w.cell? b = some v) (hne : a ≠ b) (x y : Value) :
    ((w.setCell a x).setCell b y).cell? a = some x ∧ ((w.setCell a x).setCell b y).cell? b = some y := by
  have e0 : (w.setCell a x).cell? a = some x := World.cell?_setCell_same' _ _ _ (by rw [ha]; rfl)
  have e1 : (w.setCell a x).cell? b = some v := (World.cell?_setCell_other _ _ _ _ (fun h => hne (by first | exact h | exact h.symm))).trans hb
  exact ⟨(World.cell?_setCell_other _ _ _ _ (fun h => hne (by first | exact h | exact h.symm))).trans e0, World.cell?_setCell_same' _ _ _ (by rw [e1]; rfl)⟩

theorem leastI_nat (r : Nat) (hr : r < 18446744073709551616) : leastI (r : Int) = match cats r with | [] => (0, 2) | c :: _ => ((c : Int), 0) := by
  unfold leastI
  rw [catsI_nat r hr]
  cases cats r with
  | nil => rfl
  | cons c t => rfl

set_option maxRecDepth 100000 in
set_option maxHeartbeats 1000000 in
theorem least_any (r : Nat) (w : World) (hr : r < 18446744073709551616) (hg : 0 < w.heap.size) (hT : TabAt 0 Lib.deBruijn64tab w) :
    Calls Tryd.prog 16 #[.int .u64 (r : Int)] w fun e w' => e = .returned (.tuple #[.int .i64 (leastI r).1, .int .i64 (leastI r).2]) ∧ Below w.heap.size w w' := by
  refine (callsIn_wide (n := 3)).1 ?_
  refine callsIn_of_wp_marks Tryd.func16 rfl trivial ?_ rfl
  simp only [Tryd.ntmps16, List.size_toArray, List.length_cons, List.length_nil, Nat.reduceAdd, Nat.reduceSub, Array.replicate_succ, Array.replicate_zero, List.push_toArray, List.append_toArray, List.nil_append, List.cons_append]
  gi_wp2_with (refine ⟨trivial, ?_⟩; gi_at_call 46; refine (callsIn_wide.2 (categories_any _ _)).mono ?_; rintro e w' ⟨rfl, rfl⟩)
  have c0 := box_new w (.int .i64 0) 3
  have c1 := box_new (w.alloc (.cells #[.int .i64 0] 3)) (.int .i64 0) 26
  have c2 := box_new ((w.alloc (.cells #[.int .i64 0] 3)).alloc (.cells #[.int .i64 0] 26)) (.int .u64 (r : Int)) 22
  simp only [World.size_alloc] at c1 c2
  have hB0 : Below w.heap.size w (((w.alloc (.cells #[.int .i64 0] 3)).alloc (.cells #[.int .i64 0] 26)).alloc (.cells #[.int .u64 (r : Int)] 22)) := (((Below.refl _ w).alloc (Nat.le_refl _) _).alloc (by simp) _).alloc (by simp; omega) _
  have hl := Lib.hid (leastI_nat r hr)
  refine wpIn_rangeFunc_ownF rfl (by decide) (gf := 56) (lb := #[.pointer (some ⟨w.heap.size + 1 + 1, 0, none⟩)]) rfl trivial (enters_of Tryd.func56 (by kernel_rfl) rfl)
    (cats_stops 2 (by decide) (w.heap.size + 1 + 1) w.heap.size r _ hr hg (by simp; omega) (by simp) c2.1 (tabAt_below hT hB0 hg)) belowK_t (belowK_b (by simp; omega)) (Below.refl _ _) (fun _ => rfl)
    (fun pre W => (pre = [] ∧ W.cell? ⟨w.heap.size, 0, none⟩ = some (.int .i64 0) ∧ W.frozen? ⟨w.heap.size, 0, none⟩ = false ∧ W.cell? ⟨w.heap.size + 1, 0, none⟩ = some (.int .i64 0) ∧ W.frozen? ⟨w.heap.size + 1, 0, none⟩ = false) ∧ Below w.heap.size w W)
    (fun c pre W => (c = .ret ∧ ∃ x : Fin 64, pre = [x] ∧ W.cell? ⟨w.heap.size, 0, none⟩ = some (.int .i64 (x.val : Int)) ∧ W.cell? ⟨w.heap.size + 1, 0, none⟩ = some (.int .i64 0)) ∧ Below w.heap.size w W)
    (OwnFrom.and (Own.from (fun s A B row hs hg hr => ⟨hs.1, cell_kept hs.2.1 hg hr, (frozen_kept hs.2.1 hg hr).trans hs.2.2.1, cell_kept hs.2.2.2.1 hg hr, (frozen_kept hs.2.2.2.1 hg hr).trans hs.2.2.2.2⟩) _) (ownFrom_below (Nat.le_refl _) (by simp; omega)))
    (fun c => OwnFrom.and (Own.from (fun s A B row hs hg hr => ⟨hs.1, by obtain ⟨x, h1, h2, h3⟩ := hs.2; exact ⟨x, h1, cell_kept h2 hg hr, cell_kept h3 hg hr⟩⟩) _) (ownFrom_below (Nat.le_refl _) (by simp; omega)))
    ⟨⟨rfl, cell_past _ (cell_past _ c0.1), frozen_past _ (cell_past _ c0.1) (frozen_past _ c0.1 c0.2), cell_past _ c1.1, frozen_past _ c1.1 c1.2⟩, hB0⟩
    (fun x => { tmps := #[.int .u64 (r : Int), undef, .pointer (some ⟨w.heap.size, 0, none⟩), .pointer (some ⟨w.heap.size + 1, 0, none⟩), .int .i64 (x.val : Int), .int .u64 (r : Int), .func (.func 56) #[] #[.pointer (some ⟨w.heap.size + 1 + 1, 0, none⟩)], .int .i64 (x.val : Int), undef], defers := [] }) ?assign ?body ?done ?stop
  case assign =>
    intro l x W K hK
    gi_wp2
    exact hK
  case body =>
    rintro l pre x W ⟨⟨rfl, hc0, hf0, hc1, hf1⟩, hB⟩ _
    gi_wp2
    have e0 := cell_set_two hc0 hc1 (by simp) (.int .i64 (x.val : Int)) (.int .i64 0)
    exact ⟨(KeepsOthers.setCell _ _ _).trans (KeepsOthers.setCell _ _ _), ⟨rfl, x, rfl, e0.1, e0.2⟩, (hB.setCell (p := ⟨w.heap.size, 0, none⟩) (Nat.le_refl _) _).setCell (p := ⟨w.heap.size + 1, 0, none⟩) (by simp) _⟩
  case done =>
    rintro D ys W hD hys ⟨⟨hnil, hc0, hf0, hc1, hf1⟩, hB⟩ hK
    have HN := Lib.hid (show cats r = [] by rw [← hys, hnil]; rfl)
    clear hnil hys
    gi_wp2
    have e0 := cell_set_two hc0 hc1 (by simp) (.int .i64 0) (.int .i64 2)
    have hK' := ((KeepsOthers.setCell W ⟨w.heap.size, 0, none⟩ (.int .i64 0)).trans (KeepsOthers.setCell _ ⟨w.heap.size + 1, 0, none⟩ (.int .i64 2))).same D _ hK rfl
    refine ⟨by simp, .inl ⟨_, _, rfl, run_takeDeferred hK', ?_⟩⟩
    have hc5 := cell_kept e0.1 (grownBy_putObj' _ D (.deferred none)) (fun r e => by cases e; exact ⟨_, hK', rfl⟩)
    have hc6 := cell_kept e0.2 (grownBy_putObj' _ D (.deferred none)) (fun r e => by cases e; exact ⟨_, hK', rfl⟩)
    refine ⟨.tuple #[.int .i64 0, .int .i64 2], ?_, by rw [hl.out, HN.out], ((hB.setCell (p := ⟨w.heap.size, 0, none⟩) (Nat.le_refl _) _).setCell (p := ⟨w.heap.size + 1, 0, none⟩) (by simp) _).trans (belowK_b (w := w) (Nat.le_refl _) _ D _ _ (by simp at hD; omega) hK' rfl rfl)⟩
    simp [results, Tryd.f16, go_sem, hc5, hc6]
  case stop =>
    rintro D c pre W hD ⟨hpre, _⟩ ⟨⟨rfl, x, rfl, hc0, hc1⟩, hB⟩ hK
    gi_wp2
    refine ⟨by simp, .inl ⟨_, _, rfl, run_takeDeferred hK, ?_⟩⟩
    have hc5 := cell_kept hc0 (grownBy_putObj' _ D (.deferred none)) (fun r e => by cases e; exact ⟨_, hK, rfl⟩)
    have hc6 := cell_kept hc1 (grownBy_putObj' _ D (.deferred none)) (fun r e => by cases e; exact ⟨_, hK, rfl⟩)
    obtain ⟨t, ht⟩ := hpre
    refine ⟨.tuple #[.int .i64 (x.val : Int), .int .i64 0], ?_, by rw [hl.out, ← ht]; rfl, hB.trans (belowK_b (w := w) (Nat.le_refl _) W D _ _ (by simp at hD; omega) hK rfl rfl)⟩
    simp [results, Tryd.f16, go_sem, hc5, hc6]
end Go.Proofs.YtnlioeheogkkiaaDoor
