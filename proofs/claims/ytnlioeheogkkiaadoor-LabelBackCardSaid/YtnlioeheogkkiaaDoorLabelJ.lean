/- slices.AppendSeq and slices.Collect at []int over whatever iterator; List of package label. -/
import Derived.Test.YtnlioeheogkkiaaDoorLabelIt
import Derived.Test.YtnlioeheogkkiaaDoorLabelC
import Derived.RangeFuncWrites
namespace Go.Proofs.YtnlioeheogkkiaaDoor
open Go.RowKit Go.Shelf
open Lb
attribute [local go_sem] Oper.semAt_some

def ints (zs : List Nat) : List Value := vals .i64 (zs.map fun (k : Nat) => (k : Int))
theorem ints_length (zs : List Nat) : (ints zs).length = zs.length := by simp [ints, vals]
theorem ints_snoc (zs : List Nat) (x : Nat) : ints (zs ++ [x]) = ints zs ++ [.int .i64 (x : Int)] := by simp [ints, vals]

set_option maxRecDepth 100000 in
set_option maxHeartbeats 2000000 in
theorem appendSeq_any (gf : Nat) (lb : Array Value) (eg : ∀ args w, (callFunc gf args).run Tryd.prog w = .ok (.enter gf args) w) (zs : List Nat) (n₀ : Nat) (Sp : List (Fin 64) → Prop) (w : World) (hn0 : n₀ ≤ w.heap.size) (hlen : zs.length ≤ 1000)
    (hseq : SeqStopsK Fence.wide 2 Tryd.prog gf lb (fun x : Fin 64 => #[.int .i64 (x.val : Int)]) (Below n₀) (fun xs => xs.map (·.val) = zs) Sp zs.length w) :
    Calls Tryd.prog 58 #[.slice none 0 0, .func (.func gf) #[] lb] w fun e w' => OutSlc w (ints zs) e w' := by
  obtain ⟨i0, hi, hz0, hz1, hz2⟩ := info_parts infoInt
  refine (callsIn_wide (n := 3)).1 ?_
  refine callsIn_of_wp_marks Tryd.func58 rfl trivial ?_ rfl
  simp only [Tryd.ntmps58, List.size_toArray, List.length_cons, List.length_nil, Nat.reduceAdd, Nat.reduceSub, Array.replicate_succ, Array.replicate_zero, List.push_toArray, List.append_toArray, List.nil_append, List.cons_append]
  gi_wp2
  have bO := Boxed.new w 23 (.slice none 0 0)
  have hB0 : Below w.heap.size w (w.alloc (.cells #[.slice none 0 0] 23)) := (Below.refl _ w).alloc (Nat.le_refl _) _
  refine wpIn_rangeFunc_ownG rfl (by decide) (gf := gf) (lb := lb) rfl trivial eg hseq belowK_t (belowK_b (by simp; omega)) hB0 (fun _ => rfl)
    (fun pre W => (∃ v, Boxed W w.heap.size 23 v ∧ W.ownsRow w.heap.size 3 1 v pre.length (ints (pre.map (·.val))) ∧ True) ∧ Below w.heap.size w W)
    (fun _ _ _ => False)
    (OwnFrom.and (Own.from (holdsRow_own w.heap.size w.heap.size 23 3 1 (fun pre : List (Fin 64) => pre.length) (fun pre => ints (pre.map (·.val))) (fun _ _ => True)) _) (ownFrom_below (Nat.le_refl _) (by simp)))
    (fun _ _ _ _ _ hs _ _ => hs)
    ⟨⟨_, bO, World.ownsRow_nil _ _ _ _, trivial⟩, hB0⟩
    (fun x => { tmps := #[.slice none 0 0, .func (.func gf) #[] lb, .pointer (some ⟨w.heap.size, 0, none⟩), undef, .slice none 0 0, .int .i64 (x.val : Int), .func (.func gf) #[] lb, .int .i64 (x.val : Int), undef, undef, undef, undef, undef], defers := [] }) ?assign ?body ?done ?stop
  case assign =>
    intro l x W K hK
    gi_wp2
    exact hK
  case body =>
    rintro l pre x W ⟨⟨v, hv, hrow, _⟩, hB⟩ hlt
    have hc := hv.cell
    gi_wp2_with (gi_at_builtin; refine wpListIn_append_own _ rfl _ _ 23 rfl w.heap.size 3 i0 (.int .i64 0) 1 8 Tryd.underlying23 hi hz0 hz1 hz2 rfl (by decide) _ _ _ rfl (hrow.alloc _) ⟨W.heap.size, 0, none⟩ 1 1 [.int .i64 (x.val : Int)] rfl rfl (cell_one_new _ _ _) (by simp [Value.oneCell']) (by unfold maxLen; omega) (by omega) (by have := hB.size; simp; omega) ?_; intro v' w1 hown' hgrow _; obtain ⟨g', cap', rfl⟩ := ownsRow_succ hown'; obtain ⟨hv1, hv2, hr2, hk2, hb2⟩ := hv.appended (by decide) hrow hB.size (Nat.le_refl _) hown' hgrow; have hc1 := hv1.cell; have hf1 := hv1.frozen)
    exact ⟨hk2.from _, hb2.mono hn0, ⟨_, hv2, by rw [List.map_append, List.map_cons, List.map_nil, ints_snoc]; simpa using hr2, trivial⟩, hB.trans hb2⟩
  case done =>
    rintro D ys W hD hys ⟨⟨v, hv, hrow, _⟩, hB⟩ hK
    rw [hys] at hrow
    clear hys
    have hc := hv.cell
    gi_wp2
    refine ⟨by simp, .inl ⟨_, _, rfl, run_takeDeferred hK, ?_⟩⟩
    exact ⟨_, results_tmp rfl _ _ _, v, rfl, Slc.of_own (ownsRow_putObj hrow _ hK rfl), hB.trans (belowK_b (w := w) (Nat.le_refl _) W D _ _ (by simp at hD; omega) hK rfl rfl)⟩
  case stop =>
    rintro D c pre W _ _ h _
    exact h.elim

theorem collect_any (gf : Nat) (lb : Array Value) (eg : ∀ args w, (callFunc gf args).run Tryd.prog w = .ok (.enter gf args) w) (zs : List Nat) (n₀ : Nat) (Sp : List (Fin 64) → Prop) (w : World) (hn0 : n₀ ≤ w.heap.size) (hlen : zs.length ≤ 1000)
    (hseq : SeqStopsK Fence.wide 2 Tryd.prog gf lb (fun x : Fin 64 => #[.int .i64 (x.val : Int)]) (Below n₀) (fun xs => xs.map (·.val) = zs) Sp zs.length w) :
    Calls Tryd.prog 47 #[.func (.func gf) #[] lb] w fun e w' => OutSlc w (ints zs) e w' := by
  go_enter Tryd.func47, Tryd.ntmps47
  go_wp2_with fail
  refine (appendSeq_any gf lb eg zs n₀ Sp _ hn0 hlen hseq).mono ?_
  rintro e w1 ⟨v, rfl, hs, hb⟩
  go_wp2
  go_ret
  exact ⟨v, rfl, hs, hb⟩

theorem list_any (r : Nat) (w : World) (hr : r < 18446744073709551616) (hg : 0 < w.heap.size) (hT : TabAt 0 Lib.deBruijn64tab w) :
    Calls Tryd.prog 19 #[.int .u64 (r : Int)] w fun e w' => OutSlc w (ints (cats r)) e w' := by
  have hle := cats_le r
  have hb0 : Below w.heap.size w (w.alloc (.cells #[.int .u64 (r : Int)] 22)) := (Below.refl _ w).alloc (Nat.le_refl _) _
  have hs := cats_stops 2 (by decide) w.heap.size w.heap.size r (w.alloc (.cells #[.int .u64 (r : Int)] 22)) hr hg (by simp) (by simp) (box_new w (.int .u64 (r : Int)) 22).1 (tabAt_below hT hb0 hg)
  have HS := Lib.hid hs
  clear hs
  go_enter Tryd.func19, Tryd.ntmps19
  go_wp2_with (go_at_call 46; refine (categories_any _ _).mono ?_; rintro e w' ⟨rfl, rfl⟩)
  refine (collect_any _ _ (enters_of Tryd.func56 (by kernel_rfl) rfl) (cats r) w.heap.size _ _ (by simp) (by omega) HS.out).mono ?_
  rintro e w1 ⟨v, rfl, hs, hb⟩
  go_wp2
  go_ret
  exact ⟨v, rfl, hs, hb0.trans (hb.mono (by simp))⟩
end Go.Proofs.YtnlioeheogkkiaaDoor
