/- Package label, second part: the iterator; how the document's own text is read. -/
import Derived.Test.YtcmdndgaggbhoaaDoorWords
import Derived.Test.YtcmdndgaggbhoaaDoorLabelOne
import Derived.Lib.TrailingZeros
import Derived.Test.YtcmdndgaggbhoaaDoorProg
import Derived.Shelf.Spec.TrailingZeros
import Derived.RangeFuncNested
import Derived.RangeFuncFrom
import Derived.RangeFuncBox
import Derived.RangeFuncBound
import Derived.RangeFuncCalls
import Derived.RangeFuncLeaves
import Derived.Shelf.Abstract
import Derived.Shelf.RegionOpen
import Derived.WalkKit
import Derived.OwnWalkIn
import Derived.TacticsInMore
import Derived.LoopNIn
import Derived.LoopIn
import Derived.Outline
import Derived.Lib.Strings
import Derived.Deep.DeepCutAuto
namespace Go.Proofs.YtcmdndgaggbhoaaDoor.Lb
open Go



theorem or_nat (a b : Nat) (ha : a < 18446744073709551616) (hb : b < 18446744073709551616) : bits .or .u64 (a : Int) (b : Int) = ((a ||| b : Nat) : Int) := u64_or_nat a b ha hb
theorem and_nat (a b : Nat) (ha : a < 18446744073709551616) (hb : b < 18446744073709551616) : bits .and .u64 (a : Int) (b : Int) = ((a &&& b : Nat) : Int) := u64_and_nat a b ha hb
theorem andNot_nat (a b : Nat) (ha : a < 18446744073709551616) (hb : b < 18446744073709551616) : bits .andNot .u64 (a : Int) (b : Int) = ((a &&& (18446744073709551615 - b) : Nat) : Int) := u64_andNot_nat a b ha hb

theorem hasI_nat (n c : Nat) (hn : n < 18446744073709551616) : hasI (n : Int) (c : Int) = n.testBit c := by
  unfold hasI
  have e : ((n : Int) / 2 ^ (c : Int).toNat) = ((n / 2 ^ c : Nat) : Int) := by
    rw [Int.toNat_natCast]; simp
  rw [e, show (1 : Int) = ((1 : Nat) : Int) from rfl, and_nat _ _ (Nat.lt_of_le_of_lt (Nat.div_le_self _ _) hn) (by decide), Nat.and_one_is_mod, Nat.testBit_eq_decide_div_mod_eq]
  by_cases h : n / 2 ^ c % 2 = 1
  · simp [h]
  · have h0 : n / 2 ^ c % 2 = 0 := by omega
    simp [h0]

/-- The bits of a number, ascending. -/
def cats (n : Nat) : List Nat := (List.range 64).filter n.testBit
theorem catsI_nat (n : Nat) (hn : n < 18446744073709551616) : catsI (n : Int) = (cats n).map fun (k : Nat) => (k : Int) := by
  unfold catsI cats upto64
  rw [List.filter_map]
  congr 1
  apply List.filter_congr
  intro k _
  exact hasI_nat n k hn

theorem filter_first {p q : Nat → Bool} {k : Nat} (hp : p k = true) (hq : q k = false) (hlt : ∀ i, i < k → p i = false ∧ q i = false) (hgt : ∀ i, k < i → p i = q i) (n : Nat) :
    (List.range n).filter p = if k < n then k :: (List.range n).filter q else [] := by
  induction n with
  | zero => simp
  | succ n ih =>
    rw [List.range_succ, List.filter_append, List.filter_append, ih]
    rcases Nat.lt_trichotomy n k with h | h | h
    · rw [if_neg (by omega), if_neg (by omega)]
      simp [(hlt n h).1]
    · subst h
      rw [if_neg (by omega), if_pos (by omega)]
      have : (List.range n).filter q = [] := by
        rw [List.filter_eq_nil_iff]
        intro i hi
        rw [(hlt i (by simpa using hi)).2]
        simp
      simp [hp, hq, this]
    · rw [if_pos h, if_pos (by omega)]
      have e : [n].filter p = [n].filter q := List.filter_congr fun i hi => by rw [List.mem_singleton.1 hi]; exact hgt n h
      rw [e]; rfl

theorem cats_step (r : Nat) (h0 : r ≠ 0) (hr : r < 18446744073709551616) : cats r = Lib.ctz 64 r :: cats (r &&& (r - 1)) ∧ Lib.ctz 64 r < 64 := by
  have hctz : Lib.ctz 64 r = Lib.ctzFrom 64 r := by unfold Lib.ctz; rw [if_neg h0]
  obtain ⟨m, hm, hk⟩ := Lib.ctzFrom_spec 64 r (by omega) hr
  rw [hctz]
  obtain ⟨k, hkk⟩ : ∃ k, k = Lib.ctzFrom 64 r := ⟨_, rfl⟩
  rw [← hkk] at hm hk ⊢
  have hpos : 0 < 2 ^ k := Nat.pow_pos (by decide)
  have e1 : r = 2 ^ k * (2 * m + 1) + 0 := by omega
  have e2 : r - 1 = 2 ^ k * (2 * m) + (2 ^ k - 1) := by
    rw [hm, Nat.mul_add, Nat.mul_one]; omega
  have t1 : ∀ j, r.testBit j = if j < k then false else (2 * m + 1).testBit (j - k) := fun j => by
    rw [e1, Nat.testBit_two_pow_mul_add _ (by omega)]; simp
  have t2 : ∀ j, (r - 1).testBit j = if j < k then true else (2 * m).testBit (j - k) := fun j => by
    rw [e2, Nat.testBit_two_pow_mul_add _ (by omega)]
    split
    · rw [Nat.testBit_two_pow_sub_one]; simp; omega
    · rfl
  refine ⟨?_, hk⟩
  unfold cats
  rw [filter_first (p := r.testBit) (q := (r &&& (r - 1)).testBit) (k := k), if_pos hk]
  · rw [t1, if_neg (by omega), Nat.sub_self]; simp
  · rw [Nat.testBit_and, t1, t2, if_neg (by omega), if_neg (by omega), Nat.sub_self]; simp
  · intro i hi
    rw [Nat.testBit_and, t1, if_pos hi]; simp
  · intro i hi
    rw [Nat.testBit_and, t1, t2, if_neg (by omega), if_neg (by omega)]
    obtain ⟨j, hj⟩ : ∃ j, i - k = j + 1 := ⟨i - k - 1, by omega⟩
    rw [hj, Nat.testBit_succ, Nat.testBit_succ]
    have a1 : (2 * m + 1) / 2 = m := by omega
    have a2 : (2 * m) / 2 = m := by omega
    rw [a1, a2]; simp
theorem cats_zero : cats 0 = [] := by decide
theorem cats_nil {n : Nat} (hn : n < 18446744073709551616) (h : cats n = []) : n = 0 := by
  by_cases h0 : n = 0
  · exact h0
  · rw [(cats_step n h0 hn).1] at h; cases h
theorem cats_le (n : Nat) : (cats n).length ≤ 64 := by
  have := List.length_filter_le n.testBit (List.range 64)
  simpa [cats] using this
theorem and_pred_lt (r : Nat) (hr : r < 18446744073709551616) : (r &&& (r - 1)) < 18446744073709551616 := Nat.lt_of_le_of_lt Nat.and_le_left hr
theorem cats_lt {n c : Nat} (h : c ∈ cats n) : c < 64 := by
  have := List.mem_filter.1 h
  simpa using this.1
end Go.Proofs.YtcmdndgaggbhoaaDoor.Lb
namespace Go.Proofs.YtcmdndgaggbhoaaDoor
open Go.Shelf
def tzRen : Go.Shelf.Ren := ⟨fun | 29 => 70 | n => n, fun | 0 => 0 | 3 => 3 | 4 => 4 | 5 => 5 | 22 => 22 | 25 => 81 | 54 => 125 | n => n, fun | 1 => 0 | n => n⟩
theorem tzLays : Go.Proofs.Lays7.n29 Tryd.prog tzRen := {
  mixed := by kernel_rfl
  f29 := Tryd.func70.trans (congrArg some (by kernel_rfl))
  t0 := Tryd.underlying0
  a0 := Tryd.isAgg0
  z0 := Tryd.sizeOf0
  v0 := Tryd.zeroValue0
  i0 := by kernel_rfl
  t3 := Tryd.underlying3
  a3 := Tryd.isAgg3
  z3 := Tryd.sizeOf3
  v3 := Tryd.zeroValue3
  i3 := by kernel_rfl
  t4 := Tryd.underlying4
  a4 := Tryd.isAgg4
  z4 := Tryd.sizeOf4
  v4 := Tryd.zeroValue4
  i4 := by kernel_rfl
  t5 := Tryd.underlying5
  a5 := Tryd.isAgg5
  z5 := Tryd.sizeOf5
  v5 := Tryd.zeroValue5
  i5 := by kernel_rfl
  t22 := Tryd.underlying22
  a22 := Tryd.isAgg22
  z22 := Tryd.sizeOf22
  v22 := Tryd.zeroValue22
  i22 := by kernel_rfl
  t25 := Tryd.underlying81
  a25 := Tryd.isAgg81
  z25 := Tryd.sizeOf81
  v25 := Tryd.zeroValue81
  i25 := by kernel_rfl
  t54 := Tryd.underlying125
  a54 := Tryd.isAgg125
  z54 := Tryd.sizeOf125
  g1 := by kernel_rfl }
theorem tz64_any (x : Nat) (hx : x < 18446744073709551616) (w : World) (hT : x ≠ 0 → TabAt 0 Lib.deBruijn64tab w) :
    Calls Tryd.prog 70 #[.int .u64 x] w fun e w' => e = .returned (.int .i64 (Lib.ctz 64 x)) ∧ w' = w := Any7.bits_TrailingZeros64 tzLays x hx w hT
end Go.Proofs.YtcmdndgaggbhoaaDoor
namespace Go.Proofs.YtcmdndgaggbhoaaDoor
open Go.RowKit Go.Shelf
open Lb
attribute [local go_sem] Oper.semAt_some

theorem tabAt_below {g n₀ : Nat} {tab : List Nat} {w w' : World} (h : TabAt g tab w) (hb : Below n₀ w w') (hg : g < n₀) : TabAt g tab w' :=
  fun j hj => (hb.cell (p := ⟨g, j, none⟩) hg).trans (h j hj)

set_option maxHeartbeats 1000000 in
theorem cats1_in (n : Nat) (hn : 1 ≤ n) (l Bn n₀ : Nat) (r : Nat) (hr : r < 18446744073709551616) (hg : 0 < n₀) (J Jx : List (Fin 64) → World → Prop)
    (hY : ∀ (pre : List (Fin 64)) (x : Fin 64) (W : World), J pre W → pre.length < (cats r).length → YieldAt Fence.wide (n - 1) Tryd.prog l #[.int .i64 (x.val : Int)] W fun e W' =>
      (e = .returned (.bool true) ∧ J (pre ++ [x]) W' ∧ Below n₀ W W') ∨ (e = .returned (.bool false) ∧ Jx (pre ++ [x]) W'))
    (W : World) (hBn : W.cell? ⟨Bn, 0, none⟩ = some (.int .u64 (r : Int))) (hT : TabAt 0 Lib.deBruijn64tab W) (h0 : J [] W) :
    CallsIn Fence.wide n Tryd.prog 69 #[.func (.yield l) #[] #[], .pointer (some ⟨Bn, 0, none⟩)] W fun e W' => (∃ v, e = .returned v) ∧
      ((∃ ys : List (Fin 64), ys.map (·.val) = cats r ∧ J ys W') ∨ (∃ pre : List (Fin 64), (pre.map (·.val) <+: cats r ∧ pre ≠ []) ∧ Jx pre W')) := by
  refine callsIn_of_wp Tryd.func69 rfl trivial ?_ rfl
  simp only [Tryd.ntmps69, List.size_toArray, List.length_cons, List.length_nil, Nat.reduceAdd, Nat.reduceSub, Array.replicate_succ, Array.replicate_zero, List.push_toArray, List.append_toArray, List.nil_append, List.cons_append]
  gi_wp2
  gi_loopw [3] (fun v wr => ∃ (pre : List (Fin 64)) (q : Nat), v = .int .u64 (q : Int) ∧ q < 18446744073709551616 ∧ cats r = pre.map (·.val) ++ cats q ∧ Below n₀ W wr ∧ J pre wr) (fun v _ => (cats (intOf v).toNat).length)
  case atStart => exact ⟨[], r, rfl, hr, rfl, Below.refl _ _, h0⟩
  case round =>
    obtain ⟨pre, q, rfl, hq, hcs, hb, hJ⟩ := hrel
    by_cases hz : q = 0
    · subst hz
      have hcs' := Lib.hid hcs
      clear hcs
      gi_wp2
      go_end0
      exact ⟨⟨_, rfl⟩, .inl ⟨pre, by rw [hcs'.out, cats_zero, List.append_nil], hJ⟩⟩
    · obtain ⟨hst, hk⟩ := cats_step q hz hq
      have hst' := Lib.hid hst
      have hcs' := Lib.hid hcs
      have hlen : pre.length < (cats r).length := by rw [hcs, hst]; simp
      have hqb : ((q : Int) != 0) = true := by simp; omega
      clear hst hcs
      have hnx := Lib.hid (show bits .and .u64 (q : Int) ((q : Int) - 1) = ((q &&& (q - 1) : Nat) : Int) by rw [show (q : Int) - 1 = ((q - 1 : Nat) : Int) by omega, and_nat _ _ hq (by omega)])
      obtain ⟨fn, tmps, assign, body, hy, hR⟩ := hY pre ⟨Lib.ctz 64 q, hk⟩ wr hJ hlen
      dsimp only at hy
      gi_wp2_with (refine ⟨trivial, ?_⟩; gi_at_call 70; refine (callsIn_wide.2 (tz64_any q hq _ (fun _ => tabAt_below hT hb hg))).mono ?_; rintro e w' ⟨rfl, rfl⟩)
      refine hR.mono ?_
      rintro e W3 (⟨rfl, hJ3, hk3⟩ | ⟨rfl, hJx3⟩)
      · gi_wp2
        go_roundw
        case rel => exact ⟨pre ++ [⟨Lib.ctz 64 q, hk⟩], q &&& (q - 1), by rw [hnx.out], and_pred_lt q hq, by rw [hcs'.out, hst'.out]; simp, hb.trans hk3, hJ3⟩
        case measure => rw [hnx.out]; simp only [intOf, Int.toNat_natCast]; rw [hst'.out]; simp
      · gi_wp2
        refine bodyPost_ret (results_none rfl _ _ _) rfl ?_
        exact ⟨⟨_, rfl⟩, .inr ⟨pre ++ [⟨Lib.ctz 64 q, hk⟩], ⟨⟨cats (q &&& (q - 1)), by rw [hcs'.out, hst'.out]; simp⟩, by simp⟩, hJx3⟩⟩

theorem cats_stops (n : Nat) (hn : 1 ≤ n) (Bn n₀ r : Nat) (w : World) (hr : r < 18446744073709551616) (hg : 0 < n₀) (hn0 : n₀ ≤ w.heap.size) (hB : Bn < w.heap.size)
    (hc : w.cell? ⟨Bn, 0, none⟩ = some (.int .u64 (r : Int))) (hT : TabAt 0 Lib.deBruijn64tab w) :
    SeqStopsK Fence.wide n Tryd.prog 69 #[.pointer (some ⟨Bn, 0, none⟩)] (fun x : Fin 64 => #[.int .i64 (x.val : Int)]) (Below n₀) (fun xs => xs.map (·.val) = cats r) (fun pre => pre.map (·.val) <+: cats r ∧ pre ≠ []) (cats r).length w :=
  fun l J Jx W hW _ _ hY h0 => cats1_in n hn l Bn n₀ r hr hg J Jx hY W ((hW.cell (p := ⟨Bn, 0, none⟩) hB).trans hc) (tabAt_below hT hW (Nat.lt_of_lt_of_le hg hn0)) h0

theorem categories_any (l : Int) (w : World) :
    Calls Tryd.prog 54 #[.int .u64 l] w fun e w' => e = .returned (.func (.func 69) #[] #[.pointer (some ⟨w.heap.size, 0, none⟩)]) ∧ w' = w.alloc (.cells #[.int .u64 l] 22) := by
  go_enter Tryd.func54, Tryd.ntmps54
  go_wp2
  go_ret
  exact ⟨rfl, rfl⟩

theorem tabAt_alloc {g : Nat} {tab : List Nat} {w : World} (h : TabAt g tab w) (hg : g < w.heap.size) (o : Obj) : TabAt g tab (w.alloc o) :=
  tabAt_below h ((Below.refl w.heap.size w).alloc (Nat.le_refl _) o) hg

theorem box_at {W : World} {B : Nat} {v : Value} {t : TypeId} (h : W.heap[B]? = some (.cells #[v] t (0, 0))) : W.cell? ⟨B, 0, none⟩ = some v ∧ W.frozen? ⟨B, 0, none⟩ = false := by
  constructor <;> simp [World.cell?, World.frozen?, h]
theorem box_new (W : World) (v : Value) (t : TypeId) : (W.alloc (.cells #[v] t)).cell? ⟨W.heap.size, 0, none⟩ = some v ∧ (W.alloc (.cells #[v] t)).frozen? ⟨W.heap.size, 0, none⟩ = false :=
  box_at (World.alloc_heap_new W _)
theorem cell_past {W : World} {a : Addr} {v : Value} (o : Obj) (h : W.cell? a = some v) : (W.alloc o).cell? a = some v := cell_kept h (World.grownBy_alloc W o none) (fun r e => by cases e)
theorem frozen_past {W : World} {a : Addr} {v : Value} (o : Obj) (h : W.cell? a = some v) (hf : W.frozen? a = false) : (W.alloc o).frozen? a = false := (frozen_kept h (World.grownBy_alloc W o none) (fun r e => by cases e)).trans hf

theorem cell_set_two {w : World} {a b : Addr} {u v : Value} (ha : w.cell? a = some u) (hb : w.cell? b = some v) (hne : a ≠ b) (x y : Value) :
    ((w.setCell a x).setCell b y).cell? a = some x ∧ ((w.setCell a x).setCell b y).cell? b = some y := by
  have e0 : (w.setCell a x).cell? a = some x := World.cell?_setCell_same' _ _ _ (by rw [ha]; rfl)
  have e1 : (w.setCell a x).cell? b = some v := (World.cell?_setCell_other _ _ _ _ (fun h => hne (by first | exact h | exact h.symm))).trans hb
  exact ⟨(World.cell?_setCell_other _ _ _ _ (fun h => hne (by first | exact h | exact h.symm))).trans e0, World.cell?_setCell_same' _ _ _ (by rw [e1]; rfl)⟩

theorem leastI_nat (r : Nat) (hr : r < 18446744073709551616) : leastI (r : Int) = match cats r with | [] => (0, 2) | c :: _ => ((c : Int), 0) := by
  unfold leastI
  rw [catsI_nat r hr]
  cases cats r with
  | nil => rfl
  | cons c t => rfl

end Go.Proofs.YtcmdndgaggbhoaaDoor
namespace Go.Proofs.YtcmdndgaggbhoaaDoor
open Go.RowKit
open Lb

theorem numI_zero {s : ByteArray} {a : Nat} (h : (digs s a).length = 0) : numI s a = (0, 0, 3, (a : Int)) := by unfold numI; rw [if_pos h]
theorem numI_lead {s : ByteArray} {a : Nat} (h : 1 < (digs s a).length) (hb : bt s a = 48) : numI s a = (0, 0, 3, (a : Int) + 1) := by
  unfold numI; rw [if_neg (by omega), if_pos ⟨hb, h⟩]
theorem numI_big {s : ByteArray} {a : Nat} (h : (digs s a).length ≠ 0) (hb : 1 < (digs s a).length → bt s a ≠ 48) (hv : 63 < decOf (digs s a)) : numI s a = (0, 0, 2, (a : Int)) := by
  unfold numI; rw [if_neg h, if_neg (fun hh => hb hh.2 hh.1), if_pos hv]
theorem numI_fine {s : ByteArray} {a : Nat} (h : (digs s a).length ≠ 0) (hb : 1 < (digs s a).length → bt s a ≠ 48) (hv : ¬ 63 < decOf (digs s a)) : numI s a = ((decOf (digs s a) : Int), (a : Int) + ((digs s a).length : Int), 0, 0) := by
  unfold numI; rw [if_neg h, if_neg (fun hh => hb hh.2 hh.1), if_neg hv]
theorem readGo_fault {s : ByteArray} {fuel a least : Nat} {li e p : Int} (h : numI s a = (0, 0, e, p)) (he : e ≠ 0) : readGo s (fuel + 1) a least li = (0, 0, e, p) := by
  simp only [readGo, h]
  rw [if_pos he]
theorem readGo_fine {s : ByteArray} {fuel a least : Nat} {li c e : Int} (h : numI s a = (c, e, 0, 0)) : readGo s (fuel + 1) a least li = if decOf (digs s a) < least then (0, 0, 9, (a : Int)) else if bt s (a + (digs s a).length) = 125 then (bits .or .u64 li (bitOf (decOf (digs s a))), (a : Int) + (digs s a).length + 1, 0, 0)
    else if bt s (a + (digs s a).length) = 44 then readGo s fuel (a + (digs s a).length + 1) (decOf (digs s a) + 1) (bits .or .u64 li (bitOf (decOf (digs s a)))) else (0, 0, 3, (a : Int) + (digs s a).length) := by
  simp only [readGo, h]
  rw [if_neg (by simp)]

end Go.Proofs.YtcmdndgaggbhoaaDoor
