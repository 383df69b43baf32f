/- Package label. -/
import Derived.Test.YtmfcjaoajanlfaaGreatDoorProg
import Derived.Shelf.Spec.TrailingZeros
import Derived.RangeFuncNested
import Derived.RangeFuncFrom
import Derived.RangeFuncBox
import Derived.RangeFuncBound
import Derived.RangeFuncCalls
import Derived.RangeFuncLeaves
import Derived.Shelf.Abstract
import Derived.Shelf.RegionOpen
import Derived.WalkKit
import Derived.OwnWalkIn
import Derived.TacticsInMore
import Derived.LoopNIn
import Derived.LoopIn
import Derived.Outline
import Derived.Test.YtmfcjaoajanlfaaGreatDoorWords
import Derived.Test.YtmfcjaoajanlfaaGreatDoorLabSm
import Derived.RangeFuncWrites
import Derived.Test.YtmfcjaoajanlfaaGreatDoorShelfMore
namespace Go.Proofs.YtmfcjaoajanlfaaGreatDoor
open Go.Shelf
def tzRen : Go.Shelf.Ren := ⟨fun | 29 => 115 | n => n, fun | 0 => 0 | 3 => 3 | 4 => 4 | 5 => 5 | 22 => 24 | 25 => 168 | 54 => 177 | n => n, fun | 1 => 3 | n => n⟩
theorem tzLays : Go.Proofs.Lays7.n29 Tryz.prog tzRen := {
  mixed := by kernel_rfl
  f29 := Tryz.func115.trans (congrArg some (by kernel_rfl))
  t0 := Tryz.underlying0
  a0 := Tryz.isAgg0
  z0 := Tryz.sizeOf0
  v0 := Tryz.zeroValue0
  i0 := by kernel_rfl
  t3 := Tryz.underlying3
  a3 := Tryz.isAgg3
  z3 := Tryz.sizeOf3
  v3 := Tryz.zeroValue3
  i3 := by kernel_rfl
  t4 := Tryz.underlying4
  a4 := Tryz.isAgg4
  z4 := Tryz.sizeOf4
  v4 := Tryz.zeroValue4
  i4 := by kernel_rfl
  t5 := Tryz.underlying5
  a5 := Tryz.isAgg5
  z5 := Tryz.sizeOf5
  v5 := Tryz.zeroValue5
  i5 := by kernel_rfl
  t22 := Tryz.underlying24
  a22 := Tryz.isAgg24
  z22 := Tryz.sizeOf24
  v22 := Tryz.zeroValue24
  i22 := by kernel_rfl
  t25 := Tryz.underlying168
  a25 := Tryz.isAgg168
  z25 := Tryz.sizeOf168
  v25 := Tryz.zeroValue168
  i25 := by kernel_rfl
  t54 := Tryz.underlying177
  a54 := Tryz.isAgg177
  z54 := Tryz.sizeOf177
  g1 := by kernel_rfl }
theorem tz64_any (x : Nat) (hx : x < 18446744073709551616) (w : World) (hT : x ≠ 0 → TabAt 3 Lib.deBruijn64tab w) :
    Calls Tryz.prog 115 #[.int .u64 x] w fun e w' => e = .returned (.int .i64 (Lib.ctz 64 x)) ∧ w' = w := Any7.bits_TrailingZeros64 tzLays x hx w hT
end Go.Proofs.YtmfcjaoajanlfaaGreatDoor
namespace Go.Proofs.YtmfcjaoajanlfaaGreatDoor
open Go.RowKit Go.Shelf
open Lb
attribute [local go_sem] Oper.semAt_some

theorem tabAt_below {g n₀ : Nat} {tab : List Nat} {w w' : World} (h : TabAt g tab w) (hb : Below n₀ w w') (hg : g < n₀) : TabAt g tab w' :=
  fun j hj => (hb.cell (p := ⟨g, j, none⟩) hg).trans (h j hj)

set_option maxHeartbeats 1000000 in
theorem cats1_in (n : Nat) (hn : 1 ≤ n) (l Bn n₀ : Nat) (r : Nat) (hr : r < 18446744073709551616) (hg : 3 < n₀) (J Jx : List (Fin 64) → World → Prop)
    (hY : ∀ (pre : List (Fin 64)) (x : Fin 64) (W : World), J pre W → pre.length < (cats r).length → YieldAt Fence.wide (n - 1) Tryz.prog l #[.int .i64 (x.val : Int)] W fun e W' =>
      (e = .returned (.bool true) ∧ J (pre ++ [x]) W' ∧ Below n₀ W W') ∨ (e = .returned (.bool false) ∧ Jx (pre ++ [x]) W'))
    (W : World) (hBn : W.cell? ⟨Bn, 0, none⟩ = some (.int .u64 (r : Int))) (hT : TabAt 3 Lib.deBruijn64tab W) (h0 : J [] W) :
    CallsIn Fence.wide n Tryz.prog 114 #[.func (.yield l) #[] #[], .pointer (some ⟨Bn, 0, none⟩)] W fun e W' => (∃ v, e = .returned v) ∧
      ((∃ ys : List (Fin 64), ys.map (·.val) = cats r ∧ J ys W') ∨ (∃ pre : List (Fin 64), (pre.map (·.val) <+: cats r ∧ pre ≠ []) ∧ Jx pre W')) := by
  refine callsIn_of_wp Tryz.func114 rfl trivial ?_ rfl
  simp only [Tryz.ntmps114, List.size_toArray, List.length_cons, List.length_nil, Nat.reduceAdd, Nat.reduceSub, Array.replicate_succ, Array.replicate_zero, List.push_toArray, List.append_toArray, List.nil_append, List.cons_append]
  gi_wp2
  gi_loopw [3] (fun v wr => ∃ (pre : List (Fin 64)) (q : Nat), v = .int .u64 (q : Int) ∧ q < 18446744073709551616 ∧ cats r = pre.map (·.val) ++ cats q ∧ Below n₀ W wr ∧ J pre wr) (fun v _ => (cats (intOf v).toNat).length)
  case atStart => exact ⟨[], r, rfl, hr, rfl, Below.refl _ _, h0⟩
  case round =>
    obtain ⟨pre, q, rfl, hq, hcs, hb, hJ⟩ := hrel
    by_cases hz : q = 0
    · subst hz
      have hcs' := Lib.hid hcs
      clear hcs
      gi_wp2
      go_end0
      exact ⟨⟨_, rfl⟩, .inl ⟨pre, by rw [hcs'.out, cats_zero, List.append_nil], hJ⟩⟩
    · obtain ⟨hst, hk⟩ := cats_step q hz hq
      have hst' := Lib.hid hst
      have hcs' := Lib.hid hcs
      have hlen : pre.length < (cats r).length := by rw [hcs, hst]; simp
      have hqb : ((q : Int) != 0) = true := by simp; omega
      clear hst hcs
      have hnx := Lib.hid (show bits .and .u64 (q : Int) ((q : Int) - 1) = ((q &&& (q - 1) : Nat) : Int) by rw [show (q : Int) - 1 = ((q - 1 : Nat) : Int) by omega, and_nat _ _ hq (by omega)])
      obtain ⟨fn, tmps, assign, body, hy, hR⟩ := hY pre ⟨Lib.ctz 64 q, hk⟩ wr hJ hlen
      dsimp only at hy
      gi_wp2_with (refine ⟨trivial, ?_⟩; gi_at_call 115; refine (callsIn_wide.2 (tz64_any q hq _ (fun _ => tabAt_below hT hb hg))).mono ?_; rintro e w' ⟨rfl, rfl⟩)
      refine hR.mono ?_
      rintro e W3 (⟨rfl, hJ3, hk3⟩ | ⟨rfl, hJx3⟩)
      · gi_wp2
        go_roundw
        case rel => exact ⟨pre ++ [⟨Lib.ctz 64 q, hk⟩], q &&& (q - 1), by rw [hnx.out], and_pred_lt q hq, by rw [hcs'.out, hst'.out]; simp, hb.trans hk3, hJ3⟩
        case measure => rw [hnx.out]; simp only [intOf, Int.toNat_natCast]; rw [hst'.out]; simp
      · gi_wp2
        refine bodyPost_ret (results_none rfl _ _ _) rfl ?_
        exact ⟨⟨_, rfl⟩, .inr ⟨pre ++ [⟨Lib.ctz 64 q, hk⟩], ⟨⟨cats (q &&& (q - 1)), by rw [hcs'.out, hst'.out]; simp⟩, by simp⟩, hJx3⟩⟩

theorem cats_stops (n : Nat) (hn : 1 ≤ n) (Bn n₀ r : Nat) (w : World) (hr : r < 18446744073709551616) (hg : 3 < n₀) (hn0 : n₀ ≤ w.heap.size) (hB : Bn < w.heap.size)
    (hc : w.cell? ⟨Bn, 0, none⟩ = some (.int .u64 (r : Int))) (hT : TabAt 3 Lib.deBruijn64tab w) :
    SeqStopsK Fence.wide n Tryz.prog 114 #[.pointer (some ⟨Bn, 0, none⟩)] (fun x : Fin 64 => #[.int .i64 (x.val : Int)]) (Below n₀) (fun xs => xs.map (·.val) = cats r) (fun pre => pre.map (·.val) <+: cats r ∧ pre ≠ []) (cats r).length w :=
  fun l J Jx W hW _ _ hY h0 => cats1_in n hn l Bn n₀ r hr hg J Jx hY W ((hW.cell (p := ⟨Bn, 0, none⟩) hB).trans hc) (tabAt_below hT hW (Nat.lt_of_lt_of_le hg hn0)) h0

theorem categories_any (l : Int) (w : World) :
    Calls Tryz.prog 100 #[.int .u64 l] w fun e w' => e = .returned (.func (.func 114) #[] #[.pointer (some ⟨w.heap.size, 0, none⟩)]) ∧ w' = w.alloc (.cells #[.int .u64 l] 24) := by
  go_enter Tryz.func100, Tryz.ntmps100
  go_wp2
  go_ret
  exact ⟨rfl, rfl⟩

theorem tabAt_alloc {g : Nat} {tab : List Nat} {w : World} (h : TabAt g tab w) (hg : g < w.heap.size) (o : Obj) : TabAt g tab (w.alloc o) :=
  tabAt_below h ((Below.refl w.heap.size w).alloc (Nat.le_refl _) o) hg

theorem box_at {W : World} {B : Nat} {v : Value} {t : TypeId} (h : W.heap[B]? = some (.cells #[v] t (0, 0))) : W.cell? ⟨B, 0, none⟩ = some v ∧ W.frozen? ⟨B, 0, none⟩ = false := by
  constructor <;> simp [World.cell?, World.frozen?, h]
theorem box_new (W : World) (v : Value) (t : TypeId) : (W.alloc (.cells #[v] t)).cell? ⟨W.heap.size, 0, none⟩ = some v ∧ (W.alloc (.cells #[v] t)).frozen? ⟨W.heap.size, 0, none⟩ = false :=
  box_at (World.alloc_heap_new W _)
theorem cell_past {W : World} {a : Addr} {v : Value} (o : Obj) (h : W.cell? a = some v) : (W.alloc o).cell? a = some v := cell_kept h (World.grownBy_alloc W o none) (fun r e => by cases e)
theorem frozen_past {W : World} {a : Addr} {v : Value} (o : Obj) (h : W.cell? a = some v) (hf : W.frozen? a = false) : (W.alloc o).frozen? a = false := (frozen_kept h (World.grownBy_alloc W o none) (fun r e => by cases e)).trans hf

theorem cell_set_two {w : World} {a b : Addr} {u v : Value} (ha : w.cell? a = some u) (hb : w.cell? b = some v) (hne : a ≠ b) (x y : Value) :
    ((w.setCell a x).setCell b y).cell? a = some x ∧ ((w.setCell a x).setCell b y).cell? b = some y := by
  have e0 : (w.setCell a x).cell? a = some x := World.cell?_setCell_same' _ _ _ (by rw [ha]; rfl)
  have e1 : (w.setCell a x).cell? b = some v := (World.cell?_setCell_other _ _ _ _ (fun h => hne (by first | exact h | exact h.symm))).trans hb
  exact ⟨(World.cell?_setCell_other _ _ _ _ (fun h => hne (by first | exact h | exact h.symm))).trans e0, World.cell?_setCell_same' _ _ _ (by rw [e1]; rfl)⟩

theorem leastI_nat (r : Nat) (hr : r < 18446744073709551616) : leastI (r : Int) = match cats r with | [] => (0, 2) | c :: _ => ((c : Int), 0) := by
  unfold leastI
  rw [catsI_nat r hr]
  cases cats r with
  | nil => rfl
  | cons c t => rfl

end Go.Proofs.YtmfcjaoajanlfaaGreatDoor
namespace Go.Proofs.YtmfcjaoajanlfaaGreatDoor
open Go.RowKit
open Lb

end Go.Proofs.YtmfcjaoajanlfaaGreatDoor
namespace Go.Proofs.YtmfcjaoajanlfaaGreatDoor
open Go.RowKit
open Lb

theorem ofI_bad {l : List Int} {k : Nat} (h : k < l.length) (hc : isCat l[k] = false) : ofI l = (0, 2) := by
  unfold ofI
  rw [if_neg]
  intro ha
  have := List.all_eq_true.1 ha l[k] (List.getElem_mem h)
  rw [hc] at this
  cases this
theorem ofI_good {l : List Int} (h : l.all isCat = true) : ofI l = (orAll l, 0) := by unfold ofI; rw [if_pos h]
theorem all_take_succ {l : List Int} {k : Nat} (h : k < l.length) (ha : (l.take k).all isCat = true) (hc : isCat l[k] = true) : (l.take (k + 1)).all isCat = true := by
  rw [take_snoc l k h, List.all_append, ha]; simp [hc]
theorem isCat_iff {c : Int} : isCat c = true ↔ 0 ≤ c ∧ c ≤ 63 := by simp [isCat]

end Go.Proofs.YtmfcjaoajanlfaaGreatDoor
namespace Go.Proofs.YtmfcjaoajanlfaaGreatDoor
open Go.RowKit
open Lb

theorem infoInt : (Tryz.prog.info? 3).map (fun i => (i.zero, i.size, i.bytes)) = some (some (.int .i64 0), 1, 8) := by kernel_rfl

end Go.Proofs.YtmfcjaoajanlfaaGreatDoor
namespace Go.Proofs.YtmfcjaoajanlfaaGreatDoor
open Go.RowKit Go.Shelf
open Lb
attribute [local go_sem] Oper.semAt_some

def ints (zs : List Nat) : List Value := vals .i64 (zs.map fun (k : Nat) => (k : Int))
theorem ints_length (zs : List Nat) : (ints zs).length = zs.length := by simp [ints, vals]
theorem ints_snoc (zs : List Nat) (x : Nat) : ints (zs ++ [x]) = ints zs ++ [.int .i64 (x : Int)] := by simp [ints, vals]

end Go.Proofs.YtmfcjaoajanlfaaGreatDoor
namespace Go.Proofs.YtmfcjaoajanlfaaGreatDoor
open Go.RowKit Go.Shelf
open Lb
attribute [local go_sem] Oper.semAt_some

/-- An append onto a row of the call's own, as a step of a region that draws its order, inside a fence. -/
theorem stepIn_append_own {F : Fence} {n : Nat} {P : Program} {w : World} {ops : Array Oper} {o : Oper} {a : Act} {K : Act → World → Prop} {Q : Exit → Act → World → Prop} {E : Prop}
    (hg : o.guard = none) (s x : Operand) (t : TypeId) (hop : o.op = Op.call { callee := Callee.builtin Builtin.append, args := #[s, x], argTypes := #[t, t] })
    (base : Nat) (e : TypeId) (i : TypeInfo) (z : Value) (size bytes : Nat) (h1 : P.underlying t = some (.slice e)) (h2 : P.info? e = some i) (h3 : i.zero = some z) (h4 : i.size = size) (h5 : i.bytes = bytes) (h6 : z.cells.size = size) (h7 : 0 < size)
    (v : Value) (k : Nat) (xs : List Value) (hs : a.eval s = v) (hown : w.ownsRow base e size v k xs) (ad : Addr) (m c : Nat) (news : List Value) (hx : a.eval x = .slice (some ad) m c) (hn : news.length = m * size)
    (hc : ∀ j u, news[j]? = some u → w.cell? (ad.add j) = some u) (h1c : ∀ u ∈ news, u.oneCell' = true) (b1 : k + m ≤ maxLen) (b2 : (k + m) * bytes ≤ 140737488355328) (b3 : base ≤ w.heap.size)
    (hK : ∀ v' w', w'.ownsRow base e size v' (k + m) (xs ++ news) → w.grownBy w' v.ownBlock → (v' = .slice none 0 0 ↔ v = .slice none 0 0 ∧ m = 0) → K (a.put o.dst v') w') :
    if Region.wanted o (yielded ops a.tmps) = true then Oper.wpIn F n P o a w K Q else E := by
  have hw : Region.wanted o (yielded ops a.tmps) = true := by simp [Region.wanted, hg]
  rw [if_pos hw]
  obtain ⟨v', w', hrun, r1, r2, r3⟩ := run_append_own (P := P) w base t o.type e i z size bytes h1 h2 h3 h4 h5 h6 h7 v k xs hown ad m c news hn hc h1c b1 b2 b3
  unfold Oper.wpIn
  refine ⟨?_, ?_⟩
  · simp [Oper.about, hop, resolve, Target.leads, Sem.run_pure]
  · rw [Oper.semAt_plain F _ _ (by rw [hop]; intro c hc'; cases hc')]
    simp [execOp, hop, resolve, invoke, builtin, hs, hx, hrun, Result.andThen]
    exact hK v' w' r1 r2 r3

theorem infoStr : (Tryz.prog.info? 9).map (fun i => (i.zero, i.size, i.bytes)) = some (some (.string ByteArray.empty), 1, 16) := by kernel_rfl

/-- The texts of categories. -/
abbrev decStr (k : Nat) : ByteArray := ⟨(Lib.decDigits k).toArray⟩
def strs (zs : List Nat) : List Value := zs.map fun k => Value.string (decStr k)
theorem strs_snoc (zs : List Nat) (x : Nat) : strs (zs ++ [x]) = strs zs ++ [.string (decStr x)] := by simp [strs]
/-- The bytes of the text of a label with these categories. -/
def textOf (zs : List Nat) : List UInt8 := [123] ++ Lib.join (zs.map Lib.decDigits) [44] ++ [125]

theorem textOf_str (zs : List Nat) : (({ data := #[123] } : ByteArray) ++ strOf (Lib.join (zs.map Lib.decDigits) [44]) ++ { data := #[125] }) = strOf (textOf zs) := by
  apply ByteArray.ext
  simp [strOf, textOf]

theorem textOf_length (zs : List Nat) (h : ∀ k ∈ zs, k < 64) : (Lib.join (zs.map Lib.decDigits) [44]).length ≤ 3 * zs.length := by
  have hd : ∀ k : Nat, k < 64 → (Lib.decDigits k).length ≤ 2 := fun k hk => by
    by_cases h1 : k < 10
    · rw [Lib.decDigits_one h1]; simp
    · rw [Lib.decDigits_two h1 (by omega)]; simp
  cases zs with
  | nil => simp [Lib.join_nil]
  | cons x r =>
    rw [List.map_cons, Lib.join_cons, List.length_append, Lib.joinTail_length]
    have hx := hd x (h x (by simp))
    have hr : ∀ l : List Nat, (∀ k ∈ l, k < 64) → Lib.lens (l.map Lib.decDigits) ≤ 2 * l.length := fun l => by
      induction l with
      | nil => intro _; simp [Lib.lens]
      | cons y t ih =>
        intro hl
        have h1 := hd y (hl y (by simp))
        have h2 := ih (fun k hk => hl k (by simp [hk]))
        simp [Lib.lens] at h2 ⊢
        omega
    have := hr r (fun k hk => h k (by simp [hk]))
    simp only [List.length_map, List.length_cons, List.length_nil] at this ⊢
    omega

theorem join_own (v : Value) (zs : List Nat) (w : World) (base n : Nat) (h : w.ownsRow base 9 1 v n (strs zs)) (hz : ∀ k ∈ zs, k < 64) (hN : zs.length ≤ 64) :
    Calls Tryz.prog 102 #[v, .string { data := #[44] }] w fun e w' => e = .returned (.string (strOf (Lib.join (zs.map Lib.decDigits) [44]))) ∧ Below w.heap.size w w' := by
  have hl : zs.length = n := by have := h.1; simp [strs] at this; omega
  have hjl := textOf_length zs hz
  rcases h.2 with ⟨rfl, h0⟩ | ⟨g, cap, cur, rfl, _, hgb, hnc, hcm, _⟩
  · subst h0
    obtain rfl : zs = [] := List.eq_nil_of_length_eq_zero hl
    exact (Tryz.strings_Join_none none 0 _ w).mono fun e w' ⟨he, hw⟩ => ⟨he, hw ▸ Below.refl _ _⟩
  · have hj := Tryz.strings_Join g 0 cap (zs.map decStr) { data := #[44] } w (fun j x hx => by
      have := h.cells (g := g) rfl j (.string x) (by simp [strs] at hx ⊢; obtain ⟨y, h1, h2⟩ := hx; exact ⟨y, h1, by rw [← h2]⟩)
      rw [← this]
      unfold Addr.add
      split
      · rename_i h0; subst h0; rfl
      · rfl) (Array.getElem?_eq_some_iff.1 hgb).1 (by simp; omega) (by simp; omega) (by
        have e : (zs.map decStr).map (·.data.toList) = zs.map Lib.decDigits := by simp
        rw [e]; exact Nat.le_trans hjl (by omega))
    have e : (zs.map decStr).map (·.data.toList) = zs.map Lib.decDigits := by simp
    rw [e] at hj
    rw [← hl]
    simpa [strOf] using hj

set_option maxRecDepth 100000 in
set_option maxHeartbeats 2000000 in
theorem text_any (r : Nat) (w : World) (hr : r < 18446744073709551616) (hg : 3 < w.heap.size) (hT : TabAt 3 Lib.deBruijn64tab w) :
    Calls Tryz.prog 88 #[.int .u64 (r : Int)] w fun e w' => e = .returned (.string (strOf (textOf (cats r)))) ∧ Below w.heap.size w w' := by
  obtain ⟨i0, hi, hz0, hz1, hz2⟩ := info_parts infoStr
  refine (callsIn_wide (n := 3)).1 ?_
  refine callsIn_of_wp_marks Tryz.func88 rfl trivial ?_ rfl
  simp only [Tryz.ntmps88, List.size_toArray, List.length_cons, List.length_nil, Nat.reduceAdd, Nat.reduceSub, Array.replicate_succ, Array.replicate_zero, List.push_toArray, List.append_toArray, List.nil_append, List.cons_append]
  gi_wp2_with (refine ⟨trivial, ?_⟩; gi_at_call 100; refine (callsIn_wide.2 (categories_any _ _)).mono ?_; rintro e w' ⟨rfl, rfl⟩)
  have hz64 := cats_le r
  have bO := Boxed.new w 40 (.slice none 0 0)
  have bN := box_new (w.alloc (.cells #[.slice none 0 0] 40)) (.int .u64 (r : Int)) 24
  rw [World.size_alloc] at bN
  have hB0 : Below w.heap.size w ((w.alloc (.cells #[.slice none 0 0] 40)).alloc (.cells #[.int .u64 (r : Int)] 24)) := ((Below.refl _ w).alloc (Nat.le_refl _) _).alloc (by simp) _
  refine wpIn_rangeFunc_ownG rfl (by decide) (gf := 114) (lb := #[.pointer (some ⟨w.heap.size + 1, 0, none⟩)]) rfl trivial (enters_of Tryz.func114 (by kernel_rfl) rfl)
    (cats_stops 2 (by decide) (w.heap.size + 1) w.heap.size r _ hr hg (by simp; omega) (by simp) bN.1 (tabAt_below hT hB0 hg)) belowK_t (belowK_b (by simp; omega)) (Below.refl _ _) (fun _ => rfl)
    (fun pre W => (∃ v, Boxed W w.heap.size 40 v ∧ W.ownsRow w.heap.size 9 1 v pre.length (strs (pre.map (·.val))) ∧ True) ∧ Below w.heap.size w W)
    (fun _ _ _ => False)
    (OwnFrom.and (Own.from (holdsRow_own w.heap.size w.heap.size 40 9 1 (fun pre : List (Fin 64) => pre.length) (fun pre => strs (pre.map (·.val))) (fun _ _ => True)) _) (ownFrom_below (Nat.le_refl _) (by simp; omega)))
    (fun _ _ _ _ _ hs _ _ => hs)
    ⟨⟨_, bO.alloc _, World.ownsRow_nil _ _ _ _, trivial⟩, hB0⟩
    (fun x => { tmps := #[.int .u64 (r : Int), undef, .string { data := #[] }, .pointer (some ⟨w.heap.size, 0, none⟩), .int .i64 (x.val : Int), .int .u64 (r : Int), .func (.func 114) #[] #[.pointer (some ⟨w.heap.size + 1, 0, none⟩)], .int .i64 (x.val : Int), undef, undef, undef, undef, undef, undef, undef, undef, undef], defers := [] }) ?assign ?body ?done ?stop
  case assign =>
    intro l x W K hK
    gi_wp2
    exact hK
  case body =>
    rintro l pre x W ⟨⟨v, hv, hrow, hpre⟩, hB⟩ hlt
    have hmx : Tryz.prog.follows .mixedOrders = true := by kernel_rfl
    have hc := hv.cell
    gi_wp2
    refine wpIn_region_any hmx ?_
    change wpAnyIn _ _ _ _ _ _ _ _ _ (World.drew _)
    have hx64 := x.isLt
    obtain ⟨us, hus⟩ : ∃ us, us = strs (pre.map fun c : Fin 64 => c.val) := ⟨_, rfl⟩
    have hus' : us ++ [.string (decStr x.val)] = strs ((pre ++ [x]).map fun c : Fin 64 => c.val) := by rw [List.map_append, List.map_cons, List.map_nil, strs_snoc, hus]
    rw [← hus] at hrow
    clear hus
    have hpast : ∀ o : Obj, (W.alloc o).cell? ⟨w.heap.size, 0, none⟩ = some v := fun o => cell_past o hc
    refine wpAnyIn_ready (rs := [0, 1]) (by kernel_rfl) (by simp) ?_
    refine AllReadyIn.cons rfl (fun K hK => ?_) ?_
    · go_simp
      refine hK _ _ ?_
      clear hK K
      refine wpAnyIn_ready (rs := [1]) (by kernel_rfl) (by simp) ?_
      refine AllReadyIn.cons rfl (fun K hK => ?_) ?_
      · go_simp
        refine hK _ _ ?_
        clear hK K
        refine wpAnyIn_ready (rs := [2]) (by kernel_rfl) (by simp) ?_
        refine AllReadyIn.cons rfl (fun K hK => ?_) ?_
        · go_simp
          refine ⟨trivial, ?_⟩
          refine (CallsIn.inRound l (callsIn_wide.2 (Tryz.strconv_Itoa_small x.val (by omega) _))).mono ?_
          rintro e w1 ⟨rfl, rfl⟩
          refine hK _ _ ?_
          clear hK K
          refine wpAnyIn_ready (rs := [3]) (by kernel_rfl) (by simp) ?_
          refine AllReadyIn.cons rfl (fun K hK => ?_) ?_
          · go_simp
            refine hK _ _ ?_
            clear hK K
            refine wpAnyIn_ready (rs := [4]) (by kernel_rfl) (by simp) ?_
            refine AllReadyIn.cons rfl (fun K hK => ?_) AllReadyIn.nil
            refine stepIn_append_own rfl _ _ 40 rfl w.heap.size 9 i0 (.string ByteArray.empty) 1 16 Tryz.underlying40 hi hz0 hz1 hz2 rfl (by decide) v pre.length us rfl (show (W.alloc (.cells #[.string (decStr x.val)] 9)).drew.ownsRow w.heap.size 9 1 v pre.length us from hrow.alloc _) ⟨W.heap.size, 0, none⟩ 1 1 [.string (decStr x.val)] rfl rfl (cell_one_new _ _ _) (by simp [Value.oneCell']) (by unfold maxLen; omega) (by omega) (by have := hB.size; simp; omega) ?_
            intro v' w1 hown' hgrow0 _
            refine hK _ _ ?_
            clear hK K
            have hgrow : (W.alloc (.cells #[.string (decStr x.val)] 9)).grownBy w1 v.ownBlock := ⟨hgrow0.os, hgrow0.tape, hgrow0.output, hgrow0.size, hgrow0.block⟩
            obtain ⟨g', cap', rfl⟩ := ownsRow_succ hown'
            obtain ⟨hv1, hv2, hr2, hk2, hb2⟩ := hv.appended (by decide) hrow hB.size (Nat.le_refl _) hown' hgrow
            have hc1 := hv1.cell
            have hf1 := hv1.frozen
            refine wpAnyIn_ready (rs := [5]) (by kernel_rfl) (by simp) ?_
            refine AllReadyIn.cons rfl (fun K hK => ?_) AllReadyIn.nil
            go_simp
            refine hK _ _ ?_
            clear hK K
            refine wpAnyIn_done (by kernel_rfl) ?_ _
            exact ⟨hk2.from _, hb2, ⟨_, hv2, by rw [← hus', List.length_append]; exact hr2, trivial⟩, hB.trans hb2⟩
          exact AllReadyIn.nil
        exact AllReadyIn.nil
      exact AllReadyIn.nil
    refine AllReadyIn.cons rfl (fun K hK => ?_) ?_
    · go_simp
      refine hK _ _ ?_
      clear hK K
      refine wpAnyIn_ready (rs := [0, 2]) (by kernel_rfl) (by simp) ?_
      refine AllReadyIn.cons rfl (fun K hK => ?_) ?_
      · go_simp
        refine hK _ _ ?_
        clear hK K
        refine wpAnyIn_ready (rs := [2]) (by kernel_rfl) (by simp) ?_
        refine AllReadyIn.cons rfl (fun K hK => ?_) ?_
        · go_simp
          refine ⟨trivial, ?_⟩
          refine (CallsIn.inRound l (callsIn_wide.2 (Tryz.strconv_Itoa_small x.val (by omega) _))).mono ?_
          rintro e w1 ⟨rfl, rfl⟩
          refine hK _ _ ?_
          clear hK K
          refine wpAnyIn_ready (rs := [3]) (by kernel_rfl) (by simp) ?_
          refine AllReadyIn.cons rfl (fun K hK => ?_) ?_
          · go_simp
            refine hK _ _ ?_
            clear hK K
            refine wpAnyIn_ready (rs := [4]) (by kernel_rfl) (by simp) ?_
            refine AllReadyIn.cons rfl (fun K hK => ?_) AllReadyIn.nil
            refine stepIn_append_own rfl _ _ 40 rfl w.heap.size 9 i0 (.string ByteArray.empty) 1 16 Tryz.underlying40 hi hz0 hz1 hz2 rfl (by decide) v pre.length us rfl (show (W.alloc (.cells #[.string (decStr x.val)] 9)).drew.ownsRow w.heap.size 9 1 v pre.length us from hrow.alloc _) ⟨W.heap.size, 0, none⟩ 1 1 [.string (decStr x.val)] rfl rfl (cell_one_new _ _ _) (by simp [Value.oneCell']) (by unfold maxLen; omega) (by omega) (by have := hB.size; simp; omega) ?_
            intro v' w1 hown' hgrow0 _
            refine hK _ _ ?_
            clear hK K
            have hgrow : (W.alloc (.cells #[.string (decStr x.val)] 9)).grownBy w1 v.ownBlock := ⟨hgrow0.os, hgrow0.tape, hgrow0.output, hgrow0.size, hgrow0.block⟩
            obtain ⟨g', cap', rfl⟩ := ownsRow_succ hown'
            obtain ⟨hv1, hv2, hr2, hk2, hb2⟩ := hv.appended (by decide) hrow hB.size (Nat.le_refl _) hown' hgrow
            have hc1 := hv1.cell
            have hf1 := hv1.frozen
            refine wpAnyIn_ready (rs := [5]) (by kernel_rfl) (by simp) ?_
            refine AllReadyIn.cons rfl (fun K hK => ?_) AllReadyIn.nil
            go_simp
            refine hK _ _ ?_
            clear hK K
            refine wpAnyIn_done (by kernel_rfl) ?_ _
            exact ⟨hk2.from _, hb2, ⟨_, hv2, by rw [← hus', List.length_append]; exact hr2, trivial⟩, hB.trans hb2⟩
          exact AllReadyIn.nil
        exact AllReadyIn.nil
      refine AllReadyIn.cons rfl (fun K hK => ?_) ?_
      · go_simp
        refine ⟨trivial, ?_⟩
        refine (CallsIn.inRound l (callsIn_wide.2 (Tryz.strconv_Itoa_small x.val (by omega) _))).mono ?_
        rintro e w1 ⟨rfl, rfl⟩
        refine hK _ _ ?_
        clear hK K
        refine wpAnyIn_ready (rs := [0, 3]) (by kernel_rfl) (by simp) ?_
        refine AllReadyIn.cons rfl (fun K hK => ?_) ?_
        · go_simp
          refine hK _ _ ?_
          clear hK K
          refine wpAnyIn_ready (rs := [3]) (by kernel_rfl) (by simp) ?_
          refine AllReadyIn.cons rfl (fun K hK => ?_) ?_
          · go_simp
            refine hK _ _ ?_
            clear hK K
            refine wpAnyIn_ready (rs := [4]) (by kernel_rfl) (by simp) ?_
            refine AllReadyIn.cons rfl (fun K hK => ?_) AllReadyIn.nil
            refine stepIn_append_own rfl _ _ 40 rfl w.heap.size 9 i0 (.string ByteArray.empty) 1 16 Tryz.underlying40 hi hz0 hz1 hz2 rfl (by decide) v pre.length us rfl (show (W.alloc (.cells #[.string (decStr x.val)] 9)).drew.ownsRow w.heap.size 9 1 v pre.length us from hrow.alloc _) ⟨W.heap.size, 0, none⟩ 1 1 [.string (decStr x.val)] rfl rfl (cell_one_new _ _ _) (by simp [Value.oneCell']) (by unfold maxLen; omega) (by omega) (by have := hB.size; simp; omega) ?_
            intro v' w1 hown' hgrow0 _
            refine hK _ _ ?_
            clear hK K
            have hgrow : (W.alloc (.cells #[.string (decStr x.val)] 9)).grownBy w1 v.ownBlock := ⟨hgrow0.os, hgrow0.tape, hgrow0.output, hgrow0.size, hgrow0.block⟩
            obtain ⟨g', cap', rfl⟩ := ownsRow_succ hown'
            obtain ⟨hv1, hv2, hr2, hk2, hb2⟩ := hv.appended (by decide) hrow hB.size (Nat.le_refl _) hown' hgrow
            have hc1 := hv1.cell
            have hf1 := hv1.frozen
            refine wpAnyIn_ready (rs := [5]) (by kernel_rfl) (by simp) ?_
            refine AllReadyIn.cons rfl (fun K hK => ?_) AllReadyIn.nil
            go_simp
            refine hK _ _ ?_
            clear hK K
            refine wpAnyIn_done (by kernel_rfl) ?_ _
            exact ⟨hk2.from _, hb2, ⟨_, hv2, by rw [← hus', List.length_append]; exact hr2, trivial⟩, hB.trans hb2⟩
          exact AllReadyIn.nil
        refine AllReadyIn.cons rfl (fun K hK => ?_) ?_
        · go_simp
          refine hK _ _ ?_
          clear hK K
          refine wpAnyIn_ready (rs := [0]) (by kernel_rfl) (by simp) ?_
          refine AllReadyIn.cons rfl (fun K hK => ?_) ?_
          · go_simp
            refine hK _ _ ?_
            clear hK K
            refine wpAnyIn_ready (rs := [4]) (by kernel_rfl) (by simp) ?_
            refine AllReadyIn.cons rfl (fun K hK => ?_) AllReadyIn.nil
            refine stepIn_append_own rfl _ _ 40 rfl w.heap.size 9 i0 (.string ByteArray.empty) 1 16 Tryz.underlying40 hi hz0 hz1 hz2 rfl (by decide) v pre.length us rfl (show (W.alloc (.cells #[.string (decStr x.val)] 9)).drew.ownsRow w.heap.size 9 1 v pre.length us from hrow.alloc _) ⟨W.heap.size, 0, none⟩ 1 1 [.string (decStr x.val)] rfl rfl (cell_one_new _ _ _) (by simp [Value.oneCell']) (by unfold maxLen; omega) (by omega) (by have := hB.size; simp; omega) ?_
            intro v' w1 hown' hgrow0 _
            refine hK _ _ ?_
            clear hK K
            have hgrow : (W.alloc (.cells #[.string (decStr x.val)] 9)).grownBy w1 v.ownBlock := ⟨hgrow0.os, hgrow0.tape, hgrow0.output, hgrow0.size, hgrow0.block⟩
            obtain ⟨g', cap', rfl⟩ := ownsRow_succ hown'
            obtain ⟨hv1, hv2, hr2, hk2, hb2⟩ := hv.appended (by decide) hrow hB.size (Nat.le_refl _) hown' hgrow
            have hc1 := hv1.cell
            have hf1 := hv1.frozen
            refine wpAnyIn_ready (rs := [5]) (by kernel_rfl) (by simp) ?_
            refine AllReadyIn.cons rfl (fun K hK => ?_) AllReadyIn.nil
            go_simp
            refine hK _ _ ?_
            clear hK K
            refine wpAnyIn_done (by kernel_rfl) ?_ _
            exact ⟨hk2.from _, hb2, ⟨_, hv2, by rw [← hus', List.length_append]; exact hr2, trivial⟩, hB.trans hb2⟩
          exact AllReadyIn.nil
        exact AllReadyIn.nil
      exact AllReadyIn.nil
    exact AllReadyIn.nil
  case done =>
    rintro D ys W hD hys ⟨⟨v, hv, hrow, _⟩, hB⟩ hK
    rw [hys] at hrow
    clear hys
    have hc := hv.cell
    have hsz : (strOf (Lib.join ((cats r).map Lib.decDigits) [44])).size ≤ 192 := by
      have h1 := textOf_length (cats r) (fun k hk => cats_lt hk)
      have h2 : (strOf (Lib.join ((cats r).map Lib.decDigits) [44])).size = (Lib.join ((cats r).map Lib.decDigits) [44]).length := by simp [strOf, ByteArray.size]
      omega
    gi_wp2_with (refine ⟨trivial, ?_⟩; gi_at_call 102; refine (callsIn_wide.2 (join_own v (cats r) W _ _ hrow (fun k hk => cats_lt hk) hz64)).mono ?_; rintro e w1 ⟨rfl, hb1⟩)
    have hDlt : D < W.heap.size := (Array.getElem?_eq_some_iff.1 hK).1
    have hK1 : w1.heap[D]? = some (.deferred (some [])) := (hb1.block D hDlt).trans hK
    refine ⟨by simp, .inl ⟨_, _, rfl, run_takeDeferred hK1, ?_⟩⟩
    exact ⟨_, results_tmp rfl _ _ _, by rw [← textOf_str]; rfl, (hB.trans (hb1.mono hB.size)).trans (belowK_b (w := w) (Nat.le_refl _) w1 D _ _ (by simp at hD; omega) hK1 rfl rfl)⟩
  case stop =>
    rintro D c pre W _ _ h _
    exact h.elim
end Go.Proofs.YtmfcjaoajanlfaaGreatDoor
