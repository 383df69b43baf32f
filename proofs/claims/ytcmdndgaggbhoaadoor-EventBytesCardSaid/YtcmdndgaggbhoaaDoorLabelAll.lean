/- Package label, as far as the events' package calls it: what its functions answer, and what the document's own answer. -/
import Derived.Test.YtcmdndgaggbhoaaDoorWords
import Derived.Test.YtcmdndgaggbhoaaDoorLabelTwo
import Derived.RangeFuncWrites
import Derived.Test.YtcmdndgaggbhoaaDoorShelf
import Derived.Deep.DeepCutAuto
namespace Go.Proofs.YtcmdndgaggbhoaaDoor
open Go.RowKit Go.Shelf
open Lb
attribute [local go_sem] Oper.semAt_some

def ints (zs : List Nat) : List Value := vals .i64 (zs.map fun (k : Nat) => (k : Int))
theorem ints_length (zs : List Nat) : (ints zs).length = zs.length := by simp [ints, vals]
theorem ints_snoc (zs : List Nat) (x : Nat) : ints (zs ++ [x]) = ints zs ++ [.int .i64 (x : Int)] := by simp [ints, vals]

end Go.Proofs.YtcmdndgaggbhoaaDoor
namespace Go.Proofs.YtcmdndgaggbhoaaDoor
open Go.RowKit Go.Shelf
open Lb
attribute [local go_sem] Oper.semAt_some

/-- An append onto a row of the call's own, as a step of a region that draws its order, inside a fence. -/
theorem stepIn_append_own {F : Fence} {n : Nat} {P : Program} {w : World} {ops : Array Oper} {o : Oper} {a : Act} {K : Act → World → Prop} {Q : Exit → Act → World → Prop} {E : Prop}
    (hg : o.guard = none) (s x : Operand) (t : TypeId) (hop : o.op = Op.call { callee := Callee.builtin Builtin.append, args := #[s, x], argTypes := #[t, t] })
    (base : Nat) (e : TypeId) (i : TypeInfo) (z : Value) (size bytes : Nat) (h1 : P.underlying t = some (.slice e)) (h2 : P.info? e = some i) (h3 : i.zero = some z) (h4 : i.size = size) (h5 : i.bytes = bytes) (h6 : z.cells.size = size) (h7 : 0 < size)
    (v : Value) (k : Nat) (xs : List Value) (hs : a.eval s = v) (hown : w.ownsRow base e size v k xs) (ad : Addr) (m c : Nat) (news : List Value) (hx : a.eval x = .slice (some ad) m c) (hn : news.length = m * size)
    (hc : ∀ j u, news[j]? = some u → w.cell? (ad.add j) = some u) (h1c : ∀ u ∈ news, u.oneCell' = true) (b1 : k + m ≤ maxLen) (b2 : (k + m) * bytes ≤ 140737488355328) (b3 : base ≤ w.heap.size)
    (hK : ∀ v' w', w'.ownsRow base e size v' (k + m) (xs ++ news) → w.grownBy w' v.ownBlock → (v' = .slice none 0 0 ↔ v = .slice none 0 0 ∧ m = 0) → K (a.put o.dst v') w') :
    if Region.wanted o (yielded ops a.tmps) = true then Oper.wpIn F n P o a w K Q else E := by
  have hw : Region.wanted o (yielded ops a.tmps) = true := by simp [Region.wanted, hg]
  rw [if_pos hw]
  obtain ⟨v', w', hrun, r1, r2, r3⟩ := run_append_own (P := P) w base t o.type e i z size bytes h1 h2 h3 h4 h5 h6 h7 v k xs hown ad m c news hn hc h1c b1 b2 b3
  unfold Oper.wpIn
  refine ⟨?_, ?_⟩
  · simp [Oper.about, hop, resolve, Target.leads, Sem.run_pure]
  · rw [Oper.semAt_plain F _ _ (by rw [hop]; intro c hc'; cases hc')]
    simp [execOp, hop, resolve, invoke, builtin, hs, hx, hrun, Result.andThen]
    exact hK v' w' r1 r2 r3

theorem infoStr : (Tryd.prog.info? 9).map (fun i => (i.zero, i.size, i.bytes)) = some (some (.string ByteArray.empty), 1, 16) := by kernel_rfl

/-- The texts of categories. -/
abbrev decStr (k : Nat) : ByteArray := ⟨(Lib.decDigits k).toArray⟩
def strs (zs : List Nat) : List Value := zs.map fun k => Value.string (decStr k)
theorem strs_snoc (zs : List Nat) (x : Nat) : strs (zs ++ [x]) = strs zs ++ [.string (decStr x)] := by simp [strs]
/-- The bytes of the text of a label with these categories. -/
def textOf (zs : List Nat) : List UInt8 := [123] ++ Lib.join (zs.map Lib.decDigits) [44] ++ [125]

theorem textOf_str (zs : List Nat) : (({ data := #[123] } : ByteArray) ++ strOf (Lib.join (zs.map Lib.decDigits) [44]) ++ { data := #[125] }) = strOf (textOf zs) := by
  apply ByteArray.ext
  simp [strOf, textOf]

theorem textOf_length (zs : List Nat) (h : ∀ k ∈ zs, k < 64) : (Lib.join (zs.map Lib.decDigits) [44]).length ≤ 3 * zs.length := by
  have hd : ∀ k : Nat, k < 64 → (Lib.decDigits k).length ≤ 2 := fun k hk => by
    by_cases h1 : k < 10
    · rw [Lib.decDigits_one h1]; simp
    · rw [Lib.decDigits_two h1 (by omega)]; simp
  cases zs with
  | nil => simp [Lib.join_nil]
  | cons x r =>
    rw [List.map_cons, Lib.join_cons, List.length_append, Lib.joinTail_length]
    have hx := hd x (h x (by simp))
    have hr : ∀ l : List Nat, (∀ k ∈ l, k < 64) → Lib.lens (l.map Lib.decDigits) ≤ 2 * l.length := fun l => by
      induction l with
      | nil => intro _; simp [Lib.lens]
      | cons y t ih =>
        intro hl
        have h1 := hd y (hl y (by simp))
        have h2 := ih (fun k hk => hl k (by simp [hk]))
        simp [Lib.lens] at h2 ⊢
        omega
    have := hr r (fun k hk => h k (by simp [hk]))
    simp only [List.length_map, List.length_cons, List.length_nil] at this ⊢
    omega

theorem join_own (v : Value) (zs : List Nat) (w : World) (base n : Nat) (h : w.ownsRow base 9 1 v n (strs zs)) (hz : ∀ k ∈ zs, k < 64) (hN : zs.length ≤ 64) :
    Calls Tryd.prog 56 #[v, .string { data := #[44] }] w fun e w' => e = .returned (.string (strOf (Lib.join (zs.map Lib.decDigits) [44]))) ∧ Below w.heap.size w w' := by
  have hl : zs.length = n := by have := h.1; simp [strs] at this; omega
  have hjl := textOf_length zs hz
  rcases h.2 with ⟨rfl, h0⟩ | ⟨g, cap, cur, rfl, _, hgb, hnc, hcm, _⟩
  · subst h0
    obtain rfl : zs = [] := List.eq_nil_of_length_eq_zero hl
    exact (Tryd.strings_Join_none none 0 _ w).mono fun e w' ⟨he, hw⟩ => ⟨he, hw ▸ Below.refl _ _⟩
  · have hj := Tryd.strings_Join g 0 cap (zs.map decStr) { data := #[44] } w (fun j x hx => by
      have := h.cells (g := g) rfl j (.string x) (by simp [strs] at hx ⊢; obtain ⟨y, h1, h2⟩ := hx; exact ⟨y, h1, by rw [← h2]⟩)
      rw [← this]
      unfold Addr.add
      split
      · rename_i h0; subst h0; rfl
      · rfl) (Array.getElem?_eq_some_iff.1 hgb).1 (by simp; omega) (by simp; omega) (by
        have e : (zs.map decStr).map (·.data.toList) = zs.map Lib.decDigits := by simp
        rw [e]; exact Nat.le_trans hjl (by omega))
    have e : (zs.map decStr).map (·.data.toList) = zs.map Lib.decDigits := by simp
    rw [e] at hj
    rw [← hl]
    simpa [strOf] using hj

set_option maxRecDepth 100000 in
set_option maxHeartbeats 2000000 in
theorem text_any (r : Nat) (w : World) (hr : r < 18446744073709551616) (hg : 0 < w.heap.size) (hT : TabAt 0 Lib.deBruijn64tab w) :
    Calls Tryd.prog 43 #[.int .u64 (r : Int)] w fun e w' => e = .returned (.string (strOf (textOf (cats r)))) ∧ Below w.heap.size w w' := by
  obtain ⟨i0, hi, hz0, hz1, hz2⟩ := info_parts infoStr
  refine (callsIn_wide (n := 3)).1 ?_
  refine callsIn_of_wp_marks Tryd.func43 rfl trivial ?_ rfl
  simp only [Tryd.ntmps43, List.size_toArray, List.length_cons, List.length_nil, Nat.reduceAdd, Nat.reduceSub, Array.replicate_succ, Array.replicate_zero, List.push_toArray, List.append_toArray, List.nil_append, List.cons_append]
  gi_wp2_with (refine ⟨trivial, ?_⟩; gi_at_call 54; refine (callsIn_wide.2 (categories_any _ _)).mono ?_; rintro e w' ⟨rfl, rfl⟩)
  have hz64 := cats_le r
  have bO := Boxed.new w 88 (.slice none 0 0)
  have bN := box_new (w.alloc (.cells #[.slice none 0 0] 88)) (.int .u64 (r : Int)) 22
  rw [World.size_alloc] at bN
  have hB0 : Below w.heap.size w ((w.alloc (.cells #[.slice none 0 0] 88)).alloc (.cells #[.int .u64 (r : Int)] 22)) := ((Below.refl _ w).alloc (Nat.le_refl _) _).alloc (by simp) _
  refine wpIn_rangeFunc_ownG rfl (by decide) (gf := 69) (lb := #[.pointer (some ⟨w.heap.size + 1, 0, none⟩)]) rfl trivial (enters_of Tryd.func69 (by kernel_rfl) rfl)
    (cats_stops 2 (by decide) (w.heap.size + 1) w.heap.size r _ hr hg (by simp; omega) (by simp) bN.1 (tabAt_below hT hB0 hg)) belowK_t (belowK_b (by simp; omega)) (Below.refl _ _) (fun _ => rfl)
    (fun pre W => (∃ v, Boxed W w.heap.size 88 v ∧ W.ownsRow w.heap.size 9 1 v pre.length (strs (pre.map (·.val))) ∧ True) ∧ Below w.heap.size w W)
    (fun _ _ _ => False)
    (OwnFrom.and (Own.from (holdsRow_own w.heap.size w.heap.size 88 9 1 (fun pre : List (Fin 64) => pre.length) (fun pre => strs (pre.map (·.val))) (fun _ _ => True)) _) (ownFrom_below (Nat.le_refl _) (by simp; omega)))
    (fun _ _ _ _ _ hs _ _ => hs)
    ⟨⟨_, bO.alloc _, World.ownsRow_nil _ _ _ _, trivial⟩, hB0⟩
    (fun x => { tmps := #[.int .u64 (r : Int), undef, .string { data := #[] }, .pointer (some ⟨w.heap.size, 0, none⟩), .int .i64 (x.val : Int), .int .u64 (r : Int), .func (.func 69) #[] #[.pointer (some ⟨w.heap.size + 1, 0, none⟩)], .int .i64 (x.val : Int), undef, undef, undef, undef, undef, undef, undef, undef, undef], defers := [] }) ?assign ?body ?done ?stop
  case assign =>
    intro l x W K hK
    gi_wp2
    exact hK
  case body =>
    rintro l pre x W ⟨⟨v, hv, hrow, hpre⟩, hB⟩ hlt
    have hmx : Tryd.prog.follows .mixedOrders = true := by kernel_rfl
    have hc := hv.cell
    gi_wp2
    refine wpIn_region_any hmx ?_
    change wpAnyIn _ _ _ _ _ _ _ _ _ (World.drew _)
    have hx64 := x.isLt
    obtain ⟨us, hus⟩ : ∃ us, us = strs (pre.map fun c : Fin 64 => c.val) := ⟨_, rfl⟩
    have hus' : us ++ [.string (decStr x.val)] = strs ((pre ++ [x]).map fun c : Fin 64 => c.val) := by rw [List.map_append, List.map_cons, List.map_nil, strs_snoc, hus]
    rw [← hus] at hrow
    clear hus
    have hpast : ∀ o : Obj, (W.alloc o).cell? ⟨w.heap.size, 0, none⟩ = some v := fun o => cell_past o hc
    refine wpAnyIn_ready (rs := [0, 1]) (by kernel_rfl) (by simp) ?_
    refine AllReadyIn.cons rfl (fun K hK => ?_) ?_
    · go_simp
      refine hK _ _ ?_
      clear hK K
      refine wpAnyIn_ready (rs := [1]) (by kernel_rfl) (by simp) ?_
      refine AllReadyIn.cons rfl (fun K hK => ?_) ?_
      · go_simp
        refine hK _ _ ?_
        clear hK K
        refine wpAnyIn_ready (rs := [2]) (by kernel_rfl) (by simp) ?_
        refine AllReadyIn.cons rfl (fun K hK => ?_) ?_
        · go_simp
          refine ⟨trivial, ?_⟩
          refine (CallsIn.inRound l (callsIn_wide.2 (Tryd.strconv_Itoa_small x.val (by omega) _))).mono ?_
          rintro e w1 ⟨rfl, rfl⟩
          refine hK _ _ ?_
          clear hK K
          refine wpAnyIn_ready (rs := [3]) (by kernel_rfl) (by simp) ?_
          refine AllReadyIn.cons rfl (fun K hK => ?_) ?_
          · go_simp
            refine hK _ _ ?_
            clear hK K
            refine wpAnyIn_ready (rs := [4]) (by kernel_rfl) (by simp) ?_
            refine AllReadyIn.cons rfl (fun K hK => ?_) AllReadyIn.nil
            refine stepIn_append_own rfl _ _ 88 rfl w.heap.size 9 i0 (.string ByteArray.empty) 1 16 Tryd.underlying88 hi hz0 hz1 hz2 rfl (by decide) v pre.length us rfl (show (W.alloc (.cells #[.string (decStr x.val)] 9)).drew.ownsRow w.heap.size 9 1 v pre.length us from hrow.alloc _) ⟨W.heap.size, 0, none⟩ 1 1 [.string (decStr x.val)] rfl rfl (cell_one_new _ _ _) (by simp [Value.oneCell']) (by unfold maxLen; omega) (by omega) (by have := hB.size; simp; omega) ?_
            intro v' w1 hown' hgrow0 _
            refine hK _ _ ?_
            clear hK K
            have hgrow : (W.alloc (.cells #[.string (decStr x.val)] 9)).grownBy w1 v.ownBlock := ⟨hgrow0.os, hgrow0.tape, hgrow0.output, hgrow0.size, hgrow0.block⟩
            obtain ⟨g', cap', rfl⟩ := ownsRow_succ hown'
            obtain ⟨hv1, hv2, hr2, hk2, hb2⟩ := hv.appended (by decide) hrow hB.size (Nat.le_refl _) hown' hgrow
            have hc1 := hv1.cell
            have hf1 := hv1.frozen
            refine wpAnyIn_ready (rs := [5]) (by kernel_rfl) (by simp) ?_
            refine AllReadyIn.cons rfl (fun K hK => ?_) AllReadyIn.nil
            go_simp
            refine hK _ _ ?_
            clear hK K
            refine wpAnyIn_done (by kernel_rfl) ?_ _
            exact ⟨hk2.from _, hb2, ⟨_, hv2, by rw [← hus', List.length_append]; exact hr2, trivial⟩, hB.trans hb2⟩
          exact AllReadyIn.nil
        exact AllReadyIn.nil
      exact AllReadyIn.nil
    refine AllReadyIn.cons rfl (fun K hK => ?_) ?_
    · go_simp
      refine hK _ _ ?_
      clear hK K
      refine wpAnyIn_ready (rs := [0, 2]) (by kernel_rfl) (by simp) ?_
      refine AllReadyIn.cons rfl (fun K hK => ?_) ?_
      · go_simp
        refine hK _ _ ?_
        clear hK K
        refine wpAnyIn_ready (rs := [2]) (by kernel_rfl) (by simp) ?_
        refine AllReadyIn.cons rfl (fun K hK => ?_) ?_
        · go_simp
          refine ⟨trivial, ?_⟩
          refine (CallsIn.inRound l (callsIn_wide.2 (Tryd.strconv_Itoa_small x.val (by omega) _))).mono ?_
          rintro e w1 ⟨rfl, rfl⟩
          refine hK _ _ ?_
          clear hK K
          refine wpAnyIn_ready (rs := [3]) (by kernel_rfl) (by simp) ?_
          refine AllReadyIn.cons rfl (fun K hK => ?_) ?_
          · go_simp
            refine hK _ _ ?_
            clear hK K
            refine wpAnyIn_ready (rs := [4]) (by kernel_rfl) (by simp) ?_
            refine AllReadyIn.cons rfl (fun K hK => ?_) AllReadyIn.nil
            refine stepIn_append_own rfl _ _ 88 rfl w.heap.size 9 i0 (.string ByteArray.empty) 1 16 Tryd.underlying88 hi hz0 hz1 hz2 rfl (by decide) v pre.length us rfl (show (W.alloc (.cells #[.string (decStr x.val)] 9)).drew.ownsRow w.heap.size 9 1 v pre.length us from hrow.alloc _) ⟨W.heap.size, 0, none⟩ 1 1 [.string (decStr x.val)] rfl rfl (cell_one_new _ _ _) (by simp [Value.oneCell']) (by unfold maxLen; omega) (by omega) (by have := hB.size; simp; omega) ?_
            intro v' w1 hown' hgrow0 _
            refine hK _ _ ?_
            clear hK K
            have hgrow : (W.alloc (.cells #[.string (decStr x.val)] 9)).grownBy w1 v.ownBlock := ⟨hgrow0.os, hgrow0.tape, hgrow0.output, hgrow0.size, hgrow0.block⟩
            obtain ⟨g', cap', rfl⟩ := ownsRow_succ hown'
            obtain ⟨hv1, hv2, hr2, hk2, hb2⟩ := hv.appended (by decide) hrow hB.size (Nat.le_refl _) hown' hgrow
            have hc1 := hv1.cell
            have hf1 := hv1.frozen
            refine wpAnyIn_ready (rs := [5]) (by kernel_rfl) (by simp) ?_
            refine AllReadyIn.cons rfl (fun K hK => ?_) AllReadyIn.nil
            go_simp
            refine hK _ _ ?_
            clear hK K
            refine wpAnyIn_done (by kernel_rfl) ?_ _
            exact ⟨hk2.from _, hb2, ⟨_, hv2, by rw [← hus', List.length_append]; exact hr2, trivial⟩, hB.trans hb2⟩
          exact AllReadyIn.nil
        exact AllReadyIn.nil
      refine AllReadyIn.cons rfl (fun K hK => ?_) ?_
      · go_simp
        refine ⟨trivial, ?_⟩
        refine (CallsIn.inRound l (callsIn_wide.2 (Tryd.strconv_Itoa_small x.val (by omega) _))).mono ?_
        rintro e w1 ⟨rfl, rfl⟩
        refine hK _ _ ?_
        clear hK K
        refine wpAnyIn_ready (rs := [0, 3]) (by kernel_rfl) (by simp) ?_
        refine AllReadyIn.cons rfl (fun K hK => ?_) ?_
        · go_simp
          refine hK _ _ ?_
          clear hK K
          refine wpAnyIn_ready (rs := [3]) (by kernel_rfl) (by simp) ?_
          refine AllReadyIn.cons rfl (fun K hK => ?_) ?_
          · go_simp
            refine hK _ _ ?_
            clear hK K
            refine wpAnyIn_ready (rs := [4]) (by kernel_rfl) (by simp) ?_
            refine AllReadyIn.cons rfl (fun K hK => ?_) AllReadyIn.nil
            refine stepIn_append_own rfl _ _ 88 rfl w.heap.size 9 i0 (.string ByteArray.empty) 1 16 Tryd.underlying88 hi hz0 hz1 hz2 rfl (by decide) v pre.length us rfl (show (W.alloc (.cells #[.string (decStr x.val)] 9)).drew.ownsRow w.heap.size 9 1 v pre.length us from hrow.alloc _) ⟨W.heap.size, 0, none⟩ 1 1 [.string (decStr x.val)] rfl rfl (cell_one_new _ _ _) (by simp [Value.oneCell']) (by unfold maxLen; omega) (by omega) (by have := hB.size; simp; omega) ?_
            intro v' w1 hown' hgrow0 _
            refine hK _ _ ?_
            clear hK K
            have hgrow : (W.alloc (.cells #[.string (decStr x.val)] 9)).grownBy w1 v.ownBlock := ⟨hgrow0.os, hgrow0.tape, hgrow0.output, hgrow0.size, hgrow0.block⟩
            obtain ⟨g', cap', rfl⟩ := ownsRow_succ hown'
            obtain ⟨hv1, hv2, hr2, hk2, hb2⟩ := hv.appended (by decide) hrow hB.size (Nat.le_refl _) hown' hgrow
            have hc1 := hv1.cell
            have hf1 := hv1.frozen
            refine wpAnyIn_ready (rs := [5]) (by kernel_rfl) (by simp) ?_
            refine AllReadyIn.cons rfl (fun K hK => ?_) AllReadyIn.nil
            go_simp
            refine hK _ _ ?_
            clear hK K
            refine wpAnyIn_done (by kernel_rfl) ?_ _
            exact ⟨hk2.from _, hb2, ⟨_, hv2, by rw [← hus', List.length_append]; exact hr2, trivial⟩, hB.trans hb2⟩
          exact AllReadyIn.nil
        refine AllReadyIn.cons rfl (fun K hK => ?_) ?_
        · go_simp
          refine hK _ _ ?_
          clear hK K
          refine wpAnyIn_ready (rs := [0]) (by kernel_rfl) (by simp) ?_
          refine AllReadyIn.cons rfl (fun K hK => ?_) ?_
          · go_simp
            refine hK _ _ ?_
            clear hK K
            refine wpAnyIn_ready (rs := [4]) (by kernel_rfl) (by simp) ?_
            refine AllReadyIn.cons rfl (fun K hK => ?_) AllReadyIn.nil
            refine stepIn_append_own rfl _ _ 88 rfl w.heap.size 9 i0 (.string ByteArray.empty) 1 16 Tryd.underlying88 hi hz0 hz1 hz2 rfl (by decide) v pre.length us rfl (show (W.alloc (.cells #[.string (decStr x.val)] 9)).drew.ownsRow w.heap.size 9 1 v pre.length us from hrow.alloc _) ⟨W.heap.size, 0, none⟩ 1 1 [.string (decStr x.val)] rfl rfl (cell_one_new _ _ _) (by simp [Value.oneCell']) (by unfold maxLen; omega) (by omega) (by have := hB.size; simp; omega) ?_
            intro v' w1 hown' hgrow0 _
            refine hK _ _ ?_
            clear hK K
            have hgrow : (W.alloc (.cells #[.string (decStr x.val)] 9)).grownBy w1 v.ownBlock := ⟨hgrow0.os, hgrow0.tape, hgrow0.output, hgrow0.size, hgrow0.block⟩
            obtain ⟨g', cap', rfl⟩ := ownsRow_succ hown'
            obtain ⟨hv1, hv2, hr2, hk2, hb2⟩ := hv.appended (by decide) hrow hB.size (Nat.le_refl _) hown' hgrow
            have hc1 := hv1.cell
            have hf1 := hv1.frozen
            refine wpAnyIn_ready (rs := [5]) (by kernel_rfl) (by simp) ?_
            refine AllReadyIn.cons rfl (fun K hK => ?_) AllReadyIn.nil
            go_simp
            refine hK _ _ ?_
            clear hK K
            refine wpAnyIn_done (by kernel_rfl) ?_ _
            exact ⟨hk2.from _, hb2, ⟨_, hv2, by rw [← hus', List.length_append]; exact hr2, trivial⟩, hB.trans hb2⟩
          exact AllReadyIn.nil
        exact AllReadyIn.nil
      exact AllReadyIn.nil
    exact AllReadyIn.nil
  case done =>
    rintro D ys W hD hys ⟨⟨v, hv, hrow, _⟩, hB⟩ hK
    rw [hys] at hrow
    clear hys
    have hc := hv.cell
    have hsz : (strOf (Lib.join ((cats r).map Lib.decDigits) [44])).size ≤ 192 := by
      have h1 := textOf_length (cats r) (fun k hk => cats_lt hk)
      have h2 : (strOf (Lib.join ((cats r).map Lib.decDigits) [44])).size = (Lib.join ((cats r).map Lib.decDigits) [44]).length := by simp [strOf, ByteArray.size]
      omega
    gi_wp2_with (refine ⟨trivial, ?_⟩; gi_at_call 56; refine (callsIn_wide.2 (join_own v (cats r) W _ _ hrow (fun k hk => cats_lt hk) hz64)).mono ?_; rintro e w1 ⟨rfl, hb1⟩)
    have hDlt : D < W.heap.size := (Array.getElem?_eq_some_iff.1 hK).1
    have hK1 : w1.heap[D]? = some (.deferred (some [])) := (hb1.block D hDlt).trans hK
    refine ⟨by simp, .inl ⟨_, _, rfl, run_takeDeferred hK1, ?_⟩⟩
    exact ⟨_, results_tmp rfl _ _ _, by rw [← textOf_str]; rfl, (hB.trans (hb1.mono hB.size)).trans (belowK_b (w := w) (Nat.le_refl _) w1 D _ _ (by simp at hD; omega) hK1 rfl rfl)⟩
  case stop =>
    rintro D c pre W _ _ h _
    exact h.elim
end Go.Proofs.YtcmdndgaggbhoaaDoor
namespace Go.Proofs.YtcmdndgaggbhoaaDoor
open Go.RowKit Go.Shelf
open Lb

/-- The table of the library that package label reads lies where its initialiser laid it. -/
def Tabs (w : World) : Prop := 0 < w.heap.size ∧ TabAt 0 Lib.deBruijn64tab w
theorem Tabs.below {w w' : World} (h : Tabs w) (hb : Below w.heap.size w w') : Tabs w' :=
  ⟨Nat.lt_of_lt_of_le h.1 hb.size, tabAt_below h.2 hb h.1⟩
theorem Tabs.alloc {w : World} (h : Tabs w) (o : Obj) : Tabs (w.alloc o) := h.below ((Below.refl _ _).alloc (Nat.le_refl _) o)

theorem text_5 (w : World) (h : Tabs w) : Calls Tryd.prog 43 #[.int .u64 5] w fun e w' => e = .returned (.string { data := #[123, 48, 44, 50, 125] }) ∧ Below w.heap.size w w' := by
  have ht := text_any 5 w (by decide) h.1 h.2
  have e : strOf (textOf (cats 5)) = { data := #[123, 48, 44, 50, 125] } := by
    rw [show cats 5 = [0, 2] by decide]
    simp only [textOf, List.map_cons, List.map_nil, Lib.decDigits_one (show 0 < 10 by decide), Lib.decDigits_one (show 2 < 10 by decide)]
    decide
  rw [e] at ht
  exact ht
theorem text_0 (w : World) (h : Tabs w) : Calls Tryd.prog 43 #[.int .u64 0] w fun e w' => e = .returned (.string { data := #[123, 125] }) ∧ Below w.heap.size w w' := by
  have ht := text_any 0 w (by decide) h.1 h.2
  have e : strOf (textOf (cats 0)) = { data := #[123, 125] } := by
    rw [show cats 0 = [] by decide]
    decide
  rw [e] at ht
  exact ht
end Go.Proofs.YtcmdndgaggbhoaaDoor
namespace Go.Proofs.YtcmdndgaggbhoaaDoor
open Go.RowKit Go.Shelf
open Lb

/-- A fault that the walk holds in a block of its own: none. -/
def Two (w : World) (b : Nat) : Prop := b < w.heap.size ∧ w.cell? ⟨b, 0, none⟩ = some (.int .i64 0) ∧ w.cell? ⟨b, 1, none⟩ = some (.int .i64 0)
theorem Two.below {w w' : World} {b : Nat} (h : Two w b) (hb : Below w.heap.size w w') : Two w' b :=
  ⟨Nat.lt_of_lt_of_le h.1 hb.size, (hb.cell (p := ⟨b, 0, none⟩) h.1).trans h.2.1, (hb.cell (p := ⟨b, 1, none⟩) h.1).trans h.2.2⟩
theorem Two.new (w : World) (t : TypeId) : Two (w.alloc (.cells #[.int .i64 0, .int .i64 0] t)) w.heap.size := ⟨by simp, by go_simp, by go_simp⟩

/-- One step more of a walk in which nothing that lay is turned. -/
theorem below_step {w a b : World} (h : Below w.heap.size w a) (k : Below a.heap.size a b) : Below w.heap.size w b := h.trans (k.mono h.size)

end Go.Proofs.YtcmdndgaggbhoaaDoor
namespace Go.Proofs.YtcmdndgaggbhoaaDoor.Lb
open Go

/-- What a number of 64 bits is: its bits. -/
theorem bit_ext {a b : Nat} (h : ∀ i, a.testBit i = b.testBit i) : a = b := Nat.eq_of_testBit_eq h
theorem testBit_hi {a i : Nat} (ha : a < 18446744073709551616) (hi : 64 ≤ i) : a.testBit i = false :=
  Nat.testBit_lt_two_pow (Nat.lt_of_lt_of_le ha (Nat.pow_le_pow_right (n := 2) (i := 64) (by decide) hi))
theorem or_lt {a b : Nat} (ha : a < 18446744073709551616) (hb : b < 18446744073709551616) : a ||| b < 18446744073709551616 := Nat.or_lt_two_pow (n := 64) ha hb
theorem and_lt {a b : Nat} (ha : a < 18446744073709551616) : a &&& b < 18446744073709551616 := Nat.lt_of_le_of_lt Nat.and_le_left ha
theorem comp_bit {b i : Nat} (hb : b < 18446744073709551616) : (18446744073709551615 - b).testBit i = (decide (i < 64) && !b.testBit i) := by
  have h := Nat.testBit_two_pow_sub_succ (n := 64) (x := b) hb i
  rw [show 2 ^ 64 - (b + 1) = 18446744073709551615 - b by omega] at h
  exact h
theorem diff_bit {a b i : Nat} (ha : a < 18446744073709551616) (hb : b < 18446744073709551616) : (a &&& (18446744073709551615 - b)).testBit i = (a.testBit i && !b.testBit i) := by
  rw [Nat.testBit_and, comp_bit hb]
  by_cases h : i < 64
  · simp [h]
  · rw [testBit_hi ha (by omega)]; simp

def dif (a b : Nat) : Nat := a &&& (18446744073709551615 - b)
theorem dif_lt {a b : Nat} (ha : a < 18446744073709551616) : dif a b < 18446744073709551616 := and_lt ha
theorem dif_bit {a b : Nat} (ha : a < 18446744073709551616) (hb : b < 18446744073709551616) (i : Nat) : (dif a b).testBit i = (a.testBit i && !b.testBit i) := diff_bit ha hb
def sub (a b : Nat) : Prop := ∀ i, a.testBit i = true → b.testBit i = true
theorem sub_iff {a b : Nat} (ha : a < 18446744073709551616) (hb : b < 18446744073709551616) : sub a b ↔ dif a b = 0 := by
  constructor
  · intro h
    apply bit_ext
    intro i
    rw [dif_bit ha hb, Nat.zero_testBit]
    cases h1 : a.testBit i
    · rfl
    · rw [h i h1]; rfl
  · intro h i hi
    have := congrArg (fun x => Nat.testBit x i) h
    simp only [dif_bit ha hb, hi, Nat.zero_testBit] at this
    simpa using this

theorem belowI_nat {a b : Nat} (ha : a < 18446744073709551616) (hb : b < 18446744073709551616) : (belowI (a : Int) (b : Int) = true) ↔ sub a b := by
  unfold belowI
  rw [andNot_nat a b ha hb, sub_iff ha hb]
  unfold dif
  simp
theorem joinI_two {a b : Nat} (ha : a < 18446744073709551616) (hb : b < 18446744073709551616) : joinI [(a : Int), (b : Int)] = ((a ||| b : Nat) : Int) := by
  show bits .or .u64 (bits .or .u64 ((0 : Nat) : Int) (a : Int)) (b : Int) = _
  rw [or_nat 0 a (by decide) ha, Nat.zero_or, or_nat a b ha hb]
theorem joinI_three {a b c : Nat} (ha : a < 18446744073709551616) (hb : b < 18446744073709551616) (hc : c < 18446744073709551616) : joinI [(a : Int), (b : Int), (c : Int)] = ((a ||| b ||| c : Nat) : Int) := by
  show bits .or .u64 (bits .or .u64 (bits .or .u64 ((0 : Nat) : Int) (a : Int)) (b : Int)) (c : Int) = _
  rw [or_nat 0 a (by decide) ha, Nat.zero_or, or_nat a b ha hb, or_nat _ c (or_lt ha hb) hc]
theorem joinI_four {a b c d : Nat} (ha : a < 18446744073709551616) (hb : b < 18446744073709551616) (hc : c < 18446744073709551616) (hd : d < 18446744073709551616) : joinI [(a : Int), (b : Int), (c : Int), (d : Int)] = ((a ||| b ||| c ||| d : Nat) : Int) := by
  show bits .or .u64 (bits .or .u64 (bits .or .u64 (bits .or .u64 ((0 : Nat) : Int) (a : Int)) (b : Int)) (c : Int)) (d : Int) = _
  rw [or_nat 0 a (by decide) ha, Nat.zero_or, or_nat a b ha hb, or_nat _ c (or_lt ha hb) hc, or_nat _ d (or_lt (or_lt ha hb) hc) hd]
theorem all_and {a : Nat} (ha : a < 18446744073709551616) : 18446744073709551615 &&& a = a := by
  apply bit_ext
  intro i
  rw [Nat.testBit_and, show (18446744073709551615 : Nat) = 18446744073709551615 - 0 from rfl, comp_bit (by decide)]
  by_cases h : i < 64
  · simp [h]
  · rw [testBit_hi ha (by omega)]; simp
theorem meetI_two {a b : Nat} (ha : a < 18446744073709551616) (hb : b < 18446744073709551616) : meetI [(a : Int), (b : Int)] = ((a &&& b : Nat) : Int) := by
  show bits .and .u64 (bits .and .u64 ((18446744073709551615 : Nat) : Int) (a : Int)) (b : Int) = _
  rw [and_nat _ a (by decide) ha, all_and ha, and_nat a b ha hb]
theorem meetI_three {a b c : Nat} (ha : a < 18446744073709551616) (hb : b < 18446744073709551616) (hc : c < 18446744073709551616) : meetI [(a : Int), (b : Int), (c : Int)] = ((a &&& b &&& c : Nat) : Int) := by
  show bits .and .u64 (bits .and .u64 (bits .and .u64 ((18446744073709551615 : Nat) : Int) (a : Int)) (b : Int)) (c : Int) = _
  rw [and_nat _ a (by decide) ha, all_and ha, and_nat a b ha hb, and_nat _ c (and_lt ha) hc]
theorem meetI_four {a b c d : Nat} (ha : a < 18446744073709551616) (hb : b < 18446744073709551616) (hc : c < 18446744073709551616) (hd : d < 18446744073709551616) : meetI [(a : Int), (b : Int), (c : Int), (d : Int)] = ((a &&& b &&& c &&& d : Nat) : Int) := by
  show bits .and .u64 (bits .and .u64 (bits .and .u64 (bits .and .u64 ((18446744073709551615 : Nat) : Int) (a : Int)) (b : Int)) (c : Int)) (d : Int) = _
  rw [and_nat _ a (by decide) ha, all_and ha, and_nat a b ha hb, and_nat _ c (and_lt ha) hc, and_nat _ d (and_lt (and_lt ha)) hd]
end Go.Proofs.YtcmdndgaggbhoaaDoor.Lb
namespace Go.Proofs.YtcmdndgaggbhoaaDoor
open Go.RowKit Go.Shelf
open Lb

theorem lit2 (w : World) (x y : Int) : Slc (w.alloc (.cells #[.int .u64 x, .int .u64 y] 22)) (.slice (some ⟨w.heap.size, 0, none⟩) 2 2) (vals .u64 [x, y]) := Slc.lit w (vals .u64 [x, y]) 22 2 rfl (by decide)
/-- Whether x is at most y, by itself: a walk does not look behind this name. -/
def isB (x y : Nat) : Bool := belowI (x : Int) (y : Int)
theorem isB_iff {x y : Nat} (hx : x < 18446744073709551616) (hy : y < 18446744073709551616) : isB x y = true ↔ sub x y := belowI_nat hx hy
theorem isB_refl {x : Nat} (hx : x < 18446744073709551616) : isB x x = true := (isB_iff hx hx).2 fun _ h => h
theorem isB_anti {x y : Nat} (hx : x < 18446744073709551616) (hy : y < 18446744073709551616) (h : isB x y = true) (k : isB y x = true) : x = y :=
  bit_ext fun i => by
    have h1 := (isB_iff hx hy).1 h i
    have h2 := (isB_iff hy hx).1 k i
    cases hi : x.testBit i <;> cases hj : y.testBit i <;> simp_all
theorem isB_trans {x y z : Nat} (hx : x < 18446744073709551616) (hy : y < 18446744073709551616) (hz : z < 18446744073709551616) (h : isB x y = true) (k : isB y z = true) : isB x z = true :=
  (isB_iff hx hz).2 fun i hi => (isB_iff hy hz).1 k i ((isB_iff hx hy).1 h i hi)
theorem isB_or {x y z : Nat} (hx : x < 18446744073709551616) (hy : y < 18446744073709551616) (hz : z < 18446744073709551616) : isB (x ||| y) z = (isB x z && isB y z) := by
  rw [Bool.eq_iff_iff, Bool.and_eq_true, isB_iff (or_lt hx hy) hz, isB_iff hx hz, isB_iff hy hz]
  constructor
  · intro h
    exact ⟨fun i hi => h i (by rw [Nat.testBit_or, hi]; rfl), fun i hi => h i (by rw [Nat.testBit_or, hi, Bool.or_true])⟩
  · rintro ⟨h1, h2⟩ i hi
    rw [Nat.testBit_or, Bool.or_eq_true] at hi
    exact hi.elim (h1 i) (h2 i)
theorem isB_and {x y z : Nat} (hx : x < 18446744073709551616) (hy : y < 18446744073709551616) (hz : z < 18446744073709551616) : isB z (x &&& y) = (isB z x && isB z y) := by
  rw [Bool.eq_iff_iff, Bool.and_eq_true, isB_iff hz (and_lt hx), isB_iff hz hx, isB_iff hz hy]
  constructor
  · intro h
    exact ⟨fun i hi => by have := h i hi; rw [Nat.testBit_and, Bool.and_eq_true] at this; exact this.1, fun i hi => by have := h i hi; rw [Nat.testBit_and, Bool.and_eq_true] at this; exact this.2⟩
  · rintro ⟨h1, h2⟩ i hi
    rw [Nat.testBit_and, h1 i hi, h2 i hi]; rfl
theorem isB_join {x y : Nat} (hx : x < 18446744073709551616) (hy : y < 18446744073709551616) : isB x y = (((x ||| y : Nat) : Int) == (y : Int)) := by
  rw [Bool.eq_iff_iff, isB_iff hx hy, beq_iff_eq, Int.natCast_inj]
  constructor
  · intro h
    exact bit_ext fun i => by
      rw [Nat.testBit_or]
      cases hi : x.testBit i
      · rfl
      · rw [h i hi]; rfl
  · intro h i hi
    rw [← h, Nat.testBit_or, hi]; rfl
theorem isB_meet {x y : Nat} (hx : x < 18446744073709551616) (hy : y < 18446744073709551616) : isB x y = (((x &&& y : Nat) : Int) == (x : Int)) := by
  rw [Bool.eq_iff_iff, isB_iff hx hy, beq_iff_eq, Int.natCast_inj]
  constructor
  · intro h
    exact bit_ext fun i => by
      rw [Nat.testBit_and]
      cases hi : x.testBit i
      · rfl
      · rw [h i hi]; rfl
  · intro h i hi
    rw [← h, Nat.testBit_and, Bool.and_eq_true] at hi
    exact hi.2

end Go.Proofs.YtcmdndgaggbhoaaDoor
namespace Go.Proofs.YtcmdndgaggbhoaaDoor
open Go.RowKit
open Lb

/-- A block of two cells that holds these values. -/
def Held2 (w : World) (b : Nat) (x y : Value) : Prop := b < w.heap.size ∧ w.cell? ⟨b, 0, none⟩ = some x ∧ w.cell? ⟨b, 1, none⟩ = some y
theorem Held2.below {w w' : World} {b : Nat} {x y : Value} (h : Held2 w b x y) (hb : Below w.heap.size w w') : Held2 w' b x y :=
  ⟨Nat.lt_of_lt_of_le h.1 hb.size, (hb.cell (p := ⟨b, 0, none⟩) h.1).trans h.2.1, (hb.cell (p := ⟨b, 1, none⟩) h.1).trans h.2.2⟩
theorem Held2.alloc {w : World} {b : Nat} {x y : Value} (h : Held2 w b x y) (o : Obj) : Held2 (w.alloc o) b x y := h.below ((Below.refl _ _).alloc (Nat.le_refl _) o)
theorem Held2.new (w : World) (t : TypeId) (x y : Value) : Held2 (w.alloc (.cells #[x, y] t)) w.heap.size x y := ⟨by simp, by go_simp, by go_simp⟩

end Go.Proofs.YtcmdndgaggbhoaaDoor
namespace Go.Proofs.YtcmdndgaggbhoaaDoor.Lb
open Go

/-- The number with these bytes, the lowest first. -/
def val8 : List Nat → Nat
  | [] => 0
  | c :: cs => c + 256 * val8 cs
def rep8 (m : Nat) (cs : List Nat) : Nat := val8 (cs.map fun _ => m)

theorem and_byte (a m u v : Nat) (ha : a < 256) (hm : m < 256) : (a + 256 * u) &&& (m + 256 * v) = (a &&& m) + 256 * (u &&& v) := by
  have h1 : ∀ (x y i : Nat), x < 256 → (x + 256 * y).testBit i = if i < 8 then x.testBit i else y.testBit (i - 8) := fun x y i hx => by
    rw [show x + 256 * y = 2 ^ 8 * y + x by omega, Nat.testBit_two_pow_mul_add _ (by omega)]
  apply Nat.eq_of_testBit_eq
  intro i
  rw [Nat.testBit_and, h1 _ _ _ ha, h1 _ _ _ hm, h1 _ _ _ (Nat.lt_of_le_of_lt Nat.and_le_left ha)]
  split <;> simp

def g1 (c : Nat) : Nat := (c / 2 &&& 85) + (c &&& 85)
def g2 (c : Nat) : Nat := (c / 4 &&& 51) + (c &&& 51)
def g3 (c : Nat) : Nat := (c / 16 + c) &&& 15
def pop8 (c : Nat) : Nat := ((List.range 8).filter c.testBit).length

theorem fin1 : ∀ c < 256, ∀ b < 2, (c / 2 + 128 * b) &&& 85 = c / 2 &&& 85 := by decide +kernel
theorem fin2 : ∀ c < 256, ∀ b < 4, (c / 4 + 64 * b) &&& 51 = c / 4 &&& 51 := by decide +kernel
theorem fin3 : ∀ c < 69, ∀ b < 5, (c / 16 + 16 * b + c) &&& 15 = (c / 16 + c) &&& 15 := by decide +kernel
theorem fin4 : ∀ c < 256, g1 c < 256 ∧ g2 (g1 c) < 69 ∧ g2 (g1 c) % 16 < 5 ∧ g3 (g2 (g1 c)) = pop8 c ∧ pop8 c < 9 := by decide +kernel

theorem step1 (cs : List Nat) (h : ∀ c ∈ cs, c < 256) : (val8 cs / 2 &&& rep8 85 cs) + (val8 cs &&& rep8 85 cs) = val8 (cs.map g1) := by
  induction cs with
  | nil => rfl
  | cons c cs ih =>
    have hc : c < 256 := h c (by simp)
    have hi := ih fun x hx => h x (by simp [hx])
    have e1 : val8 (c :: cs) / 2 = (c / 2 + 128 * (val8 cs % 2)) + 256 * (val8 cs / 2) := by simp only [val8]; omega
    have e2 : rep8 85 (c :: cs) = 85 + 256 * rep8 85 cs := rfl
    rw [e1, e2, and_byte _ _ _ _ (by omega) (by decide), fin1 c hc _ (Nat.mod_lt _ (by decide))]
    simp only [val8, List.map_cons]
    rw [and_byte _ _ _ _ hc (by decide), ← hi]
    simp only [g1]
    omega
theorem step2 (cs : List Nat) (h : ∀ c ∈ cs, c < 256) : (val8 cs / 4 &&& rep8 51 cs) + (val8 cs &&& rep8 51 cs) = val8 (cs.map g2) := by
  induction cs with
  | nil => rfl
  | cons c cs ih =>
    have hc : c < 256 := h c (by simp)
    have hi := ih fun x hx => h x (by simp [hx])
    have e1 : val8 (c :: cs) / 4 = (c / 4 + 64 * (val8 cs % 4)) + 256 * (val8 cs / 4) := by simp only [val8]; omega
    have e2 : rep8 51 (c :: cs) = 51 + 256 * rep8 51 cs := rfl
    rw [e1, e2, and_byte _ _ _ _ (by omega) (by decide), fin2 c hc _ (Nat.mod_lt _ (by decide))]
    simp only [val8, List.map_cons]
    rw [and_byte _ _ _ _ hc (by decide), ← hi]
    simp only [g2]
    omega
theorem val8_mod (cs : List Nat) (h : ∀ c ∈ cs, c % 16 < 5) : val8 cs % 16 < 5 := by
  cases cs with
  | nil => decide
  | cons c cs => have := h c (by simp); simp only [val8]; omega
theorem step3 (cs : List Nat) (h : ∀ c ∈ cs, c < 69 ∧ c % 16 < 5) : ((val8 cs / 16 + val8 cs) &&& rep8 15 cs) = val8 (cs.map g3) := by
  induction cs with
  | nil => rfl
  | cons c cs ih =>
    have hc := h c (by simp)
    have hi := ih fun x hx => h x (by simp [hx])
    have hm := val8_mod cs fun x hx => (h x (by simp [hx])).2
    have e1 : val8 (c :: cs) / 16 + val8 (c :: cs) = (c / 16 + 16 * (val8 cs % 16) + c) + 256 * (val8 cs / 16 + val8 cs) := by simp only [val8]; omega
    have e2 : rep8 15 (c :: cs) = 15 + 256 * rep8 15 cs := rfl
    rw [e1, e2, and_byte _ _ _ _ (by omega) (by decide), fin3 c hc.1 _ hm, hi]
    rfl

def bytes8 (n : Nat) : List Nat := [n % 256, n / 256 % 256, n / 65536 % 256, n / 16777216 % 256, n / 4294967296 % 256, n / 1099511627776 % 256, n / 281474976710656 % 256, n / 72057594037927936 % 256]
theorem val8_bytes8 (n : Nat) (hn : n < 18446744073709551616) : val8 (bytes8 n) = n := by simp only [val8, bytes8]; omega
theorem bytes8_lt (n : Nat) : ∀ c ∈ bytes8 n, c < 256 := by
  intro c hc
  simp only [bytes8, List.mem_cons, List.not_mem_nil, or_false] at hc
  omega

theorem count_val8 (cs : List Nat) (h : ∀ c ∈ cs, c < 256) : ((List.range (8 * cs.length)).filter (val8 cs).testBit).length = (cs.map pop8).sum := by
  induction cs with
  | nil => rfl
  | cons c cs ih =>
    have hc : c < 256 := h c (by simp)
    have hi := ih fun x hx => h x (by simp [hx])
    have h1 : ∀ i : Nat, (val8 (c :: cs)).testBit i = if i < 8 then c.testBit i else (val8 cs).testBit (i - 8) := fun i => by
      rw [show val8 (c :: cs) = 2 ^ 8 * val8 cs + c by simp only [val8]; omega, Nat.testBit_two_pow_mul_add _ (by omega)]
    rw [show 8 * (c :: cs).length = 8 + 8 * cs.length by simp; omega, List.range_add, List.filter_append, List.length_append, List.filter_map, List.length_map, List.map_cons, List.sum_cons, ← hi]
    congr 1
    · unfold pop8
      congr 1
      apply List.filter_congr
      intro i hi
      rw [h1, if_pos (by simpa using hi)]
    · congr 1
      apply List.filter_congr
      intro i _
      rw [Function.comp_apply, h1, if_neg (by omega), Nat.add_sub_cancel_left]

/-- What the steps of OnesCount64 make of a word. -/
def y1 (n : Nat) : Nat := (n / 2 &&& 6148914691236517205) + (n &&& 6148914691236517205)
def y2 (n : Nat) : Nat := (n / 4 &&& 3689348814741910323) + (n &&& 3689348814741910323)
def y3 (n : Nat) : Nat := (n / 16 + n) &&& 1085102592571150095
theorem rep_85 (n : Nat) : rep8 85 (bytes8 n) = 6148914691236517205 := by simp only [rep8, bytes8, List.map_cons, List.map_nil, val8]
theorem rep_51 (n : Nat) : rep8 51 ((bytes8 n).map g1) = 3689348814741910323 := by simp only [rep8, bytes8, List.map_cons, List.map_nil, val8]
theorem rep_15 (n : Nat) : rep8 15 (((bytes8 n).map g1).map g2) = 1085102592571150095 := by simp only [rep8, bytes8, List.map_cons, List.map_nil, val8]
theorem y321 (n : Nat) (hn : n < 18446744073709551616) : y3 (y2 (y1 n)) = val8 ((bytes8 n).map pop8) := by
  have a1 : y1 n = val8 ((bytes8 n).map g1) := by
    rw [← step1 _ (bytes8_lt n), val8_bytes8 n hn, rep_85]; exact y1.eq_1 n
  have b1 : ∀ c ∈ (bytes8 n).map g1, c < 256 := by
    intro c hc
    obtain ⟨d, hd, rfl⟩ := List.mem_map.1 hc
    exact (fin4 d (bytes8_lt n d hd)).1
  have a2 : y2 (y1 n) = val8 (((bytes8 n).map g1).map g2) := by
    rw [← step2 _ b1, ← a1, rep_51]; exact y2.eq_1 _
  have b2 : ∀ c ∈ ((bytes8 n).map g1).map g2, c < 69 ∧ c % 16 < 5 := by
    intro c hc
    obtain ⟨d', hd', rfl⟩ := List.mem_map.1 hc
    obtain ⟨d, hd, rfl⟩ := List.mem_map.1 hd'
    exact ⟨(fin4 d (bytes8_lt n d hd)).2.1, (fin4 d (bytes8_lt n d hd)).2.2.1⟩
  have a3 : y3 (y2 (y1 n)) = val8 ((((bytes8 n).map g1).map g2).map g3) := by
    rw [← step3 _ b2, ← a2, rep_15]; exact y3.eq_1 _
  rw [a3, List.map_map, List.map_map]
  congr 1
  apply List.map_congr_left
  intro c hc
  exact (fin4 c (bytes8_lt n c hc)).2.2.2.1

def y4 (n : Nat) : Nat := n + n / 256
def y5 (n : Nat) : Nat := n + n / 65536
def y6 (n : Nat) : Nat := n + n / 4294967296
theorem val8_div (c : Nat) (cs : List Nat) (h : c < 256) : val8 (c :: cs) / 256 = val8 cs := by simp only [val8]; omega
theorem y4_val (a b c d e f g h : Nat) (ha : a < 9) : y4 (val8 [a, b, c, d, e, f, g, h]) = val8 [a + b, b + c, c + d, d + e, e + f, f + g, g + h, h] := by
  unfold y4; rw [val8_div _ _ (by omega)]; simp only [val8]; omega
theorem y5_val (a b c d e f g h : Nat) (ha : a < 99) (hb : b < 99) : y5 (val8 [a, b, c, d, e, f, g, h]) = val8 [a + c, b + d, c + e, d + f, e + g, f + h, g, h] := by
  unfold y5; rw [show 65536 = 256 * 256 from rfl, ← Nat.div_div_eq_div_mul, val8_div _ _ (by omega), val8_div _ _ (by omega)]; simp only [val8]; omega
theorem y6_val (a b c d e f g h : Nat) (ha : a < 99) (hb : b < 99) (hc : c < 99) (hd : d < 99) : y6 (val8 [a, b, c, d, e, f, g, h]) = val8 [a + e, b + f, c + g, d + h, e, f, g, h] := by
  unfold y6; rw [show 4294967296 = 256 * 256 * 256 * 256 from rfl, ← Nat.div_div_eq_div_mul, ← Nat.div_div_eq_div_mul, ← Nat.div_div_eq_div_mul, val8_div _ _ (by omega), val8_div _ _ (by omega), val8_div _ _ (by omega), val8_div _ _ (by omega)]; simp only [val8]; omega
theorem val8_mod128 (c : Nat) (cs : List Nat) (h : c < 128) : val8 (c :: cs) % 128 = c := by simp only [val8]; omega
theorem sum_fields (a b c d e f g h : Nat) (ha : a < 9) (hb : b < 9) (hc : c < 9) (hd : d < 9) (he : e < 9) (hf : f < 9) (hg : g < 9) (hh : h < 9) :
    y6 (y5 (y4 (val8 [a, b, c, d, e, f, g, h]))) % 128 = [a, b, c, d, e, f, g, h].sum := by
  rw [y4_val _ _ _ _ _ _ _ _ ha, y5_val _ _ _ _ _ _ _ _ (by omega) (by omega), y6_val _ _ _ _ _ _ _ _ (by omega) (by omega) (by omega) (by omega), val8_mod128 _ _ (by omega)]
  simp only [List.sum_cons, List.sum_nil]
  omega

theorem ones_nat (n : Nat) (hn : n < 18446744073709551616) : y6 (y5 (y4 (y3 (y2 (y1 n))))) % 128 = (cats n).length := by
  have hp : ∀ k : Nat, pop8 (k % 256) < 9 := fun k => (fin4 (k % 256) (Nat.mod_lt _ (by decide))).2.2.2.2
  have hc := count_val8 (bytes8 n) (bytes8_lt n)
  rw [val8_bytes8 n hn] at hc
  have hc' : (cats n).length = ((bytes8 n).map pop8).sum := hc
  rw [hc', y321 n hn]
  exact sum_fields _ _ _ _ _ _ _ _ (hp _) (hp _) (hp _) (hp _) (hp _) (hp _) (hp _) (hp _)
end Go.Proofs.YtcmdndgaggbhoaaDoor.Lb
namespace Go.Proofs.YtcmdndgaggbhoaaDoor
open Go.RowKit
open Lb
def s1 (x : Int) : Int := IntKind.u64.wrap (bits .and .u64 (x / 2) 6148914691236517205 + bits .and .u64 x 6148914691236517205)
def s2 (x : Int) : Int := IntKind.u64.wrap (bits .and .u64 (x / 4) 3689348814741910323 + bits .and .u64 x 3689348814741910323)
def s3 (x : Int) : Int := bits .and .u64 (IntKind.u64.wrap (x / 16 + x)) 1085102592571150095
def s4 (x : Int) : Int := IntKind.u64.wrap (x + x / 256)
def s5 (x : Int) : Int := IntKind.u64.wrap (x + x / 65536)
def s6 (x : Int) : Int := IntKind.u64.wrap (x + x / 4294967296)
def s7 (x : Int) : Int := bits .and .i64 (wrap64 x) 127
theorem wraps64 (n : Int) (h0 : 0 ≤ n) (h1 : n < 18446744073709551616) : IntKind.u64.wrap n = n := by rw [IntKind.wrap_u64]; omega
theorem nat_and_le (a m : Nat) : a &&& m ≤ m := Nat.and_le_right
theorem s1_nat (n : Nat) (hn : n < 18446744073709551616) : s1 (n : Int) = (y1 n : Int) := by
  have h1 := nat_and_le (n / 2) 6148914691236517205
  have h2 := nat_and_le n 6148914691236517205
  unfold s1 y1
  rw [show ((n : Int) / 2) = ((n / 2 : Nat) : Int) from rfl, show (6148914691236517205 : Int) = ((6148914691236517205 : Nat) : Int) from rfl, and_nat _ _ (by omega) (by omega), and_nat _ _ (by omega) (by omega)]
  exact wraps64 _ (by omega) (by omega)
theorem y1_le (n : Nat) : y1 n ≤ 12297829382473034410 := by
  have h1 := nat_and_le (n / 2) 6148914691236517205
  have h2 := nat_and_le n 6148914691236517205
  unfold y1; omega
theorem s2_nat (n : Nat) (hn : n < 18446744073709551616) : s2 (n : Int) = (y2 n : Int) := by
  have h1 := nat_and_le (n / 4) 3689348814741910323
  have h2 := nat_and_le n 3689348814741910323
  unfold s2 y2
  rw [show ((n : Int) / 4) = ((n / 4 : Nat) : Int) from rfl, show (3689348814741910323 : Int) = ((3689348814741910323 : Nat) : Int) from rfl, and_nat _ _ (by omega) (by omega), and_nat _ _ (by omega) (by omega)]
  exact wraps64 _ (by omega) (by omega)
theorem y2_le (n : Nat) : y2 n ≤ 7378697629483820646 := by
  have h1 := nat_and_le (n / 4) 3689348814741910323
  have h2 := nat_and_le n 3689348814741910323
  unfold y2; omega
theorem s3_nat (n : Nat) (hn : n ≤ 7378697629483820646) : s3 (n : Int) = (y3 n : Int) := by
  unfold s3 y3
  rw [wraps64 _ (by omega) (by omega), show ((n : Int) / 16 + (n : Int)) = ((n / 16 + n : Nat) : Int) from rfl, show (1085102592571150095 : Int) = ((1085102592571150095 : Nat) : Int) from rfl, and_nat _ _ (by omega) (by omega)]
theorem y3_le (n : Nat) : y3 n ≤ 1085102592571150095 := nat_and_le _ _
theorem s4_nat (n : Nat) (hn : n ≤ 1085102592571150095) : s4 (n : Int) = (y4 n : Int) ∧ y4 n ≤ 1185102592571150095 := by
  unfold s4 y4
  exact ⟨wraps64 _ (by omega) (by omega), by omega⟩
theorem s5_nat (n : Nat) (hn : n ≤ 1185102592571150095) : s5 (n : Int) = (y5 n : Int) ∧ y5 n ≤ 1285102592571150095 := by
  unfold s5 y5
  exact ⟨wraps64 _ (by omega) (by omega), by omega⟩
theorem s6_nat (n : Nat) (hn : n ≤ 1285102592571150095) : s6 (n : Int) = (y6 n : Int) ∧ y6 n ≤ 1385102592571150095 := by
  unfold s6 y6
  exact ⟨wraps64 _ (by omega) (by omega), by omega⟩
theorem s7_nat (n : Nat) (hn : n ≤ 1385102592571150095) : s7 (n : Int) = ((n % 128 : Nat) : Int) := by
  unfold s7
  rw [show wrap64 (n : Int) = (n : Int) by unfold wrap64; omega]
  show IntKind.i64.wrap ((BitVec.ofInt 64 (n : Int) &&& BitVec.ofInt 64 ((127 : Nat) : Int)).toNat : Int) = _
  rw [BitVec.toNat_and, ofInt_u64 n (by omega), ofInt_u64 127 (by omega), show (127 : Nat) = 2 ^ 7 - 1 from rfl, Nat.and_two_pow_sub_one_eq_mod]
  have e : ((n % 2 ^ 7 : Nat) : Int) % 2 ^ 64 = ((n % 2 ^ 7 : Nat) : Int) := Int.emod_eq_of_lt (by omega) (by omega)
  simp only [IntKind.wrap, IntKind.bits, IntKind.signed, e]
  rw [if_neg]
  simp
  omega
theorem s_nat (n : Nat) (hn : n < 18446744073709551616) : s7 (s6 (s5 (s4 (s3 (s2 (s1 (n : Int))))))) = ((cats n).length : Int) := by
  have h1 := y1_le n
  have h2 := y2_le (y1 n)
  have h3 := y3_le (y2 (y1 n))
  have h4 := s4_nat _ h3
  have h5 := s5_nat _ h4.2
  have h6 := s6_nat _ h5.2
  rw [s1_nat n hn, s2_nat _ (by omega), s3_nat _ h2, h4.1, h5.1, h6.1, s7_nat _ h6.2, ones_nat n hn]
end Go.Proofs.YtcmdndgaggbhoaaDoor
namespace Go.Proofs.YtcmdndgaggbhoaaDoor
open Go.RowKit
open Lb

theorem catsI_vals {r : Nat} (hr : r < 18446744073709551616) : ints (cats r) = vals .i64 (catsI (r : Int)) := by
  rw [catsI_nat r hr]
  unfold ints vals
  simp
theorem catsI_len {r : Nat} (hr : r < 18446744073709551616) : (catsI (r : Int)).length = (cats r).length := by rw [catsI_nat r hr, List.length_map]
theorem catsI_zero {r : Nat} (hr : r < 18446744073709551616) : (r : Int) = 0 ↔ catsI (r : Int) = [] := by
  constructor
  · intro h
    obtain rfl : r = 0 := by omega
    decide +kernel
  · intro h
    by_cases h0 : r = 0
    · simp [h0]
    · exfalso
      rw [catsI_nat r hr, (cats_step r h0 hr).1] at h
      simp at h
theorem refBelowI_nat {a b : Nat} (ha : a < 18446744073709551616) (hb : b < 18446744073709551616) : refBelowI (a : Int) (b : Int) = belowI (a : Int) (b : Int) := by
  rw [Bool.eq_iff_iff, belowI_nat ha hb]
  unfold refBelowI upto64
  rw [List.all_eq_true]
  constructor
  · intro h i hi
    have hlt : i < 64 := by
      apply Classical.byContradiction
      intro hge
      have : a.testBit i = false := Nat.testBit_lt_two_pow (Nat.lt_of_lt_of_le ha (by rw [show (18446744073709551616 : Nat) = 2 ^ 64 by decide]; exact Nat.pow_le_pow_right (by decide) (by omega)))
      rw [this] at hi; cases hi
    have := h (i : Int) (List.mem_map.2 ⟨i, by simpa using hlt, rfl⟩)
    rw [hasI_nat a i ha, hasI_nat b i hb, hi] at this
    simpa using this
  · intro h c hc
    obtain ⟨i, hi, rfl⟩ := List.mem_map.1 hc
    rw [hasI_nat a i ha, hasI_nat b i hb]
    cases hx : a.testBit i with
    | false => rfl
    | true => rw [h i hx]; rfl

/-- What Has gives: a bit and an error. -/
def hasB (l c : Int) : Bool := if isCat c then hasI l c else false
def hasE (c : Int) : Int := if isCat c then 0 else 2
end Go.Proofs.YtcmdndgaggbhoaaDoor
namespace Go.Proofs.YtcmdndgaggbhoaaDoor
open Go.RowKit
open Lb

theorem conv_lit (w : World) (xs : List UInt8) (ys : List Value) (n : Nat) (hy : ys = bvals xs) (hn : xs.length = n) (h0 : xs ≠ []) (hl : n ≤ 100) :
    (convert 59 9 (.slice (some ⟨w.heap.size, 0, none⟩) n n)).run Tryd.prog (w.alloc (.cells ys.toArray 5)) = .ok (.string (strOf xs)) (w.alloc (.cells ys.toArray 5)) := by
  subst hy
  exact conv_bytes Tryd.underlying59 Tryd.underlying5 Tryd.underlying9 (Slc.lit w (bvals xs) 5 n (by simpa [bvals] using hn) (by omega)) h0

theorem dig_val (k : Nat) (hk : k < 10) : ((UInt8.ofNat (48 + k)).toNat : Int) = 48 + (k : Int) := by
  rw [UInt8.toNat_ofNat']; omega

theorem join_snoc (xs : List (List UInt8)) (y sep : List UInt8) (h : xs ≠ []) : Lib.join (xs ++ [y]) sep = Lib.join xs sep ++ (sep ++ y) := by
  cases xs with
  | nil => exact absurd rfl h
  | cons x r => rw [List.cons_append, Lib.join_cons, Lib.join_cons]; simp [Lib.joinTail]

/-- The text up to number k. -/
def preText (zs : List Nat) (k : Nat) : List UInt8 := [123] ++ Lib.join ((zs.take k).map Lib.decDigits) [44]
theorem preText_one (zs : List Nat) (h : 0 < zs.length) : preText zs 1 = preText zs 0 ++ Lib.decDigits zs[0] := by
  unfold preText
  rw [show zs.take 1 = [zs[0]] by rw [take_snoc zs 0 h]; simp]
  simp [Lib.join_one, Lib.join_nil]
theorem preText_succ (zs : List Nat) (k : Nat) (hk : 0 < k) (h : k < zs.length) : preText zs (k + 1) = preText zs k ++ [44] ++ Lib.decDigits zs[k] := by
  unfold preText
  rw [take_snoc zs k h, List.map_append, List.map_cons, List.map_nil, join_snoc _ _ _ (List.ne_nil_of_length_pos (by simp; omega))]
  simp
theorem preText_all (zs : List Nat) : preText zs zs.length ++ [125] = textOf zs := by
  unfold preText textOf
  rw [List.take_length]
theorem str_add (a b : List UInt8) : strOf a ++ strOf b = strOf (a ++ b) := by
  apply ByteArray.ext
  simp [strOf]

theorem dec_size (z : Nat) (h : z < 64) : (strOf (Lib.decDigits z)).size ≤ 2 := by
  by_cases h1 : z < 10
  · rw [Lib.decDigits_one h1]; simp [strOf, ByteArray.size]
  · rw [Lib.decDigits_two h1 (by omega)]; simp [strOf, ByteArray.size]
theorem preText_size (zs : List Nat) (k : Nat) (hz : zs.length ≤ 64) (h : ∀ z ∈ zs, z < 64) : (strOf (preText zs k)).size ≤ 1000 := by
  have h1 := textOf_length (zs.take k) fun z hz => h z (List.mem_of_mem_take hz)
  have h2 : (zs.take k).length ≤ zs.length := by rw [List.length_take]; omega
  have h3 : (strOf (preText zs k)).size = 1 + (Lib.join ((zs.take k).map Lib.decDigits) [44]).length := by
    simp [strOf, preText, ByteArray.size]; omega
  rw [h3]
  omega

end Go.Proofs.YtcmdndgaggbhoaaDoor
namespace Go.Proofs.YtcmdndgaggbhoaaDoor.Lb
open Go

theorem or_byte (x b : Nat) (hb : b < 256) : x * 256 ||| b = x * 256 + b := by
  rw [show x * 256 = 2 ^ 8 * x by omega]
  exact (Nat.two_pow_add_eq_or_of_lt (by omega) x).symm

theorem fold8_pre (n : Nat) (hn : n < 18446744073709551616) (k : Nat) (hk : k ≤ 8) : fold8 (preBytes (n : Int) k) = ((n / 2 ^ (8 * (8 - k)) : Nat) : Int) := by
  induction k with
  | zero =>
    rw [show preBytes (n : Int) 0 = [] from rfl]
    have : n / 2 ^ (8 * (8 - 0)) = 0 := Nat.div_eq_of_lt (by simpa using hn)
    rw [this]; rfl
  | succ k ih =>
    rw [preBytes_succ, fold8_snoc, ih (by omega)]
    have hb := byteI_val (n : Int) (8 * (7 - k))
    have e1 : ((n : Int) / 2 ^ (8 * (7 - k)) % 256) = ((n / 2 ^ (8 * (7 - k)) % 256 : Nat) : Int) := by simp
    rw [e1] at hb
    have hx : 2 ^ (8 * (8 - k)) = 2 ^ (8 * (7 - k)) * 256 := by
      rw [show 8 * (8 - k) = 8 * (7 - k) + 8 by omega, Nat.pow_add]
    have e2 : n / 2 ^ (8 * (8 - k)) = n / 2 ^ (8 * (7 - k)) / 256 := by rw [hx, Nat.div_div_eq_div_mul]
    have e3 : 8 * (8 - (k + 1)) = 8 * (7 - k) := by omega
    rw [e2, e3, hb]
    obtain ⟨y, hy⟩ : ∃ y, y = n / 2 ^ (8 * (7 - k)) := ⟨_, rfl⟩
    have hle : y ≤ n := hy ▸ Nat.div_le_self _ _
    rw [← hy]
    have w1 : IntKind.u64.wrap (((y / 256 : Nat) : Int) * 256) = ((y / 256 * 256 : Nat) : Int) := by rw [IntKind.wrap_u64]; omega
    have w2 : IntKind.u64.wrap ((y % 256 : Nat) : Int) = ((y % 256 : Nat) : Int) := by rw [IntKind.wrap_u64]; omega
    rw [w1, w2, or_nat _ _ (by omega) (by omega), or_byte _ _ (by omega)]
    congr 1
    omega
theorem of8_bytes (n : Nat) (hn : n < 18446744073709551616) : of8I (bytesI (n : Int)) = ((n : Int), 0) := by
  unfold of8I bytesI
  rw [if_pos (preBytes_length _ _), fold8_pre n hn 8 (by decide)]
  simp

/-- The label of a list of categories, bit by bit. -/
def orN (zs : List Nat) : Nat := zs.foldl (fun a k => a ||| 2 ^ k) 0
theorem orN_snoc (zs : List Nat) (k : Nat) : orN (zs ++ [k]) = orN zs ||| 2 ^ k := by simp [orN]
theorem orN_foldl (zs : List Nat) (a i : Nat) : (zs.foldl (fun a k => a ||| 2 ^ k) a).testBit i = (a.testBit i || decide (i ∈ zs)) := by
  induction zs generalizing a with
  | nil => simp
  | cons z zs ih =>
    rw [List.foldl_cons, ih, Nat.testBit_or, Nat.testBit_two_pow]
    cases a.testBit i <;> simp [List.mem_cons, eq_comm]
theorem orN_bit (zs : List Nat) (i : Nat) : (orN zs).testBit i = decide (i ∈ zs) := by
  unfold orN; rw [orN_foldl]; simp
theorem orN_cats (n : Nat) (hn : n < 18446744073709551616) : orN (cats n) = n := by
  apply Nat.eq_of_testBit_eq
  intro i
  rw [orN_bit]
  unfold cats
  by_cases hi : i < 64
  · cases h : n.testBit i <;> simp [hi, h]
  · have : n.testBit i = false := Nat.testBit_lt_two_pow (Nat.lt_of_lt_of_le hn (by rw [show (18446744073709551616 : Nat) = 2 ^ 64 by decide]; exact Nat.pow_le_pow_right (by decide) (by omega)))
    rw [this]; simp [hi]
theorem bitOf_nat (k : Nat) (hk : k < 64) : bitOf (k : Int) = ((2 ^ k : Nat) : Int) := by
  unfold bitOf
  have h : 2 ^ k < 2 ^ 64 := Nat.pow_lt_pow_right (by decide) hk
  rw [show (18446744073709551616 : Int) = ((2 ^ 64 : Nat) : Int) by decide, Int.toNat_natCast, show ((2 : Int) ^ k) = ((2 ^ k : Nat) : Int) by simp, ← Int.natCast_emod, Nat.mod_eq_of_lt h]
theorem orN_lt (zs : List Nat) (h : ∀ k ∈ zs, k < 64) : orN zs < 18446744073709551616 := by
  rw [show (18446744073709551616 : Nat) = 2 ^ 64 by decide]
  apply Nat.lt_pow_two_of_testBit
  intro i hi
  rw [orN_bit, decide_eq_false_iff_not]
  intro hm
  have := h i hm
  omega
theorem orAll_nat (zs : List Nat) (h : ∀ k ∈ zs, k < 64) : ∀ a : Nat, a < 18446744073709551616 → (zs.map fun (k : Nat) => (k : Int)).foldl (fun a c => bits .or .u64 a (bitOf c)) (a : Int) = ((zs.foldl (fun a k => a ||| 2 ^ k) a : Nat) : Int) := by
  induction zs with
  | nil => intro a _; rfl
  | cons z zs ih =>
    intro a ha
    have hz := h z (by simp)
    have h2 : 2 ^ z < 18446744073709551616 := by
      rw [show (18446744073709551616 : Nat) = 2 ^ 64 by decide]; exact Nat.pow_lt_pow_right (by decide) hz
    rw [List.map_cons, List.foldl_cons, List.foldl_cons, bitOf_nat z hz, or_nat _ _ ha h2]
    exact ih (fun k hk => h k (by simp [hk])) _ (by
      rw [show (18446744073709551616 : Nat) = 2 ^ 64 by decide] at ha h2 ⊢
      exact Nat.or_lt_two_pow ha h2)
theorem of_cats (n : Nat) (hn : n < 18446744073709551616) : ofI (catsI (n : Int)) = ((n : Int), 0) := by
  have hk : ∀ k ∈ cats n, k < 64 := fun k hk => by simpa using (List.mem_filter.1 hk).1
  rw [catsI_nat n hn]
  unfold ofI
  rw [if_pos]
  · have := orAll_nat (cats n) hk 0 (by decide)
    unfold orAll
    rw [show (0 : Int) = ((0 : Nat) : Int) from rfl, this]
    have h2 : (cats n).foldl (fun a k => a ||| 2 ^ k) 0 = n := orN_cats n hn
    rw [h2]
  · rw [List.all_eq_true]
    intro c hc
    obtain ⟨k, hk', rfl⟩ := List.mem_map.1 hc
    have := hk k hk'
    simp [isCat]; omega
end Go.Proofs.YtcmdndgaggbhoaaDoor.Lb
namespace Go.Proofs.YtcmdndgaggbhoaaDoor.Lb
open Go

def dd (z : Nat) : List UInt8 := if z < 10 then [UInt8.ofNat (48 + z)] else [UInt8.ofNat (48 + z / 10), UInt8.ofNat (48 + z % 10)]
theorem dd_eq (z : Nat) (h : z < 64) : Lib.decDigits z = dd z := by
  unfold dd
  by_cases h1 : z < 10
  · rw [if_pos h1, Lib.decDigits_one h1]
  · rw [if_neg h1, Lib.decDigits_two h1 (by omega)]
theorem dd_facts : ∀ z < 64, (dd z).all (fun b => isDig (b.toNat : Int)) = true ∧ decOf (dd z) = z ∧ (dd z).length ≠ 0 ∧ (((dd z).headD 0).toNat = 48 → (dd z).length = 1) := by decide +kernel

theorem bt_drop {s : ByteArray} {i : Nat} {c : UInt8} {r : List UInt8} (h : s.data.toList.drop i = c :: r) : bt s i = (c.toNat : Int) ∧ i < s.size ∧ s.data.toList.drop (i + 1) = r := by
  have hlt : i < s.data.toList.length := by
    apply Classical.byContradiction
    intro hn
    rw [List.drop_eq_nil_of_le (by omega)] at h
    cases h
  rw [List.drop_eq_getElem_cons hlt] at h
  injection h with h1 h2
  have hs : i < s.size := by
    have e : s.data.toList.length = s.size := by rw [Array.length_toList]; rfl
    omega
  refine ⟨?_, hs, h2⟩
  rw [bt_in hs]
  rw [← h1]
  rfl
theorem drop_more {α : Type} {l a b : List α} {i : Nat} (h : l.drop i = a ++ b) : l.drop (i + a.length) = b := by
  rw [← List.drop_drop, h]; simp

/-- A category's digits, and a byte behind them that is none. -/
theorem num_text {s : ByteArray} {i z : Nat} {c : UInt8} {r : List UInt8} (hz : z < 64) (hc : isDig (c.toNat : Int) = false) (h : s.data.toList.drop i = Lib.decDigits z ++ c :: r) :
    digs s i = Lib.decDigits z ∧ decOf (digs s i) = z ∧ (numI s i).2.2.1 = 0 ∧ bt s (i + (digs s i).length) = (c.toNat : Int) ∧ s.data.toList.drop (i + (digs s i).length + 1) = r := by
  rw [dd_eq z hz] at h ⊢
  obtain ⟨f1, f2, f3, f4⟩ := dd_facts z hz
  have hd : digs s i = dd z := by
    unfold digs
    rw [h, List.takeWhile_append_of_pos (fun b hb => (List.all_eq_true.1 f1) b hb), List.takeWhile_cons, hc]
    simp
  have h2 := drop_more h
  obtain ⟨g1, g2, g3⟩ := bt_drop h2
  rw [hd]
  refine ⟨rfl, f2, ?_, g1, g3⟩
  unfold numI
  rw [hd, f2, if_neg f3, if_neg, if_neg (by omega)]
  intro ⟨h48, hlen⟩
  obtain ⟨x, y, hx⟩ : ∃ x y, dd z = x :: y := by
    cases hdd : dd z with
    | nil => rw [hdd] at f3; simp at f3
    | cons x y => exact ⟨x, y, rfl⟩
  rw [hx, List.cons_append] at h
  have := (bt_drop h).1
  rw [hx] at f4 hlen
  have : (x.toNat : Int) = 48 := by omega
  have := f4 (by simpa using (by omega : x.toNat = 48))
  omega

/-- Read, from the first digit of an ascending list of categories. -/
theorem go_text (s : ByteArray) (tail : List UInt8) (zs : List Nat) : ∀ (z i least l fuel : Nat), (∀ k ∈ z :: zs, k < 64) → (z :: zs).Pairwise (· < ·) → least ≤ z → zs.length < fuel → l < 18446744073709551616 →
    s.data.toList.drop i = Lib.join ((z :: zs).map Lib.decDigits) [44] ++ [125] ++ tail →
    readGo s fuel i least (l : Int) = ((((z :: zs).foldl (fun a k => a ||| 2 ^ k) l : Nat) : Int), ((i + (Lib.join ((z :: zs).map Lib.decDigits) [44]).length + 1 : Nat) : Int), 0, 0) := by
  induction zs with
  | nil =>
    intro z i least l fuel hk hp hle hf hl h
    have hz := hk z (by simp)
    obtain ⟨f, rfl⟩ : ∃ f, fuel = f + 1 := ⟨fuel - 1, by omega⟩
    simp only [List.map_cons, List.map_nil, Lib.join_one, List.append_assoc, List.singleton_append] at h ⊢
    obtain ⟨h1, h2, h3, h4, _⟩ := num_text hz (by decide) h
    unfold readGo
    rw [h2, h3, h4, if_neg (by simp), if_neg (by omega), if_pos (by decide), bitOf_nat z hz, or_nat _ _ hl (by
      rw [show (18446744073709551616 : Nat) = 2 ^ 64 by decide]; exact Nat.pow_lt_pow_right (by decide) hz), h1]
    simp
  | cons y zs ih =>
    intro z i least l fuel hk hp hle hf hl h
    have hz := hk z (by simp)
    obtain ⟨f, rfl⟩ : ∃ f, fuel = f + 1 := ⟨fuel - 1, by simp at hf; omega⟩
    have hj : Lib.join ((z :: y :: zs).map Lib.decDigits) [44] = Lib.decDigits z ++ 44 :: Lib.join ((y :: zs).map Lib.decDigits) [44] := by
      simp only [List.map_cons]
      rw [Lib.join_cons, Lib.join_cons]
      simp [Lib.joinTail]
    rw [hj] at h ⊢
    have h' : s.data.toList.drop i = Lib.decDigits z ++ 44 :: (Lib.join ((y :: zs).map Lib.decDigits) [44] ++ [125] ++ tail) := by rw [h]; simp
    obtain ⟨h1, h2, h3, h4, h5⟩ := num_text hz (by decide) h'
    have hb : 2 ^ z < 18446744073709551616 := by
      rw [show (18446744073709551616 : Nat) = 2 ^ 64 by decide]; exact Nat.pow_lt_pow_right (by decide) hz
    have hzy : z < y := (List.pairwise_cons.1 hp).1 y (by simp)
    have := ih y (i + (digs s i).length + 1) (z + 1) (l ||| 2 ^ z) f (fun k hk' => hk k (by simp at hk' ⊢; exact .inr hk')) (List.pairwise_cons.1 hp).2 (by omega) (by simp at hf; omega) (by
      rw [show (18446744073709551616 : Nat) = 2 ^ 64 by decide] at hl hb ⊢
      exact Nat.or_lt_two_pow hl hb) h5
    unfold readGo
    rw [h2, h3, h4, if_neg (by simp), if_neg (by omega), if_neg (by decide), if_pos (by decide), bitOf_nat z hz, or_nat _ _ hl hb, this, h1]
    simp only [List.foldl_cons, List.length_append, List.length_cons]
    congr 2
    omega
end Go.Proofs.YtcmdndgaggbhoaaDoor.Lb
namespace Go.Proofs.YtcmdndgaggbhoaaDoor.Lb
open Go

theorem cats_pair (n : Nat) : (cats n).Pairwise (· < ·) := List.Pairwise.filter _ List.pairwise_lt_range
theorem data_app (l : List UInt8) (t : ByteArray) : (strOf l ++ t).data.toList = l ++ t.data.toList := by simp [strOf]
theorem size_len (s : ByteArray) : s.data.toList.length = s.size := by rw [Array.length_toList]; rfl

theorem read_text (a : Nat) (ha : a < 18446744073709551616) (t : ByteArray) :
    readI (strOf (textOf (cats a)) ++ t) = ((a : Int), ((textOf (cats a)).length : Int), 0, 0) := by
  have hp := cats_pair a
  have hk : ∀ k ∈ cats a, k < 64 := fun k hk => by simpa using (List.mem_filter.1 hk).1
  have ho := orN_cats a ha
  obtain ⟨zs, hz⟩ : ∃ zs, zs = cats a := ⟨_, rfl⟩
  rw [← hz] at hp hk ho ⊢
  have hd := data_app (textOf zs) t
  obtain ⟨S, hS⟩ : ∃ S, S = strOf (textOf zs) ++ t := ⟨_, rfl⟩
  rw [← hS] at hd ⊢
  have h0 : S.data.toList.drop 0 = 123 :: (Lib.join (zs.map Lib.decDigits) [44] ++ [125] ++ t.data.toList) := by rw [List.drop_zero, hd]; simp [textOf]
  obtain ⟨b0, _, h1⟩ := bt_drop h0
  rw [Nat.zero_add] at h1
  unfold readI
  rw [b0, if_neg (by decide)]
  cases zs with
  | nil =>
    have h1' : S.data.toList.drop 1 = 125 :: t.data.toList := by rw [h1]; rfl
    rw [(bt_drop h1').1, if_pos (by decide)]
    have : a = 0 := ho.symm
    subst this
    rfl
  | cons z zs =>
    have hz64 := hk z (by simp)
    obtain ⟨f1, f2, f3, f4⟩ := dd_facts z hz64
    obtain ⟨x, y, hxy⟩ : ∃ x y, dd z = x :: y := by
      cases hdd : dd z with
      | nil => rw [hdd] at f3; simp at f3
      | cons x y => exact ⟨x, y, rfl⟩
    have hx : isDig (x.toNat : Int) = true := by rw [hxy] at f1; simp at f1; exact f1.1
    have h1' : ∃ r, S.data.toList.drop 1 = x :: r := by
      rw [h1, List.map_cons, Lib.join_cons, dd_eq z hz64, hxy]
      exact ⟨_, rfl⟩
    obtain ⟨r, hr⟩ := h1'
    have hx2 := isDig_iff.1 hx
    rw [(bt_drop hr).1, if_neg (by omega)]
    have hlen : zs.length < S.size + 1 := by
      have e := size_len S
      rw [hd] at e
      have := Lib.join_length (Lib.decDigits z) (zs.map Lib.decDigits) [44]
      simp [textOf] at e this
      omega
    have hg := go_text S t.data.toList zs z 1 0 0 (S.size + 1) hk hp (by omega) hlen (by decide) h1
    rw [show ((0 : Nat) : Int) = 0 from rfl] at hg
    rw [hg]
    have ho' : (z :: zs).foldl (fun a k => a ||| 2 ^ k) 0 = a := ho
    rw [ho']
    simp [textOf]
    omega

theorem parse_text (a : Nat) (ha : a < 18446744073709551616) : parseI (strOf (textOf (cats a))) = ((a : Int), 0, 0) := by
  have h := read_text a ha ByteArray.empty
  rw [ByteArray.append_empty] at h
  unfold parseI
  rw [h]
  have e : ((textOf (cats a)).length : Int) = ((strOf (textOf (cats a))).size : Int) := by
    rw [← size_len]; simp [strOf]
  rw [if_neg (by simp), if_neg (by rw [e]; simp)]

theorem foldl_ge (ds : List UInt8) : ∀ a : Nat, a ≤ ds.foldl (fun a d => 10 * a + (d.toNat - 48)) a := by
  induction ds with
  | nil => intro a; exact Nat.le_refl _
  | cons d ds ih => intro a; rw [List.foldl_cons]; exact Nat.le_trans (by omega) (ih _)

theorem num_back {s : ByteArray} {i : Nat} (h : (numI s i).2.2.1 = 0) : decOf (digs s i) < 64 ∧ Lib.decDigits (decOf (digs s i)) = digs s i := by
  unfold numI at h
  split at h
  · simp at h
  · rename_i h0
    split at h
    · simp at h
    · rename_i h1
      split at h
      · simp at h
      · rename_i h2
        have hall : ∀ b ∈ digs s i, isDig (b.toNat : Int) = true := fun b hb => by
          unfold digs at hb
          exact List.all_eq_true.1 List.all_takeWhile b hb
        have hpre : s.data.toList.drop i = digs s i ++ (s.data.toList.drop i).dropWhile (fun b => isDig (b.toNat : Int)) := by
          unfold digs; exact List.takeWhile_append_dropWhile.symm
        obtain ⟨ds, hds⟩ : ∃ ds, ds = digs s i := ⟨_, rfl⟩
        rw [← hds] at h0 h1 h2 hall hpre ⊢
        refine ⟨by omega, ?_⟩
        match ds, h0, h1, h2, hall, hpre with
        | [], h0, _, _, _, _ => simp at h0
        | [d], _, _, h2, hall, _ =>
          have hd := isDig_iff.1 (hall d (by simp))
          have e : decOf [d] = d.toNat - 48 := by simp [decOf]
          rw [e, Lib.decDigits_one (by omega)]
          congr 1
          apply UInt8.toNat_inj.1
          rw [UInt8.toNat_ofNat']
          omega
        | [d, e], _, h1, h2, hall, hpre =>
          have hd := isDig_iff.1 (hall d (by simp))
          have he := isDig_iff.1 (hall e (by simp))
          have hb := (bt_drop hpre).1
          have hne : d.toNat ≠ 48 := fun hh => h1 ⟨by rw [hb]; omega, by simp⟩
          have ee : decOf [d, e] = 10 * (d.toNat - 48) + (e.toNat - 48) := by simp [decOf]
          rw [ee] at h2 ⊢
          rw [Lib.decDigits_two (by omega) (by omega)]
          congr 1
          · apply UInt8.toNat_inj.1
            rw [UInt8.toNat_ofNat']
            omega
          · congr 1
            apply UInt8.toNat_inj.1
            rw [UInt8.toNat_ofNat']
            omega
        | d :: e :: f :: r, _, h1, h2, hall, hpre =>
          exfalso
          have hd := isDig_iff.1 (hall d (by simp))
          have hb := (bt_drop hpre).1
          have hne : d.toNat ≠ 48 := fun hh => h1 ⟨by rw [hb]; omega, by simp⟩
          have := foldl_ge r (10 * (10 * (10 * 0 + (d.toNat - 48)) + (e.toNat - 48)) + (f.toNat - 48))
          have ee : decOf (d :: e :: f :: r) = r.foldl (fun a d => 10 * a + (d.toNat - 48)) (10 * (10 * (10 * 0 + (d.toNat - 48)) + (e.toNat - 48)) + (f.toNat - 48)) := rfl
          omega
end Go.Proofs.YtcmdndgaggbhoaaDoor.Lb
namespace Go.Proofs.YtcmdndgaggbhoaaDoor.Lb
open Go

theorem sorted_ext : ∀ (xs ys : List Nat), xs.Pairwise (· < ·) → ys.Pairwise (· < ·) → (∀ i, i ∈ xs ↔ i ∈ ys) → xs = ys
  | [], [], _, _, _ => rfl
  | [], y :: ys, _, _, h => by have := (h y).2 (by simp); cases this
  | x :: xs, [], _, _, h => by have := (h x).1 (by simp); cases this
  | x :: xs, y :: ys, hx, hy, h => by
    rw [List.pairwise_cons] at hx hy
    have h1 := (h x).1 (by simp)
    have h2 := (h y).2 (by simp)
    have e : x = y := by
      rcases List.mem_cons.1 h1 with h1 | h1
      · exact h1
      · rcases List.mem_cons.1 h2 with h2 | h2
        · exact h2.symm
        · have := hx.1 y h2
          have := hy.1 x h1
          omega
    subst e
    congr 1
    refine sorted_ext xs ys hx.2 hy.2 fun i => ⟨fun hi => ?_, fun hi => ?_⟩
    · rcases List.mem_cons.1 ((h i).1 (List.mem_cons_of_mem _ hi)) with h3 | h3
      · have := hx.1 i hi; omega
      · exact h3
    · rcases List.mem_cons.1 ((h i).2 (List.mem_cons_of_mem _ hi)) with h3 | h3
      · have := hy.1 i hi; omega
      · exact h3
theorem cats_orN (zs : List Nat) (hp : zs.Pairwise (· < ·)) (hk : ∀ k ∈ zs, k < 64) : cats (orN zs) = zs := by
  refine sorted_ext _ _ (cats_pair _) hp fun i => ?_
  unfold cats
  rw [List.mem_filter, orN_bit, decide_eq_true_iff, List.mem_range]
  exact ⟨fun h => h.2, fun h => ⟨hk i h, h⟩⟩

theorem bt_pos {s : ByteArray} {i : Nat} {c : Int} (h : bt s i = c) (hc : c ≠ 0) : ∃ b : UInt8, (b.toNat : Int) = c ∧ s.data.toList.drop i = b :: s.data.toList.drop (i + 1) := by
  have hlt : i < s.size := by
    apply Classical.byContradiction
    intro hn
    rw [bt_out hn] at h
    exact hc h.symm
  have hl : i < s.data.toList.length := by rw [size_len]; exact hlt
  refine ⟨s.data.toList[i], ?_, List.drop_eq_getElem_cons hl⟩
  rw [← h, bt_in hlt]
  rfl

theorem go_back (s : ByteArray) : ∀ (fuel i least l : Nat), l < 18446744073709551616 → (readGo s fuel i least (l : Int)).2.2.1 = 0 →
    ∃ (z : Nat) (zs : List Nat) (rest : List UInt8), (z :: zs).Pairwise (· < ·) ∧ least ≤ z ∧ (∀ k ∈ z :: zs, k < 64) ∧
      s.data.toList.drop i = Lib.join ((z :: zs).map Lib.decDigits) [44] ++ [125] ++ rest ∧
      (readGo s fuel i least (l : Int)).1 = (((z :: zs).foldl (fun a k => a ||| 2 ^ k) l : Nat) : Int) ∧
      (readGo s fuel i least (l : Int)).2.1 = ((i + (Lib.join ((z :: zs).map Lib.decDigits) [44]).length + 1 : Nat) : Int) := by
  intro fuel
  induction fuel with
  | zero => intro i least l _ h; simp [readGo] at h
  | succ f ih =>
    intro i least l hl h
    unfold readGo at h ⊢
    split at h
    · rename_i h0; exact absurd h h0
    · rename_i h0
      have h0' : (numI s i).2.2.1 = 0 := by simpa using h0
      obtain ⟨hz, hdec⟩ := num_back h0'
      rw [if_neg h0]
      obtain ⟨z, hze⟩ : ∃ z, z = decOf (digs s i) := ⟨_, rfl⟩
      rw [← hze] at hz hdec h ⊢
      have hpre : s.data.toList.drop i = digs s i ++ s.data.toList.drop (i + (digs s i).length) := by
        have e : s.data.toList.drop i = digs s i ++ (s.data.toList.drop i).dropWhile (fun b => isDig (b.toNat : Int)) := by
          unfold digs; exact List.takeWhile_append_dropWhile.symm
        rw [drop_more e, ← e]
      have hb : 2 ^ z < 18446744073709551616 := by
        rw [show (18446744073709551616 : Nat) = 2 ^ 64 by decide]; exact Nat.pow_lt_pow_right (by decide) hz
      split at h
      · simp at h
      · rename_i h1
        rw [if_neg h1]
        split at h
        · rename_i h2
          rw [if_pos h2]
          obtain ⟨b, hb1, hb2⟩ := bt_pos h2 (by decide)
          have hb' : b = 125 := UInt8.toNat_inj.1 (by have : ((125 : UInt8).toNat) = 125 := rfl; omega)
          subst hb'
          refine ⟨z, [], s.data.toList.drop (i + (digs s i).length + 1), by simp, by omega, (fun k hk => by simp at hk; omega), ?_, ?_, ?_⟩
          · rw [hpre, hb2]; simp [Lib.join_one, hdec]
          · rw [bitOf_nat z hz, or_nat _ _ hl hb]; rfl
          · simp [Lib.join_one, hdec]
        · rename_i h2
          rw [if_neg h2]
          split at h
          · rename_i h3
            rw [if_pos h3]
            obtain ⟨b, hb1, hb2⟩ := bt_pos h3 (by decide)
            have hb' : b = 44 := UInt8.toNat_inj.1 (by have : ((44 : UInt8).toNat) = 44 := rfl; omega)
            subst hb'
            have hlt : l ||| 2 ^ z < 18446744073709551616 := by
              rw [show (18446744073709551616 : Nat) = 2 ^ 64 by decide] at hl hb ⊢
              exact Nat.or_lt_two_pow hl hb
            rw [bitOf_nat z hz, or_nat _ _ hl hb] at h ⊢
            obtain ⟨y, ys, rest, hp, hle, hk, hd, he1, he2⟩ := ih _ _ _ hlt h
            have hj : Lib.join ((z :: y :: ys).map Lib.decDigits) [44] = Lib.decDigits z ++ 44 :: Lib.join ((y :: ys).map Lib.decDigits) [44] := by
              simp only [List.map_cons]
              rw [Lib.join_cons, Lib.join_cons]
              simp [Lib.joinTail]
            refine ⟨z, y :: ys, rest, ?_, by omega, ?_, ?_, ?_, ?_⟩
            · rw [List.pairwise_cons]
              refine ⟨fun k hk' => ?_, hp⟩
              rcases List.mem_cons.1 hk' with rfl | hk'
              · omega
              · have := (List.pairwise_cons.1 hp).1 k hk'; omega
            · intro k hk'
              rcases List.mem_cons.1 hk' with rfl | hk'
              · exact hz
              · exact hk k hk'
            · rw [hpre, hb2, hd, hj, hdec]; simp
            · rw [he1]; rfl
            · rw [he2, hj, hdec]
              simp only [List.length_append, List.length_cons]
              omega
          · simp at h

theorem parse_back (s : ByteArray) (h : (parseI s).2.1 = 0) : ∃ n : Nat, n < 18446744073709551616 ∧ (parseI s).1 = (n : Int) ∧ strOf (textOf (cats n)) = s := by
  unfold parseI at h ⊢
  split at h
  · rename_i h0; exact absurd h h0
  · rename_i h0
    rw [if_neg h0]
    have h0' : (readI s).2.2.1 = 0 := by simpa using h0
    split at h
    · simp at h
    · rename_i h1
      rw [if_neg h1]
      unfold readI at h0' h1 ⊢
      split at h0'
      · simp at h0'
      · rename_i h2
        rw [if_neg h2] at h1 ⊢
        obtain ⟨b, hb1, hb2⟩ := bt_pos (Classical.not_not.1 h2) (by decide)
        have hb' : b = 123 := UInt8.toNat_inj.1 (by have : ((123 : UInt8).toNat) = 123 := rfl; omega)
        subst hb'
        rw [List.drop_zero, Nat.zero_add] at hb2
        have hsz := size_len s
        split at h0'
        · rename_i h3
          rw [if_pos h3] at h1 ⊢
          obtain ⟨c, hc1, hc2⟩ := bt_pos h3 (by decide)
          have hc' : c = 125 := UInt8.toNat_inj.1 (by have : ((125 : UInt8).toNat) = 125 := rfl; omega)
          subst hc'
          rw [hc2] at hb2
          have hnil : s.data.toList.drop 2 = [] := by
            apply List.drop_eq_nil_of_le
            simp at h1
            omega
          rw [show 1 + 1 = 2 from rfl, hnil] at hb2
          refine ⟨0, by decide, rfl, ?_⟩
          apply ByteArray.ext
          apply Array.toList_inj.1
          rw [hb2]
          rfl
        · rename_i h3
          rw [if_neg h3] at h1 ⊢
          obtain ⟨z, zs, rest, hp, _, hk, hd, he1, he2⟩ := go_back s (s.size + 1) 1 0 0 (by decide) h0'
          rw [show ((0 : Nat) : Int) = 0 from rfl] at he1 he2
          rw [he2] at h1
          rw [he1]
          refine ⟨orN (z :: zs), orN_lt _ hk, rfl, ?_⟩
          rw [cats_orN _ hp hk]
          rw [hd] at hb2
          have hlen := congrArg List.length hb2
          have hr : rest = [] := by
            apply List.eq_nil_of_length_eq_zero
            simp only [List.length_cons, List.length_append, List.length_nil] at hlen
            omega
          subst hr
          apply ByteArray.ext
          apply Array.toList_inj.1
          rw [hb2]
          simp [strOf, textOf]
end Go.Proofs.YtcmdndgaggbhoaaDoor.Lb
