/- Text of package label. -/
import Derived.Test.YtnlioeheogkkiaaDoorLabelJ
import Derived.Test.YtnlioeheogkkiaaDoorShelf
namespace Go.Proofs.YtnlioeheogkkiaaDoor
open Go.RowKit Go.Shelf
open Lb
attribute [local go_sem] Oper.semAt_some

/-- An append onto a row of the call's own, as a step of a region that draws its order, inside a fence. -/
theorem stepIn_append_own {F : Fence} {n : Nat} {P : Program} {w : World} {ops : Array Oper} {o : Oper} {a : Act} {K : Act → World → Prop} {Q : Exit → Act → World → Prop} {E : Prop}
    (hg : o.guard = none) (s x : Operand) (t : TypeId) (hop : o.op = Op.call { callee := Callee.builtin Builtin.append, args := #[s, x], argTypes := #[t, t] })
    (base : Nat) (e : TypeId) (i : TypeInfo) (z : Value) (size bytes : Nat) (h1 : P.underlying t = some (.slice e)) (h2 : P.info? e = some i) (h3 : i.zero = some z) (h4 : i.size = size) (h5 : i.bytes = bytes) (h6 : z.cells.size = size) (h7 : 0 < size)
    (v : Value) (k : Nat) (xs : List Value) (hs : a.eval s = v) (hown : w.ownsRow base e size v k xs) (ad : Addr) (m c : Nat) (news : List Value) (hx : a.eval x = .slice (some ad) m c) (hn : news.length = m * size)
    (hc : ∀ j u, news[j]? = some u → w.cell? (ad.add j) = some u) (h1c : ∀ u ∈ news, u.oneCell' = true) (b1 : k + m ≤ maxLen) (b2 : (k + m) * bytes ≤ 140737488355328) (b3 : base ≤ w.heap.size)
    (hK : ∀ v' w', w'.ownsRow base e size v' (k + m) (xs ++ news) → w.grownBy w' v.ownBlock → (v' = .slice none 0 0 ↔ v = .slice none 0 0 ∧ m = 0) → K (a.put o.dst v') w') :
    if Region.wanted o (yielded ops a.tmps) = true then Oper.wpIn F n P o a w K Q else E := by
  have hw : Region.wanted o (yielded ops a.tmps) = true := by simp [Region.wanted, hg]
  rw [if_pos hw]
  obtain ⟨v', w', hrun, r1, r2, r3⟩ := run_append_own (P := P) w base t o.type e i z size bytes h1 h2 h3 h4 h5 h6 h7 v k xs hown ad m c news hn hc h1c b1 b2 b3
  unfold Oper.wpIn
  refine ⟨?_, ?_⟩
  · simp [Oper.about, hop, resolve, Target.leads, Sem.run_pure]
  · rw [Oper.semAt_plain F _ _ (by rw [hop]; intro c hc'; cases hc')]
    simp [execOp, hop, resolve, invoke, builtin, hs, hx, hrun, Result.andThen]
    exact hK v' w' r1 r2 r3

theorem infoStr : (Tryd.prog.info? 9).map (fun i => (i.zero, i.size, i.bytes)) = some (some (.string ByteArray.empty), 1, 16) := by kernel_rfl

/-- The texts of categories. -/
abbrev decStr (k : Nat) : ByteArray := ⟨(Lib.decDigits k).toArray⟩
def strs (zs : List Nat) : List Value := zs.map fun k => Value.string (decStr k)
theorem strs_snoc (zs : List Nat) (x : Nat) : strs (zs ++ [x]) = strs zs ++ [.string (decStr x)] := by simp [strs]
/-- The bytes of the text of a label with these categories. -/
def textOf (zs : List Nat) : List UInt8 := [123] ++ Lib.join (zs.map Lib.decDigits) [44] ++ [125]

theorem textOf_str (zs : List Nat) : (({ data := #[123] } : ByteArray) ++ strOf (Lib.join (zs.map Lib.decDigits) [44]) ++ { data := #[125] }) = strOf (textOf zs) := by
  apply ByteArray.ext
  simp [strOf, textOf]

theorem textOf_length (zs : List Nat) (h : ∀ k ∈ zs, k < 64) : (Lib.join (zs.map Lib.decDigits) [44]).length ≤ 3 * zs.length := by
  have hd : ∀ k : Nat, k < 64 → (Lib.decDigits k).length ≤ 2 := fun k hk => by
    by_cases h1 : k < 10
    · rw [Lib.decDigits_one h1]; simp
    · rw [Lib.decDigits_two h1 (by omega)]; simp
  cases zs with
  | nil => simp [Lib.join_nil]
  | cons x r =>
    rw [List.map_cons, Lib.join_cons, List.length_append, Lib.joinTail_length]
    have hx := hd x (h x (by simp))
    have hr : ∀ l : List Nat, (∀ k ∈ l, k < 64) → Lib.lens (l.map Lib.decDigits) ≤ 2 * l.length := fun l => by
      induction l with
      | nil => intro _; simp [Lib.lens]
      | cons y t ih =>
        intro hl
        have h1 := hd y (hl y (by simp))
        have h2 := ih (fun k hk => hl k (by simp [hk]))
        simp [Lib.lens] at h2 ⊢
        omega
    have := hr r (fun k hk => h k (by simp [hk]))
    simp only [List.length_map, List.length_cons, List.length_nil] at this ⊢
    omega

theorem join_own (v : Value) (zs : List Nat) (w : World) (base n : Nat) (h : w.ownsRow base 9 1 v n (strs zs)) (hz : ∀ k ∈ zs, k < 64) (hN : zs.length ≤ 64) :
    Calls Tryd.prog 50 #[v, .string { data := #[44] }] w fun e w' => e = .returned (.string (strOf (Lib.join (zs.map Lib.decDigits) [44]))) ∧ Below w.heap.size w w' := by
  have hl : zs.length = n := by have := h.1; simp [strs] at this; omega
  have hjl := textOf_length zs hz
  rcases h.2 with ⟨rfl, h0⟩ | ⟨g, cap, cur, rfl, _, hgb, hnc, hcm, _⟩
  · subst h0
    obtain rfl : zs = [] := List.eq_nil_of_length_eq_zero hl
    exact (Tryd.strings_Join_none none 0 _ w).mono fun e w' ⟨he, hw⟩ => ⟨he, hw ▸ Below.refl _ _⟩
  · have hj := Tryd.strings_Join g 0 cap (zs.map decStr) { data := #[44] } w (fun j x hx => by
      have := h.cells (g := g) rfl j (.string x) (by simp [strs] at hx ⊢; obtain ⟨y, h1, h2⟩ := hx; exact ⟨y, h1, by rw [← h2]⟩)
      rw [← this]
      unfold Addr.add
      split
      · rename_i h0; subst h0; rfl
      · rfl) (Array.getElem?_eq_some_iff.1 hgb).1 (by simp; omega) (by simp; omega) (by
        have e : (zs.map decStr).map (·.data.toList) = zs.map Lib.decDigits := by simp
        rw [e]; exact Nat.le_trans hjl (by omega))
    have e : (zs.map decStr).map (·.data.toList) = zs.map Lib.decDigits := by simp
    rw [e] at hj
    rw [← hl]
    simpa [strOf] using hj

set_option maxRecDepth 100000 in
set_option maxHeartbeats 2000000 in
theorem text_any (r : Nat) (w : World) (hr : r < 18446744073709551616) (hg : 0 < w.heap.size) (hT : TabAt 0 Lib.deBruijn64tab w) :
    Calls Tryd.prog 37 #[.int .u64 (r : Int)] w fun e w' => e = .returned (.string (strOf (textOf (cats r)))) ∧ Below w.heap.size w w' := by
  obtain ⟨i0, hi, hz0, hz1, hz2⟩ := info_parts infoStr
  refine (callsIn_wide (n := 3)).1 ?_
  refine callsIn_of_wp_marks Tryd.func37 rfl trivial ?_ rfl
  simp only [Tryd.ntmps37, List.size_toArray, List.length_cons, List.length_nil, Nat.reduceAdd, Nat.reduceSub, Array.replicate_succ, Array.replicate_zero, List.push_toArray, List.append_toArray, List.nil_append, List.cons_append]
  gi_wp2_with (refine ⟨trivial, ?_⟩; gi_at_call 46; refine (callsIn_wide.2 (categories_any _ _)).mono ?_; rintro e w' ⟨rfl, rfl⟩)
  have hz64 := cats_le r
  have bO := Boxed.new w 62 (.slice none 0 0)
  have bN := box_new (w.alloc (.cells #[.slice none 0 0] 62)) (.int .u64 (r : Int)) 22
  rw [World.size_alloc] at bN
  have hB0 : Below w.heap.size w ((w.alloc (.cells #[.slice none 0 0] 62)).alloc (.cells #[.int .u64 (r : Int)] 22)) := ((Below.refl _ w).alloc (Nat.le_refl _) _).alloc (by simp) _
  refine wpIn_rangeFunc_ownG rfl (by decide) (gf := 56) (lb := #[.pointer (some ⟨w.heap.size + 1, 0, none⟩)]) rfl trivial (enters_of Tryd.func56 (by kernel_rfl) rfl)
    (cats_stops 2 (by decide) (w.heap.size + 1) w.heap.size r _ hr hg (by simp; omega) (by simp) bN.1 (tabAt_below hT hB0 hg)) belowK_t (belowK_b (by simp; omega)) (Below.refl _ _) (fun _ => rfl)
    (fun pre W => (∃ v, Boxed W w.heap.size 62 v ∧ W.ownsRow w.heap.size 9 1 v pre.length (strs (pre.map (·.val))) ∧ True) ∧ Below w.heap.size w W)
    (fun _ _ _ => False)
    (OwnFrom.and (Own.from (holdsRow_own w.heap.size w.heap.size 62 9 1 (fun pre : List (Fin 64) => pre.length) (fun pre => strs (pre.map (·.val))) (fun _ _ => True)) _) (ownFrom_below (Nat.le_refl _) (by simp; omega)))
    (fun _ _ _ _ _ hs _ _ => hs)
    ⟨⟨_, bO.alloc _, World.ownsRow_nil _ _ _ _, trivial⟩, hB0⟩
    (fun x => { tmps := #[.int .u64 (r : Int), undef, .string { data := #[] }, .pointer (some ⟨w.heap.size, 0, none⟩), .int .i64 (x.val : Int), .int .u64 (r : Int), .func (.func 56) #[] #[.pointer (some ⟨w.heap.size + 1, 0, none⟩)], .int .i64 (x.val : Int), undef, undef, undef, undef, undef, undef, undef, undef, undef], defers := [] }) ?assign ?body ?done ?stop
  case assign =>
    intro l x W K hK
    gi_wp2
    exact hK
  case body =>
    rintro l pre x W ⟨⟨v, hv, hrow, hpre⟩, hB⟩ hlt
    have hmx : Tryd.prog.follows .mixedOrders = true := by kernel_rfl
    have hc := hv.cell
    gi_wp2
    refine wpIn_region_any hmx ?_
    change wpAnyIn _ _ _ _ _ _ _ _ _ (World.drew _)
    have hx64 := x.isLt
    obtain ⟨us, hus⟩ : ∃ us, us = strs (pre.map fun c : Fin 64 => c.val) := ⟨_, rfl⟩
    have hus' : us ++ [.string (decStr x.val)] = strs ((pre ++ [x]).map fun c : Fin 64 => c.val) := by rw [List.map_append, List.map_cons, List.map_nil, strs_snoc, hus]
    rw [← hus] at hrow
    clear hus
    have hpast : ∀ o : Obj, (W.alloc o).cell? ⟨w.heap.size, 0, none⟩ = some v := fun o => cell_past o hc
    refine wpAnyIn_ready (rs := [0, 1]) (by kernel_rfl) (by simp) ?_
    refine AllReadyIn.cons rfl (fun K hK => ?_) ?_
    · go_simp
      refine hK _ _ ?_
      clear hK K
      refine wpAnyIn_ready (rs := [1]) (by kernel_rfl) (by simp) ?_
      refine AllReadyIn.cons rfl (fun K hK => ?_) ?_
      · go_simp
        refine hK _ _ ?_
        clear hK K
        refine wpAnyIn_ready (rs := [2]) (by kernel_rfl) (by simp) ?_
        refine AllReadyIn.cons rfl (fun K hK => ?_) ?_
        · go_simp
          refine ⟨trivial, ?_⟩
          refine (CallsIn.inRound l (callsIn_wide.2 (Tryd.strconv_Itoa_small x.val (by omega) _))).mono ?_
          rintro e w1 ⟨rfl, rfl⟩
          refine hK _ _ ?_
          clear hK K
          refine wpAnyIn_ready (rs := [3]) (by kernel_rfl) (by simp) ?_
          refine AllReadyIn.cons rfl (fun K hK => ?_) ?_
          · go_simp
            refine hK _ _ ?_
            clear hK K
            refine wpAnyIn_ready (rs := [4]) (by kernel_rfl) (by simp) ?_
            refine AllReadyIn.cons rfl (fun K hK => ?_) AllReadyIn.nil
            refine stepIn_append_own rfl _ _ 62 rfl w.heap.size 9 i0 (.string ByteArray.empty) 1 16 Tryd.underlying62 hi hz0 hz1 hz2 rfl (by decide) v pre.length us rfl (show (W.alloc (.cells #[.string (decStr x.val)] 9)).drew.ownsRow w.heap.size 9 1 v pre.length us from hrow.alloc _) ⟨W.heap.size, 0, none⟩ 1 1 [.string (decStr x.val)] rfl rfl (cell_one_new _ _ _) (by simp [Value.oneCell']) (by unfold maxLen; omega) (by omega) (by have := hB.size; simp; omega) ?_
            intro v' w1 hown' hgrow0 _
            refine hK _ _ ?_
            clear hK K
            have hgrow : (W.alloc (.cells #[.string (decStr x.val)] 9)).grownBy w1 v.ownBlock := ⟨hgrow0.os, hgrow0.tape, hgrow0.output, hgrow0.size, hgrow0.block⟩
            obtain ⟨g', cap', rfl⟩ := ownsRow_succ hown'
            obtain ⟨hv1, hv2, hr2, hk2, hb2⟩ := hv.appended (by decide) hrow hB.size (Nat.le_refl _) hown' hgrow
            have hc1 := hv1.cell
            have hf1 := hv1.frozen
            refine wpAnyIn_ready (rs := [5]) (by kernel_rfl) (by simp) ?_
            refine AllReadyIn.cons rfl (fun K hK => ?_) AllReadyIn.nil
            go_simp
            refine hK _ _ ?_
            clear hK K
            refine wpAnyIn_done (by kernel_rfl) ?_ _
            exact ⟨hk2.from _, hb2, ⟨_, hv2, by rw [← hus', List.length_append]; exact hr2, trivial⟩, hB.trans hb2⟩
          exact AllReadyIn.nil
        exact AllReadyIn.nil
      exact AllReadyIn.nil
    refine AllReadyIn.cons rfl (fun K hK => ?_) ?_
    · go_simp
      refine hK _ _ ?_
      clear hK K
      refine wpAnyIn_ready (rs := [0, 2]) (by kernel_rfl) (by simp) ?_
      refine AllReadyIn.cons rfl (fun K hK => ?_) ?_
      · go_simp
        refine hK _ _ ?_
        clear hK K
        refine wpAnyIn_ready (rs := [2]) (by kernel_rfl) (by simp) ?_
        refine AllReadyIn.cons rfl (fun K hK => ?_) ?_
        · go_simp
          refine ⟨trivial, ?_⟩
          refine (CallsIn.inRound l (callsIn_wide.2 (Tryd.strconv_Itoa_small x.val (by omega) _))).mono ?_
          rintro e w1 ⟨rfl, rfl⟩
          refine hK _ _ ?_
          clear hK K
          refine wpAnyIn_ready (rs := [3]) (by kernel_rfl) (by simp) ?_
          refine AllReadyIn.cons rfl (fun K hK => ?_) ?_
          · go_simp
            refine hK _ _ ?_
            clear hK K
            refine wpAnyIn_ready (rs := [4]) (by kernel_rfl) (by simp) ?_
            refine AllReadyIn.cons rfl (fun K hK => ?_) AllReadyIn.nil
            refine stepIn_append_own rfl _ _ 62 rfl w.heap.size 9 i0 (.string ByteArray.empty) 1 16 Tryd.underlying62 hi hz0 hz1 hz2 rfl (by decide) v pre.length us rfl (show (W.alloc (.cells #[.string (decStr x.val)] 9)).drew.ownsRow w.heap.size 9 1 v pre.length us from hrow.alloc _) ⟨W.heap.size, 0, none⟩ 1 1 [.string (decStr x.val)] rfl rfl (cell_one_new _ _ _) (by simp [Value.oneCell']) (by unfold maxLen; omega) (by omega) (by have := hB.size; simp; omega) ?_
            intro v' w1 hown' hgrow0 _
            refine hK _ _ ?_
            clear hK K
            have hgrow : (W.alloc (.cells #[.string (decStr x.val)] 9)).grownBy w1 v.ownBlock := ⟨hgrow0.os, hgrow0.tape, hgrow0.output, hgrow0.size, hgrow0.block⟩
            obtain ⟨g', cap', rfl⟩ := ownsRow_succ hown'
            obtain ⟨hv1, hv2, hr2, hk2, hb2⟩ := hv.appended (by decide) hrow hB.size (Nat.le_refl _) hown' hgrow
            have hc1 := hv1.cell
            have hf1 := hv1.frozen
            refine wpAnyIn_ready (rs := [5]) (by kernel_rfl) (by simp) ?_
            refine AllReadyIn.cons rfl (fun K hK => ?_) AllReadyIn.nil
            go_simp
            refine hK _ _ ?_
            clear hK K
            refine wpAnyIn_done (by kernel_rfl) ?_ _
            exact ⟨hk2.from _, hb2, ⟨_, hv2, by rw [← hus', List.length_append]; exact hr2, trivial⟩, hB.trans hb2⟩
          exact AllReadyIn.nil
        exact AllReadyIn.nil
      refine AllReadyIn.cons rfl (fun K hK => ?_) ?_
      · go_simp
        refine ⟨trivial, ?_⟩
        refine (CallsIn.inRound l (callsIn_wide.2 (Tryd.strconv_Itoa_small x.val (by omega) _))).mono ?_
        rintro e w1 ⟨rfl, rfl⟩
        refine hK _ _ ?_
        clear hK K
        refine wpAnyIn_ready (rs := [0, 3]) (by kernel_rfl) (by simp) ?_
        refine AllReadyIn.cons rfl (fun K hK => ?_) ?_
        · go_simp
          refine hK _ _ ?_
          clear hK K
          refine wpAnyIn_ready (rs := [3]) (by kernel_rfl) (by simp) ?_
          refine AllReadyIn.cons rfl (fun K hK => ?_) ?_
          · go_simp
            refine hK _ _ ?_
            clear hK K
            refine wpAnyIn_ready (rs := [4]) (by kernel_rfl) (by simp) ?_
            refine AllReadyIn.cons rfl (fun K hK => ?_) AllReadyIn.nil
            refine stepIn_append_own rfl _ _ 62 rfl w.heap.size 9 i0 (.string ByteArray.empty) 1 16 Tryd.underlying62 hi hz0 hz1 hz2 rfl (by decide) v pre.length us rfl (show (W.alloc (.cells #[.string (decStr x.val)] 9)).drew.ownsRow w.heap.size 9 1 v pre.length us from hrow.alloc _) ⟨W.heap.size, 0, none⟩ 1 1 [.string (decStr x.val)] rfl rfl (cell_one_new _ _ _) (by simp [Value.oneCell']) (by unfold maxLen; omega) (by omega) (by have := hB.size; simp; omega) ?_
            intro v' w1 hown' hgrow0 _
            refine hK _ _ ?_
            clear hK K
            have hgrow : (W.alloc (.cells #[.string (decStr x.val)] 9)).grownBy w1 v.ownBlock := ⟨hgrow0.os, hgrow0.tape, hgrow0.output, hgrow0.size, hgrow0.block⟩
            obtain ⟨g', cap', rfl⟩ := ownsRow_succ hown'
            obtain ⟨hv1, hv2, hr2, hk2, hb2⟩ := hv.appended (by decide) hrow hB.size (Nat.le_refl _) hown' hgrow
            have hc1 := hv1.cell
            have hf1 := hv1.frozen
            refine wpAnyIn_ready (rs := [5]) (by kernel_rfl) (by simp) ?_
            refine AllReadyIn.cons rfl (fun K hK => ?_) AllReadyIn.nil
            go_simp
            refine hK _ _ ?_
            clear hK K
            refine wpAnyIn_done (by kernel_rfl) ?_ _
            exact ⟨hk2.from _, hb2, ⟨_, hv2, by rw [← hus', List.length_append]; exact hr2, trivial⟩, hB.trans hb2⟩
          exact AllReadyIn.nil
        refine AllReadyIn.cons rfl (fun K hK => ?_) ?_
        · go_simp
          refine hK _ _ ?_
          clear hK K
          refine wpAnyIn_ready (rs := [0]) (by kernel_rfl) (by simp) ?_
          refine AllReadyIn.cons rfl (fun K hK => ?_) ?_
          · go_simp
            refine hK _ _ ?_
            clear hK K
            refine wpAnyIn_ready (rs := [4]) (by kernel_rfl) (by simp) ?_
            refine AllReadyIn.cons rfl (fun K hK => ?_) AllReadyIn.nil
            refine stepIn_append_own rfl _ _ 62 rfl w.heap.size 9 i0 (.string ByteArray.empty) 1 16 Tryd.underlying62 hi hz0 hz1 hz2 rfl (by decide) v pre.length us rfl (show (W.alloc (.cells #[.string (decStr x.val)] 9)).drew.ownsRow w.heap.size 9 1 v pre.length us from hrow.alloc _) ⟨W.heap.size, 0, none⟩ 1 1 [.string (decStr x.val)] rfl rfl (cell_one_new _ _ _) (by simp [Value.oneCell']) (by unfold maxLen; omega) (by omega) (by have := hB.size; simp; omega) ?_
            intro v' w1 hown' hgrow0 _
            refine hK _ _ ?_
            clear hK K
            have hgrow : (W.alloc (.cells #[.string (decStr x.val)] 9)).grownBy w1 v.ownBlock := ⟨hgrow0.os, hgrow0.tape, hgrow0.output, hgrow0.size, hgrow0.block⟩
            obtain ⟨g', cap', rfl⟩ := ownsRow_succ hown'
            obtain ⟨hv1, hv2, hr2, hk2, hb2⟩ := hv.appended (by decide) hrow hB.size (Nat.le_refl _) hown' hgrow
            have hc1 := hv1.cell
            have hf1 := hv1.frozen
            refine wpAnyIn_ready (rs := [5]) (by kernel_rfl) (by simp) ?_
            refine AllReadyIn.cons rfl (fun K hK => ?_) AllReadyIn.nil
            go_simp
            refine hK _ _ ?_
            clear hK K
            refine wpAnyIn_done (by kernel_rfl) ?_ _
            exact ⟨hk2.from _, hb2, ⟨_, hv2, by rw [← hus', List.length_append]; exact hr2, trivial⟩, hB.trans hb2⟩
          exact AllReadyIn.nil
        exact AllReadyIn.nil
      exact AllReadyIn.nil
    exact AllReadyIn.nil
  case done =>
    rintro D ys W hD hys ⟨⟨v, hv, hrow, _⟩, hB⟩ hK
    rw [hys] at hrow
    clear hys
    have hc := hv.cell
    have hsz : (strOf (Lib.join ((cats r).map Lib.decDigits) [44])).size ≤ 192 := by
      have h1 := textOf_length (cats r) (fun k hk => cats_lt hk)
      have h2 : (strOf (Lib.join ((cats r).map Lib.decDigits) [44])).size = (Lib.join ((cats r).map Lib.decDigits) [44]).length := by simp [strOf, ByteArray.size]
      omega
    gi_wp2_with (refine ⟨trivial, ?_⟩; gi_at_call 50; refine (callsIn_wide.2 (join_own v (cats r) W _ _ hrow (fun k hk => cats_lt hk) hz64)).mono ?_; rintro e w1 ⟨rfl, hb1⟩)
    have hDlt : D < W.heap.size := (Array.getElem?_eq_some_iff.1 hK).1
    have hK1 : w1.heap[D]? = some (.deferred (some [])) := (hb1.block D hDlt).trans hK
    refine ⟨by simp, .inl ⟨_, _, rfl, run_takeDeferred hK1, ?_⟩⟩
    exact ⟨_, results_tmp rfl _ _ _, by rw [← textOf_str]; rfl, (hB.trans (hb1.mono hB.size)).trans (belowK_b (w := w) (Nat.le_refl _) w1 D _ _ (by simp at hD; omega) hK1 rfl rfl)⟩
  case stop =>
    rintro D c pre W _ _ h _
    exact h.elim
end Go.Proofs.YtnlioeheogkkiaaDoor
