/- Walk: the program's iterator over a node and all nodes in it. -/
import Derived.Test.YtfibmdbplfghcaaGreatDoorProg
import Derived.Test.YtfibmdbplfghcaaGreatDoorAstMem
import Derived.Test.YtfibmdbplfghcaaGreatDoorRangeSeq
import Derived.Deep.LoopGhost
namespace Go.Proofs.YtfibmdbplfghcaaGreatDoor
open Go.RowKit Go.Shelf
open A8
attribute [local go_sem] Oper.semAt_some

/-- Where no depth is asked of a fence, a round wants none. -/
theorem round_deep {F : Fence} (hd : F.depth = none) {m m' : Nat} {P : Program} {l : Nat} {f : FuncId} {tmps : Array Value} {assign body : Code} {w : World} {R : Ending → World → Prop}
    (h : RoundIn F m P l f tmps assign body w R) : RoundIn F m' P l f tmps assign body w R := ⟨h.1, fun c cs _ => h.2 c cs (fun d h => by rw [hd] at h; cases h)⟩
theorem yield_deep {F : Fence} (hd : F.depth = none) {m : Nat} (m' : Nat) {P : Program} {l : Nat} {args : Array Value} {W : World} {R : Ending → World → Prop} (h : YieldAt F m P l args W R) : YieldAt F m' P l args W R := by
  obtain ⟨fn, tmps, assign, body, hy, hR⟩ := h
  exact ⟨fn, tmps, assign, body, hy, round_deep hd hR⟩
/-- What is kept from one round to the next: all below m, and all blocks of nodes. -/
def KeepN (m : Nat) (W W' : World) : Prop :=
  W.heap.size ≤ W'.heap.size ∧ ∀ k, k < W.heap.size → (k < m ∨ ∃ cs fr, W.heap[k]? = some (.cells cs 28 fr)) → W'.heap[k]? = W.heap[k]?
theorem KeepN.refl (m : Nat) (W : World) : KeepN m W W := ⟨Nat.le_refl _, fun _ _ _ => rfl⟩
theorem KeepN.trans {m : Nat} {A B C : World} (h : KeepN m A B) (k : KeepN m B C) : KeepN m A C := by
  refine ⟨Nat.le_trans h.1 k.1, fun i hi hx => ?_⟩
  have e := h.2 i hi hx
  refine (k.2 i (Nat.lt_of_lt_of_le hi h.1) ?_).trans e
  rcases hx with hx | ⟨cs, fr, ho⟩
  · exact .inl hx
  · exact .inr ⟨cs, fr, e.trans ho⟩
theorem KeepN.put {m S : Nat} (hm : m ≤ S) (W : World) (l : Nat) (o o' : Obj) (hl : S ≤ l) (ho : W.heap[l]? = some o) (hc : o.isCells = false) : KeepN m W (W.putObj l o') := by
  refine ⟨by simp, fun k hk hx => World.putObj_heap_other ?_⟩
  rcases hx with hx | ⟨cs, fr, h⟩
  · omega
  · rintro rfl
    rw [ho] at h
    cases h
    cases hc
theorem KeepN.of {m : Nat} (W W' : World) (h : Below W.heap.size W W') : KeepN m W W' := ⟨h.size, fun k hk _ => h.block k hk⟩
theorem KeepN.same {m : Nat} {w0 W W' : World} (hs : SameB m w0 W) (hm : m ≤ w0.heap.size) (h : KeepN m W W') : SameB m w0 W' :=
  ⟨Nat.le_trans hs.1 h.1, fun k hk => (h.2 k (by have := hs.1; omega) (.inl hk)).trans (hs.2 k hk)⟩
theorem KeepN.blk {m b : Nat} {W W' : World} {us : List Value} {cs : Array Value} {fr : Nat × Nat} (h : KeepN m W W') (hB : Blk W b us) (ho : W.heap[b]? = some (.cells cs 28 fr)) : Blk W' b us := by
  have e := h.2 b hB.lt (.inr ⟨cs, fr, ho⟩)
  exact ⟨Nat.lt_of_lt_of_le hB.lt h.1, fun i v hv => (World.cell?_of_block (w := W) (a := ⟨b, i, none⟩) e).trans (hB.cell i v hv), fun i v hv => (World.frozen?_of_block (w := W) (a := ⟨b, i, none⟩) e).trans (hB.fr i v hv)⟩
theorem abideJ {β : Type} {B : Nat} {J : β → World → Prop} (h : AbidesFrom B J) {s : β} {W W' : World} (hJ : J s W) (hb : Below W.heap.size W W') : J s W' :=
  h s W W' none hJ (grown_below _ _ hb) (fun r e => by cases e)
/-- What a visit of T gives. -/
def VisP (m : Nat) (J Jx : List (Nat × Tr) → World → Prop) (pre xs : List (Nat × Tr)) (W : World) (e : Ending) (W' : World) : Prop :=
  (e = .returned (.bool true) ∧ J (pre ++ xs) W' ∧ KeepN m W W') ∨ (e = .returned (.bool false) ∧ ∃ q, q <+: xs ∧ Jx (pre ++ q) W')
set_option maxRecDepth 100000 in
set_option maxHeartbeats 4000000 in
theorem visit_in (l B : Nat) (w0 : World) (L : List (Nat × Tr)) (J Jx : List (Nat × Tr) → World → Prop) (hJa : AbidesFrom B J)
    (hY : ∀ k pre x W1, J pre W1 → pre ++ [x] <+: L → YieldAt Fence.wide k Tryz.prog l #[.int .i64 (x.1 : Int), .agg x.2.row.toArray] W1 fun e W' =>
      (e = .returned (.bool true) ∧ J (pre ++ [x]) W' ∧ KeepN w0.heap.size W1 W') ∨ (e = .returned (.bool false) ∧ Jx (pre ++ [x]) W')) (T : Tr) :
    TrW w0 T → ∀ (n d : Nat) (pre : List (Nat × Tr)) (W : World), SameB w0.heap.size w0 W → J pre W → pre ++ preT d T <+: L → d + (subsT T).length ≤ 1000000 →
      CallsIn Fence.wide n Tryz.prog 92 #[.int .i64 (d : Int), .agg T.row.toArray, .func (.yield l) #[] #[]] W (VisP w0.heap.size J Jx pre (preT d T) W) := by
  refine Tr.ind (P := fun T => TrW w0 T → ∀ (n d : Nat) (pre : List (Nat × Tr)) (W : World), SameB w0.heap.size w0 W → J pre W → pre ++ preT d T <+: L → d + (subsT T).length ≤ 1000000 →
      CallsIn Fence.wide n Tryz.prog 92 #[.int .i64 (d : Int), .agg T.row.toArray, .func (.yield l) #[] #[]] W (VisP w0.heap.size J Jx pre (preT d T) W)) ?_ T
  intro k mn mx g sk ks ih hT n d pre W hS hJ hpre hd
  obtain ⟨X, hX⟩ : ∃ X, X = (d, Tr.mk k mn mx g sk ks) := ⟨_, rfl⟩
  have hpe : preT d (.mk k mn mx g sk ks) = X :: preTL (d + 1) ks := by rw [hX, preT]
  have hsub : (subsT (.mk k mn mx g sk ks)).length = (subsTL ks).length + 1 := by rw [subsT, List.length_cons]
  have hone := hT.one
  have hkid := fun t (ht : t ∈ ks) => hT.kid ht
  obtain ⟨-, -, hsl⟩ := hone
  obtain ⟨A, cap, hsk, hlen, hels⟩ := sl_els (by decide) row_len hsl
  rw [hpe] at hpre ⊢
  rw [hsub] at hd
  simp only [Tr.row]
  obtain ⟨kd, hkd⟩ : ∃ x, x = g.a.kd := ⟨_, rfl⟩
  obtain ⟨bd, hbd⟩ : ∃ x, x = g.a.bd := ⟨_, rfl⟩
  obtain ⟨bn, hbn⟩ : ∃ x, x = g.a.bn := ⟨_, rfl⟩
  obtain ⟨sc, hsc⟩ : ∃ x, x = g.sc := ⟨_, rfl⟩
  obtain ⟨nm, hnm⟩ : ∃ x, x = strOf g.a.nm := ⟨_, rfl⟩
  have hrow : X.2.row = [.int .i64 k, .int .i64 mn, .int .i64 mx, .int .i64 kd, .bool bd, .int .u64 bn, sc, .string nm, sk] := by rw [hX, hkd, hbd, hbn, hsc, hnm]; rfl
  have hx1 : X.1 = d := by rw [hX]
  obtain ⟨W1, hW1⟩ : ∃ W1, W1 = W.alloc (.cells #[.int .i64 k, .int .i64 mn, .int .i64 mx, .int .i64 kd, .bool bd, .int .u64 bn, sc, .string nm, sk] 28) := ⟨_, rfl⟩
  have hb1 : Below W.heap.size W W1 := hW1 ▸ b1 _ _
  have hBk : Blk W1 W.heap.size [.int .i64 k, .int .i64 mn, .int .i64 mx, .int .i64 kd, .bool bd, .int .u64 bn, sc, .string nm, sk] := hW1 ▸ Blk.new W _ _
  have hBo : W1.heap[W.heap.size]? = some (.cells #[.int .i64 k, .int .i64 mn, .int .i64 mx, .int .i64 kd, .bool bd, .int .u64 bn, sc, .string nm, sk] 28 (0, 0)) := hW1 ▸ World.alloc_heap_new W _
  have hY1 := (hY (n - 1) pre X W1 (abideJ hJa hJ hb1) ((List.prefix_append_right_inj pre).2 (by simp) |>.trans hpre)).mono (R' := fun e W2 =>
      (e = .returned (.bool true) ∧ J (pre ++ [X]) W2 ∧ KeepN w0.heap.size W W2 ∧ Blk W2 W.heap.size [.int .i64 k, .int .i64 mn, .int .i64 mx, .int .i64 kd, .bool bd, .int .u64 bn, sc, .string nm, sk]) ∨ (e = .returned (.bool false) ∧ Jx (pre ++ [X]) W2)) (fun e W2 h => h.elim
        (fun ⟨h1, h2, h3⟩ => .inl ⟨h1, h2, (KeepN.of _ _ hb1).trans h3, h3.blk hBk hBo⟩) .inr)
  rw [hrow, hx1] at hY1
  rw [← hkd, ← hbd, ← hbn, ← hsc, ← hnm]
  have HE := Lib.hid hels
  have HK := Lib.hid hkid
  have HI := Lib.hid ih
  have HP := Lib.hid hpre
  clear hels hkid ih hpre hpe hsub hT hsl hkd hbd hbn hsc hnm hrow hx1 hX hBk hBo
  subst hsk
  obtain ⟨fn, tmps, assign, body, hy, hR⟩ := hY1
  refine callsIn_of_wp Tryz.func92 rfl trivial ?_ rfl
  simp only [Tryz.ntmps92, List.size_toArray, List.length_cons, List.length_nil, Nat.reduceAdd, Nat.reduceSub, Array.replicate_succ, Array.replicate_zero, List.push_toArray, List.append_toArray, List.nil_append, List.cons_append]
  subst hW1
  gi_wp2
  refine ⟨(fun h => by cases h), ?_⟩
  refine hR.mono ?_
  clear hR hy
  rintro e W2 (⟨rfl, hJ2, hk2, hB2⟩ | ⟨rfl, hJx2⟩)
  · have c8 := hB2.cell 8 _ rfl
    clear hB2
    gi_wp2
    gi_loopw [17] (fun v wr => ∃ i : Nat, i ≤ ks.length ∧ v = .int .i64 (i : Int) ∧ KeepN w0.heap.size W wr ∧ J (pre ++ X :: preTL (d + 1) (ks.take i)) wr) (fun v _ => ks.length - (intOf v).toNat)
    case atStart => exact ⟨0, Nat.zero_le _, rfl, hk2, by simpa [preTL] using hJ2⟩
    case round =>
      obtain ⟨i, hi, rfl, hk, hJi⟩ := hrel
      by_cases hlt : i < ks.length
      · obtain ⟨a, rfl, ha, E⟩ := HE.out i hlt
        have hSr := hk.same hS (Nat.le_refl _)
        replace E := E.same hSr
        have h1 : (i : Int) < (ks.length : Int) := by omega
        have hwk : IntKind.i64.wrap ((i : Int) + 1) = (i : Int) + 1 := IntWalk.i64_in _ ⟨by omega, by omega⟩
        have hwd : IntKind.i64.wrap ((d : Int) + 1) = (d : Int) + 1 := IntWalk.i64_in _ ⟨by omega, by omega⟩
        have htk : preTL (d + 1) (ks.take (i + 1)) = preTL (d + 1) (ks.take i) ++ preT (d + 1) ks[i] := by
          rw [take_snoc ks i hlt, preTL_app]
          simp [preTL]
        have hsplit : preTL (d + 1) ks = preTL (d + 1) (ks.take i) ++ preT (d + 1) ks[i] ++ preTL (d + 1) (ks.drop (i + 1)) := by
          conv => lhs; rw [← List.take_append_drop i ks, List.drop_eq_getElem_cons hlt]
          rw [preTL_app, preTL, List.append_assoc]
        have hpi : (pre ++ X :: preTL (d + 1) (ks.take i)) ++ preT (d + 1) ks[i] <+: L := by
          refine List.IsPrefix.trans ?_ HP.out
          rw [hsplit]
          exact ⟨preTL (d + 1) (ks.drop (i + 1)), by simp⟩
        have hle : (subsT ks[i]).length ≤ (subsTL ks).length := by
          have h : subsTL ks = subsTL (ks.take i) ++ (subsT ks[i] ++ subsTL (ks.drop (i + 1))) := by
            conv => lhs; rw [← List.take_append_drop i ks, List.drop_eq_getElem_cons hlt]
            rw [subsTL_flat, subsTL_flat, subsTL_flat, List.flatMap_append, List.flatMap_cons]
          rw [h]
          simp only [List.length_append]
          omega
        have hrec := fun (W3 : World) (hb3 : Below wr.heap.size wr W3) => (HI.out ks[i] (List.getElem_mem hlt) (HK.out ks[i] (List.getElem_mem hlt)) (n - 1) (d + 1) (pre ++ X :: preTL (d + 1) (ks.take i)) W3 (KeepN.same hSr (Nat.le_refl _) (KeepN.of _ _ hb3)) (abideJ hJa hJi hb3) hpi (by omega)).mono (R' := fun e W' =>
            (e = .returned (.bool true) ∧ J (pre ++ X :: preTL (d + 1) (ks.take (i + 1))) W' ∧ KeepN w0.heap.size W W') ∨ (e = .returned (.bool false) ∧ ∃ q, q <+: X :: preTL (d + 1) ks ∧ Jx (pre ++ q) W')) (fun e W' h => h.elim
            (fun ⟨g1, g2, g3⟩ => .inl ⟨g1, by rw [htk]; simpa using g2, hk.trans ((KeepN.of _ _ hb3).trans g3)⟩)
            (fun ⟨g1, q, g2, g3⟩ => .inr ⟨g1, X :: preTL (d + 1) (ks.take i) ++ q, by
              obtain ⟨r, hr⟩ := g2
              refine ⟨r ++ preTL (d + 1) (ks.drop (i + 1)), ?_⟩
              rw [hsplit, ← hr]
              simp, by simpa using g3⟩))
        obtain ⟨t, ht⟩ : ∃ t, t = ks[i] := ⟨_, rfl⟩
        have hko := (HK.out ks[i] (List.getElem_mem hlt)).one
        rw [← ht] at E hrec hko
        clear htk hsplit hpi hle ht
        obtain ⟨k', mn', mx', ⟨ga, gc⟩, sk', ks'⟩ := t
        simp only [Tr.row] at E hrec
        obtain ⟨-, ⟨-, hgc⟩, hgk⟩ := hko
        obtain ⟨A1, cap1, hA1, -, -⟩ := sl_get (by decide) hgc
        obtain ⟨A2, cap2, rfl, -, -⟩ := sl_get (by decide) hgk
        simp only at hA1
        subst hA1
        have HR := Lib.hid hrec
        clear hrec hgc hgk
        have e0 := E.at0 _ rfl
        have e1 := E.at1 1 _ (by decide) rfl
        have e2 := E.at1 2 _ (by decide) rfl
        have e3 := E.at1 3 _ (by decide) rfl
        have e4 := E.at1 4 _ (by decide) rfl
        have e5 := E.at1 5 _ (by decide) rfl
        have e6 := E.at1 6 _ (by decide) rfl
        have e7 := E.at1 7 _ (by decide) rfl
        have e8 := E.at1 8 _ (by decide) rfl
        clear E c8
        gi_wp2_with (refine ⟨trivial, (fun h => by cases h), ?_⟩; refine (HR.out _ (b1 _ _)).mono ?_; rintro e W3 (⟨rfl, hJ3, hk3⟩ | ⟨rfl, q, hq, hx3⟩))
        · go_roundw
          case rel => exact ⟨i + 1, by omega, by rfl, hk3, hJ3⟩
          case measure => simp [intOf]; omega
        · go_ret
          exact .inr ⟨rfl, q, hq, hx3⟩
      · have h1 : ¬ (i : Int) < (ks.length : Int) := by omega
        have hall := Lib.hid (show ks.take i = ks by rw [List.take_of_length_le (by omega)])
        clear HE HK HI
        gi_wp2
        go_ret
        rw [hall.out] at hJi
        exact .inl ⟨rfl, hJi, hk⟩
  · gi_wp2
    go_ret
    exact .inr ⟨rfl, [X], ⟨preTL (d + 1) ks, rfl⟩, hJx2⟩
/-- The iterator itself, and what makes it. -/
theorem nodes_any (T : Tr) (w : World) :
    Calls Tryz.prog 49 #[.agg T.row.toArray] w fun e w' => e = .returned (.func (.func 91) #[] #[.pointer (some ⟨w.heap.size, 0, none⟩)]) ∧ w' = w.alloc (.cells T.row.toArray 28) := by
  obtain ⟨k, mn, mx, g, sk, ks⟩ := T
  simp only [Tr.row]
  go_enter Tryz.func49, Tryz.ntmps49
  go_wp2
  go_ret
  exact ⟨rfl, rfl⟩
set_option maxRecDepth 100000 in
set_option maxHeartbeats 4000000 in
/-- What the iterator owes a range over it. -/
theorem nodes_stops (n : Nat) (w0 : World) (T : Tr) (hT : TrW w0 T) (hlen : (subsT T).length ≤ 999999) (b : Nat) (w : World) (hS : SameB w0.heap.size w0 w) (hB : Blk w b T.row) :
    SeqL Fence.wide n Tryz.prog 91 #[.pointer (some ⟨b, 0, none⟩)] (fun x : Nat × Tr => #[.int .i64 (x.1 : Int), .agg x.2.row.toArray]) (KeepN w0.heap.size) (preT 1 T) w := by
  intro l J Jx W hW hJa _ hY h0
  have hv := visit_in l W.heap.size w0 (preT 1 T) J Jx hJa (fun k pre x W1 h1 h2 => yield_deep rfl k (hY pre x W1 h1 h2)) T hT (n - 1) 1 [] W (hS.trans (SameB.of (hW.mono hS.1))) h0 (by simp) (by omega)
  have hB2 := hB.later hW
  unfold VisP at hv
  simp only [List.nil_append] at hv
  obtain ⟨k, mn, mx, g, sk, ks⟩ := T
  simp only [Tr.row] at hv hB2
  have c0 := hB2.cell 0 _ rfl
  have c1 := hB2.cell 1 _ rfl
  have c2 := hB2.cell 2 _ rfl
  have c3 := hB2.cell 3 _ rfl
  have c4 := hB2.cell 4 _ rfl
  have c5 := hB2.cell 5 _ rfl
  have c6 := hB2.cell 6 _ rfl
  have c7 := hB2.cell 7 _ rfl
  have c8 := hB2.cell 8 _ rfl
  clear hB hB2 hT hS hY hJa
  refine callsIn_of_wp Tryz.func91 rfl trivial ?_ rfl
  simp only [Tryz.ntmps91, List.size_toArray, List.length_cons, List.length_nil, Nat.reduceAdd, Nat.reduceSub, Array.replicate_succ, Array.replicate_zero, List.push_toArray, List.append_toArray, List.nil_append, List.cons_append]
  gi_wp2_with (refine ⟨trivial, (fun h => by cases h), ?_⟩; refine hv.mono ?_; rintro e W3 (⟨rfl, hJ3, hk3⟩ | ⟨rfl, q, hq, hx3⟩))
  · go_end0
    exact ⟨⟨_, rfl⟩, .inl hJ3⟩
  · go_end0
    exact ⟨⟨_, rfl⟩, .inr ⟨q, hq, hx3⟩⟩
end Go.Proofs.YtfibmdbplfghcaaGreatDoor
