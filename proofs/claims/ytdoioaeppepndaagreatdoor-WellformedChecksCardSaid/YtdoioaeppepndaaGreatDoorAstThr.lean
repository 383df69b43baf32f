/- Package ast: nodes, what is sound. -/
import Derived.Test.YtdoioaeppepndaaGreatDoorProg
import Derived.Test.YtdoioaeppepndaaGreatDoorAstSm
import Derived.Test.YtdoioaeppepndaaGreatDoorRg
import Derived.Deep.LoopGhost
import Derived.Test.YtdoioaeppepndaaGreatDoorAstJ
import Derived.Test.YtdoioaeppepndaaGreatDoorAstOne
namespace Go.Proofs.YtdoioaeppepndaaGreatDoor
open Go.RowKit Go.Shelf
open A8
attribute [local go_sem] Oper.semAt_some

/-- Where no depth is asked of a fence, a round wants none. -/
theorem round_deep {F : Fence} (hd : F.depth = none) {m m' : Nat} {P : Program} {l : Nat} {f : FuncId} {tmps : Array Value} {assign body : Code} {w : World} {R : Ending → World → Prop}
    (h : RoundIn F m P l f tmps assign body w R) : RoundIn F m' P l f tmps assign body w R := ⟨h.1, fun c cs _ => h.2 c cs (fun d h => by rw [hd] at h; cases h)⟩
theorem yield_deep {F : Fence} (hd : F.depth = none) {m : Nat} (m' : Nat) {P : Program} {l : Nat} {args : Array Value} {W : World} {R : Ending → World → Prop} (h : YieldAt F m P l args W R) : YieldAt F m' P l args W R := by
  obtain ⟨fn, tmps, assign, body, hy, hR⟩ := h
  exact ⟨fn, tmps, assign, body, hy, round_deep hd hR⟩
/-- What is kept from one round to the next: all below m, and all blocks of nodes. -/
def KeepN (m : Nat) (W W' : World) : Prop :=
  W.heap.size ≤ W'.heap.size ∧ ∀ k, k < W.heap.size → (k < m ∨ ∃ cs fr, W.heap[k]? = some (.cells cs 31 fr)) → W'.heap[k]? = W.heap[k]?
theorem KeepN.refl (m : Nat) (W : World) : KeepN m W W := ⟨Nat.le_refl _, fun _ _ _ => rfl⟩
theorem KeepN.trans {m : Nat} {A B C : World} (h : KeepN m A B) (k : KeepN m B C) : KeepN m A C := by
  refine ⟨Nat.le_trans h.1 k.1, fun i hi hx => ?_⟩
  have e := h.2 i hi hx
  refine (k.2 i (Nat.lt_of_lt_of_le hi h.1) ?_).trans e
  rcases hx with hx | ⟨cs, fr, ho⟩
  · exact .inl hx
  · exact .inr ⟨cs, fr, e.trans ho⟩
theorem KeepN.put {m S : Nat} (hm : m ≤ S) (W : World) (l : Nat) (o o' : Obj) (hl : S ≤ l) (ho : W.heap[l]? = some o) (hc : o.isCells = false) : KeepN m W (W.putObj l o') := by
  refine ⟨by simp, fun k hk hx => World.putObj_heap_other ?_⟩
  rcases hx with hx | ⟨cs, fr, h⟩
  · omega
  · rintro rfl
    rw [ho] at h
    cases h
    cases hc
theorem KeepN.of {m : Nat} (W W' : World) (h : Below W.heap.size W W') : KeepN m W W' := ⟨h.size, fun k hk _ => h.block k hk⟩
theorem KeepN.same {m : Nat} {w0 W W' : World} (hs : SameB m w0 W) (hm : m ≤ w0.heap.size) (h : KeepN m W W') : SameB m w0 W' :=
  ⟨Nat.le_trans hs.1 h.1, fun k hk => (h.2 k (by have := hs.1; omega) (.inl hk)).trans (hs.2 k hk)⟩
theorem KeepN.blk {m b : Nat} {W W' : World} {us : List Value} {cs : Array Value} {fr : Nat × Nat} (h : KeepN m W W') (hB : Blk W b us) (ho : W.heap[b]? = some (.cells cs 31 fr)) : Blk W' b us := by
  have e := h.2 b hB.lt (.inr ⟨cs, fr, ho⟩)
  exact ⟨Nat.lt_of_lt_of_le hB.lt h.1, fun i v hv => (World.cell?_of_block (w := W) (a := ⟨b, i, none⟩) e).trans (hB.cell i v hv), fun i v hv => (World.frozen?_of_block (w := W) (a := ⟨b, i, none⟩) e).trans (hB.fr i v hv)⟩
theorem abideJ {β : Type} {B : Nat} {J : β → World → Prop} (h : AbidesFrom B J) {s : β} {W W' : World} (hJ : J s W) (hb : Below W.heap.size W W') : J s W' :=
  h s W W' none hJ (grown_below _ _ hb) (fun r e => by cases e)
/-- What a visit of T gives. -/
def VisP (m : Nat) (J Jx : List (Nat × Tr) → World → Prop) (pre xs : List (Nat × Tr)) (W : World) (e : Ending) (W' : World) : Prop :=
  (e = .returned (.bool true) ∧ J (pre ++ xs) W' ∧ KeepN m W W') ∨ (e = .returned (.bool false) ∧ ∃ q, q <+: xs ∧ Jx (pre ++ q) W')
set_option maxRecDepth 100000 in
set_option maxHeartbeats 4000000 in
theorem visit_in (l B : Nat) (w0 : World) (L : List (Nat × Tr)) (J Jx : List (Nat × Tr) → World → Prop) (hJa : AbidesFrom B J)
    (hY : ∀ k pre x W1, J pre W1 → pre ++ [x] <+: L → YieldAt Fence.wide k Tryz.prog l #[.int .i64 (x.1 : Int), .agg x.2.row.toArray] W1 fun e W' =>
      (e = .returned (.bool true) ∧ J (pre ++ [x]) W' ∧ KeepN w0.heap.size W1 W') ∨ (e = .returned (.bool false) ∧ Jx (pre ++ [x]) W')) (T : Tr) :
    TrW w0 T → ∀ (n d : Nat) (pre : List (Nat × Tr)) (W : World), SameB w0.heap.size w0 W → J pre W → pre ++ preT d T <+: L → d + (subsT T).length ≤ 1000000 →
      CallsIn Fence.wide n Tryz.prog 139 #[.int .i64 (d : Int), .agg T.row.toArray, .func (.yield l) #[] #[]] W (VisP w0.heap.size J Jx pre (preT d T) W) := by
  refine Tr.ind (P := fun T => TrW w0 T → ∀ (n d : Nat) (pre : List (Nat × Tr)) (W : World), SameB w0.heap.size w0 W → J pre W → pre ++ preT d T <+: L → d + (subsT T).length ≤ 1000000 →
      CallsIn Fence.wide n Tryz.prog 139 #[.int .i64 (d : Int), .agg T.row.toArray, .func (.yield l) #[] #[]] W (VisP w0.heap.size J Jx pre (preT d T) W)) ?_ T
  intro k mn mx g sk ks ih hT n d pre W hS hJ hpre hd
  obtain ⟨X, hX⟩ : ∃ X, X = (d, Tr.mk k mn mx g sk ks) := ⟨_, rfl⟩
  have hpe : preT d (.mk k mn mx g sk ks) = X :: preTL (d + 1) ks := by rw [hX, preT]
  have hsub : (subsT (.mk k mn mx g sk ks)).length = (subsTL ks).length + 1 := by rw [subsT, List.length_cons]
  have hone := hT.one
  have hkid := fun t (ht : t ∈ ks) => hT.kid ht
  obtain ⟨-, -, hsl⟩ := hone
  obtain ⟨A, cap, hsk, hlen, hels⟩ := sl_els (by decide) row_len hsl
  rw [hpe] at hpre ⊢
  rw [hsub] at hd
  simp only [Tr.row]
  obtain ⟨kd, hkd⟩ : ∃ x, x = g.a.kd := ⟨_, rfl⟩
  obtain ⟨bd, hbd⟩ : ∃ x, x = g.a.bd := ⟨_, rfl⟩
  obtain ⟨bn, hbn⟩ : ∃ x, x = g.a.bn := ⟨_, rfl⟩
  obtain ⟨sc, hsc⟩ : ∃ x, x = g.sc := ⟨_, rfl⟩
  obtain ⟨nm, hnm⟩ : ∃ x, x = strOf g.a.nm := ⟨_, rfl⟩
  have hrow : X.2.row = [.int .i64 k, .int .i64 mn, .int .i64 mx, .int .i64 kd, .bool bd, .int .u64 bn, sc, .string nm, sk] := by rw [hX, hkd, hbd, hbn, hsc, hnm]; rfl
  have hx1 : X.1 = d := by rw [hX]
  obtain ⟨W1, hW1⟩ : ∃ W1, W1 = W.alloc (.cells #[.int .i64 k, .int .i64 mn, .int .i64 mx, .int .i64 kd, .bool bd, .int .u64 bn, sc, .string nm, sk] 31) := ⟨_, rfl⟩
  have hb1 : Below W.heap.size W W1 := hW1 ▸ b1 _ _
  have hBk : Blk W1 W.heap.size [.int .i64 k, .int .i64 mn, .int .i64 mx, .int .i64 kd, .bool bd, .int .u64 bn, sc, .string nm, sk] := hW1 ▸ Blk.new W _ _
  have hBo : W1.heap[W.heap.size]? = some (.cells #[.int .i64 k, .int .i64 mn, .int .i64 mx, .int .i64 kd, .bool bd, .int .u64 bn, sc, .string nm, sk] 31 (0, 0)) := hW1 ▸ World.alloc_heap_new W _
  have hY1 := (hY (n - 1) pre X W1 (abideJ hJa hJ hb1) ((List.prefix_append_right_inj pre).2 (by simp) |>.trans hpre)).mono (R' := fun e W2 =>
      (e = .returned (.bool true) ∧ J (pre ++ [X]) W2 ∧ KeepN w0.heap.size W W2 ∧ Blk W2 W.heap.size [.int .i64 k, .int .i64 mn, .int .i64 mx, .int .i64 kd, .bool bd, .int .u64 bn, sc, .string nm, sk]) ∨ (e = .returned (.bool false) ∧ Jx (pre ++ [X]) W2)) (fun e W2 h => h.elim
        (fun ⟨h1, h2, h3⟩ => .inl ⟨h1, h2, (KeepN.of _ _ hb1).trans h3, h3.blk hBk hBo⟩) .inr)
  rw [hrow, hx1] at hY1
  rw [← hkd, ← hbd, ← hbn, ← hsc, ← hnm]
  have HE := Lib.hid hels
  have HK := Lib.hid hkid
  have HI := Lib.hid ih
  have HP := Lib.hid hpre
  clear hels hkid ih hpre hpe hsub hT hsl hkd hbd hbn hsc hnm hrow hx1 hX hBk hBo
  subst hsk
  obtain ⟨fn, tmps, assign, body, hy, hR⟩ := hY1
  refine callsIn_of_wp Tryz.func139 rfl trivial ?_ rfl
  simp only [Tryz.ntmps139, List.size_toArray, List.length_cons, List.length_nil, Nat.reduceAdd, Nat.reduceSub, Array.replicate_succ, Array.replicate_zero, List.push_toArray, List.append_toArray, List.nil_append, List.cons_append]
  subst hW1
  gi_wp2
  refine ⟨(fun h => by cases h), ?_⟩
  refine hR.mono ?_
  clear hR hy
  rintro e W2 (⟨rfl, hJ2, hk2, hB2⟩ | ⟨rfl, hJx2⟩)
  · have c8 := hB2.cell 8 _ rfl
    clear hB2
    gi_wp2
    gi_loopw [17] (fun v wr => ∃ i : Nat, i ≤ ks.length ∧ v = .int .i64 (i : Int) ∧ KeepN w0.heap.size W wr ∧ J (pre ++ X :: preTL (d + 1) (ks.take i)) wr) (fun v _ => ks.length - (intOf v).toNat)
    case atStart => exact ⟨0, Nat.zero_le _, rfl, hk2, by simpa [preTL] using hJ2⟩
    case round =>
      obtain ⟨i, hi, rfl, hk, hJi⟩ := hrel
      by_cases hlt : i < ks.length
      · obtain ⟨a, rfl, ha, E⟩ := HE.out i hlt
        have hSr := hk.same hS (Nat.le_refl _)
        replace E := E.same hSr
        have h1 : (i : Int) < (ks.length : Int) := by omega
        have hwk : IntKind.i64.wrap ((i : Int) + 1) = (i : Int) + 1 := IntWalk.i64_in _ ⟨by omega, by omega⟩
        have hwd : IntKind.i64.wrap ((d : Int) + 1) = (d : Int) + 1 := IntWalk.i64_in _ ⟨by omega, by omega⟩
        have htk : preTL (d + 1) (ks.take (i + 1)) = preTL (d + 1) (ks.take i) ++ preT (d + 1) ks[i] := by
          rw [take_snoc ks i hlt, preTL_app]
          simp [preTL]
        have hsplit : preTL (d + 1) ks = preTL (d + 1) (ks.take i) ++ preT (d + 1) ks[i] ++ preTL (d + 1) (ks.drop (i + 1)) := by
          conv => lhs; rw [← List.take_append_drop i ks, List.drop_eq_getElem_cons hlt]
          rw [preTL_app, preTL, List.append_assoc]
        have hpi : (pre ++ X :: preTL (d + 1) (ks.take i)) ++ preT (d + 1) ks[i] <+: L := by
          refine List.IsPrefix.trans ?_ HP.out
          rw [hsplit]
          exact ⟨preTL (d + 1) (ks.drop (i + 1)), by simp⟩
        have hle : (subsT ks[i]).length ≤ (subsTL ks).length := by
          have h : subsTL ks = subsTL (ks.take i) ++ (subsT ks[i] ++ subsTL (ks.drop (i + 1))) := by
            conv => lhs; rw [← List.take_append_drop i ks, List.drop_eq_getElem_cons hlt]
            rw [subsTL_flat, subsTL_flat, subsTL_flat, List.flatMap_append, List.flatMap_cons]
          rw [h]
          simp only [List.length_append]
          omega
        have hrec := fun (W3 : World) (hb3 : Below wr.heap.size wr W3) => (HI.out ks[i] (List.getElem_mem hlt) (HK.out ks[i] (List.getElem_mem hlt)) (n - 1) (d + 1) (pre ++ X :: preTL (d + 1) (ks.take i)) W3 (KeepN.same hSr (Nat.le_refl _) (KeepN.of _ _ hb3)) (abideJ hJa hJi hb3) hpi (by omega)).mono (R' := fun e W' =>
            (e = .returned (.bool true) ∧ J (pre ++ X :: preTL (d + 1) (ks.take (i + 1))) W' ∧ KeepN w0.heap.size W W') ∨ (e = .returned (.bool false) ∧ ∃ q, q <+: X :: preTL (d + 1) ks ∧ Jx (pre ++ q) W')) (fun e W' h => h.elim
            (fun ⟨g1, g2, g3⟩ => .inl ⟨g1, by rw [htk]; simpa using g2, hk.trans ((KeepN.of _ _ hb3).trans g3)⟩)
            (fun ⟨g1, q, g2, g3⟩ => .inr ⟨g1, X :: preTL (d + 1) (ks.take i) ++ q, by
              obtain ⟨r, hr⟩ := g2
              refine ⟨r ++ preTL (d + 1) (ks.drop (i + 1)), ?_⟩
              rw [hsplit, ← hr]
              simp, by simpa using g3⟩))
        obtain ⟨t, ht⟩ : ∃ t, t = ks[i] := ⟨_, rfl⟩
        have hko := (HK.out ks[i] (List.getElem_mem hlt)).one
        rw [← ht] at E hrec hko
        clear htk hsplit hpi hle ht
        obtain ⟨k', mn', mx', ⟨ga, gc⟩, sk', ks'⟩ := t
        simp only [Tr.row] at E hrec
        obtain ⟨-, ⟨-, hgc⟩, hgk⟩ := hko
        obtain ⟨A1, cap1, hA1, -, -⟩ := sl_get (by decide) hgc
        obtain ⟨A2, cap2, rfl, -, -⟩ := sl_get (by decide) hgk
        simp only at hA1
        subst hA1
        have HR := Lib.hid hrec
        clear hrec hgc hgk
        have e0 := E.at0 _ rfl
        have e1 := E.at1 1 _ (by decide) rfl
        have e2 := E.at1 2 _ (by decide) rfl
        have e3 := E.at1 3 _ (by decide) rfl
        have e4 := E.at1 4 _ (by decide) rfl
        have e5 := E.at1 5 _ (by decide) rfl
        have e6 := E.at1 6 _ (by decide) rfl
        have e7 := E.at1 7 _ (by decide) rfl
        have e8 := E.at1 8 _ (by decide) rfl
        clear E c8
        gi_wp2_with (refine ⟨trivial, (fun h => by cases h), ?_⟩; refine (HR.out _ (b1 _ _)).mono ?_; rintro e W3 (⟨rfl, hJ3, hk3⟩ | ⟨rfl, q, hq, hx3⟩))
        · go_roundw
          case rel => exact ⟨i + 1, by omega, by rfl, hk3, hJ3⟩
          case measure => simp [intOf]; omega
        · go_ret
          exact .inr ⟨rfl, q, hq, hx3⟩
      · have h1 : ¬ (i : Int) < (ks.length : Int) := by omega
        have hall := Lib.hid (show ks.take i = ks by rw [List.take_of_length_le (by omega)])
        clear HE HK HI
        gi_wp2
        go_ret
        rw [hall.out] at hJi
        exact .inl ⟨rfl, hJi, hk⟩
  · gi_wp2
    go_ret
    exact .inr ⟨rfl, [X], ⟨preTL (d + 1) ks, rfl⟩, hJx2⟩
/-- The iterator itself, and what makes it. -/
theorem nodes_any (T : Tr) (w : World) :
    Calls Tryz.prog 124 #[.agg T.row.toArray] w fun e w' => e = .returned (.func (.func 138) #[] #[.pointer (some ⟨w.heap.size, 0, none⟩)]) ∧ w' = w.alloc (.cells T.row.toArray 31) := by
  obtain ⟨k, mn, mx, g, sk, ks⟩ := T
  simp only [Tr.row]
  go_enter Tryz.func124, Tryz.ntmps124
  go_wp2
  go_ret
  exact ⟨rfl, rfl⟩
set_option maxRecDepth 100000 in
set_option maxHeartbeats 4000000 in
/-- What the iterator owes a range over it. -/
theorem nodes_stops (n : Nat) (w0 : World) (T : Tr) (hT : TrW w0 T) (hlen : (subsT T).length ≤ 999999) (b : Nat) (w : World) (hS : SameB w0.heap.size w0 w) (hB : Blk w b T.row) :
    SeqL Fence.wide n Tryz.prog 138 #[.pointer (some ⟨b, 0, none⟩)] (fun x : Nat × Tr => #[.int .i64 (x.1 : Int), .agg x.2.row.toArray]) (KeepN w0.heap.size) (preT 1 T) w := by
  intro l J Jx W hW hJa _ hY h0
  have hv := visit_in l W.heap.size w0 (preT 1 T) J Jx hJa (fun k pre x W1 h1 h2 => yield_deep rfl k (hY pre x W1 h1 h2)) T hT (n - 1) 1 [] W (hS.trans (SameB.of (hW.mono hS.1))) h0 (by simp) (by omega)
  have hB2 := hB.later hW
  unfold VisP at hv
  simp only [List.nil_append] at hv
  obtain ⟨k, mn, mx, g, sk, ks⟩ := T
  simp only [Tr.row] at hv hB2
  have c0 := hB2.cell 0 _ rfl
  have c1 := hB2.cell 1 _ rfl
  have c2 := hB2.cell 2 _ rfl
  have c3 := hB2.cell 3 _ rfl
  have c4 := hB2.cell 4 _ rfl
  have c5 := hB2.cell 5 _ rfl
  have c6 := hB2.cell 6 _ rfl
  have c7 := hB2.cell 7 _ rfl
  have c8 := hB2.cell 8 _ rfl
  clear hB hB2 hT hS hY hJa
  refine callsIn_of_wp Tryz.func138 rfl trivial ?_ rfl
  simp only [Tryz.ntmps138, List.size_toArray, List.length_cons, List.length_nil, Nat.reduceAdd, Nat.reduceSub, Array.replicate_succ, Array.replicate_zero, List.push_toArray, List.append_toArray, List.nil_append, List.cons_append]
  gi_wp2_with (refine ⟨trivial, (fun h => by cases h), ?_⟩; refine hv.mono ?_; rintro e W3 (⟨rfl, hJ3, hk3⟩ | ⟨rfl, q, hq, hx3⟩))
  · go_end0
    exact ⟨⟨_, rfl⟩, .inl hJ3⟩
  · go_end0
    exact ⟨⟨_, rfl⟩, .inr ⟨q, hq, hx3⟩⟩
end Go.Proofs.YtdoioaeppepndaaGreatDoor
namespace Go.Proofs.YtdoioaeppepndaaGreatDoor
open Go.RowKit Go.Shelf
open A8 Tk7
attribute [local go_sem] Oper.semAt_some

/-- Whether a node that was yielded is sound if its kids are. -/
def soX (x : Nat × Tr) : Bool := decide (x.1 ≤ 200) && nodeB x.2.nd.kind x.2.mn x.2.mx x.2.nd.atom x.2.nd.kids.length
theorem sound_pre (T : Tr) : ∀ d, (preT d T).all soX = soundN d T.nd := by
  refine Tr.ind (P := fun T => ∀ d, (preT d T).all soX = soundN d T.nd) (fun k mn mx g sk ks ih d => ?_) T
  have h : ∀ l : List Tr, (∀ t ∈ l, ∀ d, (preT d t).all soX = soundN d t.nd) → ∀ d, (preTL d l).all soX = soundL d (ndL l) := fun l => by
    induction l with
    | nil => intro _ _; rfl
    | cons t ts iht =>
      intro hl d
      rw [preTL, List.all_append, ndL, soundL, hl t (by simp) d, iht (fun u hu => hl u (by simp [hu])) d]
  rw [preT, List.all_cons, Tr.nd, soundN, h ks ih (d + 1)]
  congr 1
/-- What stands between two rounds. -/
structure SI (w : World) (pre : List (Nat × Tr)) (W : World) : Prop where
  ok : pre.all soX = true
  out : Blk W (w.heap.size + 1) [.int .i64 0]
  sg : SG W
  bel : Below w.heap.size w W
  big : w.heap.size + 3 ≤ W.heap.size
structure SX (w : World) (pre : List (Nat × Tr)) (W : World) : Prop where
  no : pre.all soX = false
  out : Blk W (w.heap.size + 1) [.int .i64 3]
  bel : Below w.heap.size w W
theorem sg_grown {W W' : World} {row : Option Nat} (h : SG W) (hg : W.grownBy W' row) (hr : ∀ j, row = some j → ∃ o : Obj, W.heap[j]? = some o ∧ o.isCells = false) : SG W' := by
  refine h.grown hg fun e => ?_
  obtain ⟨o, ho, hc⟩ := hr _ e.symm
  obtain ⟨o', ho', hc'⟩ := cells_of_cell (h.2 0 _ rfl)
  rw [ho] at ho'
  cases ho'
  rw [hc] at hc'
  cases hc'
theorem SI.grown {w W W' : World} {pre : List (Nat × Tr)} {row : Option Nat} (h : SI w pre W) (hg : W.grownBy W' row) (hr : ∀ j, row = some j → w.heap.size + 3 ≤ j ∧ ∃ o : Obj, W.heap[j]? = some o ∧ o.isCells = false) : SI w pre W' :=
  ⟨h.ok, blk_noncells (by simp) h.out hg fun j e => (hr j e).2, sg_grown h.sg hg fun j e => (hr j e).2, h.bel.grown hg h.bel.size fun j e => by have := (hr j e).1; omega, Nat.le_trans h.big hg.size⟩
theorem SX.grown {w W W' : World} {pre : List (Nat × Tr)} {row : Option Nat} (h : SX w pre W) (hg : W.grownBy W' row) (hr : ∀ j, row = some j → w.heap.size + 3 ≤ j ∧ ∃ o : Obj, W.heap[j]? = some o ∧ o.isCells = false) : SX w pre W' :=
  ⟨h.no, blk_noncells (by simp) h.out hg fun j e => (hr j e).2, h.bel.grown hg h.bel.size fun j e => by have := (hr j e).1; omega⟩
theorem others_below {W W' : World} (h : Below W.heap.size W W') : KeepsOthers W W' := KeepsOthers.of_grownBy (grown_below _ _ h) (fun j o e => by cases e)
/-- How the values of a round lie. -/
def SA (w : World) (R : Value) (x : Nat × Tr) (act : Act) (W : World) : Prop :=
  ∃ b, w.heap.size + 3 ≤ b ∧ act = { tmps := #[R, .pointer (some ⟨w.heap.size, 0, none⟩), .pointer (some ⟨w.heap.size + 1, 0, none⟩), .int .i64 (x.1 : Int), .pointer (some ⟨b, 0, none⟩), R, .func (.func 138) #[] #[.pointer (some ⟨w.heap.size + 1 + 1, 0, none⟩)], .int .i64 (x.1 : Int), .agg x.2.row.toArray, undef, undef, undef, undef, undef, undef, undef], defers := [] } ∧ Blk W b x.2.row
set_option maxRecDepth 100000 in
set_option maxHeartbeats 8000000 in
theorem sound_any (T : Tr) (w : World) (hT : TrW w T) (hlen : (subsT T).length ≤ 999999) (hG : SG w) :
    Calls Tryz.prog 123 #[.agg T.row.toArray] w fun e w' => e = .returned (.int .i64 (soundE T.nd)) ∧ Below w.heap.size w w' := by
  have hsp := sound_pre T 1
  have hnd := fun w => nodes_any T w
  have hst := fun (b : Nat) (W : World) (hS : SameB w.heap.size w W) (hB : Blk W b T.row) => nodes_stops 2 w T hT hlen b W hS hB
  have hL := Lib.hid hT
  obtain ⟨L, hLL⟩ : ∃ L, L = preT 1 T := ⟨_, rfl⟩
  have hmem : ∀ x ∈ L, TrW w x.2 := fun x hx => by
    intro u hu
    refine hT u ?_
    rw [hLL] at hx
    have h1 := preT_mem hx
    exact subs_trans h1 hu
  have HE := Lib.hid (show soundE T.nd = if L.all soX = true then 0 else 3 by rw [hLL, hsp]; rfl)
  rw [← hLL] at hst
  clear hsp hT hlen hLL
  obtain ⟨k, mn, mx, ⟨⟨kd, bd, bn, cs, nm⟩, sc⟩, sk, ks⟩ := T
  replace hst : ∀ (b : Nat) (W : World), SameB w.heap.size w W → Blk W b [.int .i64 k, .int .i64 mn, .int .i64 mx, .int .i64 kd, .bool bd, .int .u64 bn, sc, .string (strOf nm), sk] → SeqL Fence.wide 2 Tryz.prog 138 #[.pointer (some ⟨b, 0, none⟩)] (fun x : Nat × Tr => #[.int .i64 (x.1 : Int), .agg x.2.row.toArray]) (KeepN w.heap.size) L W := hst
  simp only [Tr.row] at hnd ⊢
  refine (callsIn_wide (n := 3)).1 ?_
  refine callsIn_of_wp_marks Tryz.func123 rfl trivial ?_ rfl
  simp only [Tryz.ntmps123, List.size_toArray, List.length_cons, List.length_nil, Nat.reduceAdd, Nat.reduceSub, Array.replicate_succ, Array.replicate_zero, List.push_toArray, List.append_toArray, List.nil_append, List.cons_append]
  gi_wp2_with (refine ⟨trivial, ?_⟩; gi_at_call 124; refine (callsIn_wide.2 (hnd _)).mono ?_; rintro e w' ⟨rfl, rfl⟩)
  obtain ⟨W0, hW0⟩ : ∃ W0, W0 = ((w.alloc (.cells #[.int .i64 k, .int .i64 mn, .int .i64 mx, .int .i64 kd, .bool bd, .int .u64 bn, sc, .string (strOf nm), sk] 31)).alloc (.cells #[.int .i64 0] 23)).alloc (.cells #[.int .i64 k, .int .i64 mn, .int .i64 mx, .int .i64 kd, .bool bd, .int .u64 bn, sc, .string (strOf nm), sk] 31) := ⟨_, rfl⟩
  rw [← hW0]
  have hb0 : Below w.heap.size w W0 := hW0 ▸ b3 w _ _ _
  have hsz : W0.heap.size = w.heap.size + 3 := by rw [hW0]; simp
  have hK0 : Blk W0 (w.heap.size + 1) [.int .i64 0] := by rw [hW0]; exact (Blk.is (us := [.int .i64 0]) _ (by simp)).alloc _
  have hK1 : Blk W0 (w.heap.size + 1 + 1) [.int .i64 k, .int .i64 mn, .int .i64 mx, .int .i64 kd, .bool bd, .int .u64 bn, sc, .string (strOf nm), sk] := by rw [hW0]; exact Blk.is (us := [.int .i64 k, .int .i64 mn, .int .i64 mx, .int .i64 kd, .bool bd, .int .u64 bn, sc, .string (strOf nm), sk]) _ (by simp)
  clear hW0
  refine wpIn_range_list rfl (by decide) (gf := 138) (lb := #[.pointer (some ⟨w.heap.size + 1 + 1, 0, none⟩)]) rfl trivial (enters_of Tryz.func138 (by kernel_rfl) rfl)
    (hst (w.heap.size + 1 + 1) W0 (SameB.of hb0) hK1)
    (fun h k => KeepN.trans h k) (KeepN.put (by omega)) (fun W W' h => KeepN.of W W' h) (Below.refl _ _) (fun _ => rfl)
    (fun pre W => SI w pre W) (fun pre W => SX w pre W)
    ?hI ?hIx ?h0 (SA w (.agg #[.int .i64 k, .int .i64 mn, .int .i64 mx, .int .i64 kd, .bool bd, .int .u64 bn, sc, .string (strOf nm), sk])) ?hA ?assign ?body ?done ?stop
  case hI =>
    intro s A B row h hg hr
    exact h.grown hg fun j e => by have := hr j e; rw [hsz] at this; exact this
  case hIx =>
    intro s A B row h hg hr
    exact h.grown hg fun j e => by have := hr j e; rw [hsz] at this; exact this
  case h0 => exact ⟨rfl, hK0, hG.later hb0, hb0, by omega⟩
  case hA =>
    rintro x act s A B row ⟨b, h1, h2, h3⟩ hg hr
    exact ⟨b, h1, h2, blk_noncells (by cases x.2; simp [Tr.row]) h3 hg fun j e => (hr j e).2⟩
  case assign =>
    intro l pre x W K hp hW hK
    have ho := (hmem x (hp.subset (by simp))).one
    rw [hsz] at hW
    obtain ⟨d, k', mn', mx', ⟨⟨kd', bd', bn', cs', nm'⟩, sc'⟩, sk', ks'⟩ := x
    obtain ⟨-, ⟨-, h1⟩, h2⟩ := ho
    simp only at h1
    obtain ⟨A1, c1, rfl, -, -⟩ := sl_get (by decide) h1
    obtain ⟨A2, c2, rfl, -, -⟩ := sl_get (by decide) h2
    unfold SA at hK
    simp only [Tr.row] at hK ⊢
    clear h1 h2 hst hnd hL hmem
    gi_wp2
    exact hK _ _ ⟨W.heap.size, by omega, rfl, Blk.new _ _ _⟩ (b1 _ _)
  case body =>
    rintro l pre x act W hp h ⟨b, hb3, rfl, hB⟩
    have ho := (hmem x (hp.subset (by simp))).one
    have hn := isNode_any x.2 W (ho.same (SameB.of h.bel)) h.sg
    have hok : soX x = (decide (x.1 ≤ 200) && nodeB x.2.nd.kind x.2.mn x.2.mx x.2.nd.atom x.2.nd.kids.length) := rfl
    have hall : (pre ++ [x]).all soX = soX x := by rw [List.all_append, h.ok]; simp
    obtain ⟨q, hq⟩ : ∃ q, q = nodeB x.2.nd.kind x.2.mn x.2.mx x.2.nd.atom x.2.nd.kids.length := ⟨_, rfl⟩
    rw [← hq] at hok hn
    rw [hok] at hall
    obtain ⟨d, k', mn', mx', ⟨⟨kd', bd', bn', cs', nm'⟩, sc'⟩, sk', ks'⟩ := x
    obtain ⟨x, hx⟩ : ∃ x, x = (d, Tr.mk k' mn' mx' ⟨⟨kd', bd', bn', cs', nm'⟩, sc'⟩ sk' ks') := ⟨_, rfl⟩
    rw [← hx] at hall ⊢
    have H := Lib.hid h
    simp only [Tr.row] at hB hn ⊢
    have c0 := hB.cell 0 _ rfl
    have c1 := hB.cell 1 _ rfl
    have c2 := hB.cell 2 _ rfl
    have c3 := hB.cell 3 _ rfl
    have c4 := hB.cell 4 _ rfl
    have c5 := hB.cell 5 _ rfl
    have c6 := hB.cell 6 _ rfl
    have c7 := hB.cell 7 _ rfl
    have c8 := hB.cell 8 _ rfl
    have hx1 : x.1 = d := by rw [hx]
    rw [hx1] at hall
    have HA := Lib.hid hall
    simp only [hx1]
    have r1 := h.out.fr 0 _ rfl
    have r0 := h.out.cell 0 _ rfl
    clear hst hnd hL hmem hB h ho hok hall hq hx1
    have hbig := H.out.big
    by_cases hd : d ≤ 200
    · have hd' : ¬ (200 : Int) < (d : Int) := by omega
      rw [decide_eq_true hd, Bool.true_and] at HA
      cases q with
      | true =>
        clear hx r0 r1
        gi_wp2_with (refine ⟨trivial, ?_⟩; gi_at_call 137; refine (callsIn_wide.2 hn).mono ?_; rintro e W2 ⟨rfl, hb2⟩)
        exact ⟨others_below hb2, KeepN.of _ _ hb2, HA.out, H.out.out.later hb2, H.out.sg.later hb2, bstep H.out.bel hb2, Nat.le_trans H.out.big hb2.size⟩
      | false =>
        have hk2 : ∀ W2, Below W.heap.size W W2 → W2.frozen? ⟨w.heap.size + 1, 0, none⟩ = false ∧ W2.cell? ⟨w.heap.size + 1, 0, none⟩ = some (.int .i64 0) := fun W2 hb => ⟨(H.out.out.later hb).fr 0 _ rfl, (H.out.out.later hb).cell 0 _ rfl⟩
        clear hx r0 r1
        gi_wp2_with (refine ⟨trivial, ?_⟩; gi_at_call 137; refine (callsIn_wide.2 hn).mono ?_; rintro e W2 ⟨rfl, hb2⟩; obtain ⟨r1, r0⟩ := hk2 W2 hb2; clear hk2)
        exact ⟨(others_below hb2).trans (KeepsOthers.setCell _ _ _), HA.out, (H.out.out.later hb2).set 0 _, (bstep H.out.bel hb2).setCell (p := ⟨w.heap.size + 1, 0, none⟩) (by simp) _⟩
    · have hd' : (200 : Int) < (d : Int) := by omega
      rw [decide_eq_false hd, Bool.false_and] at HA
      clear hx hn
      gi_wp2
      refine ⟨trivial, ?_⟩
      gi_wp2
      exact ⟨KeepsOthers.setCell _ _ _, HA.out, H.out.out.set 0 _, H.out.bel.setCell (p := ⟨w.heap.size + 1, 0, none⟩) (by simp) _⟩
  case done =>
    rintro D W hD h hK
    have hDD : w.heap.size ≤ D := by omega
    have hE : soundE (Tr.nd (.mk k mn mx ⟨⟨kd, bd, bn, cs, nm⟩, sc⟩ sk ks)) = 0 := by rw [HE.out, if_pos h.ok]
    have HE2 := Lib.hid hE
    have r1 := h.out.fr 0 _ rfl
    have r0 := h.out.cell 0 _ rfl
    have H := Lib.hid h
    clear h hst hnd hL hmem hE
    gi_wp2
    have hKV := (KeepsOthers.setCell W ⟨w.heap.size + 1, 0, none⟩ (.int .i64 0)).same D _ hK rfl
    refine ⟨by simp, .inl ⟨_, _, rfl, run_takeDeferred hKV, ?_⟩⟩
    have hZ := (blk_put (o' := .deferred none) (by simp) (H.out.out.set 0 (.int .i64 0)) hKV rfl).cell 0 _ rfl
    refine ⟨.int .i64 0, ?_, by rw [HE2.out], below_put (H.out.bel.setCell (p := ⟨w.heap.size + 1, 0, none⟩) (by simp) _) hKV hDD⟩
    simp [results, Tryz.f123, go_sem, hZ]
  case stop =>
    rintro D pre W hD hp h hK
    have hDD : w.heap.size ≤ D := by omega
    have hE : soundE (Tr.nd (.mk k mn mx ⟨⟨kd, bd, bn, cs, nm⟩, sc⟩ sk ks)) = 3 := by
      rw [HE.out, if_neg ?_]
      intro hall
      obtain ⟨r, hr⟩ := hp
      rw [← hr, List.all_append, h.no] at hall
      cases hall
    have HE2 := Lib.hid hE
    have H := Lib.hid h
    clear h hst hnd hL hmem hE hp
    gi_wp2
    refine ⟨by simp, .inl ⟨_, _, rfl, run_takeDeferred hK, ?_⟩⟩
    have hZ := (blk_put (o' := .deferred none) (by simp) H.out.out hK rfl).cell 0 _ rfl
    refine ⟨.int .i64 3, ?_, by rw [HE2.out], below_put H.out.bel hK hDD⟩
    simp [results, Tryz.f123, go_sem, hZ]
end Go.Proofs.YtdoioaeppepndaaGreatDoor
namespace Go.Proofs.YtdoioaeppepndaaGreatDoor
open Go.RowKit
open A8 Tk7

/-- A query, and the slices that hold it. -/
structure GQ where
  t : Tr
  wi : Int
  sh : Value
  hv : List Hv
  se : Value
  em : List Ag
def GQ.qu (q : GQ) : Qu := ⟨q.t.nd, q.wi, q.hv, q.em⟩
def GQ.row (q : GQ) : List Value := q.t.row ++ [.int .u64 q.wi, q.sh, q.se]
structure QW (w : World) (q : GQ) : Prop where
  tr : TrW w q.t
  wi : 0 ≤ q.wi ∧ q.wi < 18446744073709551616
  hv : Sl w 4 q.hv.length q.sh (q.hv.flatMap hvC)
  em : Sl w 2 q.em.length q.se (q.em.flatMap agC)
  okh : ∀ h ∈ q.hv, okC h.cn ∧ okV h.ag.fn
  oke : ∀ a ∈ q.em, okV a.fn
theorem QW.later {w w' : World} {q : GQ} (h : QW w q) (hb : Below w.heap.size w w') : QW w' q := ⟨h.tr.later hb, h.wi, h.hv.later hb, h.em.later hb, h.okh, h.oke⟩

set_option maxRecDepth 100000 in
set_option maxHeartbeats 2000000 in
theorem check_s (k mn mx kd : Int) (bd : Bool) (bn : Int) (sc : Value) (nm : ByteArray) (sk : Value) (wi : Int) (sh se : Value) (w : World)
    (hS : ∀ w', Below w.heap.size w w' → Calls Tryz.prog 123 #[.agg #[.int .i64 k, .int .i64 mn, .int .i64 mx, .int .i64 kd, .bool bd, .int .u64 bn, sc, .string nm, sk]] w' fun e w'' => e = .returned (.int .i64 3) ∧ Below w'.heap.size w' w'') :
    Calls Tryz.prog 103 #[.agg #[.int .i64 k, .int .i64 mn, .int .i64 mx, .int .i64 kd, .bool bd, .int .u64 bn, sc, .string nm, sk, .int .u64 wi, sh, se]] w fun e w' => e = .returned (.int .i64 3) ∧ Below w.heap.size w w' := by
  have hbx : ∀ w1, Below (w.alloc (.cells #[.int .i64 k, .int .i64 mn, .int .i64 mx, .int .i64 kd, .bool bd, .int .u64 bn, sc, .string nm, sk, .int .u64 wi, sh, se] 35)).heap.size (w.alloc (.cells #[.int .i64 k, .int .i64 mn, .int .i64 mx, .int .i64 kd, .bool bd, .int .u64 bn, sc, .string nm, sk, .int .u64 wi, sh, se] 35)) w1 → Blk w1 w.heap.size [.int .i64 k, .int .i64 mn, .int .i64 mx, .int .i64 kd, .bool bd, .int .u64 bn, sc, .string nm, sk, .int .u64 wi, sh, se] := fun w1 hb => (Blk.new w [.int .i64 k, .int .i64 mn, .int .i64 mx, .int .i64 kd, .bool bd, .int .u64 bn, sc, .string nm, sk, .int .u64 wi, sh, se] 35).later hb
  go_enter Tryz.func103, Tryz.ntmps103
  go_wp2_with (first | (go_at_call 123; refine (hS _ (b1 _ _)).mono ?_; rintro e w3 ⟨rfl, hb3⟩; have HX := hbx _ hb3; have c9 := HX.cell 9 _ rfl; have c10 := HX.cell 10 _ rfl; have c11 := HX.cell 11 _ rfl; clear HX))
  go_ret
  exact ⟨rfl, bstep (b1 _ _) hb3⟩

set_option maxRecDepth 100000 in
set_option maxHeartbeats 2000000 in
theorem check_w (k mn mx kd : Int) (bd : Bool) (bn : Int) (sc : Value) (nm : ByteArray) (sk : Value) (wi : Int) (sh se : Value) (w : World)
    (hS : ∀ w', Below w.heap.size w w' → Calls Tryz.prog 123 #[.agg #[.int .i64 k, .int .i64 mn, .int .i64 mx, .int .i64 kd, .bool bd, .int .u64 bn, sc, .string nm, sk]] w' fun e w'' => e = .returned (.int .i64 0) ∧ Below w'.heap.size w' w'') (hw : 99999 < wi) :
    Calls Tryz.prog 103 #[.agg #[.int .i64 k, .int .i64 mn, .int .i64 mx, .int .i64 kd, .bool bd, .int .u64 bn, sc, .string nm, sk, .int .u64 wi, sh, se]] w fun e w' => e = .returned (.int .i64 3) ∧ Below w.heap.size w w' := by
  have hbx : ∀ w1, Below (w.alloc (.cells #[.int .i64 k, .int .i64 mn, .int .i64 mx, .int .i64 kd, .bool bd, .int .u64 bn, sc, .string nm, sk, .int .u64 wi, sh, se] 35)).heap.size (w.alloc (.cells #[.int .i64 k, .int .i64 mn, .int .i64 mx, .int .i64 kd, .bool bd, .int .u64 bn, sc, .string nm, sk, .int .u64 wi, sh, se] 35)) w1 → Blk w1 w.heap.size [.int .i64 k, .int .i64 mn, .int .i64 mx, .int .i64 kd, .bool bd, .int .u64 bn, sc, .string nm, sk, .int .u64 wi, sh, se] := fun w1 hb => (Blk.new w [.int .i64 k, .int .i64 mn, .int .i64 mx, .int .i64 kd, .bool bd, .int .u64 bn, sc, .string nm, sk, .int .u64 wi, sh, se] 35).later hb
  go_enter Tryz.func103, Tryz.ntmps103
  go_wp2_with (first | (go_at_call 123; refine (hS _ (b1 _ _)).mono ?_; rintro e w3 ⟨rfl, hb3⟩; have HX := hbx _ hb3; have c9 := HX.cell 9 _ rfl; have c10 := HX.cell 10 _ rfl; have c11 := HX.cell 11 _ rfl; clear HX))
  go_ret
  exact ⟨rfl, bstep (b1 _ _) hb3⟩

set_option maxRecDepth 100000 in
set_option maxHeartbeats 2000000 in
theorem check_h (k mn mx kd : Int) (bd : Bool) (bn : Int) (sc : Value) (nm : ByteArray) (sk : Value) (wi : Int) (sh se : Value) (w : World)
    (hS : ∀ w', Below w.heap.size w w' → Calls Tryz.prog 123 #[.agg #[.int .i64 k, .int .i64 mn, .int .i64 mx, .int .i64 kd, .bool bd, .int .u64 bn, sc, .string nm, sk]] w' fun e w'' => e = .returned (.int .i64 0) ∧ Below w'.heap.size w' w'') (hw : ¬ 99999 < wi) (hH : ∀ w', Below w.heap.size w w' → Calls Tryz.prog 128 #[sh, .func (.func 129) #[] #[]] w' fun e w'' => e = .returned (.bool false) ∧ Below w'.heap.size w' w'') :
    Calls Tryz.prog 103 #[.agg #[.int .i64 k, .int .i64 mn, .int .i64 mx, .int .i64 kd, .bool bd, .int .u64 bn, sc, .string nm, sk, .int .u64 wi, sh, se]] w fun e w' => e = .returned (.int .i64 3) ∧ Below w.heap.size w w' := by
  have hbx : ∀ w1, Below (w.alloc (.cells #[.int .i64 k, .int .i64 mn, .int .i64 mx, .int .i64 kd, .bool bd, .int .u64 bn, sc, .string nm, sk, .int .u64 wi, sh, se] 35)).heap.size (w.alloc (.cells #[.int .i64 k, .int .i64 mn, .int .i64 mx, .int .i64 kd, .bool bd, .int .u64 bn, sc, .string nm, sk, .int .u64 wi, sh, se] 35)) w1 → Blk w1 w.heap.size [.int .i64 k, .int .i64 mn, .int .i64 mx, .int .i64 kd, .bool bd, .int .u64 bn, sc, .string nm, sk, .int .u64 wi, sh, se] := fun w1 hb => (Blk.new w [.int .i64 k, .int .i64 mn, .int .i64 mx, .int .i64 kd, .bool bd, .int .u64 bn, sc, .string nm, sk, .int .u64 wi, sh, se] 35).later hb
  go_enter Tryz.func103, Tryz.ntmps103
  go_wp2_with (first | (go_at_call 123; refine (hS _ (b1 _ _)).mono ?_; rintro e w3 ⟨rfl, hb3⟩; have HX := hbx _ hb3; have c9 := HX.cell 9 _ rfl; have c10 := HX.cell 10 _ rfl; have c11 := HX.cell 11 _ rfl; clear HX) | (go_at_call 128; refine (hH _ (bstep (b1 _ _) hb3)).mono ?_; rintro e w4 ⟨rfl, hb4⟩; have HX := hbx _ (bstep hb3 hb4); have d11 := HX.cell 11 _ rfl; clear HX))
  go_ret
  exact ⟨rfl, bstep (bstep (b1 _ _) hb3) hb4⟩

set_option maxRecDepth 100000 in
set_option maxHeartbeats 2000000 in
theorem check_e (k mn mx kd : Int) (bd : Bool) (bn : Int) (sc : Value) (nm : ByteArray) (sk : Value) (wi : Int) (sh se : Value) (q : Bool) (w : World)
    (hS : ∀ w', Below w.heap.size w w' → Calls Tryz.prog 123 #[.agg #[.int .i64 k, .int .i64 mn, .int .i64 mx, .int .i64 kd, .bool bd, .int .u64 bn, sc, .string nm, sk]] w' fun e w'' => e = .returned (.int .i64 0) ∧ Below w'.heap.size w' w'') (hw : ¬ 99999 < wi) (hH : ∀ w', Below w.heap.size w w' → Calls Tryz.prog 128 #[sh, .func (.func 129) #[] #[]] w' fun e w'' => e = .returned (.bool true) ∧ Below w'.heap.size w' w'') (hE : ∀ w', Below w.heap.size w w' → Calls Tryz.prog 130 #[se, .func (.func 131) #[] #[]] w' fun e w'' => e = .returned (.bool q) ∧ Below w'.heap.size w' w'') :
    Calls Tryz.prog 103 #[.agg #[.int .i64 k, .int .i64 mn, .int .i64 mx, .int .i64 kd, .bool bd, .int .u64 bn, sc, .string nm, sk, .int .u64 wi, sh, se]] w fun e w' => e = .returned (.int .i64 (if q = true then 0 else 3)) ∧ Below w.heap.size w w' := by
  have hbx : ∀ w1, Below (w.alloc (.cells #[.int .i64 k, .int .i64 mn, .int .i64 mx, .int .i64 kd, .bool bd, .int .u64 bn, sc, .string nm, sk, .int .u64 wi, sh, se] 35)).heap.size (w.alloc (.cells #[.int .i64 k, .int .i64 mn, .int .i64 mx, .int .i64 kd, .bool bd, .int .u64 bn, sc, .string nm, sk, .int .u64 wi, sh, se] 35)) w1 → Blk w1 w.heap.size [.int .i64 k, .int .i64 mn, .int .i64 mx, .int .i64 kd, .bool bd, .int .u64 bn, sc, .string nm, sk, .int .u64 wi, sh, se] := fun w1 hb => (Blk.new w [.int .i64 k, .int .i64 mn, .int .i64 mx, .int .i64 kd, .bool bd, .int .u64 bn, sc, .string nm, sk, .int .u64 wi, sh, se] 35).later hb
  cases q with
  | true =>
    go_enter Tryz.func103, Tryz.ntmps103
    go_wp2_with (first | (go_at_call 123; refine (hS _ (b1 _ _)).mono ?_; rintro e w3 ⟨rfl, hb3⟩; have HX := hbx _ hb3; have c9 := HX.cell 9 _ rfl; have c10 := HX.cell 10 _ rfl; have c11 := HX.cell 11 _ rfl; clear HX) | (go_at_call 128; refine (hH _ (bstep (b1 _ _) hb3)).mono ?_; rintro e w4 ⟨rfl, hb4⟩; have HX := hbx _ (bstep hb3 hb4); have d11 := HX.cell 11 _ rfl; clear HX) | (go_at_call 130; refine (hE _ (bstep (bstep (b1 _ _) hb3) hb4)).mono ?_; rintro e w5 ⟨rfl, hb5⟩))
    go_ret
    exact ⟨rfl, bstep (bstep (bstep (b1 _ _) hb3) hb4) hb5⟩
  | false =>
    go_enter Tryz.func103, Tryz.ntmps103
    go_wp2_with (first | (go_at_call 123; refine (hS _ (b1 _ _)).mono ?_; rintro e w3 ⟨rfl, hb3⟩; have HX := hbx _ hb3; have c9 := HX.cell 9 _ rfl; have c10 := HX.cell 10 _ rfl; have c11 := HX.cell 11 _ rfl; clear HX) | (go_at_call 128; refine (hH _ (bstep (b1 _ _) hb3)).mono ?_; rintro e w4 ⟨rfl, hb4⟩; have HX := hbx _ (bstep hb3 hb4); have d11 := HX.cell 11 _ rfl; clear HX) | (go_at_call 130; refine (hE _ (bstep (bstep (b1 _ _) hb3) hb4)).mono ?_; rintro e w5 ⟨rfl, hb5⟩))
    go_ret
    exact ⟨rfl, bstep (bstep (bstep (b1 _ _) hb3) hb4) hb5⟩

theorem checkq_any (q : GQ) (w : World) (hq : QW w q) (hlen : (subsT q.t).length ≤ 999999) (hG : SG w) :
    Calls Tryz.prog 103 #[.agg q.row.toArray] w fun e w' => e = .returned (.int .i64 (checkE q.qu)) ∧ Below w.heap.size w w' := by
  obtain ⟨T, wi, sh, hv, se, em⟩ := q
  obtain ⟨hT, -, hh, he, -, -⟩ := hq
  simp only at hT hh he hlen
  have hS := fun w' (hb : Below w.heap.size w w') => sound_any T w' (hT.later hb) hlen (hG.later hb)
  have hH := fun w' (hb : Below w.heap.size w w') => areAllHave_any sh hv w' (hG.later hb) (hh.later hb)
  have hE := fun w' (hb : Below w.heap.size w w') => areAllAgg_any se em w' (hG.later hb) (he.later hb)
  have hs : soundE T.nd = if soundN 1 T.nd = true then 0 else 3 := rfl
  have hc : checkE (GQ.qu ⟨T, wi, sh, hv, se, em⟩) = if (soundN 1 T.nd && decide (wi ≤ 99999) && hv.all haveB && em.all aggB) = true then 0 else 3 := rfl
  rw [hc]
  rw [hs] at hS
  clear hc hs hT hh he hlen hG
  obtain ⟨p, hp⟩ : ∃ p, p = soundN 1 T.nd := ⟨_, rfl⟩
  obtain ⟨r, hr⟩ : ∃ r, r = hv.all haveB := ⟨_, rfl⟩
  obtain ⟨u, hu⟩ : ∃ u, u = em.all aggB := ⟨_, rfl⟩
  rw [← hp] at hS ⊢
  rw [← hr] at hH ⊢
  rw [← hu] at hE ⊢
  clear hp hr hu
  obtain ⟨k, mn, mx, ⟨⟨kd, bd, bn, cs, nm⟩, sc⟩, sk, ks⟩ := T
  cases p with
  | false => exact check_s k mn mx kd bd bn sc (strOf nm) sk wi sh se w hS
  | true =>
    by_cases hw : 99999 < wi
    · rw [decide_eq_false (by omega)]
      exact check_w k mn mx kd bd bn sc (strOf nm) sk wi sh se w hS hw
    · rw [decide_eq_true (by omega)]
      cases r with
      | false => exact check_h k mn mx kd bd bn sc (strOf nm) sk wi sh se w hS hw hH
      | true => exact check_e k mn mx kd bd bn sc (strOf nm) sk wi sh se u w hS hw hH hE
end Go.Proofs.YtdoioaeppepndaaGreatDoor
