/- Walk: the program's tokens of a text. -/
import Derived.Test.YtmdlndmibodimaaDoorTokM
import Derived.Test.YtmdlndmibodimaaDoorRangeAsg
namespace Go.Proofs.YtmdlndmibodimaaDoor
open Go.RowKit Go.Shelf
open Tk7
attribute [local go_sem] Oper.semAt_some

/-- A token's three cells. -/
def tcell (x : NX) : List Value := [.int .i64 (x.kd : Int), .string (strOf x.tx), .int .i64 (x.at_ : Int)]
def tcells (xs : List NX) : List Value := xs.flatMap tcell
theorem tcells_len (xs : List NX) : (tcells xs).length = xs.length * 3 := by
  induction xs with
  | nil => rfl
  | cons x xs ih => show (tcell x ++ tcells xs).length = _; rw [List.length_append, ih, List.length_cons]; show 3 + _ = _; omega
theorem tcells_snoc (xs : List NX) (x : NX) : tcells (xs ++ [x]) = tcells xs ++ tcell x := by unfold tcells; simp
theorem infoTok : (Tryd.prog.info? 30).map (fun i => (i.zero, i.size, i.bytes)) = some (some (.agg #[.int .i64 0, .string ⟨#[]⟩, .int .i64 0]), 3, 32) := by kernel_rfl
/-- What stands between two rounds. -/
structure TI (w : World) (pre : List NX) (W : World) : Prop where
  all : ∀ x ∈ pre, x.er = 0
  out : Blk W w.heap.size [.slice none 0 0]
  flt : Blk W (w.heap.size + 1) [.int .i64 0, .int .i64 0]
  row : ∃ v, Blk W (w.heap.size + 2) [v] ∧ W.ownsRow (w.heap.size + 4) 30 3 v pre.length (tcells pre)
  bel : Below w.heap.size w W
  big : w.heap.size + 4 ≤ W.heap.size
/-- What stands when a round has returned. -/
structure TX (w : World) (W : World) (er : Int) (ea : Nat) : Prop where
  out : Blk W w.heap.size [.slice none 0 0]
  flt : Blk W (w.heap.size + 1) [.int .i64 er, .int .i64 (ea : Int)]
  bel : Below w.heap.size w W
theorem TI.grown {w W W' : World} {pre : List NX} {row : Option Nat} (h : TI w pre W) (hg : W.grownBy W' row) (hr : ∀ j, row = some j → w.heap.size + 4 ≤ j ∧ ∃ o : Obj, W.heap[j]? = some o ∧ o.isCells = false) : TI w pre W' := by
  obtain ⟨v, h1, h2⟩ := h.row
  exact ⟨h.all, blk_noncells (by simp) h.out hg fun j e => (hr j e).2, blk_noncells (by simp) h.flt hg fun j e => (hr j e).2, ⟨v, blk_noncells (by simp) h1 hg fun j e => (hr j e).2, own_far h2 hg fun j e => .inr (hr j e).2⟩,
    h.bel.grown hg h.bel.size fun j e => by have := (hr j e).1; omega, Nat.le_trans h.big hg.size⟩
theorem TX.grown {w W W' : World} {er : Int} {ea : Nat} {row : Option Nat} (h : TX w W er ea) (hg : W.grownBy W' row) (hr : ∀ j, row = some j → w.heap.size + 4 ≤ j ∧ ∃ o : Obj, W.heap[j]? = some o ∧ o.isCells = false) : TX w W' er ea :=
  ⟨blk_noncells (by simp) h.out hg fun j e => (hr j e).2, blk_noncells (by simp) h.flt hg fun j e => (hr j e).2, h.bel.grown hg h.bel.size fun j e => by have := (hr j e).1; omega⟩
/-- What the tokens of a text are, or its fault. -/
def toksR (l : List UInt8) : Except (Int × Nat) (List T) := if 400 < l.length then .error (4, 400) else toksG l 0
/-- What asking for the tokens of a text gives. -/
def ToksP (w : World) (t : List UInt8) (e : Ending) (w' : World) : Prop :=
  Below w.heap.size w w' ∧
  ((∃ (er : Int) (a : Nat), toksR t = .error (er, a) ∧ e = .returned (.tuple #[.slice none 0 0, .agg #[.int .i64 er, .int .i64 (a : Int)]])) ∨
   (∃ ts v, toksR t = .ok ts ∧ e = .returned (.tuple #[v, .agg #[.int .i64 0, .int .i64 0]]) ∧ w'.ownsRow w.heap.size 30 3 v ts.length (tcells (ts.map okX))))
/-- The two results, written. -/
theorem rf_out {w W : World} {B : Nat} {x0 y0 y1 : Value} (h0 : Blk W B [x0]) (h1 : Blk W (B + 1) [y0, y1]) (hB : Below B w W) (u0 v0 v1 : Value) (V : World)
    (hV : V = ((W.setCell ⟨B, 0, none⟩ u0).setCell ⟨B + 1, 0, none⟩ v0).setCell ⟨B + 1, 1, none⟩ v1) :
    Blk V B [u0] ∧ Blk V (B + 1) [v0, v1] ∧ Below B w V ∧ KeepsOthers W V ∧ (W.heap.size = V.heap.size) ∧ (∀ {base sz n : Nat} {e : TypeId} {v : Value} {us : List Value}, B + 2 ≤ base → W.ownsRow base e sz v n us → V.ownsRow base e sz v n us) ∧ (∀ k, k ≠ B → k ≠ B + 1 → V.heap[k]? = W.heap[k]?) := by
  subst hV
  refine ⟨((h0.set 0 u0).other (by simp) _).other (by simp) _, ((h1.other (p := ⟨B, 0, none⟩) (by simp) _).set 0 v0).set 1 v1, ?_, ?_, by simp [World.setCell], fun hb ho => ?_, fun k hk hk1 => ?_⟩
  · exact ((hB.setCell (p := ⟨B, 0, none⟩) (by simp) _).setCell (p := ⟨B + 1, 0, none⟩) (by simp) _).setCell (p := ⟨B + 1, 1, none⟩) (by simp) _
  · exact ((KeepsOthers.setCell _ _ _).trans (KeepsOthers.setCell _ _ _)).trans (KeepsOthers.setCell _ _ _)
  · exact own_set (own_set (own_set ho (by omega) _ _) (by omega) _ _) (by omega) _ _
  · exact (Below.heap_setCell _ _ _ _ hk1).trans ((Below.heap_setCell _ _ _ _ hk1).trans (Below.heap_setCell _ _ _ _ hk))
set_option maxRecDepth 100000 in
set_option maxHeartbeats 4000000 in
theorem tokens_long (t : List UInt8) (hlong : 400 < t.length) (w : World) :
    Calls Tryd.prog 9 #[.string (strOf t)] w (ToksP w t) := by
  have hsz : (strOf t).size = t.length := strOf_size t
  have hR := Lib.hid (show toksR t = .error (4, 400) from if_pos hlong)
  have hl' : (400 : Int) < (t.length : Int) := by omega
  have hF := fun w => fault_any 4 400 w
  obtain ⟨W, hW⟩ : ∃ W, W = (w.alloc (.cells #[.slice none 0 0] 22)).alloc (.cells #[.int .i64 0, .int .i64 0] 25) := ⟨_, rfl⟩
  have hK0 : Blk W w.heap.size [.slice none 0 0] := by rw [hW]; exact (Blk.is _ rfl).alloc _
  have hK1 : Blk W (w.heap.size + 1) [.int .i64 0, .int .i64 0] := by rw [hW]; exact Blk.is _ (by simp)
  have hWb : Below w.heap.size w W := by rw [hW]; exact below2 _ _ _
  go_enter Tryd.func9, Tryd.ntmps9
  go_wp2_with fail
  rw [← hW]
  refine (hF _).mono ?_
  rintro e w1 ⟨rfl, hb1⟩
  have hZ0 := hK0.later hb1
  have hZ1 := hK1.later hb1
  have hZB := bstep hWb hb1
  clear hK0 hK1 hW
  have k0 := hZ0.fr 0 _ rfl
  have d0 := hZ0.cell 0 _ rfl
  have k1 := hZ1.fr 0 _ rfl
  have k2 := hZ1.fr 1 _ rfl
  have d1 := hZ1.cell 0 _ rfl
  have d2 := hZ1.cell 1 _ rfl
  go_wp2
  refine named_post fun V hV => ?_
  obtain ⟨hVa, hVb, hVB, -, -, -, -⟩ := rf_out hZ0 hZ1 hZB _ _ _ V hV
  clear hV d0 d1 d2 k0 k1 k2
  have c0 := hVa.cell 0 _ rfl
  have c1 := hVb.cell 0 _ rfl
  have c2 := hVb.cell 1 _ rfl
  exact bodyPost_ret (v := .tuple #[.slice none 0 0, .agg #[.int .i64 4, .int .i64 400]]) (by simp [results, Tryd.results9, go_sem, c0, c1, c2]; try rfl) rfl ⟨hVB, .inl ⟨4, 400, hR.out, rfl⟩⟩
theorem keep_below {m b n : Nat} (W W' : World) (h : Below W.heap.size W W') : KeepT m b n W W' := ⟨h.size, fun k hk _ => h.block k hk⟩
theorem keep_set {m b n c i : Nat} (W : World) (h1 : m ≤ c) (h2 : c ≠ b) (h3 : c < n) (u : Value) : KeepT m b n W (W.setCell ⟨c, i, none⟩ u) := by
  refine ⟨by simp [World.setCell], fun k _ hx => Below.heap_setCell _ _ _ _ ?_⟩
  show k ≠ c
  rcases hx with hx | hx | ⟨hx, _⟩ <;> omega
theorem keep_grown {m b n sz k : Nat} {W W1 : World} {v : Value} {us : List Value} (hv : W.ownsRow n 30 sz v k us) (hm : m ≤ n) (hb : b < n) (hg : W.grownBy W1 v.ownBlock) : KeepT m b n W W1 := by
  refine ⟨hg.size, fun j hj hx => hg.block j hj fun e => ?_⟩
  rcases hv.2 with ⟨rfl, _⟩ | ⟨g, cap, cur, rfl, hn, hh, _⟩
  · cases e
  · have : j = g := by simpa [Value.ownBlock] using e
    subst this
    rcases hx with hx | hx | ⟨_, cs, fr, ho⟩
    · omega
    · omega
    · rw [hh] at ho
      injection ho with ho
      injection ho with _ ht
      exact absurd ht (by decide)
/-- How the two values of a round lie. -/
def TA (w : World) (t : List UInt8) (x : NX) (act : Act) (W : World) : Prop :=
  ∃ b, w.heap.size + 4 ≤ b ∧ act = { tmps := #[.string (strOf t), undef, .pointer (some ⟨w.heap.size, 0, none⟩), .pointer (some ⟨w.heap.size + 1, 0, none⟩), .pointer (some ⟨w.heap.size + 1 + 1, 0, none⟩), .pointer (some ⟨b, 0, none⟩), .pointer (some ⟨b + 1, 0, none⟩), .string (strOf t), .int .i64 (t.length : Int), .bool false, undef, .string (strOf t), .func (.func 43) #[] #[.pointer (some ⟨w.heap.size + 1 + 1 + 1, 0, none⟩)], tokV x, fltV x, undef, undef, undef, undef, undef, undef, undef, undef, undef, undef], defers := [] } ∧
    Blk W b (tcell x) ∧ Blk W (b + 1) [.int .i64 x.er, .int .i64 (x.ea : Int)]
set_option maxRecDepth 100000 in
set_option maxHeartbeats 8000000 in
theorem tokens_short (t : List UInt8) (hshort : t.length ≤ 400) (w : World) (hG : SG w) :
    Calls Tryd.prog 9 #[.string (strOf t)] w (ToksP w t) := by
  have hsz : (strOf t).size = t.length := strOf_size t
  have hl' : ¬ (400 : Int) < (t.length : Int) := by omega
  obtain ⟨i0, hi, hz0, hz1, hz2⟩ := info_parts infoTok
  have hNN := seqX_len t (t.length + 1) 0
  refine (callsIn_wide (n := 3)).1 ?_
  refine callsIn_of_wp_marks Tryd.func9 rfl trivial ?_ rfl
  simp only [Tryd.ntmps9, List.size_toArray, List.length_cons, List.length_nil, Nat.reduceAdd, Nat.reduceSub, Array.replicate_succ, Array.replicate_zero, List.push_toArray, List.append_toArray, List.nil_append, List.cons_append]
  gi_wp2_with (refine ⟨trivial, ?_⟩; gi_at_call 30; refine (callsIn_wide.2 (each_any _ _)).mono ?_; rintro e w' ⟨rfl, rfl⟩)
  refine wpIn_range_asg rfl (by decide) (gf := 43) (lb := #[.pointer (some ⟨w.heap.size + 1 + 1 + 1, 0, none⟩)]) rfl trivial (enters_of Tryd.func43 (by kernel_rfl) rfl)
    (each_stops 2 (by decide) w.heap.size (w.heap.size + 1 + 1 + 1) (w.heap.size + 4) t (by omega) hG.1 _ (by simp) (Blk.is (us := [.string (strOf t)]) _ (by simp)) (hG.later (((below3 w _ _ _).alloc (by simp; omega) _))))
    (fun h k => KeepT.trans h k) (KeepT.put (by simp; omega) (by simp)) keep_below (Below.refl _ _) (fun _ => rfl)
    (fun pre W => TI w pre W)
    (fun pre W => ∃ x pre', pre = pre' ++ [x] ∧ x.er ≠ 0 ∧ TX w W x.er x.ea)
    ?hI ?hIx ?h0 (TA w t) ?hA ?assign ?body ?done ?stop
  case hI =>
    intro s A B row h hg hr
    exact h.grown hg fun j e => by have := hr j e; simpa using this
  case hIx =>
    rintro s A B row ⟨x, pre', h1, h2, h3⟩ hg hr
    exact ⟨x, pre', h1, h2, h3.grown hg fun j e => by have := hr j e; simpa using this⟩
  case h0 =>
    refine ⟨(fun x hx => by cases hx), (((Blk.is _ rfl).alloc _).alloc _).alloc _, ((Blk.is (us := [.int .i64 0, .int .i64 0]) _ (by simp)).alloc _).alloc _, ⟨.slice none 0 0, (Blk.is (us := [.slice none 0 0]) _ (by simp)).alloc _, World.ownsRow_nil _ _ _ _⟩, ?_, by simp⟩
    exact (below3 w _ _ _).alloc (by simp; omega) _
  case hA =>
    rintro x act s A B row ⟨b, h1, h2, h3, h4⟩ hg hr
    exact ⟨b, h1, h2, blk_noncells (by simp [tcell]) h3 hg fun j e => (hr j e).2, blk_noncells (by simp) h4 hg fun j e => (hr j e).2⟩
  case assign =>
    intro l x W K hW hK
    simp only [World.size_alloc] at hW
    unfold TA tokV fltV tcell at hK
    unfold tokV fltV
    gi_wp2
    exact hK _ _ ⟨W.heap.size, by omega, rfl, (Blk.is _ rfl).alloc _, Blk.is (us := [.int .i64 x.er, .int .i64 (x.ea : Int)]) _ (by simp)⟩ (below2 _ _ _)
  case body =>
    rintro l pre x act W hpre h ⟨b, hb4, rfl, hA, hB⟩
    have hN2 : pre.length < 402 := by unfold seqA at hpre; omega
    clear hpre hNN
    obtain ⟨v, hrow, hown⟩ := h.row
    have H := Lib.hid h
    have hbig := h.big
    have hall := Lib.hid h.all
    have a0 := hA.cell 0 _ rfl
    have a1 := hA.cell 1 _ rfl
    have a2 := hA.cell 2 _ rfl
    have b0 := hB.cell 0 _ rfl
    have b1 := hB.cell 1 _ rfl
    have r0 := hrow.cell 0 _ rfl
    have r1 := hrow.fr 0 _ rfl
    have hrl := hrow.lt
    have o0 := h.out.cell 0 _ rfl
    have o1 := h.out.fr 0 _ rfl
    have f0 := h.flt.cell 0 _ rfl
    have f1 := h.flt.cell 1 _ rfl
    have f2 := h.flt.fr 0 _ rfl
    have f3 := h.flt.fr 1 _ rfl
    unfold tokV fltV
    obtain ⟨kd, tx, at_, nx, er, ea⟩ := x
    simp only at a0 a1 a2 b0 b1 ⊢
    clear h hA hB hsz
    by_cases her : er = 0
    · subst her
      clear o0 o1 f0 f1 f2 f3
      gi_wp2_with (gi_at_builtin; go_loud (refine wpListIn_append_own _ rfl _ _ 22 rfl (w.heap.size + 4) 30 i0 (.agg #[.int .i64 0, .string ⟨#[]⟩, .int .i64 0]) 3 32 Tryd.underlying22 hi hz0 hz1 hz2 rfl (by decide) _ _ _ rfl (hown.alloc _) ⟨W.heap.size, 0, none⟩ 1 1 (tcell ⟨kd, tx, at_, nx, 0, ea⟩) rfl rfl (blk_cells (Blk.is (us := tcell ⟨kd, tx, at_, nx, 0, ea⟩) 30 rfl)) (by simp [tcell, Value.oneCell']) (by unfold maxLen; omega) (by omega) (by simp; omega) ?_; intro v' w3 hown' hgrow _; obtain ⟨A', c', rfl⟩ := own_form hown'; have far := fun j (e : v.ownBlock = some j) => (hown.lt j e).1; have hw2 := (hrow.alloc _).grown hgrow (fun e => by have := far _ e.symm; omega); have q0 := hw2.cell 0 _ rfl; have q1 := hw2.fr 0 _ rfl; have q4 := hw2.lt; have HG := Lib.hid hgrow; have HO := Lib.hid hown'; have HW2 := Lib.hid hw2; clear far hw2 hown' hgrow))
      have hga := (World.grownBy_alloc W (.cells (tcell ⟨kd, tx, at_, nx, 0, ea⟩).toArray 30) v.ownBlock).trans HG.out
      have far := fun j (e : v.ownBlock = some j) => (hown.lt j e).1
      refine ⟨((KeepsOthers.alloc W _).trans (KeepsOthers.of_grownBy HG.out (fun j o e ho => own_cells (hown.alloc _) j o e ho))).trans (KeepsOthers.setCell _ _ _),
        ((keep_below _ _ (below1 _ _)).trans (keep_grown (hown.alloc _) (by omega) (by omega) HG.out)).trans (keep_set _ (by omega) (by omega) (by omega) _), ?_⟩
      refine ⟨fun y hy => ?_, ((H.out.out.grown hga (fun e => by have := far _ e.symm; omega))).other (by simp; omega) _, ((H.out.flt.grown hga (fun e => by have := far _ e.symm; omega))).other (by simp) _, ⟨_, HW2.out.set 0 _, ?_⟩, ?_, ?_⟩
      · rcases List.mem_append.1 hy with hy | hy
        · exact hall.out y hy
        · rw [List.mem_singleton.1 hy]
      · rw [tcells_snoc, List.length_append]
        exact own_set HO.out (by omega) _ _
      · exact (H.out.bel.grown hga H.out.bel.size (fun j e => by have := far j e; omega)).setCell (p := ⟨w.heap.size + 2, 0, none⟩) (by simp) _
      · have := hga.size
        simp [World.setCell]
        omega
    · have hnb : (er != 0) = true := by simpa using her
      have HE := Lib.hid her
      clear her
      gi_wp2
      gi_region_with (fail)
      all_goals gi_wp2
      all_goals
        obtain ⟨hV0, hV1, hVB, hVK, -, -, -⟩ := rf_out H.out.out H.out.flt H.out.bel (.slice none 0 0) (.int .i64 er) (.int .i64 (ea : Int)) _ rfl
        exact ⟨hVK.trans (KeepsOthers.drew _), ⟨kd, tx, at_, nx, er, ea⟩, pre, rfl, HE.out, ⟨hV0.drew, hV1.drew, hVB.drew⟩⟩
  case done =>
    rintro D xs W hD rfl h hK
    have hDD : w.heap.size ≤ D := by simp at hD; omega
    have hR : ∃ ts : List T, toksR t = .ok ts ∧ seqA t = ts.map okX := by
      have h1 : toksR t = toksG t 0 := if_neg (by omega)
      rcases seq_toks t (t.length + 1) 0 (Nat.zero_le _) (by omega) with ⟨ts, h2, h3⟩ | ⟨e, ts, h2, h3, h4⟩
      · exact ⟨ts, h1.trans h2, h3⟩
      · have : (badX e).er = 0 := h.all _ (by unfold seqA; rw [h4]; simp)
        have e2 : e.1 = 0 := this
        omega
    obtain ⟨ts, hR, hS⟩ := hR
    obtain ⟨v, hrow, hown⟩ := h.row
    rw [hS, List.length_map] at hown
    have HR := Lib.hid hR
    have hB := h.bel
    have hK0 := h.out
    have hK1 := h.flt
    obtain ⟨A', c', rfl⟩ := own_form hown
    have c0 := h.out.cell 0 _ rfl
    have c1 := h.flt.cell 0 _ rfl
    have c2 := h.flt.cell 1 _ rfl
    have c3 := hrow.cell 0 _ rfl
    have f0 := h.out.fr 0 _ rfl
    have f1 := h.flt.fr 0 _ rfl
    have f2 := h.flt.fr 1 _ rfl
    clear hR hS h hsz hNN
    gi_wp2
    obtain ⟨V, hV⟩ : ∃ V, V = ((W.setCell ⟨w.heap.size, 0, none⟩ (.slice A' ts.length c')).setCell ⟨w.heap.size + 1, 0, none⟩ (.int .i64 0)).setCell ⟨w.heap.size + 1, 1, none⟩ (.int .i64 0) := ⟨_, rfl⟩
    obtain ⟨hV0, hV1, hVB, hVK, -, hVO, -⟩ := rf_out hK0 hK1 hB _ _ _ V hV
    rw [← hV]
    have hKV := hVK.same D _ hK rfl
    refine ⟨by simp, .inl ⟨_, _, rfl, run_takeDeferred hKV, ?_⟩⟩
    have hZ0 := (blk_put (o' := .deferred none) (by simp) hV0 hKV rfl).cell 0 _ rfl
    have hZ1 := (blk_put (o' := .deferred none) (by simp) hV1 hKV rfl).cell 0 _ rfl
    have hZ2 := (blk_put (o' := .deferred none) (by simp) hV1 hKV rfl).cell 1 _ rfl
    refine ⟨.tuple #[.slice A' ts.length c', .agg #[.int .i64 0, .int .i64 0]], ?_, below_put hVB hKV hDD, .inr ⟨ts, _, HR.out, rfl, own_mono (own_put (hVO (by omega) hown) hKV rfl) (by omega)⟩⟩
    simp [results, Tryd.f9, go_sem, hZ0, hZ1, hZ2]
  case stop =>
    rintro D pre W hD hpre ⟨x, pre', rfl, hx, h⟩ hK
    have hDD : w.heap.size ≤ D := by simp at hD; omega
    have hR : toksR t = .error (x.er, x.ea) := by
      have h1 : toksR t = toksG t 0 := if_neg (by omega)
      have hmem : x ∈ seqA t := hpre.subset (by simp)
      rcases seq_toks t (t.length + 1) 0 (Nat.zero_le _) (by omega) with ⟨ts, h2, h3⟩ | ⟨e, ts, h2, h3, h4⟩
      · unfold seqA at hmem
        rw [h3] at hmem
        obtain ⟨k, _, rfl⟩ := List.mem_map.1 hmem
        exact absurd rfl hx
      · unfold seqA at hmem
        rw [h4] at hmem
        rcases List.mem_append.1 hmem with hm | hm
        · obtain ⟨k, _, rfl⟩ := List.mem_map.1 hm
          exact absurd rfl hx
        · rw [List.mem_singleton.1 hm]
          exact h1.trans h2
    have HR := Lib.hid hR
    have hZ0 := (blk_put (o' := .deferred none) (by simp) h.out hK rfl).cell 0 _ rfl
    have hZ1 := (blk_put (o' := .deferred none) (by simp) h.flt hK rfl).cell 0 _ rfl
    have hZ2 := (blk_put (o' := .deferred none) (by simp) h.flt hK rfl).cell 1 _ rfl
    have hB := h.bel
    clear hR h hsz hNN hpre hx
    gi_wp2
    refine ⟨by simp, .inl ⟨_, _, rfl, run_takeDeferred hK, ?_⟩⟩
    refine ⟨.tuple #[.slice none 0 0, .agg #[.int .i64 x.er, .int .i64 (x.ea : Int)]], ?_, below_put hB hK hDD, .inl ⟨x.er, x.ea, HR.out, rfl⟩⟩
    simp [results, Tryd.f9, go_sem, hZ0, hZ1, hZ2]
theorem tokens_any (t : List UInt8) (w : World) (hG : SG w) :
    Calls Tryd.prog 9 #[.string (strOf t)] w (ToksP w t) := by
  by_cases h : 400 < t.length
  · exact tokens_long t h w
  · exact tokens_short t (by omega) w hG
end Go.Proofs.YtmdlndmibodimaaDoor
