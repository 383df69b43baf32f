/- Queries, restricted: mathematics; copies; what lies in memory while a node is renewed. -/
import Derived.Test.YtdoioaeppepndaaGreatDoorFlMx
import Derived.Test.YtdoioaeppepndaaGreatDoorWfPx
import Derived.Test.YtdoioaeppepndaaGreatDoorAstAx
import Derived.Test.YtdoioaeppepndaaGreatDoorAstThr
import Derived.Test.YtdoioaeppepndaaGreatDoorWfOx
namespace Go.Proofs.YtdoioaeppepndaaGreatDoor.F11
open A8 W10 Lb

def resA (c : Int) (a : A8.At) : A8.At := ⟨a.kd, true, atR c a, a.cs, a.nm⟩
mutual
def resN (c : Int) : Nd → Nd
  | .mk k mn mx a ks => .mk k mn mx (if ks.isEmpty = true then resA c a else a) (resL c ks)
def resL (c : Int) : List Nd → List Nd
  | [] => []
  | n :: ns => resN c n :: resL c ns
end
theorem resL_map (c : Int) (ks : List Nd) : resL c ks = ks.map (resN c) := by
  induction ks with
  | nil => rfl
  | cons n ns ih => rw [resL, ih, List.map_cons]
theorem resN_mk (c k mn mx : Int) (a : A8.At) (ks : List Nd) : resN c (.mk k mn mx a ks) = .mk k mn mx (if ks.isEmpty = true then resA c a else a) (ks.map (resN c)) := by rw [resN, resL_map]
def resQ (c : Int) (q : Qu) : Qu := ⟨resN c q.p, q.wi, q.hv, q.em⟩
theorem res_kids (c : Int) (n : Nd) : (resN c n).kids = n.kids.map (resN c) := by cases n; rw [resN_mk]; rfl
theorem res_kind (c : Int) (n : Nd) : (resN c n).kind = n.kind := by cases n; rw [resN_mk]; rfl
theorem res_nm (c : Int) (n : Nd) : (resN c n).atom.nm = n.atom.nm := by
  cases n with
  | mk k mn mx a ks =>
    rw [resN_mk]
    show (if ks.isEmpty = true then resA c a else a).nm = a.nm
    split <;> rfl
theorem res_cs (c : Int) (n : Nd) : (resN c n).atom.cs = n.atom.cs := by
  cases n with
  | mk k mn mx a ks =>
    rw [resN_mk]
    show (if ks.isEmpty = true then resA c a else a).cs = a.cs
    split <;> rfl
theorem res_leaf (c : Int) (n : Nd) : (resN c n).kids.isEmpty = n.kids.isEmpty := by rw [res_kids]; cases n.kids <;> rfl
theorem res_atom {c : Int} {n : Nd} (h : n.kids.isEmpty = true) : (resN c n).atom = resA c n.atom := by
  cases n with
  | mk k mn mx a ks =>
    rw [resN_mk]
    have h1 : ks.isEmpty = true := h
    show (if ks.isEmpty = true then resA c a else a) = resA c a
    rw [if_pos h1]
mutual
theorem subs_res (c : Int) : ∀ n : Nd, subsN (resN c n) = (subsN n).map (resN c)
  | .mk k mn mx a ks => by rw [resN, subsN, subsN, List.map_cons, subsL_res c ks, resN]
theorem subsL_res (c : Int) : ∀ ns : List Nd, subsL (resL c ns) = (subsL ns).map (resN c)
  | [] => by rw [resL, subsL, List.map_nil]
  | n :: ns => by rw [resL, subsL, subsL, List.map_append, subs_res c n, subsL_res c ns]
end
mutual
theorem dep_res (c : Int) : ∀ n : Nd, depthN (resN c n) = depthN n
  | .mk k mn mx a ks => by rw [resN, depthN, depthN, depL_res c ks]
theorem depL_res (c : Int) : ∀ ns : List Nd, depthL (resL c ns) = depthL ns
  | [] => by rw [resL]
  | n :: ns => by rw [resL, depthL, depthL, dep_res c n, depL_res c ns]
end
theorem filt_map {α : Type} {p q : α → Bool} {f : α → α} (h : ∀ x, q (f x) = p x) : ∀ l : List α, (l.map f).filter q = (l.filter p).map f
  | [] => rfl
  | x :: l => by
    rw [List.map_cons, List.filter_cons, List.filter_cons, h x, filt_map h l]
    split <;> rfl
theorem leaves_res (c : Int) (n : Nd) : leavesN (resN c n) = (leavesN n).map (resN c) := by
  unfold leavesN
  rw [subs_res]
  exact filt_map (fun t => res_leaf c t) _
theorem atomB_res {c : Int} {a : A8.At} (h : atomB a = true) : atomB (resA c a) = true := by
  unfold atomB resA at *
  simp only [Bool.and_eq_true, Bool.true_or] at h ⊢
  exact ⟨⟨⟨h.1.1.1, trivial⟩, h.1.2⟩, h.2⟩
theorem nodeB_res {c k mn mx : Int} {a : A8.At} {n : Nat} (h : nodeB k mn mx a n = true) : nodeB k mn mx (if decide (n = 0) = true then resA c a else a) n = true := by
  unfold nodeB at h ⊢
  split at h
  · rename_i h1
    rw [if_pos h1]
    simp only [Bool.and_eq_true] at h ⊢
    refine ⟨⟨⟨?_, h.1.1.2⟩, h.1.2⟩, h.2⟩
    split
    · exact atomB_res h.1.1.1
    · exact h.1.1.1
  · rename_i h1
    rw [if_neg h1]
    split at h
    · rename_i h2
      rw [if_pos h2]
      simp only [Bool.and_eq_true] at h ⊢
      refine ⟨⟨?_, h.1.2⟩, h.2⟩
      split
      · exact atomB_res h.1.1
      · exact h.1.1
    · rename_i h2
      rw [if_neg h2]
      split at h
      · rename_i h3
        rw [if_pos h3]
        simp only [Bool.and_eq_true, decide_eq_true_eq] at h ⊢
        rw [if_neg (by omega)]
        exact h
      · cases h
theorem empty_dec {α : Type} (l : List α) : l.isEmpty = decide (l.length = 0) := by cases l <;> simp
mutual
theorem sound_res (c : Int) : ∀ (n : Nd) (d : Nat), soundN d n = true → soundN d (resN c n) = true
  | .mk k mn mx a ks, d, h => by
    rw [soundN] at h
    rw [resN, soundN]
    simp only [Bool.and_eq_true] at h ⊢
    refine ⟨⟨h.1.1, ?_⟩, soundL_res c ks _ h.2⟩
    have h1 := nodeB_res (c := c) h.1.2
    rw [resL_map, List.length_map, empty_dec]
    exact h1
theorem soundL_res (c : Int) : ∀ (ns : List Nd) (d : Nat), soundL d ns = true → soundL d (resL c ns) = true
  | [], _, _ => rfl
  | n :: ns, d, h => by
    rw [soundL] at h
    rw [resL, soundL]
    simp only [Bool.and_eq_true] at h ⊢
    exact ⟨sound_res c n d h.1, soundL_res c ns d h.2⟩
end
theorem any_map {α : Type} {p : α → Bool} {f : α → α} (h : ∀ x, p (f x) = p x) (l : List α) : (l.map f).any p = l.any p := by
  rw [List.any_map]
  congr 1
  funext x
  exact h x
theorem all_map {α : Type} {p : α → Bool} {f : α → α} (h : ∀ x, p (f x) = p x) (l : List α) : (l.map f).all p = l.all p := by
  rw [List.all_map]
  congr 1
  funext x
  exact h x
theorem res_not (c : Int) (n : Nd) : isNotB (resN c n) = isNotB n := by unfold isNotB; rw [res_kind]
theorem res_wide (c : Int) (n : Nd) : wideB (resN c n) = wideB n := by unfold wideB; rw [res_kids, res_cs, List.length_map]
theorem res_times (c : Int) (n : Nd) : timesB (resN c n) = timesB n := by cases n; rw [resN_mk]; rfl
theorem other_res (c : Int) (l : List Nd) : otherB (l.map (resN c)) = otherB l := any_map (fun n => by rw [res_not]) l
theorem stand_res (c k : Int) (l : List Nd) (i : Nat) : standL k (l.map (resN c)) i = standL k l i := by
  unfold standL
  rw [List.getElem?_map]
  cases l[i]? with
  | none => rfl
  | some n =>
    show (!isNotB (resN c n) || _) = _
    rw [res_not, ← List.map_take, ← List.map_drop, other_res, other_res]
theorem res_stands (c : Int) (n : Nd) : standsN (resN c n) = standsN n := by
  cases n with
  | mk k mn mx a ks =>
    rw [resN_mk]
    show (List.range (ks.map (resN c)).length).all (standL k (ks.map (resN c))) = (List.range ks.length).all (standL k ks)
    rw [List.length_map]
    congr 1
    funext i
    exact stand_res c k ks i
theorem names_res (c : Int) (n : Nd) : namesN (resN c n) = namesN n := by
  unfold namesN
  rw [leaves_res, filt_map (p := isNmd) (fun x => by unfold isNmd hasNm; rw [res_not, res_nm]), List.map_map]
  congr 1
  funext x
  exact res_nm c x
theorem lnames_res (c : Int) (n : Nd) : leafNames (resN c n) = leafNames n := by
  unfold leafNames
  rw [leaves_res, List.map_map]
  congr 1
  funext x
  exact res_nm c x
theorem wf_res {q : Qu} (c : Int) (h : wfE q = 0) : wfE (resQ c q) = 0 := by
  have hw := wf_is h
  refine WfIs.zero ⟨?_, ?_, ?_, ?_, ?_, ?_, ?_, ?_⟩
  · have h1 := hw.check
    unfold checkB resQ at *
    simp only [Bool.and_eq_true] at h1 ⊢
    exact ⟨⟨⟨sound_res c _ _ h1.1.1.1, h1.1.1.2⟩, h1.1.2⟩, h1.2⟩
  · have h1 := hw.full
    unfold fullB resQ roomL at *
    simp only at h1 ⊢
    rw [subs_res, any_map (res_wide c), filt_map (p := leafB) (fun x => by unfold leafB; exact res_leaf c x), List.length_map]
    exact h1
  · show ¬ 6 < depthN (resN c q.p)
    rw [dep_res]
    exact hw.dep
  · have h1 := hw.range
    unfold rangeB resQ at *
    simp only at h1 ⊢
    rw [leaves_res, all_map (res_times c)]
    exact h1
  · have h1 := hw.nots
    show notsB (resN c q.p) = true
    unfold notsB at *
    rw [res_not, subs_res, all_map (res_stands c)]
    exact h1
  · show onceL (leafNames (resN c q.p)) = true
    rw [lnames_res]
    exact hw.once
  · have h1 := hw.bare
    show bareB (resN c q.p) = true
    unfold bareB at *
    rw [leaves_res, all_map (fun n => by unfold hasNm; rw [res_not, res_nm])]
    exact h1
  · have h1 := hw.known
    unfold knownB at *
    show (useL q).all (fun s => (namesN (resN c q.p)).contains s) = true
    rw [names_res]
    exact h1
theorem ats_res {q : Qu} (c : Int) (h : wfE q = 0) : atsQ (resQ c q) = (atsQ q).map (resA c) := by
  rw [ats_ok (wf_res c h), ats_ok h]
  show (leavesN (resN c q.p)).map Nd.atom = _
  rw [leaves_res, List.map_map, List.map_map]
  refine List.map_congr_left fun n hn => ?_
  unfold leavesN at hn
  exact res_atom (List.mem_filter.1 hn).2
theorem atR_res (c x : Int) (a : A8.At) : atR x (resA c a) = atR c a := by
  show (if true = true then atR c a else x) = _
  rw [if_pos rfl]
theorem flR_res {q : Qu} (c x : Int) (h : wfE q = 0) : flR (resQ c q) x = flR q c := by
  unfold flR
  rw [ats_res c h, List.map_map]
  exact congrArg joinI (List.map_congr_left fun a _ => atR_res c x a)
theorem flO_res {q : Qu} (c : Int) (h : wfE q = 0) : flO (resQ c q) = false := by
  unfold flO
  rw [ats_res c h, List.any_map]
  refine List.any_eq_false.2 fun a _ => ?_
  show ¬ (!true) = true
  simp
theorem resA_res (c d : Int) (a : A8.At) : resA d (resA c a) = resA c a := by
  show (⟨a.kd, true, atR d (resA c a), a.cs, a.nm⟩ : A8.At) = ⟨a.kd, true, atR c a, a.cs, a.nm⟩
  rw [atR_res]
mutual
theorem res_res (c d : Int) : ∀ n : Nd, resN d (resN c n) = resN c n
  | .mk k mn mx a ks => by
    rw [resN, resN, resL_res c d ks]
    congr 1
    have h1 : (resL c ks).isEmpty = ks.isEmpty := by rw [resL_map]; cases ks <;> rfl
    rw [h1]
    split
    · exact resA_res c d a
    · rfl
theorem resL_res (c d : Int) : ∀ ns : List Nd, resL d (resL c ns) = resL c ns
  | [] => by rw [resL, resL]
  | n :: ns => by rw [resL, resL, res_res c d n, resL_res c d ns]
end
theorem resQ_res (c d : Int) (q : Qu) : resQ d (resQ c q) = resQ c q := by
  unfold resQ
  simp only
  rw [res_res]
end Go.Proofs.YtdoioaeppepndaaGreatDoor.F11
namespace Go.Proofs.YtdoioaeppepndaaGreatDoor
open Go.RowKit
open A8

theorem infoNode11 : (Tryz.prog.info? 31).map (fun i => (i.zero, i.size, i.bytes)) = some (some (.agg #[.int .i64 0, .int .i64 0, .int .i64 0, .int .i64 0, .bool false, .int .u64 0, .slice none 0 0, .string ⟨#[]⟩, .slice none 0 0]), 9, 112) := by kernel_rfl
set_option maxRecDepth 100000 in
set_option maxHeartbeats 4000000 in
theorem cloneNode_any (v : Value) (cs : List Tr) (w : World) (h : Sl w 9 cs.length v (cs.flatMap Tr.row)) (hs : cs.length ≤ 1000000) (h1 : ∀ u ∈ cs.flatMap Tr.row, u.oneCell' = true) :
    Calls Tryz.prog 98 #[v] w fun e w' => ∃ (A : Option Addr) (c : Nat), e = .returned (.slice A cs.length c) ∧ w'.ownsRow w.heap.size 31 9 (.slice A cs.length c) cs.length (cs.flatMap Tr.row) ∧ Below w.heap.size w w' := by
  have H1 := Lib.hid h1
  clear h1
  obtain ⟨i0, hi, hz0, hz1, hz2⟩ := info_parts infoNode11
  have hq : ∀ (w : World) (a : Option Addr) (n c : Nat), (binOp .eql 29 (.slice a n c) (.slice none 0 0)).run Tryz.prog w = .ok (.bool a.isNone) w := fun w a n c => Lib.run_eql_slice_nil w _ _ a n c 0 0 Tryz.underlying29
  have hX := h
  obtain ⟨hl, hm, A, cap, rfl, hc, hn, hcell⟩ := h
  cases A with
  | none =>
    obtain rfl : cap = 0 := hn rfl
    have h0 : cs.length = 0 := by omega
    obtain rfl : cs = [] := List.eq_nil_of_length_eq_zero h0
    have own : w.ownsRow w.heap.size 31 9 (.slice none 0 0) 0 [] := World.ownsRow_nil _ _ _ _
    clear hcell hX hl
    simp only [List.length_nil]
    go_enter Tryz.func98, Tryz.ntmps98
    go_wp2
    go_ret
    exact ⟨_, _, rfl, own, Below.refl _ _⟩
  | some a =>
    have hb1 := b1 w (.cells #[] 31)
    have hown : (w.alloc (.cells #[] 31)).ownsRow w.heap.size 31 9 (.slice (some ⟨w.heap.size, 0, none⟩) 0 0) 0 [] := World.ownsRow_made w #[] 0 (Nat.le_refl _) (by unfold maxLen; omega) rfl
    obtain ⟨A', c', w', hrun, hown', hgrow⟩ := run_append_any (P := Tryz.prog) (w.alloc (.cells #[] 31)) w.heap.size 29 29 31 i0 (.agg #[.int .i64 0, .int .i64 0, .int .i64 0, .int .i64 0, .bool false, .int .u64 0, .slice none 0 0, .string ⟨#[]⟩, .slice none 0 0]) 9 112 Tryz.underlying29 hi hz0 hz1 hz2 rfl (by decide) _ 0 [] hown _ cs.length _ (hX.later hb1) (H1.out) (by unfold maxLen; omega) (by omega) (by simp) cs.length _ (Nat.zero_add _) rfl
    have hb : Below w.heap.size w w' := hb1.grown hgrow (by simp) (fun k e => by cases e; exact Nat.le_refl _)
    obtain ⟨xs, hxs⟩ : ∃ xs, xs = [] ++ cs.flatMap Tr.row := ⟨_, rfl⟩
    rw [← hxs] at hown'
    have HO := Lib.hid hown'
    have HX := Lib.hid hxs
    clear hX hcell hl hown hown' hgrow hxs
    go_enter Tryz.func98, Tryz.ntmps98
    go_wp2_with (at_builtin; refine wpList_append_run rfl _ _ _ rfl rfl rfl hrun ?_)
    go_ret
    refine ⟨A', c', rfl, ?_, hb⟩
    have := HO.out
    rw [HX.out, List.nil_append] at this
    exact this
theorem infoHave11 : (Tryz.prog.info? 96).map (fun i => (i.zero, i.size, i.bytes)) = some (some (.agg #[.int .i64 0, .string ⟨#[]⟩, .int .i64 0, .int .i64 0]), 4, 40) := by kernel_rfl
set_option maxRecDepth 100000 in
set_option maxHeartbeats 4000000 in
theorem cloneHave_any (v : Value) (cs : List Hv) (w : World) (h : Sl w 4 cs.length v (cs.flatMap hvC)) (hs : cs.length ≤ 1000000) (h1 : ∀ u ∈ cs.flatMap hvC, u.oneCell' = true) :
    Calls Tryz.prog 51 #[v] w fun e w' => ∃ (A : Option Addr) (c : Nat), e = .returned (.slice A cs.length c) ∧ w'.ownsRow w.heap.size 96 4 (.slice A cs.length c) cs.length (cs.flatMap hvC) ∧ Below w.heap.size w w' := by
  have H1 := Lib.hid h1
  clear h1
  obtain ⟨i0, hi, hz0, hz1, hz2⟩ := info_parts infoHave11
  have hq : ∀ (w : World) (a : Option Addr) (n c : Nat), (binOp .eql 32 (.slice a n c) (.slice none 0 0)).run Tryz.prog w = .ok (.bool a.isNone) w := fun w a n c => Lib.run_eql_slice_nil w _ _ a n c 0 0 Tryz.underlying32
  have hX := h
  obtain ⟨hl, hm, A, cap, rfl, hc, hn, hcell⟩ := h
  cases A with
  | none =>
    obtain rfl : cap = 0 := hn rfl
    have h0 : cs.length = 0 := by omega
    obtain rfl : cs = [] := List.eq_nil_of_length_eq_zero h0
    have own : w.ownsRow w.heap.size 96 4 (.slice none 0 0) 0 [] := World.ownsRow_nil _ _ _ _
    clear hcell hX hl
    simp only [List.length_nil]
    go_enter Tryz.func51, Tryz.ntmps51
    go_wp2
    go_ret
    exact ⟨_, _, rfl, own, Below.refl _ _⟩
  | some a =>
    have hb1 := b1 w (.cells #[] 96)
    have hown : (w.alloc (.cells #[] 96)).ownsRow w.heap.size 96 4 (.slice (some ⟨w.heap.size, 0, none⟩) 0 0) 0 [] := World.ownsRow_made w #[] 0 (Nat.le_refl _) (by unfold maxLen; omega) rfl
    obtain ⟨A', c', w', hrun, hown', hgrow⟩ := run_append_any (P := Tryz.prog) (w.alloc (.cells #[] 96)) w.heap.size 32 32 96 i0 (.agg #[.int .i64 0, .string ⟨#[]⟩, .int .i64 0, .int .i64 0]) 4 40 Tryz.underlying32 hi hz0 hz1 hz2 rfl (by decide) _ 0 [] hown _ cs.length _ (hX.later hb1) (H1.out) (by unfold maxLen; omega) (by omega) (by simp) cs.length _ (Nat.zero_add _) rfl
    have hb : Below w.heap.size w w' := hb1.grown hgrow (by simp) (fun k e => by cases e; exact Nat.le_refl _)
    obtain ⟨xs, hxs⟩ : ∃ xs, xs = [] ++ cs.flatMap hvC := ⟨_, rfl⟩
    rw [← hxs] at hown'
    have HO := Lib.hid hown'
    have HX := Lib.hid hxs
    clear hX hcell hl hown hown' hgrow hxs
    go_enter Tryz.func51, Tryz.ntmps51
    go_wp2_with (at_builtin; refine wpList_append_run rfl _ _ _ rfl rfl rfl hrun ?_)
    go_ret
    refine ⟨A', c', rfl, ?_, hb⟩
    have := HO.out
    rw [HX.out, List.nil_append] at this
    exact this
theorem infoAgg11 : (Tryz.prog.info? 92).map (fun i => (i.zero, i.size, i.bytes)) = some (some (.agg #[.int .i64 0, .string ⟨#[]⟩]), 2, 24) := by kernel_rfl
set_option maxRecDepth 100000 in
set_option maxHeartbeats 4000000 in
theorem cloneAgg_any (v : Value) (cs : List Ag) (w : World) (h : Sl w 2 cs.length v (cs.flatMap agC)) (hs : cs.length ≤ 1000000) (h1 : ∀ u ∈ cs.flatMap agC, u.oneCell' = true) :
    Calls Tryz.prog 52 #[v] w fun e w' => ∃ (A : Option Addr) (c : Nat), e = .returned (.slice A cs.length c) ∧ w'.ownsRow w.heap.size 92 2 (.slice A cs.length c) cs.length (cs.flatMap agC) ∧ Below w.heap.size w w' := by
  have H1 := Lib.hid h1
  clear h1
  obtain ⟨i0, hi, hz0, hz1, hz2⟩ := info_parts infoAgg11
  have hq : ∀ (w : World) (a : Option Addr) (n c : Nat), (binOp .eql 33 (.slice a n c) (.slice none 0 0)).run Tryz.prog w = .ok (.bool a.isNone) w := fun w a n c => Lib.run_eql_slice_nil w _ _ a n c 0 0 Tryz.underlying33
  have hX := h
  obtain ⟨hl, hm, A, cap, rfl, hc, hn, hcell⟩ := h
  cases A with
  | none =>
    obtain rfl : cap = 0 := hn rfl
    have h0 : cs.length = 0 := by omega
    obtain rfl : cs = [] := List.eq_nil_of_length_eq_zero h0
    have own : w.ownsRow w.heap.size 92 2 (.slice none 0 0) 0 [] := World.ownsRow_nil _ _ _ _
    clear hcell hX hl
    simp only [List.length_nil]
    go_enter Tryz.func52, Tryz.ntmps52
    go_wp2
    go_ret
    exact ⟨_, _, rfl, own, Below.refl _ _⟩
  | some a =>
    have hb1 := b1 w (.cells #[] 92)
    have hown : (w.alloc (.cells #[] 92)).ownsRow w.heap.size 92 2 (.slice (some ⟨w.heap.size, 0, none⟩) 0 0) 0 [] := World.ownsRow_made w #[] 0 (Nat.le_refl _) (by unfold maxLen; omega) rfl
    obtain ⟨A', c', w', hrun, hown', hgrow⟩ := run_append_any (P := Tryz.prog) (w.alloc (.cells #[] 92)) w.heap.size 33 33 92 i0 (.agg #[.int .i64 0, .string ⟨#[]⟩]) 2 24 Tryz.underlying33 hi hz0 hz1 hz2 rfl (by decide) _ 0 [] hown _ cs.length _ (hX.later hb1) (H1.out) (by unfold maxLen; omega) (by omega) (by simp) cs.length _ (Nat.zero_add _) rfl
    have hb : Below w.heap.size w w' := hb1.grown hgrow (by simp) (fun k e => by cases e; exact Nat.le_refl _)
    obtain ⟨xs, hxs⟩ : ∃ xs, xs = [] ++ cs.flatMap agC := ⟨_, rfl⟩
    rw [← hxs] at hown'
    have HO := Lib.hid hown'
    have HX := Lib.hid hxs
    clear hX hcell hl hown hown' hgrow hxs
    go_enter Tryz.func52, Tryz.ntmps52
    go_wp2_with (at_builtin; refine wpList_append_run rfl _ _ _ rfl rfl rfl hrun ?_)
    go_ret
    refine ⟨A', c', rfl, ?_, hb⟩
    have := HO.out
    rw [HX.out, List.nil_append] at this
    exact this
theorem hv_one11 {hv : List Hv} : ∀ u ∈ hv.flatMap hvC, u.oneCell' = true := by
  intro u hu
  obtain ⟨c, _, h⟩ := List.mem_flatMap.1 hu
  simp only [hvC, List.mem_cons, List.not_mem_nil, or_false] at h
  rcases h with rfl | rfl | rfl | rfl <;> rfl
theorem ag_one11 {em : List Ag} : ∀ u ∈ em.flatMap agC, u.oneCell' = true := by
  intro u hu
  obtain ⟨c, _, h⟩ := List.mem_flatMap.1 hu
  simp only [agC, List.mem_cons, List.not_mem_nil, or_false] at h
  rcases h with rfl | rfl <;> rfl
theorem row_one11 {w : World} {ks : List Tr} (hk : ∀ t ∈ ks, OneT w t) : ∀ u ∈ ks.flatMap Tr.row, u.oneCell' = true := by
  intro u hu
  obtain ⟨t, ht, h⟩ := List.mem_flatMap.1 hu
  obtain ⟨k, mn, mx, ⟨⟨kd, bd, bn, cs, nm⟩, sc⟩, sk, ks'⟩ := t
  obtain ⟨-, ⟨-, h1⟩, h2⟩ := hk _ ht
  simp only at h1
  have e1 : ∃ A n c, sc = .slice A n c := by obtain ⟨A1, c1, e, -, -⟩ := sl_get (by decide) h1; exact ⟨_, _, _, e⟩
  have e2 : ∃ A n c, sk = .slice A n c := by obtain ⟨A1, c1, e, -, -⟩ := sl_get (by decide) h2; exact ⟨_, _, _, e⟩
  obtain ⟨A1, n1, c1, e1⟩ := e1
  obtain ⟨A2, n2, c2, e2⟩ := e2
  simp only [Tr.row, List.mem_cons, List.not_mem_nil, or_false] at h
  rcases h with h | h | h | h | h | h | h | h | h
  all_goals
    rw [h]
    first | rfl | (rw [e1]; rfl) | (rw [e2]; rfl)
end Go.Proofs.YtdoioaeppepndaaGreatDoor
namespace Go.Proofs.YtdoioaeppepndaaGreatDoor
open Go.RowKit
open A8 Tk7 P9 W10 F11

/-- The head of a block. -/
def Pl11 (a : Addr) : Prop := ∃ g0, a = ⟨g0, 0, none⟩
theorem cell_ex11 {W : World} {m n g c j : Nat} {xs : List Value} (h : W.ownsRow m 31 9 (.slice (some ⟨g, 0, none⟩) n c) n xs) (hj : j < n * 9) : ∃ u, W.cell? ⟨g, j, none⟩ = some u := by
  have hl := h.1
  exact ⟨xs[j], by rw [h.cellAt j hj, List.getElem?_eq_getElem (by omega)]⟩
/-- What a walk asks of the cells of an element that it puts. -/
theorem put_facts11 {W : World} {m n c i : Nat} {a : Addr} {xs : List Value} (ha : Pl11 a) (h : W.ownsRow m 31 9 (.slice (some a) n c) n xs) (hi : i < n) (v0 v1 v2 v3 v4 v5 v6 v7 : Value) :
    (∃ u, W.cell? (a.add (i * 9)) = some u) ∧ W.frozen? (a.add (i * 9)) = false ∧ (∃ u, (W.setCell (a.add (i * 9)) v0).cell? ⟨(a.add (i * 9)).block, (a.add (i * 9)).off + 1, none⟩ = some u) ∧ (W.setCell (a.add (i * 9)) v0).frozen? ⟨(a.add (i * 9)).block, (a.add (i * 9)).off + 1, none⟩ = false ∧ (∃ u, ((W.setCell (a.add (i * 9)) v0).setCell ⟨(a.add (i * 9)).block, (a.add (i * 9)).off + 1, none⟩ v1).cell? ⟨(a.add (i * 9)).block, (a.add (i * 9)).off + 2, none⟩ = some u) ∧ ((W.setCell (a.add (i * 9)) v0).setCell ⟨(a.add (i * 9)).block, (a.add (i * 9)).off + 1, none⟩ v1).frozen? ⟨(a.add (i * 9)).block, (a.add (i * 9)).off + 2, none⟩ = false ∧ (∃ u, (((W.setCell (a.add (i * 9)) v0).setCell ⟨(a.add (i * 9)).block, (a.add (i * 9)).off + 1, none⟩ v1).setCell ⟨(a.add (i * 9)).block, (a.add (i * 9)).off + 2, none⟩ v2).cell? ⟨(a.add (i * 9)).block, (a.add (i * 9)).off + 3, none⟩ = some u) ∧ (((W.setCell (a.add (i * 9)) v0).setCell ⟨(a.add (i * 9)).block, (a.add (i * 9)).off + 1, none⟩ v1).setCell ⟨(a.add (i * 9)).block, (a.add (i * 9)).off + 2, none⟩ v2).frozen? ⟨(a.add (i * 9)).block, (a.add (i * 9)).off + 3, none⟩ = false ∧ (∃ u, ((((W.setCell (a.add (i * 9)) v0).setCell ⟨(a.add (i * 9)).block, (a.add (i * 9)).off + 1, none⟩ v1).setCell ⟨(a.add (i * 9)).block, (a.add (i * 9)).off + 2, none⟩ v2).setCell ⟨(a.add (i * 9)).block, (a.add (i * 9)).off + 3, none⟩ v3).cell? ⟨(a.add (i * 9)).block, (a.add (i * 9)).off + 4, none⟩ = some u) ∧ ((((W.setCell (a.add (i * 9)) v0).setCell ⟨(a.add (i * 9)).block, (a.add (i * 9)).off + 1, none⟩ v1).setCell ⟨(a.add (i * 9)).block, (a.add (i * 9)).off + 2, none⟩ v2).setCell ⟨(a.add (i * 9)).block, (a.add (i * 9)).off + 3, none⟩ v3).frozen? ⟨(a.add (i * 9)).block, (a.add (i * 9)).off + 4, none⟩ = false ∧ (∃ u, (((((W.setCell (a.add (i * 9)) v0).setCell ⟨(a.add (i * 9)).block, (a.add (i * 9)).off + 1, none⟩ v1).setCell ⟨(a.add (i * 9)).block, (a.add (i * 9)).off + 2, none⟩ v2).setCell ⟨(a.add (i * 9)).block, (a.add (i * 9)).off + 3, none⟩ v3).setCell ⟨(a.add (i * 9)).block, (a.add (i * 9)).off + 4, none⟩ v4).cell? ⟨(a.add (i * 9)).block, (a.add (i * 9)).off + 5, none⟩ = some u) ∧ (((((W.setCell (a.add (i * 9)) v0).setCell ⟨(a.add (i * 9)).block, (a.add (i * 9)).off + 1, none⟩ v1).setCell ⟨(a.add (i * 9)).block, (a.add (i * 9)).off + 2, none⟩ v2).setCell ⟨(a.add (i * 9)).block, (a.add (i * 9)).off + 3, none⟩ v3).setCell ⟨(a.add (i * 9)).block, (a.add (i * 9)).off + 4, none⟩ v4).frozen? ⟨(a.add (i * 9)).block, (a.add (i * 9)).off + 5, none⟩ = false ∧ (∃ u, ((((((W.setCell (a.add (i * 9)) v0).setCell ⟨(a.add (i * 9)).block, (a.add (i * 9)).off + 1, none⟩ v1).setCell ⟨(a.add (i * 9)).block, (a.add (i * 9)).off + 2, none⟩ v2).setCell ⟨(a.add (i * 9)).block, (a.add (i * 9)).off + 3, none⟩ v3).setCell ⟨(a.add (i * 9)).block, (a.add (i * 9)).off + 4, none⟩ v4).setCell ⟨(a.add (i * 9)).block, (a.add (i * 9)).off + 5, none⟩ v5).cell? ⟨(a.add (i * 9)).block, (a.add (i * 9)).off + 6, none⟩ = some u) ∧ ((((((W.setCell (a.add (i * 9)) v0).setCell ⟨(a.add (i * 9)).block, (a.add (i * 9)).off + 1, none⟩ v1).setCell ⟨(a.add (i * 9)).block, (a.add (i * 9)).off + 2, none⟩ v2).setCell ⟨(a.add (i * 9)).block, (a.add (i * 9)).off + 3, none⟩ v3).setCell ⟨(a.add (i * 9)).block, (a.add (i * 9)).off + 4, none⟩ v4).setCell ⟨(a.add (i * 9)).block, (a.add (i * 9)).off + 5, none⟩ v5).frozen? ⟨(a.add (i * 9)).block, (a.add (i * 9)).off + 6, none⟩ = false ∧ (∃ u, (((((((W.setCell (a.add (i * 9)) v0).setCell ⟨(a.add (i * 9)).block, (a.add (i * 9)).off + 1, none⟩ v1).setCell ⟨(a.add (i * 9)).block, (a.add (i * 9)).off + 2, none⟩ v2).setCell ⟨(a.add (i * 9)).block, (a.add (i * 9)).off + 3, none⟩ v3).setCell ⟨(a.add (i * 9)).block, (a.add (i * 9)).off + 4, none⟩ v4).setCell ⟨(a.add (i * 9)).block, (a.add (i * 9)).off + 5, none⟩ v5).setCell ⟨(a.add (i * 9)).block, (a.add (i * 9)).off + 6, none⟩ v6).cell? ⟨(a.add (i * 9)).block, (a.add (i * 9)).off + 7, none⟩ = some u) ∧ (((((((W.setCell (a.add (i * 9)) v0).setCell ⟨(a.add (i * 9)).block, (a.add (i * 9)).off + 1, none⟩ v1).setCell ⟨(a.add (i * 9)).block, (a.add (i * 9)).off + 2, none⟩ v2).setCell ⟨(a.add (i * 9)).block, (a.add (i * 9)).off + 3, none⟩ v3).setCell ⟨(a.add (i * 9)).block, (a.add (i * 9)).off + 4, none⟩ v4).setCell ⟨(a.add (i * 9)).block, (a.add (i * 9)).off + 5, none⟩ v5).setCell ⟨(a.add (i * 9)).block, (a.add (i * 9)).off + 6, none⟩ v6).frozen? ⟨(a.add (i * 9)).block, (a.add (i * 9)).off + 7, none⟩ = false ∧ (∃ u, ((((((((W.setCell (a.add (i * 9)) v0).setCell ⟨(a.add (i * 9)).block, (a.add (i * 9)).off + 1, none⟩ v1).setCell ⟨(a.add (i * 9)).block, (a.add (i * 9)).off + 2, none⟩ v2).setCell ⟨(a.add (i * 9)).block, (a.add (i * 9)).off + 3, none⟩ v3).setCell ⟨(a.add (i * 9)).block, (a.add (i * 9)).off + 4, none⟩ v4).setCell ⟨(a.add (i * 9)).block, (a.add (i * 9)).off + 5, none⟩ v5).setCell ⟨(a.add (i * 9)).block, (a.add (i * 9)).off + 6, none⟩ v6).setCell ⟨(a.add (i * 9)).block, (a.add (i * 9)).off + 7, none⟩ v7).cell? ⟨(a.add (i * 9)).block, (a.add (i * 9)).off + 8, none⟩ = some u) ∧ ((((((((W.setCell (a.add (i * 9)) v0).setCell ⟨(a.add (i * 9)).block, (a.add (i * 9)).off + 1, none⟩ v1).setCell ⟨(a.add (i * 9)).block, (a.add (i * 9)).off + 2, none⟩ v2).setCell ⟨(a.add (i * 9)).block, (a.add (i * 9)).off + 3, none⟩ v3).setCell ⟨(a.add (i * 9)).block, (a.add (i * 9)).off + 4, none⟩ v4).setCell ⟨(a.add (i * 9)).block, (a.add (i * 9)).off + 5, none⟩ v5).setCell ⟨(a.add (i * 9)).block, (a.add (i * 9)).off + 6, none⟩ v6).setCell ⟨(a.add (i * 9)).block, (a.add (i * 9)).off + 7, none⟩ v7).frozen? ⟨(a.add (i * 9)).block, (a.add (i * 9)).off + 8, none⟩ = false := by
  obtain ⟨g, rfl⟩ := ha
  rw [addK]
  have s0 := h.stored (i * 9) v0
  have s1 := s0.1.stored (i * 9 + 1) v1
  have s2 := s1.1.stored (i * 9 + 2) v2
  have s3 := s2.1.stored (i * 9 + 3) v3
  have s4 := s3.1.stored (i * 9 + 4) v4
  have s5 := s4.1.stored (i * 9 + 5) v5
  have s6 := s5.1.stored (i * 9 + 6) v6
  have s7 := s6.1.stored (i * 9 + 7) v7
  have q0 : i * 9 + 0 < n * 9 := by omega
  have q1 : i * 9 + 1 < n * 9 := by omega
  have q2 : i * 9 + 2 < n * 9 := by omega
  have q3 : i * 9 + 3 < n * 9 := by omega
  have q4 : i * 9 + 4 < n * 9 := by omega
  have q5 : i * 9 + 5 < n * 9 := by omega
  have q6 : i * 9 + 6 < n * 9 := by omega
  have q7 : i * 9 + 7 < n * 9 := by omega
  have q8 : i * 9 + 8 < n * 9 := by omega
  exact ⟨cell_ex11 h (by omega), h.frozenAt _, cell_ex11 s0.1 q1, s0.1.frozenAt _, cell_ex11 s1.1 q2, s1.1.frozenAt _, cell_ex11 s2.1 q3, s2.1.frozenAt _, cell_ex11 s3.1 q4, s3.1.frozenAt _, cell_ex11 s4.1 q5, s4.1.frozenAt _, cell_ex11 s5.1 q6, s5.1.frozenAt _, cell_ex11 s6.1 q7, s6.1.frozenAt _, cell_ex11 s7.1 q8, s7.1.frozenAt _⟩
theorem grown_i11 (w : World) (b : Nat) : w.grownBy w (some b) := ⟨rfl, rfl, rfl, Nat.le_refl _, fun _ _ _ => rfl⟩
theorem grown_s11 {w W : World} {b : Nat} (h : w.grownBy W (some b)) (i : Nat) (v : Value) : w.grownBy (W.setCell ⟨b, i, none⟩ v) (some b) :=
  ⟨h.os, h.tape, h.output, by have := h.size; simpa [World.setCell] using this, fun k hk hne => (Below.heap_setCell _ _ _ _ (fun e => hne (by rw [e]))).trans (h.block k hk hne)⟩
/-- A node put into its box. -/
def putB (W : World) (b : Nat) (v0 v1 v2 v3 v4 v5 v6 v7 v8 : Value) : World :=
  ((((((((W.setCell ⟨b, 0, none⟩ v0).setCell ⟨b, 1, none⟩ v1).setCell ⟨b, 2, none⟩ v2).setCell ⟨b, 3, none⟩ v3).setCell ⟨b, 4, none⟩ v4).setCell ⟨b, 5, none⟩ v5).setCell ⟨b, 6, none⟩ v6).setCell ⟨b, 7, none⟩ v7).setCell ⟨b, 8, none⟩ v8
theorem putB_blk {W : World} {b : Nat} {x0 x1 x2 x3 x4 x5 x6 x7 x8 : Value} (h : Blk W b [x0, x1, x2, x3, x4, x5, x6, x7, x8]) (v0 v1 v2 v3 v4 v5 v6 v7 v8 : Value) : Blk (putB W b v0 v1 v2 v3 v4 v5 v6 v7 v8) b [v0, v1, v2, v3, v4, v5, v6, v7, v8] :=
  (((((((((h.set 0 v0).set 1 v1).set 2 v2).set 3 v3).set 4 v4).set 5 v5).set 6 v6).set 7 v7).set 8 v8)
theorem putB_grown (W : World) (b : Nat) (v0 v1 v2 v3 v4 v5 v6 v7 v8 : Value) : W.grownBy (putB W b v0 v1 v2 v3 v4 v5 v6 v7 v8) (some b) :=
  grown_s11 (grown_s11 (grown_s11 (grown_s11 (grown_s11 (grown_s11 (grown_s11 (grown_s11 (grown_s11 (grown_i11 W b) 0 v0) 1 v1) 2 v2) 3 v3) 4 v4) 5 v5) 6 v6) 7 v7) 8 v8
theorem putB_below {w W : World} {m b : Nat} (h : Below m w W) (hb : m ≤ b) (v0 v1 v2 v3 v4 v5 v6 v7 v8 : Value) : Below m w (putB W b v0 v1 v2 v3 v4 v5 v6 v7 v8) :=
  ((((((((h.setCell (p := ⟨b, 0, none⟩) hb _).setCell (p := ⟨b, 1, none⟩) hb _).setCell (p := ⟨b, 2, none⟩) hb _).setCell (p := ⟨b, 3, none⟩) hb _).setCell (p := ⟨b, 4, none⟩) hb _).setCell (p := ⟨b, 5, none⟩) hb _).setCell (p := ⟨b, 6, none⟩) hb _).setCell (p := ⟨b, 7, none⟩) hb _).setCell (p := ⟨b, 8, none⟩) hb _

/-- What a renewed node is: in new memory. -/
def ChOut (w : World) (N : Nd) (e : Ending) (w' : World) : Prop :=
  ∃ (k mn mx kd : Int) (bd : Bool) (bn : Int) (cs : List Cn) (nm : List UInt8) (B : Option Addr) (p q : Nat) (A : Option Addr) (n c : Nat) (ks : List Tr),
    e = .returned (.agg #[.int .i64 k, .int .i64 mn, .int .i64 mx, .int .i64 kd, .bool bd, .int .u64 bn, .slice B p q, .string (strOf nm), .slice A n c]) ∧
    (Tr.mk k mn mx ⟨⟨kd, bd, bn, cs, nm⟩, .slice B p q⟩ (.slice A n c) ks).nd = N ∧ Below w.heap.size w w' ∧ TrW (hide (fun k => decide (k < w.heap.size)) w') (.mk k mn mx ⟨⟨kd, bd, bn, cs, nm⟩, .slice B p q⟩ (.slice A n c) ks)
/-- What stands while the kids are renewed. -/
structure ChI (w wr : World) (m : Nat) (R : List Value) (g : GA) (v : Value) (Ks : List Tr) (c : Int) (j : Nat) (ts : List Tr) : Prop where
  blk : Blk wr w.heap.size R
  res : Blk wr (w.heap.size + 1) [.int .i64 0, .int .i64 0, .int .i64 0, .int .i64 0, .bool false, .int .u64 0, .slice none 0 0, .string ⟨#[]⟩, .slice none 0 0]
  bel : Below w.heap.size w wr
  atom : OneA (hide (two m v nil3) wr) g
  own : wr.ownsRow m 31 9 v Ks.length ((ts ++ Ks.drop j).flatMap Tr.row)
  el : ∀ t ∈ ts, Fr m v nil3 wr t
  len : ts.length = j
  map : ts.map Tr.nd = (Ks.take j).map fun t => resN c t.nd
theorem ChI.num {w wr : World} {m n cp : Nat} {A : Option Addr} {R : List Value} {g : GA} {Ks : List Tr} {c : Int} {j : Nat} {ts : List Tr} (h : ChI w wr m R g (.slice A n cp) Ks c j ts) : n = Ks.length := by
  rcases h.own.2 with ⟨hv, hl⟩ | ⟨g', cap, cur, hv, _⟩
  · cases hv; exact hl.symm
  · cases hv; rfl
theorem ChI.some_ {w wr : World} {m n cp : Nat} {A : Option Addr} {R : List Value} {g : GA} {Ks : List Tr} {c : Int} {j : Nat} {ts : List Tr} (h : ChI w wr m R g (.slice A n cp) Ks c j ts) (hn : 0 < Ks.length) : ∃ a, A = some a ∧ Hid (Pl11 a) := by
  rcases h.own.2 with ⟨hv, hl⟩ | ⟨g', cap, cur, hv, _⟩
  · cases hv; omega
  · cases hv; exact ⟨_, rfl, Lib.hid ⟨g', rfl⟩⟩
theorem ChI.all {w wr : World} {m : Nat} {v : Value} {R : List Value} {g : GA} {Ks : List Tr} {c : Int} {j : Nat} {ts : List Tr} (h : ChI w wr m R g v Ks c j ts) (hj : j ≤ Ks.length) : (ts ++ Ks.drop j).length = Ks.length := by
  rw [List.length_append, List.length_drop, h.len]
  omega
/-- The kid with a number, as it lies in the row. -/
theorem ChI.kid {w wr : World} {m n cp : Nat} {a : Addr} {R : List Value} {g : GA} {Ks : List Tr} {c : Int} {j : Nat} {ts : List Tr} (h : ChI w wr m R g (.slice (some a) n cp) Ks c j ts) (hj : j < Ks.length) : El wr (a.add (j * 9)) Ks[j].row := by
  have hl := h.all (by omega)
  have ho := Sl.of_own h.own
  rw [← hl] at ho
  obtain ⟨A', cap', hv, -, hels⟩ := sl_els (by decide) row_len ho
  cases hv
  obtain ⟨a2, ha, -, hel⟩ := hels j (by omega)
  cases ha
  have h1 : (ts ++ Ks.drop j)[j]'(by omega) = Ks[j] := by
    rw [List.getElem_append_right (by rw [h.len]; omega)]
    simp [h.len]
  rw [h1] at hel
  exact hel
theorem ChI.row {w wr w4 : World} {m n cp : Nat} {a : Addr} {R : List Value} {g : GA} {Ks : List Tr} {c : Int} {j : Nat} {ts : List Tr} (h : ChI w wr m R g (.slice (some a) n cp) Ks c j ts) (hb : Below wr.heap.size wr w4) : w4.ownsRow m 31 9 (.slice (some a) n cp) n ((ts ++ Ks.drop j).flatMap Tr.row) := by
  have ho := own_later h.own hb
  rw [← h.num] at ho
  exact ho
theorem ChI.step {w wr w4 : World} {m n cp : Nat} {a : Addr} {R : List Value} {g : GA} {Ks : List Tr} {c : Int} {j : Nat} {ts : List Tr} (h : ChI w wr m R g (.slice (some a) n cp) Ks c j ts) (ha : Pl11 a) (hm : w.heap.size + 2 ≤ m) (hj : j < Ks.length) (hb : Below wr.heap.size wr w4)
    {w5 : World} (hb5 : Below w4.heap.size w4 w5) {T : Tr} (hT : TrW (hide (fun k => decide (k < w4.heap.size)) w5) T) (hnd : T.nd = resN c Ks[j].nd) {v0 v1 v2 v3 v4 v5 v6 v7 v8 : Value} (hr : T.row = [v0, v1, v2, v3, v4, v5, v6, v7, v8]) :
    ChI w (putE w5 (a.add (j * 9)) v0 v1 v2 v3 v4 v5 v6 v7 v8) m R g (.slice (some a) n cp) Ks c (j + 1) (ts ++ [T]) := by
  obtain ⟨g0, rfl⟩ := ha
  have hbb := bstep hb hb5
  have hn := h.num
  have hlt := h.own.lt g0 rfl
  have hsz := hb.size
  have hfr : Fr m (.slice (some ⟨g0, 0, none⟩) n cp) nil3 w5 T := fr_new hT (by have := h.own.lt g0 rfl; omega) (fun k e => by have := (h.own.lt k e).2; omega) (fun k e => by cases e)
  have hrow := h.row hbb
  obtain ⟨h1, h2⟩ := putE_own hrow (by omega : j < n) v0 v1 v2 v3 v4 v5 v6 v7 v8
  have hle : Le (hide (two m (.slice (some ⟨g0, 0, none⟩) n cp) nil3) w5) (hide (two m (.slice (some ⟨g0, 0, none⟩) n cp) nil3) (putE w5 ((⟨g0, 0, none⟩ : Addr).add (j * 9)) v0 v1 v2 v3 v4 v5 v6 v7 v8)) :=
    hide_le h2.size fun k hk hq => ⟨hq, h2.block k hk (fun e => (two_no hq).1 e.symm)⟩
  have hle2 : Le (hide (two m (.slice (some ⟨g0, 0, none⟩) n cp) nil3) wr) (hide (two m (.slice (some ⟨g0, 0, none⟩) n cp) nil3) w5) := hide_le hbb.size fun k hk hp => ⟨hp, hbb.block k hk⟩
  refine ⟨(h.blk.later hbb).grown h2 (fun e => by injection e with e; omega), (h.res.later hbb).grown h2 (fun e => by injection e with e; omega), (bstep h.bel hbb).grown h2 (bstep h.bel hbb).size (fun k e => by injection e with e; omega), oneA_le (oneA_le h.atom hle2) hle, ?_, ?_, by rw [List.length_append, h.len]; rfl, ?_⟩
  · have hset : set9 ((ts ++ Ks.drop j).flatMap Tr.row) (j * 9) T.row = ((ts ++ [T]) ++ Ks.drop (j + 1)).flatMap Tr.row := by
      rw [flat_set row_len _ _ _ (by rw [h.all (by omega)]; exact hj)]
      congr 1
      have e2 : Ks.drop j = Ks[j] :: Ks.drop (j + 1) := List.drop_eq_getElem_cons hj
      rw [e2, List.set_append_right _ _ (by rw [h.len]; omega), h.len, Nat.sub_self, List.set_cons_zero, List.append_assoc]
      rfl
    rw [← hr, hset, hn] at h1
    rw [hn]
    exact h1
  · intro t ht
    rcases List.mem_append.1 ht with ht | ht
    · exact trW_le (trW_le (h.el t ht) hle2) hle
    · rw [List.mem_singleton.1 ht]
      exact trW_le hfr hle
  · rw [List.map_append, h.map, List.take_succ_eq_append_getElem hj, List.map_append, List.map_cons, List.map_nil, List.map_cons, List.map_nil, hnd]
theorem ChI.done {w wr : World} {m : Nat} {v : Value} {R : List Value} {k mn mx : Int} {g : GA} {Ks : List Tr} {c : Int} {ts : List Tr} (h : ChI w wr m R g v Ks c Ks.length ts) (hok : okV k ∧ okV mn ∧ okV mx) : OwnT m wr k mn mx g v ts := by
  have ho := h.own
  rw [List.drop_length, List.append_nil] at ho
  refine ⟨hok, h.atom, ?_, h.el⟩
  rw [h.len]
  exact ho
theorem ch_start {w wX : World} {k mn mx kd bn : Int} {bd : Bool} {cs : List Cn} {nm : List UInt8} {x6 x8 : Value} {B A : Option Addr} {p q n cp : Nat} {Ks : List Tr} {c : Int} (hok : OkA ⟨kd, bd, bn, cs, nm⟩)
    (hK : Blk wX w.heap.size [.int .i64 k, .int .i64 mn, .int .i64 mx, .int .i64 kd, .bool bd, .int .u64 bn, x6, .string (strOf nm), x8]) (hR : Blk wX (w.heap.size + 1) [.int .i64 0, .int .i64 0, .int .i64 0, .int .i64 0, .bool false, .int .u64 0, .slice none 0 0, .string ⟨#[]⟩, .slice none 0 0]) (hb : Below w.heap.size w wX)
    (hC : wX.ownsRow (w.heap.size + 2) 94 2 (.slice B p q) cs.length (cs.flatMap cnC)) (hN : wX.ownsRow (w.heap.size + 2) 31 9 (.slice A n cp) Ks.length (Ks.flatMap Tr.row)) :
    ChI w ((wX.setCell ⟨w.heap.size, 6, none⟩ (.slice B p q)).setCell ⟨w.heap.size, 8, none⟩ (.slice A n cp)) (w.heap.size + 2) [.int .i64 k, .int .i64 mn, .int .i64 mx, .int .i64 kd, .bool bd, .int .u64 bn, .slice B p q, .string (strOf nm), .slice A n cp] ⟨⟨kd, bd, bn, cs, nm⟩, .slice B p q⟩ (.slice A n cp) Ks c 0 [] := by
  have hC2 := own_set (own_set hC (b := w.heap.size) (by omega) 6 (.slice B p q)) (b := w.heap.size) (by omega) 8 (.slice A n cp)
  have hN2 := own_set (own_set hN (b := w.heap.size) (by omega) 6 (.slice B p q)) (b := w.heap.size) (by omega) 8 (.slice A n cp)
  have hne := own_block_ne hC2 hN2 (by decide)
  refine ⟨(hK.set 6 _).set 8 _, (hR.other (p := ⟨w.heap.size, 6, none⟩) (by simp) _).other (p := ⟨w.heap.size, 8, none⟩) (by simp) _, (hb.setCell (p := ⟨w.heap.size, 6, none⟩) (Nat.le_refl _) _).setCell (p := ⟨w.heap.size, 8, none⟩) (Nat.le_refl _) _, ⟨hok, sl_own hC2 fun k e => two_is (fun e2 => ?_) (fun e2 => by cases e2) (hC.lt k e).1⟩, hN2, (fun t ht => by cases ht), rfl, rfl⟩
  rcases hne with h1 | h1
  · rw [h1] at e; cases e
  · exact h1 (e.trans e2.symm)
theorem drewB {X Y : World} (h : Below X.drew.heap.size X.drew Y) : Below X.heap.size X Y := ⟨h.os, h.tape, h.output, h.size, h.block⟩
theorem belD {n : Nat} {w X : World} (h : Below n w X) : Below n w X.drew := ⟨h.os, h.tape, h.output, h.size, h.block⟩
end Go.Proofs.YtdoioaeppepndaaGreatDoor
