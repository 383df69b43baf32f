/- Walk: WellformedParts. Made by program (wip/tools/gen_wfPts.py). -/
import Derived.Test.YthiacfmedcfcjaaDoorWfOx
import Derived.Test.YthiacfmedcfcjaaDoorWfPx
import Derived.Test.YthiacfmedcfcjaaDoorKitQw
import Derived.Deep.CutBlock
import Derived.Deep.DeepCutAuto
namespace Go.Proofs.YthiacfmedcfcjaaDoor
open Go.RowKit Go.Shelf Go.Maps
open A8 Tk7 P9 W10 Kq
attribute [local go_sem] Oper.semAt_some

theorem pat_is (T : Tr) (w : World) (E : Int) (hT : TrW w T) (hlen : lenN T.nd ≤ 999999) (hG : SG w) (hE : wfE (plainQ T.nd) = E) :
    Calls Tryd.prog 21 #[.agg T.row.toArray] w fun e w' => e = .returned (.int .i64 E) ∧ Below w.heap.size w w' := by
  subst hE
  have hl : (subsT T).length = lenN T.nd := by unfold lenN; rw [← subsT_nd, List.length_map]
  exact wpattern_any T w hT (by omega) hG
theorem OwnT.len {m : Nat} {W : World} {k mn mx : Int} {g : GA} {A : Option Addr} {n c : Nat} {ks : List Tr} (h : OwnT m W k mn mx g (.slice A n c) ks) : n = ks.length := by
  rcases h.own.2 with ⟨hv, hl⟩ | ⟨g', cap, cur, hv, _⟩
  · cases hv; exact hl.symm
  · cases hv; rfl
theorem OwnT.some_ {m : Nat} {W : World} {k mn mx : Int} {g : GA} {A : Option Addr} {n c : Nat} {ks : List Tr} (h : OwnT m W k mn mx g (.slice A n c) ks) (hn : 0 < n) : ∃ a, A = some a ∧ Pl a := by
  rcases h.own.2 with ⟨hv, hl⟩ | ⟨g', cap, cur, hv, _⟩
  · cases hv; omega
  · cases hv; exact ⟨_, rfl, g', rfl⟩
theorem own_facts {m g n c : Nat} {W w : World} {k mn mx : Int} {ga : GA} {ks : List Tr} (h : OwnT m W k mn mx ga (.slice (some ⟨g, 0, none⟩) n c) ks) (hl : n = ks.length) (hn : 0 < n) (hb : Below W.heap.size W w) :
    (∃ u, w.cell? ⟨g, 0, none⟩ = some u) ∧ w.frozen? ⟨g, 0, none⟩ = false ∧ (∃ u, w.cell? ⟨g, 1, none⟩ = some u) ∧ w.frozen? ⟨g, 1, none⟩ = false ∧ (∃ u, w.cell? ⟨g, 2, none⟩ = some u) ∧ w.frozen? ⟨g, 2, none⟩ = false ∧ (∃ u, w.cell? ⟨g, 3, none⟩ = some u) ∧ w.frozen? ⟨g, 3, none⟩ = false ∧ (∃ u, w.cell? ⟨g, 4, none⟩ = some u) ∧ w.frozen? ⟨g, 4, none⟩ = false ∧ (∃ u, w.cell? ⟨g, 5, none⟩ = some u) ∧ w.frozen? ⟨g, 5, none⟩ = false ∧ (∃ u, w.cell? ⟨g, 6, none⟩ = some u) ∧ w.frozen? ⟨g, 6, none⟩ = false ∧ (∃ u, w.cell? ⟨g, 7, none⟩ = some u) ∧ w.frozen? ⟨g, 7, none⟩ = false ∧ (∃ u, w.cell? ⟨g, 8, none⟩ = some u) ∧ w.frozen? ⟨g, 8, none⟩ = false ∧ g < w.heap.size := by
  have ho := (h.later hb).own
  rw [← hl] at ho
  exact ⟨cell_ex ho (by omega), ho.frozenAt 0, cell_ex ho (by omega), ho.frozenAt 1, cell_ex ho (by omega), ho.frozenAt 2, cell_ex ho (by omega), ho.frozenAt 3, cell_ex ho (by omega), ho.frozenAt 4, cell_ex ho (by omega), ho.frozenAt 5, cell_ex ho (by omega), ho.frozenAt 6, cell_ex ho (by omega), ho.frozenAt 7, cell_ex ho (by omega), ho.frozenAt 8, (ho.lt g rfl).2⟩
theorem own_facts8 {m n c i : Nat} {a : Addr} {W w : World} {k mn mx : Int} {ga : GA} {ks : List Tr} (ha : Pl a) (h : OwnT m W k mn mx ga (.slice (some a) n c) ks) (hl : n = ks.length) (hn : i < n) (hb : Below W.heap.size W w) :
    ((∃ u, w.cell? (a.add (i * 9)) = some u) ∧ w.frozen? (a.add (i * 9)) = false ∧ (∃ u, (w.setCell (a.add (i * 9)) (.int .i64 2)).cell? ⟨(a.add (i * 9)).block, (a.add (i * 9)).off + 1, none⟩ = some u) ∧ (w.setCell (a.add (i * 9)) (.int .i64 2)).frozen? ⟨(a.add (i * 9)).block, (a.add (i * 9)).off + 1, none⟩ = false ∧ (∃ u, ((w.setCell (a.add (i * 9)) (.int .i64 2)).setCell ⟨(a.add (i * 9)).block, (a.add (i * 9)).off + 1, none⟩ (.int .i64 0)).cell? ⟨(a.add (i * 9)).block, (a.add (i * 9)).off + 2, none⟩ = some u) ∧ ((w.setCell (a.add (i * 9)) (.int .i64 2)).setCell ⟨(a.add (i * 9)).block, (a.add (i * 9)).off + 1, none⟩ (.int .i64 0)).frozen? ⟨(a.add (i * 9)).block, (a.add (i * 9)).off + 2, none⟩ = false ∧ (∃ u, (((w.setCell (a.add (i * 9)) (.int .i64 2)).setCell ⟨(a.add (i * 9)).block, (a.add (i * 9)).off + 1, none⟩ (.int .i64 0)).setCell ⟨(a.add (i * 9)).block, (a.add (i * 9)).off + 2, none⟩ (.int .i64 0)).cell? ⟨(a.add (i * 9)).block, (a.add (i * 9)).off + 3, none⟩ = some u) ∧ (((w.setCell (a.add (i * 9)) (.int .i64 2)).setCell ⟨(a.add (i * 9)).block, (a.add (i * 9)).off + 1, none⟩ (.int .i64 0)).setCell ⟨(a.add (i * 9)).block, (a.add (i * 9)).off + 2, none⟩ (.int .i64 0)).frozen? ⟨(a.add (i * 9)).block, (a.add (i * 9)).off + 3, none⟩ = false ∧ (∃ u, ((((w.setCell (a.add (i * 9)) (.int .i64 2)).setCell ⟨(a.add (i * 9)).block, (a.add (i * 9)).off + 1, none⟩ (.int .i64 0)).setCell ⟨(a.add (i * 9)).block, (a.add (i * 9)).off + 2, none⟩ (.int .i64 0)).setCell ⟨(a.add (i * 9)).block, (a.add (i * 9)).off + 3, none⟩ (.int .i64 0)).cell? ⟨(a.add (i * 9)).block, (a.add (i * 9)).off + 4, none⟩ = some u) ∧ ((((w.setCell (a.add (i * 9)) (.int .i64 2)).setCell ⟨(a.add (i * 9)).block, (a.add (i * 9)).off + 1, none⟩ (.int .i64 0)).setCell ⟨(a.add (i * 9)).block, (a.add (i * 9)).off + 2, none⟩ (.int .i64 0)).setCell ⟨(a.add (i * 9)).block, (a.add (i * 9)).off + 3, none⟩ (.int .i64 0)).frozen? ⟨(a.add (i * 9)).block, (a.add (i * 9)).off + 4, none⟩ = false ∧ (∃ u, (((((w.setCell (a.add (i * 9)) (.int .i64 2)).setCell ⟨(a.add (i * 9)).block, (a.add (i * 9)).off + 1, none⟩ (.int .i64 0)).setCell ⟨(a.add (i * 9)).block, (a.add (i * 9)).off + 2, none⟩ (.int .i64 0)).setCell ⟨(a.add (i * 9)).block, (a.add (i * 9)).off + 3, none⟩ (.int .i64 0)).setCell ⟨(a.add (i * 9)).block, (a.add (i * 9)).off + 4, none⟩ (.bool false)).cell? ⟨(a.add (i * 9)).block, (a.add (i * 9)).off + 5, none⟩ = some u) ∧ (((((w.setCell (a.add (i * 9)) (.int .i64 2)).setCell ⟨(a.add (i * 9)).block, (a.add (i * 9)).off + 1, none⟩ (.int .i64 0)).setCell ⟨(a.add (i * 9)).block, (a.add (i * 9)).off + 2, none⟩ (.int .i64 0)).setCell ⟨(a.add (i * 9)).block, (a.add (i * 9)).off + 3, none⟩ (.int .i64 0)).setCell ⟨(a.add (i * 9)).block, (a.add (i * 9)).off + 4, none⟩ (.bool false)).frozen? ⟨(a.add (i * 9)).block, (a.add (i * 9)).off + 5, none⟩ = false ∧ (∃ u, ((((((w.setCell (a.add (i * 9)) (.int .i64 2)).setCell ⟨(a.add (i * 9)).block, (a.add (i * 9)).off + 1, none⟩ (.int .i64 0)).setCell ⟨(a.add (i * 9)).block, (a.add (i * 9)).off + 2, none⟩ (.int .i64 0)).setCell ⟨(a.add (i * 9)).block, (a.add (i * 9)).off + 3, none⟩ (.int .i64 0)).setCell ⟨(a.add (i * 9)).block, (a.add (i * 9)).off + 4, none⟩ (.bool false)).setCell ⟨(a.add (i * 9)).block, (a.add (i * 9)).off + 5, none⟩ (.int .u64 0)).cell? ⟨(a.add (i * 9)).block, (a.add (i * 9)).off + 6, none⟩ = some u) ∧ ((((((w.setCell (a.add (i * 9)) (.int .i64 2)).setCell ⟨(a.add (i * 9)).block, (a.add (i * 9)).off + 1, none⟩ (.int .i64 0)).setCell ⟨(a.add (i * 9)).block, (a.add (i * 9)).off + 2, none⟩ (.int .i64 0)).setCell ⟨(a.add (i * 9)).block, (a.add (i * 9)).off + 3, none⟩ (.int .i64 0)).setCell ⟨(a.add (i * 9)).block, (a.add (i * 9)).off + 4, none⟩ (.bool false)).setCell ⟨(a.add (i * 9)).block, (a.add (i * 9)).off + 5, none⟩ (.int .u64 0)).frozen? ⟨(a.add (i * 9)).block, (a.add (i * 9)).off + 6, none⟩ = false ∧ (∃ u, (((((((w.setCell (a.add (i * 9)) (.int .i64 2)).setCell ⟨(a.add (i * 9)).block, (a.add (i * 9)).off + 1, none⟩ (.int .i64 0)).setCell ⟨(a.add (i * 9)).block, (a.add (i * 9)).off + 2, none⟩ (.int .i64 0)).setCell ⟨(a.add (i * 9)).block, (a.add (i * 9)).off + 3, none⟩ (.int .i64 0)).setCell ⟨(a.add (i * 9)).block, (a.add (i * 9)).off + 4, none⟩ (.bool false)).setCell ⟨(a.add (i * 9)).block, (a.add (i * 9)).off + 5, none⟩ (.int .u64 0)).setCell ⟨(a.add (i * 9)).block, (a.add (i * 9)).off + 6, none⟩ (.slice none 0 0)).cell? ⟨(a.add (i * 9)).block, (a.add (i * 9)).off + 7, none⟩ = some u) ∧ (((((((w.setCell (a.add (i * 9)) (.int .i64 2)).setCell ⟨(a.add (i * 9)).block, (a.add (i * 9)).off + 1, none⟩ (.int .i64 0)).setCell ⟨(a.add (i * 9)).block, (a.add (i * 9)).off + 2, none⟩ (.int .i64 0)).setCell ⟨(a.add (i * 9)).block, (a.add (i * 9)).off + 3, none⟩ (.int .i64 0)).setCell ⟨(a.add (i * 9)).block, (a.add (i * 9)).off + 4, none⟩ (.bool false)).setCell ⟨(a.add (i * 9)).block, (a.add (i * 9)).off + 5, none⟩ (.int .u64 0)).setCell ⟨(a.add (i * 9)).block, (a.add (i * 9)).off + 6, none⟩ (.slice none 0 0)).frozen? ⟨(a.add (i * 9)).block, (a.add (i * 9)).off + 7, none⟩ = false ∧ (∃ u, ((((((((w.setCell (a.add (i * 9)) (.int .i64 2)).setCell ⟨(a.add (i * 9)).block, (a.add (i * 9)).off + 1, none⟩ (.int .i64 0)).setCell ⟨(a.add (i * 9)).block, (a.add (i * 9)).off + 2, none⟩ (.int .i64 0)).setCell ⟨(a.add (i * 9)).block, (a.add (i * 9)).off + 3, none⟩ (.int .i64 0)).setCell ⟨(a.add (i * 9)).block, (a.add (i * 9)).off + 4, none⟩ (.bool false)).setCell ⟨(a.add (i * 9)).block, (a.add (i * 9)).off + 5, none⟩ (.int .u64 0)).setCell ⟨(a.add (i * 9)).block, (a.add (i * 9)).off + 6, none⟩ (.slice none 0 0)).setCell ⟨(a.add (i * 9)).block, (a.add (i * 9)).off + 7, none⟩ (.string ⟨#[]⟩)).cell? ⟨(a.add (i * 9)).block, (a.add (i * 9)).off + 8, none⟩ = some u) ∧ ((((((((w.setCell (a.add (i * 9)) (.int .i64 2)).setCell ⟨(a.add (i * 9)).block, (a.add (i * 9)).off + 1, none⟩ (.int .i64 0)).setCell ⟨(a.add (i * 9)).block, (a.add (i * 9)).off + 2, none⟩ (.int .i64 0)).setCell ⟨(a.add (i * 9)).block, (a.add (i * 9)).off + 3, none⟩ (.int .i64 0)).setCell ⟨(a.add (i * 9)).block, (a.add (i * 9)).off + 4, none⟩ (.bool false)).setCell ⟨(a.add (i * 9)).block, (a.add (i * 9)).off + 5, none⟩ (.int .u64 0)).setCell ⟨(a.add (i * 9)).block, (a.add (i * 9)).off + 6, none⟩ (.slice none 0 0)).setCell ⟨(a.add (i * 9)).block, (a.add (i * 9)).off + 7, none⟩ (.string ⟨#[]⟩)).frozen? ⟨(a.add (i * 9)).block, (a.add (i * 9)).off + 8, none⟩ = false) ∧ (a.add (i * 9)).block < w.heap.size := by
  have ho := (h.later hb).own
  rw [← hl] at ho
  refine ⟨put_facts ha ho hn (.int .i64 2) (.int .i64 0) (.int .i64 0) (.int .i64 0) (.bool false) (.int .u64 0) (.slice none 0 0) (.string ⟨#[]⟩), ?_⟩
  obtain ⟨g, rfl⟩ := ha
  rw [addK]
  exact (ho.lt g rfl).2
theorem named_exit {F : Exit → Act → World → Prop} {e : Exit} {a : Act} {w : World} (h : ∀ W, W = w → F e a W) : F e a w := h w rfl
/-- A kid of a copy turned to a Not. -/
theorem bad_put {V v W10 w11 W12 : World} {k mn mx : Int} {a : A8.At} {sc : Value} {ad : Addr} {n c : Nat} {ks : List Tr} {Ks : List Nd} {us : List Value} (i : Nat)
    (hO : OwnT V.heap.size v k mn mx ⟨a, sc⟩ (.slice (some ad) n c) ks) (hbv : Below V.heap.size V v) (hl : n = ks.length) (hks : Ks = ks.map Tr.nd) (hi : i < n) (h10 : W10 = v.alloc (.cells us.toArray 30)) (hb : Below W10.heap.size W10 w11) (hp : Pl ad)
    (hW : W12 = putE w11 (ad.add (i * 9)) (.int .i64 2) (.int .i64 0) (.int .i64 0) (.int .i64 0) (.bool false) (.int .u64 0) (.slice none 0 0) (.string ⟨#[]⟩) (.slice none 0 0)) :
    Below V.heap.size V W12 ∧ TrW W12 (.mk k mn mx ⟨a, sc⟩ (.slice (some ad) n c) (ks.set i (leafX 2 0 0 0 []))) ∧ (Tr.mk k mn mx ⟨a, sc⟩ (.slice (some ad) n c) (ks.set i (leafX 2 0 0 0 []))).nd = .mk k mn mx a (Ks.set i notN) ∧ Blk W12 v.heap.size us := by
  obtain ⟨g, rfl⟩ := hp
  have hK : Blk W10 v.heap.size us := by rw [h10]; exact Blk.new v us 30
  have hb1 : Below v.heap.size v W10 := by rw [h10]; exact b1 _ _
  have hlt := hO.own.lt g rfl
  have hb2 := bstep hb1 hb
  have hfr : Fr V.heap.size (.slice (some ⟨g, 0, none⟩) n c) nil3 w11 (leafX 2 0 0 0 []) := leafX_tr 2 0 0 0 [] _ (by unfold okV; omega) (by unfold okV; omega) (by unfold okV; omega) (by unfold okV; omega) (by unfold maxLen; simp)
  obtain ⟨h1, h2⟩ := (hO.later hb2).put (i := i) (by omega) hfr (v0 := .int .i64 2) (v1 := .int .i64 0) (v2 := .int .i64 0) (v3 := .int .i64 0) (v4 := .bool false) (v5 := .int .u64 0) (v6 := .slice none 0 0) (v7 := .string ⟨#[]⟩) (v8 := .slice none 0 0) rfl
  rw [← hW] at h1 h2
  have hb3 := bstep hbv hb2
  refine ⟨hb3.grown h2 hb3.size (fun k e => by injection e with e; omega), h1.trW, ?_, (hK.later hb).grown h2 (fun e => by injection e with e; omega)⟩
  rw [nd_mk, List.map_set, hks]
  rfl
set_option maxRecDepth 100000 in
set_option maxHeartbeats 32000000 in
theorem parts_any (v0 : Value) (ns : List Int) (a : Int) (W : World) (hG : SG W) (hv : Slc W v0 (vals .i64 ns)) : Calls Tryd.prog 4 #[v0, .int .i64 a] W fun r w' => r = .returned (.bool true) ∧ Below W.heap.size W w' := by
  have hKn := wknown_any W hG
  have hq := fun (w1 : World) (hb : Below W.heap.size W w1) => query_any v0 ns w1 (hv.below hb)
  have HP := Lib.hid (kit_pat ns)
  have HL := Lib.hid (kit_len ns)
  have notL := fun (w : World) => not_any 0 [] w
  simp only [leafX, Tr.row, strOf_nil] at notL
  go_enter Tryd.func4, Tryd.ntmps4
  go_upto_region 2 with (go_at_call 3; refine hKn.mono ?_; rintro r w1 ⟨rfl, hb1⟩)
  go_wp2_with fail
  refine (hq w1 hb1).mono ?_
  rintro r w2 ⟨G, hG0, hQ, rfl, hb2⟩
  have hG2 := hG.later (bstep hb1 hb2)
  have hTr := hQ.tr
  have hnd := congrArg Qu.p hG0
  obtain ⟨T, wi, sh, hvs, se, ems⟩ := G
  clear hKn hq hG0 hQ hv
  simp only [GQ.qu] at hnd
  simp only at hTr
  rw [← hnd] at HP HL
  obtain ⟨k, mn, mx, ⟨⟨kd, bd, bn, cs, nm⟩, sc⟩, sk, ks⟩ := T
  have hone := hTr.one
  obtain ⟨-, ⟨-, hsc⟩, hsl⟩ := hone
  obtain ⟨A1, n1, c1, rfl⟩ := sl_form hsc
  obtain ⟨A, n, c, rfl⟩ := sl_form hsl
  obtain ⟨A', c', hv', -, hels⟩ := sl_els (by decide) row_len hsl
  injection hv' with hA' hn hc'
  subst hA'
  subst hc'
  have hN : ks.length ≤ 1000 := by have := (HP.out.small _ (by rw [nd_mk, subsN]; exact List.mem_cons_self)).2; simpa [Nd.kids] using this
  simp only [GQ.row, Tr.row, List.cons_append, List.nil_append]
  have HN := Lib.hid hn
  have HN1 := Lib.hid hN
  clear hsc hsl hnd hn hN
  have hfd : ∀ w : World, (Instr.field 39 (.agg #[.int .i64 k, .int .i64 mn, .int .i64 mx, .int .i64 kd, .bool bd, .int .u64 bn, .slice A1 n1 c1, .string (strOf nm), .slice A n c, .int .u64 wi, sh, se]) 0).run Tryd.prog w = .ok (.agg #[.int .i64 k, .int .i64 mn, .int .i64 mx, .int .i64 kd, .bool bd, .int .u64 bn, .slice A1 n1 c1, .string (strOf nm), .slice A n c]) w := fun _ => by kernel_rfl
  go_upto_region 3 with fail
  refine named_wp ?_
  intro W3 hW3
  have hK3 : Blk W3 w2.heap.size [.int .i64 k, .int .i64 mn, .int .i64 mx, .int .i64 kd, .bool bd, .int .u64 bn, .slice A1 n1 c1, .string (strOf nm), .slice A n c] := by rw [hW3]; exact Blk.new w2 [.int .i64 k, .int .i64 mn, .int .i64 mx, .int .i64 kd, .bool bd, .int .u64 bn, .slice A1 n1 c1, .string (strOf nm), .slice A n c] 30
  have hb3 : Below w2.heap.size w2 W3 := by rw [hW3]; exact b1 _ _
  clear hW3
  have HT := Lib.hid (hTr.later hb3)
  have HG := Lib.hid (hG2.later hb3)
  have HB := Lib.hid (bstep (bstep hb1 hb2) hb3)
  have HK := Lib.hid hK3
  have HEL := Lib.hid (fun i (hi : i < ks.length) => hels i hi)
  have HB3 := Lib.hid hb3
  clear hTr hG2 hb1 hb2 hb3 hels
  have x0 := hK3.cell 0 _ rfl
  have x1 := hK3.cell 1 _ rfl
  have x2 := hK3.cell 2 _ rfl
  have x3 := hK3.cell 3 _ rfl
  have x4 := hK3.cell 4 _ rfl
  have x5 := hK3.cell 5 _ rfl
  have x6 := hK3.cell 6 _ rfl
  have x7 := hK3.cell 7 _ rfl
  have x8 := hK3.cell 8 _ rfl
  have xlt := hK3.lt
  clear hK3
  go_wp2_with fail
  have F1 := (pat_is (.mk k mn mx ⟨⟨kd, bd, bn, cs, nm⟩, .slice A1 n1 c1⟩ (.slice A n c) ks) W3 0 HT.out (Nat.le_trans HL.out (by decide)) HG.out HP.out.zero)
  simp only [Tr.row] at F1
  refine F1.mono ?_
  rintro r w4 ⟨rfl, hb4⟩
  clear x0 x1 x2 x3 x4 x5 x6 x7 x8 xlt F1
  have hK4 := HK.out.later hb4
  have x0 := hK4.cell 0 _ rfl
  have x1 := hK4.cell 1 _ rfl
  have x2 := hK4.cell 2 _ rfl
  have x3 := hK4.cell 3 _ rfl
  have x4 := hK4.cell 4 _ rfl
  have x5 := hK4.cell 5 _ rfl
  have x6 := hK4.cell 6 _ rfl
  have x7 := hK4.cell 7 _ rfl
  have x8 := hK4.cell 8 _ rfl
  have xlt := hK4.lt
  go_wp2_with fail
  have F2 := once_any _ _ w4 rfl (HT.out.later hb4) HP.out.small
  simp only [Tr.row] at F2
  refine F2.mono ?_
  rintro r w5 ⟨k5, mn5, mx5, kd5, bd5, bn5, cs5, nm5, B5, p5, q5, A5, n5, c5, ks5, rfl, hn5, hb5, hT5⟩
  clear x0 x1 x2 x3 x4 x5 x6 x7 x8 xlt F2 hK4
  go_wp2_with fail
  have F3 := pat_is _ w5 0 (trW_le hT5 (hide_out (Nat.le_refl _) fun _ _ _ => rfl)) (by rw [hn5, len_one]; exact Nat.le_trans HL.out (by decide)) (HG.out.later (bstep hb4 hb5)) (by rw [hn5]; exact HP.out.one.zero)
  simp only [Tr.row] at F3
  refine F3.mono ?_
  rintro r w6 ⟨rfl, hb6⟩
  clear F3 hT5 hn5
  have hb36 := (bstep (bstep hb4 hb5) hb6)
  have HB6 := Lib.hid hb36
  clear hb4 hb5 hb6
  have hK6 := HK.out.later hb36
  clear hb36
  have z8 := hK6.cell 8 _ rfl
  have z0 := hK6.cell 0 _ rfl
  have zlt := hK6.lt
  go_upto_region 5 with fail
  by_cases h0 : n = 0
  · have hlb : ((n : Int) == 0) = true := by rw [h0]; rfl
    have hk : k = 1 := HP.out.single (by rw [nd_mk, List.eq_nil_of_length_eq_zero (show ks.length = 0 by have := HN.out; omega)]; rfl)
    subst hk
    clear h0 hK6
    go_wp2
    go_ret
    exact ⟨rfl, bstep HB.out HB6.out⟩
  · have hlb : ((n : Int) == 0) = false := by simpa using h0
    obtain ⟨iN, hiN⟩ : ∃ iN : Nat, a % (n : Int) = (iN : Int) := ⟨(a % (n : Int)).toNat, by have := Int.emod_nonneg a (show (n : Int) ≠ 0 by omega); omega⟩
    have hin : iN < n := by have := Int.emod_lt_of_pos a (show (0 : Int) < (n : Int) by omega); omega
    have hMa := fun w => mod_any a (n : Int) w (by omega) (by have := HN.out; have := HN1.out; omega)
    simp only [hiN] at hMa
    obtain ⟨ad, rfl, hadlt, hel⟩ := HEL.out iN (by have := HN.out; omega)
    have hel6 := hel.later (bstep HB3.out HB6.out)
    obtain ⟨T4, hT4⟩ : ∃ T4, T4 = ks[iN] := ⟨_, rfl⟩
    rw [← hT4] at hel6
    have hmem : T4 ∈ ks := by rw [hT4]; exact List.getElem_mem _
    have HTk := Lib.hid (HT.out.kid hmem)
    have hkid := HP.out.kid (n := T4.nd) (by rw [nd_mk]; exact List.mem_map_of_mem hmem)
    have HLk := Lib.hid (len_kid (k := k) (mn := mn) (mx := mx) (a := ⟨kd, bd, bn, cs, nm⟩) (List.mem_map_of_mem (f := Tr.nd) hmem))
    clear hT4 hmem hel hadlt hiN
    obtain ⟨k4, mn4, mx4, ⟨⟨kd4, bd4, bn4, cs4, nm4⟩, sc4⟩, sk4, ks4⟩ := T4
    have hone := HTk.out.one
    obtain ⟨B4, p4, q4, rfl⟩ := sl_form hone.2.1.2
    obtain ⟨A4, n4, c4, rfl⟩ := sl_form hone.2.2
    clear hone
    obtain ⟨E, hE, hEk⟩ : ∃ E, wfE (plainQ (Tr.mk k4 mn4 mx4 ⟨⟨kd4, bd4, bn4, cs4, nm4⟩, .slice B4 p4 q4⟩ (.slice A4 n4 c4) ks4).nd) = E ∧ ((k4 = 2 ∧ E = 9) ∨ (¬ k4 = 2 ∧ E = 0)) := by
      rcases Decidable.em (k4 = 2) with h2 | h2
      · exact ⟨9, hkid.1 (decide_eq_true h2), .inl ⟨h2, rfl⟩⟩
      · exact ⟨0, hkid.2 (decide_eq_false h2), .inr ⟨h2, rfl⟩⟩
    have HE := Lib.hid hE
    have HL4 : Hid (lenN (Nd.mk k mn mx ⟨kd, bd, bn, cs, nm⟩ (ks.map Tr.nd)) ≤ 25) := Lib.hid (by have := HL.out; rw [nd_mk] at this; exact this)
    have HL5 : Hid (lenN (Nd.mk k mn mx ⟨kd, bd, bn, cs, nm⟩ (ks.map Tr.nd)) ≤ 25) := HL4
    have HP5 : Hid (PatOk (Nd.mk k mn mx ⟨kd, bd, bn, cs, nm⟩ (ks.map Tr.nd))) := Lib.hid (by have := HP.out; rw [nd_mk] at this; exact this)
    have HI0 : Hid (0 < (ks.map Tr.nd).length) := Lib.hid (by have := HN.out; rw [List.length_map]; omega)
    have HEK := Lib.hid hEk
    clear hE hEk hkid
    simp only [Tr.row] at hel6
    have x0 := hel6.at0 _ rfl
    have x1 := hel6.at1 1 _ (by omega) rfl
    have x2 := hel6.at1 2 _ (by omega) rfl
    have x3 := hel6.at1 3 _ (by omega) rfl
    have x4 := hel6.at1 4 _ (by omega) rfl
    have x5 := hel6.at1 5 _ (by omega) rfl
    have x6 := hel6.at1 6 _ (by omega) rfl
    have x7 := hel6.at1 7 _ (by omega) rfl
    have x8 := hel6.at1 8 _ (by omega) rfl
    have xlt := hel6.lt
    have hi0 : (0 : Int) ≤ (iN : Int) := by omega
    have hi1 : (iN : Int) < (n : Int) := by omega
    have H0 := Lib.hid h0
    have HIN := Lib.hid hin
    clear hK6 hel6 h0 hin
    go_upto_region 7 with fail
    go_cut [7] (fun v7 wx => v7 = .pointer (some ⟨w6.heap.size, 0, none⟩) ∧ Hid (Blk wx w6.heap.size [.int .i64 k4, .int .i64 mn4, .int .i64 mx4, .int .i64 kd4, .bool bd4, .int .u64 bn4, .slice B4 p4 q4, .string (strOf nm4), .slice A4 n4 c4] ∧ Below w6.heap.size w6 wx))
    case first =>
      go_region_with (go_at_call 23; refine (hMa _).mono ?_; rintro r w7 ⟨rfl, rfl⟩)
      all_goals (go_wp2_with fail; go_meet; (case rel => exact ⟨rfl, Lib.hid ⟨by first | exact Blk.new w6.drew [.int .i64 k4, .int .i64 mn4, .int .i64 mx4, .int .i64 kd4, .bool bd4, .int .u64 bn4, .slice B4 p4 q4, .string (strOf nm4), .slice A4 n4 c4] 30 | exact (Blk.new w6 [.int .i64 k4, .int .i64 mn4, .int .i64 mx4, .int .i64 kd4, .bool bd4, .int .u64 bn4, .slice B4 p4 q4, .string (strOf nm4), .slice A4 n4 c4] 30).drew, by first | exact bstep (Below.refl _ _).drew (b1 _ _) | exact (b1 _ _).drew⟩⟩))
    case rest =>
    obtain ⟨rfl, hcut2⟩ := hcut
    rename World => W8
    clear x0 x1 x2 x3 x4 x5 x6 x7 x8 xlt z8 z0 zlt hMa hi0 hi1
    obtain ⟨hK8, hb8⟩ := hcut2.out
    have HK8 := Lib.hid hK8
    have HB8 := Lib.hid (bstep HB6.out hb8)
    clear hcut2 hb8 HB6
    have x0 := hK8.cell 0 _ rfl
    have x1 := hK8.cell 1 _ rfl
    have x2 := hK8.cell 2 _ rfl
    have x3 := hK8.cell 3 _ rfl
    have x4 := hK8.cell 4 _ rfl
    have x5 := hK8.cell 5 _ rfl
    have x6 := hK8.cell 6 _ rfl
    have x7 := hK8.cell 7 _ rfl
    have x8 := hK8.cell 8 _ rfl
    have xlt := hK8.lt
    clear hK8
    go_wp2_with fail
    have F4 := pat_is _ W8 E (HTk.out.later HB8.out) (Nat.le_trans HLk.out (Nat.le_trans HL4.out (by decide))) (HG.out.later HB8.out) HE.out
    simp only [Tr.row] at F4
    refine F4.mono ?_
    rintro r w9 ⟨rfl, hb9⟩
    clear x0 x1 x2 x3 x4 x5 x6 x7 x8 xlt F4
    have HB9 := Lib.hid (bstep HB8.out hb9)
    have HK9 := Lib.hid (HK8.out.later hb9)
    clear hb9 HB8 HK8
    have hK6 := HK.out.later HB9.out
    have x0 := hK6.cell 0 _ rfl
    have x1 := hK6.cell 1 _ rfl
    have x2 := hK6.cell 2 _ rfl
    have x3 := hK6.cell 3 _ rfl
    have x4 := hK6.cell 4 _ rfl
    have x5 := hK6.cell 5 _ rfl
    have x6 := hK6.cell 6 _ rfl
    have x7 := hK6.cell 7 _ rfl
    have x8 := hK6.cell 8 _ rfl
    have xlt := hK6.lt
    clear hK6
    go_wp2_with fail
    have F5 := ownNode_any _ w9 (HT.out.later HB9.out) HP.out.small
    simp only [Tr.row] at F5
    refine F5.mono ?_
    rintro r v7 ⟨k3, mn3, mx3, kd3, bd3, bn3, cs3, nm3, B7, p7, q7, A7, n7, c7, ks7, rfl, hn7, hbv7, hO7⟩
    clear x0 x1 x2 x3 x4 x5 x6 x7 x8 xlt F5
    rw [nd_mk, nd_mk] at hn7
    obtain ⟨rfl, rfl, rfl, ha3, hks7⟩ := nd_inj hn7.symm
    obtain ⟨rfl, rfl, rfl, rfl, rfl⟩ := at_inj ha3
    clear hn7 ha3
    have hl7 : n7 = ks7.length := hO7.len
    have hm7 : ks7.length = n := by have := congrArg List.length hks7; simp only [List.length_map] at this; have := HN.out; omega
    obtain ⟨a7, rfl, hpl7⟩ := hO7.some_ (by have := H0.out; omega)
    have HL7 := Lib.hid (And.intro hl7 hm7)
    clear hl7 hm7
    obtain ⟨g7, rfl⟩ := hpl7
    go_upto_region 10 with fail
    refine named_wp ?_
    intro W10 hW10
    have hK10 : Blk W10 v7.heap.size [.int .i64 k, .int .i64 mn, .int .i64 mx, .int .i64 kd, .bool bd, .int .u64 bn, .slice B7 p7 q7, .string (strOf nm), .slice (some ⟨g7, 0, none⟩) n7 c7] := by rw [hW10]; exact Blk.new v7 [.int .i64 k, .int .i64 mn, .int .i64 mx, .int .i64 kd, .bool bd, .int .u64 bn, .slice B7 p7 q7, .string (strOf nm), .slice (some ⟨g7, 0, none⟩) n7 c7] 30
    have y8 := hK10.cell 8 _ rfl
    have ylt := hK10.lt
    have hst := fun (w11 : World) (hb : Below W10.heap.size W10 w11) => own_facts hO7 HL7.out.1 (by have := H0.out; have := HL7.out; omega) (show Below v7.heap.size v7 w11 by rw [hW10] at hb; exact bstep (b1 _ _) hb)
    have HW10 := Lib.hid hW10
    clear hW10
    have hn7 : (0 : Int) < (n7 : Int) := by have := H0.out; have := HL7.out; omega
    go_cut [] (fun wx => Hid (Below w9.heap.size w9 wx ∧ TrW wx (Tr.mk k mn mx ⟨⟨kd, bd, bn, cs, nm⟩, .slice B7 p7 q7⟩ (.slice (some ⟨g7, 0, none⟩) n7 c7) (ks7.set 0 (leafX 2 0 0 0 []))) ∧ (Tr.mk k mn mx ⟨⟨kd, bd, bn, cs, nm⟩, .slice B7 p7 q7⟩ (.slice (some ⟨g7, 0, none⟩) n7 c7) (ks7.set 0 (leafX 2 0 0 0 []))).nd = .mk k mn mx ⟨kd, bd, bn, cs, nm⟩ ((ks.map Tr.nd).set 0 notN) ∧ Blk wx v7.heap.size [.int .i64 k, .int .i64 mn, .int .i64 mx, .int .i64 kd, .bool bd, .int .u64 bn, .slice B7 p7 q7, .string (strOf nm), .slice (some ⟨g7, 0, none⟩) n7 c7]))
    case first =>
      go_region_with (go_at_call 7; refine (notL _).mono ?_; rintro r w11 ⟨rfl, hb11⟩; have hb11d : Below W10.heap.size W10 w11 := (by first | exact hb11 | exact bstep (Below.refl _ _).drew hb11); obtain ⟨⟨u0, s0⟩, f0, ⟨u1, s1⟩, f1, ⟨u2, s2⟩, f2, ⟨u3, s3⟩, f3, ⟨u4, s4⟩, f4, ⟨u5, s5⟩, f5, ⟨u6, s6⟩, f6, ⟨u7, s7⟩, f7, ⟨u8, s8⟩, f8, slt⟩ := hst w11 hb11d; have t8 := (hK10.later hb11d).cell 8 _ rfl; have tlt := (hK10.later hb11d).lt)
      all_goals (go_wp2_with fail; go_meet; (case rel => first | exact Lib.hid (bad_put 0 hO7 hbv7 HL7.out.1 hks7 (by have := H0.out; have := HL7.out; omega) HW10.out hb11d ⟨g7, rfl⟩ rfl) | exact Lib.hid (bad_put 0 hO7 hbv7 HL7.out.1 hks7 (by have := H0.out; have := HL7.out; omega) HW10.out hb11d.drew ⟨g7, rfl⟩ rfl)))
    case rest =>
    rename World => W12
    obtain ⟨hb12, htr12, hnd12, hK12⟩ := hcut.out
    clear hcut y8 ylt hn7 hst hbv7 HW10 hK10 hO7
    have HW12 := Lib.hid (And.intro htr12 hnd12)
    have HK12 := Lib.hid hK12
    have HB12 := Lib.hid (bstep HB9.out hb12)
    have HQ9 := Lib.hid (HK9.out.later hb12)
    have HKS7 := Lib.hid hks7
    clear htr12 hnd12 hK12 hb12 HB9 HK9 hks7
    have hK6 := HK.out.later HB12.out
    have x0 := hK6.cell 0 _ rfl
    have x1 := hK6.cell 1 _ rfl
    have x2 := hK6.cell 2 _ rfl
    have x3 := hK6.cell 3 _ rfl
    have x4 := hK6.cell 4 _ rfl
    have x5 := hK6.cell 5 _ rfl
    have x6 := hK6.cell 6 _ rfl
    have x7 := hK6.cell 7 _ rfl
    have x8 := hK6.cell 8 _ rfl
    have xlt := hK6.lt
    clear hK6
    go_wp2_with fail
    have F5 := ownNode_any _ W12 (HT.out.later HB12.out) HP.out.small
    simp only [Tr.row] at F5
    refine F5.mono ?_
    rintro r v8 ⟨k3, mn3, mx3, kd3, bd3, bn3, cs3, nm3, B8, p8, q8, A8, n8, c8, ks8, rfl, hn8, hbv8, hO8⟩
    clear x0 x1 x2 x3 x4 x5 x6 x7 x8 xlt F5
    rw [nd_mk, nd_mk] at hn8
    obtain ⟨rfl, rfl, rfl, ha3, hks8⟩ := nd_inj hn8.symm
    obtain ⟨rfl, rfl, rfl, rfl, rfl⟩ := at_inj ha3
    clear hn8 ha3
    have hl8 : n8 = ks8.length := hO8.len
    have hm8 : ks8.length = n := by have := congrArg List.length hks8; simp only [List.length_map] at this; have := HN.out; omega
    obtain ⟨a8, rfl, hpl8⟩ := hO8.some_ (by have := H0.out; omega)
    have HL8 := Lib.hid (And.intro hl8 hm8)
    clear hl8 hm8
    have HPL := Lib.hid hpl8
    clear hpl8
    obtain ⟨m, hm⟩ : ∃ m, n8 = m + 1 := ⟨n8 - 1, by have := H0.out; have := HL8.out; omega⟩
    have hwm : IntKind.i64.wrap ((n8 : Int) - 1) = (m : Int) := (IntWalk.i64_in _ ⟨by omega, by have := HN.out; have := HN1.out; have := HL8.out; omega⟩).trans (by omega)
    have hm0 : (0 : Int) ≤ (m : Int) := by omega
    have hm1 : (m : Int) < (n8 : Int) := by omega
    have HM := Lib.hid hm
    clear hm
    go_upto_region 12 with fail
    refine named_wp ?_
    intro W13 hW13
    have hK13 : Blk W13 v8.heap.size [.int .i64 k, .int .i64 mn, .int .i64 mx, .int .i64 kd, .bool bd, .int .u64 bn, .slice B8 p8 q8, .string (strOf nm), .slice (some a8) n8 c8] := by rw [hW13]; exact Blk.new v8 [.int .i64 k, .int .i64 mn, .int .i64 mx, .int .i64 kd, .bool bd, .int .u64 bn, .slice B8 p8 q8, .string (strOf nm), .slice (some a8) n8 c8] 30
    have y8 := hK13.cell 8 _ rfl
    have ylt := hK13.lt
    have hst := fun (w14 : World) (hb : Below W13.heap.size W13 w14) => own_facts8 (i := m) HPL.out hO8 HL8.out.1 (by have := HM.out; omega) (show Below v8.heap.size v8 w14 by rw [hW13] at hb; exact bstep (b1 _ _) hb)
    have HW13 := Lib.hid hW13
    clear hW13
    go_cut [] (fun wx => Hid (Below W12.heap.size W12 wx ∧ TrW wx (Tr.mk k mn mx ⟨⟨kd, bd, bn, cs, nm⟩, .slice B8 p8 q8⟩ (.slice (some a8) n8 c8) (ks8.set m (leafX 2 0 0 0 []))) ∧ (Tr.mk k mn mx ⟨⟨kd, bd, bn, cs, nm⟩, .slice B8 p8 q8⟩ (.slice (some a8) n8 c8) (ks8.set m (leafX 2 0 0 0 []))).nd = .mk k mn mx ⟨kd, bd, bn, cs, nm⟩ ((ks.map Tr.nd).set m notN) ∧ Blk wx v8.heap.size [.int .i64 k, .int .i64 mn, .int .i64 mx, .int .i64 kd, .bool bd, .int .u64 bn, .slice B8 p8 q8, .string (strOf nm), .slice (some a8) n8 c8]))
    case first =>
      go_region_with (go_at_call 7; refine (notL _).mono ?_; rintro r w14 ⟨rfl, hb14⟩; have hb14d : Below W13.heap.size W13 w14 := (by first | exact hb14 | exact bstep (Below.refl _ _).drew hb14); obtain ⟨⟨⟨u0, s0⟩, f0, ⟨u1, s1⟩, f1, ⟨u2, s2⟩, f2, ⟨u3, s3⟩, f3, ⟨u4, s4⟩, f4, ⟨u5, s5⟩, f5, ⟨u6, s6⟩, f6, ⟨u7, s7⟩, f7, ⟨u8, s8⟩, f8⟩, slt⟩ := hst w14 hb14d; have t8 := (hK13.later hb14d).cell 8 _ rfl; have tlt := (hK13.later hb14d).lt)
      all_goals (go_wp2_with fail; go_meet; (case rel => first | exact Lib.hid (bad_put m hO8 hbv8 HL8.out.1 hks8 (by have := HM.out; omega) HW13.out hb14d HPL.out rfl) | exact Lib.hid (bad_put m hO8 hbv8 HL8.out.1 hks8 (by have := HM.out; omega) HW13.out hb14d.drew HPL.out rfl)))
    case rest =>
    rename World => W15
    obtain ⟨hb15, htr15, hnd15, hK15⟩ := hcut.out
    clear hcut y8 ylt hst hwm hm0 hm1 hbv8 HW13 hK13 hO8
    have HW15 := Lib.hid (And.intro htr15 hnd15)
    have HB15 := Lib.hid (bstep HB12.out hb15)
    have hQ7 := HQ9.out.later hb15
    have hF15 := HK12.out.later hb15
    have hbb15 := Lib.hid hb15
    have r0 := hQ7.cell 0 _ rfl
    have rlt := hQ7.lt
    have x0 := hF15.cell 0 _ rfl
    have x1 := hF15.cell 1 _ rfl
    have x2 := hF15.cell 2 _ rfl
    have x3 := hF15.cell 3 _ rfl
    have x4 := hF15.cell 4 _ rfl
    have x5 := hF15.cell 5 _ rfl
    have x6 := hF15.cell 6 _ rfl
    have x7 := hF15.cell 7 _ rfl
    have x8 := hF15.cell 8 _ rfl
    have xlt := hF15.lt
    have HK15 := Lib.hid hK15
    have HKS8 := Lib.hid hks8
    clear htr15 hnd15 hK15 hQ7 hF15 hb15 hks8
    have HI1 : Hid (m < (ks.map Tr.nd).length) := Lib.hid (by have := HL8.out; have := HM.out; have := HN.out; rw [List.length_map]; omega)
    have HI2 : Hid (m + 1 = (ks.map Tr.nd).length) := Lib.hid (by have := HL8.out; have := HM.out; have := HN.out; rw [List.length_map]; omega)
    have hEk := HEK.out
    rcases hEk with ⟨hk4, hE4⟩ | ⟨hk4, hE4⟩
    · have hkb : (k4 == 2) = true := by simpa using hk4
      subst hE4
      subst hk4
      go_wp2_with fail
      have F6 := pat_is _ W15 9 (HW12.out.1.later hbb15.out) (by rw [HW12.out.2]; exact Nat.le_trans (len_set _ _ _ _ _ _) (Nat.le_trans HL5.out (by decide))) (HG.out.later HB15.out) (by rw [HW12.out.2]; exact HP5.out.bad HI0.out (.inl rfl))
      simp only [Tr.row] at F6
      refine F6.mono ?_
      rintro r w16 ⟨rfl, hb16⟩
      clear F6 r0 rlt xlt x0 x1 x2 x3 x4 x5 x6 x7 x8
      have hB16 := HK15.out.later hb16
      have y0 := hB16.cell 0 _ rfl
      have y1 := hB16.cell 1 _ rfl
      have y2 := hB16.cell 2 _ rfl
      have y3 := hB16.cell 3 _ rfl
      have y4 := hB16.cell 4 _ rfl
      have y5 := hB16.cell 5 _ rfl
      have y6 := hB16.cell 6 _ rfl
      have y7 := hB16.cell 7 _ rfl
      have y8 := hB16.cell 8 _ rfl
      have ylt := hB16.lt
      go_wp2_with fail
      have F7 := pat_is _ w16 9 (HW15.out.1.later hb16) (by rw [HW15.out.2]; exact Nat.le_trans (len_set _ _ _ _ _ _) (Nat.le_trans HL5.out (by decide))) (HG.out.later (bstep HB15.out hb16)) (by rw [HW15.out.2]; exact HP5.out.bad HI1.out (.inr HI2.out))
      simp only [Tr.row] at F7
      refine F7.mono ?_
      rintro r w17 ⟨rfl, hb17⟩
      go_wp2
      go_ret
      exact ⟨rfl, bstep (bstep (bstep HB.out HB15.out) hb16) hb17⟩
    · have hkb : (k4 == 2) = false := by simpa using hk4
      subst hE4
      have HK4 := Lib.hid hk4
      clear hk4
      go_wp2_with fail
      have F6 := pat_is _ W15 9 (HW12.out.1.later hbb15.out) (by rw [HW12.out.2]; exact Nat.le_trans (len_set _ _ _ _ _ _) (Nat.le_trans HL5.out (by decide))) (HG.out.later HB15.out) (by rw [HW12.out.2]; exact HP5.out.bad HI0.out (.inl rfl))
      simp only [Tr.row] at F6
      refine F6.mono ?_
      rintro r w16 ⟨rfl, hb16⟩
      clear F6 r0 rlt xlt x0 x1 x2 x3 x4 x5 x6 x7 x8
      have hB16 := HK15.out.later hb16
      have y0 := hB16.cell 0 _ rfl
      have y1 := hB16.cell 1 _ rfl
      have y2 := hB16.cell 2 _ rfl
      have y3 := hB16.cell 3 _ rfl
      have y4 := hB16.cell 4 _ rfl
      have y5 := hB16.cell 5 _ rfl
      have y6 := hB16.cell 6 _ rfl
      have y7 := hB16.cell 7 _ rfl
      have y8 := hB16.cell 8 _ rfl
      have ylt := hB16.lt
      go_wp2_with fail
      have F7 := pat_is _ w16 9 (HW15.out.1.later hb16) (by rw [HW15.out.2]; exact Nat.le_trans (len_set _ _ _ _ _ _) (Nat.le_trans HL5.out (by decide))) (HG.out.later (bstep HB15.out hb16)) (by rw [HW15.out.2]; exact HP5.out.bad HI1.out (.inr HI2.out))
      simp only [Tr.row] at F7
      refine F7.mono ?_
      rintro r w17 ⟨rfl, hb17⟩
      go_wp2
      go_ret
      exact ⟨rfl, bstep (bstep (bstep HB.out HB15.out) hb16) hb17⟩
end Go.Proofs.YthiacfmedcfcjaaDoor
