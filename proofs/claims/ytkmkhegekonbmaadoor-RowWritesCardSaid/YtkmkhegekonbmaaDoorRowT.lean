/- Walks: the program's reader of a line. -/
import Derived.Test.YtkmkhegekonbmaaDoorRowS
namespace Go.Proofs.YtkmkhegekonbmaaDoor
open Go.RowKit
open Rw6

theorem own_mono {w : World} {base base' sz n : Nat} {e : TypeId} {v : Value} {xs : List Value} (h : w.ownsRow base e sz v n xs) (hb : base' ≤ base) : w.ownsRow base' e sz v n xs := by
  refine ⟨h.1, ?_⟩
  rcases h.2 with ⟨h1, h2⟩ | ⟨g, cap, cur, h1, h2, h3⟩
  · exact .inl ⟨h1, h2⟩
  · exact .inr ⟨g, cap, cur, h1, Nat.le_trans hb h2, h3⟩
theorem own_form {w : World} {base sz n : Nat} {e : TypeId} {v : Value} {xs : List Value} (h : w.ownsRow base e sz v n xs) : ∃ A c, v = .slice A n c := by
  rcases h.2 with ⟨h1, h2⟩ | ⟨g, cap, cur, h1, h2, h3⟩
  · exact ⟨none, 0, by rw [h1, h2]⟩
  · exact ⟨_, cap, h1⟩
theorem fault_any (er at_ : Int) (w : World) :
    Calls Tryd.prog 47 #[.int .i64 er, .int .i64 at_] w fun e w' => e = .returned (.agg #[.int .i64 er, .int .i64 at_]) ∧ Below w.heap.size w w' := by
  go_enter Tryd.func47, Tryd.ntmps47
  go_wp2
  refine bodyPost_ret (by simp [results, Tryd.results47, go_sem]; try rfl) rfl ?_
  exact ⟨rfl, by first | exact (Below.refl _ _).alloc (Nat.le_refl _) _ | (go_grown)⟩
theorem grown_setb (w : World) (b i : Nat) (u : Value) : w.grownBy (w.setCell ⟨b, i, none⟩ u) (some b) :=
  ⟨rfl, rfl, rfl, by simp [World.setCell], fun k _ hne => Below.heap_setCell _ _ _ _ (fun e => hne (by rw [e]))⟩
theorem own_set {w : World} {base sz n : Nat} {e : TypeId} {v : Value} {us : List Value} (h : w.ownsRow base e sz v n us) {b : Nat} (hb : b < base) (i : Nat) (u : Value) : (w.setCell ⟨b, i, none⟩ u).ownsRow base e sz v n us :=
  h.kept (grown_setb w b i u) (.inr fun e => by have := (h.lt _ e).1; omega)
/-- The two results, written: two blocks of two cells. -/
theorem two_out {w w1 : World} {x0 x1 y0 y1 : Value} (hB : Below w.heap.size w w1) (hK0 : Blk w1 w.heap.size [x0, x1]) (hK1 : Blk w1 (w.heap.size + 1) [y0, y1]) (a0 a1 b0 b1 : Value) (V : World)
    (hV : V = (((w1.setCell ⟨w.heap.size, 0, none⟩ a0).setCell ⟨w.heap.size, 1, none⟩ a1).setCell ⟨w.heap.size + 1, 0, none⟩ b0).setCell ⟨w.heap.size + 1, 1, none⟩ b1) :
    Below w.heap.size w V ∧ Blk V w.heap.size [a0, a1] ∧ Blk V (w.heap.size + 1) [b0, b1] ∧ ∀ {base sz n : Nat} {e : TypeId} {v : Value} {us : List Value}, w.heap.size + 2 ≤ base → w1.ownsRow base e sz v n us → V.ownsRow base e sz v n us := by
  subst hV
  refine ⟨?_, ?_, ?_, fun hb ho => ?_⟩
  · exact (((hB.setCell (p := ⟨w.heap.size, 0, none⟩) (by simp) _).setCell (p := ⟨w.heap.size, 1, none⟩) (by simp) _).setCell (p := ⟨w.heap.size + 1, 0, none⟩) (by simp) _).setCell (p := ⟨w.heap.size + 1, 1, none⟩) (by simp) _
  · exact (((hK0.set 0 a0).set 1 a1).other (p := ⟨w.heap.size + 1, 0, none⟩) (by simp) _).other (p := ⟨w.heap.size + 1, 1, none⟩) (by simp) _
  · exact (((hK1.other (p := ⟨w.heap.size, 0, none⟩) (by simp) _).other (p := ⟨w.heap.size, 1, none⟩) (by simp) _).set 0 b0).set 1 b1
  · exact own_set (own_set (own_set (own_set ho (by omega) _ _) (by omega) _ _) (by omega) _ _) (by omega) _ _
/-- A word's offset as an int. -/
def wdOf (x : W) : Wd := (x.1, x.2.1, (x.2.2 : Int))
theorem infoWord6 : (Tryd.prog.info? 31).map (fun i => (i.zero, i.size, i.bytes)) = some (some (.agg #[.bool false, .string ⟨#[]⟩, .int .i64 0]), 3, 32) := by kernel_rfl
/-- What stands while a line is read: the cursor, the row and its words, the results. -/
structure LineI (w : World) (s : ByteArray) (f : Nat) (ws : List W) (k : Nat) (v : Value) (wr : World) : Prop where
  cur : Cur wr (w.heap.size + 2) s k (f : Int)
  row : Blk wr (w.heap.size + 3) [.int .i64 (f : Int), v]
  out : Blk wr w.heap.size [.int .i64 0, .slice none 0 0]
  flt : Blk wr (w.heap.size + 1) [.int .i64 0, .int .i64 0]
  own : wr.ownsRow (w.heap.size + 4) 31 3 v ws.length (wcells (ws.map wdOf))
  bel : Below w.heap.size w wr
theorem grown_below {B R : Nat} {w w1 : World} (h : w.grownBy w1 (some R)) (hB : B ≤ R) (hs : B ≤ w.heap.size) : Below B w w1 :=
  ⟨h.os, h.tape, h.output, h.size, fun k hk => h.block k (by omega) (fun e => by cases e; omega)⟩
theorem LineI.step {w wr w1 : World} {s : ByteArray} {f : Nat} {ws : List W} {k k' : Nat} {v : Value} (h : LineI w s f ws k v wr) (hg : wr.grownBy w1 (some (w.heap.size + 2))) (hc : Cur w1 (w.heap.size + 2) s k' (f : Int)) : LineI w s f ws k' v w1 :=
  ⟨hc, h.row.other_grown hg (by omega), h.out.other_grown hg (by omega), h.flt.other_grown hg (by omega),
   h.own.kept hg (.inr fun e => by have := (h.own.lt _ e).1; omega), h.bel.trans (grown_below hg (by omega) h.bel.size)⟩
theorem LineI.alloc {w wr : World} {s : ByteArray} {f : Nat} {ws : List W} {k : Nat} {v : Value} (h : LineI w s f ws k v wr) (o : Obj) : LineI w s f ws k v (wr.alloc o) :=
  h.step (World.grownBy_alloc wr o _) (h.cur.alloc o)
theorem LineI.snoc {w wr w1 : World} {s : ByteArray} {f : Nat} {ws : List W} {k : Nat} {v v1 : Value} {row : Option Nat} (h : LineI w s f ws k v wr) (x : W)
    (h1 : w1.ownsRow (w.heap.size + 4) 31 3 v1 (ws.length + 1) (wcells (ws.map wdOf) ++ wcell (wdOf x))) (hg : wr.grownBy w1 row) (hr : row = v.ownBlock) : LineI w s f (ws ++ [x]) k v1 (w1.setCell ⟨w.heap.size + 3, 1, none⟩ v1) := by
  subst hr
  have far : ∀ b, b < w.heap.size + 4 → some b ≠ v.ownBlock := fun b hb e => by
    have := (h.own.lt b e.symm).1
    omega
  have hb1 : Below w.heap.size wr w1 := ⟨hg.os, hg.tape, hg.output, hg.size, fun k hk => hg.block k (by have := h.bel.size; omega) (far k (by omega))⟩
  have n0 : (⟨w.heap.size + 3, 1, none⟩ : Addr).block ≠ w.heap.size := by simp
  have n1 : (⟨w.heap.size + 3, 1, none⟩ : Addr).block ≠ w.heap.size + 1 := by simp
  have n2 : (⟨w.heap.size + 3, 1, none⟩ : Addr).block ≠ w.heap.size + 2 := by simp
  refine ⟨(Blk.grown h.cur hg (far _ (by omega))).other n2 _, (h.row.grown hg (far _ (by omega))).set 1 _, (h.out.grown hg (far _ (by omega))).other n0 _, (h.flt.grown hg (far _ (by omega))).other n1 _, ?_, (h.bel.trans hb1).setCell (p := ⟨w.heap.size + 3, 1, none⟩) (by simp) _⟩
  rw [List.length_append, List.map_append, wcells_app]
  have e : wcells (List.map wdOf [x]) = wcell (wdOf x) := by simp [wcells]
  rw [e]
  exact h1.kept (row := some (w.heap.size + 3)) (grown_setb w1 _ _ _) (.inr fun e => by have := (h1.lt _ e).1; omega)
/-- Puts words in front. -/
def glueE (ws : List W) (o : Except Nat (List W)) : Except Nat (List W) := match o with | .ok l => .ok (ws ++ l) | .error e => .error e
/-- What reading a line gives. -/
def LineP (w : World) (s : ByteArray) (f : Nat) (e : Ending) (w' : World) : Prop :=
  Below w.heap.size w w' ∧
  ((1000 < s.size ∧ e = .returned (.tuple #[.agg #[.int .i64 0, .slice none 0 0], .agg #[.int .i64 4, .int .i64 (f : Int)]])) ∨
   (¬ 1000 < s.size ∧ ∃ a, lineG s.data.toList f = .error a ∧ e = .returned (.tuple #[.agg #[.int .i64 0, .slice none 0 0], .agg #[.int .i64 3, .int .i64 (a : Int)]])) ∨
   (¬ 1000 < s.size ∧ ∃ ws v, lineG s.data.toList f = .ok ws ∧ e = .returned (.tuple #[.agg #[.int .i64 (f : Int), v], .agg #[.int .i64 0, .int .i64 0]]) ∧ w'.ownsRow w.heap.size 31 3 v ws.length (wcells (ws.map wdOf))))
theorem blk_cells {w : World} {b : Nat} {us : List Value} (h : Blk w b us) : ∀ (j : Nat) (u : Value), us[j]? = some u → w.cell? ((⟨b, 0, none⟩ : Addr).add j) = some u := fun j u hu => by
  have e : (⟨b, 0, none⟩ : Addr).add j = ⟨b, j, none⟩ := by unfold Addr.add; split <;> simp_all
  rw [e]
  exact h.cell j u hu
set_option maxRecDepth 100000 in
set_option maxHeartbeats 8000000 in
theorem readLine_any (s : ByteArray) (f : Nat) (hs : s.size ≤ 100000) (hf : flat s) (h1 : f ≤ 1000000) (w : World) :
    Calls Tryd.prog 49 #[.string s, .int .i64 (f : Int)] w (LineP w s f) := by
  have hFa := fun er at_ w => fault_any er at_ w
  by_cases hlong : 1000 < s.size
  · have hl' : (1000 : Int) < (s.size : Int) := by omega
    have HLG := Lib.hid hlong
    clear hlong
    go_enter Tryd.func49, Tryd.ntmps49
    go_wp2_with fail
    refine named fun W hW => ?_
    have hB : Below w.heap.size w W := by rw [hW]; go_grown
    have hK0 : Blk W w.heap.size [.int .i64 0, .slice none 0 0] := by rw [hW]; exact (Blk.is _ rfl).alloc _
    have hK1 : Blk W (w.heap.size + 1) [.int .i64 0, .int .i64 0] := by rw [hW]; exact Blk.is _ (by simp)
    clear hW
    refine (hFa _ _ _).mono ?_
    rintro e w1 ⟨rfl, hb1⟩
    replace hB := bstep hB hb1
    replace hK0 := hK0.later hb1
    replace hK1 := hK1.later hb1
    have c0 := hK0.cell 0 _ rfl
    have c1 := hK0.cell 1 _ rfl
    have c2 := hK1.cell 0 _ rfl
    have c3 := hK1.cell 1 _ rfl
    have f0 := hK0.fr 0 _ rfl
    have f1 := hK0.fr 1 _ rfl
    have f2 := hK1.fr 0 _ rfl
    have f3 := hK1.fr 1 _ rfl
    go_wp2
    refine named_post fun V hV => ?_
    obtain ⟨hVB, hV0, hV1, hVO⟩ := two_out hB hK0 hK1 (.int .i64 0) (.slice none 0 0) (.int .i64 4) (.int .i64 (f : Int)) V hV
    clear hV c0 c1 c2 c3 f0 f1 f2 f3
    have c0 := hV0.cell 0 _ rfl
    have c1 := hV0.cell 1 _ rfl
    have c2 := hV1.cell 0 _ rfl
    have c3 := hV1.cell 1 _ rfl
    refine bodyPost_ret (v := .tuple #[.agg #[(.int .i64 0), (.slice none 0 0)], .agg #[(.int .i64 4), (.int .i64 (f : Int))]]) (by simp [results, Tryd.results49, go_sem, c0, c1, c2, c3]; try rfl) rfl ⟨hVB, .inl ⟨HLG.out, rfl⟩⟩
  · have hl' : ¬ (1000 : Int) < (s.size : Int) := by omega
    have HLG := Lib.hid hlong
    have hfr : IntKind.i64.wrap 0 = 0 := by decide
    obtain ⟨i0, hi, hz0, hz1, hz2⟩ := info_parts infoWord6
    have hr0 : restAt s 0 = s.data.toList := rfl
    have HR0 := Lib.hid hr0
    clear hlong hr0 hfr
    go_enter Tryd.func49, Tryd.ntmps49
    go_wp2_with fail
    go_loopg [] s.size (fun g wr => ∃ (k : Nat) (ws : List W) (v : Value), k ≤ s.size ∧ g = s.size - k ∧ Hid (LineI w s f ws k v wr) ∧ Hid (lineG s.data.toList f = glueE ws (lineG (restAt s k) (f + k))) ∧ ws.length ≤ k)
    case atStart =>
      refine ⟨0, [], .slice none 0 0, Nat.zero_le _, rfl, ?_, ?_, Nat.zero_le _⟩
      · exact Lib.hid ⟨by exact (Blk.is (us := [.string s, .int .i64 ((0 : Nat) : Int), .int .i64 (f : Int)]) _ (by simp)).alloc _, by exact Blk.is (us := [.int .i64 (f : Int), .slice none 0 0]) _ (by simp), by exact (((Blk.is (us := [.int .i64 0, .slice none 0 0]) _ rfl).alloc _).alloc _).alloc _, by exact ((Blk.is (us := [.int .i64 0, .int .i64 0]) _ (by simp)).alloc _).alloc _, World.ownsRow_nil _ _ _ _, by go_grown⟩
      · refine Lib.hid ?_
        show lineG s.data.toList f = glueE [] (lineG s.data.toList (f + 0))
        rw [Nat.add_zero]
        cases lineG s.data.toList f <;> rfl
    case round =>
      obtain ⟨k, ws, v, hk, hg, hI, hL, hwk⟩ := hrel
      have hD := isDone_any hI.out.cur hk hs hf
      go_wp2_with fail
      refine hD.mono ?_
      rintro e w1 ⟨j, hkj, hj, rfl, hC1, hO1, hLb, hnb⟩
      have hI1 := hI.out.step (only_grown hO1) hC1
      have hL1 := hL.out
      rw [hLb f] at hL1
      clear hLb hI hO1 hC1 hD
      cases hdn : doneB (restAt s j) with
      | true =>
        have hok : lineG s.data.toList f = .ok ws := by
          rw [hL1, lineG_done hdn hnb]; simp [glueE]
        have HOK := Lib.hid hok
        have hB := hI1.bel
        have hK0 := hI1.out
        have hK1 := hI1.flt
        have hOw := hI1.own
        obtain ⟨A, cp, rfl⟩ := own_form hOw
        have a0 := hI1.row.cell 0 _ rfl
        have a1 := hI1.row.cell 1 _ rfl
        have c0 := hK0.cell 0 _ rfl
        have c1 := hK0.cell 1 _ rfl
        have c2 := hK1.cell 0 _ rfl
        have c3 := hK1.cell 1 _ rfl
        have f0 := hK0.fr 0 _ rfl
        have f1 := hK0.fr 1 _ rfl
        have f2 := hK1.fr 0 _ rfl
        have f3 := hK1.fr 1 _ rfl
        clear hdn hL1 hok hnb hI1
        go_wp2
        refine named_post fun V hV => ?_
        obtain ⟨hVB, hV0, hV1, hVO⟩ := two_out hB hK0 hK1 (.int .i64 (f : Int)) (.slice A ws.length cp) (.int .i64 0) (.int .i64 0) V hV
        clear hV c0 c1 c2 c3 f0 f1 f2 f3
        have c0 := hV0.cell 0 _ rfl
        have c1 := hV0.cell 1 _ rfl
        have c2 := hV1.cell 0 _ rfl
        have c3 := hV1.cell 1 _ rfl
        refine bodyPost_ret (v := .tuple #[.agg #[(.int .i64 (f : Int)), (.slice A ws.length cp)], .agg #[(.int .i64 0), (.int .i64 0)]]) (by simp [results, Tryd.results49, go_sem, c0, c1, c2, c3]; try rfl) rfl ⟨hVB, .inr (.inr ⟨HLG.out, ws, _, HOK.out, rfl, own_mono (hVO (by omega) hOw) (by omega)⟩)⟩
      | false =>
        have hjl : j < s.size := by
          by_cases hz : j < s.size
          · exact hz
          · rw [rest_nil (by omega)] at hdn; cases hdn
        have hWo := word_any hI1.cur hjl hs hf (by omega) (by omega) hdn hnb
        rw [lineG_word hdn hnb] at hL1
        have HL1 := Lib.hid hL1
        clear hdn hL1 hnb
        go_wp2_with fail
        refine hWo.mono ?_
        rintro e w2 ⟨k2, hk1, hk2, hC2, hg2, (⟨hnone, q, t, rfl⟩ | ⟨q, t, r, hsome, rfl, hrk⟩)⟩
        · have hI2 := hI1.step hg2 hC2
          have hL2 := HL1.out
          rw [hnone] at hL2
          have herr := Lib.hid (show lineG s.data.toList f = .error (f + j) from hL2)
          clear hWo hI1 hL2 HL1 hnone hg2 hC2
          go_wp2_with fail
          refine named fun W hW => ?_
          have hI3 := hI2.alloc (.cells #[.bool q, .string t, .int .i64 ((f : Int) + (j : Int))] 31)
          rw [← hW] at hI3
          have hB := hI3.bel
          have hK0 := hI3.out
          have hK1 := hI3.flt
          clear hW hI2 hI3
          refine (hFa _ _ _).mono ?_
          rintro e w3 ⟨rfl, hb3⟩
          replace hB := bstep hB hb3
          replace hK0 := hK0.later hb3
          replace hK1 := hK1.later hb3
          have c0 := hK0.cell 0 _ rfl
          have c1 := hK0.cell 1 _ rfl
          have c2 := hK1.cell 0 _ rfl
          have c3 := hK1.cell 1 _ rfl
          have f0 := hK0.fr 0 _ rfl
          have f1 := hK0.fr 1 _ rfl
          have f2 := hK1.fr 0 _ rfl
          have f3 := hK1.fr 1 _ rfl
          go_wp2
          refine named_post fun V hV => ?_
          obtain ⟨hVB, hV0, hV1, hVO⟩ := two_out hB hK0 hK1 (.int .i64 0) (.slice none 0 0) (.int .i64 3) (.int .i64 ((f : Int) + (j : Int))) V hV
          clear hV c0 c1 c2 c3 f0 f1 f2 f3
          have c0 := hV0.cell 0 _ rfl
          have c1 := hV0.cell 1 _ rfl
          have c2 := hV1.cell 0 _ rfl
          have c3 := hV1.cell 1 _ rfl
          refine bodyPost_ret (v := .tuple #[.agg #[(.int .i64 0), (.slice none 0 0)], .agg #[(.int .i64 3), (.int .i64 ((f : Int) + (j : Int)))]]) (by simp [results, Tryd.results49, go_sem, c0, c1, c2, c3]; try rfl) rfl ⟨hVB, .inr (.inl ⟨HLG.out, f + j, herr.out, by go_num⟩)⟩
        · have hI2 := hI1.step hg2 hC2
          have hlt := oneG_len hsome
          have hrl : r.length = s.size - k2 := by rw [← hrk, restAt_len]
          have hjr : (restAt s j).length = s.size - j := restAt_len s j
          have hL2 := HL1.out
          rw [hsome] at hL2
          have hst : f + j + ((restAt s j).length - r.length) = f + k2 := by omega
          simp only [hst] at hL2
          rw [← hrk] at hL2
          have hnx := Lib.hid (show lineG s.data.toList f = glueE (ws ++ [(q, t, f + j)]) (lineG (restAt s k2) (f + k2)) by
            rw [hL2]
            cases lineG (restAt s k2) (f + k2) <;> simp [glueE])
          have hjk : j < k2 := by omega
          clear hWo hI1 hL2 HL1 hsome hg2 hC2 hrl hjr hst hrk hlt
          have a1 := hI2.row.cell 1 _ rfl
          have hz := hI2.row.lt
          have hb4 := hI2.bel.size
          go_wp2_with (at_builtin; go_loud (refine wpList_append_own _ rfl _ _ 41 rfl (w.heap.size + 4) 31 i0 (.agg #[.bool false, .string ⟨#[]⟩, .int .i64 0]) 3 32 Tryd.underlying41 hi hz0 hz1 hz2 rfl (by decide) _ _ _ rfl ((hI2.own.alloc _).alloc _) ⟨w2.heap.size + 1, 0, none⟩ 1 1 (wcell (q, t, (f : Int) + (j : Int))) rfl rfl (blk_cells (Blk.is (us := wcell (q, t, (f : Int) + (j : Int))) 31 (by simp))) (by simp [wcell, Value.oneCell']) (by unfold maxLen; omega) (by omega) (by simp; omega) ?_; intro v' w3 hown' hgrow _; obtain ⟨A', cp', rfl⟩ := own_form hown'; have hI4 := ((hI2.alloc _).alloc _).snoc (q, t, f + j) (by rw [show wdOf (q, t, f + j) = (q, t, (f : Int) + (j : Int)) by unfold wdOf; simp]; exact hown') hgrow rfl; have hrw := Blk.grown ((hI2.row.alloc _).alloc _) hgrow (fun e => by have := (hI2.own.lt _ e.symm).1; omega); have d0 := hrw.cell 0 _ rfl; have d1 := hrw.cell 1 _ rfl; have e0 := hrw.fr 0 _ rfl; have e1 := hrw.fr 1 _ rfl; have hI5 := Lib.hid hI4; clear hI4))
          go_roundg (s.size - k2)
          case rel => exact ⟨k2, _, _, hk2, rfl, hI5, hnx, by rw [List.length_append]; simp only [List.length_cons, List.length_nil]; omega⟩
          case measure => omega
end Go.Proofs.YtkmkhegekonbmaaDoor
