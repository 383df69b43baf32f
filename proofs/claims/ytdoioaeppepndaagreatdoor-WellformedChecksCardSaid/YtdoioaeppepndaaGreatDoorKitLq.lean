/- The kit's LightQuery: walk, and what it bounds. Made by program (wip/tools/gen_kitLq.py). -/
import Derived.Test.YtdoioaeppepndaaGreatDoorKitWe
import Derived.Test.YtdoioaeppepndaaGreatDoorAstThr
namespace Go.Proofs.YtdoioaeppepndaaGreatDoor
open Go.RowKit Go.Shelf
open A8 Tk7

def lightQ (q : Qu) : Bool := lightN q.p && decide (q.hv.length ≤ 10) && decide (q.em.length ≤ 10) && q.hv.all (fun h => decide (h.ag.nm.length ≤ 20)) && q.em.all (fun a => decide (a.nm.length ≤ 20))
theorem strOf_size20 (l : List UInt8) : (strOf l).size = l.length := by simp [strOf, ByteArray.size]
set_option maxRecDepth 100000 in
set_option maxHeartbeats 8000000 in
theorem lightq_walk (k mn mx kd : Int) (bd : Bool) (bn : Int) (sc : Value) (nm : ByteArray) (sk : Value) (wi : Int) (sh se : Value) (hv : List Hv) (em : List Ag) (F : Bool) (w : World)
    (hh : Sl w 4 hv.length sh (hv.flatMap hvC)) (he : Sl w 2 em.length se (em.flatMap agC))
    (hF : ∀ w1, Below w.heap.size w w1 → Calls Tryz.prog 61 #[.agg #[.int .i64 k, .int .i64 mn, .int .i64 mx, .int .i64 kd, .bool bd, .int .u64 bn, sc, .string nm, sk]] w1 fun e w' => e = .returned (.bool F) ∧ Below w1.heap.size w1 w') :
    Calls Tryz.prog 19 #[.agg #[.int .i64 k, .int .i64 mn, .int .i64 mx, .int .i64 kd, .bool bd, .int .u64 bn, sc, .string nm, sk, .int .u64 wi, sh, se]] w fun e w' => e = .returned (.bool (F && decide (hv.length ≤ 10) && decide (em.length ≤ 10) && hv.all (fun h => decide (h.ag.nm.length ≤ 20)) && em.all (fun a => decide (a.nm.length ≤ 20)))) ∧ Below w.heap.size w w' := by
  obtain ⟨A, c, rfl, hm, hels⟩ := sl_els (by decide) hvC_len hh
  obtain ⟨B, e, rfl, hm', hels'⟩ := sl_els (by decide) agC_len he
  obtain ⟨W, hWW⟩ : ∃ W, W = w.alloc (.cells #[.int .i64 k, .int .i64 mn, .int .i64 mx, .int .i64 kd, .bool bd, .int .u64 bn, sc, .string nm, sk, .int .u64 wi, .slice A hv.length c, .slice B em.length e] 35) := ⟨_, rfl⟩
  have hb1 : Below w.heap.size w W := hWW ▸ b1 _ _
  have hBx : Blk W w.heap.size [.int .i64 k, .int .i64 mn, .int .i64 mx, .int .i64 kd, .bool bd, .int .u64 bn, sc, .string nm, sk, .int .u64 wi, .slice A hv.length c, .slice B em.length e] := hWW ▸ Blk.new w _ _
  have hF1 := hF W hb1
  have HE := Lib.hid hels
  have HE' := Lib.hid hels'
  clear hels hels' hh he hF
  cases F with
  | false =>
    have hR : (false && decide (hv.length ≤ 10) && decide (em.length ≤ 10) && hv.all (fun h => decide (h.ag.nm.length ≤ 20)) && em.all (fun a => decide (a.nm.length ≤ 20))) = false := by simp
    rw [hR]
    clear hR
    have HF1 := Lib.hid hF1
    clear hF1 HE HE'
    go_enter Tryz.func19, Tryz.ntmps19
    go_wp2_with fail
    rw [← hWW]
    clear hWW
    refine HF1.out.mono ?_
    rintro e1 w2 ⟨rfl, hb2⟩
    have HX := hBx.later hb2
    have c10 := HX.cell 10 _ rfl
    have c11 := HX.cell 11 _ rfl
    have HB2 := Lib.hid (bstep hb1 hb2)
    clear HX hBx hb1 hb2
    go_wp2
    go_ret
    exact ⟨rfl, HB2.out⟩
  | true =>
    by_cases g1 : hv.length ≤ 10
    · have g1' : ¬ (10 : Int) < (hv.length : Int) := by omega
      by_cases g2 : em.length ≤ 10
      · have g2' : ¬ (10 : Int) < (em.length : Int) := by omega
        have hR : (true && decide (hv.length ≤ 10) && decide (em.length ≤ 10) && hv.all (fun h => decide (h.ag.nm.length ≤ 20)) && em.all (fun a => decide (a.nm.length ≤ 20))) = (hv.all (fun h => decide (h.ag.nm.length ≤ 20)) && em.all (fun a => decide (a.nm.length ≤ 20))) := by rw [decide_eq_true g1, decide_eq_true g2]; simp
        rw [hR]
        have hcell : ∀ w1, Below W.heap.size W w1 → Blk w1 w.heap.size [.int .i64 k, .int .i64 mn, .int .i64 mx, .int .i64 kd, .bool bd, .int .u64 bn, sc, .string nm, sk, .int .u64 wi, .slice A hv.length c, .slice B em.length e] := fun w1 hb => hBx.later hb
        clear hR hBx
        have HB := Lib.hid hb1
        clear hb1
        go_enter Tryz.func19, Tryz.ntmps19
        go_wp2_with fail
        rw [← hWW]
        clear hWW
        refine hF1.mono ?_
        rintro e1 w2 ⟨rfl, hb2⟩
        have hw2 := bstep HB.out hb2
        have HX := hcell _ hb2
        have c10 := HX.cell 10 _ rfl
        have c11 := HX.cell 11 _ rfl
        clear hF1 HX hcell hb2 HB
        go_wp2
        go_loopg [3] hv.length (fun gh iv wr => ∃ i : Nat, i ≤ hv.length ∧ gh = hv.length - i ∧ iv = .int .i64 (i : Int) ∧ Hid (hv.all (fun h => decide (h.ag.nm.length ≤ 20)) = (hv.drop i).all (fun h => decide (h.ag.nm.length ≤ 20))) ∧ wr = w2)
        case atStart => exact ⟨0, Nat.zero_le _, rfl, rfl, Lib.hid rfl, rfl⟩
        case round =>
          obtain ⟨i, hi, hg, rfl, hS, rfl⟩ := hrel
          by_cases hlt : i < hv.length
          · obtain ⟨a, rfl, ha, E⟩ := HE.out i hlt
            have hst : (hv.drop i).all (fun h => decide (h.ag.nm.length ≤ 20)) = (decide ((hv[i]).ag.nm.length ≤ 20) && (hv.drop (i + 1)).all (fun h => decide (h.ag.nm.length ≤ 20))) := by rw [List.drop_eq_getElem_cons hlt, List.all_cons]
            obtain ⟨x, hx⟩ : ∃ x, x = hv[i] := ⟨_, rfl⟩
            rw [← hx] at E hst
            rw [hst] at hS
            replace E := E.later hw2
            have e1 := E.at1 1 (.string (strOf x.ag.nm)) (by decide) rfl
            have hsz : (strOf x.ag.nm).size = x.ag.nm.length := strOf_size20 _
            have h1 : (i : Int) < (hv.length : Int) := by omega
            have hwk : IntKind.i64.wrap ((i : Int) + 1) = (i : Int) + 1 := IntWalk.i64_in _ ⟨by omega, by omega⟩
            obtain ⟨s, hs⟩ : ∃ s, s = strOf x.ag.nm := ⟨_, rfl⟩
            rw [← hs] at e1 hsz
            clear hst hx E hs
            by_cases h30 : x.ag.nm.length ≤ 20
            · have hS2 := Lib.hid (show hv.all (fun h => decide (h.ag.nm.length ≤ 20)) = (hv.drop (i + 1)).all (fun h => decide (h.ag.nm.length ≤ 20)) by rw [hS.out, decide_eq_true h30, Bool.true_and])
              have h30' : ¬ (20 : Int) < (x.ag.nm.length : Int) := by omega
              clear hS
              go_wp2
              go_roundg (hv.length - (i + 1))
              case rel => exact ⟨i + 1, by omega, rfl, by go_num, hS2, rfl⟩
              case measure => omega
            · have hS2 := Lib.hid (show (hv.all (fun h => decide (h.ag.nm.length ≤ 20)) && em.all (fun a => decide (a.nm.length ≤ 20))) = false by rw [hS.out, decide_eq_false h30, Bool.false_and, Bool.false_and])
              have h30' : (20 : Int) < (x.ag.nm.length : Int) := by omega
              clear hS HE HE'
              go_wp2
              go_ret
              exact ⟨by rw [hS2.out]; rfl, hw2⟩
          · have h1 : ¬ (i : Int) < (hv.length : Int) := by omega
            have hS2 := Lib.hid (show (hv.all (fun h => decide (h.ag.nm.length ≤ 20)) && em.all (fun a => decide (a.nm.length ≤ 20))) = em.all (fun a => decide (a.nm.length ≤ 20)) by rw [hS.out, List.drop_eq_nil_of_le (by omega)]; rfl)
            clear hS
            go_wp2
            go_loopg [4] em.length (fun gh iv wv => ∃ i : Nat, i ≤ em.length ∧ gh = em.length - i ∧ iv = .int .i64 (i : Int) ∧ Hid (em.all (fun a => decide (a.nm.length ≤ 20)) = (em.drop i).all (fun a => decide (a.nm.length ≤ 20))) ∧ wv = wr)
            case atStart => exact ⟨0, Nat.zero_le _, rfl, rfl, Lib.hid rfl, rfl⟩
            case round =>
              obtain ⟨j, hj, hg2, rfl, hT, rfl⟩ := hrel
              by_cases hlt2 : j < em.length
              · obtain ⟨a, rfl, ha, E⟩ := HE'.out j hlt2
                have hst : (em.drop j).all (fun a => decide (a.nm.length ≤ 20)) = (decide ((em[j]).nm.length ≤ 20) && (em.drop (j + 1)).all (fun a => decide (a.nm.length ≤ 20))) := by rw [List.drop_eq_getElem_cons hlt2, List.all_cons]
                obtain ⟨x, hx⟩ : ∃ x, x = em[j] := ⟨_, rfl⟩
                rw [← hx] at E hst
                rw [hst] at hT
                replace E := E.later hw2
                have e1 := E.at1 1 (.string (strOf x.nm)) (by decide) rfl
                have hsz : (strOf x.nm).size = x.nm.length := strOf_size20 _
                have h2 : (j : Int) < (em.length : Int) := by omega
                have hwk : IntKind.i64.wrap ((j : Int) + 1) = (j : Int) + 1 := IntWalk.i64_in _ ⟨by omega, by omega⟩
                obtain ⟨s, hs⟩ : ∃ s, s = strOf x.nm := ⟨_, rfl⟩
                rw [← hs] at e1 hsz
                clear hst hx E hs
                by_cases h30 : x.nm.length ≤ 20
                · have hT2 := Lib.hid (show em.all (fun a => decide (a.nm.length ≤ 20)) = (em.drop (j + 1)).all (fun a => decide (a.nm.length ≤ 20)) by rw [hT.out, decide_eq_true h30, Bool.true_and])
                  have h30' : ¬ (20 : Int) < (x.nm.length : Int) := by omega
                  clear hT
                  go_wp2
                  go_roundg (em.length - (j + 1))
                  case rel => exact ⟨j + 1, by omega, rfl, by go_num, hT2, rfl⟩
                  case measure => omega
                · have hT2 := Lib.hid (show em.all (fun a => decide (a.nm.length ≤ 20)) = false by rw [hT.out, decide_eq_false h30, Bool.false_and])
                  have h30' : (20 : Int) < (x.nm.length : Int) := by omega
                  clear hT HE HE'
                  go_wp2
                  go_ret
                  exact ⟨by rw [hS2.out, hT2.out]; rfl, hw2⟩
              · have h2 : ¬ (j : Int) < (em.length : Int) := by omega
                have hT2 := Lib.hid (show em.all (fun a => decide (a.nm.length ≤ 20)) = true by rw [hT.out, List.drop_eq_nil_of_le (by omega)]; rfl)
                clear hT HE HE'
                go_wp2
                go_ret
                exact ⟨by rw [hS2.out, hT2.out]; rfl, hw2⟩

      · have g2' : (10 : Int) < (em.length : Int) := by omega
        have hR : (true && decide (hv.length ≤ 10) && decide (em.length ≤ 10) && hv.all (fun h => decide (h.ag.nm.length ≤ 20)) && em.all (fun a => decide (a.nm.length ≤ 20))) = false := by rw [decide_eq_false g2]; simp
        rw [hR]
        clear hR
        have HF1 := Lib.hid hF1
        clear hF1 HE HE'
        go_enter Tryz.func19, Tryz.ntmps19
        go_wp2_with fail
        rw [← hWW]
        clear hWW
        refine HF1.out.mono ?_
        rintro e1 w2 ⟨rfl, hb2⟩
        have HX := hBx.later hb2
        have c10 := HX.cell 10 _ rfl
        have c11 := HX.cell 11 _ rfl
        have HB2 := Lib.hid (bstep hb1 hb2)
        clear HX hBx hb1 hb2
        go_wp2
        go_ret
        exact ⟨rfl, HB2.out⟩
    · have g1' : (10 : Int) < (hv.length : Int) := by omega
      have hR : (true && decide (hv.length ≤ 10) && decide (em.length ≤ 10) && hv.all (fun h => decide (h.ag.nm.length ≤ 20)) && em.all (fun a => decide (a.nm.length ≤ 20))) = false := by rw [decide_eq_false g1]; simp
      rw [hR]
      clear hR
      have HF1 := Lib.hid hF1
      clear hF1 HE HE'
      go_enter Tryz.func19, Tryz.ntmps19
      go_wp2_with fail
      rw [← hWW]
      clear hWW
      refine HF1.out.mono ?_
      rintro e1 w2 ⟨rfl, hb2⟩
      have HX := hBx.later hb2
      have c10 := HX.cell 10 _ rfl
      have c11 := HX.cell 11 _ rfl
      have HB2 := Lib.hid (bstep hb1 hb2)
      clear HX hBx hb1 hb2
      go_wp2
      go_ret
      exact ⟨rfl, HB2.out⟩
theorem lightq_any (q : GQ) (w : World) (hq : QW w q) :
    Calls Tryz.prog 19 #[.agg q.row.toArray] w fun e w' => e = .returned (.bool (lightQ q.qu)) ∧ Below w.heap.size w w' := by
  have hN := fun w1 (hb : Below w.heap.size w w1) => lightNode_any q.t w1 (hq.tr.later hb)
  obtain ⟨T, wi, sh, hv, se, em⟩ := q
  obtain ⟨k, mn, mx, ⟨⟨kd, bd, bn, cs, nm⟩, sc⟩, sk, ks⟩ := T
  exact lightq_walk k mn mx kd bd bn sc (strOf nm) sk wi sh se hv em _ w hq.hv hq.em hN
/-- What a light query is. -/
structure LightIs (q : Qu) : Prop where
  len : (subsN q.p).length ≤ 40
  small : ∀ t ∈ subsN q.p, smallT t
  hl : q.hv.length ≤ 10
  el : q.em.length ≤ 10
  hn : ∀ h ∈ q.hv, h.ag.nm.length ≤ 20
  en : ∀ a ∈ q.em, a.nm.length ≤ 20
theorem light_is {q : Qu} (h : lightQ q = true) : LightIs q := by
  unfold lightQ lightN at h
  simp only [Bool.and_eq_true, decide_eq_true_eq, List.all_eq_true] at h
  obtain ⟨⟨⟨⟨h1, h2⟩, h3⟩, h4⟩, h5⟩ := h
  obtain ⟨h6, h7⟩ := weighN_is q.p 8 h1
  exact ⟨by omega, h7, h2, h3, h4, h5⟩
end Go.Proofs.YtdoioaeppepndaaGreatDoor
