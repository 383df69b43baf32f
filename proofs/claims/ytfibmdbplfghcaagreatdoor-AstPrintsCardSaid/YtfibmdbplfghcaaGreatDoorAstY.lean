/- Walk: whether a query is small; what that bounds. -/
import Derived.Test.YtfibmdbplfghcaaGreatDoorAstV
import Derived.Test.YtfibmdbplfghcaaGreatDoorAstWr
namespace Go.Proofs.YtfibmdbplfghcaaGreatDoor.A8
open Go.RowKit
def lightB (q : Qu) : Bool := decide (q.hv.length ≤ 20) && decide (q.em.length ≤ 20) && decide (0 ≤ fewN 250 1 q.p) && q.hv.all (fun h => decide (h.ag.nm.length ≤ 30)) && q.em.all (fun a => decide (a.nm.length ≤ 30))
end Go.Proofs.YtfibmdbplfghcaaGreatDoor.A8
namespace Go.Proofs.YtfibmdbplfghcaaGreatDoor
open Go.RowKit Go.Shelf
open A8 Tk7 Lb

set_option maxRecDepth 100000 in
set_option maxHeartbeats 8000000 in
theorem light_walk (k mn mx kd : Int) (bd : Bool) (bn : Int) (sc : Value) (nm : ByteArray) (sk : Value) (wi : Int) (sh se : Value) (hv : List Hv) (em : List Ag) (F : Int) (w : World)
    (hh : Sl w 4 hv.length sh (hv.flatMap hvC)) (he : Sl w 2 em.length se (em.flatMap agC))
    (hF : ∀ w1, Below w.heap.size w w1 → Calls Tryz.prog 20 #[.agg #[.int .i64 k, .int .i64 mn, .int .i64 mx, .int .i64 kd, .bool bd, .int .u64 bn, sc, .string nm, sk], .int .i64 250, .int .i64 1] w1 fun e w' => e = .returned (.int .i64 F) ∧ Below w1.heap.size w1 w') :
    Calls Tryz.prog 8 #[.agg #[.int .i64 k, .int .i64 mn, .int .i64 mx, .int .i64 kd, .bool bd, .int .u64 bn, sc, .string nm, sk, .int .u64 wi, sh, se]] w fun e w' => e = .returned (.bool (decide (hv.length ≤ 20) && decide (em.length ≤ 20) && decide (0 ≤ F) && hv.all (fun h => decide (h.ag.nm.length ≤ 30)) && em.all (fun a => decide (a.nm.length ≤ 30)))) ∧ Below w.heap.size w w' := by
  obtain ⟨A, c, rfl, hm, hels⟩ := sl_els (by decide) hvC_len hh
  obtain ⟨B, e, rfl, hm', hels'⟩ := sl_els (by decide) agC_len he
  obtain ⟨W, hWW⟩ : ∃ W, W = w.alloc (.cells #[.int .i64 k, .int .i64 mn, .int .i64 mx, .int .i64 kd, .bool bd, .int .u64 bn, sc, .string nm, sk, .int .u64 wi, .slice A hv.length c, .slice B em.length e] 32) := ⟨_, rfl⟩
  have hb1 : Below w.heap.size w W := hWW ▸ b1 _ _
  have hBx : Blk W w.heap.size [.int .i64 k, .int .i64 mn, .int .i64 mx, .int .i64 kd, .bool bd, .int .u64 bn, sc, .string nm, sk, .int .u64 wi, .slice A hv.length c, .slice B em.length e] := hWW ▸ Blk.new w _ _
  have hF1 := hF W hb1
  have HE := Lib.hid hels
  have HE' := Lib.hid hels'
  clear hels hels' hh he hF
  by_cases g1 : hv.length ≤ 20
  · have g1' : ¬ (20 : Int) < (hv.length : Int) := by omega
    by_cases g2 : em.length ≤ 20
    · have g2' : ¬ (20 : Int) < (em.length : Int) := by omega
      by_cases g3 : F < 0
      · have hR : (decide (hv.length ≤ 20) && decide (em.length ≤ 20) && decide (0 ≤ F) && hv.all (fun h => decide (h.ag.nm.length ≤ 30)) && em.all (fun a => decide (a.nm.length ≤ 30))) = false := by
          rw [decide_eq_false (p := 0 ≤ F) (by omega)]; simp
        rw [hR]
        clear hR hBx HE HE'
        subst hWW
        go_enter Tryz.func8, Tryz.ntmps8
        go_wp2_with (go_at_call 20; refine hF1.mono ?_; rintro e w2 ⟨rfl, hb2⟩)
        go_ret
        exact ⟨rfl, bstep hb1 hb2⟩
      · have hR : (decide (hv.length ≤ 20) && decide (em.length ≤ 20) && decide (0 ≤ F) && hv.all (fun h => decide (h.ag.nm.length ≤ 30)) && em.all (fun a => decide (a.nm.length ≤ 30))) = (hv.all (fun h => decide (h.ag.nm.length ≤ 30)) && em.all (fun a => decide (a.nm.length ≤ 30))) := by
          rw [decide_eq_true g1, decide_eq_true g2, decide_eq_true (p := 0 ≤ F) (by omega)]; simp
        rw [hR]
        have hcell : ∀ w1, Below W.heap.size W w1 → Blk w1 w.heap.size [.int .i64 k, .int .i64 mn, .int .i64 mx, .int .i64 kd, .bool bd, .int .u64 bn, sc, .string nm, sk, .int .u64 wi, .slice A hv.length c, .slice B em.length e] := fun w1 hb => hBx.later hb
        clear hR hBx
        have HB := Lib.hid hb1
        clear hb1
        go_enter Tryz.func8, Tryz.ntmps8
        go_wp2_with fail
        rw [← hWW]
        clear hWW
        refine hF1.mono ?_
        rintro e1 w2 ⟨rfl, hb2⟩
        have hw2 := bstep HB.out hb2
        have HX := hcell _ hb2
        have c10 := HX.cell 10 _ rfl
        have c11 := HX.cell 11 _ rfl
        clear hF1 HX hcell hb2 HB
        go_wp2
        go_loopg [3] hv.length (fun gh iv wr => ∃ i : Nat, i ≤ hv.length ∧ gh = hv.length - i ∧ iv = .int .i64 (i : Int) ∧ Hid (hv.all (fun h => decide (h.ag.nm.length ≤ 30)) = (hv.drop i).all (fun h => decide (h.ag.nm.length ≤ 30))) ∧ wr = w2)
        case atStart => exact ⟨0, Nat.zero_le _, rfl, rfl, Lib.hid rfl, rfl⟩
        case round =>
          obtain ⟨i, hi, hg, rfl, hS, rfl⟩ := hrel
          by_cases hlt : i < hv.length
          · obtain ⟨a, rfl, ha, E⟩ := HE.out i hlt
            have hst : (hv.drop i).all (fun h => decide (h.ag.nm.length ≤ 30)) = (decide ((hv[i]).ag.nm.length ≤ 30) && (hv.drop (i + 1)).all (fun h => decide (h.ag.nm.length ≤ 30))) := by rw [List.drop_eq_getElem_cons hlt, List.all_cons]
            obtain ⟨x, hx⟩ : ∃ x, x = hv[i] := ⟨_, rfl⟩
            rw [← hx] at E hst
            rw [hst] at hS
            replace E := E.later hw2
            have e1 := E.at1 1 (.string (strOf x.ag.nm)) (by decide) rfl
            have hsz : (strOf x.ag.nm).size = x.ag.nm.length := strOf_size _
            have h1 : (i : Int) < (hv.length : Int) := by omega
            have hwk : IntKind.i64.wrap ((i : Int) + 1) = (i : Int) + 1 := IntWalk.i64_in _ ⟨by omega, by omega⟩
            obtain ⟨s, hs⟩ : ∃ s, s = strOf x.ag.nm := ⟨_, rfl⟩
            rw [← hs] at e1 hsz
            clear hst hx E hs
            by_cases h30 : x.ag.nm.length ≤ 30
            · have hS2 := Lib.hid (show hv.all (fun h => decide (h.ag.nm.length ≤ 30)) = (hv.drop (i + 1)).all (fun h => decide (h.ag.nm.length ≤ 30)) by rw [hS.out, decide_eq_true h30, Bool.true_and])
              have h30' : ¬ (30 : Int) < (x.ag.nm.length : Int) := by omega
              clear hS
              go_wp2
              go_roundg (hv.length - (i + 1))
              case rel => exact ⟨i + 1, by omega, rfl, by go_num, hS2, rfl⟩
              case measure => omega
            · have hS2 := Lib.hid (show (hv.all (fun h => decide (h.ag.nm.length ≤ 30)) && em.all (fun a => decide (a.nm.length ≤ 30))) = false by rw [hS.out, decide_eq_false h30, Bool.false_and, Bool.false_and])
              have h30' : (30 : Int) < (x.ag.nm.length : Int) := by omega
              clear hS HE HE'
              go_wp2
              go_ret
              exact ⟨by rw [hS2.out]; rfl, hw2⟩
          · have h1 : ¬ (i : Int) < (hv.length : Int) := by omega
            have hS2 := Lib.hid (show (hv.all (fun h => decide (h.ag.nm.length ≤ 30)) && em.all (fun a => decide (a.nm.length ≤ 30))) = em.all (fun a => decide (a.nm.length ≤ 30)) by rw [hS.out, List.drop_eq_nil_of_le (by omega)]; rfl)
            clear hS
            go_wp2
            go_loopg [4] em.length (fun gh iv wv => ∃ i : Nat, i ≤ em.length ∧ gh = em.length - i ∧ iv = .int .i64 (i : Int) ∧ Hid (em.all (fun a => decide (a.nm.length ≤ 30)) = (em.drop i).all (fun a => decide (a.nm.length ≤ 30))) ∧ wv = wr)
            case atStart => exact ⟨0, Nat.zero_le _, rfl, rfl, Lib.hid rfl, rfl⟩
            case round =>
              obtain ⟨j, hj, hg2, rfl, hT, rfl⟩ := hrel
              by_cases hlt2 : j < em.length
              · obtain ⟨a, rfl, ha, E⟩ := HE'.out j hlt2
                have hst : (em.drop j).all (fun a => decide (a.nm.length ≤ 30)) = (decide ((em[j]).nm.length ≤ 30) && (em.drop (j + 1)).all (fun a => decide (a.nm.length ≤ 30))) := by rw [List.drop_eq_getElem_cons hlt2, List.all_cons]
                obtain ⟨x, hx⟩ : ∃ x, x = em[j] := ⟨_, rfl⟩
                rw [← hx] at E hst
                rw [hst] at hT
                replace E := E.later hw2
                have e1 := E.at1 1 (.string (strOf x.nm)) (by decide) rfl
                have hsz : (strOf x.nm).size = x.nm.length := strOf_size _
                have h2 : (j : Int) < (em.length : Int) := by omega
                have hwk : IntKind.i64.wrap ((j : Int) + 1) = (j : Int) + 1 := IntWalk.i64_in _ ⟨by omega, by omega⟩
                obtain ⟨s, hs⟩ : ∃ s, s = strOf x.nm := ⟨_, rfl⟩
                rw [← hs] at e1 hsz
                clear hst hx E hs
                by_cases h30 : x.nm.length ≤ 30
                · have hT2 := Lib.hid (show em.all (fun a => decide (a.nm.length ≤ 30)) = (em.drop (j + 1)).all (fun a => decide (a.nm.length ≤ 30)) by rw [hT.out, decide_eq_true h30, Bool.true_and])
                  have h30' : ¬ (30 : Int) < (x.nm.length : Int) := by omega
                  clear hT
                  go_wp2
                  go_roundg (em.length - (j + 1))
                  case rel => exact ⟨j + 1, by omega, rfl, by go_num, hT2, rfl⟩
                  case measure => omega
                · have hT2 := Lib.hid (show em.all (fun a => decide (a.nm.length ≤ 30)) = false by rw [hT.out, decide_eq_false h30, Bool.false_and])
                  have h30' : (30 : Int) < (x.nm.length : Int) := by omega
                  clear hT HE HE'
                  go_wp2
                  go_ret
                  exact ⟨by rw [hS2.out, hT2.out]; rfl, hw2⟩
              · have h2 : ¬ (j : Int) < (em.length : Int) := by omega
                have hT2 := Lib.hid (show em.all (fun a => decide (a.nm.length ≤ 30)) = true by rw [hT.out, List.drop_eq_nil_of_le (by omega)]; rfl)
                clear hT HE HE'
                go_wp2
                go_ret
                exact ⟨by rw [hS2.out, hT2.out]; rfl, hw2⟩
    · have g2' : (20 : Int) < (em.length : Int) := by omega
      have hR : (decide (hv.length ≤ 20) && decide (em.length ≤ 20) && decide (0 ≤ F) && hv.all (fun h => decide (h.ag.nm.length ≤ 30)) && em.all (fun a => decide (a.nm.length ≤ 30))) = false := by
        rw [decide_eq_false g2]; simp
      rw [hR]
      clear hR hBx HE HE' hF1
      subst hWW
      go_enter Tryz.func8, Tryz.ntmps8
      go_wp2
      go_ret
      exact ⟨rfl, hb1⟩
  · have g1' : (20 : Int) < (hv.length : Int) := by omega
    have hR : (decide (hv.length ≤ 20) && decide (em.length ≤ 20) && decide (0 ≤ F) && hv.all (fun h => decide (h.ag.nm.length ≤ 30)) && em.all (fun a => decide (a.nm.length ≤ 30))) = false := by
      rw [decide_eq_false g1]; simp
    rw [hR]
    clear hR hBx HE HE' hF1
    subst hWW
    go_enter Tryz.func8, Tryz.ntmps8
    go_wp2
    go_ret
    exact ⟨rfl, hb1⟩
theorem light_any (q : GQ) (w : World) (hq : QW w q) :
    Calls Tryz.prog 8 #[.agg q.row.toArray] w fun e w' => e = .returned (.bool (lightB q.qu)) ∧ Below w.heap.size w w' := by
  have hF := fun w1 (hb : Below w.heap.size w w1) => few_any q.t 250 1 w1 (hq.tr.later hb) ⟨by decide, by decide⟩ (by decide)
  have hl : lightB q.qu = (decide (q.hv.length ≤ 20) && decide (q.em.length ≤ 20) && decide (0 ≤ fewN 250 1 q.t.nd) && q.hv.all (fun h => decide (h.ag.nm.length ≤ 30)) && q.em.all (fun a => decide (a.nm.length ≤ 30))) := rfl
  rw [hl]
  obtain ⟨⟨k, mn, mx, ⟨⟨kd, bd, bn, cs, nm⟩, sc⟩, sk, ks⟩, wi, sh, hv, se, em⟩ := q
  exact light_walk k mn mx kd bd bn sc (strOf nm) sk wi sh se hv em _ w hq.hv hq.em hF
end Go.Proofs.YtfibmdbplfghcaaGreatDoor
