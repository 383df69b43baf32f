/- The document's own: what is sound. -/
import Derived.Test.YtdoioaeppepndaaGreatDoorAstOne
import Derived.Test.YtdoioaeppepndaaGreatDoorProg
import Derived.Outline
import Derived.Handy
import Derived.Deep.LoopGhost
import Derived.Test.YtdoioaeppepndaaGreatDoorAstKm
namespace Go.Proofs.YtdoioaeppepndaaGreatDoor
open Go.RowKit
open A8 Tk7

set_option maxRecDepth 100000 in
theorem rcond_any (op va : Int) (w : World) :
    Calls Tryz.prog 112 #[.agg #[.int .i64 op, .int .i64 va]] w fun e w' => e = .returned (.bool (condB ⟨op, va⟩)) ∧ Below w.heap.size w w' := by
  unfold condB
  simp only
  by_cases h1 : 1 ≤ op
  · by_cases h2 : op ≤ 6
    · rw [decide_eq_true h1, decide_eq_true h2]
      go_enter Tryz.func112, Tryz.ntmps112
      go_wp2
      go_ret
      exact ⟨rfl, b1 _ _⟩
    · rw [decide_eq_true h1, decide_eq_false h2]
      go_enter Tryz.func112, Tryz.ntmps112
      go_wp2
      go_ret
      exact ⟨rfl, b1 _ _⟩
  · rw [decide_eq_false h1]
    go_enter Tryz.func112, Tryz.ntmps112
    go_wp2
    go_ret
    exact ⟨rfl, b1 _ _⟩
set_option maxRecDepth 100000 in
theorem rzero_any (kd : Int) (bd : Bool) (bn : Int) (cs : List Cn) (nm : List UInt8) (C : Option Addr) (cc : Nat) (w : World) :
    Calls Tryz.prog 134 #[.agg #[.int .i64 kd, .bool bd, .int .u64 bn, .slice C cs.length cc, .string (strOf nm)]] w fun e w' => e = .returned (.bool (zeroB ⟨kd, bd, bn, cs, nm⟩)) ∧ Below w.heap.size w w' := by
  have hz : zeroB ⟨kd, bd, bn, cs, nm⟩ = (decide (kd = 0) && !bd && decide (bn = 0) && decide (cs.length = 0) && decide (nm.length = 0)) := by
    unfold zeroB
    cases cs <;> cases nm <;> simp
  rw [hz]
  clear hz
  obtain ⟨n, hn⟩ : ∃ n, n = cs.length := ⟨_, rfl⟩
  have hsz : (strOf nm).toList.isEmpty = decide (nm.length = 0) := by
    rw [strOf_toL]
    cases nm <;> simp
  obtain ⟨s, hs⟩ : ∃ s, s = strOf nm := ⟨_, rfl⟩
  obtain ⟨q, hq⟩ : ∃ q, q = decide (nm.length = 0) := ⟨_, rfl⟩
  rw [← hs, ← hq] at hsz
  rw [← hn, ← hs, ← hq]
  clear hn hs hq
  by_cases h1 : kd = 0
  · subst h1
    cases bd with
    | true =>
      go_enter Tryz.func134, Tryz.ntmps134
      go_wp2
      go_ret
      exact ⟨rfl, b1 _ _⟩
    | false =>
      by_cases h2 : bn = 0
      · subst h2
        by_cases h3 : n = 0
        · subst h3
          go_enter Tryz.func134, Tryz.ntmps134
          go_wp2
          go_ret
          exact ⟨by simp, b1 _ _⟩
        · have hb : ((n : Int) == 0) = false := by rw [beq_eq_false_iff_ne]; omega
          rw [decide_eq_false h3]
          go_enter Tryz.func134, Tryz.ntmps134
          go_wp2
          go_ret
          exact ⟨by simp, b1 _ _⟩
      · have hb : (bn == 0) = false := by rw [beq_eq_false_iff_ne]; exact h2
        rw [decide_eq_false h2]
        go_enter Tryz.func134, Tryz.ntmps134
        go_wp2
        go_ret
        exact ⟨by simp, b1 _ _⟩
  · have hb : (kd == 0) = false := by rw [beq_eq_false_iff_ne]; exact h1
    rw [decide_eq_false h1]
    go_enter Tryz.func134, Tryz.ntmps134
    go_wp2
    go_ret
    exact ⟨by simp, b1 _ _⟩
end Go.Proofs.YtdoioaeppepndaaGreatDoor
namespace Go.Proofs.YtdoioaeppepndaaGreatDoor
open Go.RowKit
open A8 Tk7

set_option maxRecDepth 100000 in
theorem rwords8_any (w : World) : Calls Tryz.prog 147 #[] w fun e w' => ∃ a : Addr, e = .returned (.slice (some a) 11 11) ∧ Below w.heap.size w w' ∧ ∀ (i : Nat) (c : List UInt8), wordsL[i]? = some c → w'.cell? (a.add i) = some (.string (strOf c)) := by
  go_enter Tryz.func147, Tryz.ntmps147
  go_wp2
  go_ret
  refine ⟨⟨w.heap.size, 0, none⟩, rfl, b1 _ _, fun i c hc => ?_⟩
  exact blk_cells (Blk.is (us := wordsL.map fun c => .string (strOf c)) _ rfl) i _ (by rw [List.getElem?_map, hc]; rfl)
theorem size_dat (s : ByteArray) : s.data.toList.length = s.size := Array.length_toList
theorem get_dat (s : ByteArray) (i : Nat) (h : i < s.size) : s.data.toList[i]? = some s[i] := by
  rw [List.getElem?_eq_getElem (by rw [size_dat]; exact h)]
  rfl
theorem dat_str (s : ByteArray) : strOf s.data.toList = s := by unfold strOf; rw [Array.toArray_toList]
set_option maxRecDepth 100000 in
set_option maxHeartbeats 4000000 in
theorem rname_any (s : ByteArray) (w : World) : Calls Tryz.prog 135 #[.string s] w fun e w' => e = .returned (.bool (nameB s.data.toList)) ∧ Below w.heap.size w w' := by
  have hnm : nameB s.data.toList = (decide (1 ≤ s.size) && decide (s.size ≤ 8) && s.data.toList.all smallB && !wordB s) := by
    unfold nameB
    rw [size_dat, ← wordB_is, dat_str]
  rw [hnm]
  clear hnm
  by_cases h1 : s.size < 1
  · rw [decide_eq_false (show ¬ 1 ≤ s.size by omega)]
    have h1' : (s.size : Int) < 1 := by omega
    go_enter Tryz.func135, Tryz.ntmps135
    go_wp2
    go_ret
    exact ⟨rfl, Below.refl _ _⟩
  · by_cases h2 : 8 < s.size
    · rw [decide_eq_false (show ¬ s.size ≤ 8 by omega), Bool.and_false]
      have h1' : ¬ (s.size : Int) < 1 := by omega
      have h2' : (8 : Int) < (s.size : Int) := by omega
      go_enter Tryz.func135, Tryz.ntmps135
      go_wp2
      go_ret
      exact ⟨rfl, Below.refl _ _⟩
    · rw [decide_eq_true (show 1 ≤ s.size by omega), decide_eq_true (show s.size ≤ 8 by omega), Bool.true_and, Bool.true_and]
      have h1' : ¬ (s.size : Int) < 1 := by omega
      have h2' : ¬ (8 : Int) < (s.size : Int) := by omega
      obtain ⟨r, hr⟩ : ∃ r, r = (s.data.toList.all smallB && !wordB s) := ⟨_, rfl⟩
      have HS := Lib.hid (fun (i : Nat) (h : i < s.size) (hb : smallB s[i] = false) => show r = false by
        have h3 : s.data.toList.all smallB = false := by
          rw [List.all_eq_false]
          exact ⟨s[i], List.mem_of_getElem? (get_dat s i h), by rw [hb]; simp⟩
        rw [hr, h3, Bool.false_and])
      have HI := Lib.hid (fun (c : List UInt8) (hc : c ∈ wordsL) (h : s = strOf c) => show r = false by
        rw [hr, show wordB s = true from by unfold wordB; rw [List.any_eq_true]; exact ⟨c, hc, decide_eq_true h⟩]
        simp)
      have HN := Lib.hid (fun (ha : (s.data.toList.take s.size).all smallB = true) (h : ∀ c ∈ wordsL, ¬ s = strOf c) => show r = true by
        have hw : wordB s = false := by
          cases hb : wordB s with
          | false => rfl
          | true =>
            unfold wordB at hb
            rw [List.any_eq_true] at hb
            obtain ⟨c, hc, hd⟩ := hb
            exact absurd (of_decide_eq_true hd) (h c hc)
        rw [List.take_of_length_le (by rw [size_dat]; exact Nat.le_refl _)] at ha
        rw [hr, ha, hw]
        rfl)
      have hS0 : (0 : Int) ≤ (s.size : Int) := by omega
      rw [← hr]
      clear hr h1 h2
      go_enter Tryz.func135, Tryz.ntmps135
      go_wp2
      go_loopg [3] s.size (fun g iv wr => ∃ i : Nat, i ≤ s.size ∧ g = s.size - i ∧ iv = .int .i64 (i : Int) ∧ w = wr ∧ Hid ((s.data.toList.take i).all smallB = true))
      case atStart => exact ⟨0, Nat.zero_le _, rfl, rfl, rfl, Lib.hid rfl⟩
      case round =>
        obtain ⟨i, hi, hg, rfl, rfl, hF⟩ := hrel
        by_cases hlt : i < s.size
        · have g1 : (i : Int) < (s.size : Int) := by omega
          have g0 : (0 : Int) ≤ (i : Int) := by omega
          have hwi : IntKind.i64.wrap ((i : Int) + 1) = (i : Int) + 1 := IntWalk.i64_in _ ⟨by omega, by omega⟩
          by_cases ha : (s[i].toNat : Int) < 97
          · have e1 := Lib.hid (HS.out i hlt (by unfold smallB; rw [decide_eq_false (by omega)]; rfl))
            go_wp2
            go_ret
            exact ⟨by rw [e1.out]; rfl, Below.refl _ _⟩
          · by_cases hb : (122 : Int) < (s[i].toNat : Int)
            · have e1 := Lib.hid (HS.out i hlt (by unfold smallB; rw [decide_eq_false (show ¬ s[i].toNat ≤ 122 by omega), Bool.and_false]))
              go_wp2
              go_ret
              exact ⟨by rw [e1.out]; rfl, Below.refl _ _⟩
            · have hF2 := Lib.hid (show (s.data.toList.take (i + 1)).all smallB = true by
                have h3 := take_snoc s.data.toList i (by rw [size_dat]; exact hlt)
                rw [h3, List.all_append, hF.out, Bool.true_and, List.all_cons, List.all_nil, Bool.and_true]
                show smallB s[i] = true
                unfold smallB
                rw [decide_eq_true (show 97 ≤ s[i].toNat by omega), decide_eq_true (show s[i].toNat ≤ 122 by omega)]
                rfl)
              go_wp2
              go_roundg (s.size - (i + 1))
              case rel => exact ⟨i + 1, by omega, rfl, by go_num, rfl, hF2⟩
              case measure => omega
        · have g1 : ¬ (i : Int) < (s.size : Int) := by omega
          obtain rfl : i = s.size := by omega
          have hALL := Lib.hid hF.out
          clear hF
          go_wp2_with (go_at_call 147; refine (rwords8_any _).mono ?_; rintro e W1 ⟨a, rfl, hb1, hc⟩)
          have HC := Lib.hid hc
          clear hc
          go_loopg [5] 11 (fun g iv wr => ∃ i : Nat, i ≤ 11 ∧ g = 11 - i ∧ iv = .int .i64 (i : Int) ∧ W1 = wr ∧ Hid (∀ c ∈ wordsL.take i, ¬ s = strOf c))
          case atStart => exact ⟨0, by omega, rfl, rfl, by first | rfl | trivial, Lib.hid (fun c hc => by cases hc)⟩
          case round =>
            obtain ⟨i, hi, hg, rfl, rfl, hF⟩ := hrel
            by_cases hz : i = 11
            · subst hz
              have e1 := Lib.hid (HN.out hALL.out hF.out)
              go_wp2
              go_ret
              exact ⟨by rw [e1.out]; rfl, hb1⟩
            · have hi11 : i < 11 := by omega
              have h1 : (i : Int) < 11 := by omega
              have h1b : (0 : Int) ≤ (i : Int) := by omega
              obtain ⟨c, hc⟩ : ∃ c, wordsL[i]? = some c := ⟨_, List.getElem?_eq_getElem hi11⟩
              have hci := HC.out i c hc
              have hwi : IntKind.i64.wrap ((i : Int) + 1) = (i : Int) + 1 := IntWalk.i64_in _ ⟨by omega, by omega⟩
              by_cases he : s = strOf c
              · have e1 := Lib.hid (HI.out c (List.mem_of_getElem? hc) he)
                subst he
                clear hc hz
                go_wp2
                go_ret
                exact ⟨by rw [e1.out]; rfl, hb1⟩
              · have hne : ((strOf c).toList == s.toList) = false := str_ne (fun e => he e.symm)
                have hF2 := Lib.hid (show ∀ c' ∈ wordsL.take (i + 1), ¬ s = strOf c' from fun c' hc' => by
                  have h3 : wordsL.take (i + 1) = wordsL.take i ++ [c] := by
                    rw [take_snoc _ _ (show i < wordsL.length from hi11)]
                    have := (List.getElem?_eq_some_iff.1 hc).2
                    rw [this]
                  rw [h3, List.mem_append] at hc'
                  rcases hc' with h4 | h4
                  · exact hF.out c' h4
                  · rw [List.mem_singleton] at h4; subst h4; exact he)
                clear hc hz he
                go_wp2
                go_roundg (11 - (i + 1))
                case rel => exact ⟨i + 1, by omega, rfl, by go_num, rfl, hF2⟩
                case measure => omega
end Go.Proofs.YtdoioaeppepndaaGreatDoor
namespace Go.Proofs.YtdoioaeppepndaaGreatDoor
open Go.RowKit
open A8 Tk7

set_option maxRecDepth 100000 in
set_option maxHeartbeats 8000000 in
theorem ratom_any (g : GA) (w : World) (hg : OneA w g) :
    Calls Tryz.prog 133 #[.agg (gaC g).toArray] w fun e w' => e = .returned (.bool (atomB g.a)) ∧ Below w.heap.size w w' := by
  obtain ⟨-, hsl⟩ := hg
  obtain ⟨⟨kd, bd, bn, cs, nm⟩, sc⟩ := g
  simp only at hsl
  obtain ⟨B, e, rfl, hm, hels⟩ := sl_els (by decide) cnC_len hsl
  simp only [gaC]
  have hab : atomB ⟨kd, bd, bn, cs, nm⟩ = ((decide (0 ≤ kd) && decide (kd ≤ 25)) && (bd || decide (bn = 0)) && cs.all condB && (nm.isEmpty || nameB nm)) := rfl
  rw [hab]
  clear hab
  have hsz : (strOf nm).toList.isEmpty = nm.isEmpty := by rw [strOf_toL]
  have hN := fun w1 => rname_any (strOf nm) w1
  rw [show (strOf nm).data.toList = nm from by simp [strOf]] at hN
  obtain ⟨q, hq⟩ : ∃ q, q = nm.isEmpty := ⟨_, rfl⟩
  obtain ⟨z, hz⟩ : ∃ z, z = nameB nm := ⟨_, rfl⟩
  obtain ⟨s, hs⟩ : ∃ s, s = strOf nm := ⟨_, rfl⟩
  rw [← hz, ← hs] at hN
  rw [← hq, ← hs] at hsz
  rw [← hq, ← hz, ← hs]
  obtain ⟨R, hR⟩ : ∃ R, R = ((decide (0 ≤ kd) && decide (kd ≤ 25)) && (bd || decide (bn = 0)) && cs.all condB && (q || z)) := ⟨_, rfl⟩
  rw [← hR]
  have HR := Lib.hid hR
  have HN := Lib.hid hN
  obtain ⟨W, hWW⟩ : ∃ W, W = w.alloc (.cells #[.int .i64 kd, .bool bd, .int .u64 bn, .slice B cs.length e, .string s] 28) := ⟨_, rfl⟩
  have hb1 : Below w.heap.size w W := hWW ▸ b1 _ _
  have hBx : Blk W w.heap.size [.int .i64 kd, .bool bd, .int .u64 bn, .slice B cs.length e, .string s] := hWW ▸ Blk.new w _ _
  have HE := Lib.hid hels
  have HX := Lib.hid hBx
  have HB := Lib.hid hb1
  clear hN hq hz hs hsl hels hBx hb1 hR
  go_enter Tryz.func133, Tryz.ntmps133
  go_wp2
  rw [← hWW]
  clear hWW
  go_loopg [3] cs.length (fun g iv wr => ∃ i : Nat, i ≤ cs.length ∧ g = cs.length - i ∧ iv = .int .i64 (i : Int) ∧ Hid (cs.all condB = (cs.drop i).all condB) ∧ Hid (Below W.heap.size W wr))
  case atStart => exact ⟨0, Nat.zero_le _, rfl, rfl, Lib.hid rfl, Lib.hid (Below.refl _ _)⟩
  case round =>
    obtain ⟨i, hi, hg, rfl, hA, hb⟩ := hrel
    have hBk := HX.out.later hb.out
    have hBw := bstep HB.out hb.out
    have c0 := hBk.cell 0 _ rfl
    have c1 := hBk.cell 1 _ rfl
    have c2 := hBk.cell 2 _ rfl
    have c3 := hBk.cell 3 _ rfl
    have c4 := hBk.cell 4 _ rfl
    clear hBk
    by_cases hlt : i < cs.length
    · have g1 : (i : Int) < (cs.length : Int) := by omega
      obtain ⟨a, hBa, ha, E⟩ := HE.out i hlt
      have hst : (cs.drop i).all condB = (condB cs[i] && (cs.drop (i + 1)).all condB) := by rw [List.drop_eq_getElem_cons hlt, List.all_cons]
      replace E := E.later hBw
      obtain ⟨⟨op, va⟩, hx⟩ : ∃ x, x = cs[i] := ⟨_, rfl⟩
      rw [← hx] at E hst
      simp only [cnC] at E
      have hq := rcond_any op va wr
      obtain ⟨r, hr⟩ : ∃ r, r = condB ⟨op, va⟩ := ⟨_, rfl⟩
      rw [← hr] at hst hq
      subst hBa
      have e0 := E.at0 _ rfl
      have e1 := E.at1 1 _ (by decide) rfl
      have hwi : IntKind.i64.wrap ((i : Int) + 1) = (i : Int) + 1 := IntWalk.i64_in _ ⟨by omega, by omega⟩
      clear E hx hr
      cases r with
      | true =>
        have hA2 := Lib.hid (show cs.all condB = (cs.drop (i + 1)).all condB by rw [hA.out, hst, Bool.true_and])
        clear hst hA
        go_wp2_with (go_at_call 112; refine hq.mono ?_; rintro e w2 ⟨rfl, hb2⟩)
        go_roundg (cs.length - (i + 1))
        case rel => exact ⟨i + 1, by omega, rfl, by go_num, hA2, Lib.hid (bstep hb.out hb2)⟩
        case measure => omega
      | false =>
        have hA2 : cs.all condB = false := by rw [hA.out, hst, Bool.false_and]
        have hv := Lib.hid (show R = false by rw [HR.out, hA2]; simp)
        clear hst hA hA2 HR
        go_wp2_with (go_at_call 112; refine hq.mono ?_; rintro e w2 ⟨rfl, hb2⟩)
        go_ret
        exact ⟨by rw [hv.out]; rfl, bstep hBw hb2⟩
    · have g1 : ¬ (i : Int) < (cs.length : Int) := by omega
      have hall : cs.all condB = true := by rw [hA.out, List.drop_eq_nil_of_le (by omega)]; rfl
      clear hA HE HX HB
      by_cases h1 : 0 ≤ kd
      · by_cases h2 : kd ≤ 25
        · cases bd with
          | true =>
            cases q with
            | true =>
              have hv := Lib.hid (show R = true by rw [HR.out]; simp [hall, h1, h2])
              clear HR hall
              go_wp2
              go_ret
              exact ⟨by rw [hv.out]; rfl, hBw⟩
            | false =>
              have hv := Lib.hid (show R = z by rw [HR.out]; simp [hall, h1, h2])
              clear HR hall
              go_wp2_with (go_at_call 135; refine (HN.out _).mono ?_; rintro e w2 ⟨rfl, hb2⟩)
              go_ret
              exact ⟨by rw [hv.out]; rfl, bstep hBw hb2⟩
          | false =>
            by_cases h3 : bn = 0
            · subst h3
              cases q with
              | true =>
                have hv := Lib.hid (show R = true by rw [HR.out]; simp [hall, h1, h2])
                clear HR hall
                go_wp2
                go_ret
                exact ⟨by rw [hv.out]; rfl, hBw⟩
              | false =>
                have hv := Lib.hid (show R = z by rw [HR.out]; simp [hall, h1, h2])
                clear HR hall
                go_wp2_with (go_at_call 135; refine (HN.out _).mono ?_; rintro e w2 ⟨rfl, hb2⟩)
                go_ret
                exact ⟨by rw [hv.out]; rfl, bstep hBw hb2⟩
            · have hb0 : (bn == 0) = false := by rw [beq_eq_false_iff_ne]; exact h3
              have hv := Lib.hid (show R = false by rw [HR.out]; simp [hall, h3])
              clear HR hall
              go_wp2
              go_ret
              exact ⟨by rw [hv.out]; rfl, hBw⟩
        · skip
          have hv := Lib.hid (show R = false by rw [HR.out]; simp [h2])
          clear HR hall
          go_wp2
          go_ret
          exact ⟨by rw [hv.out]; rfl, hBw⟩
      · skip
        have hv := Lib.hid (show R = false by rw [HR.out]; simp [h1])
        clear HR hall
        go_wp2
        go_ret
        exact ⟨by rw [hv.out]; rfl, hBw⟩
end Go.Proofs.YtdoioaeppepndaaGreatDoor
namespace Go.Proofs.YtdoioaeppepndaaGreatDoor
open Go.RowKit
open A8 Tk7

set_option maxRecDepth 100000 in
theorem rsound_deep (k mn mx kd : Int) (bd : Bool) (bn : Int) (sc : Value) (s : ByteArray) (sk : Value) (d : Int) (hd : 200 < d) (w : World) :
    Calls Tryz.prog 110 #[.agg #[.int .i64 k, .int .i64 mn, .int .i64 mx, .int .i64 kd, .bool bd, .int .u64 bn, sc, .string s, sk], .int .i64 d] w fun e w' => e = .returned (.bool false) ∧ Below w.heap.size w w' := by
  go_enter Tryz.func110, Tryz.ntmps110
  go_wp2
  go_ret
  exact ⟨rfl, b1 _ _⟩
set_option maxRecDepth 100000 in
theorem rsound_none (k mn mx kd : Int) (bd : Bool) (bn : Int) (sc : Value) (s : ByteArray) (sk : Value) (d : Int) (hd : ¬ 200 < d) (h1 : ¬ k = 1) (h2 : ¬ k = 2) (h3 : ¬ k = 3) (h4 : ¬ k = 4) (w : World) :
    Calls Tryz.prog 110 #[.agg #[.int .i64 k, .int .i64 mn, .int .i64 mx, .int .i64 kd, .bool bd, .int .u64 bn, sc, .string s, sk], .int .i64 d] w fun e w' => e = .returned (.bool false) ∧ Below w.heap.size w w' := by
  have b1' : (k == 1) = false := by rw [beq_eq_false_iff_ne]; exact h1
  have b2' : (k == 2) = false := by rw [beq_eq_false_iff_ne]; exact h2
  have b3' : (k == 3) = false := by rw [beq_eq_false_iff_ne]; exact h3
  have b4' : (k == 4) = false := by rw [beq_eq_false_iff_ne]; exact h4
  clear h1 h2 h3 h4
  go_enter Tryz.func110, Tryz.ntmps110
  go_wp2
  go_ret
  exact ⟨rfl, b1 _ _⟩
end Go.Proofs.YtdoioaeppepndaaGreatDoor
namespace Go.Proofs.YtdoioaeppepndaaGreatDoor
open Go.RowKit
open A8 Tk7

set_option maxRecDepth 100000 in
set_option maxHeartbeats 8000000 in
theorem rsound_1 (mn mx kd : Int) (bd : Bool) (bn : Int) (C : Option Addr) (m cc : Nat) (s : ByteArray) (B : Option Addr) (n e : Nat) (z R : Bool) (d : Int) (hd : ¬ 200 < d) (w : World)
    (hT : ∀ w1, Below w.heap.size w w1 → Calls Tryz.prog 133 #[.agg #[.int .i64 kd, .bool bd, .int .u64 bn, .slice C m cc, .string s]] w1 fun e w' => e = .returned (.bool z) ∧ Below w1.heap.size w1 w')
    (hR : R = (z && (decide (0 ≤ mn) && decide (mn ≤ 99)) && (decide (0 ≤ mx) && decide (mx ≤ 99)) && decide (n = 0))) :
    Calls Tryz.prog 110 #[.agg #[.int .i64 1, .int .i64 mn, .int .i64 mx, .int .i64 kd, .bool bd, .int .u64 bn, .slice C m cc, .string s, .slice B n e], .int .i64 d] w fun e w' => e = .returned (.bool R) ∧ Below w.heap.size w w' := by
  have HT := Lib.hid hT
  have HR := Lib.hid hR
  clear hT hR
  go_enter Tryz.func110, Tryz.ntmps110
  cases z with
  | true =>
    by_cases a1 : 0 ≤ mn
    · skip
      by_cases a2 : mn ≤ 99
      · skip
        by_cases a3 : 0 ≤ mx
        · skip
          by_cases a4 : mx ≤ 99
          · skip
            by_cases a5 : n = 0
            · skip
              subst a5
              have hv := Lib.hid (show R = true by rw [HR.out]; simp [a1, a2, a3, a4])
              clear HR
              go_wp2_with (go_at_call 133; refine (HT.out _ (b1 _ _)).mono ?_; rintro e w2 ⟨rfl, hb2⟩; have hBk := (Blk.new w [.int .i64 1, .int .i64 mn, .int .i64 mx, .int .i64 kd, .bool bd, .int .u64 bn, .slice C m cc, .string s, .slice B 0 e] 31).later hb2; have c1 := hBk.cell 1 _ rfl; have c2 := hBk.cell 2 _ rfl; have c8 := hBk.cell 8 _ rfl; clear hBk)
              go_ret
              exact ⟨by rw [hv.out]; rfl, bstep (b1 _ _) hb2⟩
            · skip
              have hb0 : ((n : Int) == 0) = false := by rw [beq_eq_false_iff_ne]; omega
              have hv := Lib.hid (show R = false by rw [HR.out]; simp [a5])
              clear HR
              go_wp2_with (go_at_call 133; refine (HT.out _ (b1 _ _)).mono ?_; rintro e w2 ⟨rfl, hb2⟩; have hBk := (Blk.new w [.int .i64 1, .int .i64 mn, .int .i64 mx, .int .i64 kd, .bool bd, .int .u64 bn, .slice C m cc, .string s, .slice B n e] 31).later hb2; have c1 := hBk.cell 1 _ rfl; have c2 := hBk.cell 2 _ rfl; have c8 := hBk.cell 8 _ rfl; clear hBk)
              go_ret
              exact ⟨by rw [hv.out]; rfl, bstep (b1 _ _) hb2⟩
          · skip
            have hv := Lib.hid (show R = false by rw [HR.out]; simp [a4])
            clear HR
            go_wp2_with (go_at_call 133; refine (HT.out _ (b1 _ _)).mono ?_; rintro e w2 ⟨rfl, hb2⟩; have hBk := (Blk.new w [.int .i64 1, .int .i64 mn, .int .i64 mx, .int .i64 kd, .bool bd, .int .u64 bn, .slice C m cc, .string s, .slice B n e] 31).later hb2; have c1 := hBk.cell 1 _ rfl; have c2 := hBk.cell 2 _ rfl; have c8 := hBk.cell 8 _ rfl; clear hBk)
            go_ret
            exact ⟨by rw [hv.out]; rfl, bstep (b1 _ _) hb2⟩
        · skip
          have hv := Lib.hid (show R = false by rw [HR.out]; simp [a3])
          clear HR
          go_wp2_with (go_at_call 133; refine (HT.out _ (b1 _ _)).mono ?_; rintro e w2 ⟨rfl, hb2⟩; have hBk := (Blk.new w [.int .i64 1, .int .i64 mn, .int .i64 mx, .int .i64 kd, .bool bd, .int .u64 bn, .slice C m cc, .string s, .slice B n e] 31).later hb2; have c1 := hBk.cell 1 _ rfl; have c2 := hBk.cell 2 _ rfl; have c8 := hBk.cell 8 _ rfl; clear hBk)
          go_ret
          exact ⟨by rw [hv.out]; rfl, bstep (b1 _ _) hb2⟩
      · skip
        have hv := Lib.hid (show R = false by rw [HR.out]; simp [a2])
        clear HR
        go_wp2_with (go_at_call 133; refine (HT.out _ (b1 _ _)).mono ?_; rintro e w2 ⟨rfl, hb2⟩; have hBk := (Blk.new w [.int .i64 1, .int .i64 mn, .int .i64 mx, .int .i64 kd, .bool bd, .int .u64 bn, .slice C m cc, .string s, .slice B n e] 31).later hb2; have c1 := hBk.cell 1 _ rfl; have c2 := hBk.cell 2 _ rfl; have c8 := hBk.cell 8 _ rfl; clear hBk)
        go_ret
        exact ⟨by rw [hv.out]; rfl, bstep (b1 _ _) hb2⟩
    · skip
      have hv := Lib.hid (show R = false by rw [HR.out]; simp [a1])
      clear HR
      go_wp2_with (go_at_call 133; refine (HT.out _ (b1 _ _)).mono ?_; rintro e w2 ⟨rfl, hb2⟩; have hBk := (Blk.new w [.int .i64 1, .int .i64 mn, .int .i64 mx, .int .i64 kd, .bool bd, .int .u64 bn, .slice C m cc, .string s, .slice B n e] 31).later hb2; have c1 := hBk.cell 1 _ rfl; have c2 := hBk.cell 2 _ rfl; have c8 := hBk.cell 8 _ rfl; clear hBk)
      go_ret
      exact ⟨by rw [hv.out]; rfl, bstep (b1 _ _) hb2⟩
  | false =>
    have hv := Lib.hid (show R = false by rw [HR.out]; simp [])
    clear HR
    go_wp2_with (go_at_call 133; refine (HT.out _ (b1 _ _)).mono ?_; rintro e w2 ⟨rfl, hb2⟩; have hBk := (Blk.new w [.int .i64 1, .int .i64 mn, .int .i64 mx, .int .i64 kd, .bool bd, .int .u64 bn, .slice C m cc, .string s, .slice B n e] 31).later hb2; have c1 := hBk.cell 1 _ rfl; have c2 := hBk.cell 2 _ rfl; have c8 := hBk.cell 8 _ rfl; clear hBk)
    go_ret
    exact ⟨by rw [hv.out]; rfl, bstep (b1 _ _) hb2⟩
set_option maxRecDepth 100000 in
set_option maxHeartbeats 8000000 in
theorem rsound_2 (mn mx kd : Int) (bd : Bool) (bn : Int) (C : Option Addr) (m cc : Nat) (s : ByteArray) (B : Option Addr) (n e : Nat) (z R : Bool) (d : Int) (hd : ¬ 200 < d) (w : World)
    (hT : ∀ w1, Below w.heap.size w w1 → Calls Tryz.prog 133 #[.agg #[.int .i64 kd, .bool bd, .int .u64 bn, .slice C m cc, .string s]] w1 fun e w' => e = .returned (.bool z) ∧ Below w1.heap.size w1 w')
    (hR : R = (z && (decide (mn = 0) && decide (mx = 0)) && decide (n = 0))) :
    Calls Tryz.prog 110 #[.agg #[.int .i64 2, .int .i64 mn, .int .i64 mx, .int .i64 kd, .bool bd, .int .u64 bn, .slice C m cc, .string s, .slice B n e], .int .i64 d] w fun e w' => e = .returned (.bool R) ∧ Below w.heap.size w w' := by
  have HT := Lib.hid hT
  have HR := Lib.hid hR
  clear hT hR
  go_enter Tryz.func110, Tryz.ntmps110
  cases z with
  | true =>
    by_cases a1 : mn = 0
    · skip
      subst a1
      by_cases a3 : mx = 0
      · skip
        subst a3
        by_cases a5 : n = 0
        · skip
          subst a5
          have hv := Lib.hid (show R = true by rw [HR.out]; simp [])
          clear HR
          go_wp2_with (go_at_call 133; refine (HT.out _ (b1 _ _)).mono ?_; rintro e w2 ⟨rfl, hb2⟩; have hBk := (Blk.new w [.int .i64 2, .int .i64 0, .int .i64 0, .int .i64 kd, .bool bd, .int .u64 bn, .slice C m cc, .string s, .slice B 0 e] 31).later hb2; have c1 := hBk.cell 1 _ rfl; have c2 := hBk.cell 2 _ rfl; have c8 := hBk.cell 8 _ rfl; clear hBk)
          go_ret
          exact ⟨by rw [hv.out]; rfl, bstep (b1 _ _) hb2⟩
        · skip
          have hb0 : ((n : Int) == 0) = false := by rw [beq_eq_false_iff_ne]; omega
          have hv := Lib.hid (show R = false by rw [HR.out]; simp [a5])
          clear HR
          go_wp2_with (go_at_call 133; refine (HT.out _ (b1 _ _)).mono ?_; rintro e w2 ⟨rfl, hb2⟩; have hBk := (Blk.new w [.int .i64 2, .int .i64 0, .int .i64 0, .int .i64 kd, .bool bd, .int .u64 bn, .slice C m cc, .string s, .slice B n e] 31).later hb2; have c1 := hBk.cell 1 _ rfl; have c2 := hBk.cell 2 _ rfl; have c8 := hBk.cell 8 _ rfl; clear hBk)
          go_ret
          exact ⟨by rw [hv.out]; rfl, bstep (b1 _ _) hb2⟩
      · skip
        have hb0 : (mx == 0) = false := by rw [beq_eq_false_iff_ne]; omega
        have hv := Lib.hid (show R = false by rw [HR.out]; simp [a3])
        clear HR
        go_wp2_with (go_at_call 133; refine (HT.out _ (b1 _ _)).mono ?_; rintro e w2 ⟨rfl, hb2⟩; have hBk := (Blk.new w [.int .i64 2, .int .i64 0, .int .i64 mx, .int .i64 kd, .bool bd, .int .u64 bn, .slice C m cc, .string s, .slice B n e] 31).later hb2; have c1 := hBk.cell 1 _ rfl; have c2 := hBk.cell 2 _ rfl; have c8 := hBk.cell 8 _ rfl; clear hBk)
        go_ret
        exact ⟨by rw [hv.out]; rfl, bstep (b1 _ _) hb2⟩
    · skip
      have hb0 : (mn == 0) = false := by rw [beq_eq_false_iff_ne]; omega
      have hv := Lib.hid (show R = false by rw [HR.out]; simp [a1])
      clear HR
      go_wp2_with (go_at_call 133; refine (HT.out _ (b1 _ _)).mono ?_; rintro e w2 ⟨rfl, hb2⟩; have hBk := (Blk.new w [.int .i64 2, .int .i64 mn, .int .i64 mx, .int .i64 kd, .bool bd, .int .u64 bn, .slice C m cc, .string s, .slice B n e] 31).later hb2; have c1 := hBk.cell 1 _ rfl; have c2 := hBk.cell 2 _ rfl; have c8 := hBk.cell 8 _ rfl; clear hBk)
      go_ret
      exact ⟨by rw [hv.out]; rfl, bstep (b1 _ _) hb2⟩
  | false =>
    have hv := Lib.hid (show R = false by rw [HR.out]; simp [])
    clear HR
    go_wp2_with (go_at_call 133; refine (HT.out _ (b1 _ _)).mono ?_; rintro e w2 ⟨rfl, hb2⟩; have hBk := (Blk.new w [.int .i64 2, .int .i64 mn, .int .i64 mx, .int .i64 kd, .bool bd, .int .u64 bn, .slice C m cc, .string s, .slice B n e] 31).later hb2; have c1 := hBk.cell 1 _ rfl; have c2 := hBk.cell 2 _ rfl; have c8 := hBk.cell 8 _ rfl; clear hBk)
    go_ret
    exact ⟨by rw [hv.out]; rfl, bstep (b1 _ _) hb2⟩
end Go.Proofs.YtdoioaeppepndaaGreatDoor
namespace Go.Proofs.YtdoioaeppepndaaGreatDoor
open Go.RowKit
open A8 Tk7

set_option maxRecDepth 100000 in
set_option maxHeartbeats 8000000 in
theorem rsound_3 (mn mx kd : Int) (bd : Bool) (bn : Int) (C : Option Addr) (m cc : Nat) (s : ByteArray) (sk : Value) (ks : List Tr) (z R : Bool) (d : Nat) (hd : d ≤ 200) (w : World) (hsl : Sl w 9 ks.length sk (ks.flatMap Tr.row))
    (hT : ∀ w1, Below w.heap.size w w1 → Calls Tryz.prog 134 #[.agg #[.int .i64 kd, .bool bd, .int .u64 bn, .slice C m cc, .string s]] w1 fun e w' => e = .returned (.bool z) ∧ Below w1.heap.size w1 w')
    (ih : ∀ t ∈ ks, ∀ w1, Below w.heap.size w w1 → Calls Tryz.prog 110 #[.agg t.row.toArray, .int .i64 ((d : Int) + 1)] w1 fun e w' => e = .returned (.bool (soundN (d + 1) t.nd)) ∧ Below w1.heap.size w1 w')
    (hR : R = ((z && (decide (mn = 0) && decide (mx = 0)) && decide (2 ≤ ks.length)) && soundL (d + 1) (ndL ks))) :
    Calls Tryz.prog 110 #[.agg #[.int .i64 3, .int .i64 mn, .int .i64 mx, .int .i64 kd, .bool bd, .int .u64 bn, .slice C m cc, .string s, sk], .int .i64 (d : Int)] w fun e w' => e = .returned (.bool R) ∧ Below w.heap.size w w' := by
  obtain ⟨B, e, rfl, hm, hels⟩ := sl_els (by decide) row_len hsl
  have hd' : ¬ 200 < (d : Int) := by omega
  have hwd : IntKind.i64.wrap ((d : Int) + 1) = (d : Int) + 1 := IntWalk.i64_in _ ⟨by omega, by omega⟩
  have HZ := Lib.hid hT
  have HI := Lib.hid ih
  have HR := Lib.hid hR
  have HE := Lib.hid hels
  clear hT ih hR hsl hels
  by_cases a1 : (ks.length : Int) < 2
  · have hv := Lib.hid (show R = false by rw [HR.out, decide_eq_false (show ¬ 2 ≤ ks.length by omega)]; simp)
    clear HR
    go_enter Tryz.func110, Tryz.ntmps110
    go_wp2
    go_ret
    exact ⟨by rw [hv.out]; rfl, b1 _ _⟩
  by_cases a2 : mn = 0
  · subst a2
    by_cases a3 : mx = 0
    · subst a3
      cases z with
      | false =>
        have hv := Lib.hid (show R = false by rw [HR.out]; simp)
        clear HR
        go_enter Tryz.func110, Tryz.ntmps110
        go_wp2_with (go_at_call 134; refine (HZ.out _ (b1 _ _)).mono ?_; rintro e2 w2 ⟨rfl, hb2⟩)
        go_ret
        exact ⟨by rw [hv.out]; rfl, bstep (b1 _ _) hb2⟩
      | true =>
        have hRL : R = soundL (d + 1) (ndL ks) := by rw [HR.out, decide_eq_true (show 2 ≤ ks.length by omega)]; simp
        clear HR
        obtain ⟨W, hWW⟩ : ∃ W, W = w.alloc (.cells #[.int .i64 3, .int .i64 0, .int .i64 0, .int .i64 kd, .bool bd, .int .u64 bn, .slice C m cc, .string s, .slice B ks.length e] 31) := ⟨_, rfl⟩
        have HRL := Lib.hid hRL
        have HBX := Lib.hid (fun (w1 : World) (hb : Below (w.alloc (.cells #[.int .i64 3, .int .i64 0, .int .i64 0, .int .i64 kd, .bool bd, .int .u64 bn, .slice C m cc, .string s, .slice B ks.length e] 31)).heap.size (w.alloc (.cells #[.int .i64 3, .int .i64 0, .int .i64 0, .int .i64 kd, .bool bd, .int .u64 bn, .slice C m cc, .string s, .slice B ks.length e] 31)) w1) => (Blk.new w [.int .i64 3, .int .i64 0, .int .i64 0, .int .i64 kd, .bool bd, .int .u64 bn, .slice C m cc, .string s, .slice B ks.length e] 31).later hb)
        clear hRL hWW
        go_enter Tryz.func110, Tryz.ntmps110
        go_wp2_with (go_at_call 134; refine (HZ.out _ (b1 _ _)).mono ?_; rintro e2 w2 ⟨rfl, hb2⟩)
        have HB := Lib.hid (bstep (b1 w _) hb2)
        have HX := Lib.hid (HBX.out w2 hb2)
        clear hb2 HBX
        go_loopg [5] ks.length (fun g iv wr => ∃ i : Nat, i ≤ ks.length ∧ g = ks.length - i ∧ iv = .int .i64 (i : Int) ∧ Hid (R = soundL (d + 1) (ndL (ks.drop i))) ∧ Hid (Below w2.heap.size w2 wr))
        case atStart => exact ⟨0, Nat.zero_le _, rfl, rfl, HRL, Lib.hid (Below.refl _ _)⟩
        case round =>
          obtain ⟨i, hi, hg, rfl, hA, hb⟩ := hrel
          have c8 := (HX.out.later hb.out).cell 8 _ rfl
          have hBw := bstep HB.out hb.out
          by_cases hlt : i < ks.length
          · have g1 : (i : Int) < (ks.length : Int) := by omega
            obtain ⟨a, hBa, ha, E⟩ := HE.out i hlt
            have hq := HI.out ks[i] (List.getElem_mem hlt) wr hBw
            have hst : soundL (d + 1) (ndL (ks.drop i)) = (soundN (d + 1) (ks[i]).nd && soundL (d + 1) (ndL (ks.drop (i + 1)))) := by rw [List.drop_eq_getElem_cons hlt, ndL, soundL]
            obtain ⟨t, ht⟩ : ∃ t, t = ks[i] := ⟨_, rfl⟩
            rw [← ht] at E hst hq
            obtain ⟨r, hr⟩ : ∃ r, r = soundN (d + 1) t.nd := ⟨_, rfl⟩
            rw [← hr] at hst hq
            replace E := E.later hBw
            have hR2 := hA.out.trans hst
            clear ht hr hst hA HRL
            subst hBa
            obtain ⟨k', mn', mx', ⟨⟨kd', bd', bn', cs', nm'⟩, sc'⟩, sk', ks'⟩ := t
            simp only [Tr.row] at E hq
            have e0 := E.at0 _ rfl
            have e1 := E.at1 1 _ (by decide) rfl
            have e2 := E.at1 2 _ (by decide) rfl
            have e3 := E.at1 3 _ (by decide) rfl
            have e4 := E.at1 4 _ (by decide) rfl
            have e5 := E.at1 5 _ (by decide) rfl
            have e6 := E.at1 6 _ (by decide) rfl
            have e7 := E.at1 7 _ (by decide) rfl
            have e8 := E.at1 8 _ (by decide) rfl
            have hwi : IntKind.i64.wrap ((i : Int) + 1) = (i : Int) + 1 := IntWalk.i64_in _ ⟨by omega, by omega⟩
            clear E HE HI HX HB
            cases r with
            | true =>
              rw [Bool.true_and] at hR2
              have hA2 := Lib.hid hR2
              clear hR2
              go_wp2_with (go_at_call 110; refine hq.mono ?_; rintro e w3 ⟨rfl, hb3⟩)
              go_roundg (ks.length - (i + 1))
              case rel => exact ⟨i + 1, by omega, rfl, by go_num, hA2, Lib.hid (bstep hb.out hb3)⟩
              case measure => omega
            | false =>
              rw [Bool.false_and] at hR2
              have hv := Lib.hid hR2
              clear hR2
              go_wp2_with (go_at_call 110; refine hq.mono ?_; rintro e w3 ⟨rfl, hb3⟩)
              go_ret
              exact ⟨by rw [hv.out]; rfl, bstep hBw hb3⟩
          · have g1 : ¬ (i : Int) < (ks.length : Int) := by omega
            have hv := Lib.hid (show R = true by rw [hA.out, List.drop_eq_nil_of_le (by omega)]; rfl)
            clear HE HI HX HB hA HRL
            go_wp2
            go_ret
            exact ⟨by rw [hv.out]; rfl, hBw⟩
    · have hv := Lib.hid (show R = false by rw [HR.out]; simp [a3])
      have hb0 : (mx == 0) = false := by rw [beq_eq_false_iff_ne]; exact a3
      have hb1 : (mx != 0) = true := by simp only [bne, hb0]; rfl
      clear HR
      go_enter Tryz.func110, Tryz.ntmps110
      go_wp2
      go_ret
      exact ⟨by rw [hv.out]; rfl, b1 _ _⟩
  · have hv := Lib.hid (show R = false by rw [HR.out]; simp [a2])
    have hb0 : (mn == 0) = false := by rw [beq_eq_false_iff_ne]; exact a2
    have hb1 : (mn != 0) = true := by simp only [bne, hb0]; rfl
    clear HR
    go_enter Tryz.func110, Tryz.ntmps110
    go_wp2
    go_ret
    exact ⟨by rw [hv.out]; rfl, b1 _ _⟩
set_option maxRecDepth 100000 in
set_option maxHeartbeats 8000000 in
theorem rsound_4 (mn mx kd : Int) (bd : Bool) (bn : Int) (C : Option Addr) (m cc : Nat) (s : ByteArray) (sk : Value) (ks : List Tr) (z R : Bool) (d : Nat) (hd : d ≤ 200) (w : World) (hsl : Sl w 9 ks.length sk (ks.flatMap Tr.row))
    (hT : ∀ w1, Below w.heap.size w w1 → Calls Tryz.prog 134 #[.agg #[.int .i64 kd, .bool bd, .int .u64 bn, .slice C m cc, .string s]] w1 fun e w' => e = .returned (.bool z) ∧ Below w1.heap.size w1 w')
    (ih : ∀ t ∈ ks, ∀ w1, Below w.heap.size w w1 → Calls Tryz.prog 110 #[.agg t.row.toArray, .int .i64 ((d : Int) + 1)] w1 fun e w' => e = .returned (.bool (soundN (d + 1) t.nd)) ∧ Below w1.heap.size w1 w')
    (hR : R = ((z && (decide (mn = 0) && decide (mx = 0)) && decide (2 ≤ ks.length)) && soundL (d + 1) (ndL ks))) :
    Calls Tryz.prog 110 #[.agg #[.int .i64 4, .int .i64 mn, .int .i64 mx, .int .i64 kd, .bool bd, .int .u64 bn, .slice C m cc, .string s, sk], .int .i64 (d : Int)] w fun e w' => e = .returned (.bool R) ∧ Below w.heap.size w w' := by
  obtain ⟨B, e, rfl, hm, hels⟩ := sl_els (by decide) row_len hsl
  have hd' : ¬ 200 < (d : Int) := by omega
  have hwd : IntKind.i64.wrap ((d : Int) + 1) = (d : Int) + 1 := IntWalk.i64_in _ ⟨by omega, by omega⟩
  have HZ := Lib.hid hT
  have HI := Lib.hid ih
  have HR := Lib.hid hR
  have HE := Lib.hid hels
  clear hT ih hR hsl hels
  by_cases a1 : (ks.length : Int) < 2
  · have hv := Lib.hid (show R = false by rw [HR.out, decide_eq_false (show ¬ 2 ≤ ks.length by omega)]; simp)
    clear HR
    go_enter Tryz.func110, Tryz.ntmps110
    go_wp2
    go_ret
    exact ⟨by rw [hv.out]; rfl, b1 _ _⟩
  by_cases a2 : mn = 0
  · subst a2
    by_cases a3 : mx = 0
    · subst a3
      cases z with
      | false =>
        have hv := Lib.hid (show R = false by rw [HR.out]; simp)
        clear HR
        go_enter Tryz.func110, Tryz.ntmps110
        go_wp2_with (go_at_call 134; refine (HZ.out _ (b1 _ _)).mono ?_; rintro e2 w2 ⟨rfl, hb2⟩)
        go_ret
        exact ⟨by rw [hv.out]; rfl, bstep (b1 _ _) hb2⟩
      | true =>
        have hRL : R = soundL (d + 1) (ndL ks) := by rw [HR.out, decide_eq_true (show 2 ≤ ks.length by omega)]; simp
        clear HR
        obtain ⟨W, hWW⟩ : ∃ W, W = w.alloc (.cells #[.int .i64 4, .int .i64 0, .int .i64 0, .int .i64 kd, .bool bd, .int .u64 bn, .slice C m cc, .string s, .slice B ks.length e] 31) := ⟨_, rfl⟩
        have HRL := Lib.hid hRL
        have HBX := Lib.hid (fun (w1 : World) (hb : Below (w.alloc (.cells #[.int .i64 4, .int .i64 0, .int .i64 0, .int .i64 kd, .bool bd, .int .u64 bn, .slice C m cc, .string s, .slice B ks.length e] 31)).heap.size (w.alloc (.cells #[.int .i64 4, .int .i64 0, .int .i64 0, .int .i64 kd, .bool bd, .int .u64 bn, .slice C m cc, .string s, .slice B ks.length e] 31)) w1) => (Blk.new w [.int .i64 4, .int .i64 0, .int .i64 0, .int .i64 kd, .bool bd, .int .u64 bn, .slice C m cc, .string s, .slice B ks.length e] 31).later hb)
        clear hRL hWW
        go_enter Tryz.func110, Tryz.ntmps110
        go_wp2_with (go_at_call 134; refine (HZ.out _ (b1 _ _)).mono ?_; rintro e2 w2 ⟨rfl, hb2⟩)
        have HB := Lib.hid (bstep (b1 w _) hb2)
        have HX := Lib.hid (HBX.out w2 hb2)
        clear hb2 HBX
        go_loopg [5] ks.length (fun g iv wr => ∃ i : Nat, i ≤ ks.length ∧ g = ks.length - i ∧ iv = .int .i64 (i : Int) ∧ Hid (R = soundL (d + 1) (ndL (ks.drop i))) ∧ Hid (Below w2.heap.size w2 wr))
        case atStart => exact ⟨0, Nat.zero_le _, rfl, rfl, HRL, Lib.hid (Below.refl _ _)⟩
        case round =>
          obtain ⟨i, hi, hg, rfl, hA, hb⟩ := hrel
          have c8 := (HX.out.later hb.out).cell 8 _ rfl
          have hBw := bstep HB.out hb.out
          by_cases hlt : i < ks.length
          · have g1 : (i : Int) < (ks.length : Int) := by omega
            obtain ⟨a, hBa, ha, E⟩ := HE.out i hlt
            have hq := HI.out ks[i] (List.getElem_mem hlt) wr hBw
            have hst : soundL (d + 1) (ndL (ks.drop i)) = (soundN (d + 1) (ks[i]).nd && soundL (d + 1) (ndL (ks.drop (i + 1)))) := by rw [List.drop_eq_getElem_cons hlt, ndL, soundL]
            obtain ⟨t, ht⟩ : ∃ t, t = ks[i] := ⟨_, rfl⟩
            rw [← ht] at E hst hq
            obtain ⟨r, hr⟩ : ∃ r, r = soundN (d + 1) t.nd := ⟨_, rfl⟩
            rw [← hr] at hst hq
            replace E := E.later hBw
            have hR2 := hA.out.trans hst
            clear ht hr hst hA HRL
            subst hBa
            obtain ⟨k', mn', mx', ⟨⟨kd', bd', bn', cs', nm'⟩, sc'⟩, sk', ks'⟩ := t
            simp only [Tr.row] at E hq
            have e0 := E.at0 _ rfl
            have e1 := E.at1 1 _ (by decide) rfl
            have e2 := E.at1 2 _ (by decide) rfl
            have e3 := E.at1 3 _ (by decide) rfl
            have e4 := E.at1 4 _ (by decide) rfl
            have e5 := E.at1 5 _ (by decide) rfl
            have e6 := E.at1 6 _ (by decide) rfl
            have e7 := E.at1 7 _ (by decide) rfl
            have e8 := E.at1 8 _ (by decide) rfl
            have hwi : IntKind.i64.wrap ((i : Int) + 1) = (i : Int) + 1 := IntWalk.i64_in _ ⟨by omega, by omega⟩
            clear E HE HI HX HB
            cases r with
            | true =>
              rw [Bool.true_and] at hR2
              have hA2 := Lib.hid hR2
              clear hR2
              go_wp2_with (go_at_call 110; refine hq.mono ?_; rintro e w3 ⟨rfl, hb3⟩)
              go_roundg (ks.length - (i + 1))
              case rel => exact ⟨i + 1, by omega, rfl, by go_num, hA2, Lib.hid (bstep hb.out hb3)⟩
              case measure => omega
            | false =>
              rw [Bool.false_and] at hR2
              have hv := Lib.hid hR2
              clear hR2
              go_wp2_with (go_at_call 110; refine hq.mono ?_; rintro e w3 ⟨rfl, hb3⟩)
              go_ret
              exact ⟨by rw [hv.out]; rfl, bstep hBw hb3⟩
          · have g1 : ¬ (i : Int) < (ks.length : Int) := by omega
            have hv := Lib.hid (show R = true by rw [hA.out, List.drop_eq_nil_of_le (by omega)]; rfl)
            clear HE HI HX HB hA HRL
            go_wp2
            go_ret
            exact ⟨by rw [hv.out]; rfl, hBw⟩
    · have hv := Lib.hid (show R = false by rw [HR.out]; simp [a3])
      have hb0 : (mx == 0) = false := by rw [beq_eq_false_iff_ne]; exact a3
      have hb1 : (mx != 0) = true := by simp only [bne, hb0]; rfl
      clear HR
      go_enter Tryz.func110, Tryz.ntmps110
      go_wp2
      go_ret
      exact ⟨by rw [hv.out]; rfl, b1 _ _⟩
  · have hv := Lib.hid (show R = false by rw [HR.out]; simp [a2])
    have hb0 : (mn == 0) = false := by rw [beq_eq_false_iff_ne]; exact a2
    have hb1 : (mn != 0) = true := by simp only [bne, hb0]; rfl
    clear HR
    go_enter Tryz.func110, Tryz.ntmps110
    go_wp2
    go_ret
    exact ⟨by rw [hv.out]; rfl, b1 _ _⟩
end Go.Proofs.YtdoioaeppepndaaGreatDoor
namespace Go.Proofs.YtdoioaeppepndaaGreatDoor
open Go.RowKit
open A8 Tk7

theorem rsound_any (T : Tr) : ∀ (d : Nat) (w : World), TrW w T → d ≤ 1000 →
    Calls Tryz.prog 110 #[.agg T.row.toArray, .int .i64 (d : Int)] w fun e w' => e = .returned (.bool (soundN d T.nd)) ∧ Below w.heap.size w w' := by
  refine Tr.ind (P := fun T => ∀ (d : Nat) (w : World), TrW w T → d ≤ 1000 →
    Calls Tryz.prog 110 #[.agg T.row.toArray, .int .i64 (d : Int)] w fun e w' => e = .returned (.bool (soundN d T.nd)) ∧ Below w.heap.size w w') (fun k mn mx g sk ks ih => ?_) T
  intro d w hT hd
  obtain ⟨-, hoA, hsl⟩ := hT.one
  have hat := fun w1 (hb : Below w.heap.size w w1) => ratom_any g w1 (hoA.later hb)
  have hoC := hoA.2
  obtain ⟨⟨kd, bd, bn, cs, nm⟩, sc⟩ := g
  simp only at hoC
  obtain ⟨C, cc, rfl, -, -⟩ := sl_get (by decide) hoC
  have hze := fun w1 (_ : Below w.heap.size w w1) => rzero_any kd bd bn cs nm C cc w1
  have hsn : soundN d (Tr.nd (.mk k mn mx ⟨⟨kd, bd, bn, cs, nm⟩, .slice C cs.length cc⟩ sk ks)) = (decide (d ≤ 200) && nodeB k mn mx ⟨kd, bd, bn, cs, nm⟩ ks.length && soundL (d + 1) (ndL ks)) := by
    rw [Tr.nd, soundN, ndL_map, List.length_map]
  simp only [Tr.row]
  by_cases h200 : d ≤ 200
  · rw [hsn, decide_eq_true h200, Bool.true_and]
    have hd' : ¬ 200 < (d : Int) := by omega
    have hn0 : ∀ (x : Bool), (x && decide (ks.length = 0)) = ((x && decide (ks.length = 0)) && soundL (d + 1) (ndL ks)) := fun x => by
      cases ks with
      | nil => simp [ndL, soundL]
      | cons y ys => simp
    have hkid := fun t (ht : t ∈ ks) w1 (hb : Below w.heap.size w w1) => ih t ht (d + 1) w1 ((hT.kid ht).later hb) (by omega)
    have hcast : (((d + 1 : Nat)) : Int) = (d : Int) + 1 := by omega
    simp only [hcast] at hkid
    by_cases k1 : k = 1
    · subst k1
      obtain ⟨B, e, rfl, -, -⟩ := sl_get (by decide) hsl
      exact rsound_1 mn mx kd bd bn C cs.length cc (strOf nm) B ks.length e _ _ d hd' w hat (by unfold nodeB; rw [if_pos rfl]; exact (hn0 _).symm)
    · by_cases k2 : k = 2
      · subst k2
        obtain ⟨B, e, rfl, -, -⟩ := sl_get (by decide) hsl
        exact rsound_2 mn mx kd bd bn C cs.length cc (strOf nm) B ks.length e _ _ d hd' w hat (by unfold nodeB; rw [if_neg (by omega), if_pos rfl]; exact (hn0 _).symm)
      · by_cases k3 : k = 3
        · subst k3
          exact rsound_3 mn mx kd bd bn C cs.length cc (strOf nm) sk ks _ _ d h200 w hsl hze hkid (by unfold nodeB; rw [if_neg (by omega), if_neg (by omega), if_pos (by omega)])
        · by_cases k4 : k = 4
          · subst k4
            exact rsound_4 mn mx kd bd bn C cs.length cc (strOf nm) sk ks _ _ d h200 w hsl hze hkid (by unfold nodeB; rw [if_neg (by omega), if_neg (by omega), if_pos (by omega)])
          · have hf : nodeB k mn mx ⟨kd, bd, bn, cs, nm⟩ ks.length = false := by unfold nodeB; rw [if_neg k1, if_neg k2, if_neg (by omega)]
            rw [hf, Bool.false_and]
            exact rsound_none k mn mx kd bd bn _ (strOf nm) sk d hd' k1 k2 k3 k4 w
  · rw [hsn, decide_eq_false h200, Bool.false_and, Bool.false_and]
    exact rsound_deep k mn mx kd bd bn _ (strOf nm) sk d (by omega) w
set_option maxRecDepth 100000 in
theorem rSound_any (T : Tr) (w : World) (hT : TrW w T) :
    Calls Tryz.prog 114 #[.agg T.row.toArray] w fun e w' => e = .returned (.int .i64 (soundE T.nd)) ∧ Below w.heap.size w w' := by
  have hS := fun w1 (hb : Below w.heap.size w w1) => rsound_any T 1 w1 (hT.later hb) (by omega)
  unfold soundE
  obtain ⟨r, hr⟩ : ∃ r, r = soundN 1 T.nd := ⟨_, rfl⟩
  rw [← hr] at hS ⊢
  clear hr hT
  obtain ⟨k, mn, mx, ⟨⟨kd, bd, bn, cs, nm⟩, sc⟩, sk, ks⟩ := T
  simp only [Tr.row] at hS ⊢
  have HS := Lib.hid hS
  clear hS
  cases r with
  | true =>
    go_enter Tryz.func114, Tryz.ntmps114
    go_wp2_with (go_at_call 110; refine (HS.out _ (b1 _ _)).mono ?_; rintro e w2 ⟨rfl, hb2⟩)
    go_ret
    exact ⟨rfl, bstep (b1 _ _) hb2⟩
  | false =>
    go_enter Tryz.func114, Tryz.ntmps114
    go_wp2_with (go_at_call 110; refine (HS.out _ (b1 _ _)).mono ?_; rintro e w2 ⟨rfl, hb2⟩)
    go_ret
    exact ⟨rfl, bstep (b1 _ _) hb2⟩
end Go.Proofs.YtdoioaeppepndaaGreatDoor
