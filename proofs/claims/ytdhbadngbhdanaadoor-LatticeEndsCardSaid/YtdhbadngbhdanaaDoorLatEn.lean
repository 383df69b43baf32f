/- Walk: LatticeEnds: each label is at most a maximal one and at least a minimal one; a family is a chain exactly if its height is the number of its different labels. -/
import Derived.Test.YtdhbadngbhdanaaDoorLatOr
import Derived.Test.YtdhbadngbhdanaaDoorLatK
import Derived.Test.YtdhbadngbhdanaaDoorLatE
import Derived.Deep.LoopGhost
import Derived.Deep.DeepCutAuto
import Derived.BigQuiet
namespace Go.Proofs.YtdhbadngbhdanaaDoor.Lt
open Go.RowKit Go.Shelf

theorem any_snoc {l : List Nat} {p : Nat → Bool} {k : Nat} (h : k < l.length) : (l.take (k + 1)).any p = ((l.take k).any p || p l[k]) := by
  rw [take_snoc l k h, List.any_append]
  simp
def upB (l : List Nat) (x m : Nat) : Bool := (l.take m).any fun y => maxB l y && leB x y
def dnB (l : List Nat) (x m : Nat) : Bool := (l.take m).any fun y => minB l y && leB y x
def newB (l : List Nat) (i x m : Nat) : Bool := (l.take (min m i)).all fun y => y != x
theorem upB_end {l : List Nat} {x : Nat} (hx : x ∈ l) : upB l x l.length = true := by
  obtain ⟨m, hm, h1, h2⟩ := ends_max hx
  unfold upB
  rw [List.take_length, List.any_eq_true]
  exact ⟨m, hm, by rw [h1, h2]; rfl⟩
theorem dnB_end {l : List Nat} {x : Nat} (hx : x ∈ l) : dnB l x l.length = true := by
  obtain ⟨m, hm, h1, h2⟩ := ends_min hx
  unfold dnB
  rw [List.take_length, List.any_eq_true]
  exact ⟨m, hm, by rw [h1, h2]; rfl⟩
theorem newB_go {l : List Nat} {i x m : Nat} (hm : m < l.length) (hi : m < i) : newB l i x (m + 1) = (newB l i x m && (l[m] != x)) := by
  unfold newB
  rw [show min (m + 1) i = m + 1 by omega, show min m i = m by omega, take_snoc l m hm, List.all_append]
  simp
theorem newB_stay {l : List Nat} {i x m : Nat} (hi : i ≤ m) : newB l i x (m + 1) = newB l i x m := by
  unfold newB
  rw [show min (m + 1) i = i by omega, show min m i = i by omega]
theorem dst_take {l : List Nat} {i : Nat} (hi : i < l.length) : (dst (l.take (i + 1))).length = (dst (l.take i)).length + (if newB l i l[i] l.length = true then 1 else 0) := by
  have h1 : newB l i l[i] l.length = true ↔ l[i] ∉ l.take i := by
    unfold newB
    rw [show min l.length i = i by omega, List.all_eq_true]
    constructor
    · intro h hm
      have := h _ hm
      simp at this
    · intro h y hy
      simp only [bne_iff_ne, ne_eq]
      intro e
      exact h (e ▸ hy)
  rw [take_snoc l i hi, dst_snoc]
  by_cases hm : l[i] ∈ l.take i
  · rw [if_pos ((dst_spec _).2 _ |>.2 hm), if_neg (by rw [h1]; exact fun h => h hm)]
    rfl
  · rw [if_neg (fun h => hm ((dst_spec _).2 _ |>.1 h)), if_pos (h1.2 hm), List.length_append]
    rfl
theorem dst_le (l : List Nat) : (dst l).length ≤ l.length := by
  have : ∀ (n : Nat) (l : List Nat), l.length = n → (dst l).length ≤ n := by
    intro n
    induction n with
    | zero => intro l h; rw [List.eq_nil_of_length_eq_zero h]; exact Nat.le_refl _
    | succ n ih =>
      intro l h
      have hn : n < l.length := by omega
      have e : l = l.take n ++ [l[n]] := by rw [← take_snoc l n hn, List.take_of_length_le (by omega)]
      have := ih (l.take n) (by rw [List.length_take]; omega)
      rw [e, dst_snoc]
      split
      · omega
      · rw [List.length_append]; simp; omega
  exact this _ l rfl
theorem leB_test {a b : Nat} (ha : a < 18446744073709551616) (hb : b < 18446744073709551616) : ∃ d : Int, bits .andNot .u64 (a : Int) (b : Int) = d ∧ (d == 0) = leB a b := by
  have := belowI_nat ha hb
  unfold Lb.belowI at this
  exact ⟨_, rfl, this⟩
theorem num_in {l : List Nat} {p : Nat → Bool} {i : Nat} (hi : i < l.length) : decide ((i : Int) ∈ (numsOf l p).map fun (i : Nat) => (i : Int)) = p l[i] := by
  have h : ((i : Int) ∈ (numsOf l p).map fun (i : Nat) => (i : Int)) ↔ p l[i] = true := by
    rw [List.mem_map]
    constructor
    · rintro ⟨k, hk, e⟩
      obtain rfl : k = i := by omega
      have := (mem_numsOf.1 hk).2
      rwa [getD_at hi] at this
    · intro h
      exact ⟨i, mem_numsOf.2 ⟨hi, by rw [getD_at hi]; exact h⟩, rfl⟩
  cases hp : p l[i]
  · rw [decide_eq_false_iff_not, h, hp]; decide
  · rw [decide_eq_true_iff, h, hp]
theorem slc_dr {w w' : World} {v : Value} {us : List Value} (h : Slc w v us) (hd : Dr w w') : Slc w' v us := by
  obtain ⟨n, rfl⟩ := hd
  exact h.drewN n
set_option maxRecDepth 100000 in
set_option maxHeartbeats 16000000 in
theorem ends_any (v : Value) (l : List Nat) (w : World) (h : Slc w v (lv l)) (hu : U64 l) (hg : 0 < w.heap.size) (hT : TabAt 0 Lib.deBruijn64tab w) :
    Calls Tryd.prog 5 #[v] w fun e w' => e = .returned (.bool true) ∧ Below w.heap.size w w' := by
  by_cases h30 : 30 < l.length
  · obtain ⟨A, cap, rfl, hm, hc⟩ := nats h
    have c1 : (30 : Int) < (l.length : Int) := by omega
    clear h hc h30 hu hT
    go_enter Tryd.func5, Tryd.ntmps5
    go_wp2_with (go_at_call 6; refine (awake_any _).mono ?_; rintro e w1 ⟨rfl, hb⟩)
    go_ret
    exact ⟨rfl, hb⟩
  · have c1 : ¬ (30 : Int) < (l.length : Int) := by omega
    have HLB := Lib.hid (show ∀ W, Below w.heap.size w W → Slc W v (lv l) from fun W hb => h.below hb)
    have HTB := Lib.hid (show ∀ W, Below w.heap.size w W → TabAt 0 Lib.deBruijn64tab W from fun W hb => tab_below hT hb hg)
    have HGB := Lib.hid (show ∀ W, Below w.heap.size w W → 0 < W.heap.size from fun W hb => Nat.lt_of_lt_of_le hg hb.size)
    have HU := Lib.hid hu
    have hx0 := maximal_all h hu
    have hn0 := fun W (hb : Below w.heap.size w W) => minimal_all (h.below hb) hu
    have hc0 := fun W (hb : Below w.heap.size w W) => chain_all (h.below hb) hu (HGB.out W hb) (HTB.out W hb)
    have hh0 := fun W (hb : Below w.heap.size w W) => height_all (h.below hb) hu (HGB.out W hb) (HTB.out W hb)
    rw [show maxR l = (numsOf l (fun x => maxB l x), 0) by unfold maxR; rw [if_neg (by omega)]] at hx0
    rw [show minR l = (numsOf l (fun x => minB l x), 0) by unfold minR; rw [if_neg (by omega)]] at hn0
    rw [show chainR l = (chainB l, 0) by unfold chainR; rw [if_neg (by omega)]] at hc0
    rw [show heightR l = (heightL l, 0) by unfold heightR; rw [if_neg (by omega)]] at hh0
    have HCH := Lib.hid (chain_height l)
    generalize chainB l = C at hc0 HCH
    generalize heightL l = Ht at hh0 HCH
    have hn30 : l.length ≤ 30 := by omega
    obtain ⟨A, cap, rfl, hm, hc⟩ := nats h
    clear h hc h30 hT hg hu
    go_enter Tryd.func5, Tryd.ntmps5
    go_wp2_with fail
    refine hx0.mono ?_
    rintro e w1 ⟨hi, rfl, hhi, hb1⟩
    go_wp2_with fail
    refine (hn0 w1 hb1).mono ?_
    rintro e w2 ⟨lo, rfl, hlo, hb2⟩
    have hB2 := bstep hb1 hb2
    go_wp2_with fail
    refine (hc0 w2 hB2).mono ?_
    rintro e w3 ⟨rfl, hb3⟩
    have hB3 := bstep hB2 hb3
    go_wp2_with fail
    refine (hh0 w3 hB3).mono ?_
    rintro e W ⟨rfl, hb4⟩
    have hB4 := bstep hB3 hb4
    have HHI := Lib.hid (((hhi.below hb2).below hb3).below hb4)
    have HLO := Lib.hid ((hlo.below hb3).below hb4)
    have HS := Lib.hid (HLB.out W hB4)
    have HB := Lib.hid hB4
    have HHAS := Lib.hid (show ∀ (W' : World) (k : Nat) (hk : k < l.length), Dr W W' → (Calls Tryd.prog 24 #[hi, .int .i64 (k : Int)] W' fun e w' => e = .returned (.bool (maxB l l[k])) ∧ W' = w') ∧ (Calls Tryd.prog 24 #[lo, .int .i64 (k : Int)] W' fun e w' => e = .returned (.bool (minB l l[k])) ∧ W' = w') from fun W' k hk hd => by
      have h1 := kitHas_any hi _ (k : Int) W' (slc_dr HHI.out hd)
      have h2 := kitHas_any lo _ (k : Int) W' (slc_dr HLO.out hd)
      rw [num_in hk] at h1 h2
      exact ⟨h1, h2⟩)
    clear hx0 hn0 hc0 hh0 hhi hlo hb1 hb2 hb3 hb4 hB2 hB3 hB4 HTB HGB HLB
    go_wp2
    go_loopg [11, 12] l.length (fun g1 d i wr => ∃ (k dn : Nat), k ≤ l.length ∧ g1 = l.length - k ∧ i = .int .i64 (k : Int) ∧ d = .int .i64 (dn : Int) ∧ dn ≤ 30 ∧ Hid (dn = (dst (l.take k)).length) ∧ Dr W wr)
    case atStart => exact ⟨0, 0, Nat.zero_le _, by omega, rfl, rfl, by decide, rfl, Dr.refl _⟩
    case round =>
      obtain ⟨k, dn, hk, hg1, rfl, rfl, hdn, hd, hdr⟩ := hrel
      by_cases hlt : k < l.length
      · obtain ⟨a, rfl, _, hcellx⟩ := nats_at HS.out k hlt
        have hx := HU.out _ (List.getElem_mem hlt)
        have hxm := Lib.hid (List.getElem_mem hlt)
        have hdst := Lib.hid (dst_take hlt)
        obtain ⟨x, hxe⟩ : ∃ x, x = l[k] := ⟨_, rfl⟩
        rw [← hxe] at hcellx hx hxm hdst
        clear hxe
        have HDR := Lib.hid hdr
        clear hdr
        go_wp2
        go_loopg [13, 14, 15, 16] l.length (fun g2 u d s j wr2 => ∃ m : Nat, m ≤ l.length ∧ g2 = l.length - m ∧ j = .int .i64 (m : Int) ∧ u = .bool (upB l x m) ∧ d = .bool (dnB l x m) ∧ s = .bool (newB l k x m) ∧ Dr W wr2)
        case atStart => exact ⟨0, Nat.zero_le _, by omega, rfl, rfl, rfl, (by unfold newB; simp), HDR.out⟩
        case round =>
          obtain ⟨m, hmn, hg2, rfl, rfl, rfl, rfl, hdr⟩ := hrel
          by_cases hlm : m < l.length
          · obtain ⟨a', e', _, hcelly⟩ := nats_at HS.out m hlm
            obtain rfl := Option.some.inj e'
            have hy := HU.out _ (List.getElem_mem hlm)
            have hU' := Lib.hid (show upB l x (m + 1) = (upB l x m || (maxB l l[m] && leB x l[m])) from any_snoc hlm)
            have hD' := Lib.hid (show dnB l x (m + 1) = (dnB l x m || (minB l l[m] && leB l[m] x)) from any_snoc hlm)
            have hS1 := Lib.hid (show m < k → newB l k x (m + 1) = (newB l k x m && (l[m] != x)) from fun h => newB_go hlm h)
            have hS2 := Lib.hid (show k ≤ m → newB l k x (m + 1) = newB l k x m from fun h => newB_stay h)
            have hhas := HHAS.out wr m hlm hdr
            have cx := (hdr.cell _).trans hcellx
            have cy := (hdr.cell _).trans hcelly
            obtain ⟨y, hye⟩ : ∃ y, y = l[m] := ⟨_, rfl⟩
            rw [← hye] at cy hy hU' hD' hS1 hhas hcelly
            have HHM := Lib.hid (show ∀ W', Dr W W' → _ from fun W' hd => HHAS.out W' m hlm hd)
            rw [← hye] at HHM
            clear hye
            obtain ⟨d1, e1, g1'⟩ := leB_test hx hy
            obtain ⟨d2, e2, g2'⟩ := leB_test hy hx
            generalize maxB l y = MX at hU' hhas HHM
            generalize minB l y = MN at hD' hhas HHM
            generalize leB x y = L1 at hU' g1'
            generalize leB y x = L2 at hD' g2'
            obtain ⟨U2, hU2⟩ : ∃ U2, U2 = upB l x (m + 1) := ⟨_, rfl⟩
            obtain ⟨D2, hD2⟩ : ∃ D2, D2 = dnB l x (m + 1) := ⟨_, rfl⟩
            obtain ⟨S2, hS2'⟩ : ∃ S2, S2 = newB l k x (m + 1) := ⟨_, rfl⟩
            rw [← hU2] at hU'
            rw [← hD2] at hD'
            rw [← hS2'] at hS1 hS2
            have HU2 := Lib.hid hU2
            have HD2 := Lib.hid hD2
            have HS2 := Lib.hid hS2'
            clear hU2 hD2 hS2'
            generalize upB l x m = U at hU' ⊢
            generalize dnB l x m = D at hD' ⊢
            generalize newB l k x m = S at hS1 hS2 ⊢
            have hmz : (m : Int) < (l.length : Int) := by omega
            have HDW := Lib.hid hdr
            have HCX := Lib.hid hcellx
            have HCY := Lib.hid hcelly
            clear hhas hcelly hcellx
            go_upto_region 17 with (fail)
            go_cut [13] (fun s wx => s = .bool U2 ∧ Dr W wx)
            case first =>
              have hH : ∀ n, Calls Tryd.prog 24 #[hi, .int .i64 (m : Int)] (wr.drewN n) fun e w' => e = .returned (.bool MX) ∧ wr.drewN n = w' := fun n => (HHM.out _ (HDW.out.trans ⟨n, rfl⟩)).1
              cases U
              · cases MX
                · go_quiet ((go_at_call 24; with_reducible exact quiet_same (hH _)))
                  go_wp2_with fail
                  go_meet
                  case rel => exact ⟨by rw [hU'.out]; rfl, HDW.out.trans ⟨_, rfl⟩⟩
                · go_quiet ((go_at_call 24; with_reducible exact quiet_same (hH _)))
                  go_wp2_with fail
                  go_meet
                  case rel => exact ⟨by rw [hU'.out]; first | rfl | (rw [g1']; rfl), HDW.out.trans ⟨_, rfl⟩⟩
              · go_quiet (fail)
                go_wp2_with fail
                go_meet
                case rel => exact ⟨by rw [hU'.out]; rfl, HDW.out.trans ⟨_, rfl⟩⟩
            case rest =>
            clear hdr cx cy HDW hU'
            obtain ⟨rfl, hdr⟩ := hcut
            have HDW := Lib.hid hdr
            have cx := (hdr.cell _).trans HCX.out
            have cy := (hdr.cell _).trans HCY.out
            go_upto_region 18 with (fail)
            go_cut [14] (fun s wx => s = .bool D2 ∧ Dr W wx)
            case first =>
              have hH : ∀ n, Calls Tryd.prog 24 #[lo, .int .i64 (m : Int)] (wc.drewN n) fun e w' => e = .returned (.bool MN) ∧ wc.drewN n = w' := fun n => (HHM.out _ (HDW.out.trans ⟨n, rfl⟩)).2
              cases D
              · cases MN
                · go_quiet ((go_at_call 24; with_reducible exact quiet_same (hH _)))
                  go_wp2_with fail
                  go_meet
                  case rel => exact ⟨by rw [hD'.out]; rfl, HDW.out.trans ⟨_, rfl⟩⟩
                · go_quiet ((go_at_call 24; with_reducible exact quiet_same (hH _)))
                  go_wp2_with fail
                  go_meet
                  case rel => exact ⟨by rw [hD'.out]; first | rfl | (rw [g2']; rfl), HDW.out.trans ⟨_, rfl⟩⟩
              · go_quiet (fail)
                go_wp2_with fail
                go_meet
                case rel => exact ⟨by rw [hD'.out]; rfl, HDW.out.trans ⟨_, rfl⟩⟩
            case rest =>
            clear hdr cx cy HDW hD'
            obtain ⟨rfl, hdr⟩ := hcut
            have HDW := Lib.hid hdr
            have cx := (hdr.cell _).trans HCX.out
            have cy := (hdr.cell _).trans HCY.out
            have hne : ((y : Int) != (x : Int)) = (y != x) := by
              by_cases e : y = x
              · subst e; simp
              · have e1 : ((y : Int) != (x : Int)) = true := by simp; omega
                have e2 : (y != x) = true := by simp [e]
                rw [e1, e2]
            obtain ⟨N, hN⟩ : ∃ N, N = (y != x) := ⟨_, rfl⟩
            rw [← hN] at hne hS1
            by_cases hmk : m < k
            · have hS := hS1.out hmk
              subst hS
              have c8 : (m : Int) < (k : Int) := by omega
              have c9 : decide ((m : Int) ≥ (k : Int)) = false := decide_eq_false (by omega)
              clear hS1 hS2 hN
              cases S
              all_goals
                (try go_wp2_with fail)
                go_quiet (fail)
                go_wp2
                go_roundg (l.length - (m + 1))
                case measure => omega
                case rel => exact ⟨m + 1, by omega, rfl, by go_num, by rw [HU2.out], by rw [HD2.out], by rw [← HS2.out]; first | rfl | (rw [decide_eq_false (show ¬ k ≤ m by omega)]; rfl), HDW.out.trans ⟨_, rfl⟩⟩
            · have hS := hS2.out (by omega)
              subst hS
              have c8 : ¬ (m : Int) < (k : Int) := by omega
              have c9 : (k : Int) ≤ (m : Int) := by omega
              clear hS1 hS2 hN
              cases S2
              all_goals
                (try go_wp2_with fail)
                go_quiet (fail)
                go_wp2
                go_roundg (l.length - (m + 1))
                case measure => omega
                case rel => exact ⟨m + 1, by omega, rfl, by go_num, by rw [HU2.out], by rw [HD2.out], by rw [← HS2.out], HDW.out.trans ⟨_, rfl⟩⟩
          · have hmn2 : m = l.length := by omega
            have hu := upB_end hxm.out
            have hl := dnB_end hxm.out
            rw [← hmn2] at hu hl
            obtain ⟨S, hS⟩ : ∃ S, S = newB l k x m := ⟨_, rfl⟩
            rw [hu, hl, ← hS]
            have HD2 := Lib.hid (show (dst (l.take (k + 1))).length = dn + (if S = true then 1 else 0) by rw [hdst.out, ← hd.out, hS, hmn2])
            have hmz : ¬ (m : Int) < (l.length : Int) := by omega
            have HDW := Lib.hid hdr
            clear hu hl hS hdr
            have hle := Lib.hid (show (dst (l.take (k + 1))).length ≤ 30 from Nat.le_trans (dst_le _) (by rw [List.length_take]; omega))
            cases S
            · have HN := Lib.hid (show dn = (dst (l.take (k + 1))).length by rw [HD2.out]; rfl)
              go_wp2
              go_roundg (l.length - (k + 1))
              case measure => omega
              case rel => exact ⟨k + 1, dn, by omega, rfl, by go_num, rfl, hdn, HN.out, HDW.out⟩
            · have HN := Lib.hid (show dn + 1 = (dst (l.take (k + 1))).length by rw [HD2.out]; rfl)
              go_wp2
              go_roundg (l.length - (k + 1))
              case measure => omega
              case rel => exact ⟨k + 1, dn + 1, by omega, rfl, by go_num, by go_num, by have := hle.out; have := HN.out; omega, HN.out, HDW.out⟩
      · have hkl : l.take k = l := List.take_of_length_le (by omega)
        have hdn2 := hd.out
        rw [hkl] at hdn2
        have hC : C = decide (Ht = dn) := by rw [HCH.out, hdn2]
        have HBW := Lib.hid (HB.out.trans (Dr_below hdr _))
        clear hkl hdn2
        by_cases he : Ht = dn
        · subst he
          have hC' : C = true := by rw [hC]; simp
          subst hC'
          clear hC
          go_wp2_with (go_at_call 6; refine (awake_any _).mono ?_; rintro e w6 ⟨rfl, hb6⟩)
          go_ret
          exact ⟨rfl, bstep HBW.out hb6⟩
        · have hC' : C = false := by rw [hC]; simp [he]
          subst hC'
          have hne : ((Ht : Int) == (dn : Int)) = false := beq_eq_false_iff_ne.2 (by omega)
          have hne2 : ¬ (Ht : Int) = (dn : Int) := by omega
          clear hC he
          go_wp2_with (go_at_call 6; refine (awake_any _).mono ?_; rintro e w6 ⟨rfl, hb6⟩)
          go_ret
          exact ⟨rfl, bstep HBW.out hb6⟩
end Go.Proofs.YtdhbadngbhdanaaDoor.Lt
