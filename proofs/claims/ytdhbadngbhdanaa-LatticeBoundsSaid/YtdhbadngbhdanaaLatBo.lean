/- Walk: LatticeBounds: the join is the least upper bound, the meet the greatest lower one, and what is below a meet of two labels is below both. -/
import Derived.Test.YtdhbadngbhdanaaLatU
import Derived.Test.YtdhbadngbhdanaaLatV
import Derived.BigQuiet
namespace Go.Proofs.Ytdhbadngbhdanaa.Lt
open Go.RowKit

theorem andNot_is {a b : Nat} (ha : a < 18446744073709551616) (hb : b < 18446744073709551616) {c : Bool} (h : leB a b = c) : (bits .andNot .u64 (a : Int) (b : Int) == 0) = c := by
  have := belowI_nat ha hb
  unfold Lb.belowI at this
  rw [this, h]
theorem and_zero {a b : Nat} (ha : a < 18446744073709551616) (hb : b < 18446744073709551616) (h : leB a b = true) : bits .andNot .u64 (a : Int) (b : Int) = 0 := by
  have := andNot_is ha hb h
  simpa using this
theorem and_test {a b : Nat} (ha : a < 18446744073709551616) (hb : b < 18446744073709551616) : ∃ d : Int, bits .andNot .u64 (a : Int) (b : Int) = d ∧ (d == 0) = leB a b := ⟨_, rfl, andNot_is ha hb rfl⟩
theorem getD_here {l : List Nat} {i : Nat} (hi : i < l.length) : l.getD i 0 = l[i] := by simp [List.getD, hi]
theorem has_nums {l : List Nat} {p : Nat → Bool} {i : Nat} (hi : i < l.length) : decide ((i : Int) ∈ (numsOf l p).map fun (i : Nat) => (i : Int)) = p l[i] := by
  have h : ((i : Int) ∈ (numsOf l p).map fun (i : Nat) => (i : Int)) ↔ p l[i] = true := by
    rw [List.mem_map]
    constructor
    · rintro ⟨k, hk, e⟩
      obtain rfl : k = i := by omega
      have := (mem_numsOf.1 hk).2
      rwa [getD_here hi] at this
    · intro h
      exact ⟨i, mem_numsOf.2 ⟨hi, by rw [getD_here hi]; exact h⟩, rfl⟩
  cases hp : p l[i]
  · rw [decide_eq_false_iff_not, h, hp]; decide
  · rw [decide_eq_true_iff, h, hp]
theorem jn_top {l : List Nat} {i : Nat} (hi : i < l.length) : leB l[i] (jn l) = true := by
  have h := foldOr_le l 0 (jn l)
  rw [show List.foldl (· ||| ·) 0 l = jn l from rfl, leB_refl] at h
  have h2 : (l.all fun z => leB z (jn l)) = true := (Bool.and_eq_true _ _ ▸ h.symm).2
  exact List.all_eq_true.1 h2 _ (List.getElem_mem hi)
theorem jn_least {l : List Nat} {x : Nat} (h : (l.all fun z => leB z x) = true) : leB (jn l) x = true := by
  rw [show jn l = List.foldl (· ||| ·) 0 l from rfl, foldOr_le l 0 x, h]
  simp [leB]
theorem mt_low {l : List Nat} {i : Nat} (hi : i < l.length) : leB (mt l) l[i] = true := by
  cases l with
  | nil => simp at hi
  | cons y l =>
    have h := foldAnd_le l y (mt (y :: l))
    rw [show List.foldl (· &&& ·) y l = mt (y :: l) from rfl, leB_refl] at h
    have h1 : leB (mt (y :: l)) y = true := (Bool.and_eq_true _ _ ▸ h.symm).1
    have h2 : (l.all fun z => leB (mt (y :: l)) z) = true := (Bool.and_eq_true _ _ ▸ h.symm).2
    cases i with
    | zero => exact h1
    | succ i => exact List.all_eq_true.1 h2 _ (List.getElem_mem (by simpa using hi))
theorem mt_greatest {l : List Nat} {x : Nat} (hne : l ≠ []) (h : (l.all fun z => leB x z) = true) : leB x (mt l) = true := by
  cases l with
  | nil => exact absurd rfl hne
  | cons y l =>
    rw [show mt (y :: l) = List.foldl (· &&& ·) y l from rfl, foldAnd_le l y x]
    exact h
theorem all_snoc {l : List Nat} {p : Nat → Bool} {k : Nat} (h : k < l.length) : (l.take (k + 1)).all p = ((l.take k).all p && p l[k]) := by
  rw [take_snoc l k h, List.all_append]
  simp
theorem belowR_few {l : List Nat} (h : l.length ≤ 64) (t : Nat) : belowR l t = (numsOf l (fun x => leB x t), 0) := by unfold belowR; rw [if_neg (by omega)]
set_option maxRecDepth 100000 in
set_option maxHeartbeats 4000000 in
theorem bounds_any (v : Value) (l : List Nat) (x y : Nat) (w : World) (h : Slc w v (lv l)) (hu : U64 l) (hcap : Cap v) (hx : x < 18446744073709551616) (hy : y < 18446744073709551616) :
    Calls Try.prog 4 #[v, .int .u64 (x : Int), .int .u64 (y : Int)] w fun e w' => e = .returned (.bool true) ∧ Below w.heap.size w w' := by
  by_cases h1 : l.length < 1
  · obtain ⟨A, cap, rfl, hm, hc⟩ := nats h
    have c1 : (l.length : Int) < 1 := by omega
    clear h hc h1 hu hcap
    go_enter Try.func4, Try.ntmps4
    go_wp2_with (go_at_call 6; refine (awake_any _).mono ?_; rintro e w1 ⟨rfl, hb⟩)
    go_ret
    exact ⟨rfl, hb⟩
  · by_cases h2 : 40 < l.length
    · obtain ⟨A, cap, rfl, hm, hc⟩ := nats h
      have c1 : ¬ (l.length : Int) < 1 := by omega
      have c2 : (40 : Int) < (l.length : Int) := by omega
      clear h hc h1 hu hcap h2
      go_enter Try.func4, Try.ntmps4
      go_wp2_with (go_at_call 6; refine (awake_any _).mono ?_; rintro e w1 ⟨rfl, hb⟩)
      go_ret
      exact ⟨rfl, hb⟩
    · have c1 : ¬ (l.length : Int) < 1 := by omega
      have c2 : ¬ (40 : Int) < (l.length : Int) := by omega
      have hne : l ≠ [] := fun e => h1 (by rw [e]; decide)
      have h64 : l.length ≤ 64 := by omega
      have HNE := Lib.hid hne
      have H64 := Lib.hid h64
      have hjl := jn_lt hu
      have hml := mt_lt hu
      have hA := join_all h hu
      have hB := fun w1 (hb : Below w.heap.size w w1) => meet_all (h.below hb) hu hcap
      rw [show joinR l = (jn l, 0) by unfold joinR; rw [if_neg (by omega)]] at hA
      rw [show meetR l = (mt l, 0) by unfold meetR; rw [if_neg (by omega), if_neg (by omega)]] at hB
      obtain ⟨J, hJ⟩ : ∃ J, J = jn l := ⟨_, rfl⟩
      obtain ⟨M, hM⟩ : ∃ M, M = mt l := ⟨_, rfl⟩
      rw [← hJ] at hA hjl
      rw [← hM] at hB hml
      have HJ := Lib.hid hJ
      have HM := Lib.hid hM
      have HS := Lib.hid h
      have HU := Lib.hid hu
      obtain ⟨A, cap, rfl, hm, hc⟩ := nats h
      clear h hc hne h64 h1 h2 hJ hM hcap hu
      go_enter Try.func4, Try.ntmps4
      go_wp2_with (first
        | (go_at_call 8; refine hA.mono ?_; rintro e w1 ⟨rfl, hb1⟩)
        | (go_at_call 10; refine (hB _ hb1).mono ?_; rintro e w2 ⟨rfl, hb2⟩))
      clear hA hB
      have hB2 := bstep hb1 hb2
      have HS2 := Lib.hid (HS.out.below hB2)
      have HB2 := Lib.hid hB2
      clear hB2 hb1 hb2
      go_loopw [11, 12, 13] (fun a b i wr => ∃ (k n : Nat), k ≤ l.length ∧ i = .int .i64 (k : Int) ∧ a = .bool ((l.take k).all fun z => leB z x) ∧ b = .bool ((l.take k).all fun z => leB x z) ∧ wr = w2.drewN n) (fun _ _ i _ => l.length - (intOf i).toNat)
      case atStart => exact ⟨0, 0, Nat.zero_le _, rfl, by simp, by simp, rfl⟩
      case round =>
        obtain ⟨k, n, hk, rfl, rfl, rfl, rfl⟩ := hrel
        by_cases hlt : k < l.length
        · obtain ⟨a, rfl, hab, hcell⟩ := nats_at HS2.out k hlt
          have hlk := HU.out _ (List.getElem_mem hlt)
          have hn1 := Lib.hid (all_snoc (p := fun z => leB z x) hlt)
          have hn2 := Lib.hid (all_snoc (p := fun z => leB x z) hlt)
          have hl1 := and_zero hlk hjl (show leB l[k] J = true by rw [HJ.out]; exact jn_top hlt)
          have hl2 := and_zero hml hlk (show leB M l[k] = true by rw [HM.out]; exact mt_low hlt)
          obtain ⟨d3, e3, g3⟩ := and_test hlk hx
          obtain ⟨d4, e4, g4⟩ := and_test hx hlk
          obtain ⟨P, hP⟩ : ∃ P, P = (l.take k).all fun z => leB z x := ⟨_, rfl⟩
          obtain ⟨Q, hQ⟩ : ∃ Q, Q = (l.take k).all fun z => leB x z := ⟨_, rfl⟩
          obtain ⟨B3, hB3⟩ : ∃ B3, B3 = leB l[k] x := ⟨_, rfl⟩
          obtain ⟨B4, hB4⟩ : ∃ B4, B4 = leB x l[k] := ⟨_, rfl⟩
          rw [← hP, ← hQ]
          have HN1 := Lib.hid (show ((l.take (k + 1)).all fun z => leB z x) = (P && B3) by rw [hn1.out, hP, hB3])
          have HN2 := Lib.hid (show ((l.take (k + 1)).all fun z => leB x z) = (Q && B4) by rw [hn2.out, hQ, hB4])
          rw [← hB3] at g3
          rw [← hB4] at g4
          clear hP hQ hB3 hB4
          cases P <;> cases Q
          all_goals
            go_wp2
            go_quiet (fail)
            go_wp2
            go_roundw
            case rel => exact ⟨k + 1, _, by omega, by go_num, by rw [HN1.out]; first | rfl | (rw [g3]; rfl), by rw [HN2.out]; first | rfl | (rw [g4]; rfl), rfl⟩
            case measure => simp [intOf]; omega
        · have HS3 := Lib.hid (HS2.out.drewN n)
          have HB3 := Lib.hid (below_drewN HB2.out n)
          rw [show l.take k = l from List.take_of_length_le (by omega)]
          obtain ⟨W, hW⟩ : ∃ W, W = w2.drewN n := ⟨_, rfl⟩
          rw [← hW] at HS3 HB3 ⊢
          clear hW
          have hand := u64_and_nat x y hx hy
          have hxy := and_lt (b := y) hx
          obtain ⟨z, hz⟩ : ∃ z, z = x &&& y := ⟨_, rfl⟩
          rw [← hz] at hand hxy
          have HZ := Lib.hid hz
          have hbel := fun (t : Nat) (ht : t < 18446744073709551616) (w1 : World) (hb : Below W.heap.size W w1) => below_all t (HS3.out.below hb) HU.out ht
          simp only [belowR_few H64.out] at hbel
          have HBE := Lib.hid hbel
          have hba := HBE.out z hxy W (Below.refl _ _)
          obtain ⟨P, hP⟩ : ∃ P, P = l.all fun z => leB z x := ⟨_, rfl⟩
          obtain ⟨Q, hQ⟩ : ∃ Q, Q = l.all fun z => leB x z := ⟨_, rfl⟩
          have HP := Lib.hid (show P = true → bits .andNot .u64 (J : Int) (x : Int) = 0 from fun h => and_zero hjl hx (by rw [HJ.out]; exact jn_least (by rw [← hP]; exact h)))
          have HQ := Lib.hid (show Q = true → bits .andNot .u64 (x : Int) (M : Int) = 0 from fun h => and_zero hx hml (by rw [HM.out]; exact mt_greatest HNE.out (by rw [← hQ]; exact h)))
          rw [← hP, ← hQ]
          clear hz hbel hP hQ
          go_wp2_with fail
          refine hba.mono ?_
          rintro e w3 ⟨va, rfl, hva, hb3⟩
          have hbb := HBE.out x hx w3 hb3
          go_wp2_with fail
          refine hbb.mono ?_
          rintro e w4 ⟨vb, rfl, hvb, hb4⟩
          have hbc := HBE.out y hy w4 (bstep hb3 hb4)
          go_wp2_with fail
          refine hbc.mono ?_
          rintro e w5 ⟨vc, rfl, hvc, hb5⟩
          have HVA := Lib.hid ((hva.below hb4).below hb5)
          have HVB := Lib.hid (hvb.below hb5)
          have HVC := Lib.hid hvc
          have HB5 := Lib.hid (bstep HB3.out (bstep (bstep hb3 hb4) hb5))
          clear hba hbb hbc hva hvb hvc hb3 hb4 hb5
          go_wp2
          go_loop [18] (fun i => ∃ k : Nat, k ≤ l.length ∧ i = .int .i64 (k : Int)) (fun i => l.length - (intOf i).toNat)
          case atStart => exact ⟨0, Nat.zero_le _, rfl⟩
          case round =>
            obtain ⟨k, hk, rfl⟩ := hrel
            by_cases hlt : k < l.length
            · have ha := kitHas_any va _ (k : Int) w5 HVA.out
              have hb := kitHas_any vb _ (k : Int) w5 HVB.out
              have hc := kitHas_any vc _ (k : Int) w5 HVC.out
              rw [has_nums hlt] at ha hb hc
              rw [HZ.out, leB_and_iff] at ha
              generalize leB l[k] x = T2 at ha hb
              generalize leB l[k] y = T3 at ha hc
              cases T2 <;> cases T3
              all_goals
                go_wp2_with (first | (go_at_call 18; with_reducible refine ha.mono ?_; rintro e w6 ⟨rfl, rfl⟩) | (go_at_call 18; with_reducible refine hb.mono ?_; rintro e w6 ⟨rfl, rfl⟩) | (go_at_call 18; with_reducible refine hc.mono ?_; rintro e w6 ⟨rfl, rfl⟩))
                go_round
                case rel => exact ⟨k + 1, by omega, by go_num⟩
                case measure => simp [intOf]; omega
            · cases P <;> cases Q
              all_goals
                have hp := HP.out
                have hq := HQ.out
                simp only [forall_const, Bool.false_eq_true, false_implies] at hp hq
                go_wp2_with (go_at_call 6; refine (awake_any _).mono ?_; rintro e w6 ⟨rfl, hb6⟩)
                go_ret
                exact ⟨rfl, bstep HB5.out hb6⟩
end Go.Proofs.Ytdhbadngbhdanaa.Lt
