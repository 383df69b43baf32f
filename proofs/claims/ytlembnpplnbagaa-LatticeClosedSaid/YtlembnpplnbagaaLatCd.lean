/- Walk: LatticeClosed: closures ascend, are closed, have the family in them, and are their own closures. -/
import Derived.Test.YtlembnpplnbagaaLatJs
import Derived.BigQuiet
import Derived.Deep.DeepCutAuto
namespace Go.Proofs.Ytlembnpplnbagaa.Lt
open Go.RowKit

theorem clFold_u64 {x : Nat} (hx : x < 18446744073709551616) : ∀ (s o : List Nat), U64 s → U64 o → U64 (s.foldl (fun o b => ins o (b ||| x)) o) := by
  intro s
  induction s with
  | nil => intro o _ ho; exact ho
  | cons y s ih => intro o hs ho; exact ih _ (fun z hz => hs z (by simp [hz])) (ins_u64 ho (or_lt (hs y (by simp)) hx))
theorem clGo_u64 : ∀ (l o r : List Nat), U64 l → U64 o → clGo o l = some r → U64 r := by
  intro l
  induction l with
  | nil => intro o r _ h e; obtain rfl : o = r := Option.some.inj e; exact h
  | cons x l ih =>
    intro o r hl ho e
    unfold clGo at e
    split at e
    · cases e
    · exact ih _ r (fun z hz => hl z (by simp [hz])) (clFold_u64 (hl x (by simp)) o _ ho (ins_u64 ho (hl x (by simp)))) e
theorem closureR_of {l r : List Nat} (hl : l.length ≤ 64) (h : clGo [] l = some r) : closureR l = (r, 0) := by
  unfold closureR
  rw [if_neg (by omega), h]
/-- What the statement looks at, of a short family's closure. -/
theorem closure_facts {l : List Nat} (hu : U64 l) (hl : l.length ≤ 6) : ∃ r, closureR l = (r, 0) ∧ closureR r = (r, 0) ∧ r.length ≤ 63 ∧ U64 r ∧ r.Pairwise (· < ·) ∧ Closed r ∧ ∀ z ∈ l, z ∈ r := by
  have h2 : 2 ^ l.length ≤ 2 ^ 6 := Nat.pow_le_pow_right (by decide) hl
  obtain ⟨r, h3, h4⟩ := clGo_short l [] (by simp; omega)
  simp at h4
  obtain ⟨ha, hc, _, hin, _⟩ := clGo_spec l [] r h3 List.Pairwise.nil closed_nil
  exact ⟨r, closureR_of (by omega) h3, closureR_of (by omega) (clGo_own hc ha (by omega)), by omega, clGo_u64 l [] r hu (fun z hz => by cases hz) h3, ha, hc, hin⟩
theorem asc_at {r : List Nat} (h : r.Pairwise (· < ·)) {i : Nat} (hi : i + 1 < r.length) : r[i] < r[i + 1] := List.pairwise_iff_getElem.1 h i (i + 1) (by omega) hi (by omega)
theorem has_is (v : Value) (l : List Nat) (x : Nat) (w : World) (h : Slc w v (lv l)) (hx : x ∈ l) :
    Calls Try.prog 19 #[v, .int .u64 (x : Int)] w fun e w' => e = .returned (.bool true) ∧ w = w' := by
  have := has_any v l x w h
  rw [decide_eq_true hx] at this
  exact this
/-- Nothing has turned but that the tape was drawn from. -/
def Dn (w w' : World) : Prop := ∃ n, w' = w.drewN n
theorem Dn.refl (w : World) : Dn w w := ⟨0, rfl⟩
theorem Dn.trans {w a b : World} (h : Dn w a) (k : Dn a b) : Dn w b := by
  obtain ⟨n, rfl⟩ := h
  obtain ⟨m, rfl⟩ := k
  exact ⟨n + m, World.drewN_drewN _ _ _⟩
theorem slc_dn {w w' : World} {v : Value} {us : List Value} (h : Slc w v us) (hd : Dn w w') : Slc w' v us := by
  obtain ⟨n, rfl⟩ := hd
  exact h.drewN n
theorem below_dn {B : Nat} {w a b : World} (h : Below B w a) (hd : Dn a b) : Below B w b := by
  obtain ⟨n, rfl⟩ := hd
  exact below_drewN h n
theorem dr_drewN {w a : World} (h : Dn w a) (n : Nat) : Dn w (a.drewN n) := h.trans ⟨n, rfl⟩
set_option maxRecDepth 100000 in
set_option maxHeartbeats 16000000 in
theorem closed_any (v : Value) (l : List Nat) (w : World) (h : Slc w v (lv l)) (hu : U64 l) :
    Calls Try.prog 5 #[v] w fun e w' => e = .returned (.bool true) ∧ Below w.heap.size w w' := by
  by_cases h6 : 6 < l.length
  · obtain ⟨A, cap, rfl, hm, hc⟩ := nats h
    have c1 : (6 : Int) < (l.length : Int) := by omega
    clear h hc h6 hu
    go_enter Try.func5, Try.ntmps5
    go_wp2_with (go_at_call 6; refine (awake_any _).mono ?_; rintro e w1 ⟨rfl, hb⟩)
    go_ret
    exact ⟨rfl, hb⟩
  · have c1 : ¬ (6 : Int) < (l.length : Int) := by omega
    obtain ⟨r, hr1, hr2, hr63, hru, hasc, hclo, hin⟩ := closure_facts hu (by omega)
    have hC1 := closure_all h hu
    have hC2 := fun (w : World) (v : Value) (h : Slc w v (lv r)) => closure_all h hru
    rw [hr1] at hC1
    rw [hr2] at hC2
    have HH := Lib.hid h
    have HU := Lib.hid hru
    have HASC := Lib.hid hasc
    have HCLO := Lib.hid hclo
    have HIN := Lib.hid hin
    obtain ⟨A, cap, rfl, hm, hc⟩ := nats h
    clear h hc hr1 hr2 hru hasc hclo hin h6 hu
    go_enter Try.func5, Try.ntmps5
    go_wp2_with fail
    refine hC1.mono ?_
    rintro e w1 ⟨v1, rfl, hs1, hb1⟩
    have HS1 := Lib.hid hs1
    have HB1 := Lib.hid hb1
    obtain ⟨A1, cap1, rfl, hm1, hc1⟩ := nats hs1
    have z63 : ¬ (63 : Int) < (r.length : Int) := by omega
    clear hs1 hb1 hC1 hc1
    go_wp2
    go_loopw [5] (fun i wr => ∃ k : Nat, k ≤ r.length ∧ i = .int .i64 (k : Int) ∧ Dn w1 wr) (fun i _ => r.length - (intOf i).toNat)
    case atStart => exact ⟨0, Nat.zero_le _, rfl, Dn.refl _⟩
    case round =>
      obtain ⟨k, hk, rfl, hD⟩ := hrel
      obtain ⟨W0, hW0⟩ : ∃ W, W = wr := ⟨_, rfl⟩
      subst hW0
      have HS0 := Lib.hid (slc_dn HS1.out hD)
      have HD0 := Lib.hid hD
      clear hD
      by_cases hlt : k < r.length
      · obtain ⟨a, rfl, hab, hck⟩ := nats_at HS0.out k hlt
        go_wp2_with fail
        go_upto_region 14 with (fail)
        go_cut [44] from 25 to 61 (fun s44 wx => s44 = .bool false ∧ Dn W0 wx)
        case first =>
          rcases Nat.eq_zero_or_pos k with h0 | h0
          · subst h0
            refine wp_region_quiet_lit (by kernel_rfl) (by kernel_rfl) ?_
            with_reducible refine wpQuiet_step (fun K hK => ?_)
            go_simp
            with_reducible refine hK _ ?_
            clear hK K
            with_reducible refine wpQuiet_step (fun K hK => ?_)
            go_simp
            with_reducible refine hK _ ?_
            clear hK K
            with_reducible refine wpQuiet_step (fun K hK => ?_)
            go_simp
            with_reducible refine hK _ ?_
            clear hK K
            with_reducible refine wpQuiet_skip ?_ ?_
            · kernel_rfl
            with_reducible refine wpQuiet_skip ?_ ?_
            · kernel_rfl
            with_reducible refine wpQuiet_skip ?_ ?_
            · kernel_rfl
            with_reducible refine wpQuiet_skip ?_ ?_
            · kernel_rfl
            with_reducible refine wpQuiet_skip ?_ ?_
            · kernel_rfl
            with_reducible refine wpQuiet_skip ?_ ?_
            · kernel_rfl
            with_reducible refine wpQuiet_skip ?_ ?_
            · kernel_rfl
            with_reducible refine wpQuiet_skip ?_ ?_
            · kernel_rfl
            with_reducible refine wpQuiet_skip ?_ ?_
            · kernel_rfl
            with_reducible refine wpQuiet_skip ?_ ?_
            · kernel_rfl
            (try simp only [Act.put, List.setIfInBounds_toArray, List.set_cons_zero, List.set_cons_succ])
            with_reducible refine wpQuiet_step (fun K hK => ?_)
            go_simp
            with_reducible refine hK _ ?_
            clear hK K
            refine wpQuiet_nil ?_
            intro _ hw'
            obtain ⟨nq, hw''⟩ := hw'
            subst hw''
            go_wp2_with fail
            go_meet
            case rel => exact ⟨rfl, ⟨_, rfl⟩⟩
          · obtain ⟨i1, hi1⟩ : ∃ i1, i1 = k - 1 := ⟨_, rfl⟩
            obtain ⟨a', ha', hab', hci⟩ := nats_at HS0.out i1 (by omega)
            cases ha'
            have hlt1 : i1 < r.length := by omega
            have hlk : r[i1] < r[k] := by
              have := asc_at HASC.out (i := i1) (by omega)
              have e : r[i1 + 1]'(by omega) = r[k] := by congr 1; omega
              rw [e] at this
              exact this
            obtain ⟨X, hX⟩ : ∃ X : Nat, X = r[k] := ⟨_, rfl⟩
            obtain ⟨Y, hY⟩ : ∃ Y : Nat, Y = r[i1] := ⟨_, rfl⟩
            rw [← hX] at hck hlk
            rw [← hY] at hci hlk
            have z0 : (0 : Int) < (k : Int) := by omega
            have z1 : IntKind.i64.wrap ((k : Int) - 1) = (i1 : Int) := by rw [IntWalk.i64_in _ ⟨by omega, by omega⟩]; omega
            have z2 : (k : Int) < (r.length : Int) := by omega
            have z3 : (i1 : Int) < (r.length : Int) := by omega
            have z4 : ¬ (X : Int) ≤ (Y : Int) := by omega
            have z5 : decide ((0 : Int) < (k : Int)) = true := decide_eq_true z0
            clear hX hY hi1 hlk hab hab'
            go_quiet (fail)
            go_wp2_with fail
            go_meet
            case rel => exact ⟨rfl, ⟨_, rfl⟩⟩
        case rest =>
          obtain ⟨rfl, hD1⟩ := hcut
          have HS2 := Lib.hid (slc_dn HS0.out hD1)
          have HD2 := Lib.hid (HD0.out.trans hD1)
          clear hck hab hD1 HS0 HD0
          go_wp2
          go_loopw [6] (fun q wr2 => ∃ p : Nat, p ≤ k ∧ q = .int .i64 (p : Int) ∧ Dn wc wr2) (fun q _ => k - (intOf q).toNat)
          case atStart => exact ⟨0, Nat.zero_le _, rfl, Dn.refl _⟩
          case round =>
            obtain ⟨p, hp, rfl, hD3⟩ := hrel
            obtain ⟨W3, hW3⟩ : ∃ W, W = wr := ⟨_, rfl⟩
            subst hW3
            have HS3 := Lib.hid (slc_dn HS2.out hD3)
            have HD3 := Lib.hid hD3
            clear hD3
            by_cases hpk : p < k
            · obtain ⟨a1, ha1, _, hck⟩ := nats_at HS3.out k hlt
              cases ha1
              obtain ⟨a2, ha2, _, hcp⟩ := nats_at HS3.out p (by omega)
              cases ha2
              have hmem := HCLO.out r[k] (List.getElem_mem hlt) (r[p]'(by omega)) (List.getElem_mem (by omega))
              have hor := u64_or_nat r[k] (r[p]'(by omega)) (HU.out _ (List.getElem_mem hlt)) (HU.out _ (List.getElem_mem (by omega)))
              obtain ⟨X, hX⟩ : ∃ X : Nat, X = r[k] := ⟨_, rfl⟩
              obtain ⟨Y, hY⟩ : ∃ Y : Nat, Y = r[p]'(by omega) := ⟨_, rfl⟩
              rw [← hX] at hck hmem hor
              rw [← hY] at hcp hmem hor
              obtain ⟨Z, hZ⟩ : ∃ Z : Nat, Z = X ||| Y := ⟨_, rfl⟩
              rw [← hZ] at hmem hor
              have HM := Lib.hid hmem
              have z2 : (k : Int) < (r.length : Int) := by omega
              have z3 : (p : Int) < (r.length : Int) := by omega
              have z4 : (p : Int) < (k : Int) := by omega
              clear hX hY hZ hmem
              go_wp2
              go_quiet ((go_at_call 19; with_reducible exact quiet_same (has_is _ _ _ _ (HS3.out.drewN _) HM.out)))
              go_wp2
              go_roundw
              case rel => exact ⟨p + 1, by omega, by go_num, HD3.out.trans ⟨_, rfl⟩⟩
              case measure => simp [intOf]; omega
            · have z4 : ¬ (p : Int) < (k : Int) := by omega
              go_wp2
              go_roundw
              case rel => exact ⟨k + 1, by omega, by go_num, HD2.out.trans HD3.out⟩
              case measure => simp [intOf]; omega
      · clear hk
        have HB0 := Lib.hid (below_dn HB1.out HD0.out)
        have HL0 := Lib.hid (HH.out.below HB0.out)
        have hC := hC2 W0 _ HS0.out
        clear hC2 HD0 HH
        go_wp2
        go_loop [7] (fun i => ∃ q : Nat, q ≤ l.length ∧ i = .int .i64 (q : Int)) (fun i => l.length - (intOf i).toNat)
        case atStart => exact ⟨0, Nat.zero_le _, rfl⟩
        case round =>
          obtain ⟨q, hq, rfl⟩ := hrel
          by_cases hql : q < l.length
          · obtain ⟨a, rfl, _, hcq⟩ := nats_at HL0.out q hql
            have HM := Lib.hid (HIN.out _ (List.getElem_mem hql))
            go_wp2_with (go_at_call 19; with_reducible refine (has_is _ _ _ _ HS0.out HM.out).mono ?_; rintro e w' ⟨rfl, rfl⟩)
            go_round
            case rel => exact ⟨q + 1, by omega, by go_num⟩
            case measure => simp [intOf]; omega
          · go_wp2_with fail
            refine hC.mono ?_
            rintro e w2 ⟨v2, rfl, hs2, hb2⟩
            have HE := Lib.hid (HS0.out.below hb2)
            have B2 := bstep HB0.out hb2
            go_wp2_with (first
              | (go_at_call 14; with_reducible refine (same_self _ _ r _ HE.out hs2).mono ?_; rintro e w3 ⟨rfl, hb3⟩; have B3 := bstep B2 hb3)
              | (go_at_call 6; with_reducible refine (awake_any _).mono ?_; rintro e w4 ⟨rfl, hb4⟩; have B4 := bstep B3 hb4))
            go_ret
            exact ⟨rfl, B4⟩
end Go.Proofs.Ytlembnpplnbagaa.Lt
