/- Walk: LatticeJoins: joins, meets, covers and closures are the reference's. -/
import Derived.Test.YtlembnpplnbagaaLatU
import Derived.Test.YtlembnpplnbagaaLatV
import Derived.Test.YtlembnpplnbagaaLatH
import Derived.Test.YtlembnpplnbagaaSrtM
namespace Go.Proofs.Ytlembnpplnbagaa.Lt
open Go.RowKit

theorem clGo_len : ∀ (l o r : List Nat), o.length ≤ 256 → clGo o l = some r → r.length ≤ 256 := by
  intro l
  induction l with
  | nil => intro o r h e; obtain rfl : o = r := Option.some.inj e; exact h
  | cons x l ih =>
    intro o r h e
    unfold clGo at e
    split at e
    · cases e
    · exact ih _ r (by omega) e
theorem closure_all {w : World} {v : Value} {l : List Nat} (h : Slc w v (lv l)) (hu : U64 l) :
    Calls Try.prog 15 #[v] w fun e w' => Out2 w (lv (closureR l).1) (closureR l).2 e w' :=
  closure_any (sorts_all 256 (by decide)) h hu (fun _ _ _ e => clGo_len _ [] _ (by simp) e)
theorem same_self (u v : Value) (xs : List Nat) (w : World) (hu : Slc w u (lv xs)) (hv : Slc w v (lv xs)) :
    Calls Try.prog 14 #[u, v] w fun e w' => e = .returned (.bool true) ∧ Below w.heap.size w w' :=
  (same_any u v xs xs w hu hv).mono fun _ _ ⟨h1, n, h2⟩ => ⟨by rw [h1]; simp, by rw [h2]; exact below_drewN (Below.refl _ _) n⟩
theorem slk_slc {w : World} {v : Value} {us : List Value} (h : Slk w v us) : Slc w v us := by
  rcases h with ⟨rfl, rfl⟩ | ⟨b, o, cap, rfl, h2, h3, h4, h5⟩
  · exact Slc.nil w
  · refine ⟨some ⟨b, o, none⟩, cap, rfl, h3, (fun h => by cases h), fun i hi => ⟨_, rfl, h4, ?_⟩⟩
    have e : (⟨b, o, none⟩ : Addr).add i = ⟨b, o + i, none⟩ := by unfold Addr.add; split <;> simp_all
    rw [e]
    exact h5 i _ (List.getElem?_eq_getElem hi)
theorem refClosure_all {w : World} {v : Value} {l : List Nat} (h : Slc w v (lv l)) (hu : U64 l) :
    Calls Try.prog 16 #[v] w fun e w' => Out2 w (lv (closureR l).1) (closureR l).2 e w' :=
  (refClosure_any h hu).mono fun _ _ ⟨v, h1, h2, h3⟩ => ⟨v, h1, slk_slc h2, h3⟩
set_option maxRecDepth 100000 in
set_option maxHeartbeats 4000000 in
theorem joins_any (v : Value) (l : List Nat) (x : Nat) (w : World) (h : Slc w v (lv l)) (hu : U64 l) (hx : x < 18446744073709551616) :
    Calls Try.prog 3 #[v, .int .u64 (x : Int)] w fun e w' => e = .returned (.bool true) ∧ Below w.heap.size w w' := by
  by_cases h70 : 70 < l.length
  · obtain ⟨A, cap, rfl, hm, hc⟩ := nats h
    have c1 : (70 : Int) < (l.length : Int) := by omega
    clear h hc h70 hu
    go_enter Try.func3, Try.ntmps3
    go_wp2_with (go_at_call 6; refine (awake_any _).mono ?_; rintro e w1 ⟨rfl, hb⟩)
    go_ret
    exact ⟨rfl, hb⟩
  · have c1 : ¬ (70 : Int) < (l.length : Int) := by omega
    have hO := own_any v l w h (by omega)
    have hJ := fun (w : World) (v : Value) (h : Slc w v (lv l)) => join_all h hu
    have hJ' := fun (w : World) (v : Value) (h : Slc w v (lv l)) => refJoin_any h hu
    have hM := fun (w : World) (v : Value) (h : Slc w v (lv l)) (hc : Cap v) => meet_all h hu hc
    have hM' := fun (w : World) (v : Value) (h : Slc w v (lv l)) => refMeet_any h hu
    have hC := fun (w : World) (v : Value) (h : Slc w v (lv l)) => cover_all x h hu hx
    have hC' := fun (w : World) (v : Value) (h : Slc w v (lv l)) => refCover_any x h hu hx
    have hS := fun (w : World) (u v : Value) (hu : Slc w u (lv l)) (hv : Slc w v (lv l)) => same_self u v l w hu hv
    have hQ := fun (w : World) (u v : Value) (hu : Slc w u (lv (closureR l).1)) (hv : Slc w v (lv (closureR l).1)) => same_self u v (closureR l).1 w hu hv
    have hK := fun (w : World) (v : Value) (h : Slc w v (lv l)) => closure_all h hu
    have hK' := fun (w : World) (v : Value) (h : Slc w v (lv l)) => refClosure_all h hu
    generalize (joinR l).1 = j1 at hJ hJ'
    generalize (joinR l).2 = j2 at hJ hJ'
    generalize (meetR l).1 = m1 at hM hM'
    generalize (meetR l).2 = m2 at hM hM'
    generalize (coverR l x).1 = k1 at hC hC'
    generalize (coverR l x).2 = k2 at hC hC'
    generalize (closureR l).1 = q1 at hK hK' hQ
    generalize (closureR l).2 = q2 at hK hK'
    have HH := Lib.hid h
    obtain ⟨A, cap, rfl, hm, hc⟩ := nats h
    clear h hc hu hx
    by_cases hl : 12 < l.length ∧ l.length ≤ 64
    · have c2 : (12 : Int) < (l.length : Int) := by omega
      have c3 : (l.length : Int) ≤ 64 := by omega
      clear hK hK' hl h70
      go_enter Try.func3, Try.ntmps3
      go_wp2_with (first
        | (go_at_call 7; refine hO.mono ?_; rintro e w1 ⟨m, rfl, hm1, hcap, hb1⟩; have B1 := hb1)
        | (go_at_call 8; refine (hJ _ _ hm1).mono ?_; rintro e w2 ⟨rfl, hb2⟩; have B2 := bstep B1 hb2; have M2 := hm1.below hb2)
        | (go_at_call 9; refine (hJ' _ _ (HH.out.below B2)).mono ?_; rintro e w' ⟨rfl, rfl⟩)
        | (go_at_call 10; refine (hM _ _ M2 hcap).mono ?_; rintro e w3 ⟨rfl, hb3⟩; have B3 := bstep B2 hb3; have M3 := M2.below hb3)
        | (go_at_call 11; refine (hM' _ _ (HH.out.below B3)).mono ?_; rintro e w' ⟨rfl, rfl⟩)
        | (go_at_call 12; refine (hC _ _ M3).mono ?_; rintro e w4 ⟨rfl, hb4⟩; have B4 := bstep B3 hb4; have M4 := M3.below hb4)
        | (go_at_call 13; refine (hC' _ _ (HH.out.below B4)).mono ?_; rintro e w' ⟨rfl, rfl⟩)
        | (go_at_call 14; refine (hS _ _ _ M4 (HH.out.below B4)).mono ?_; rintro e w5 ⟨rfl, hb5⟩; have B5 := bstep B4 hb5)
        | (go_at_call 6; refine (awake_any _).mono ?_; rintro e w6 ⟨rfl, hb6⟩; have B6 := bstep B5 hb6))
      go_ret
      exact ⟨rfl, B6⟩
    · by_cases h12 : 12 < l.length
      · have c2 : (12 : Int) < (l.length : Int) := by omega
        have c3 : ¬ (l.length : Int) ≤ 64 := by omega
        clear hl h70 h12
        go_enter Try.func3, Try.ntmps3
        go_wp2_with (first
            | (go_at_call 7; refine hO.mono ?_; rintro e w1 ⟨m, rfl, hm1, hcap, hb1⟩; have B1 := hb1)
            | (go_at_call 8; refine (hJ _ _ hm1).mono ?_; rintro e w2 ⟨rfl, hb2⟩; have B2 := bstep B1 hb2; have M2 := hm1.below hb2)
            | (go_at_call 9; refine (hJ' _ _ (HH.out.below B2)).mono ?_; rintro e w' ⟨rfl, rfl⟩)
            | (go_at_call 10; refine (hM _ _ M2 hcap).mono ?_; rintro e w3 ⟨rfl, hb3⟩; have B3 := bstep B2 hb3; have M3 := M2.below hb3)
            | (go_at_call 11; refine (hM' _ _ (HH.out.below B3)).mono ?_; rintro e w' ⟨rfl, rfl⟩)
            | (go_at_call 12; refine (hC _ _ M3).mono ?_; rintro e w4 ⟨rfl, hb4⟩; have B4 := bstep B3 hb4; have M4 := M3.below hb4)
            | (go_at_call 13; refine (hC' _ _ (HH.out.below B4)).mono ?_; rintro e w' ⟨rfl, rfl⟩)
            | (go_at_call 15; refine (hK _ _ M5).mono ?_; rintro e w6 ⟨u1, rfl, U1, hb6⟩; have B6 := bstep B5 hb6; have M6 := M5.below hb6)
            | (go_at_call 16; refine (hK' _ _ (HH.out.below B6)).mono ?_; rintro e w7 ⟨u2, rfl, U2, hb7⟩; have B7 := bstep B6 hb7; have M7 := M6.below hb7; have U17 := U1.below hb7)
            | (go_at_call 14; with_reducible refine (hQ _ _ _ U17 U2).mono ?_; rintro e w8 ⟨rfl, hb8⟩; have B8 := bstep B7 hb8; have M8 := M7.below hb8; clear U17)
            | (go_at_call 14; with_reducible refine (hS _ _ _ M8 (HH.out.below B8)).mono ?_; rintro e w9 ⟨rfl, hb9⟩; have B9 := bstep B8 hb9)
            | (go_at_call 14; with_reducible refine (hS _ _ _ M4 (HH.out.below B4)).mono ?_; rintro e w5 ⟨rfl, hb5⟩; have B5 := bstep B4 hb5; have M5 := M4.below hb5)
            | (go_at_call 6; refine (awake_any _).mono ?_; rintro e w10 ⟨rfl, hb10⟩; have B10 := bstep B9 hb10))
        go_ret
        exact ⟨rfl, B10⟩
      · have c2 : ¬ (12 : Int) < (l.length : Int) := by omega
        clear hl h70 h12
        go_enter Try.func3, Try.ntmps3
        go_wp2_with (first
            | (go_at_call 7; refine hO.mono ?_; rintro e w1 ⟨m, rfl, hm1, hcap, hb1⟩; have B1 := hb1)
            | (go_at_call 8; refine (hJ _ _ hm1).mono ?_; rintro e w2 ⟨rfl, hb2⟩; have B2 := bstep B1 hb2; have M2 := hm1.below hb2)
            | (go_at_call 9; refine (hJ' _ _ (HH.out.below B2)).mono ?_; rintro e w' ⟨rfl, rfl⟩)
            | (go_at_call 10; refine (hM _ _ M2 hcap).mono ?_; rintro e w3 ⟨rfl, hb3⟩; have B3 := bstep B2 hb3; have M3 := M2.below hb3)
            | (go_at_call 11; refine (hM' _ _ (HH.out.below B3)).mono ?_; rintro e w' ⟨rfl, rfl⟩)
            | (go_at_call 12; refine (hC _ _ M3).mono ?_; rintro e w4 ⟨rfl, hb4⟩; have B4 := bstep B3 hb4; have M4 := M3.below hb4)
            | (go_at_call 13; refine (hC' _ _ (HH.out.below B4)).mono ?_; rintro e w' ⟨rfl, rfl⟩)
            | (go_at_call 15; refine (hK _ _ M5).mono ?_; rintro e w6 ⟨u1, rfl, U1, hb6⟩; have B6 := bstep B5 hb6; have M6 := M5.below hb6)
            | (go_at_call 16; refine (hK' _ _ (HH.out.below B6)).mono ?_; rintro e w7 ⟨u2, rfl, U2, hb7⟩; have B7 := bstep B6 hb7; have M7 := M6.below hb7; have U17 := U1.below hb7)
            | (go_at_call 14; with_reducible refine (hQ _ _ _ U17 U2).mono ?_; rintro e w8 ⟨rfl, hb8⟩; have B8 := bstep B7 hb8; have M8 := M7.below hb8; clear U17)
            | (go_at_call 14; with_reducible refine (hS _ _ _ M8 (HH.out.below B8)).mono ?_; rintro e w9 ⟨rfl, hb9⟩; have B9 := bstep B8 hb9)
            | (go_at_call 14; with_reducible refine (hS _ _ _ M4 (HH.out.below B4)).mono ?_; rintro e w5 ⟨rfl, hb5⟩; have B5 := bstep B4 hb5; have M5 := M4.below hb5)
            | (go_at_call 6; refine (awake_any _).mono ?_; rintro e w10 ⟨rfl, hb10⟩; have B10 := bstep B9 hb10))
        go_ret
        exact ⟨rfl, B10⟩
end Go.Proofs.Ytlembnpplnbagaa.Lt
