/- The program's meet and cover of a family. -/
import Derived.Test.YtlembnpplnbagaaLatT
import Derived.Test.YtlembnpplnbagaaLatE
import Derived.Deep.RegionWith
namespace Go.Proofs.Ytlembnpplnbagaa.Lt
open Go.RowKit
open Lb

theorem meetI_two {a b : Nat} (ha : a < 18446744073709551616) (hb : b < 18446744073709551616) : meetI [(a : Int), (b : Int)] = ((a &&& b : Nat) : Int) := by
  have h1 := u64_and_nat 18446744073709551615 a (by decide) ha
  have h2 := u64_and_nat a b ha hb
  have e : 18446744073709551615 &&& a = a := by
    rw [Nat.and_comm]
    have := Nat.and_two_pow_sub_one_eq_mod a 64
    rw [show 2 ^ 64 - 1 = 18446744073709551615 by decide] at this
    rw [this]
    exact Nat.mod_eq_of_lt ha
  rw [e] at h1
  simp only [meetI, List.foldl_cons, List.foldl_nil]
  rw [show (18446744073709551615 : Int) = ((18446744073709551615 : Nat) : Int) from rfl, h1, h2]
theorem meet_two (a b : Nat) (ha : a < 18446744073709551616) (hb : b < 18446744073709551616) (w : World) :
    Calls Try.prog 24 #[.int .u64 (a : Int), .int .u64 (b : Int)] w fun e w' => e = .returned (.int .u64 ((a &&& b : Nat) : Int)) ∧ w' = w.alloc (.cells #[.int .u64 (a : Int), .int .u64 (b : Int)] 23) := by
  have hs := Slc.lit w (vals .u64 [(a : Int), (b : Int)]) 23 2 rfl (by decide)
  have hJ := meet_any _ _ _ hs
  rw [meetI_two ha hb] at hJ
  have e0 : (vals .u64 [(a : Int), (b : Int)]).toArray = #[.int .u64 (a : Int), .int .u64 (b : Int)] := rfl
  rw [e0] at hJ
  clear hs e0
  obtain ⟨r, hr⟩ : ∃ r : Int, r = ((a &&& b : Nat) : Int) := ⟨_, rfl⟩
  rw [← hr] at hJ ⊢
  clear hr
  go_enter Try.func24, Try.ntmps24
  go_wp2_with (go_at_call 30; refine hJ.mono ?_; rintro e w' ⟨rfl, rfl⟩)
  go_ret
  exact ⟨rfl, rfl⟩
def foldAnd (a : Nat) (l : List Nat) : Nat := l.foldl (· &&& ·) a
theorem foldAnd_snoc {a k : Nat} {l : List Nat} (h : k < l.length) : foldAnd a (l.take (k + 1)) = foldAnd a (l.take k) &&& l[k] := by
  unfold foldAnd
  rw [take_snoc l k h, List.foldl_append]
  rfl
theorem foldAnd_lt {a : Nat} : ∀ {l : List Nat}, a < 18446744073709551616 → foldAnd a l < 18446744073709551616 := by
  intro l
  induction l generalizing a with
  | nil => intro h; exact h
  | cons x l ih => intro ha; exact ih (and_lt ha)
theorem foldMeet_any {w : World} {v : Value} {l : List Nat} (a : Nat) (h : Slc w v (lv l)) (hu : U64 l) (ha : a < 18446744073709551616) :
    Calls Try.prog 21 #[.int .u64 (a : Int), v, .func (.func 24) #[] #[]] w fun e w' => e = .returned (.int .u64 (foldAnd a l : Int)) ∧ Below w.heap.size w w' := by
  obtain ⟨A, cap, rfl, hm, hc⟩ := nats h
  have HC := Lib.hid hc
  have HU := Lib.hid hu
  clear h hc hu
  go_enter Try.func21, Try.ntmps21
  go_wp2
  go_loopw [0, 11] (fun t i wr => ∃ k : Nat, k ≤ l.length ∧ i = .int .i64 (k : Int) ∧ t = .int .u64 (foldAnd a (l.take k) : Int) ∧ Below w.heap.size w wr) (fun _ i _ => l.length - (intOf i).toNat)
  case atStart => exact ⟨0, Nat.zero_le _, rfl, rfl, Below.refl _ _⟩
  case round =>
    obtain ⟨k, hk, rfl, rfl, hB⟩ := hrel
    by_cases hlt : k < l.length
    · obtain ⟨p, rfl, hpb, hcell⟩ := HC.out k hlt
      have hcell2 := (hB.cell (p := p.add k) (by rw [add_block]; exact hpb)).trans hcell
      have hn := Lib.hid (foldAnd_snoc (a := a) hlt)
      obtain ⟨q, hq⟩ : ∃ q, q = foldAnd a (l.take k) := ⟨_, rfl⟩
      have hql : q < 18446744073709551616 := hq ▸ foldAnd_lt ha
      have hJ := fun w => meet_two q l[k] hql (HU.out _ (List.getElem_mem hlt)) w
      have HQ := Lib.hid hq
      rw [← hq]
      clear hq hcell
      go_wp2_with (go_at_call 24; refine (hJ _).mono ?_; rintro e w' ⟨rfl, rfl⟩)
      go_roundw
      case rel => exact ⟨k + 1, by omega, by go_num, by rw [hn.out, ← HQ.out], bstep hB ((Below.refl _ _).alloc (Nat.le_refl _) _)⟩
      case measure => simp [intOf]; omega
    · rw [List.take_of_length_le (by omega)]
      go_wp2
      go_ret
      exact ⟨rfl, hB⟩
theorem slc_tail {w : World} {a : Addr} {cap x : Nat} {l : List Nat} (h : Slc w (.slice (some a) (l.length + 1) cap) (lv (x :: l))) (hc : l.length + 1 ≤ cap) :
    Slc w (.slice (if cap = 1 then some a else some (a.add 1)) l.length (cap - 1)) (lv l) := by
  have hm := h.len
  have hc' := nats_at (l := x :: l) h
  rw [lv_length] at hm
  refine ⟨_, _, by rw [lv_length], by rw [lv_length]; unfold maxLen; simp at hm; omega, fun hn => (by split at hn <;> cases hn), fun i hi => ?_⟩
  rw [lv_length] at hi
  obtain ⟨p, e, h1, h2⟩ := hc' (i + 1) (by simpa using hi)
  cases e
  refine ⟨a.add 1, by rw [if_neg (by omega)], by rw [add_block]; exact h1, ?_⟩
  have e2 : (a.add 1).add i = a.add (i + 1) := by
    unfold Addr.add
    split <;> simp_all <;> omega
  rw [e2, h2]
  simp [lv]
set_option maxHeartbeats 1000000 in
theorem meet_all {w : World} {v : Value} {l : List Nat} (h : Slc w v (lv l)) (hu : U64 l) (hcap : Cap v) :
    Calls Try.prog 10 #[v] w fun e w' => e = .returned (.tuple #[.int .u64 ((meetR l).1 : Int), .int .i64 (meetR l).2]) ∧ Below w.heap.size w w' := by
  unfold meetR
  by_cases hl : 64 < l.length
  · rw [if_pos hl]
    have hF := isFamily_is h (c := false) (decide_eq_false (by omega))
    obtain ⟨A, cap, rfl, hm, hc⟩ := nats h
    clear h hc hl hcap
    go_enter Try.func10, Try.ntmps10
    go_wp2_with fail
    refine hF.mono ?_
    rintro e w' ⟨rfl, rfl⟩
    go_wp2
    go_returns
    exact ⟨rfl, Below.refl _ _⟩
  · rw [if_neg hl]
    have hF := isFamily_is h (c := true) (decide_eq_true (by omega))
    cases l with
    | nil =>
      rw [if_pos (by rfl)]
      obtain ⟨A, cap, rfl, hm, hc⟩ := nats h
      clear h hc hl hcap
      go_enter Try.func10, Try.ntmps10
      go_wp2_with fail
      refine hF.mono ?_
      rintro e w' ⟨rfl, rfl⟩
      go_wp2
      go_returns
      exact ⟨rfl, Below.refl _ _⟩
    | cons x l =>
      rw [if_neg (by simp)]
      have hS := h
      obtain ⟨A, cap, rfl, hm, hc⟩ := nats h
      obtain ⟨a, rfl, hab, hcell⟩ := hc 0 (by simp)
      rw [add0] at hcell
      have hx := hu x (by simp)
      have hcap' : l.length + 1 ≤ cap := by
        obtain ⟨A', n', cap', e, h'⟩ := hcap
        cases e
        simpa using h'
      rw [List.length_cons] at hS hm hF ⊢
      have hT := slc_tail hS hcap'
      obtain ⟨q, hq⟩ : ∃ q, q = mt (x :: l) := ⟨_, rfl⟩
      have hq' : foldAnd x l = q := hq ▸ rfl
      rw [← hq]
      have hx0 : (x :: l)[0] = x := rfl
      rw [hx0] at hcell
      have c1 : ¬ ((l.length : Int) + 1 = 0) := by omega
      have c2 : (1 : Int) ≤ ((l.length : Int) + 1) := by omega
      have c3 : (0 : Int) < ((l.length : Int) + 1) := by omega
      have c4 : (1 : Int) ≤ (cap : Int) := by omega
      by_cases hone : cap = 1
      · have hM := foldMeet_any (w := w.drew) x hT (fun z hz => hu z (by simp [hz])) hx
        rw [hq', if_pos hone] at hM
        subst hone
        obtain rfl : l = [] := List.eq_nil_of_length_eq_zero (by omega)
        simp only [List.length_nil, Nat.sub_self] at hM
        clear h hS hc hl hcap hq hq' hx0 hT
        go_enter Try.func10, Try.ntmps10
        go_wp2_with fail
        refine hF.mono ?_
        rintro e w' ⟨rfl, rfl⟩
        go_wp2
        go_region_with (go_at_call 21; refine hM.mono ?_; rintro e w1 ⟨rfl, hb⟩)
        go_wp2
        go_returns
        exact ⟨rfl, bstep (Below.refl _ w).drew hb⟩
      · have hM := foldMeet_any (w := w.drew) x hT (fun z hz => hu z (by simp [hz])) hx
        rw [hq', if_neg hone, show a.add 1 = ⟨a.block, a.off + 1, none⟩ from rfl] at hM
        clear h hS hc hl hcap hq hq' hx0 hT
        go_enter Try.func10, Try.ntmps10
        go_wp2_with fail
        refine hF.mono ?_
        rintro e w' ⟨rfl, rfl⟩
        go_wp2
        go_region_with (go_at_call 21; refine hM.mono ?_; rintro e w1 ⟨rfl, hb⟩)
        go_wp2
        go_returns
        exact ⟨rfl, bstep (Below.refl _ w).drew hb⟩
theorem cov_ends {x : Nat} : ∀ (l : List Nat) (o : Nat), leB x (cov x o l) = leB x (foldOr o l) := by
  intro l
  induction l with
  | nil => intro o; rfl
  | cons y l ih =>
    intro o
    cases h : leB x o
    · rw [cov_step h, ih]; rfl
    · rw [cov_stop h, h]
      symm
      refine leB_trans h ?_
      have := foldOr_le (y :: l) o (foldOr o (y :: l))
      unfold foldOr at this ⊢
      rw [leB_refl] at this
      exact (Bool.and_eq_true _ _ ▸ this.symm).1
set_option maxHeartbeats 1000000 in
theorem cover_all {w : World} {v : Value} {l : List Nat} (x : Nat) (h : Slc w v (lv l)) (hu : U64 l) (hx : x < 18446744073709551616) :
    Calls Try.prog 12 #[v, .int .u64 (x : Int)] w fun e w' => e = .returned (.tuple #[.int .u64 ((coverR l x).1 : Int), .int .i64 (coverR l x).2]) ∧ Below w.heap.size w w' := by
  obtain ⟨X, hX⟩ : ∃ X : Value, X = .tuple #[.int .u64 ((coverR l x).1 : Int), .int .i64 (coverR l x).2] := ⟨_, rfl⟩
  rw [← hX]
  have hJ := join_all h hu
  unfold coverR at hX
  unfold joinR at hJ
  by_cases hl : 64 < l.length
  · rw [if_pos hl] at hX hJ
    subst hX
    obtain ⟨A, cap, rfl, hm, hc⟩ := nats h
    clear h hc hl
    go_enter Try.func12, Try.ntmps12
    go_wp2_with fail
    refine hJ.mono ?_
    rintro e w1 ⟨rfl, hb⟩
    go_wp2
    go_returns
    exact ⟨rfl, hb⟩
  · rw [if_neg hl] at hX hJ
    have hcv : leB x (cov x 0 l) = leB x (jn l) := cov_ends l 0
    rw [hcv] at hX
    obtain ⟨R, hR⟩ : ∃ R, R = cov x 0 l := ⟨_, rfl⟩
    rw [← hR] at hX
    have HR := Lib.hid hR
    have hjl := jn_lt hu
    obtain ⟨q, hq⟩ : ∃ q, q = jn l := ⟨_, rfl⟩
    rw [← hq] at hX hJ hjl
    obtain ⟨A, cap, rfl, hm, hc⟩ := nats h
    have HC := Lib.hid hc
    have HU := Lib.hid hu
    clear h hc hl hcv hR hq hu
    cases hb : leB x q
    · rw [hb, if_neg (by decide)] at hX
      subst hX
      have hA := fun w => below_is x q hx hjl hb w
      clear hb
      go_enter Try.func12, Try.ntmps12
      go_wp2_with fail
      refine hJ.mono ?_
      rintro e w1 ⟨rfl, hb⟩
      go_wp2_with (go_at_call 25; refine (hA _).mono ?_; rintro e w' ⟨rfl, rfl⟩)
      go_returns
      exact ⟨rfl, hb⟩
    · rw [hb, if_pos rfl] at hX
      have HX := Lib.hid hX
      have hA := fun w => below_is x q hx hjl hb w
      clear hb hX
      go_enter Try.func12, Try.ntmps12
      go_wp2_with fail
      refine hJ.mono ?_
      rintro e w1 ⟨rfl, hb⟩
      go_wp2_with (go_at_call 25; refine (hA _).mono ?_; rintro e w' ⟨rfl, rfl⟩)
      clear hA hJ
      go_loopw [8, 27] (fun t i wr => ∃ k o : Nat, k ≤ l.length ∧ i = .int .i64 (k : Int) ∧ t = .int .u64 (o : Int) ∧ o < 18446744073709551616 ∧ Hid (R = cov x o (l.drop k)) ∧ Below w.heap.size w wr) (fun _ i _ => l.length - (intOf i).toNat)
      case atStart => exact ⟨0, 0, Nat.zero_le _, rfl, rfl, by decide, HR.out, hb⟩
      case round =>
        clear hb
        obtain ⟨k, o, hk, rfl, rfl, ho, HO, hB⟩ := hrel
        by_cases hlt : k < l.length
        · obtain ⟨a, rfl, hab, hcell0⟩ := HC.out k hlt
          have hcell := (hB.cell (p := a.add k) (by rw [add_block]; exact hab)).trans hcell0
          have hd := Lib.hid (show l.drop k = l[k] :: l.drop (k + 1) from List.drop_eq_getElem_cons hlt)
          have hlk := HU.out _ (List.getElem_mem hlt)
          clear hcell0
          cases hb : leB x o
          · have hA := fun w => below_is x o hx ho hb w
            have hJ := fun w => join_two o l[k] ho hlk w
            have hn := Lib.hid (show R = cov x (o ||| l[k]) (l.drop (k + 1)) by rw [HO.out, hd.out, cov_step hb])
            have hjl := or_lt ho hlk
            go_wp2_with (first | (go_at_call 25; refine (hA _).mono ?_; rintro e w' ⟨rfl, rfl⟩) | (go_at_call 22; refine (hJ _).mono ?_; rintro e w' ⟨rfl, rfl⟩))
            go_roundw
            case rel => exact ⟨k + 1, o ||| l[k], by omega, by go_num, by rfl, hjl, hn.out, bstep hB ((Below.refl _ _).alloc (Nat.le_refl _) _)⟩
            case measure => simp [intOf]; omega
          · have hRo : R = o := by rw [HO.out, cov_stop hb]
            have hA := fun w => below_is x o hx ho hb w
            subst hRo
            go_wp2_with (go_at_call 25; refine (hA _).mono ?_; rintro e w' ⟨rfl, rfl⟩)
            go_returns
            exact ⟨by rw [HX.out]; rfl, hB⟩
        · have hRo : R = o := by rw [HO.out, List.drop_of_length_le (by omega)]; rfl
          subst hRo
          go_wp2
          go_returns
          exact ⟨by rw [HX.out]; rfl, hB⟩
end Go.Proofs.Ytlembnpplnbagaa.Lt
