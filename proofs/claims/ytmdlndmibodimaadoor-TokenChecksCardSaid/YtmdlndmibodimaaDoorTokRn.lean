/- Walk: the document's own number of a token. -/
import Derived.Test.YtmdlndmibodimaaDoorTokVm
namespace Go.Proofs.YtmdlndmibodimaaDoor
open Go.RowKit
open Tk7

theorem rvalue_any (l : List UInt8) (hl : l.length ≤ 1000000) (hf : Sm.formB l = true) (w : World) :
    Calls Tryd.prog 42 #[.string (strOf l)] w fun e w' => e = .returned (.tuple #[.int .i64 (valR l).1, .bool (valR l).2]) ∧ w = w' := by
  obtain ⟨h1, _⟩ := Sm.form_split hf
  have hd : ∀ b ∈ Sm.restL l, digB b = true := Sm.digB_all h1
  have h0 : 0 < l.length := by
    cases l with
    | nil => simp [Sm.restL, Sm.minB, Sm.digB] at h1
    | cons b r => simp
  cases hm : Sm.minB l with
  | true => exact rvalue_min l h0 hl hm hd w
  | false => exact rvalue_dig l h0 hl hm hd w
set_option maxRecDepth 100000 in
set_option maxHeartbeats 4000000 in
theorem rnumb_any (K : Int) (l : List UInt8) (a lo hi : Int) (hl : l.length ≤ 1000000) (w : World) :
    Calls Tryd.prog 25 #[.agg #[.int .i64 K, .string (strOf l), .int .i64 a], .int .i64 lo, .int .i64 hi] w fun e w' => e = .returned (.tuple #[.int .i64 (numE (K, l, a) lo hi).1, .int .i64 (numE (K, l, a) lo hi).2]) ∧ Below w.heap.size w w' := by
  have hE : numE (K, l, a) lo hi = if ¬ checkI (K, l, a) = 0 then (0, checkI (K, l, a)) else if ¬ K = 3 then (0, 11) else if Sm.okI (Sm.valV l) = true ∧ lo ≤ Sm.valV l ∧ Sm.valV l ≤ hi then (Sm.valV l, 0) else (0, 2) := rfl
  have hC := fun w => rcheck_any K l a hl w
  have hT : checkI (K, l, a) = 0 → K = 3 → isTok 3 l = true := by
    intro h1 h2
    subst h2
    unfold checkI at h1
    simp only at h1
    rw [if_neg (by omega)] at h1
    cases ht : isTok 3 l with
    | true => rfl
    | false => rw [if_pos (show isTok (Int.toNat 3) l = false from ht)] at h1; exact absurd h1 (by decide)
  have hbx : ∀ w2 : World, Below (w.alloc (.cells #[.int .i64 K, .string (strOf l), .int .i64 a] 30)).heap.size (w.alloc (.cells #[.int .i64 K, .string (strOf l), .int .i64 a] 30)) w2 → Blk w2 w.heap.size [.int .i64 K, .string (strOf l), .int .i64 a] ∧ Below w.heap.size w w2 := fun w2 hb => ⟨(Blk.is _ rfl).later hb, bstep (below1 w _) hb⟩
  obtain ⟨c, hc⟩ : ∃ c, c = checkI (K, l, a) := ⟨_, rfl⟩
  rw [← hc] at hE hC hT
  clear hc
  by_cases h1 : c = 0
  · rw [if_neg (fun h => h h1)] at hE
    subst h1
    by_cases h2 : K = 3
    · rw [if_neg (fun h => h h2)] at hE
      have hP := fun w => rvalue_any l hl (tok3_form (hT rfl h2)) w
      subst h2
      obtain ⟨x, p, hxp⟩ : ∃ x p, valR l = (x, p) := ⟨_, _, rfl⟩
      obtain ⟨hv1, hv2⟩ := val_num x p hxp
      rw [hxp] at hP
      obtain ⟨v, hv⟩ : ∃ v, v = Sm.valV l := ⟨_, rfl⟩
      rw [← hv] at hE hv1 hv2
      simp only at hP
      obtain ⟨S, hS⟩ : ∃ S, S = strOf l := ⟨_, rfl⟩
      rw [← hS] at hC hbx hP ⊢
      clear hT hv hxp hS
      by_cases h3 : Sm.okI v = true
      · obtain ⟨rfl, rfl⟩ := hv1 h3
        clear hv1 hv2
        by_cases h4 : lo ≤ x
        · by_cases h5 : x ≤ hi
          · rw [if_pos ⟨h3, h4, h5⟩] at hE
            rw [hE]
            have n4 : ¬ x < lo := by omega
            have n5 : ¬ hi < x := by omega
            clear hE h3
            go_enter Tryd.func25, Tryd.ntmps25
            go_wp2_with (first | (go_at_call 27; refine (hC _).mono ?_; rintro e w2 ⟨rfl, hb2⟩; obtain ⟨hq, hB2⟩ := hbx w2 hb2; have c0 := hq.cell 0 _ rfl; have c1 := hq.cell 1 _ rfl; have c2 := hq.cell 2 _ rfl; have hql := hq.lt) | (go_at_call 42; refine (hP _).mono ?_; rintro e w3 ⟨rfl, rfl⟩))
            exact bodyPost_ret (v := .tuple #[.int .i64 x, .int .i64 0]) (by simp [results, Tryd.results25, go_sem]; try rfl) rfl ⟨rfl, hB2⟩
          · rw [if_neg (fun h => h5 h.2.2)] at hE
            rw [hE]
            have n4 : ¬ x < lo := by omega
            have n5 : hi < x := by omega
            clear hE h3
            go_enter Tryd.func25, Tryd.ntmps25
            go_wp2_with (first | (go_at_call 27; refine (hC _).mono ?_; rintro e w2 ⟨rfl, hb2⟩; obtain ⟨hq, hB2⟩ := hbx w2 hb2; have c0 := hq.cell 0 _ rfl; have c1 := hq.cell 1 _ rfl; have c2 := hq.cell 2 _ rfl; have hql := hq.lt) | (go_at_call 42; refine (hP _).mono ?_; rintro e w3 ⟨rfl, rfl⟩))
            exact bodyPost_ret (v := .tuple #[.int .i64 0, .int .i64 2]) (by simp [results, Tryd.results25, go_sem]; try rfl) rfl ⟨rfl, hB2⟩
        · rw [if_neg (fun h => h4 h.2.1)] at hE
          rw [hE]
          have n4 : x < lo := by omega
          clear hE h3
          go_enter Tryd.func25, Tryd.ntmps25
          go_wp2_with (first | (go_at_call 27; refine (hC _).mono ?_; rintro e w2 ⟨rfl, hb2⟩; obtain ⟨hq, hB2⟩ := hbx w2 hb2; have c0 := hq.cell 0 _ rfl; have c1 := hq.cell 1 _ rfl; have c2 := hq.cell 2 _ rfl; have hql := hq.lt) | (go_at_call 42; refine (hP _).mono ?_; rintro e w3 ⟨rfl, rfl⟩))
          exact bodyPost_ret (v := .tuple #[.int .i64 0, .int .i64 2]) (by simp [results, Tryd.results25, go_sem]; try rfl) rfl ⟨rfl, hB2⟩
      · have h3f : Sm.okI v = false := by simpa using h3
        rw [if_neg (fun h => h3 h.1)] at hE
        rw [hE]
        obtain rfl := hv2 h3f
        clear hE h3 hv1 hv2 h3f
        go_enter Tryd.func25, Tryd.ntmps25
        go_wp2_with (first | (go_at_call 27; refine (hC _).mono ?_; rintro e w2 ⟨rfl, hb2⟩; obtain ⟨hq, hB2⟩ := hbx w2 hb2; have c0 := hq.cell 0 _ rfl; have c1 := hq.cell 1 _ rfl; have c2 := hq.cell 2 _ rfl; have hql := hq.lt) | (go_at_call 42; refine (hP _).mono ?_; rintro e w3 ⟨rfl, rfl⟩))
        exact bodyPost_ret (v := .tuple #[.int .i64 0, .int .i64 2]) (by simp [results, Tryd.results25, go_sem]; try rfl) rfl ⟨rfl, hB2⟩
    · rw [if_pos h2] at hE
      rw [hE]
      have n2 : (K == 3) = false := by rw [beq_eq_false_iff_ne]; exact h2
      obtain ⟨S, hS⟩ : ∃ S, S = strOf l := ⟨_, rfl⟩
      rw [← hS] at hC hbx ⊢
      clear hE hT hS
      go_enter Tryd.func25, Tryd.ntmps25
      go_wp2_with (go_at_call 27; refine (hC _).mono ?_; rintro e w2 ⟨rfl, hb2⟩; obtain ⟨hq, hB2⟩ := hbx w2 hb2; have c0 := hq.cell 0 _ rfl; have c1 := hq.cell 1 _ rfl; have c2 := hq.cell 2 _ rfl; have hql := hq.lt)
      exact bodyPost_ret (v := .tuple #[.int .i64 0, .int .i64 11]) (by simp [results, Tryd.results25, go_sem]; try rfl) rfl ⟨rfl, hB2⟩
  · rw [if_pos h1] at hE
    rw [hE]
    have n1 : (c == 0) = false := by rw [beq_eq_false_iff_ne]; exact h1
    obtain ⟨S, hS⟩ : ∃ S, S = strOf l := ⟨_, rfl⟩
    rw [← hS] at hC hbx ⊢
    clear hE hT hS
    go_enter Tryd.func25, Tryd.ntmps25
    go_wp2_with (go_at_call 27; refine (hC _).mono ?_; rintro e w2 ⟨rfl, hb2⟩; obtain ⟨hq, hB2⟩ := hbx w2 hb2; have c0 := hq.cell 0 _ rfl; have c1 := hq.cell 1 _ rfl; have c2 := hq.cell 2 _ rfl; have hql := hq.lt)
    exact bodyPost_ret (v := .tuple #[.int .i64 0, .int .i64 c]) (by simp [results, Tryd.results25, go_sem]; try rfl) rfl ⟨rfl, hB2⟩
end Go.Proofs.YtmdlndmibodimaaDoor
