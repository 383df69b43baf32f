/- Walks: how Ids are compared; the event of a stored one. -/
import Derived.Test.YtcmdndgaggbhoaaDoorEventA
namespace Go.Proofs.YtcmdndgaggbhoaaDoor.Ev
open Go.RowKit
def beforeB (a m b n : Int) : Bool := decide (a < b ∨ a = b ∧ m < n)
theorem cmpI_before {a m b n : Int} (h : ¬ (a = b ∧ m = n)) : cmpI a m b n = if beforeB a m b n = true then -1 else 1 := by
  unfold cmpI beforeB
  rw [if_neg h]
  simp
theorem before_any (a m b n : Int) (w : World) :
    Calls Tryd.prog 42 #[idv a m, idv b n] w fun e w' => e = .returned (.bool (beforeB a m b n)) ∧ Below w.heap.size w w' := by
  unfold idv
  by_cases h1 : a = b
  · subst h1
    go_enter Tryd.func42, Tryd.ntmps42
    go_wp2
    go_ret
    exact ⟨ret_bool (by simp [beforeB]), by go_grown⟩
  · go_enter Tryd.func42, Tryd.ntmps42
    go_wp2
    go_ret
    exact ⟨ret_bool (by simp [beforeB, h1]), by go_grown⟩
theorem before_is {a m b n : Int} {t : Bool} (ht : beforeB a m b n = t) (w : World) :
    Calls Tryd.prog 42 #[idv a m, idv b n] w fun e w' => e = .returned (.bool t) ∧ Below w.heap.size w w' := ht ▸ before_any a m b n w
theorem compare_any (a m b n : Int) (w : World) :
    Calls Tryd.prog 24 #[idv a m, idv b n] w fun e w' => e = .returned (.int .i64 (cmpI a m b n)) ∧ Below w.heap.size w w' := by
  by_cases h : a = b ∧ m = n
  · obtain ⟨rfl, rfl⟩ := h
    rw [show cmpI a m a m = 0 by simp [cmpI]]
    unfold idv
    go_enter Tryd.func24, Tryd.ntmps24
    go_wp2
    go_ret
    exact ⟨rfl, by go_grown⟩
  · have hv := cmpI_before h
    obtain ⟨t, ht⟩ : ∃ t, beforeB a m b n = t := ⟨_, rfl⟩
    have hb := @before_is a m b n t ht
    rw [ht] at hv
    rw [hv]
    clear hv ht
    unfold idv at hb ⊢
    by_cases h1 : a = b
    · subst h1
      have h2 : ¬ m = n := fun e => h ⟨rfl, e⟩
      clear h
      cases t
      all_goals
        go_enter Tryd.func24, Tryd.ntmps24
        go_wp2_with (fail)
        refine (hb _).mono ?_
        rintro e w1 ⟨rfl, hb1⟩
        go_wp2
        go_ret
        exact ⟨rfl, bstep (by go_grown) hb1⟩
    · clear h
      cases t
      all_goals
        go_enter Tryd.func24, Tryd.ntmps24
        go_wp2_with (fail)
        refine (hb _).mono ?_
        rintro e w1 ⟨rfl, hb1⟩
        go_wp2
        go_ret
        exact ⟨rfl, bstep (by go_grown) hb1⟩
theorem refCompare_any (a m b n : Int) (w : World) :
    Calls Tryd.prog 25 #[idv a m, idv b n] w fun e w' => e = .returned (.int .i64 (cmpI a m b n)) ∧ Below w.heap.size w w' := by
  unfold idv
  by_cases h1 : a = b
  · subst h1
    by_cases h2 : m = n
    · subst h2
      rw [show cmpI a m a m = 0 by simp [cmpI]]
      go_enter Tryd.func25, Tryd.ntmps25
      go_wp2
      go_ret
      exact ⟨rfl, by go_grown⟩
    · by_cases h3 : m < n
      · rw [show cmpI a m a n = -1 by simp [cmpI, h2, h3]]
        go_enter Tryd.func25, Tryd.ntmps25
        go_wp2
        go_ret
        exact ⟨rfl, by go_grown⟩
      · rw [show cmpI a m a n = 1 by simp [cmpI, h2, h3]]
        go_enter Tryd.func25, Tryd.ntmps25
        go_wp2
        go_ret
        exact ⟨rfl, by go_grown⟩
  · by_cases h3 : a < b
    · rw [show cmpI a m b n = -1 by simp [cmpI, h1, h3]]
      go_enter Tryd.func25, Tryd.ntmps25
      go_wp2
      go_ret
      exact ⟨rfl, by go_grown⟩
    · rw [show cmpI a m b n = 1 by simp [cmpI, h1, h3]]
      go_enter Tryd.func25, Tryd.ntmps25
      go_wp2
      go_ret
      exact ⟨rfl, by go_grown⟩
theorem evOf_any (l n o t k v : Int) (w : World) :
    Calls Tryd.prog 22 #[stv l n o t k v] w fun e w' => e = .returned (ev l k v) ∧ Below w.heap.size w w' := by
  unfold stv ev
  go_enter Tryd.func22, Tryd.ntmps22
  go_wp2
  refine bodyPost_ret (by simp [results, Tryd.results22, go_sem]; try rfl) rfl ⟨rfl, ?_⟩
  go_grown
theorem refEvOf_any (l n o t k v : Int) (w : World) :
    Calls Tryd.prog 23 #[stv l n o t k v] w fun e w' => e = .returned (ev l k v) ∧ Below w.heap.size w w' := by
  unfold stv ev
  go_enter Tryd.func23, Tryd.ntmps23
  go_wp2
  refine bodyPost_ret (by simp [results, Tryd.results23, go_sem]; try rfl) rfl ⟨rfl, ?_⟩
  go_grown
theorem some_any (w : World) :
    Calls Tryd.prog 28 #[] w fun e w' => e = .returned (ev 257 2 (-2)) ∧ Below w.heap.size w w' := by
  unfold ev
  go_enter Tryd.func28, Tryd.ntmps28
  go_wp2
  refine bodyPost_ret (by simp [results, Tryd.results28, go_sem]; try rfl) rfl ⟨rfl, ?_⟩
  go_grown
theorem made_any (l k v : Int) (h0 : 0 ≤ k) (h1 : k ≤ 255) (w : World) :
    Calls Tryd.prog 26 #[.int .u64 l, .int .u8 k, .int .i64 v] w fun e w' => e = .returned (ev l (k % 26) v) ∧ Below w.heap.size w w' := by
  unfold ev
  go_enter Tryd.func26, Tryd.ntmps26
  go_wp2
  refine bodyPost_ret (by simp [results, Tryd.results26, go_sem]; try rfl) rfl ⟨rfl, ?_⟩
  go_grown
end Go.Proofs.YtcmdndgaggbhoaaDoor.Ev
