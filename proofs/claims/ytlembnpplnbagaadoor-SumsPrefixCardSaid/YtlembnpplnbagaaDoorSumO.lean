/- Walks: Running and Sum, the program's and the reference's. -/
import Derived.Test.YtlembnpplnbagaaDoorSumN
namespace Go.Proofs.YtlembnpplnbagaaDoor
open Go.RowKit Go.Shelf
open Sm

theorem runGo_facts (l : List Int) : ∀ n, ((runGo n l).2 = 0 ∧ (runGo n l).1.length = l.length) ∨ ((runGo n l).2 = 16 ∧ (runGo n l).1.length < l.length) := by
  induction l with
  | nil => intro n; exact .inl ⟨rfl, rfl⟩
  | cons x l ih =>
    intro n
    unfold runGo
    cases ho : okI (n + x)
    · rw [if_neg (by decide)]
      exact .inr ⟨rfl, by simp⟩
    · rw [if_pos rfl]
      rcases ih (n + x) with ⟨h1, h2⟩ | ⟨h1, h2⟩
      · exact .inl ⟨h1, by simp [h2]⟩
      · exact .inr ⟨h1, by simp; omega⟩
theorem run_facts (l : List Int) : (runE l = 0 ∧ (runI l).length = l.length) ∨ (runE l = 16 ∧ (runI l).length < l.length) := runGo_facts l 0
theorem run_le (l : List Int) : (runI l).length ≤ l.length := by rcases run_facts l with ⟨_, h⟩ | ⟨_, h⟩ <;> omega
/-- What Sum answers. -/
def sumN (l : List Int) : Int := if runE l = 0 then (runI l).getLastD 0 else 0
theorem sumN_nil {l : List Int} (h : l.length = 0) : sumN l = 0 ∧ runE l = 0 := by
  obtain rfl := List.eq_nil_of_length_eq_zero h
  exact ⟨rfl, rfl⟩
theorem sumN_bad {l : List Int} (h : runE l ≠ 0) : sumN l = 0 := by unfold sumN; rw [if_neg h]
theorem sumN_last {l R : List Int} (hR : R = runI l) (h : runE l = 0) (hp : 0 < R.length) : sumN l = R[R.length - 1]'(by omega) := by
  subst hR
  unfold sumN
  rw [if_pos h, List.getLastD_eq_getLast?, List.getLast?_eq_getElem?, List.getElem?_eq_getElem (by omega)]
  rfl
set_option maxRecDepth 100000 in
theorem sum_any (v : Value) (l : List Int) (w : World) (h : Slc w v (vals .i64 l)) (hl : ∀ x ∈ l, okI x = true) (hn : l.length ≤ 1000) :
    Calls Tryd.prog 22 #[v] w fun e w' => e = .returned (.tuple #[.int .i64 (sumN l), .int .i64 (runE l)]) ∧ Below w.heap.size w w' := by
  have hr := running_any v l w h hl hn
  have hf := run_facts l
  obtain ⟨R, hR⟩ : ∃ R, R = runI l := ⟨_, rfl⟩
  have hlast := sumN_last hR
  have hbad := sumN_bad (l := l)
  have hnil := sumN_nil (l := l)
  rw [← hR] at hr hf
  clear hR
  obtain ⟨c, hc⟩ : ∃ c, c = runE l := ⟨_, rfl⟩
  obtain ⟨S, hS⟩ : ∃ S, S = sumN l := ⟨_, rfl⟩
  rw [← hc] at hr hf hlast hbad hnil ⊢
  rw [← hS] at hlast hbad hnil ⊢
  clear hS hc h hl
  rcases hf with ⟨rfl, hlen⟩ | ⟨rfl, hlen⟩
  · by_cases h0 : l.length = 0
    · have hR : R.length = 0 := by omega
      have hS := (hnil h0).1
      subst hS
      clear hlast hbad hnil h0 hlen
      go_enter Tryd.func22, Tryd.ntmps22
      go_wp2_with fail
      refine hr.mono ?_
      rintro e w1 ⟨v1, rfl, hs, hb⟩
      obtain ⟨A, cap, rfl, hm, hc⟩ := hs.ints
      rw [hR]
      clear hs hc hm
      go_wp2
      go_ret2
      exact ⟨rfl, hb⟩
    · have hp : 0 < R.length := by omega
      have hS := hlast rfl hp
      have HS := Lib.hid hS
      clear hlast hbad hnil h0 hlen hS
      go_enter Tryd.func22, Tryd.ntmps22
      go_wp2_with fail
      refine hr.mono ?_
      rintro e w1 ⟨v1, rfl, hs, hb⟩
      obtain ⟨A, cap, rfl, hm, hc⟩ := hs.ints
      obtain ⟨a, rfl, hab, hcell⟩ := hc (R.length - 1) (by omega)
      rw [← HS.out] at hcell
      have z0 : ((R.length : Int) == 0) = false := by rw [beq_eq_false_iff_ne]; omega
      have z1 : ¬ (R.length = 0) := by omega
      have z2 : ¬ (R = []) := fun e => by rw [e] at hp; exact absurd hp (by decide)
      clear hs hc hab
      go_wp2
      go_ret2
      exact ⟨rfl, hb⟩
  · have hS := hbad (by decide)
    subst hS
    clear hlast hbad hnil hlen
    go_enter Tryd.func22, Tryd.ntmps22
    go_wp2_with fail
    refine hr.mono ?_
    rintro e w1 ⟨v1, rfl, hs, hb⟩
    clear hs
    go_wp2
    go_ret2
    exact ⟨rfl, hb⟩
set_option maxRecDepth 100000 in
theorem refSum_any (v : Value) (l : List Int) (w : World) (h : Slc w v (vals .i64 l)) (hl : ∀ x ∈ l, okI x = true) (hn : l.length ≤ 1000) :
    Calls Tryd.prog 23 #[v] w fun e w' => e = .returned (.tuple #[.int .i64 (sumN l), .int .i64 (runE l)]) ∧ Below w.heap.size w w' := by
  have hr := refRunning_any v l w h hl hn
  have hf := run_facts l
  obtain ⟨R, hR⟩ : ∃ R, R = runI l := ⟨_, rfl⟩
  have hlast := sumN_last hR
  have hbad := sumN_bad (l := l)
  have hnil := sumN_nil (l := l)
  obtain ⟨A0, cap0, rfl, hm0, _⟩ := h.ints
  rw [← hR] at hr hf
  clear hR
  obtain ⟨c, hc⟩ : ∃ c, c = runE l := ⟨_, rfl⟩
  obtain ⟨S, hS⟩ : ∃ S, S = sumN l := ⟨_, rfl⟩
  rw [← hc] at hr hf hlast hbad hnil ⊢
  rw [← hS] at hlast hbad hnil ⊢
  clear hS hc h hl
  rcases hf with ⟨rfl, hlen⟩ | ⟨rfl, hlen⟩
  · by_cases h0 : l.length = 0
    · have hS := (hnil h0).1
      subst hS
      rw [h0] at hr ⊢
      clear hlast hbad hnil h0 hlen
      go_enter Tryd.func23, Tryd.ntmps23
      go_wp2_with fail
      refine hr.mono ?_
      rintro e w1 ⟨v1, rfl, hs, hb⟩
      clear hs
      go_wp2
      go_ret2
      exact ⟨rfl, hb⟩
    · have hp : 0 < R.length := by omega
      have hS := hlast rfl hp
      have HS := Lib.hid hS
      have z0 : ((l.length : Int) == 0) = false := by rw [beq_eq_false_iff_ne]; omega
      have z1 : ¬ (l.length = 0) := h0
      have z2 : ¬ (l = []) := fun e => h0 (by rw [e]; rfl)
      clear hlast hbad hnil h0 hlen hS
      go_enter Tryd.func23, Tryd.ntmps23
      go_wp2_with fail
      refine hr.mono ?_
      rintro e w1 ⟨v1, rfl, hs, hb⟩
      obtain ⟨A, cap, rfl, hm, hc⟩ := hs.ints
      obtain ⟨a, rfl, hab, hcell⟩ := hc (R.length - 1) (by omega)
      rw [← HS.out] at hcell
      clear hs hc hab
      go_wp2
      go_ret2
      exact ⟨rfl, hb⟩
  · have hS := hbad (by decide)
    subst hS
    clear hlast hbad hnil hlen
    go_enter Tryd.func23, Tryd.ntmps23
    go_wp2_with fail
    refine hr.mono ?_
    rintro e w1 ⟨v1, rfl, hs, hb⟩
    clear hs
    go_wp2
    go_ret2
    exact ⟨rfl, hb⟩
theorem sumRunning_any (v : Value) (l : List Int) (w : World) (h : Slc w v (vals .i64 l)) (hl : ∀ x ∈ l, okI x = true) (hn : l.length ≤ 1000) :
    Calls Tryd.prog 24 #[v] w (Out5 w (vals .i64 (runI l)) (runE l)) := by
  have hr := running_any v l w h hl hn
  obtain ⟨us, hus⟩ : ∃ us, us = vals .i64 (runI l) := ⟨_, rfl⟩
  obtain ⟨c, hc⟩ : ∃ c, c = runE l := ⟨_, rfl⟩
  rw [← hus, ← hc] at hr ⊢
  clear hus hc h hl hn
  go_enter Tryd.func24, Tryd.ntmps24
  go_wp2_with fail
  refine hr.mono ?_
  rintro e w1 ⟨v1, rfl, hs, hb⟩
  go_wp2
  go_ret2
  exact Out5.of _ rfl hs hb
end Go.Proofs.YtlembnpplnbagaaDoor
