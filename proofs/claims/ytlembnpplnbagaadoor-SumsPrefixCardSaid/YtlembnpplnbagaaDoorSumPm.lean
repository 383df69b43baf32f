/- Running sums of beginnings, and of a list with one number more. -/
import Derived.Test.YtlembnpplnbagaaDoorSumO
namespace Go.Proofs.YtlembnpplnbagaaDoor
open Go.RowKit
open Sm

theorem runGo_take (l : List Int) : ∀ (n : Int) (k : Nat), k ≤ (runGo n l).1.length → runGo n (l.take k) = ((runGo n l).1.take k, 0) := by
  induction l with
  | nil => intro n k _; simp [runGo]
  | cons x l ih =>
    intro n k hk
    cases k with
    | zero => simp [runGo]
    | succ k =>
      unfold runGo at hk ⊢
      rw [List.take_succ_cons]
      cases ho : okI (n + x)
      · rw [ho, if_neg (by decide)] at hk
        simp at hk
      · rw [ho, if_pos rfl] at hk
        have h := ih (n + x) k (by simpa using hk)
        simp only [ho, if_true]
        rw [h]
        simp
theorem run_take {l : List Int} {k : Nat} (hk : k < (runI l).length) : runE (l.take (k + 1)) = 0 ∧ sumN (l.take (k + 1)) = (runI l)[k] := by
  have h := runGo_take l 0 (k + 1) hk
  have h1 : runI (l.take (k + 1)) = (runI l).take (k + 1) := by show (runGo 0 (l.take (k + 1))).1 = _; rw [h]; rfl
  have h2 : runE (l.take (k + 1)) = 0 := by show (runGo 0 (l.take (k + 1))).2 = _; rw [h]
  refine ⟨h2, ?_⟩
  have hl : ((runI l).take (k + 1)).length = k + 1 := by rw [List.length_take]; omega
  rw [sumN_last (h1.symm) h2 (by rw [hl]; omega)]
  simp [hl]
theorem runGo_snoc (l : List Int) (n : Int) : ∀ (m : Int), (runGo m l).2 = 0 →
    runGo m (l ++ [n]) = if okI ((runGo m l).1.getLastD m + n) = true then ((runGo m l).1 ++ [(runGo m l).1.getLastD m + n], 0) else ((runGo m l).1, 16) := by
  induction l with
  | nil => intro m _; simp [runGo]
  | cons x l ih =>
    intro m h0
    unfold runGo at h0 ⊢
    rw [List.cons_append]
    cases ho : okI (m + x)
    · rw [ho, if_neg (by decide)] at h0
      cases h0
    · rw [ho, if_pos rfl] at h0
      have h := ih (m + x) h0
      simp only [ho, if_true]
      rw [h]
      have e : ((m + x) :: (runGo (m + x) l).1).getLastD m = (runGo (m + x) l).1.getLastD (m + x) := by
        cases (runGo (m + x) l).1 with
        | nil => rfl
        | cons y ys => rfl
      rw [e]
      split <;> simp
theorem run_snoc {l : List Int} {n : Int} (h0 : runE l = 0) : runE (l ++ [n]) = errI (sumN l + n) ∧ sumN (l ++ [n]) = numI (sumN l + n) := by
  have h := runGo_snoc l n 0 h0
  have hs : (runGo 0 l).1.getLastD 0 = sumN l := by unfold sumN; rw [if_pos h0]; rfl
  rw [hs] at h
  cases ho : okI (sumN l + n)
  · rw [ho, if_neg (by decide)] at h
    have hE : runE (l ++ [n]) = 16 := by show (runGo 0 (l ++ [n])).2 = _; rw [h]
    exact ⟨by rw [hE, errI_no ho], by rw [sumN_bad (by rw [hE]; decide), numI_no ho]⟩
  · rw [ho, if_pos rfl] at h
    have hE : runE (l ++ [n]) = 0 := by show (runGo 0 (l ++ [n])).2 = _; rw [h]
    have hI : runI (l ++ [n]) = (runGo 0 l).1 ++ [sumN l + n] := by show (runGo 0 (l ++ [n])).1 = _; rw [h]
    refine ⟨by rw [hE, errI_ok ho], ?_⟩
    unfold sumN
    rw [if_pos hE, hI, List.getLastD_concat, numI_ok (by exact ho)]
    unfold sumN at ho
    rfl
theorem runGo_ok (l : List Int) : ∀ m, ∀ x ∈ (runGo m l).1, okI x = true := by
  induction l with
  | nil => intro m x hx; simp [runGo] at hx
  | cons y l ih =>
    intro m x hx
    unfold runGo at hx
    cases ho : okI (m + y)
    · rw [ho, if_neg (by decide)] at hx
      simp at hx
    · rw [ho, if_pos rfl] at hx
      rcases List.mem_cons.1 hx with rfl | hx
      · exact ho
      · exact ih _ x hx
theorem sumN_ok (l : List Int) : okI (sumN l) = true := by
  unfold sumN
  split
  · cases e : runI l with
    | nil => decide
    | cons x xs =>
      have h : ∀ z ∈ runI l, okI z = true := runGo_ok l 0
      rw [e] at h
      exact h _ (by rw [List.getLastD_cons]; exact List.getLastD_mem_cons)
  · decide
theorem slc_take {w : World} {a : Addr} {n cap k : Nat} {l : List Int} (h : Slc w (.slice (some a) n cap) (vals .i64 l)) (hk : k ≤ l.length) : Slc w (.slice (some a) k cap) (vals .i64 (l.take k)) := by
  obtain ⟨A, cap', e, hl, hz, hc⟩ := h
  obtain ⟨rfl, hn, rfl⟩ := Value.slice.inj e
  have hlen : (vals .i64 (l.take k)).length = k := by simp [vals]; omega
  rw [vals_length] at hl
  refine ⟨some a, cap, by rw [hlen], by rw [hlen]; omega, (fun h => by cases h), fun i hi => ?_⟩
  rw [hlen] at hi
  obtain ⟨a', ha, hb, hcell⟩ := hc i (by rw [vals_length]; omega)
  refine ⟨a', ha, hb, ?_⟩
  rw [hcell, vals_get, vals_get]
  simp
end Go.Proofs.YtlembnpplnbagaaDoor
