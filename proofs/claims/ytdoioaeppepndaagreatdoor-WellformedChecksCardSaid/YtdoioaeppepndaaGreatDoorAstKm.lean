/- Parts of a query: what is known of them. Nothing here speaks of the program. -/
import Derived.Test.YtdoioaeppepndaaGreatDoorAstV
namespace Go.Proofs.YtdoioaeppepndaaGreatDoor.A8
theorem subs_len (n : Nd) : (subsN n).length = nodesN n := by
  refine Nd.ind (P := fun n => (subsN n).length = nodesN n) (fun k mn mx a ks ih => ?_) n
  have h : ∀ l : List Nd, (∀ t ∈ l, (subsN t).length = nodesN t) → (subsL l).length = nodesL l := fun l => by
    induction l with
    | nil => intro _; rfl
    | cons t ts iht =>
      intro hl
      rw [subsL, nodesL, List.length_append, hl t (by simp), iht (fun u hu => hl u (List.mem_cons_of_mem _ hu))]
  rw [subsN, nodesN, List.length_cons, h ks ih]
  omega
theorem subsL_flat (l : List Nd) : subsL l = l.flatMap subsN := by
  induction l with
  | nil => rfl
  | cons n ns ih => rw [subsL, ih, List.flatMap_cons]
theorem depth_le (n : Nd) : 1 ≤ depthN n ∧ depthN n ≤ nodesN n := by
  refine Nd.ind (P := fun n => 1 ≤ depthN n ∧ depthN n ≤ nodesN n) (fun k mn mx a ks ih => ?_) n
  have h : ∀ l : List Nd, (∀ t ∈ l, 1 ≤ depthN t ∧ depthN t ≤ nodesN t) → depthL l ≤ nodesL l := fun l => by
    induction l with
    | nil => intro _; exact Nat.le_refl _
    | cons t ts iht =>
      intro hl
      have h1 := hl t (by simp)
      have h2 := iht (fun u hu => hl u (List.mem_cons_of_mem _ hu))
      rw [depthL, nodesL]
      omega
  have := h ks ih
  rw [depthN, nodesN]
  omega
theorem sound_mono (n : Nd) : ∀ d d' : Nat, d' ≤ d → soundN d n = true → soundN d' n = true := by
  refine Nd.ind (P := fun n => ∀ d d' : Nat, d' ≤ d → soundN d n = true → soundN d' n = true) (fun k mn mx a ks ih => ?_) n
  intro d d' hd h
  rw [soundN, soundL_all] at h ⊢
  simp only [Bool.and_eq_true, decide_eq_true_eq, List.all_eq_true] at h ⊢
  exact ⟨⟨Nat.le_trans hd h.1.1, h.1.2⟩, fun t ht => ih t ht (d + 1) (d' + 1) (by omega) (h.2 t ht)⟩
theorem sound_kid {k mn mx : Int} {a : At} {ks : List Nd} (h : soundN 1 (.mk k mn mx a ks) = true) (t : Nd) (ht : t ∈ ks) : soundN 1 t = true := by
  rw [soundN, soundL_all] at h
  simp only [Bool.and_eq_true, List.all_eq_true] at h
  exact sound_mono t 2 1 (by omega) (h.2 t ht)
theorem leaves_one (k mn mx : Int) (a : At) : leavesN (.mk k mn mx a []) = [.mk k mn mx a []] := rfl
theorem leaves_flat (k mn mx : Int) (a : At) (ks : List Nd) (h : ks ≠ []) : leavesN (.mk k mn mx a ks) = ks.flatMap leavesN := by
  have h1 : ks.isEmpty = false := by cases ks with
    | nil => exact absurd rfl h
    | cons x xs => rfl
  unfold leavesN
  rw [subsN, List.filter_cons]
  show (if ks.isEmpty = true then _ else _) = _
  rw [h1, if_neg (by simp), subsL_flat, List.filter_flatMap]
/-- Few nodes: none of them is big. -/
theorem few_subs (n : Nd) : ∀ left d : Int, 0 ≤ left → 0 ≤ fewN left d n → (∀ t ∈ subsN n, t.atom.cs.length ≤ 20 ∧ t.atom.nm.length ≤ 30) ∧ fewN left d n + (nodesN n : Int) ≤ left := by
  refine Nd.ind (P := fun n => ∀ left d : Int, 0 ≤ left → 0 ≤ fewN left d n → (∀ t ∈ subsN n, t.atom.cs.length ≤ 20 ∧ t.atom.nm.length ≤ 30) ∧ fewN left d n + (nodesN n : Int) ≤ left) (fun k mn mx a ks ih => ?_) n
  intro left d h0 hf
  have hl : ∀ l : List Nd, (∀ t ∈ l, ∀ left d : Int, 0 ≤ left → 0 ≤ fewN left d t → (∀ t' ∈ subsN t, t'.atom.cs.length ≤ 20 ∧ t'.atom.nm.length ≤ 30) ∧ fewN left d t + (nodesN t : Int) ≤ left) →
      ∀ L d : Int, 0 ≤ fewL L d l → (∀ t ∈ subsL l, t.atom.cs.length ≤ 20 ∧ t.atom.nm.length ≤ 30) ∧ fewL L d l + (nodesL l : Int) ≤ L := fun l => by
    induction l with
    | nil =>
      intro _ L d _
      rw [fewL, subsL, nodesL]
      exact ⟨fun t ht => (by cases ht), by omega⟩
    | cons t ts iht =>
      intro hl L d hF
      rw [fewL] at hF ⊢
      by_cases hL : L < 0
      · rw [if_pos hL] at hF; omega
      · rw [if_neg hL] at hF ⊢
        have h2 := iht (fun u hu => hl u (List.mem_cons_of_mem _ hu)) (fewN L d t) d hF
        have hN : 0 ≤ fewN L d t := by omega
        have h1 := hl t (by simp) L d (by omega) hN
        rw [subsL, nodesL]
        refine ⟨fun u hu => ?_, by have a1 := h1.2; have a2 := h2.2; omega⟩
        rcases List.mem_append.1 hu with hu | hu
        · exact h1.1 u hu
        · exact h2.1 u hu
  rw [fewN] at hf ⊢
  by_cases hc : left - 1 < 0 ∨ 210 < d ∨ 20 < a.cs.length ∨ 30 < a.nm.length
  · rw [if_pos hc] at hf; omega
  · rw [if_neg hc] at hf ⊢
    have h1 := hl ks ih (left - 1) (d + 1) hf
    rw [subsN, nodesN]
    refine ⟨fun u hu => ?_, by have a1 := h1.2; omega⟩
    rcases List.mem_cons.1 hu with rfl | hu
    · exact ⟨by show a.cs.length ≤ 20; omega, by show a.nm.length ≤ 30; omega⟩
    · exact h1.1 u hu
theorem few_tr (T : Tr) (left : Int) (h0 : 0 ≤ left) (h : 0 ≤ fewN left 1 T.nd) : (subsT T).length ≤ left.toNat ∧ ∀ t ∈ subsT T, t.nd.atom.cs.length ≤ 20 ∧ t.nd.atom.nm.length ≤ 30 := by
  have h1 := few_subs T.nd left 1 h0 h
  have h2 : (subsT T).length = nodesN T.nd := by rw [← subs_len, ← subsT_nd, List.length_map]
  refine ⟨by have := h1.2; omega, fun t ht => h1.1 _ ?_⟩
  rw [← subsT_nd]
  exact List.mem_map_of_mem ht
end Go.Proofs.YtdoioaeppepndaaGreatDoor.A8
