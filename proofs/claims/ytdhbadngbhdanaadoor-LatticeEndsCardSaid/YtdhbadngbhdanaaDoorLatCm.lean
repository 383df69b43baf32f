/- Chains and heights of a family whose labels stand in an order in which the number of categories does not go down. Nothing here speaks of the program. -/
import Derived.Test.YtdhbadngbhdanaaDoorLatCn
import Derived.Test.YtdhbadngbhdanaaDoorLatB
import Derived.Test.YtdhbadngbhdanaaDoorLatC
import Derived.Test.YtdhbadngbhdanaaDoorLatI
namespace Go.Proofs.YtdhbadngbhdanaaDoor.Lt

theorem chain_iff {l : List Nat} : chainB l = true ↔ ∀ x ∈ l, ∀ y ∈ l, leB x y = true ∨ leB y x = true := by
  unfold chainB
  rw [List.all_eq_true]
  constructor
  · intro h x hx y hy
    have := List.all_eq_true.1 (h x hx) y hy
    simpa using this
  · intro h x hx
    rw [List.all_eq_true]
    intro y hy
    simpa using h x hx y hy
theorem chain_perm {r l : List Nat} (h : r.Perm l) : chainB r = chainB l := by
  have : chainB r = true ↔ chainB l = true := by
    rw [chain_iff, chain_iff]
    constructor
    · intro k x hx y hy; exact k x (h.mem_iff.2 hx) y (h.mem_iff.2 hy)
    · intro k x hx y hy; exact k x (h.mem_iff.1 hx) y (h.mem_iff.1 hy)
  cases h1 : chainB r <;> cases h2 : chainB l <;> simp_all
/-- Each label at most the next one: a chain. -/
theorem steps_chain {r : List Nat} (h : ∀ j, j + 1 < r.length → leB (r.getD j 0) (r.getD (j + 1) 0) = true) : chainB r = true := by
  have up : ∀ d i, i + d < r.length → leB (r.getD i 0) (r.getD (i + d) 0) = true := by
    intro d
    induction d with
    | zero => intro i _; exact leB_refl _
    | succ d ih => intro i hi; exact leB_trans (ih i (by omega)) (h (i + d) (by omega))
  rw [chain_iff]
  intro x hx y hy
  obtain ⟨i, hi, rfl⟩ := mem_getD hx
  obtain ⟨j, hj, rfl⟩ := mem_getD hy
  by_cases hij : i ≤ j
  · exact .inl (by have := up (j - i) i (by omega); rwa [show i + (j - i) = j by omega] at this)
  · exact .inr (by have := up (i - j) j (by omega); rwa [show j + (i - j) = i by omega] at this)
theorem ordered {r : List Nat} (ho : r.Pairwise fun a b => pc a ≤ pc b) {i j : Nat} (hi : i < r.length) (hj : j < r.length) (h : pc (r.getD i 0) < pc (r.getD j 0)) : i < j := by
  rw [getD_at hi, getD_at hj] at h
  by_cases hij : i < j
  · exact hij
  · by_cases e : i = j
    · subst e; omega
    · have := List.pairwise_iff_getElem.1 ho j i hj hi (by omega)
      omega
theorem step_no {r : List Nat} (ho : r.Pairwise fun a b => pc a ≤ pc b) {j : Nat} (hj : j + 1 < r.length) (h : leB (r.getD j 0) (r.getD (j + 1) 0) = false) : chainB r = false := by
  cases hc : chainB r
  · rfl
  · rw [chain_iff] at hc
    rcases hc _ (getD_mem (l := r) (i := j) (by omega)) _ (getD_mem (l := r) (i := j + 1) hj) with e | e
    · rw [e] at h; cases h
    · have hne : r.getD (j + 1) 0 ≠ r.getD j 0 := fun e2 => by rw [e2, leB_refl] at h; cases h
      have := ordered ho hj (by omega) (pc_lt (ltB_iff.2 ⟨hne, e⟩))
      omega

theorem sup_same {a b : List Nat} (h : ∀ z, z ∈ a ↔ z ∈ b) : sup a = sup b :=
  Nat.le_antisymm (sup_le.2 fun x hx => le_sup ((h x).1 hx)) (sup_le.2 fun x hx => le_sup ((h x).2 hx))
theorem hgt_perm {r l : List Nat} (h : r.Perm l) : ∀ x, hgt r x = hgt l x := by
  intro x
  induction x using Nat.strongRecOn with
  | ind x ih =>
    rw [hgt_eq r x, hgt_eq l x]
    congr 1
    refine sup_same fun z => ?_
    rw [List.mem_map, List.mem_map]
    constructor
    · rintro ⟨y, hy, rfl⟩
      obtain ⟨h1, h2⟩ := List.mem_filter.1 hy
      exact ⟨y, List.mem_filter.2 ⟨h.mem_iff.1 h1, h2⟩, (ih y (ltB_lt h2)).symm⟩
    · rintro ⟨y, hy, rfl⟩
      obtain ⟨h1, h2⟩ := List.mem_filter.1 hy
      exact ⟨y, List.mem_filter.2 ⟨h.mem_iff.2 h1, h2⟩, ih y (ltB_lt h2)⟩
theorem height_perm {r l : List Nat} (h : r.Perm l) : heightL r = heightL l := by
  unfold heightL
  refine sup_same fun z => ?_
  rw [List.mem_map, List.mem_map]
  constructor
  · rintro ⟨y, hy, rfl⟩; exact ⟨y, h.mem_iff.1 hy, (hgt_perm h y).symm⟩
  · rintro ⟨y, hy, rfl⟩; exact ⟨y, h.mem_iff.2 hy, hgt_perm h y⟩
/-- The number found from the labels before it is the height. -/
theorem hgt_done {r : List Nat} (ho : r.Pairwise fun a b => pc a ≤ pc b) {i c : Nat} (hi : i < r.length) (h1 : 1 ≤ c) (h2 : c ≤ hgt r (r.getD i 0)) (h3 : ∀ j, j < i → ltB (r.getD j 0) (r.getD i 0) = true → hgt r (r.getD j 0) + 1 ≤ c) : c = hgt r (r.getD i 0) := by
  rcases hgt_cases r (r.getD i 0) with ⟨y, hy, hlt, e⟩ | ⟨e, _⟩
  · obtain ⟨k, hk, rfl⟩ := mem_getD hy
    have hki := ordered ho hk hi (pc_lt hlt)
    have := h3 k hki hlt
    omega
  · omega
theorem sup_take {r : List Nat} {i : Nat} (hi : i < r.length) : sup ((r.take (i + 1)).map (hgt r)) = max (sup ((r.take i).map (hgt r))) (hgt r (r.getD i 0)) := by
  rw [take_snoc r i hi, List.map_append, List.map_cons, List.map_nil, sup_snoc, getD_at hi]
end Go.Proofs.YtdhbadngbhdanaaDoor.Lt
