/- Heights, found round by round: what a list of heights keeps, and when it is right. Nothing here speaks of the program. -/
import Derived.Test.YtdhbadngbhdanaaDoorLatSpec
namespace Go.Proofs.YtdhbadngbhdanaaDoor.Lt

/-- H holds no number that is too great, and o is the greatest of them or more, but no more than the height. -/
structure Inv (l H : List Nat) (o : Nat) : Prop where
  len : H.length = l.length
  le : ∀ i, i < l.length → H.getD i 0 ≤ hgt l (l.getD i 0)
  out : o ≤ heightL l
  all : ∀ i, i < l.length → H.getD i 0 ≤ o
/-- The number at i needs no raise. -/
def Fix (l H : List Nat) (i : Nat) : Prop := 1 ≤ H.getD i 0 ∧ ∀ k, k < l.length → ltB (l.getD k 0) (l.getD i 0) = true → H.getD k 0 + 1 ≤ H.getD i 0
theorem hgt_le_height {l : List Nat} {i : Nat} (h : i < l.length) : hgt l (l.getD i 0) ≤ heightL l := le_sup (List.mem_map.2 ⟨_, getD_mem h, rfl⟩)
theorem inv_exit {l H : List Nat} {o : Nat} (h : Inv l H o) (hf : ∀ i, i < l.length → Fix l H i) : o = heightL l := by
  have key : ∀ x, ∀ i, i < l.length → l.getD i 0 = x → hgt l x ≤ H.getD i 0 := by
    intro x
    induction x using Nat.strongRecOn with
    | ind x ih =>
      intro i hi e
      obtain ⟨f1, f2⟩ := hf i hi
      rcases hgt_cases l x with ⟨y, hy, hlt, e2⟩ | ⟨e2, _⟩
      · obtain ⟨k, hk, ek⟩ := mem_getD hy
        have h1 := ih y (ltB_lt hlt) k hk ek
        have h2 := f2 k hk (by rw [ek, e]; exact hlt)
        omega
      · omega
  have h2 : heightL l ≤ o := by
    unfold heightL
    rw [sup_le]
    intro z hz
    obtain ⟨x, hx, rfl⟩ := List.mem_map.1 hz
    obtain ⟨i, hi, e⟩ := mem_getD hx
    have := key x i hi e
    have := h.all i hi
    omega
  have := h.out
  omega
theorem getD_set {H : List Nat} {i k v : Nat} (hi : i < H.length) : (H.set i v).getD k 0 = if k = i then v else H.getD k 0 := by
  rw [List.getD_eq_getElem?_getD, List.getD_eq_getElem?_getD, List.getElem?_set]
  by_cases e : i = k
  · subst e
    rw [if_pos rfl, if_pos hi, if_pos rfl]
    rfl
  · rw [if_neg e, if_neg (fun h => e h.symm)]
theorem inv_set {l H : List Nat} {o i v : Nat} (h : Inv l H o) (hi : i < l.length) (hv : v ≤ hgt l (l.getD i 0)) : Inv l (H.set i v) (max o v) := by
  have hi' : i < H.length := by rw [h.len]; exact hi
  refine ⟨by rw [List.length_set]; exact h.len, fun k hk => ?_, ?_, fun k hk => ?_⟩
  · rw [getD_set hi']
    by_cases e : k = i
    · rw [if_pos e, e]; exact hv
    · rw [if_neg e]; exact h.le k hk
  · have := h.out
    have := hgt_le_height hi
    omega
  · rw [getD_set hi']
    have := h.all k hk
    by_cases e : k = i
    · rw [if_pos e]; omega
    · rw [if_neg e]; omega
theorem inv_same {l H : List Nat} {o i : Nat} (h : Inv l H o) (hi : i < l.length) : max o (H.getD i 0) = o := by
  have := h.all i hi
  omega
theorem sum_set : ∀ {H : List Nat} {i v : Nat}, i < H.length → (H.set i v).sum + H.getD i 0 = H.sum + v := by
  intro H
  induction H with
  | nil => intro i v h; simp at h
  | cons x H ih =>
    intro i v h
    cases i with
    | zero => simp; omega
    | succ i =>
      have := ih (i := i) (v := v) (by simpa using h)
      simp only [List.set_cons_succ, List.sum_cons, List.getD_cons_succ] at this ⊢
      omega
theorem sum_le : ∀ {A B : List Nat}, A.length = B.length → (∀ i, i < A.length → A.getD i 0 ≤ B.getD i 0) → A.sum ≤ B.sum := by
  intro A
  induction A with
  | nil => intro B _ _; simp
  | cons x A ih =>
    intro B hl h
    cases B with
    | nil => simp at hl
    | cons y B =>
      have h0 := h 0 (by simp)
      have h1 := ih (B := B) (by simpa using hl) (fun i hi => by have := h (i + 1) (by simpa using hi); simpa using this)
      simp only [List.getD_cons_zero] at h0
      simp only [List.sum_cons]
      omega
/-- No more than this can the numbers be raised. -/
def roomL (l : List Nat) : Nat := (l.map (hgt l)).sum
theorem inv_sum {l H : List Nat} {o : Nat} (h : Inv l H o) : H.sum ≤ roomL l := by
  refine sum_le (by rw [h.len, List.length_map]) (fun i hi => ?_)
  have hi' : i < l.length := by rw [← h.len]; exact hi
  have h1 := h.le i hi'
  have : (l.map (hgt l)).getD i 0 = hgt l (l.getD i 0) := by
    rw [List.getD_eq_getElem?_getD, List.getD_eq_getElem?_getD, List.getElem?_map, List.getElem?_eq_getElem hi']
    rfl
  omega
theorem inv_start (l : List Nat) : Inv l (List.replicate l.length 0) 0 := by
  have : ∀ i, (List.replicate l.length 0).getD i 0 = 0 := fun i => by
    rw [List.getD_eq_getElem?_getD, List.getElem?_replicate]
    split <;> rfl
  exact ⟨by simp, fun i _ => by rw [this]; exact Nat.zero_le _, Nat.zero_le _, fun i _ => by rw [this]; exact Nat.le_refl _⟩
/-- The number that a label's lesser ones give it is not too great. -/
theorem raise_le {l H : List Nat} {o i k : Nat} (h : Inv l H o) (hk : k < l.length) (hlt : ltB (l.getD k 0) (l.getD i 0) = true) : H.getD k 0 + 1 ≤ hgt l (l.getD i 0) := by
  have h1 := h.le k hk
  have h2 := hgt_lt (getD_mem hk) hlt
  omega

theorem count_le {p q : Nat → Bool} (h : ∀ x, p x = true → q x = true) (l : List Nat) : (l.filter p).length ≤ (l.filter q).length := by
  induction l with
  | nil => exact Nat.le_refl _
  | cons x l ih =>
    rw [List.filter_cons, List.filter_cons]
    cases hp : p x
    · cases hq : q x
      · simpa using ih
      · simp; omega
    · rw [h x hp]; simpa using ih
theorem count_less {p q : Nat → Bool} (h : ∀ x, p x = true → q x = true) {x : Nat} (hp : p x = false) (hq : q x = true) : ∀ {l : List Nat}, x ∈ l → (l.filter p).length + 1 ≤ (l.filter q).length := by
  intro l
  induction l with
  | nil => intro hx; cases hx
  | cons y l ih =>
    intro hx
    rw [List.filter_cons, List.filter_cons]
    by_cases e : y = x
    · subst e
      have := count_le h l
      rw [if_neg (by rw [hp]; decide), if_pos hq, List.length_cons]
      omega
    · have := ih (by rcases List.mem_cons.1 hx with e' | e'; exact absurd e'.symm e; exact e')
      cases hp' : p y
      · cases hq' : q y
        · simpa using this
        · simp; omega
      · rw [h y hp']; simpa using this
/-- A label's height is at most the number of the labels that are at most it. -/
theorem hgt_count {l : List Nat} {x : Nat} (hx : x ∈ l) : hgt l x ≤ (l.filter fun y => leB y x).length := by
  induction x using Nat.strongRecOn with
  | ind x ih =>
    have h1 : 1 ≤ (l.filter fun y => leB y x).length := List.length_pos_of_mem (List.mem_filter.2 ⟨hx, leB_refl x⟩)
    rcases hgt_cases l x with ⟨y, hy, hlt, e⟩ | ⟨e, _⟩
    · have h2 := ih y (ltB_lt hlt) hy
      obtain ⟨hne, hle⟩ := ltB_iff.1 hlt
      have h3 := count_less (p := fun z => leB z y) (q := fun z => leB z x) (fun z hz => leB_trans hz hle) (x := x) (by
        cases hh : leB x y
        · rfl
        · exact absurd (leB_anti hle hh) hne) (leB_refl x) hx
      omega
    · omega
theorem hgt_len {l : List Nat} {x : Nat} (hx : x ∈ l) : hgt l x ≤ l.length := Nat.le_trans (hgt_count hx) (List.length_filter_le _ _)
end Go.Proofs.YtdhbadngbhdanaaDoor.Lt
