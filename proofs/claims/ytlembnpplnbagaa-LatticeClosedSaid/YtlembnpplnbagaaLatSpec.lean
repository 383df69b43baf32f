/- Families of labels, as plain functions on lists of numbers: joins, meets, what is below, chains, heights, covers, closures. Nothing here speaks of the program. -/
import Derived.Test.YtlembnpplnbagaaWords
namespace Go.Proofs.Ytlembnpplnbagaa.Lt

/-- All categories of a are in b; and they are not the same. -/
def leB (a b : Nat) : Bool := (a &&& b) == a
def ltB (a b : Nat) : Bool := a != b && leB a b
theorem leB_iff {a b : Nat} : leB a b = true ↔ ∀ i, a.testBit i = true → b.testBit i = true := by
  unfold leB
  rw [beq_iff_eq]
  constructor
  · intro h i hi
    rw [← h, Nat.testBit_and] at hi
    exact (Bool.and_eq_true _ _ ▸ hi).2
  · intro h
    apply Nat.eq_of_testBit_eq
    intro i
    rw [Nat.testBit_and]
    cases h1 : a.testBit i
    · rfl
    · rw [h i h1]; rfl
theorem leB_le {a b : Nat} (h : leB a b = true) : a ≤ b := by
  unfold leB at h
  rw [beq_iff_eq] at h
  rw [← h]
  exact Nat.and_le_right
theorem leB_refl (a : Nat) : leB a a = true := leB_iff.2 fun _ h => h
theorem leB_trans {a b c : Nat} (h : leB a b = true) (k : leB b c = true) : leB a c = true := leB_iff.2 fun i hi => leB_iff.1 k i (leB_iff.1 h i hi)
theorem leB_anti {a b : Nat} (h : leB a b = true) (k : leB b a = true) : a = b := Nat.le_antisymm (leB_le h) (leB_le k)
theorem ltB_iff {a b : Nat} : ltB a b = true ↔ a ≠ b ∧ leB a b = true := by simp [ltB]
theorem ltB_lt {a b : Nat} (h : ltB a b = true) : a < b := by
  obtain ⟨h1, h2⟩ := ltB_iff.1 h
  have := leB_le h2
  omega
theorem ltB_trans_le {a b c : Nat} (h : ltB a b = true) (k : leB b c = true) : ltB a c = true := by
  obtain ⟨h1, h2⟩ := ltB_iff.1 h
  refine ltB_iff.2 ⟨fun e => ?_, leB_trans h2 k⟩
  subst e
  exact h1 (leB_anti h2 k)
theorem leB_or_left (a b : Nat) : leB a (a ||| b) = true := leB_iff.2 fun i h => by rw [Nat.testBit_or, h]; rfl
theorem leB_or_right (a b : Nat) : leB b (a ||| b) = true := leB_iff.2 fun i h => by rw [Nat.testBit_or, h, Bool.or_true]
theorem leB_or {a b c : Nat} (h : leB a c = true) (k : leB b c = true) : leB (a ||| b) c = true := leB_iff.2 fun i hi => by
  rw [Nat.testBit_or, Bool.or_eq_true] at hi
  rcases hi with hi | hi
  · exact leB_iff.1 h i hi
  · exact leB_iff.1 k i hi
theorem leB_and_left (a b : Nat) : leB (a &&& b) a = true := leB_iff.2 fun i h => by rw [Nat.testBit_and, Bool.and_eq_true] at h; exact h.1
theorem leB_and_right (a b : Nat) : leB (a &&& b) b = true := leB_iff.2 fun i h => by rw [Nat.testBit_and, Bool.and_eq_true] at h; exact h.2
theorem leB_and {a b c : Nat} (h : leB c a = true) (k : leB c b = true) : leB c (a &&& b) = true := leB_iff.2 fun i hi => by
  rw [Nat.testBit_and, leB_iff.1 h i hi, leB_iff.1 k i hi]; rfl
theorem leB_and_iff {a b c : Nat} : leB c (a &&& b) = (leB c a && leB c b) := by
  cases h : leB c (a &&& b)
  · cases h1 : leB c a
    · rfl
    · cases h2 : leB c b
      · rfl
      · rw [leB_and h1 h2] at h; cases h
  · rw [leB_trans h (leB_and_left a b), leB_trans h (leB_and_right a b)]; rfl
theorem leB_or_iff {a b c : Nat} : leB (a ||| b) c = (leB a c && leB b c) := by
  cases h : leB (a ||| b) c
  · cases h1 : leB a c
    · rfl
    · cases h2 : leB b c
      · rfl
      · rw [leB_or h1 h2] at h; cases h
  · rw [leB_trans (leB_or_left a b) h, leB_trans (leB_or_right a b) h]; rfl

/-- The join and the meet of a family. -/
def jn (l : List Nat) : Nat := l.foldl (· ||| ·) 0
def mt : List Nat → Nat
  | [] => 0
  | x :: l => l.foldl (· &&& ·) x
theorem foldOr_le (l : List Nat) : ∀ (a c : Nat), leB (l.foldl (· ||| ·) a) c = (leB a c && l.all fun x => leB x c) := by
  induction l with
  | nil => intro a c; simp
  | cons x l ih => intro a c; rw [List.foldl_cons, ih, leB_or_iff, List.all_cons, Bool.and_assoc]
theorem foldAnd_le (l : List Nat) : ∀ (a c : Nat), leB c (l.foldl (· &&& ·) a) = (leB c a && l.all fun x => leB c x) := by
  induction l with
  | nil => intro a c; simp
  | cons x l ih => intro a c; rw [List.foldl_cons, ih, leB_and_iff, List.all_cons, Bool.and_assoc]
theorem zero_leB (c : Nat) : leB 0 c = true := leB_iff.2 fun i h => by simp at h
theorem jn_le (l : List Nat) (c : Nat) : leB (jn l) c = l.all fun x => leB x c := by unfold jn; rw [foldOr_le, zero_leB, Bool.true_and]
theorem le_mt {l : List Nat} (h : l ≠ []) (c : Nat) : leB c (mt l) = l.all fun x => leB c x := by
  cases l with
  | nil => exact absurd rfl h
  | cons x l => unfold mt; rw [foldAnd_le, List.all_cons]
theorem jn_snoc (l : List Nat) (x : Nat) : jn (l ++ [x]) = jn l ||| x := by unfold jn; rw [List.foldl_append]; rfl
theorem mt_snoc {l : List Nat} (h : l ≠ []) (x : Nat) : mt (l ++ [x]) = mt l &&& x := by
  cases l with
  | nil => exact absurd rfl h
  | cons y l => unfold mt; rw [List.cons_append]; dsimp only; rw [List.foldl_append]; rfl

/-- The numbers of those labels that are .. -/
def numsOf (l : List Nat) (p : Nat → Bool) : List Nat := (List.range l.length).filter fun i => p (l.getD i 0)
def maxB (l : List Nat) (x : Nat) : Bool := l.all fun y => !ltB x y
def minB (l : List Nat) (x : Nat) : Bool := l.all fun y => !ltB y x
def chainB (l : List Nat) : Bool := l.all fun x => l.all fun y => leB x y || leB y x
theorem mem_numsOf {l : List Nat} {p : Nat → Bool} {i : Nat} : i ∈ numsOf l p ↔ i < l.length ∧ p (l.getD i 0) = true := by
  unfold numsOf
  rw [List.mem_filter, List.mem_range]
theorem getD_mem {l : List Nat} {i : Nat} (h : i < l.length) : l.getD i 0 ∈ l := by
  rw [List.getD_eq_getElem?_getD, List.getElem?_eq_getElem h]
  exact List.getElem_mem h
theorem mem_getD {l : List Nat} {x : Nat} (h : x ∈ l) : ∃ i, i < l.length ∧ l.getD i 0 = x := by
  obtain ⟨i, hi, e⟩ := List.getElem_of_mem h
  exact ⟨i, hi, by rw [List.getD_eq_getElem?_getD, List.getElem?_eq_getElem hi]; exact e⟩

/-- The greatest of a list of numbers, 0 of none. -/
def sup (l : List Nat) : Nat := l.foldl max 0
theorem foldMax_snoc (l : List Nat) (x a : Nat) : (l ++ [x]).foldl max a = max (l.foldl max a) x := by rw [List.foldl_append]; rfl
theorem foldMax_le (l : List Nat) : ∀ a c, l.foldl max a ≤ c ↔ a ≤ c ∧ ∀ x ∈ l, x ≤ c := by
  induction l with
  | nil => intro a c; simp
  | cons x l ih =>
    intro a c
    rw [List.foldl_cons, ih]
    simp only [List.mem_cons, forall_eq_or_imp]
    constructor
    · rintro ⟨h1, h2⟩; exact ⟨by omega, by omega, h2⟩
    · rintro ⟨h1, h2, h3⟩; exact ⟨by omega, h3⟩
theorem sup_le {l : List Nat} {c : Nat} : sup l ≤ c ↔ ∀ x ∈ l, x ≤ c := by unfold sup; rw [foldMax_le]; simp
theorem le_sup {l : List Nat} {x : Nat} (h : x ∈ l) : x ≤ sup l := sup_le.1 (Nat.le_refl _) x h
theorem sup_snoc (l : List Nat) (x : Nat) : sup (l ++ [x]) = max (sup l) x := foldMax_snoc l x 0
theorem sup_mem : ∀ {l : List Nat}, l ≠ [] → sup l ∈ l := by
  intro l
  have h : ∀ (l : List Nat) (a : Nat), l.foldl max a = a ∨ l.foldl max a ∈ l := by
    intro l
    induction l with
    | nil => intro a; exact .inl rfl
    | cons x l ih =>
      intro a
      rw [List.foldl_cons]
      rcases ih (max a x) with e | e
      · rw [e]
        by_cases hx : a ≤ x
        · rw [Nat.max_eq_right hx]; exact .inr (by simp)
        · rw [Nat.max_eq_left (by omega)]; exact .inl rfl
      · exact .inr (by simp [e])
  intro hl
  rcases h l 0 with e | e
  · cases l with
    | nil => exact absurd rfl hl
    | cons x l =>
      have : x ≤ sup (x :: l) := le_sup (by simp)
      unfold sup at this ⊢
      rw [e] at this ⊢
      have h0 : x = 0 := by omega
      rw [h0]
      exact List.mem_cons_self
  · exact e

/-- The greatest number of labels of a chain of the family that ends below x, and with x. -/
def hgt (l : List Nat) (x : Nat) : Nat := 1 + sup (((l.filter fun y => ltB y x).attach.map fun y => hgt l y.1))
termination_by x
decreasing_by exact ltB_lt (List.mem_filter.1 y.2).2
theorem hgt_eq (l : List Nat) (x : Nat) : hgt l x = 1 + sup ((l.filter fun y => ltB y x).map (hgt l)) := by
  rw [hgt]
  congr 2
  exact List.attach_map_val
theorem hgt_pos (l : List Nat) (x : Nat) : 1 ≤ hgt l x := by rw [hgt_eq]; omega
theorem hgt_lt {l : List Nat} {x y : Nat} (hy : y ∈ l) (h : ltB y x = true) : hgt l y < hgt l x := by
  rw [hgt_eq l x]
  have := le_sup (l := (l.filter fun y => ltB y x).map (hgt l)) (x := hgt l y) (List.mem_map.2 ⟨y, List.mem_filter.2 ⟨hy, h⟩, rfl⟩)
  omega
theorem hgt_cases (l : List Nat) (x : Nat) : (∃ y ∈ l, ltB y x = true ∧ hgt l x = 1 + hgt l y) ∨ (hgt l x = 1 ∧ ∀ y ∈ l, ltB y x = false) := by
  rw [hgt_eq l x]
  by_cases h : (l.filter fun y => ltB y x) = []
  · refine .inr ⟨by rw [h]; rfl, fun y hy => ?_⟩
    cases e : ltB y x
    · rfl
    · have : y ∈ l.filter fun y => ltB y x := List.mem_filter.2 ⟨hy, e⟩
      rw [h] at this
      cases this
  · obtain ⟨y, hy, e⟩ := List.mem_map.1 (sup_mem (l := (l.filter fun y => ltB y x).map (hgt l)) (by simpa using h))
    obtain ⟨h1, h2⟩ := List.mem_filter.1 hy
    exact .inl ⟨y, h1, h2, by rw [← e]⟩
def heightL (l : List Nat) : Nat := sup (l.map (hgt l))
/-- Numbers that meet these bounds are the heights. -/
theorem hgt_of {l : List Nat} {h : Nat → Nat} (h1 : ∀ x ∈ l, h x ≤ hgt l x) (h2 : ∀ x ∈ l, 1 ≤ h x) (h3 : ∀ x ∈ l, ∀ y ∈ l, ltB y x = true → h y + 1 ≤ h x) : ∀ x ∈ l, h x = hgt l x := by
  intro x
  induction x using Nat.strongRecOn with
  | ind x ih =>
    intro hx
    have := h1 x hx
    rcases hgt_cases l x with ⟨y, hy, hlt, e⟩ | ⟨e, _⟩
    · have := ih y (ltB_lt hlt) hy
      have := h3 x hx y hy hlt
      omega
    · have := h2 x hx
      omega
theorem jn_mem_le {l : List Nat} {x : Nat} (h : x ∈ l) : leB x (jn l) = true := by
  have := jn_le l (jn l)
  rw [leB_refl] at this
  exact List.all_eq_true.1 this.symm x h
theorem mt_le_mem {l : List Nat} {x : Nat} (h : x ∈ l) : leB (mt l) x = true := by
  have := le_mt (l := l) (by intro e; rw [e] at h; cases h) (mt l)
  rw [leB_refl] at this
  exact List.all_eq_true.1 this.symm x h
end Go.Proofs.Ytlembnpplnbagaa.Lt
