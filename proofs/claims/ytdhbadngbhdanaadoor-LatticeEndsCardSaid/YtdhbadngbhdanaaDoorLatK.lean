/- A family is a chain exactly if its height is the number of its different labels. Nothing here speaks of the program. -/
import Derived.Test.YtdhbadngbhdanaaDoorLatI
namespace Go.Proofs.YtdhbadngbhdanaaDoor.Lt

/-- The different ones, each where it stands first. -/
def dst (l : List Nat) : List Nat := l.foldl (fun d x => if x ∈ d then d else d ++ [x]) []
theorem dst_snoc (l : List Nat) (x : Nat) : dst (l ++ [x]) = if x ∈ dst l then dst l else dst l ++ [x] := by unfold dst; rw [List.foldl_append]; rfl
theorem dst_spec (l : List Nat) : (dst l).Nodup ∧ ∀ x, x ∈ dst l ↔ x ∈ l := by
  have : ∀ (n : Nat) (l : List Nat), l.length = n → (dst l).Nodup ∧ ∀ x, x ∈ dst l ↔ x ∈ l := by
    intro n
    induction n with
    | zero =>
      intro l hl
      obtain rfl := List.eq_nil_of_length_eq_zero hl
      exact ⟨List.nodup_nil, fun x => Iff.rfl⟩
    | succ n ih =>
      intro l hl
      obtain ⟨m, y, rfl⟩ : ∃ m y, l = m ++ [y] := ⟨l.dropLast, l.getLast (by intro e; rw [e] at hl; cases hl), (List.dropLast_concat_getLast _).symm⟩
      obtain ⟨h1, h2⟩ := ih m (by simpa using hl)
      rw [dst_snoc]
      by_cases hy : y ∈ dst m
      · rw [if_pos hy]
        refine ⟨h1, fun x => ?_⟩
        rw [h2 x, List.mem_append, List.mem_singleton]
        constructor
        · exact .inl
        · rintro (h | h)
          · exact h
          · rw [h]; exact (h2 y).1 hy
      · rw [if_neg hy]
        refine ⟨?_, fun x => by rw [List.mem_append, List.mem_append, h2 x]⟩
        rw [List.nodup_append]
        exact ⟨h1, (by simp), fun a ha b hb e => hy (by rw [List.mem_singleton] at hb; rw [← hb, ← e]; exact ha)⟩
  exact this _ l rfl
/-- How many of d are at most x. -/
def cnt (d : List Nat) (x : Nat) : Nat := (d.filter fun y => leB y x).length
theorem hgt_cnt {l d : List Nat} (hd : ∀ x, x ∈ l → x ∈ d) {x : Nat} (hx : x ∈ l) : hgt l x ≤ cnt d x := by
  induction x using Nat.strongRecOn with
  | ind x ih =>
    have h1 : 1 ≤ cnt d x := List.length_pos_of_mem (List.mem_filter.2 ⟨hd x hx, leB_refl x⟩)
    rcases hgt_cases l x with ⟨y, hy, hlt, e⟩ | ⟨e, _⟩
    · have h2 := ih y (ltB_lt hlt) hy
      obtain ⟨hne, hle⟩ := ltB_iff.1 hlt
      have h3 := count_less (p := fun z => leB z y) (q := fun z => leB z x) (fun z hz => leB_trans hz hle) (x := x) (by
        cases hh : leB x y
        · rfl
        · exact absurd (leB_anti hle hh) hne) (leB_refl x) (hd x hx)
      unfold cnt at *
      omega
    · omega
theorem cnt_all {d : List Nat} {x : Nat} (h : cnt d x = d.length) : ∀ z ∈ d, leB z x = true := fun z hz => by
  cases hh : leB z x
  · have := count_less (p := fun y => leB y x) (q := fun _ => true) (fun _ _ => rfl) (x := z) hh rfl hz
    rw [List.filter_eq_self.2 (fun _ _ => rfl)] at this
    unfold cnt at h
    omega
  · rfl
theorem count_two {p q : Nat → Bool} (h : ∀ x, p x = true → q x = true) {x z : Nat} (hne : x ≠ z) (hpx : p x = false) (hpz : p z = false) (hqx : q x = true) (hqz : q z = true) {l : List Nat} (hx : x ∈ l) (hz : z ∈ l) :
    (l.filter p).length + 2 ≤ (l.filter q).length := by
  have h1 := count_less (p := p) (q := fun y => p y || y == z) (fun y hy => by rw [hy]; rfl) (x := z) hpz (by simp) hz
  have h2 := count_less (p := fun y => p y || y == z) (q := q) (fun y hy => by
    rw [Bool.or_eq_true] at hy
    rcases hy with hy | hy
    · exact h y hy
    · rw [beq_iff_eq.1 hy]; exact hqz) (x := x) (by rw [hpx]; simp [hne]) hqx hx
  omega
/-- Where the height is the number, those at most x are a chain. -/
theorem chain_of_cnt {l d : List Nat} (hd : ∀ x, x ∈ l ↔ x ∈ d) {x : Nat} (hx : x ∈ l) (h : hgt l x = cnt d x) : ∀ a ∈ d, ∀ b ∈ d, leB a x = true → leB b x = true → (leB a b || leB b a) = true := by
  induction x using Nat.strongRecOn with
  | ind x ih =>
    intro a ha b hb hax hbx
    by_cases ea : a = x
    · rw [ea, hbx, Bool.or_true]
    by_cases eb : b = x
    · rw [eb, hax]; rfl
    rcases hgt_cases l x with ⟨y, hy, hlt, e⟩ | ⟨e, _⟩
    · obtain ⟨hne, hle⟩ := ltB_iff.1 hlt
      have h2 := hgt_cnt (fun z hz => (hd z).1 hz) hy
      have hxy : leB x y = false := by
        cases hh : leB x y
        · rfl
        · exact absurd (leB_anti hle hh) hne
      have h3 := count_less (p := fun z => leB z y) (q := fun z => leB z x) (fun z hz => leB_trans hz hle) (x := x) hxy (leB_refl x) ((hd x).1 hx)
      have hin : ∀ z ∈ d, z ≠ x → leB z x = true → leB z y = true := fun z hz hzx hzle => by
        cases hh : leB z y
        · have := count_two (p := fun w => leB w y) (q := fun w => leB w x) (fun w hw => leB_trans hw hle) (x := x) (z := z) (fun e => hzx e.symm) hxy hh (leB_refl x) hzle ((hd x).1 hx) hz
          unfold cnt at h h2
          omega
        · rfl
      exact ih y (ltB_lt hlt) hy (by unfold cnt at *; omega) a ha b hb (hin a ha ea hax) (hin b hb eb hbx)
    · have := count_two (p := fun _ => false) (q := fun w => leB w x) (fun _ hw => by cases hw) (x := x) (z := a) (fun e => ea e.symm) rfl rfl (leB_refl x) hax ((hd x).1 hx) ha
      rw [List.filter_eq_nil_iff.2 (by simp)] at this
      simp only [List.length_nil] at this
      unfold cnt at h
      omega
theorem count_one {p q : Nat → Bool} {x : Nat} : ∀ {d : List Nat}, d.Nodup → (∀ z ∈ d, p z = true → q z = true ∨ z = x) → (d.filter p).length ≤ (d.filter q).length + 1 := by
  intro d
  induction d with
  | nil => intro _ _; exact Nat.zero_le _
  | cons y d ih =>
    intro hn h
    obtain ⟨hy, hn'⟩ := List.nodup_cons.1 hn
    rw [List.filter_cons, List.filter_cons]
    by_cases e : y = x
    · subst e
      have : (d.filter p).length ≤ (d.filter q).length := by
        have hpq : ∀ z ∈ d, p z = true → q z = true := fun z hz hp => by
          rcases h z (by simp [hz]) hp with h1 | h1
          · exact h1
          · rw [h1] at hz; exact absurd hz hy
        clear ih h hn hy hn'
        induction d with
        | nil => exact Nat.le_refl _
        | cons z d ih2 =>
          have := ih2 (fun w hw => hpq w (by simp [hw]))
          rw [List.filter_cons, List.filter_cons]
          cases hp : p z
          · cases hq : q z
            · simpa using this
            · simp; omega
          · rw [hpq z (by simp) hp]; simpa using this
      cases hp : p y <;> cases hq : q y <;> simp <;> omega
    · have := ih hn' (fun z hz => h z (by simp [hz]))
      cases hp : p y
      · cases hq : q y
        · simpa using this
        · simp; omega
      · rcases h y (by simp) hp with h1 | h1
        · rw [h1]; simpa using this
        · exact absurd h1 e
theorem chainK_iff {l : List Nat} : chainB l = true ↔ ∀ a ∈ l, ∀ b ∈ l, (leB a b || leB b a) = true := by
  unfold chainB
  rw [List.all_eq_true]
  constructor
  · intro h a ha b hb; exact List.all_eq_true.1 (h a ha) b hb
  · intro h a ha; exact List.all_eq_true.2 (h a ha)
/-- The numerically greatest of some. -/
theorem greatest {l : List Nat} (h : l ≠ []) : ∃ m ∈ l, ∀ z ∈ l, z ≤ m := ⟨sup l, sup_mem h, fun _ hz => le_sup hz⟩
theorem cnt_of_chain {l d : List Nat} (hd : ∀ x, x ∈ l ↔ x ∈ d) (hn : d.Nodup) (hc : ∀ a ∈ l, ∀ b ∈ l, (leB a b || leB b a) = true) {x : Nat} (hx : x ∈ l) : cnt d x ≤ hgt l x := by
  induction x using Nat.strongRecOn with
  | ind x ih =>
    by_cases h : (l.filter fun y => ltB y x) = []
    · have := count_one (p := fun y => leB y x) (q := fun _ => false) (x := x) hn (fun z hz hzx => .inr (by
        by_cases e : z = x
        · exact e
        · have : z ∈ l.filter fun y => ltB y x := List.mem_filter.2 ⟨(hd z).2 hz, ltB_iff.2 ⟨e, hzx⟩⟩
          rw [h] at this
          cases this))
      rw [show d.filter (fun _ => false) = [] from List.filter_eq_nil_iff.2 (by simp)] at this
      simp only [List.length_nil] at this
      have := hgt_pos l x
      unfold cnt
      omega
    · obtain ⟨y, hy, hmax⟩ := greatest h
      obtain ⟨hyl, hyx⟩ := List.mem_filter.1 hy
      have h1 := ih y (ltB_lt hyx) hyl
      have h2 := hgt_lt hyl hyx
      have h3 := count_one (p := fun z => leB z x) (q := fun z => leB z y) (x := x) hn (fun z hz hzx => by
        by_cases e : z = x
        · exact .inr e
        · refine .inl ?_
          have hzl := (hd z).2 hz
          have hle := hmax z (List.mem_filter.2 ⟨hzl, ltB_iff.2 ⟨e, hzx⟩⟩)
          have := hc z hzl y hyl
          rw [Bool.or_eq_true] at this
          rcases this with h4 | h4
          · exact h4
          · have := leB_le h4
            have e2 : z = y := by omega
            rw [e2]; exact leB_refl y)
      unfold cnt at *
      omega
/-- A family is a chain exactly if its height is the number of its different labels. -/
theorem chain_height (l : List Nat) : chainB l = decide (heightL l = (dst l).length) := by
  obtain ⟨hn, hm⟩ := dst_spec l
  have hd : ∀ x, x ∈ l ↔ x ∈ dst l := fun x => (hm x).symm
  by_cases hl : l = []
  · subst hl; decide
  have hup : heightL l ≤ (dst l).length := by
    unfold heightL
    rw [sup_le]
    intro z hz
    obtain ⟨x, hx, rfl⟩ := List.mem_map.1 hz
    exact Nat.le_trans (hgt_cnt (fun y hy => (hd y).1 hy) hx) (List.length_filter_le _ _)
  cases hc : chainB l
  · symm
    rw [decide_eq_false_iff_not]
    intro e
    obtain ⟨m, hml, em⟩ := List.mem_map.1 (sup_mem (l := l.map (hgt l)) (by simpa using hl))
    have e2 : hgt l m = (dst l).length := by rw [em]; exact e
    have h1 := hgt_cnt (fun y hy => (hd y).1 hy) hml
    have h2 : cnt (dst l) m ≤ (dst l).length := List.length_filter_le _ _
    have h3 : cnt (dst l) m = (dst l).length := by omega
    have hall := cnt_all h3
    have : chainB l = true := chainK_iff.2 fun a ha b hb => chain_of_cnt hd hml (by omega) a ((hd a).1 ha) b ((hd b).1 hb) (hall a ((hd a).1 ha)) (hall b ((hd b).1 hb))
    rw [hc] at this
    cases this
  · symm
    rw [decide_eq_true_iff]
    have hch := chainK_iff.1 hc
    obtain ⟨m, hml, hmax⟩ := greatest hl
    have h1 := cnt_of_chain hd hn hch hml
    have h2 : cnt (dst l) m = (dst l).length := by
      unfold cnt
      rw [List.filter_eq_self.2]
      intro z hz
      have hzl := (hd z).2 hz
      have := hch z hzl m hml
      rw [Bool.or_eq_true] at this
      rcases this with h4 | h4
      · exact h4
      · have := leB_le h4
        have := hmax z hzl
        have e2 : z = m := by omega
        rw [e2]; exact leB_refl m
    have h3 : hgt l m ≤ heightL l := le_sup (List.mem_map.2 ⟨m, hml, rfl⟩)
    omega
/-- Each label is at most a maximal one, and at least a minimal one. -/
theorem ends_max {l : List Nat} {x : Nat} (hx : x ∈ l) : ∃ m ∈ l, maxB l m = true ∧ leB x m = true := by
  have hne : (l.filter fun y => leB x y) ≠ [] := List.ne_nil_of_mem (List.mem_filter.2 ⟨hx, leB_refl x⟩)
  obtain ⟨m, hm, hmax⟩ := greatest hne
  obtain ⟨hml, hxm⟩ := List.mem_filter.1 hm
  refine ⟨m, hml, List.all_eq_true.2 fun y hy => ?_, hxm⟩
  cases h : ltB m y
  · rfl
  · have := hmax y (List.mem_filter.2 ⟨hy, leB_trans hxm (ltB_iff.1 h).2⟩)
    have := ltB_lt h
    omega
theorem ends_min {l : List Nat} {x : Nat} (hx : x ∈ l) : ∃ m ∈ l, minB l m = true ∧ leB m x = true := by
  induction x using Nat.strongRecOn with
  | ind x ih =>
    cases h : minB l x
    · unfold minB at h
      obtain ⟨y, hy, hb⟩ := List.all_eq_false.1 h
      have hlt : ltB y x = true := by simpa using hb
      obtain ⟨m, hm, h1, h2⟩ := ih y (ltB_lt hlt) hy
      exact ⟨m, hm, h1, leB_trans h2 (ltB_iff.1 hlt).2⟩
    · exact ⟨x, hx, h, leB_refl x⟩
end Go.Proofs.YtdhbadngbhdanaaDoor.Lt
