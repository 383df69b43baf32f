/- The closure of a family, as lists: what is in it, that it ascends, that it is closed. Nothing here speaks of the program. -/
import Derived.Test.YtlembnpplnbagaaLatH
namespace Go.Proofs.Ytlembnpplnbagaa.Lt

theorem mem_ins {l : List Nat} {x z : Nat} : z ∈ ins l x ↔ z = x ∨ z ∈ l := by
  induction l with
  | nil => simp [ins]
  | cons y l ih =>
    unfold ins
    split
    · rw [List.mem_cons, ih, List.mem_cons]
      constructor
      · rintro (h | h | h)
        · exact .inr (.inl h)
        · exact .inl h
        · exact .inr (.inr h)
      · rintro (h | h | h)
        · exact .inr (.inl h)
        · exact .inl h
        · exact .inr (.inr h)
    · split
      · rename_i h
        rw [List.mem_cons]
        constructor
        · intro hz; exact .inr hz
        · rintro (hz | hz)
          · exact .inl (by rw [hz, h])
          · exact hz
      · rw [List.mem_cons]
theorem ins_asc {l : List Nat} {x : Nat} (h : l.Pairwise (· < ·)) : (ins l x).Pairwise (· < ·) := by
  induction l with
  | nil => simp [ins]
  | cons y l ih =>
    obtain ⟨h1, h2⟩ := List.pairwise_cons.1 h
    unfold ins
    split
    · rename_i hy
      refine List.pairwise_cons.2 ⟨fun z hz => ?_, ih h2⟩
      rcases mem_ins.1 hz with e | e
      · rw [e]; exact hy
      · exact h1 z e
    · split
      · exact h
      · rename_i ha hb
        refine List.pairwise_cons.2 ⟨fun z hz => ?_, h⟩
        rcases List.mem_cons.1 hz with e | e
        · rw [e]; omega
        · have := h1 z e; omega
theorem fold_spec (x : Nat) : ∀ (bs o : List Nat), (∀ z, z ∈ bs.foldl (fun o b => ins o (b ||| x)) o ↔ z ∈ o ∨ ∃ b ∈ bs, z = b ||| x) ∧ (o.Pairwise (· < ·) → (bs.foldl (fun o b => ins o (b ||| x)) o).Pairwise (· < ·)) ∧ (bs.foldl (fun o b => ins o (b ||| x)) o).length ≤ o.length + bs.length := by
  intro bs
  induction bs with
  | nil => intro o; exact ⟨fun z => by simp, fun h => h, by simp⟩
  | cons b bs ih =>
    intro o
    obtain ⟨h1, h2, h3⟩ := ih (ins o (b ||| x))
    rw [List.foldl_cons]
    refine ⟨fun z => ?_, fun h => h2 (ins_asc h), ?_⟩
    · rw [h1, mem_ins]
      constructor
      · rintro ((h | h) | ⟨c, hc, h⟩)
        · exact .inr ⟨b, by simp, h⟩
        · exact .inl h
        · exact .inr ⟨c, by simp [hc], h⟩
      · rintro (h | ⟨c, hc, h⟩)
        · exact .inl (.inr h)
        · rcases List.mem_cons.1 hc with e | e
          · rw [e] at h; exact .inl (.inl h)
          · exact .inr ⟨c, e, h⟩
    · have := ins_len o (b ||| x)
      rw [List.length_cons]
      omega
theorem mem_clStep {o : List Nat} {x z : Nat} : z ∈ clStep o x ↔ z = x ∨ z ∈ o ∨ ∃ b ∈ o, z = b ||| x := by
  unfold clStep
  rw [(fold_spec x o (ins o x)).1, mem_ins, or_assoc]
theorem clStep_asc {o : List Nat} {x : Nat} (h : o.Pairwise (· < ·)) : (clStep o x).Pairwise (· < ·) := (fold_spec x o (ins o x)).2.1 (ins_asc h)
theorem clStep_len (o : List Nat) (x : Nat) : (clStep o x).length ≤ 2 * o.length + 1 := by
  have h1 := (fold_spec x o (ins o x)).2.2
  have h2 := ins_len o x
  unfold clStep
  omega
def Closed (o : List Nat) : Prop := ∀ a ∈ o, ∀ b ∈ o, a ||| b ∈ o
theorem or_or (a b x : Nat) : (a ||| x) ||| (b ||| x) = (a ||| b) ||| x := by
  apply Nat.eq_of_testBit_eq
  intro i
  simp only [Nat.testBit_or]
  cases a.testBit i <;> cases b.testBit i <;> cases x.testBit i <;> rfl
theorem clStep_closed {o : List Nat} {x : Nat} (h : Closed o) : Closed (clStep o x) := by
  intro a ha b hb
  rw [mem_clStep] at ha hb ⊢
  rcases ha with rfl | ha | ⟨c, hc, rfl⟩
  · rcases hb with rfl | hb | ⟨d, hd, rfl⟩
    · exact .inl (Nat.or_self _)
    · exact .inr (.inr ⟨b, hb, Nat.or_comm _ _⟩)
    · exact .inr (.inr ⟨d, hd, by rw [Nat.or_comm, Nat.or_assoc, Nat.or_self]⟩)
  · rcases hb with rfl | hb | ⟨d, hd, rfl⟩
    · exact .inr (.inr ⟨a, ha, rfl⟩)
    · exact .inr (.inl (h a ha b hb))
    · exact .inr (.inr ⟨a ||| d, h a ha d hd, by rw [Nat.or_assoc]⟩)
  · rcases hb with rfl | hb | ⟨d, hd, rfl⟩
    · exact .inr (.inr ⟨c, hc, by rw [Nat.or_assoc, Nat.or_self]⟩)
    · exact .inr (.inr ⟨c ||| b, h c hc b hb, by rw [Nat.or_assoc, Nat.or_comm x b, ← Nat.or_assoc]⟩)
    · exact .inr (.inr ⟨c ||| d, h c hc d hd, or_or c d x⟩)
/-- What closing gives, where nothing is too long. -/
theorem clGo_spec : ∀ (l o r : List Nat), clGo o l = some r → o.Pairwise (· < ·) → Closed o → r.Pairwise (· < ·) ∧ Closed r ∧ (∀ z ∈ o, z ∈ r) ∧ (∀ z ∈ l, z ∈ r) ∧ ∀ C, Closed C → (∀ z ∈ o, z ∈ C) → (∀ z ∈ l, z ∈ C) → ∀ z ∈ r, z ∈ C := by
  intro l
  induction l with
  | nil =>
    intro o r h ha hc
    obtain rfl : o = r := Option.some.inj h
    exact ⟨ha, hc, fun z hz => hz, (fun z hz => by cases hz), fun C _ h1 _ z hz => h1 z hz⟩
  | cons x l ih =>
    intro o r h ha hc
    unfold clGo at h
    split at h
    · cases h
    · obtain ⟨h1, h2, h3, h4, h5⟩ := ih _ r h (clStep_asc ha) (clStep_closed hc)
      refine ⟨h1, h2, fun z hz => h3 z (mem_clStep.2 (.inr (.inl hz))), fun z hz => ?_, fun C hC ho hl => h5 C hC (fun z hz => ?_) (fun z hz => hl z (by simp [hz]))⟩
      · rcases List.mem_cons.1 hz with e | e
        · exact h3 z (mem_clStep.2 (.inl e))
        · exact h4 z e
      · rcases mem_clStep.1 hz with e | e | ⟨b, hb, e⟩
        · rw [e]; exact hl x (by simp)
        · exact ho z e
        · rw [e]; exact hC b (ho b hb) x (hl x (by simp))
theorem clGo_short : ∀ (l o : List Nat), (o.length + 1) * 2 ^ l.length ≤ 257 → ∃ r, clGo o l = some r ∧ r.length + 1 ≤ (o.length + 1) * 2 ^ l.length := by
  intro l
  induction l with
  | nil => intro o _; exact ⟨o, rfl, by simp⟩
  | cons x l ih =>
    intro o h
    have h1 := clStep_len o x
    have h2 : ((clStep o x).length + 1) * 2 ^ l.length ≤ (o.length + 1) * 2 ^ (l.length + 1) := by
      rw [Nat.pow_succ, Nat.mul_comm (2 ^ l.length) 2, ← Nat.mul_assoc]
      exact Nat.mul_le_mul_right _ (by omega)
    rw [List.length_cons] at h
    obtain ⟨r, hr, hl⟩ := ih (clStep o x) (by omega)
    have hp : 1 ≤ 2 ^ l.length := Nat.one_le_two_pow
    have h3 : (clStep o x).length + 1 ≤ 257 := by
      have := Nat.mul_le_mul_left ((clStep o x).length + 1) hp
      omega
    refine ⟨r, ?_, by rw [List.length_cons]; omega⟩
    unfold clGo
    rw [if_neg (by omega)]
    exact hr
/-- Two ascending lists with the same members are the same. -/
theorem asc_ext : ∀ {a b : List Nat}, a.Pairwise (· < ·) → b.Pairwise (· < ·) → (∀ z, z ∈ a ↔ z ∈ b) → a = b := by
  intro a
  induction a with
  | nil =>
    intro b _ _ h
    cases b with
    | nil => rfl
    | cons y b => exact absurd ((h y).2 (by simp)) (by simp)
  | cons x a ih =>
    intro b ha hb h
    cases b with
    | nil => exact absurd ((h x).1 (by simp)) (by simp)
    | cons y b =>
      obtain ⟨a1, a2⟩ := List.pairwise_cons.1 ha
      obtain ⟨b1, b2⟩ := List.pairwise_cons.1 hb
      have e : x = y := by
        have hx := (h x).1 (by simp)
        have hy := (h y).2 (by simp)
        rcases List.mem_cons.1 hx with e | e
        · exact e
        · rcases List.mem_cons.1 hy with e2 | e2
          · exact e2.symm
          · have := a1 y e2
            have := b1 x e
            omega
      subst e
      rw [ih a2 b2 (fun z => ?_)]
      constructor
      · intro hz
        rcases List.mem_cons.1 ((h z).1 (by simp [hz])) with e | e
        · have := a1 z hz; omega
        · exact e
      · intro hz
        rcases List.mem_cons.1 ((h z).2 (by simp [hz])) with e | e
        · have := b1 z hz; omega
        · exact e
theorem asc_len : ∀ {a b : List Nat}, a.Pairwise (· < ·) → b.Pairwise (· < ·) → (∀ z ∈ a, z ∈ b) → a.length ≤ b.length := by
  intro a b
  induction b generalizing a with
  | nil =>
    intro _ _ h
    cases a with
    | nil => exact Nat.le_refl _
    | cons x a => exact absurd (h x (by simp)) (by simp)
  | cons y b ih =>
    intro ha hb h
    obtain ⟨b1, b2⟩ := List.pairwise_cons.1 hb
    cases a with
    | nil => exact Nat.zero_le _
    | cons x a =>
      obtain ⟨a1, a2⟩ := List.pairwise_cons.1 ha
      have hxy : x = y ∨ y < x := by
        rcases List.mem_cons.1 (h x (by simp)) with e | e
        · exact .inl e
        · exact .inr (b1 x e)
      have hsub : ∀ z ∈ a, z ∈ b := fun z hz => by
        rcases List.mem_cons.1 (h z (by simp [hz])) with e | e
        · have := a1 z hz
          rcases hxy with e2 | e2 <;> omega
        · exact e
      have := ih a2 b2 hsub
      simp only [List.length_cons]
      omega
theorem clGo_in {C : List Nat} (hC : Closed C) (hA : C.Pairwise (· < ·)) (hl : C.length ≤ 256) : ∀ (l o : List Nat), (∀ z ∈ l, z ∈ C) → (∀ z ∈ o, z ∈ C) → o.Pairwise (· < ·) → ∃ r, clGo o l = some r := by
  intro l
  induction l with
  | nil => intro o _ _ _; exact ⟨o, rfl⟩
  | cons x l ih =>
    intro o h1 h2 h3
    have hs : ∀ z ∈ clStep o x, z ∈ C := fun z hz => by
      rcases mem_clStep.1 hz with e | e | ⟨b, hb, e⟩
      · rw [e]; exact h1 x (by simp)
      · exact h2 z e
      · rw [e]; exact hC b (h2 b hb) x (h1 x (by simp))
    have hlen := asc_len (clStep_asc (x := x) h3) hA hs
    obtain ⟨r, hr⟩ := ih (clStep o x) (fun z hz => h1 z (by simp [hz])) hs (clStep_asc h3)
    refine ⟨r, ?_⟩
    unfold clGo
    rw [if_neg (by omega)]
    exact hr
theorem closed_nil : Closed [] := fun a ha => by cases ha
/-- The closure of what is closed and ascends is the same. -/
theorem clGo_own {C : List Nat} (hC : Closed C) (hA : C.Pairwise (· < ·)) (hl : C.length ≤ 256) : clGo [] C = some C := by
  obtain ⟨r, hr⟩ := clGo_in hC hA hl C [] (fun _ h => h) (fun _ h => by cases h) List.Pairwise.nil
  obtain ⟨h1, h2, h3, h4, h5⟩ := clGo_spec C [] r hr List.Pairwise.nil closed_nil
  rw [hr, asc_ext h1 hA (fun z => ⟨fun hz => h5 C hC (fun _ h => by cases h) (fun _ h => h) z hz, h4 z⟩)]
end Go.Proofs.Ytlembnpplnbagaa.Lt
