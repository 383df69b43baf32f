/- What is parsed is sound, and its text is not too long. Nothing here speaks of the program. -/
import Derived.Test.YtdjaijhlhhnmeaaGreatDoorParMathE
namespace Go.Proofs.YtdjaijhlhhnmeaaGreatDoor.P9
open Go.Proofs.YtdjaijhlhhnmeaaGreatDoor.Tk7 Go.Proofs.YtdjaijhlhhnmeaaGreatDoor.A8

def TsOk (l : List T) : Prop := ∀ t ∈ l, isTok t.1 t.2.1 = true
theorem TsOk.sfx {l r : List T} (h : TsOk l) (hs : r <:+ l) : TsOk r := fun t ht => h t (hs.subset ht)
theorem TsOk.tail {l : List T} (h : TsOk l) : TsOk l.tail := h.sfx (tail_sfx l)
theorem sees_len {x : List UInt8} {l : List T} (h : seesP x l = true) : l.tail.length + 1 = l.length := by
  cases l with
  | nil => cases h
  | cons t l => rfl
theorem want_len {e : Nat} {x : List UInt8} {l : List T} {u : Unit} {r : List T} (h : wantP e x l = .ok (u, r)) : r.length + 1 = l.length := by
  unfold wantP at h
  split at h
  · rename_i hs
    cases h
    exact sees_len hs
  · cases h
theorem num_okV {e : Nat} {lo hi : Int} {l : List T} {v : Int} {r : List T} (h : numP e lo hi l = .ok (v, r)) : okV v ∧ (lo ≤ v ∧ v ≤ hi) ∧ r.length + 1 = l.length := by
  cases l with
  | nil => cases h
  | cons t l =>
    simp only [numP] at h
    split at h
    · split at h
      · rename_i hx
        cases h
        exact ⟨Sm.okI_iff.1 hx.1, hx.2, rfl⟩
      · cases h
    · cases h
theorem name_okN {e : Nat} {l : List T} {s : List UInt8} {r : List T} (h : nameP e l = .ok (s, r)) : nameB s = true ∧ r.length + 1 = l.length := by
  cases l with
  | nil => cases h
  | cons t l =>
    simp only [nameP] at h
    split at h
    · rename_i hn
      cases h
      exact ⟨hn, rfl⟩
    · cases h
theorem one_ok {tab : List (List UInt8)} {e : Nat} {l : List T} {v : Int} {r : List T} (h : oneP tab e l = .ok (v, r)) : (1 ≤ v ∧ v < (tab.length : Int)) ∧ r.length + 1 = l.length := by
  cases l with
  | nil => cases h
  | cons t l =>
    simp only [oneP] at h
    split at h
    · rename_i hx
      cases h
      exact ⟨by omega, rfl⟩
    · cases h
/-! How long texts are. -/
theorem decK (k : Nat) : ∀ u, u < 10 ^ (k + 1) → (Lib.decDigits u).length ≤ k + 1 := by
  induction k with
  | zero => intro u h; rw [Lib.decDigits_one (by omega)]; simp
  | succ k ih =>
    intro u h
    by_cases h1 : u < 10
    · rw [Lib.decDigits_one h1]; simp
    · rw [Lib.decDigits, dif_neg h1, List.length_append]
      have h2 : 10 ^ (k + 1 + 1) = 10 ^ (k + 1) * 10 := Nat.pow_succ _ _
      have := ih (u / 10) (by omega)
      simp only [List.length_cons, List.length_nil]
      omega
theorem itoaK {v : Int} (h : okV v) : (Lib.itoa v).length ≤ 21 := by
  by_cases h0 : 0 ≤ v
  · rw [Sm.itoa_pos h0]
    have := decK 19 v.toNat (by have := h.2; omega)
    omega
  · rw [Sm.itoa_neg (by omega)]
    have := decK 19 v.natAbs (by have := h.1; omega)
    simp only [List.length_cons]
    omega
theorem sepK (sep : List UInt8) (K : Nat) : ∀ l : List (List UInt8), (∀ x ∈ l, x.length ≤ K) → (sepL sep l).length ≤ (K + sep.length) * l.length
  | [], _ => Nat.zero_le _
  | [x], h => by
    have := h x (by simp)
    show x.length ≤ _
    simp
    omega
  | x :: z :: l, h => by
    have h1 := h x (by simp)
    have h2 := sepK sep K (z :: l) (fun y hy => h y (List.mem_cons_of_mem _ hy))
    rw [sepL, List.length_append, List.length_append]
    rw [List.length_cons (a := x), Nat.mul_succ]
    omega
theorem labelK (x : Int) : (labelT x).length ≤ 194 := by
  unfold labelT
  rw [joinSep, List.length_append, List.length_append]
  have hc : ∀ k ∈ Lb.cats x.toNat, k < 64 := fun k hk => by simpa using (List.mem_filter.1 hk).1
  have h1 := sepK [44] 2 ((Lb.cats x.toNat).map Lib.decDigits) (fun y hy => by
    obtain ⟨u, hu, rfl⟩ := List.mem_map.1 hy
    exact decK 1 u (by have := hc u hu; omega))
  have h2 : (Lb.cats x.toNat).length ≤ 64 := by
    have := List.length_filter_le (x.toNat.testBit) (List.range 64)
    rw [List.length_range] at this
    exact this
  rw [List.length_map] at h1
  have h3 : (2 + [44].length) * (Lb.cats x.toNat).length ≤ 3 * 64 := Nat.mul_le_mul_left 3 h2
  simp only [List.length_cons, List.length_nil] at h1 h3 ⊢
  omega
theorem opsK (v : Int) : (opsA.getD v.toNat []).length ≤ 2 ∧ (funsA.getD v.toNat []).length ≤ 5 := by
  by_cases h : v.toNat < 7
  · have : ∀ i : Fin 7, (opsA.getD i.val []).length ≤ 2 ∧ (funsA.getD i.val []).length ≤ 5 := by decide +kernel
    exact this ⟨v.toNat, h⟩
  · unfold List.getD
    rw [List.getElem?_eq_none (by show 7 ≤ v.toNat; omega), List.getElem?_eq_none (by show 7 ≤ v.toNat; omega)]
    exact ⟨Nat.zero_le _, Nat.zero_le _⟩
theorem cond_ok {e : Nat} {l : List T} {c : Cn} {r : List T} (h : condP e l = .ok (c, r)) : condB c = true ∧ okC c ∧ r.length + 2 = l.length ∧ (condT c).length ≤ 23 := by
  obtain ⟨o, r1, h1, h2⟩ := andThen_some h
  obtain ⟨v, r2, h3, h4⟩ := andThen_some h2
  cases h4
  obtain ⟨a1, a2⟩ := one_ok h1
  obtain ⟨b1, b2, b3⟩ := num_okV h3
  have ho : (opsA.length : Int) = 7 := rfl
  refine ⟨?_, ⟨by unfold okV; simp only; omega, b1⟩, by omega, ?_⟩
  · unfold condB
    simp only [Bool.and_eq_true, decide_eq_true_eq]
    omega
  · unfold condT
    rw [List.length_append]
    have := (opsK o).1
    have := itoaK b1
    simp only
    omega
theorem agg_ok {e : Nat} {l : List T} {a : Ag} {r : List T} (h : aggP e l = .ok (a, r)) : aggB a = true ∧ okV a.fn ∧ r.length + 4 = l.length ∧ (aggT a).length ≤ 15 := by
  obtain ⟨f, r1, h1, h2⟩ := andThen_some h
  obtain ⟨u, r2, h3, h4⟩ := andThen_some h2
  obtain ⟨n, r3, h5, h6⟩ := andThen_some h4
  obtain ⟨u2, r4, h7, h8⟩ := andThen_some h6
  cases h8
  obtain ⟨a1, a2⟩ := one_ok h1
  have b1 := want_len h3
  obtain ⟨c1, c2⟩ := name_okN h5
  have d1 := want_len h7
  have ho : (funsA.length : Int) = 7 := rfl
  refine ⟨?_, by unfold okV; simp only; omega, by omega, ?_⟩
  · unfold aggB
    simp only [Bool.and_eq_true, decide_eq_true_eq]
    exact ⟨by omega, c1⟩
  · unfold aggT
    have := (opsK f).2
    have := (name_facts c1).2.2.2
    simp only [List.length_append, List.length_cons, List.length_nil]
    omega
theorem have_ok {e : Nat} {l : List T} {h' : Hv} {r : List T} (h : haveP e l = .ok (h', r)) : haveB h' = true ∧ (okC h'.cn ∧ okV h'.ag.fn) ∧ r.length + 6 = l.length ∧ (haveT h').length ≤ 39 := by
  obtain ⟨a, r1, h1, h2⟩ := andThen_some h
  obtain ⟨c, r2, h3, h4⟩ := andThen_some h2
  cases h4
  obtain ⟨a1, a2, a3, a4⟩ := agg_ok h1
  obtain ⟨b1, b2, b3, b4⟩ := cond_ok h3
  refine ⟨?_, ⟨b2, a2⟩, by omega, ?_⟩
  · unfold haveB
    rw [a1, b1]
    rfl
  · unfold haveT
    simp only [List.length_append, List.length_cons, List.length_nil]
    omega
/-- A list of parts: each of them is right; how many there are. -/
theorem more_ok {α : Type} {x : List UInt8} {p : List T → R α} {Q : α → Prop} {k : Nat} (hp : ∀ l a r, TsOk l → p l = .ok (a, r) → Q a ∧ r.length + k ≤ l.length) (hE : P9.Ends p) : ∀ (f : Nat) (l : List T) (zs : List α) (r : List T), TsOk l → moreP x p f l = .ok (zs, r) → (∀ z ∈ zs, Q z) ∧ r.length + (k + 1) * zs.length ≤ l.length
  | 0, l, zs, r, _, h => by cases h; exact ⟨(fun z hz => by cases hz), by simp⟩
  | f + 1, l, zs, r, hl, h => by
    unfold moreP at h
    split at h
    · rename_i hs
      obtain ⟨a, r1, h1, h2⟩ := andThen_some h
      obtain ⟨as', r2, h3, h4⟩ := andThen_some h2
      cases h4
      obtain ⟨a1, a2⟩ := hp _ a r1 hl.tail h1
      obtain ⟨b1, b2⟩ := more_ok hp hE f r1 as' r (hl.sfx ((hE _ a r1 h1).trans (tail_sfx l))) h3
      have := sees_len hs
      refine ⟨fun z hz => ?_, ?_⟩
      · rcases List.mem_cons.1 hz with rfl | hz
        · exact a1
        · exact b1 z hz
      · rw [List.length_cons, Nat.mul_succ]
        omega
    · cases h
      exact ⟨(fun z hz => by cases hz), by simp⟩
theorem list_ok {α : Type} {x : List UInt8} {p : List T → R α} {Q : α → Prop} {k : Nat} (hp : ∀ l a r, TsOk l → p l = .ok (a, r) → Q a ∧ r.length + k ≤ l.length) (hE : P9.Ends p) {l : List T} {zs : List α} {r : List T} (hl : TsOk l) (h : listP x p l = .ok (zs, r)) : (∀ z ∈ zs, Q z) ∧ r.length + (k + 1) * zs.length ≤ l.length + 1 := by
  obtain ⟨a, r1, h1, h2⟩ := andThen_some h
  obtain ⟨as', r2, h3, h4⟩ := andThen_some h2
  cases h4
  obtain ⟨a1, a2⟩ := hp _ a r1 hl h1
  obtain ⟨b1, b2⟩ := more_ok hp hE _ r1 as' r (hl.sfx (hE _ a r1 h1)) h3
  refine ⟨fun z hz => ?_, ?_⟩
  · rcases List.mem_cons.1 hz with rfl | hz
    · exact a1
    · exact b1 z hz
  · rw [List.length_cons, Nat.mul_succ]
    omega
theorem moreC_rng {e : Nat} : ∀ (m : Nat) (c : Int) (l : List T) (cs : List Int) (r : List T), moreC e m c l = .ok (cs, r) → ∀ c ∈ cs, 0 ≤ c ∧ c ≤ 63
  | 0, _, _, cs, r, h => by cases h; intro c hc; cases hc
  | m + 1, c, l, cs, r, h => by
    unfold moreC at h
    split at h
    · obtain ⟨a, r1, h1, h2⟩ := andThen_some h
      obtain ⟨zs, r2, h3, h4⟩ := andThen_some h2
      cases h4
      intro x hx
      rcases List.mem_cons.1 hx with rfl | hx
      · obtain ⟨c', r', g1, g2⟩ := andThen_some h1
        split at g2
        · cases g2
        · cases g2; exact (num_okV g1).2.1
      · exact moreC_rng m a r1 zs r h3 x hx
    · cases h
      intro c hc
      cases hc
theorem label_ok {e : Nat} {l : List T} {x : Int} {r : List T} (h : labelP e l = .ok (x, r)) : (0 ≤ x ∧ x < 18446744073709551616) ∧ r.length + 2 ≤ l.length := by
  obtain ⟨u, r1, h1, h2⟩ := andThen_some h
  have h3 := want_len h1
  split at h2
  · rename_i hs
    cases h2
    have := sees_len hs
    exact ⟨by decide, by omega⟩
  · obtain ⟨cs, r2, h4, h5⟩ := andThen_some h2
    obtain ⟨u2, r3, h6, h7⟩ := andThen_some h5
    cases h7
    have h8 := want_len h6
    have h9 := (cats_ends e r1 cs r2 h4).length_le
    refine ⟨?_, by omega⟩
    have hr : ∀ c ∈ cs, 0 ≤ c ∧ c ≤ 63 := by
      obtain ⟨a, r4, g1, g2⟩ := andThen_some h4
      obtain ⟨zs, r5, g3, g4⟩ := andThen_some g2
      cases g4
      intro x hx
      rcases List.mem_cons.1 hx with rfl | hx
      · obtain ⟨c', r', k1, k2⟩ := andThen_some g1
        split at k2
        · cases k2
        · cases k2; exact (num_okV k1).2.1
      · exact moreC_rng _ a r4 zs _ g3 x hx
    have e1 : cs = (cs.map Int.toNat).map fun (k : Nat) => (k : Int) := by
      rw [List.map_map]
      conv => lhs; rw [← List.map_id cs]
      refine List.map_congr_left fun c hc => ?_
      have := hr c hc
      simp
      omega
    have h10 := orAll_nat (cs.map Int.toNat) (fun k hk => by
      obtain ⟨c, hc, rfl⟩ := List.mem_map.1 hk
      have := hr c hc
      omega) 0 (by decide)
    rw [← e1] at h10
    have h11 : Lb.orAll cs = (((cs.map Int.toNat).foldl (fun a k => a ||| 2 ^ k) 0 : Nat) : Int) := h10.1
    rw [h11]
    omega
theorem atom_ok {e : Nat} {l : List T} {a : At} {r : List T} (hl : TsOk l) (h : atomP e l = .ok (a, r)) : atomB a = true ∧ OkB a ∧ r.length + 1 ≤ l.length ∧ (atomT a).length + 100 + 200 * r.length ≤ 200 * l.length ∧ a.nm.length ≤ 8 := by
  obtain ⟨k, r1, h1, h2⟩ := andThen_some h
  obtain ⟨bd, r2, h3, h4⟩ := andThen_some h2
  obtain ⟨cs, r3, h5, h6⟩ := andThen_some h4
  obtain ⟨nm, r4, h7, h8⟩ := andThen_some h6
  cases h8
  -- the letter
  have hk : (0 ≤ k ∧ k ≤ 25) ∧ r1.length + 1 = l.length := by
    cases l with
    | nil => cases h1
    | cons t l =>
      simp only [letterP] at h1
      split at h1
      · rename_i hk2
        cases h1
        have h9 := hl t (by simp)
        rw [hk2] at h9
        obtain ⟨c, h10, h11⟩ := tok_letter h9
        rw [h10]
        unfold largeB at h11
        simp only [Bool.and_eq_true, decide_eq_true_eq] at h11
        simp only [List.headD_cons]
        exact ⟨by omega, rfl⟩
      · cases h1
  have hb : (bd.1 = true ∨ bd.2 = 0) ∧ (0 ≤ bd.2 ∧ bd.2 < 18446744073709551616) ∧ (if bd.1 = true then 64 :: labelT bd.2 else []).length + 200 * r2.length ≤ 200 * r1.length := by
    unfold boundP at h3
    split at h3
    · rename_i hs
      obtain ⟨x, r5, g1, g2⟩ := andThen_some h3
      cases g2
      obtain ⟨k1, k2⟩ := label_ok g1
      have := sees_len hs
      have := labelK x
      refine ⟨.inl rfl, k1, ?_⟩
      simp only [if_true, List.length_cons]
      omega
    · cases h3
      exact ⟨.inr rfl, by decide, by simp⟩
  have hr1 : TsOk r1 := hl.sfx (letter_ends e l k r1 h1)
  have hr2 : TsOk r2 := hr1.sfx (bound_ends e r1 bd r2 h3)
  have hc : (∀ c ∈ cs, condB c = true ∧ okC c) ∧ (listT [91] (cs.map condT) [44] [93]).length + 200 * r3.length ≤ 200 * r2.length := by
    unfold condsP at h5
    split at h5
    · rename_i hs
      obtain ⟨zs, r5, g1, g2⟩ := andThen_some h5
      obtain ⟨u, r6, g3, g4⟩ := andThen_some g2
      cases g4
      obtain ⟨k1, k2⟩ := list_ok (Q := fun c => (condB c = true ∧ okC c) ∧ (condT c).length ≤ 23) (k := 2) (fun l c r _ h => by
        obtain ⟨m1, m2, m3, m4⟩ := cond_ok h
        exact ⟨⟨⟨m1, m2⟩, m4⟩, by omega⟩) (cond_ends e) hr2.tail g1
      refine ⟨fun c hc => (k1 c hc).1, ?_⟩
      have k3 := want_len g3
      have k4 := sees_len hs
      have k5 := sepK [44] 23 (cs.map condT) (fun x hx => by
        obtain ⟨c, hc, rfl⟩ := List.mem_map.1 hx
        exact (k1 c hc).2)
      rw [List.length_map] at k5
      unfold listT
      split
      · simp; omega
      · simp only [List.length_append, List.length_cons, List.length_nil] at k5 ⊢
        omega
    · cases h5
      exact ⟨(fun c hc => by cases hc), by simp [listT]⟩
  have hn : (nm.isEmpty = true ∨ nameB nm = true) ∧ nm.length ≤ 8 ∧ (if nm.isEmpty = true then [] else 58 :: nm).length + 200 * r.length ≤ 200 * r3.length := by
    unfold nmP at h7
    split at h7
    · rename_i hs
      obtain ⟨k1, k2⟩ := name_okN h7
      have k3 := (name_facts k1).2.2.2
      have k4 := sees_len hs
      refine ⟨.inr k1, k3, ?_⟩
      split
      · simp; omega
      · simp only [List.length_cons]; omega
    · cases h7
      exact ⟨.inl rfl, by simp, by simp⟩
  refine ⟨?_, ⟨hb.2.1, fun c hc' => (hc.1 c hc').2⟩, ?_, ?_, hn.2.1⟩
  · unfold atomB
    simp only [Bool.and_eq_true, Bool.or_eq_true, decide_eq_true_eq, List.all_eq_true]
    exact ⟨⟨⟨hk.1, hb.1⟩, fun c hc' => (hc.1 c hc').1⟩, hn.1⟩
  · have e1 := (bound_ends e r1 bd r2 h3).length_le
    have e2 := (conds_ends e r2 cs r3 h5).length_le
    have e3 := (nm_ends e r3 nm r h7).length_le
    omega
  · unfold atomT
    simp only [List.length_append, List.length_cons, List.length_nil] at hb hc hn ⊢
    omega
theorem times_ok {e : Nat} {l : List T} {m : Int × Int} {r : List T} (h : timesP e l = .ok (m, r)) : ((0 ≤ m.1 ∧ m.1 ≤ 99) ∧ 0 ≤ m.2 ∧ m.2 ≤ 99) ∧ (timesT m.1 m.2).length + 200 * r.length ≤ 200 * l.length ∧ r.length ≤ l.length := by
  unfold timesP at h
  split at h
  · rename_i hs
    obtain ⟨a, r1, h1, h2⟩ := andThen_some h
    obtain ⟨u, r2, h3, h4⟩ := andThen_some h2
    obtain ⟨b, r3, h5, h6⟩ := andThen_some h4
    obtain ⟨u2, r4, h7, h8⟩ := andThen_some h6
    cases h8
    obtain ⟨a1, a2, a3⟩ := num_okV h1
    have b1 := want_len h3
    obtain ⟨c1, c2, c3⟩ := num_okV h5
    have d1 := want_len h7
    have := sees_len hs
    refine ⟨⟨a2, c2⟩, ?_, by omega⟩
    have e1 := itoaK a1
    have e2 := itoaK c1
    unfold timesT
    split
    · simp; omega
    · simp only [List.length_append, List.length_cons, List.length_nil]; omega
  · cases h
    refine ⟨by decide, ?_, Nat.le_refl _⟩
    unfold timesT
    simp
end Go.Proofs.YtdjaijhlhhnmeaaGreatDoor.P9
