/- Texts of queries: two sound queries with the same text are the same, and a text has a capital letter for each leaf. Nothing here speaks of the program. -/
import Derived.Test.YtfibmdbplfghcaaGreatDoorAstKm
namespace Go.Proofs.YtfibmdbplfghcaaGreatDoor.A8
open Go.Proofs.YtfibmdbplfghcaaGreatDoor.Tk7 Go.Proofs.YtfibmdbplfghcaaGreatDoor.Lb

/-! Pieces of texts -/
/-- f tells x from y by its text, whatever follows within F. -/
def Tells {α : Type} (f : α → List UInt8) (F : List UInt8 → Prop) (x y : α) : Prop := ∀ r s, F r → F s → f x ++ r = f y ++ s → x = y ∧ r = s
/-- Nothing, or it begins with one of these. -/
def Hd (l : List UInt8) (r : List UInt8) : Prop := ∀ b t, r = b :: t → b ∈ l
def Stp (p : UInt8 → Bool) (r : List UInt8) : Prop := ∀ b t, r = b :: t → p b = false
theorem Hd.stp {l r : List UInt8} {p : UInt8 → Bool} (h : Hd l r) (hp : ∀ b ∈ l, p b = false) : Stp p r := fun b t e => hp b (h b t e)
theorem Hd.mono {l l' r : List UInt8} (h : Hd l r) (hs : ∀ b ∈ l, b ∈ l') : Hd l' r := fun b t e => hs b (h b t e)
theorem Hd.cons {l : List UInt8} {b : UInt8} {t : List UInt8} (h : b ∈ l) : Hd l (b :: t) := fun c u e => by obtain ⟨rfl, rfl⟩ := List.cons.inj e; exact h
theorem Hd.nil (l : List UInt8) : Hd l [] := fun _ _ e => by cases e
theorem stp_cons {p : UInt8 → Bool} {c : UInt8} {u : List UInt8} (hc : p c = false) : Stp p (c :: u) := fun b t e => by obtain ⟨rfl, _⟩ := List.cons.inj e; exact hc
theorem span_same {p : UInt8 → Bool} : ∀ {A B r s : List UInt8}, (∀ b ∈ A, p b = true) → (∀ b ∈ B, p b = true) → Stp p r → Stp p s → A ++ r = B ++ s → A = B ∧ r = s
  | [], [], _, _, _, _, _, _, h => ⟨rfl, h⟩
  | [], b :: B, r, s, _, hb, hr, _, h => by have h1 := hr b (B ++ s) h; rw [hb b (by simp)] at h1; cases h1
  | a :: A, [], r, s, ha, _, _, hs, h => by have h1 := hs a (A ++ r) h.symm; rw [ha a (by simp)] at h1; cases h1
  | a :: A, b :: B, r, s, ha, hb, hr, hs, h => by
    obtain ⟨e, h'⟩ := List.cons.inj h
    obtain ⟨h1, h2⟩ := span_same (fun c hc => ha c (by simp [hc])) (fun c hc => hb c (by simp [hc])) hr hs h'
    exact ⟨by rw [e, h1], h2⟩
theorem cut_same {c : UInt8} : ∀ {A B R S : List UInt8}, c ∉ A → c ∉ B → A ++ c :: R = B ++ c :: S → A = B ∧ R = S
  | [], [], R, S, _, _, h => ⟨rfl, (List.cons.inj h).2⟩
  | [], b :: B, R, S, _, hb, h => absurd (List.cons.inj h).1 (fun e => hb (by rw [e]; simp))
  | a :: A, [], R, S, ha, _, h => absurd (List.cons.inj h).1 (fun e => ha (by rw [← e]; simp))
  | a :: A, b :: B, R, S, ha, hb, h => by
    obtain ⟨e, h'⟩ := List.cons.inj h
    obtain ⟨h1, h2⟩ := cut_same (fun m => ha (by simp [m])) (fun m => hb (by simp [m])) h'
    exact ⟨by rw [e, h1], h2⟩
theorem sep_tells {α : Type} {f : α → List UInt8} {sep : List UInt8} {F G : List UInt8 → Prop} (hF : ∀ r, F (sep ++ r)) (hG : ∀ r, G r → F r ∧ ∀ t, r ≠ sep ++ t) : ∀ (l l' : List α), l ≠ [] → l' ≠ [] → (∀ x ∈ l, ∀ y ∈ l', Tells f F x y) → ∀ r s, G r → G s → sepL sep (l.map f) ++ r = sepL sep (l'.map f) ++ s → l = l' ∧ r = s
  | [], _, h, _, _, _, _, _, _, _ => absurd rfl h
  | _ :: _, [], _, h, _, _, _, _, _, _ => absurd rfl h
  | [x], [y], _, _, ht, r, s, hr, hs, h => by
    obtain ⟨e, h2⟩ := ht x (by simp) y (by simp) r s (hG r hr).1 (hG s hs).1 h
    exact ⟨by rw [e], h2⟩
  | [x], y :: y2 :: l', _, _, ht, r, s, hr, hs, h => by
    have h' : f x ++ r = f y ++ (sep ++ (sepL sep ((y2 :: l').map f) ++ s)) := by
      refine Eq.trans (show f x ++ r = _ from h) ?_
      simp only [List.map_cons, sepL, List.append_assoc]
    obtain ⟨_, e⟩ := ht x (by simp) y (by simp) _ _ (hG r hr).1 (hF _) h'
    exact absurd e ((hG r hr).2 _)
  | x :: x2 :: l, [y], _, _, ht, r, s, hr, hs, h => by
    have h' : f x ++ (sep ++ (sepL sep ((x2 :: l).map f) ++ r)) = f y ++ s := by
      refine Eq.trans ?_ h
      simp only [List.map_cons, sepL, List.append_assoc]
    obtain ⟨_, e⟩ := ht x (by simp) y (by simp) _ _ (hF _) (hG s hs).1 h'
    exact absurd e.symm ((hG s hs).2 _)
  | x :: x2 :: l, y :: y2 :: l', _, _, ht, r, s, hr, hs, h => by
    have h' : f x ++ (sep ++ (sepL sep ((x2 :: l).map f) ++ r)) = f y ++ (sep ++ (sepL sep ((y2 :: l').map f) ++ s)) := by
      refine Eq.trans ?_ (Eq.trans h ?_)
      · simp only [List.map_cons, sepL, List.append_assoc]
      · simp only [List.map_cons, sepL, List.append_assoc]
    obtain ⟨e, e2⟩ := ht x (by simp) y (by simp) _ _ (hF _) (hF _) h'
    have e3 := List.append_cancel_left e2
    obtain ⟨e4, e5⟩ := sep_tells hF hG (x2 :: l) (y2 :: l') (by simp) (by simp) (fun u hu v hv => ht u (by simp at hu ⊢; exact .inr hu) v (by simp at hv ⊢; exact .inr hv)) r s hr hs e3
    exact ⟨by rw [e, e4], e5⟩

/-! Numbers -/
def isDg (b : UInt8) : Bool := decide (48 ≤ b.toNat) && decide (b.toNat ≤ 57)
theorem dg_val (d : Nat) (h : d < 10) : (UInt8.ofNat (48 + d)).toNat = 48 + d := by
  rw [UInt8.toNat_ofNat']
  omega
def decV (a : Nat) (ds : List UInt8) : Nat := ds.foldl (fun a d => 10 * a + (d.toNat - 48)) a
theorem decV_snoc (a : Nat) (ds : List UInt8) (d : UInt8) : decV a (ds ++ [d]) = 10 * decV a ds + (d.toNat - 48) := by unfold decV; rw [List.foldl_append]; rfl
theorem dec_facts : ∀ u : Nat, (∀ b ∈ Lib.decDigits u, isDg b = true) ∧ decV 0 (Lib.decDigits u) = u ∧ Lib.decDigits u ≠ [] := by
  intro u
  induction u using Nat.strongRecOn with
  | ind u ih =>
    by_cases h : u < 10
    · rw [Lib.decDigits_one h]
      refine ⟨fun b hb => ?_, ?_, by simp⟩
      · rw [List.mem_singleton.1 hb]
        unfold isDg
        rw [dg_val u h]
        simp
        omega
      · show 10 * 0 + ((UInt8.ofNat (48 + u)).toNat - 48) = u
        rw [dg_val u h]
        omega
    · have e : Lib.decDigits u = Lib.decDigits (u / 10) ++ [UInt8.ofNat (48 + u % 10)] := by rw [Lib.decDigits, dif_neg h]
      obtain ⟨h1, h2, h3⟩ := ih (u / 10) (by omega)
      rw [e]
      refine ⟨fun b hb => ?_, ?_, by simp⟩
      · rcases List.mem_append.1 hb with hb | hb
        · exact h1 b hb
        · rw [List.mem_singleton.1 hb]
          unfold isDg
          rw [dg_val _ (Nat.mod_lt _ (by omega))]
          simp
          omega
      · rw [decV_snoc, h2, dg_val _ (Nat.mod_lt _ (by omega))]
        omega
theorem dec_inj {u v : Nat} (h : Lib.decDigits u = Lib.decDigits v) : u = v := by rw [← (dec_facts u).2.1, ← (dec_facts v).2.1, h]
theorem dec_tells (u v : Nat) : Tells Lib.decDigits (Stp isDg) u v := fun r s hr hs h => by
  obtain ⟨h1, h2⟩ := span_same (dec_facts u).1 (dec_facts v).1 hr hs h
  exact ⟨dec_inj h1, h2⟩
theorem itoa_form (v : Int) : Lib.itoa v = if v < 0 then 45 :: Lib.decDigits v.natAbs else Lib.decDigits v.toNat := rfl
/-- What a number begins with. -/
theorem itoa_head (v : Int) : ∃ b t, Lib.itoa v = b :: t ∧ (b = 45 ∨ isDg b = true) := by
  rw [itoa_form]
  split
  · exact ⟨45, _, rfl, .inl rfl⟩
  · obtain ⟨h1, _, h3⟩ := dec_facts v.toNat
    cases e : Lib.decDigits v.toNat with
    | nil => exact absurd e h3
    | cons b t => exact ⟨b, t, rfl, .inr (h1 b (by rw [e]; simp))⟩
theorem itoa_tells (v x : Int) : Tells Lib.itoa (Stp isDg) v x := fun r s hr hs h => by
  have hno : ∀ u (A : List UInt8) r', Lib.decDigits u ++ r' ≠ 45 :: A := fun u A r' e => by
    obtain ⟨h1, _, h3⟩ := dec_facts u
    cases e' : Lib.decDigits u with
    | nil => exact h3 e'
    | cons b t =>
      rw [e'] at e
      have h4 := h1 b (by rw [e']; simp)
      rw [(List.cons.inj e).1] at h4
      exact absurd h4 (by decide)
  rw [itoa_form, itoa_form] at h
  by_cases h1 : v < 0
  · rw [if_pos h1] at h
    by_cases h2 : x < 0
    · rw [if_pos h2] at h
      obtain ⟨e, e2⟩ := dec_tells _ _ r s hr hs (List.cons.inj h).2
      exact ⟨by omega, e2⟩
    · rw [if_neg h2] at h
      exact absurd h.symm (hno _ _ _)
  · rw [if_neg h1] at h
    by_cases h2 : x < 0
    · rw [if_pos h2] at h
      exact absurd h (hno _ _ _)
    · rw [if_neg h2] at h
      obtain ⟨e, e2⟩ := dec_tells _ _ r s hr hs h
      exact ⟨by omega, e2⟩

/-! Conditions, labels, atoms -/
theorem ops_same (i j : Nat) (hi : 1 ≤ i) (hi6 : i ≤ 6) (hj : 1 ≤ j) (hj6 : j ≤ 6) (b c : UInt8) (r s : List UInt8) (hb : b ≠ 61) (hc : c ≠ 61) (h : opsA.getD i [] ++ b :: r = opsA.getD j [] ++ c :: s) : i = j := by
  rcases (by omega : i = 1 ∨ i = 2 ∨ i = 3 ∨ i = 4 ∨ i = 5 ∨ i = 6) with rfl | rfl | rfl | rfl | rfl | rfl <;> rcases (by omega : j = 1 ∨ j = 2 ∨ j = 3 ∨ j = 4 ∨ j = 5 ∨ j = 6) with rfl | rfl | rfl | rfl | rfl | rfl
  all_goals first
    | rfl
    | (simp [opsA] at h; done)
    | (simp [opsA] at h; exact absurd h.1 hb)
    | (simp [opsA] at h; exact absurd h.1.symm hc)
theorem condB_iff {c : Cn} : condB c = true ↔ 1 ≤ c.op ∧ c.op ≤ 6 := by simp [condB]
theorem cond_tells {c d : Cn} (hc : condB c = true) (hd : condB d = true) : Tells condT (Stp isDg) c d := fun r s hr hs h => by
  obtain ⟨c1, c2⟩ := condB_iff.1 hc
  obtain ⟨d1, d2⟩ := condB_iff.1 hd
  obtain ⟨op, va⟩ := c
  obtain ⟨op', va'⟩ := d
  simp only at c1 c2 d1 d2
  unfold condT at h
  simp only [List.append_assoc] at h
  obtain ⟨b, t, e, hb⟩ := itoa_head va
  obtain ⟨b', t', e', hb'⟩ := itoa_head va'
  have n1 : b ≠ 61 := fun x => by subst x; rcases hb with hb | hb <;> exact absurd hb (by decide)
  have n2 : b' ≠ 61 := fun x => by subst x; rcases hb' with hb | hb <;> exact absurd hb (by decide)
  have h0 := h
  rw [e, e'] at h0
  have h2 := ops_same op.toNat op'.toNat (by omega) (by omega) (by omega) (by omega) b b' (t ++ r) (t' ++ s) n1 n2 h0
  have h3 : op = op' := by omega
  subst h3
  have h4 := List.append_cancel_left h
  obtain ⟨e1, e2⟩ := itoa_tells va va' r s hr hs h4
  exact ⟨by rw [e1], e2⟩
theorem join_sep (sep : List UInt8) : ∀ l : List (List UInt8), Lib.join l sep = sepL sep l
  | [] => rfl
  | [x] => by rw [Lib.join_one, sepL]
  | x :: y :: l => by
    have h := join_sep sep (y :: l)
    rw [Lib.join_cons] at h
    rw [Lib.join_cons, sepL, ← h]
    show x ++ ((y :: l).map (sep ++ ·)).flatten = _
    rw [List.map_cons, List.flatten_cons]
    simp only [List.append_assoc]
    rfl
theorem sep_mem {sep : List UInt8} {b : UInt8} : ∀ {l : List (List UInt8)}, b ∈ sepL sep l → b ∈ sep ∨ ∃ x ∈ l, b ∈ x
  | [], h => by cases h
  | [x], h => .inr ⟨x, by simp, h⟩
  | x :: y :: l, h => by
    rw [sepL] at h
    rcases List.mem_append.1 h with h | h
    · rcases List.mem_append.1 h with h | h
      · exact .inr ⟨x, by simp, h⟩
      · exact .inl h
    · rcases sep_mem h with h | ⟨z, hz, h⟩
      · exact .inl h
      · exact .inr ⟨z, by simp at hz ⊢; exact .inr hz, h⟩
theorem cats_same {n m : Nat} (hn : n < 18446744073709551616) (hm : m < 18446744073709551616) (h : cats n = cats m) : n = m := by
  refine Nat.eq_of_testBit_eq fun i => ?_
  by_cases hi : i < 64
  · have h1 : i ∈ cats n ↔ i ∈ cats m := by rw [h]
    unfold cats at h1
    simp only [List.mem_filter, List.mem_range, hi, true_and] at h1
    cases h2 : n.testBit i <;> cases h3 : m.testBit i <;> simp_all
  · have big : ∀ k, k < 18446744073709551616 → k.testBit i = false := fun k hk => Nat.testBit_lt_two_pow (Nat.lt_of_lt_of_le hk (by
      have := Nat.pow_le_pow_right (n := 2) (by decide) (show 64 ≤ i by omega)
      exact Nat.le_trans (by decide) this))
    rw [big n hn, big m hm]
theorem label_tells {x y : Int} (hx : 0 ≤ x ∧ x < 18446744073709551616) (hy : 0 ≤ y ∧ y < 18446744073709551616) (r s : List UInt8) (h : labelT x ++ r = labelT y ++ s) : x = y ∧ r = s := by
  unfold labelT at h
  have no : ∀ n : Nat, (125 : UInt8) ∉ [123] ++ sepL [44] ((cats n).map Lib.decDigits) := fun n hm => by
    rcases List.mem_append.1 hm with hm | hm
    · exact absurd hm (by decide)
    · rcases sep_mem hm with hm | ⟨z, hz, hm⟩
      · exact absurd hm (by decide)
      · obtain ⟨u, _, rfl⟩ := List.mem_map.1 hz
        exact absurd ((dec_facts u).1 _ hm) (by decide)
  rw [join_sep, join_sep] at h
  have h1 : ([123] ++ sepL [44] ((cats x.toNat).map Lib.decDigits)) ++ 125 :: r = ([123] ++ sepL [44] ((cats y.toNat).map Lib.decDigits)) ++ 125 :: s := by
    simpa using h
  obtain ⟨h2, h3⟩ := cut_same (no _) (no _) h1
  refine ⟨?_, h3⟩
  have h4 := List.append_cancel_left h2
  have nz : ∀ l : List Nat, l ≠ [] → sepL [44] (l.map Lib.decDigits) ≠ [] := fun l hl => by
    match l with
    | [] => exact absurd rfl hl
    | [u] => exact (dec_facts u).2.2
    | u :: v :: l =>
      intro e
      simp only [List.map_cons, sepL] at e
      have := congrArg List.length e
      simp at this
  have h5 : cats x.toNat = cats y.toNat := by
    by_cases e1 : cats x.toNat = []
    · by_cases e2 : cats y.toNat = []
      · rw [e1, e2]
      · rw [e1] at h4
        exact absurd h4.symm (nz _ e2)
    · by_cases e2 : cats y.toNat = []
      · rw [e2] at h4
        exact absurd h4 (nz _ e1)
      · exact (sep_tells (F := Stp isDg) (G := fun r => r = []) (sep := [44]) (fun r => stp_cons (c := 44) (u := r) (by decide)) (fun r hr => ⟨fun b t e => (by rw [hr] at e; cases e), fun t e => (by rw [hr] at e; cases e)⟩) _ _ e1 e2 (fun u _ v _ => dec_tells u v) [] [] rfl rfl (by rw [h4])).1
  have := cats_same (by omega) (by omega) h5
  omega
/-- A piece that may be there, told by its first byte. -/
theorem opt_tells {c d : Bool} {k : UInt8} {X Y r s : List UInt8} {l : List UInt8} (hk : k ∉ l) (hr : Hd l r) (hs : Hd l s) (h : (if c = true then k :: X else []) ++ r = (if d = true then k :: Y else []) ++ s) : c = d ∧ (c = true → X ++ r = Y ++ s) ∧ (c = false → r = s) := by
  cases c with
  | true =>
    cases d with
    | true => exact ⟨rfl, fun _ => (List.cons.inj h).2, fun e => by cases e⟩
    | false => exact absurd (hs k (X ++ r) h.symm) hk
  | false =>
    cases d with
    | true => exact absurd (hr k (Y ++ s) h) hk
    | false => exact ⟨rfl, fun e => (by cases e), fun _ => h⟩
theorem nameB_all {s : List UInt8} (h : nameB s = true) : ∀ b ∈ s, smallB b = true := by
  unfold nameB at h
  simp only [Bool.and_eq_true] at h
  exact List.all_eq_true.1 h.1.2
theorem cnm_all {a : At} (h : atomB a = true) : ∀ b ∈ a.nm, smallB b = true := by
  unfold atomB at h
  simp only [Bool.and_eq_true, Bool.or_eq_true] at h
  rcases h.2 with h | h
  · intro b hb
    rw [List.isEmpty_iff.1 h] at hb
    cases hb
  · exact nameB_all h
theorem listT_form (bef : UInt8) (l : List (List UInt8)) (btw aft : List UInt8) : listT [bef] l btw aft = if (!l.isEmpty) = true then bef :: (sepL btw l ++ aft) else [] := by
  unfold listT
  cases l <;> simp
theorem atom_tells {a b : At} (ha : atomB a = true) (hb : atomB b = true) (hba : 0 ≤ a.bn ∧ a.bn < 18446744073709551616) (hbb : 0 ≤ b.bn ∧ b.bn < 18446744073709551616) : Tells atomT (Hd [123, 32, 41]) a b := fun r s hr hs h => by
  have na := cnm_all ha
  have nb := cnm_all hb
  obtain ⟨kd, bd, bn, cs, nm⟩ := a
  obtain ⟨kd', bd', bn', cs', nm'⟩ := b
  unfold atomB at ha hb
  simp only [Bool.and_eq_true, Bool.or_eq_true, decide_eq_true_eq] at ha hb
  obtain ⟨⟨⟨⟨k0, k1⟩, hbd⟩, hcs⟩, -⟩ := ha
  obtain ⟨⟨⟨⟨k0', k1'⟩, hbd'⟩, hcs'⟩, -⟩ := hb
  simp only at hba hbb na nb
  unfold atomT at h
  simp only [List.append_assoc] at h
  have e1 : UInt8.ofNat (65 + kd.toNat) = UInt8.ofNat (65 + kd'.toNat) := (List.cons.inj h).1
  have e1' : kd = kd' := by
    have := congrArg UInt8.toNat e1
    rw [UInt8.toNat_ofNat', UInt8.toNat_ofNat'] at this
    omega
  subst e1'
  replace h := (List.cons.inj h).2
  change (if bd = true then 64 :: labelT bn else []) ++ _ = (if bd' = true then 64 :: labelT bn' else []) ++ _ at h
  simp only [listT_form] at h
  have nmf : ∀ n : List UInt8, (if n.isEmpty = true then ([] : List UInt8) else 58 :: n) = if (!n.isEmpty) = true then 58 :: n else [] := fun n => by cases n <;> rfl
  simp only [nmf] at h
  have t3 : ∀ (n u : List UInt8), Hd [123, 32, 41] u → Hd [58, 123, 32, 41] ((if (!n.isEmpty) = true then 58 :: n else []) ++ u) := fun n u hu => by
    split
    · exact Hd.cons (by simp)
    · exact hu.mono (by simp +contextual)
  have t2 : ∀ (l : List (List UInt8)) (u : List UInt8), Hd [58, 123, 32, 41] u → Hd [91, 58, 123, 32, 41] ((if (!l.isEmpty) = true then 91 :: (sepL [44] l ++ [93]) else []) ++ u) := fun n u hu => by
    split
    · exact Hd.cons (by simp)
    · exact hu.mono (by simp +contextual)
  obtain ⟨rfl, b1, b2⟩ := opt_tells (l := [91, 58, 123, 32, 41]) (by decide) (t2 _ _ (t3 _ _ hr)) (t2 _ _ (t3 _ _ hs)) h
  have h5 : bn = bn' ∧ (if (!(cs.map condT).isEmpty) = true then 91 :: (sepL [44] (cs.map condT) ++ [93]) else []) ++ ((if (!nm.isEmpty) = true then 58 :: nm else []) ++ r) = (if (!(cs'.map condT).isEmpty) = true then 91 :: (sepL [44] (cs'.map condT) ++ [93]) else []) ++ ((if (!nm'.isEmpty) = true then 58 :: nm' else []) ++ s) := by
    cases bd with
    | true => exact label_tells hba hbb _ _ (b1 rfl)
    | false =>
      refine ⟨?_, b2 rfl⟩
      have h6 := hbd.resolve_left (by simp)
      have h7 := hbd'.resolve_left (by simp)
      rw [h6, h7]
  obtain ⟨rfl, h5⟩ := h5
  obtain ⟨c0, c1, c2⟩ := opt_tells (l := [58, 123, 32, 41]) (by decide) (t3 _ _ hr) (t3 _ _ hs) h5
  have h8 : cs = cs' ∧ (if (!nm.isEmpty) = true then 58 :: nm else []) ++ r = (if (!nm'.isEmpty) = true then 58 :: nm' else []) ++ s := by
    cases cs with
    | nil =>
      cases cs' with
      | nil => exact ⟨rfl, c2 rfl⟩
      | cons y ys => cases c0
    | cons x xs =>
      cases cs' with
      | nil => cases c0
      | cons y ys =>
        have c3 := c1 rfl
        rw [List.append_assoc, List.append_assoc] at c3
        have ac := List.all_eq_true.1 hcs
        have ac' := List.all_eq_true.1 hcs'
        obtain ⟨c4, c5⟩ := sep_tells (F := Stp isDg) (G := fun r => ∃ t, r = 93 :: t) (sep := [44]) (fun r => stp_cons (c := 44) (u := r) (by decide)) (fun r hr => by
          obtain ⟨t, rfl⟩ := hr
          exact ⟨stp_cons (by decide), fun u e => by exact absurd (List.cons.inj e).1 (by decide)⟩) (x :: xs) (y :: ys) (by simp) (by simp) (fun u hu v hv => cond_tells (ac u hu) (ac' v hv)) _ _ ⟨_, rfl⟩ ⟨_, rfl⟩ c3
        exact ⟨c4, (List.cons.inj c5).2⟩
  obtain ⟨rfl, h8⟩ := h8
  obtain ⟨d0, d1, d2⟩ := opt_tells (l := [123, 32, 41]) (by decide) hr hs h8
  have h9 : nm = nm' ∧ r = s := by
    cases nm with
    | nil =>
      cases nm' with
      | nil => exact ⟨rfl, d2 rfl⟩
      | cons y ys => cases d0
    | cons x xs =>
      cases nm' with
      | nil => cases d0
      | cons y ys => exact span_same (p := smallB) na nb (hr.stp (by decide)) (hs.stp (by decide)) (d1 rfl)
  obtain ⟨rfl, rfl⟩ := h9
  exact ⟨rfl, rfl⟩
end Go.Proofs.YtfibmdbplfghcaaGreatDoor.A8
