/- Texts and the tokens in them: what reads the bytes of a part as this part, whatever follows. Nothing here speaks of the program. -/
import Derived.Test.YtdjaijhlhhnmeaaGreatDoorParSpec
import Derived.Test.YtdjaijhlhhnmeaaGreatDoorLabSm
namespace Go.Proofs.YtdjaijhlhhnmeaaGreatDoor.P9
open Go.Proofs.YtdjaijhlhhnmeaaGreatDoor.Tk7 Go.Proofs.YtdjaijhlhhnmeaaGreatDoor.A8

/-! One token in front of what follows. -/
/-- Nothing follows, or a byte for which p is false. -/
def Nx (p : UInt8 → Bool) (r : List UInt8) : Prop := ∀ b t, r = b :: t → p b = false
theorem nx_nil (p : UInt8 → Bool) : Nx p [] := fun _ _ e => by cases e
theorem nx_cons {p : UInt8 → Bool} {c : UInt8} {u : List UInt8} (hc : p c = false) : Nx p (c :: u) := fun b t e => by obtain ⟨rfl, _⟩ := List.cons.inj e; exact hc
theorem while_app {p : UInt8 → Bool} : ∀ {x r : List UInt8}, (∀ b ∈ x, p b = true) → Nx p r → (x ++ r).takeWhile p = x
  | [], r, _, hr => by
    cases r with
    | nil => rfl
    | cons b t => rw [List.nil_append, List.takeWhile_cons, if_neg (by rw [hr b t rfl]; decide)]
  | c :: x, r, hx, hr => by
    rw [List.cons_append, List.takeWhile_cons, if_pos (hx c (by simp)), while_app (fun b hb => hx b (List.mem_cons_of_mem _ hb)) hr]
/-- The text x is the first token of x ++ r, of this kind. -/
structure Fits (kd : Nat) (x r : List UInt8) : Prop where
  beg : begG (x ++ r) = (kd, x.length)
  hd : ∃ b t, x = b :: t ∧ blankB b = false
theorem toks_fit {kd : Nat} {x r : List UInt8} (h : Fits kd x r) (k : Nat) : toksG (x ++ r) k = glue (kd, x, k) (toksG r (k + x.length)) := by
  obtain ⟨h1, b, t, rfl, hb⟩ := h
  rw [toksG_eq]
  rw [List.cons_append] at h1 ⊢
  rw [List.dropWhile_cons, if_neg (by rw [hb]; decide)]
  simp only
  rw [h1]
  simp only
  rw [if_neg (by simp), Nat.sub_self, Nat.add_zero, ← List.cons_append, List.take_left, List.drop_left]
theorem small_not {b : UInt8} (h : smallB b = true) : blankB b = false := by
  cases e : blankB b
  · rfl
  · rw [(blank_not e).1] at h; cases h
theorem fits_word {x r : List UInt8} (hx : ∀ b ∈ x, smallB b = true) (hn : x ≠ []) (hr : Nx smallB r) : Fits 1 x r := by
  cases x with
  | nil => exact absurd rfl hn
  | cons b t =>
    have hb := hx b (by simp)
    refine ⟨?_, b, t, rfl, small_not hb⟩
    rw [List.cons_append, begG, if_pos hb, while_app (fun c hc => hx c (List.mem_cons_of_mem _ hc)) hr]
    rfl
theorem fits_letter {b : UInt8} (r : List UInt8) (hb : largeB b = true) : Fits 2 [b] r := by
  have h1 : smallB b = false := by
    unfold largeB at hb
    unfold smallB
    simp only [Bool.and_eq_true, decide_eq_true_eq] at hb
    simp only [Bool.and_eq_false_iff, decide_eq_false_iff_not]
    omega
  have h2 : blankB b = false := by
    cases e : blankB b
    · rfl
    · rw [(blank_not e).2.1] at hb; cases hb
  refine ⟨?_, b, [], rfl, h2⟩
  rw [List.cons_append, begG, if_neg (by rw [h1]; decide), if_pos hb]
  rfl
/-- A sign of one byte that does not begin a longer one. -/
def signB (b : UInt8) : Bool := oneB b && !smallB b && !largeB b && !digB b && !(b == 45) && !blankB b
theorem fits_sign {b : UInt8} {r : List UInt8} (hb : signB b = true) (hr : twoB b = false ∨ ∀ t, r ≠ 61 :: t) : Fits 4 [b] r := by
  unfold signB at hb
  simp only [Bool.and_eq_true, Bool.not_eq_true'] at hb
  obtain ⟨⟨⟨⟨⟨h1, h2⟩, h3⟩, h4⟩, h5⟩, h6⟩ := hb
  refine ⟨?_, b, [], rfl, h6⟩
  have h7 : (twoB b && (r.head? == some 61)) = false := by
    rcases hr with h | h
    · rw [h]; rfl
    · cases r with
      | nil => simp
      | cons c t =>
        have : c ≠ 61 := fun e => h t (by rw [e])
        simp [this]
  show begG (b :: r) = _
  rw [begG, if_neg (by rw [h2]; decide), if_neg (by rw [h3]; decide), if_neg (by rw [h4, h5]; decide), signG, if_neg (by rw [h7]; decide), if_pos h1]
  rfl
theorem fits_two {b : UInt8} (r : List UInt8) (hb : twoB b = true) (hn : smallB b = false ∧ largeB b = false ∧ digB b = false ∧ (b == 45) = false ∧ blankB b = false) : Fits 4 [b, 61] r := by
  obtain ⟨h2, h3, h4, h5, h6⟩ := hn
  refine ⟨?_, b, [61], rfl, h6⟩
  show begG (b :: 61 :: r) = _
  rw [begG, if_neg (by rw [h2]; decide), if_neg (by rw [h3]; decide), if_neg (by rw [h4, h5]; decide), signG, if_pos (by rw [hb]; rfl)]
  rfl
theorem dig_not {b : UInt8} (h : digB b = true) : smallB b = false ∧ largeB b = false ∧ blankB b = false ∧ (b == 45) = false := by
  have hb : blankB b = false := by
    cases e : blankB b
    · rfl
    · rw [(blank_not e).2.2.1] at h; cases h
  unfold digB at h
  simp only [Bool.and_eq_true, decide_eq_true_eq] at h
  refine ⟨?_, ?_, hb, ?_⟩
  · unfold smallB; simp only [Bool.and_eq_false_iff, decide_eq_false_iff_not]; omega
  · unfold largeB; simp only [Bool.and_eq_false_iff, decide_eq_false_iff_not]; omega
  · cases e : (b == 45)
    · rfl
    · rw [beq_iff_eq] at e; subst e; exact absurd h (by decide)
theorem dec_form (u : Nat) : (∀ b ∈ Lib.decDigits u, digB b = true) ∧ ∃ b t, Lib.decDigits u = b :: t ∧ (b = 48 → t = [] ∧ u = 0) := by
  have h1 : ∀ b ∈ Lib.decDigits u, digB b = true := fun b hb => Sm.dec_all u b hb
  refine ⟨h1, ?_⟩
  by_cases h0 : u = 0
  · subst h0
    exact ⟨48, [], by rw [Sm.dec_one (by omega)]; rfl, fun _ => ⟨rfl, rfl⟩⟩
  · obtain ⟨d, ds, e, hd⟩ := Sm.dec_head u (by omega)
    exact ⟨d, ds, e, fun h => by subst h; exact absurd hd (by decide)⟩
theorem fits_num (v : Int) {r : List UInt8} (hr : Nx digB r) : Fits 3 (Lib.itoa v) r := by
  by_cases h : 0 ≤ v
  · rw [Sm.itoa_pos h]
    obtain ⟨h1, b, t, e, h2⟩ := dec_form v.toNat
    rw [e] at h1 ⊢
    have hb := h1 b (by simp)
    obtain ⟨n1, n2, n3, n4⟩ := dig_not hb
    refine ⟨?_, b, t, rfl, n3⟩
    have hw := while_app (p := digB) (x := t) (r := r) (fun c hc => h1 c (List.mem_cons_of_mem _ hc)) hr
    rw [List.cons_append, begG, if_neg (by rw [n1]; decide), if_neg (by rw [n2]; decide), if_pos (by rw [hb]; rfl), numG, if_neg (by rw [n4]; decide), hw]
    have hR : rightD false (b :: t) = true := by
      unfold rightD
      by_cases e48 : b = 48
      · obtain ⟨rfl, -⟩ := h2 e48
        subst e48
        rfl
      · simp [e48]
    rw [if_pos hR]
    rfl
  · rw [Sm.itoa_neg (by omega)]
    obtain ⟨h1, b, t, e, h2⟩ := dec_form v.natAbs
    refine ⟨?_, 45, _, rfl, by decide⟩
    have hw := while_app (p := digB) (x := Lib.decDigits v.natAbs) (r := r) h1 hr
    rw [List.cons_append, begG, if_neg (by decide), if_neg (by decide), if_pos (by decide), numG, if_pos (by decide), hw]
    have hR : rightD true (Lib.decDigits v.natAbs) = true := by
      rw [e]
      unfold rightD
      by_cases e48 : b = 48
      · exact absurd (h2 e48).2 (by omega)
      · simp [e48]
    rw [if_pos hR]
    rfl
theorem val_itoa {v : Int} (h : Sm.okI v = true) : Sm.valV (Lib.itoa v) = v := by
  have h1 := Sm.int_itoa v h
  obtain ⟨h1, h2⟩ := h1
  unfold Sm.intE at h2
  cases hf : Sm.formB (Lib.itoa v) with
  | false => rw [if_neg (by rw [hf]; decide)] at h2; exact absurd h2 (by decide)
  | true =>
    rw [if_pos hf] at h2
    cases ho : Sm.okI (Sm.valV (Lib.itoa v)) with
    | false => rw [if_neg (by rw [ho]; decide)] at h2; exact absurd h2 (by decide)
    | true =>
      unfold Sm.intN at h1
      rw [if_pos hf, Sm.numI_ok ho] at h1
      exact h1

/-! What reads a part. -/
/-- The first byte that is no blank is none of these. -/
def Nb (l : List UInt8) (r : List UInt8) : Prop := ∀ b t, r.dropWhile blankB = b :: t → b ∉ l
theorem Nb.mono {l l' r : List UInt8} (h : Nb l r) (hs : ∀ b ∈ l', b ∈ l) : Nb l' r := fun b t e hb => h b t e (hs b hb)
theorem nb_nil (l : List UInt8) : Nb l [] := fun _ _ e => by cases e
theorem nb_cons {l : List UInt8} {b : UInt8} {r : List UInt8} (hb : blankB b = false) (h : b ∉ l) : Nb l (b :: r) := fun c t e => by
  rw [List.dropWhile_cons, if_neg (by rw [hb]; decide)] at e
  obtain ⟨rfl, _⟩ := List.cons.inj e
  exact h
theorem nb_blank {l : List UInt8} {b : UInt8} {r : List UInt8} (hb : blankB b = true) : Nb l (b :: r) ↔ Nb l r := by
  unfold Nb
  rw [List.dropWhile_cons, if_pos hb]
theorem sees_not {c : UInt8} {s l r : List UInt8} {k : Nat} {ts : List T} (hc : c ∈ l) (h : Nb l r) (ht : toksG r k = .ok ts) : seesP (c :: s) ts = false := by
  rw [toksG_eq] at ht
  cases hd : r.dropWhile blankB with
  | nil => rw [hd] at ht; cases ht; rfl
  | cons b t =>
    rw [hd] at ht
    simp only at ht
    have hb := h b t hd
    split at ht
    · cases ht
    · rename_i hz
      cases hr : toksG ((b :: t).drop (begG (b :: t)).2) (k + (r.length - (b :: t).length) + (begG (b :: t)).2) with
      | error y => rw [hr] at ht; cases ht
      | ok us =>
        rw [hr] at ht
        cases ht
        show (((b :: t).take (begG (b :: t)).2) == c :: s) = false
        obtain ⟨n, hn⟩ : ∃ n, (begG (b :: t)).2 = n + 1 := ⟨(begG (b :: t)).2 - 1, by omega⟩
        rw [hn, List.take_succ_cons]
        have : b ≠ c := fun e => hb (e ▸ hc)
        simp [this]
/-- p reads the bytes x as a, where F follows; with W no token of them is the word within. -/
def Reads {α : Type} (W : Prop) (p : Nat → List T → R α) (x : List UInt8) (a : α) (F : List UInt8 → Prop) : Prop :=
  ∀ r k ts, F r → toksG r (k + x.length) = .ok ts → ∃ us, toksG (x ++ r) k = .ok (us ++ ts) ∧ (∀ f, (us ++ ts).length ≤ f → p f (us ++ ts) = .ok (a, ts)) ∧ (W → ∀ t ∈ us, t.2.1 ≠ withinA)
theorem Reads.mono {α : Type} {W : Prop} {p : Nat → List T → R α} {x : List UInt8} {a : α} {F G : List UInt8 → Prop} (h : Reads W p x a F) (hG : ∀ r, G r → F r) : Reads W p x a G := fun r k ts hr => h r k ts (hG r hr)
theorem Reads.weak {α : Type} {W V : Prop} {p : Nat → List T → R α} {x : List UInt8} {a : α} {F : List UInt8 → Prop} (h : Reads W p x a F) (hV : V → W) : Reads V p x a F := fun r k ts hr ht => by
  obtain ⟨us, h1, h2, h3⟩ := h r k ts hr ht
  exact ⟨us, h1, h2, fun v => h3 (hV v)⟩
theorem reads_ret {α : Type} {W : Prop} (a : α) (F : List UInt8 → Prop) : Reads W (fun _ l => .ok (a, l)) [] a F := fun r k ts _ ht => ⟨[], ht, fun _ _ => rfl, fun _ t h => by cases h⟩
theorem reads_then {α β : Type} {W : Prop} {p : Nat → List T → R α} {q : Nat → α → List T → R β} {x y : List UInt8} {a : α} {b : β} {F G : List UInt8 → Prop} (hp : Reads W p x a F) (hq : Reads W (fun f => q f a) y b G) (hF : ∀ r, G r → F (y ++ r)) :
    Reads W (fun f l => andThen (p f l) (q f)) (x ++ y) b G := fun r k ts hr ht => by
  rw [List.length_append, ← Nat.add_assoc] at ht
  obtain ⟨us, h1, h2, h3⟩ := hq r (k + x.length) ts hr ht
  obtain ⟨vs, g1, g2, g3⟩ := hp (y ++ r) k (us ++ ts) (hF r hr) h1
  refine ⟨vs ++ us, by rw [List.append_assoc, List.append_assoc]; exact g1, fun f hf => ?_, fun w t ht => ?_⟩
  · rw [List.append_assoc] at hf ⊢
    show andThen (p f (vs ++ (us ++ ts))) (q f) = _
    rw [g2 f hf, andThen_ok]
    exact h2 f (by rw [List.length_append] at hf; omega)
  · rcases List.mem_append.1 ht with h | h
    · exact g3 w t h
    · exact h3 w t h
theorem reads_blank {α : Type} {W : Prop} {p : Nat → List T → R α} {x : List UInt8} {a : α} {F : List UInt8 → Prop} {b : UInt8} (hb : blankB b = true) (h : Reads W p x a F) : Reads W p (b :: x) a F := fun r k ts hr ht => by
  have e : k + (b :: x).length = (k + 1) + x.length := by simp only [List.length_cons]; omega
  rw [e] at ht
  obtain ⟨us, h1, h2, h3⟩ := h r (k + 1) ts hr ht
  refine ⟨us, ?_, h2, h3⟩
  have := toks_blank (g := [b]) (fun c hc => by rw [List.mem_singleton.1 hc]; exact hb) (x ++ r) k
  exact this.trans h1
/-- One token, and what p makes of it. -/
theorem reads_tok {α : Type} {W : Prop} {p : Nat → List T → R α} {kd : Nat} {x : List UInt8} {a : α} {F : List UInt8 → Prop} (hf : ∀ r, F r → Fits kd x r) (hw : W → x ≠ withinA) (hp : ∀ f k ts, (ts.length + 1 ≤ f) → p f ((kd, x, k) :: ts) = .ok (a, ts)) : Reads W p x a F := fun r k ts hr ht => by
  refine ⟨[(kd, x, k)], ?_, fun f h => hp f k ts (by simpa using h), fun w t hm => ?_⟩
  · rw [toks_fit (hf r hr), ht]; rfl
  · rw [List.mem_singleton.1 hm]; exact hw w
theorem reads_want {W : Prop} {kd : Nat} {x : List UInt8} {F : List UInt8 → Prop} (e : Nat) (hf : ∀ r, F r → Fits kd x r) (hw : W → x ≠ withinA) : Reads W (fun _ => wantP e x) x () F :=
  reads_tok hf hw fun f k ts _ => by
    unfold wantP seesP
    rw [if_pos (by simp)]
    rfl
/-- .. that must come first, and then the rest. -/
theorem reads_see {α : Type} {W : Prop} {p q : Nat → List T → R α} {kd : Nat} {x y : List UInt8} {a : α} {F : List UInt8 → Prop} (hf : ∀ r, F r → Fits kd x (y ++ r)) (hw : W → x ≠ withinA) (hp : Reads W p y a F) :
    Reads W (fun f l => if seesP x l = true then p f l.tail else q f l) (x ++ y) a F := fun r k ts hr ht => by
  rw [List.length_append, ← Nat.add_assoc] at ht
  obtain ⟨us, h1, h2, h3⟩ := hp r (k + x.length) ts hr ht
  refine ⟨(kd, x, k) :: us, ?_, fun f h => ?_, fun w t hm => ?_⟩
  · rw [List.append_assoc, toks_fit (hf r hr), h1]; rfl
  · show (if seesP x ((kd, x, k) :: (us ++ ts)) = true then p f (us ++ ts) else _) = _
    rw [if_pos (by simp [seesP])]
    exact h2 f (by simp at h ⊢; omega)
  · rcases List.mem_cons.1 hm with rfl | hm
    · exact hw w
    · exact h3 w t hm
/-- .. that does not come, as the first byte tells. -/
theorem reads_pass {α : Type} {W : Prop} {p q : Nat → List T → R α} {c : UInt8} {s x : List UInt8} {a : α} {F : List UInt8 → Prop} (hn : ∀ r, F r → Nb [c] (x ++ r)) (hq : Reads W q x a F) :
    Reads W (fun f l => if seesP (c :: s) l = true then p f l.tail else q f l) x a F := fun r k ts hr ht => by
  obtain ⟨us, h1, h2, h3⟩ := hq r k ts hr ht
  refine ⟨us, h1, fun f h => ?_, h3⟩
  show (if seesP (c :: s) (us ++ ts) = true then _ else _) = _
  rw [if_neg (by rw [sees_not (c := c) (s := s) (by simp) (hn r hr) h1]; decide)]
  exact h2 f h
/-- A list of parts. -/
theorem reads_list {α : Type} {W : Prop} {p : Nat → List T → R α} {c : UInt8} {s sb : List UInt8} {g : α → List UInt8} {F G : List UInt8 → Prop}
    (hs : ∀ y k ts, toksG y (k + sb.length) = .ok ts → ∃ t, toksG (sb ++ y) k = .ok (t :: ts) ∧ t.2.1 = c :: s ∧ (W → t.2.1 ≠ withinA)) (hF : ∀ r, F (sb ++ r)) (hG : ∀ r, G r → F r ∧ Nb [c] r) :
    ∀ (l : List α), l ≠ [] → (∀ a ∈ l, Reads W p (g a) a F) → Reads W (fun f => listP (c :: s) (p f)) (sepL sb (l.map g)) l G := by
  have more : ∀ (l : List α), (∀ a ∈ l, Reads W p (g a) a F) → ∀ r k ts, G r → toksG r (k + ((l.map fun a => sb ++ g a).flatten).length) = .ok ts →
      F ((l.map fun a => sb ++ g a).flatten ++ r) ∧ ∃ us, toksG ((l.map fun a => sb ++ g a).flatten ++ r) k = .ok (us ++ ts) ∧ (∀ f m, (us ++ ts).length ≤ f → (us ++ ts).length ≤ m → moreP (c :: s) (p f) m (us ++ ts) = .ok (l, ts)) ∧ (W → ∀ t ∈ us, t.2.1 ≠ withinA) := by
    intro l
    induction l with
    | nil =>
      intro _ r k ts hr ht
      refine ⟨(hG r hr).1, [], ht, fun f m _ _ => ?_, fun _ t h => by cases h⟩
      have hn := sees_not (c := c) (s := s) (by simp) (hG r hr).2 ht
      cases m with
      | zero => rfl
      | succ m =>
        show (if seesP (c :: s) ts = true then _ else _) = _
        rw [if_neg (by rw [hn]; decide)]
        rfl
    | cons a l ih =>
      intro hp r k ts hr ht
      have hl : k + (((a :: l).map fun a => sb ++ g a).flatten).length = (k + sb.length + (g a).length) + ((l.map fun a => sb ++ g a).flatten).length := by
        simp only [List.map_cons, List.flatten_cons, List.length_append]; omega
      rw [hl] at ht
      obtain ⟨i0, us, i1, i2, i3⟩ := ih (fun b hb => hp b (List.mem_cons_of_mem _ hb)) r _ ts hr ht
      obtain ⟨vs, j1, j2, j3⟩ := hp a (by simp) _ (k + sb.length) (us ++ ts) i0 i1
      obtain ⟨t, q1, q2, q3⟩ := hs _ k _ j1
      have ee : ((a :: l).map fun a => sb ++ g a).flatten ++ r = sb ++ (g a ++ ((l.map fun a => sb ++ g a).flatten ++ r)) := by
        simp only [List.map_cons, List.flatten_cons, List.append_assoc]
      refine ⟨by rw [ee]; exact hF _, t :: (vs ++ us), ?_, fun f m hf hm => ?_, fun w u hu => ?_⟩
      · rw [ee, q1]; simp
      · cases m with
        | zero => simp at hm
        | succ m =>
          simp only [List.cons_append, List.append_assoc, List.length_cons, List.length_append] at hf hm ⊢
          show (if seesP (c :: s) (t :: (vs ++ (us ++ ts))) = true then _ else _) = _
          rw [if_pos (by simp [seesP, q2])]
          show andThen (p f (vs ++ (us ++ ts))) _ = _
          rw [j2 f (by simp only [List.length_append]; omega), andThen_ok, i2 f m (by simp only [List.length_append]; omega) (by simp only [List.length_append]; omega)]
          rfl
      · rcases List.mem_cons.1 hu with rfl | hu
        · exact q3 w
        · rcases List.mem_append.1 hu with hu | hu
          · exact j3 w u hu
          · exact i3 w u hu
  have sep_flat : ∀ (a : α) (l : List α), sepL sb ((a :: l).map g) = g a ++ (l.map fun a => sb ++ g a).flatten := by
    intro a l
    induction l generalizing a with
    | nil => simp [sepL]
    | cons b l ih =>
      rw [List.map_cons, List.map_cons, sepL, ← List.map_cons, ih b]
      simp only [List.map_cons, List.flatten_cons, List.append_assoc]
  intro l hl hp
  cases l with
  | nil => exact absurd rfl hl
  | cons a l =>
    rw [sep_flat]
    intro r k ts hr ht
    rw [List.length_append, ← Nat.add_assoc] at ht
    obtain ⟨i0, us, i1, i2, i3⟩ := more l (fun b hb => hp b (List.mem_cons_of_mem _ hb)) r _ ts hr ht
    obtain ⟨vs, j1, j2, j3⟩ := hp a (by simp) _ k (us ++ ts) i0 i1
    refine ⟨vs ++ us, by rw [List.append_assoc, List.append_assoc]; exact j1, fun f hf => ?_, fun w t hm => ?_⟩
    · rw [List.append_assoc] at hf ⊢
      show andThen (p f (vs ++ (us ++ ts))) _ = _
      rw [j2 f hf, andThen_ok, i2 f _ (by rw [List.length_append] at hf; omega) (Nat.le_refl _)]
      rfl
    · rcases List.mem_append.1 hm with h | h
      · exact j3 w t h
      · exact i3 w t h
theorem tok_letter {l : List UInt8} (h : isTok 2 l = true) : ∃ c, l = [c] ∧ largeB c = true := by
  obtain ⟨h1, h2⟩ := isTok_iff.1 h
  cases l with
  | nil => exact absurd rfl h2
  | cons b r =>
    simp only [begG] at h1
    split at h1
    · cases h1
    · split at h1
      · rename_i hl
        have : r = [] := List.eq_nil_of_length_eq_zero (by
          have := (Prod.mk.inj h1).2
          simp only [List.length_cons] at this
          omega)
        exact ⟨b, by rw [this], hl⟩
      · split at h1 <;> cases h1
theorem isTok_one {k : Nat} {l : List UInt8} (h : isTok k l = true) (hs : ∀ b ∈ l, smallB b = true) (hn : l ≠ []) : k = 1 := by
  obtain ⟨h1, _⟩ := isTok_iff.1 h
  have h3 := (fits_word hs hn (nx_nil _)).beg
  rw [List.append_nil, h1] at h3
  exact (Prod.mk.inj h3).1
end Go.Proofs.YtdjaijhlhhnmeaaGreatDoor.P9
