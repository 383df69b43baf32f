/- Texts of atoms, nodes and queries are read as these. Nothing here speaks of the program. -/
import Derived.Test.YtdjaijhlhhnmeaaGreatDoorParMathA
import Derived.Test.YtdjaijhlhhnmeaaGreatDoorAstSm
namespace Go.Proofs.YtdjaijhlhhnmeaaGreatDoor.P9
open Go.Proofs.YtdjaijhlhhnmeaaGreatDoor.Tk7 Go.Proofs.YtdjaijhlhhnmeaaGreatDoor.A8

theorem itoa_not (v : Int) : Lib.itoa v ≠ withinA := fun h => by
  have := (fits_num v (nx_nil _)).beg
  rw [List.append_nil, h] at this
  exact absurd this (by decide)
theorem reads_num {W : Prop} (e : Nat) {lo hi v : Int} (ho : Sm.okI v = true) (h1 : lo ≤ v) (h2 : v ≤ hi) : Reads W (fun _ => numP e lo hi) (Lib.itoa v) v (Nx digB) :=
  reads_tok (kd := 3) (fun r hr => fits_num v hr) (fun _ => itoa_not v) fun f k ts _ => by
    simp only [numP]
    rw [if_pos trivial, if_pos ⟨by rw [val_itoa ho]; exact ho, by rw [val_itoa ho]; exact h1, by rw [val_itoa ho]; exact h2⟩, val_itoa ho]
theorem reads_map {α β : Type} {W : Prop} {p : Nat → List T → R α} {x : List UInt8} {a : α} {F : List UInt8 → Prop} (g : α → β) (h : Reads W p x a F) : Reads W (fun f l => andThen (p f l) fun v r => .ok (g v, r)) x (g a) F := by
  have := reads_then (q := fun _ v r => .ok (g v, r)) h (reads_ret (g a) F) (fun r hr => hr)
  rw [List.append_nil] at this
  exact this
theorem name_facts {s : List UInt8} (h : nameB s = true) : (∀ b ∈ s, smallB b = true) ∧ s ≠ [] ∧ s ≠ withinA ∧ s.length ≤ 8 := by
  unfold nameB at h
  simp only [Bool.and_eq_true, decide_eq_true_eq, Bool.not_eq_true'] at h
  obtain ⟨⟨⟨h1, h2⟩, h3⟩, h4⟩ := h
  refine ⟨List.all_eq_true.1 h3, fun e => ?_, fun e => ?_, h2⟩
  · rw [e] at h1; simp at h1
  · rw [e] at h4; exact absurd h4 (by decide)
theorem reads_name {W : Prop} (e : Nat) {s : List UInt8} (h : nameB s = true) : Reads W (fun _ => nameP e) s s (Nx smallB) :=
  reads_tok (kd := 1) (fun r hr => fits_word (name_facts h).1 (name_facts h).2.1 hr) (fun _ => (name_facts h).2.2.1) fun f k ts _ => by
    show (if nameB s = true then _ else _) = _
    rw [if_pos h]
/-- Behind an operator. -/
def NoEq (r : List UInt8) : Prop := ∀ t, r ≠ 61 :: t
theorem reads_op {W : Prop} (e : Nat) {i : Int} (h1 : 1 ≤ i) (h2 : i ≤ 6) : Reads W (fun _ => oneP opsA e) (opsA.getD i.toNat []) i NoEq := by
  have h : i = 1 ∨ i = 2 ∨ i = 3 ∨ i = 4 ∨ i = 5 ∨ i = 6 := by omega
  have one : ∀ b : UInt8, signB b = true → (fun r => NoEq r) = NoEq := fun _ _ => rfl
  rcases h with rfl | rfl | rfl | rfl | rfl | rfl
  · exact reads_tok (kd := 4) (x := [61]) (fun r hr => fits_sign (by decide) (.inl (by decide))) (fun _ => by decide) fun f k ts _ => rfl
  · exact reads_tok (kd := 4) (x := [33, 61]) (fun r hr => fits_two r (by decide) (by decide)) (fun _ => by decide) fun f k ts _ => rfl
  · exact reads_tok (kd := 4) (x := [60]) (fun r hr => fits_sign (by decide) (.inr hr)) (fun _ => by decide) fun f k ts _ => rfl
  · exact reads_tok (kd := 4) (x := [60, 61]) (fun r hr => fits_two r (by decide) (by decide)) (fun _ => by decide) fun f k ts _ => rfl
  · exact reads_tok (kd := 4) (x := [62]) (fun r hr => fits_sign (by decide) (.inr hr)) (fun _ => by decide) fun f k ts _ => rfl
  · exact reads_tok (kd := 4) (x := [62, 61]) (fun r hr => fits_two r (by decide) (by decide)) (fun _ => by decide) fun f k ts _ => rfl
theorem reads_fun {W : Prop} (e : Nat) {i : Int} (h1 : 1 ≤ i) (h2 : i ≤ 6) : Reads W (fun _ => oneP funsA e) (funsA.getD i.toNat []) i (Nx smallB) := by
  have h : i = 1 ∨ i = 2 ∨ i = 3 ∨ i = 4 ∨ i = 5 ∨ i = 6 := by omega
  rcases h with rfl | rfl | rfl | rfl | rfl | rfl
  · exact reads_tok (kd := 1) (x := [99, 111, 117, 110, 116]) (fun r hr => fits_word (by decide) (by decide) hr) (fun _ => by decide) fun f k ts _ => rfl
  · exact reads_tok (kd := 1) (x := [115, 117, 109]) (fun r hr => fits_word (by decide) (by decide) hr) (fun _ => by decide) fun f k ts _ => rfl
  · exact reads_tok (kd := 1) (x := [109, 105, 110]) (fun r hr => fits_word (by decide) (by decide) hr) (fun _ => by decide) fun f k ts _ => rfl
  · exact reads_tok (kd := 1) (x := [109, 97, 120]) (fun r hr => fits_word (by decide) (by decide) hr) (fun _ => by decide) fun f k ts _ => rfl
  · exact reads_tok (kd := 1) (x := [102, 105, 114, 115, 116]) (fun r hr => fits_word (by decide) (by decide) hr) (fun _ => by decide) fun f k ts _ => rfl
  · exact reads_tok (kd := 1) (x := [108, 97, 115, 116]) (fun r hr => fits_word (by decide) (by decide) hr) (fun _ => by decide) fun f k ts _ => rfl
theorem itoa_head (v : Int) : ∃ b t, Lib.itoa v = b :: t ∧ (b = 45 ∨ digB b = true) := by
  by_cases h : 0 ≤ v
  · rw [Sm.itoa_pos h]
    obtain ⟨h1, b, t, e, _⟩ := dec_form v.toNat
    exact ⟨b, t, e, .inr (h1 b (by rw [e]; simp))⟩
  · rw [Sm.itoa_neg (by omega)]
    exact ⟨45, _, rfl, .inl rfl⟩
theorem itoa_noEq (v : Int) (r : List UInt8) : NoEq (Lib.itoa v ++ r) := fun t e => by
  obtain ⟨b, u, h1, h2⟩ := itoa_head v
  rw [h1, List.cons_append] at e
  obtain ⟨rfl, _⟩ := List.cons.inj e
  rcases h2 with h2 | h2 <;> exact absurd h2 (by decide)
theorem okI_of {v : Int} (h : okV v) : Sm.okI v = true := Sm.okI_iff.2 h
theorem reads_cond {W : Prop} (e : Nat) {c : Cn} (h : condB c = true) (ho : okC c) : Reads W (fun _ => condP e) (condT c) c (Nx digB) := by
  unfold condB at h
  simp only [Bool.and_eq_true, decide_eq_true_eq] at h
  obtain ⟨op, va⟩ := c
  exact reads_then (W := W) (G := Nx digB) (q := fun _ (o : Int) r => andThen (numP e (-9223372036854775808) 9223372036854775807 r) fun v r => .ok ((⟨o, v⟩ : Cn), r)) (reads_op e h.1 h.2) (reads_map (fun v => (⟨op, v⟩ : Cn)) (reads_num e (okI_of ho.2) ho.2.1 ho.2.2)) fun r _ => itoa_noEq va r
/-! Signs -/
theorem sign_want {W : Prop} (e : Nat) {b : UInt8} (hb : signB b = true) (h2 : twoB b = false) : Reads W (fun _ => wantP e [b]) [b] () (fun _ => True) :=
  reads_want (kd := 4) e (fun r _ => fits_sign hb (.inl h2)) fun _ h => by
    have := congrArg List.length h
    simp [withinA] at this
theorem sign_sep {W : Prop} {b : UInt8} (hb : signB b = true) (h2 : twoB b = false) : ∀ y k ts, toksG y (k + [b].length) = .ok ts → ∃ t, toksG ([b] ++ y) k = .ok (t :: ts) ∧ t.2.1 = b :: [] ∧ (W → t.2.1 ≠ withinA) := fun y k ts h =>
  ⟨(4, [b], k), by rw [toks_fit (fits_sign hb (.inl h2)), h]; rfl, rfl, fun _ h => by
    have := congrArg List.length h
    simp [withinA] at this⟩
theorem nb_app {l x r : List UInt8} (hx : x = [] ∨ ∃ b t, x = b :: t ∧ blankB b = false ∧ b ∉ l) (hr : Nb l r) : Nb l (x ++ r) := by
  rcases hx with rfl | ⟨b, t, rfl, h1, h2⟩
  · exact hr
  · exact nb_cons h1 h2
theorem nx_app {p : UInt8 → Bool} {x r : List UInt8} (hx : x = [] ∨ ∃ b t, x = b :: t ∧ p b = false) (hr : Nx p r) : Nx p (x ++ r) := by
  rcases hx with rfl | ⟨b, t, rfl, h1⟩
  · exact hr
  · exact nx_cons h1

/-! Labels -/
theorem joinSep (sep : List UInt8) : ∀ l : List (List UInt8), Lib.join l sep = sepL sep l
  | [] => rfl
  | [x] => by rw [Lib.join_one, sepL]
  | x :: y :: l => by
    have h := joinSep sep (y :: l)
    rw [Lib.join_cons] at h
    rw [Lib.join_cons, sepL, ← h]
    show x ++ ((y :: l).map (sep ++ ·)).flatten = _
    rw [List.map_cons, List.flatten_cons]
    simp only [List.append_assoc]
    rfl
/-- Ascending, from behind b on. -/
def Asc : Int → List Nat → Prop
  | _, [] => True
  | b, z :: zs => b < (z : Int) ∧ z < 64 ∧ Asc (z : Int) zs
theorem reads_cat {W : Prop} (e : Nat) {b : Int} {z : Nat} (hb : b < (z : Int)) (hz : z < 64) : Reads W (fun _ => catP e b) (Lib.decDigits z) (z : Int) (Nx digB) := fun r k ts hr ht => by
  have h0 : Lib.itoa (z : Int) = Lib.decDigits z := by rw [Sm.itoa_pos (by omega), Int.toNat_natCast]
  obtain ⟨us, h1, h2, h3⟩ := reads_num (W := W) e (lo := 0) (hi := 63) (v := (z : Int)) (Sm.okI_iff.2 (by omega)) (by omega) (by omega) r k ts hr (by rw [h0]; exact ht)
  rw [h0] at h1
  refine ⟨us, h1, fun f hf => ?_, h3⟩
  have h4 := h2 f hf
  show andThen (numP e 0 63 (us ++ ts)) _ = _
  rw [show numP e 0 63 (us ++ ts) = .ok ((z : Int), ts) from h4, andThen_ok, if_neg (by omega)]
theorem reads_cats {W : Prop} (e : Nat) : ∀ (zs : List Nat), zs ≠ [] → Asc (-1) zs → Reads W (fun _ => catsP e) (sepL [44] (zs.map Lib.decDigits)) (zs.map fun (z : Nat) => (z : Int)) (fun r => Nx digB r ∧ Nb [44] r) := by
  have more : ∀ (zs : List Nat) (b : Int), Asc b zs → ∀ r k ts, Nx digB r → Nb [44] r → toksG r (k + ((zs.map fun z => [44] ++ Lib.decDigits z).flatten).length) = .ok ts →
      Nx digB ((zs.map fun z => [44] ++ Lib.decDigits z).flatten ++ r) ∧ ∃ us, toksG ((zs.map fun z => [44] ++ Lib.decDigits z).flatten ++ r) k = .ok (us ++ ts) ∧ (∀ m, (us ++ ts).length ≤ m → moreC e m b (us ++ ts) = .ok (zs.map fun (z : Nat) => (z : Int), ts)) ∧ (W → ∀ t ∈ us, t.2.1 ≠ withinA) := by
    intro zs
    induction zs with
    | nil =>
      intro b _ r k ts hr hn ht
      refine ⟨hr, [], ht, fun m _ => ?_, fun _ t h => by cases h⟩
      have hn := sees_not (c := 44) (s := []) (by simp) hn ht
      cases m with
      | zero => rfl
      | succ m =>
        show (if seesP [44] ts = true then _ else _) = _
        rw [if_neg (by rw [hn]; decide)]
        rfl
    | cons z zs ih =>
      intro b hA r k ts hr hn ht
      have hl : k + (((z :: zs).map fun z => [44] ++ Lib.decDigits z).flatten).length = (k + [44].length + (Lib.decDigits z).length) + ((zs.map fun z => [44] ++ Lib.decDigits z).flatten).length := by
        simp only [List.map_cons, List.flatten_cons, List.length_append]; omega
      rw [hl] at ht
      obtain ⟨i0, us, i1, i2, i3⟩ := ih (z : Int) hA.2.2 r _ ts hr hn ht
      obtain ⟨vs, j1, j2, j3⟩ := reads_cat (W := W) e hA.1 hA.2.1 _ (k + [44].length) (us ++ ts) i0 i1
      obtain ⟨t, q1, q2, q3⟩ := sign_sep (W := W) (b := 44) (by decide) (by decide) _ k _ j1
      have ee : ((z :: zs).map fun z => [44] ++ Lib.decDigits z).flatten ++ r = [44] ++ (Lib.decDigits z ++ ((zs.map fun z => [44] ++ Lib.decDigits z).flatten ++ r)) := by
        simp only [List.map_cons, List.flatten_cons, List.append_assoc]
      refine ⟨by rw [ee]; exact nx_cons (by decide), t :: (vs ++ us), ?_, fun m hm => ?_, fun w u hu => ?_⟩
      · rw [ee, q1]; simp
      · cases m with
        | zero => simp at hm
        | succ m =>
          simp only [List.cons_append, List.append_assoc, List.length_cons, List.length_append] at hm ⊢
          show (if seesP [44] (t :: (vs ++ (us ++ ts))) = true then andThen (catP e b (vs ++ (us ++ ts))) _ else _) = _
          rw [if_pos (by simp [seesP, q2]), show catP e b (vs ++ (us ++ ts)) = _ from j2 _ (Nat.le_refl _), andThen_ok, i2 m (by simp only [List.length_append]; omega)]
          rfl
      · rcases List.mem_cons.1 hu with rfl | hu
        · exact q3 w
        · rcases List.mem_append.1 hu with hu | hu
          · exact j3 w u hu
          · exact i3 w u hu
  have sep_flat : ∀ (a : Nat) (l : List Nat), sepL [44] ((a :: l).map Lib.decDigits) = Lib.decDigits a ++ (l.map fun a => [44] ++ Lib.decDigits a).flatten := by
    intro a l
    induction l generalizing a with
    | nil => simp [sepL]
    | cons b l ih =>
      rw [List.map_cons, List.map_cons, sepL, ← List.map_cons, ih b]
      simp only [List.map_cons, List.flatten_cons, List.append_assoc]
  intro zs hz hA
  cases zs with
  | nil => exact absurd rfl hz
  | cons z zs =>
    rw [sep_flat]
    intro r k ts hr ht
    rw [List.length_append, ← Nat.add_assoc] at ht
    obtain ⟨i0, us, i1, i2, i3⟩ := more zs (z : Int) hA.2.2 r _ ts hr.1 hr.2 ht
    obtain ⟨vs, j1, j2, j3⟩ := reads_cat (W := W) e hA.1 hA.2.1 _ k (us ++ ts) i0 i1
    refine ⟨vs ++ us, by rw [List.append_assoc, List.append_assoc]; exact j1, fun f hf => ?_, fun w t hm => ?_⟩
    · rw [List.append_assoc] at hf ⊢
      show andThen (catP e (-1) (vs ++ (us ++ ts))) _ = _
      rw [show catP e (-1) (vs ++ (us ++ ts)) = _ from j2 f hf, andThen_ok, i2 _ (Nat.le_refl _)]
      rfl
    · rcases List.mem_append.1 hm with h | h
      · exact j3 w t h
      · exact i3 w t h
def orN (zs : List Nat) : Nat := zs.foldl (fun a k => a ||| 2 ^ k) 0
theorem orN_foldl (zs : List Nat) (a i : Nat) : (zs.foldl (fun a k => a ||| 2 ^ k) a).testBit i = (a.testBit i || decide (i ∈ zs)) := by
  induction zs generalizing a with
  | nil => simp
  | cons z zs ih =>
    rw [List.foldl_cons, ih, Nat.testBit_or, Nat.testBit_two_pow]
    cases a.testBit i <;> simp [List.mem_cons, eq_comm]
theorem orN_cats (n : Nat) (hn : n < 18446744073709551616) : orN (Lb.cats n) = n := by
  apply Nat.eq_of_testBit_eq
  intro i
  unfold orN
  rw [orN_foldl]
  unfold Lb.cats
  by_cases hi : i < 64
  · cases h : n.testBit i <;> simp [hi, h]
  · have : n.testBit i = false := Nat.testBit_lt_two_pow (Nat.lt_of_lt_of_le hn (by rw [show (18446744073709551616 : Nat) = 2 ^ 64 by decide]; exact Nat.pow_le_pow_right (by decide) (by omega)))
    rw [this]; simp [hi]
theorem bitOf_nat (k : Nat) (hk : k < 64) : Lb.bitOf (k : Int) = ((2 ^ k : Nat) : Int) := by
  unfold Lb.bitOf
  have h : 2 ^ k < 2 ^ 64 := Nat.pow_lt_pow_right (by decide) hk
  rw [show (18446744073709551616 : Int) = ((2 ^ 64 : Nat) : Int) by decide, Int.toNat_natCast, show ((2 : Int) ^ k) = ((2 ^ k : Nat) : Int) by simp, ← Int.natCast_emod, Nat.mod_eq_of_lt h]
theorem orAll_nat (zs : List Nat) (h : ∀ k ∈ zs, k < 64) : ∀ a : Nat, a < 18446744073709551616 → (zs.map fun (k : Nat) => (k : Int)).foldl (fun a c => bits .or .u64 a (Lb.bitOf c)) (a : Int) = ((zs.foldl (fun a k => a ||| 2 ^ k) a : Nat) : Int) ∧ zs.foldl (fun a k => a ||| 2 ^ k) a < 18446744073709551616 := by
  induction zs with
  | nil => intro a ha; exact ⟨rfl, ha⟩
  | cons z zs ih =>
    intro a ha
    have hz := h z (by simp)
    have h2 : 2 ^ z < 18446744073709551616 := by
      rw [show (18446744073709551616 : Nat) = 2 ^ 64 by decide]; exact Nat.pow_lt_pow_right (by decide) hz
    rw [List.map_cons, List.foldl_cons, List.foldl_cons, bitOf_nat z hz, Lb.or_nat _ _ ha h2]
    exact ih (fun k hk => h k (by simp [hk])) _ (by
      rw [show (18446744073709551616 : Nat) = 2 ^ 64 by decide] at ha h2 ⊢
      exact Nat.or_lt_two_pow ha h2)
theorem orAll_cats (n : Nat) (hn : n < 18446744073709551616) : Lb.orAll ((Lb.cats n).map fun (k : Nat) => (k : Int)) = (n : Int) := by
  have hk : ∀ k ∈ Lb.cats n, k < 64 := fun k hk => by simpa using (List.mem_filter.1 hk).1
  have := (orAll_nat (Lb.cats n) hk 0 (by decide)).1
  unfold Lb.orAll
  rw [show (0 : Int) = ((0 : Nat) : Int) from rfl, this]
  have h2 : (Lb.cats n).foldl (fun a k => a ||| 2 ^ k) 0 = n := orN_cats n hn
  rw [h2]
theorem asc_filter (p : Nat → Bool) : ∀ (m k : Nat) (b : Int), b < (k : Int) → k + m ≤ 64 → Asc b ((List.range' k m).filter p)
  | 0, k, b, _, _ => by simp [Asc]
  | m + 1, k, b, hb, hm => by
    rw [List.range'_succ, List.filter_cons]
    split
    · exact ⟨hb, by omega, asc_filter p m (k + 1) (k : Int) (by omega) (by omega)⟩
    · exact asc_filter p m (k + 1) b (by omega) (by omega)
theorem asc_cats (n : Nat) : Asc (-1) (Lb.cats n) := by
  unfold Lb.cats
  rw [List.range_eq_range']
  exact asc_filter _ 64 0 (-1) (by decide) (by decide)
theorem reads_label {W : Prop} (e : Nat) {x : Int} (hx : 0 ≤ x ∧ x < 18446744073709551616) : Reads W (fun _ => labelP e) (labelT x) x (fun _ => True) := by
  unfold labelT
  rw [joinSep, List.append_assoc]
  refine reads_then (q := fun _ _ r => if seesP [125] r = true then .ok (0, r.tail) else andThen (catsP e r) fun cs r => andThen (wantP e [125] r) fun _ r => .ok (Lb.orAll cs, r)) (F := fun _ => True) (sign_want e (by decide) (by decide)) ?_ fun _ _ => trivial
  by_cases hc : Lb.cats x.toNat = []
  · rw [hc]
    have h0 : x = 0 := by
      have := orAll_cats x.toNat (by omega)
      rw [hc] at this
      have h1 : Lb.orAll [] = 0 := rfl
      rw [List.map_nil, h1] at this
      omega
    subst h0
    have := reads_see (W := W) (x := [125]) (kd := 4) (p := fun _ l => .ok ((0 : Int), l)) (q := fun _ r => andThen (catsP e r) fun cs r => andThen (wantP e [125] r) fun _ r => .ok (Lb.orAll cs, r)) (F := fun _ => True) (fun r _ => fits_sign (b := 125) (by decide) (.inl (by decide))) (fun _ => by decide) (reads_ret (0 : Int) _)
    rw [List.append_nil] at this
    exact this
  · have hv := orAll_cats x.toNat (by omega)
    have hx2 : (x.toNat : Int) = x := by omega
    rw [hx2] at hv
    have hd : ∃ b t, sepL [44] ((Lb.cats x.toNat).map Lib.decDigits) = b :: t ∧ digB b = true := by
      cases hz : Lb.cats x.toNat with
      | nil => exact absurd hz hc
      | cons z zs =>
        obtain ⟨h1, b, t, h2, _⟩ := dec_form z
        cases zs with
        | nil => exact ⟨b, t, h2, h1 b (by rw [h2]; simp)⟩
        | cons z2 zs =>
          refine ⟨b, t ++ [44] ++ sepL [44] ((z2 :: zs).map Lib.decDigits), ?_, h1 b (by rw [h2]; simp)⟩
          rw [List.map_cons, List.map_cons, sepL, h2]
          rfl
    have hr := reads_then (W := W) (q := fun _ cs r => andThen (wantP e [125] r) fun _ r => .ok (Lb.orAll cs, r)) (G := fun _ => True) (reads_cats e _ hc (asc_cats x.toNat)) (by
      have := reads_then (W := W) (q := fun _ _ r => .ok (Lb.orAll ((Lb.cats x.toNat).map fun (z : Nat) => (z : Int)), r)) (sign_want e (b := 125) (by decide) (by decide)) (reads_ret _ (fun _ => True)) (fun r hr => hr)
      rw [List.append_nil, hv] at this
      rw [hv]
      exact this) (fun r _ => (⟨nx_cons (p := digB) (c := 125) (u := r) (by decide), nb_cons (l := [44]) (b := 125) (r := r) (by decide) (by decide)⟩ : Nx digB ([125] ++ r) ∧ Nb [44] ([125] ++ r)))
    refine reads_pass (c := 125) (s := []) (p := fun _ r => .ok (0, r)) (fun r _ => ?_) hr
    obtain ⟨b, t, h1, h2⟩ := hd
    rw [h1]
    refine nb_cons (dig_not h2).2.2.1 (fun hm => ?_)
    rw [List.mem_singleton.1 hm] at h2
    exact absurd h2 (by decide)
end Go.Proofs.YtdjaijhlhhnmeaaGreatDoor.P9
