/- What is parsed is sound, its text is not too long; faults lie in the text. Nothing here speaks of the program. -/
import Derived.Test.YtdjaijhlhhnmeaaGreatDoorParMathD
namespace Go.Proofs.YtdjaijhlhhnmeaaGreatDoor.P9
open Go.Proofs.YtdjaijhlhhnmeaaGreatDoor.Tk7 Go.Proofs.YtdjaijhlhhnmeaaGreatDoor.A8

/-! Faults -/
/-- Where a fault may lie. -/
def Flt (e : Nat) (l : List T) (y : F) : Prop := (y.1 = 5 ∧ y.2 = e) ∨ ((y.1 = 2 ∨ y.1 = 3 ∨ y.1 = 9 ∨ y.1 = 12) ∧ ∃ t ∈ l, y.2 = t.2.2)
def Flts {α : Type} (e N : Nat) (p : List T → R α) : Prop := ∀ l y, l.length ≤ N → p l = .error y → Flt e l y
theorem flt_mono {e : Nat} {l l' : List T} {y : F} (h : Flt e l y) (hs : l <:+ l') : Flt e l' y := by
  rcases h with h | ⟨h1, t, ht, h2⟩
  · exact .inl h
  · exact .inr ⟨h1, t, hs.subset ht, h2⟩
theorem wrong_flt (e : Nat) (l : List T) : Flt e l (wrongP e l) := by
  cases l with
  | nil => exact .inl ⟨rfl, rfl⟩
  | cons t l =>
    simp only [wrongP]
    split
    · exact .inr ⟨by simp, t, by simp, rfl⟩
    · exact .inr ⟨by simp, t, by simp, rfl⟩
theorem want_flt {N : Nat} (e : Nat) (x : List UInt8) : Flts e N (wantP e x) := fun l y _ h => by
  unfold wantP at h
  split at h
  · cases h
  · cases h; exact wrong_flt e l
theorem num_flt {N : Nat} (e : Nat) (lo hi : Int) : Flts e N (numP e lo hi) := fun l y _ h => by
  cases l with
  | nil => cases h; exact .inl ⟨rfl, rfl⟩
  | cons t l =>
    simp only [numP] at h
    split at h
    · split at h
      · cases h
      · cases h; exact .inr ⟨by simp, t, by simp, rfl⟩
    · cases h; exact wrong_flt e _
theorem name_flt {N : Nat} (e : Nat) : Flts e N (nameP e) := fun l y _ h => by
  cases l with
  | nil => cases h; exact .inl ⟨rfl, rfl⟩
  | cons t l =>
    simp only [nameP] at h
    split at h
    · cases h
    · cases h; exact wrong_flt e _
theorem letter_flt {N : Nat} (e : Nat) : Flts e N (letterP e) := fun l y _ h => by
  cases l with
  | nil => cases h; exact .inl ⟨rfl, rfl⟩
  | cons t l =>
    simp only [letterP] at h
    split at h
    · cases h
    · cases h; exact wrong_flt e _
theorem one_flt {N : Nat} (tab : List (List UInt8)) (e : Nat) : Flts e N (oneP tab e) := fun l y _ h => by
  cases l with
  | nil => cases h; exact .inl ⟨rfl, rfl⟩
  | cons t l =>
    simp only [oneP] at h
    split at h
    · cases h
    · cases h; exact wrong_flt e _
theorem andThen_fail {α β : Type} {x : R α} {f : α → List T → R β} {y : F} (h : andThen x f = .error y) : x = .error y ∨ ∃ a r, x = .ok (a, r) ∧ f a r = .error y := by
  cases x with
  | error z => cases h; exact .inl rfl
  | ok v => obtain ⟨a, r⟩ := v; exact .inr ⟨a, r, rfl, h⟩
theorem then_flt {N : Nat} {α β : Type} {e : Nat} {p : List T → R α} {f : α → List T → R β} (hE : P9.Ends p) (hp : Flts e N p) (hf : ∀ a, Flts e N (f a)) : Flts e N (fun l => andThen (p l) f) := fun l y hN h => by
  rcases andThen_fail h with h1 | ⟨a, r, h1, h2⟩
  · exact hp l y hN h1
  · exact flt_mono (hf a r y (Nat.le_trans (hE l a r h1).length_le hN) h2) (hE l a r h1)
theorem ret_flt {N : Nat} {α : Type} {e : Nat} (a : α) : Flts e N (fun l => .ok (a, l)) := fun l y _ h => by cases h
theorem tl_flt {N : Nat} {α : Type} {e : Nat} {p : List T → R α} (hp : Flts e N p) : Flts e N (fun l => p l.tail) := fun l y hN h => flt_mono (hp l.tail y (Nat.le_trans (tail_sfx l).length_le hN) h) (tail_sfx l)
theorem if_flt {N : Nat} {α : Type} {e : Nat} {c : List T → Bool} {p q : List T → R α} (hp : Flts e N p) (hq : Flts e N q) : Flts e N (fun l => if c l = true then p l else q l) := fun l y hN h => by
  simp only at h
  split at h
  · exact hp l y hN h
  · exact hq l y hN h
theorem more_flt {N : Nat} {α : Type} {e : Nat} {x : List UInt8} {part : List T → R α} (hE : P9.Ends part) (hp : Flts e N part) : ∀ f, Flts e N (moreP x part f)
  | 0 => fun l y _ h => by cases h
  | f + 1 => if_flt (c := seesP x) (p := fun l => andThen (part l.tail) fun a r => andThen (moreP x part f r) fun zs r => .ok (a :: zs, r)) (q := fun l => .ok ([], l)) (then_flt (tl_ends hE) (tl_flt hp) fun a => then_flt (more_ends hE f) (more_flt hE hp f) fun zs => ret_flt _) (ret_flt _)
theorem list_flt {N : Nat} {α : Type} {e : Nat} {x : List UInt8} {part : List T → R α} (hE : P9.Ends part) (hp : Flts e N part) : Flts e N (listP x part) :=
  then_flt hE hp fun a => fun l y hN h => by
    rcases andThen_fail h with h1 | ⟨zs, r, h1, h2⟩
    · exact more_flt hE hp _ l y hN h1
    · cases h2
theorem cat_flt {N : Nat} (e : Nat) (b : Int) : Flts e N (catP e b) := fun l y hN h => by
  rcases andThen_fail h with h1 | ⟨c, r, h1, h2⟩
  · exact num_flt e 0 63 l y hN h1
  · split at h2
    · cases h2
      cases l with
      | nil => cases h1
      | cons t l => exact .inr ⟨by simp, t, by simp, rfl⟩
    · cases h2
theorem moreC_flt {N : Nat} (e : Nat) : ∀ f b, Flts e N (moreC e f b)
  | 0, _ => fun l y _ h => by cases h
  | f + 1, b => if_flt (c := seesP [44]) (p := fun l => andThen (catP e b l.tail) fun c r => andThen (moreC e f c r) fun cs r => .ok (c :: cs, r)) (q := fun l => .ok ([], l)) (then_flt (tl_ends (cat_ends e b)) (tl_flt (cat_flt e b)) fun c => then_flt (moreC_ends e f c) (moreC_flt e f c) fun cs => ret_flt _) (ret_flt _)
theorem cats_flt {N : Nat} (e : Nat) : Flts e N (catsP e) := then_flt (cat_ends e (-1)) (cat_flt e (-1)) fun c => fun l y hN h => by
  rcases andThen_fail h with h1 | ⟨zs, r, h1, h2⟩
  · exact moreC_flt e _ c l y hN h1
  · cases h2
theorem label_flt {N : Nat} (e : Nat) : Flts e N (labelP e) :=
  then_flt (want_ends e [123]) (want_flt e [123]) fun _ => if_flt (c := seesP [125]) (p := fun r => .ok (0, r.tail)) (q := fun r => andThen (catsP e r) fun cs r => andThen (wantP e [125] r) fun _ r => .ok (Lb.orAll cs, r)) (fun l y _ h => by cases h) (then_flt (cats_ends e) (cats_flt e) fun cs => then_flt (want_ends e [125]) (want_flt e [125]) fun _ => ret_flt _)
theorem cond_flt {N : Nat} (e : Nat) : Flts e N (condP e) := then_flt (one_ends _ e) (one_flt _ e) fun _ => then_flt (num_ends e _ _) (num_flt e _ _) fun _ => ret_flt _
theorem agg_flt {N : Nat} (e : Nat) : Flts e N (aggP e) := then_flt (one_ends _ e) (one_flt _ e) fun _ => then_flt (want_ends e _) (want_flt e _) fun _ => then_flt (name_ends e) (name_flt e) fun _ => then_flt (want_ends e _) (want_flt e _) fun _ => ret_flt _
theorem have_flt {N : Nat} (e : Nat) : Flts e N (haveP e) := then_flt (agg_ends e) (agg_flt e) fun _ => then_flt (cond_ends e) (cond_flt e) fun _ => ret_flt _
theorem bound_flt {N : Nat} (e : Nat) : Flts e N (boundP e) := if_flt (c := seesP [64]) (p := fun l => andThen (labelP e l.tail) fun b r => .ok ((true, b), r)) (q := fun l => .ok ((false, 0), l)) (then_flt (tl_ends (label_ends e)) (tl_flt (label_flt e)) fun _ => ret_flt _) (ret_flt _)
theorem conds_flt {N : Nat} (e : Nat) : Flts e N (condsP e) := if_flt (c := seesP [91]) (p := fun l => andThen (listP [44] (condP e) l.tail) fun cs r => andThen (wantP e [93] r) fun _ r => .ok (cs, r)) (q := fun l => .ok ([], l)) (then_flt (tl_ends (list_ends (cond_ends e))) (tl_flt (list_flt (cond_ends e) (cond_flt e))) fun _ => then_flt (want_ends e _) (want_flt e _) fun _ => ret_flt _) (ret_flt _)
theorem nm_flt {N : Nat} (e : Nat) : Flts e N (nmP e) := if_flt (c := seesP [58]) (p := fun l => nameP e l.tail) (q := fun l => .ok ([], l)) (tl_flt (name_flt e)) (ret_flt _)
theorem atom_flt {N : Nat} (e : Nat) : Flts e N (atomP e) := then_flt (letter_ends e) (letter_flt e) fun _ => then_flt (bound_ends e) (bound_flt e) fun _ => then_flt (conds_ends e) (conds_flt e) fun _ => then_flt (nm_ends e) (nm_flt e) fun _ => ret_flt _
theorem times_flt {N : Nat} (e : Nat) : Flts e N (timesP e) := if_flt (c := seesP [123]) (p := fun l => andThen (numP e 0 99 l.tail) fun a r => andThen (wantP e [44] r) fun _ r => andThen (numP e 0 99 r) fun b r => andThen (wantP e [125] r) fun _ r => .ok ((a, b), r)) (q := fun l => .ok ((1, 1), l)) (then_flt (tl_ends (num_ends e 0 99)) (tl_flt (num_flt e 0 99)) fun _ => then_flt (want_ends e _) (want_flt e _) fun _ => then_flt (num_ends e 0 99) (num_flt e 0 99) fun _ => then_flt (want_ends e _) (want_flt e _) fun _ => ret_flt _) (ret_flt _)
theorem unit_flt {N : Nat} (e : Nat) {pat : List T → R Nd} (hp : ∀ l y, l.length < N → pat l = .error y → Flt e l y) (hE : P9.Ends pat) : Flts e N (unitP e pat) := fun l y hN h => by
  unfold unitP at h
  split at h
  · rename_i hs
    have hl : l.tail.length < N := by
      cases l with
      | nil => cases hs
      | cons t r => simp at hN ⊢; omega
    rcases andThen_fail h with h1 | ⟨n, r, h1, h2⟩
    · exact flt_mono (hp l.tail y hl h1) (tail_sfx l)
    · have h3 : Flts e N (fun r => andThen (wantP e [41] r) fun _ r => (.ok (n, r) : R Nd)) := then_flt (want_ends e _) (want_flt e _) fun _ => ret_flt _
      have hr := (hE l.tail n r h1).trans (tail_sfx l)
      exact flt_mono (h3 r y (Nat.le_trans hr.length_le hN) h2) hr
  · have h3 : Flts e N (fun l => andThen (atomP e l) fun a r => andThen (timesP e r) fun m r => (.ok (Nd.mk 1 m.1 m.2 a [], r) : R Nd)) := then_flt (atom_ends e) (atom_flt e) fun _ => then_flt (times_ends e) (times_flt e) fun _ => ret_flt _
    exact h3 l y hN h
theorem item_flt {N : Nat} (e : Nat) {pat : List T → R Nd} (hp : ∀ l y, l.length < N → pat l = .error y → Flt e l y) (hE : P9.Ends pat) : Flts e N (itemP e pat) := if_flt (c := seesP [110, 111, 116]) (p := fun l => andThen (atomP e l.tail) fun a r => .ok (Nd.mk 2 0 0 a [], r)) (q := unitP e pat) (then_flt (tl_ends (atom_ends e)) (tl_flt (atom_flt e)) fun _ => ret_flt _) (unit_flt e hp hE)
theorem seq_flt {N : Nat} (e : Nat) {pat : List T → R Nd} (hp : ∀ l y, l.length < N → pat l = .error y → Flt e l y) (hE : P9.Ends pat) : Flts e N (seqP e pat) := then_flt (list_ends (item_ends e hE)) (list_flt (item_ends e hE) (item_flt e hp hE)) fun _ => ret_flt _
theorem alt_flt {N : Nat} (e : Nat) {pat : List T → R Nd} (hp : ∀ l y, l.length < N → pat l = .error y → Flt e l y) (hE : P9.Ends pat) : Flts e N (altP e pat) := then_flt (list_ends (seq_ends e hE)) (list_flt (seq_ends e hE) (seq_flt e hp hE)) fun _ => ret_flt _
theorem pat_flt (e : Nat) : ∀ f l y, l.length < f → patP e f l = .error y → Flt e l y
  | 0, _, _, hl, _ => absurd hl (Nat.not_lt_zero _)
  | f + 1, l, y, hl, h => alt_flt (N := f) e (fun l' y' hl' h' => pat_flt e f l' y' hl' h') (pat_ends e f) l y (by omega) h
theorem query_flt (e f : Nat) (l : List T) (y : F) (hl : l.length < f) (h : queryP e f l = .error y) : Flt e l y := by
  rcases andThen_fail h with h1 | ⟨n, r, h1, h2⟩
  · exact pat_flt e f l y hl h1
  · have h3 : Flts e r.length (fun r => andThen (wantP e withinA r) fun _ r => andThen (numP e 0 99999 r) fun w r => andThen (havesP e r) fun hs r => andThen (emitsP e r) fun zs r => (.ok (⟨n, w, hs, zs⟩, r) : R Qu)) :=
      then_flt (want_ends e _) (want_flt e _) fun _ => then_flt (num_ends e _ _) (num_flt e _ _) fun _ => then_flt (haves_ends e) (if_flt (c := seesP havingA) (p := fun l => listP andA (haveP e) l.tail) (q := fun l => .ok ([], l)) (tl_flt (list_flt (have_ends e) (have_flt e))) (ret_flt _)) fun _ => then_flt (emits_ends e) (if_flt (c := seesP emitA) (p := fun l => listP [44] (aggP e) l.tail) (q := fun l => .ok ([], l)) (tl_flt (list_flt (agg_ends e) (agg_flt e))) (ret_flt _)) fun _ => ret_flt _
    exact flt_mono (h3 r y (Nat.le_refl _) h2) (pat_ends e f l n r h1)
/-- A fault is none of no error, and lies in the text; one of the end lies at the end. -/
theorem fault_in {t : List UInt8} {y : F} (h : parseP t = .error y) : y.1 ≠ 0 ∧ y.2 ≤ t.length ∧ (y.1 = 5 → y.2 = t.length) := by
  unfold parseP wholeP at h
  cases ht : toksP t with
  | error z =>
    rw [ht] at h
    cases h
    unfold toksP at ht
    split at ht
    · cases ht
      rename_i hl
      exact ⟨by decide, by simp only; omega, fun h => absurd h (by decide)⟩
    · have h3 := fault_of t.length t 0 y (Nat.le_refl _) ht
      exact ⟨by omega, by omega, fun h => by omega⟩
  | ok ts =>
    rw [ht] at h
    simp only at h
    have hat : ∀ x ∈ ts, x.2.2 ≤ t.length := by
      unfold toksP at ht
      split at ht
      · cases ht
      · intro x hx
        have := laid_at ts t 0 (laid_of t.length t 0 ts (Nat.le_refl _) ht) x hx
        omega
    have hf : Flt t.length ts y := by
      cases hq : queryP t.length (ts.length + 1) ts with
      | error z =>
        rw [hq] at h
        cases h
        exact query_flt _ _ ts y (Nat.lt_succ_self _) hq
      | ok ar =>
        obtain ⟨q, r⟩ := ar
        rw [hq] at h
        cases r with
        | nil => cases h
        | cons x r =>
          cases h
          exact flt_mono (wrong_flt _ (x :: r)) (query_ends _ _ ts q _ hq)
    rcases hf with ⟨h1, h2⟩ | ⟨h1, x, hx, h2⟩
    · exact ⟨by omega, by omega, fun _ => h2⟩
    · exact ⟨by omega, by have := hat x hx; omega, fun h => by omega⟩
end Go.Proofs.YtdjaijhlhhnmeaaGreatDoor.P9
