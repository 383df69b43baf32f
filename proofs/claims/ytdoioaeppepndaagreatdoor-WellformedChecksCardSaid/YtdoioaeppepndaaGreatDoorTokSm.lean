/- Tokens as lists of bytes. -/
import Derived.Test.YtdoioaeppepndaaGreatDoorWords
namespace Go.Proofs.YtdoioaeppepndaaGreatDoor.Tk7

def blankB (b : UInt8) : Bool := b == 9 || b == 10 || b == 13 || b == 32
def smallB (b : UInt8) : Bool := decide (97 ≤ b.toNat) && decide (b.toNat ≤ 122)
def largeB (b : UInt8) : Bool := decide (65 ≤ b.toNat) && decide (b.toNat ≤ 90)
def digB (b : UInt8) : Bool := decide (48 ≤ b.toNat) && decide (b.toNat ≤ 57)
/-- The signs of one byte. -/
def oneB (b : UInt8) : Bool := b == 61 || b == 60 || b == 62 || b == 59 || b == 124 || b == 123 || b == 125 || b == 44 || b == 40 || b == 41 || b == 91 || b == 93 || b == 64 || b == 58
/-- The bytes that begin a sign of two bytes, which = ends. -/
def twoB (b : UInt8) : Bool := b == 33 || b == 60 || b == 62
/-- How many bytes the longest sign has with which l begins. -/
def signG : List UInt8 → Nat
  | [] => 0
  | b :: r => if twoB b && r.head? == some 61 then 2 else if oneB b then 1 else 0
/-- Digits that are written as said; m tells that a minus sign stands before them. -/
def rightD (m : Bool) (d : List UInt8) : Bool := !d.isEmpty && (d.head? != some 48 || (d == [48] && !m))
/-- The digits behind a minus sign, if there is one. -/
def numG (b : UInt8) (r : List UInt8) : Nat :=
  if b == 45 then (if rightD true (r.takeWhile digB) then (r.takeWhile digB).length + 1 else 0)
  else (if rightD false (b :: r.takeWhile digB) then (r.takeWhile digB).length + 1 else 0)
/-- The kind and the number of bytes of the token with which l begins; no bytes if there is none. -/
def begG : List UInt8 → Nat × Nat
  | [] => (0, 0)
  | b :: r =>
    if smallB b then (1, (r.takeWhile smallB).length + 1)
    else if largeB b then (2, 1)
    else if digB b || b == 45 then (3, numG b r)
    else (4, signG (b :: r))
theorem begG_le (l : List UInt8) : (begG l).2 ≤ l.length := by
  cases l with
  | nil => simp [begG]
  | cons b r =>
    have h1 : ∀ p : UInt8 → Bool, (r.takeWhile p).length ≤ r.length := fun p => (List.takeWhile_sublist p).length_le
    simp only [begG]
    split
    · simp; exact h1 _
    · split
      · simp
      · split
        · unfold numG
          have := h1 digB
          split <;> split <;> simp <;> omega
        · unfold signG
          cases r with
          | nil => simp; split <;> omega
          | cons c r =>
            simp
            split
            · omega
            · split <;> omega
/-- A token: its kind, its text and its offset. -/
abbrev T := Nat × List UInt8 × Nat
/-- The error and its place, or the kind, the place and the number of bytes of the next token behind the offset k, where l stands. -/
def nextG (l : List UInt8) (k : Nat) : Except (Int × Nat) (Nat × Nat × Nat) :=
  match l.dropWhile blankB with
  | [] => .error (5, k + l.length)
  | b :: r =>
    if (begG (b :: r)).2 = 0 then .error (3, k + (l.length - (b :: r).length))
    else .ok ((begG (b :: r)).1, k + (l.length - (b :: r).length), (begG (b :: r)).2)
/-- A token in front of what follows. -/
def glue (t : T) : Except (Int × Nat) (List T) → Except (Int × Nat) (List T)
  | .ok ts => .ok (t :: ts)
  | .error e => .error e
def toksF : Nat → List UInt8 → Nat → Except (Int × Nat) (List T)
  | 0, _, _ => .ok []
  | f + 1, l, k =>
    match l.dropWhile blankB with
    | [] => .ok []
    | b :: r =>
      if (begG (b :: r)).2 = 0 then .error (3, k + (l.length - (b :: r).length))
      else glue ((begG (b :: r)).1, (b :: r).take (begG (b :: r)).2, k + (l.length - (b :: r).length))
        (toksF f ((b :: r).drop (begG (b :: r)).2) (k + (l.length - (b :: r).length) + (begG (b :: r)).2))
theorem drop_len (l : List UInt8) : (l.dropWhile blankB).length ≤ l.length := (List.dropWhile_sublist blankB).length_le
theorem toksF_fuel (f : Nat) : ∀ g l k, l.length < f → l.length < g → toksF f l k = toksF g l k := by
  induction f with
  | zero => intro g l k h; omega
  | succ f ih =>
    intro g l k hf hg
    cases g with
    | zero => omega
    | succ g =>
      simp only [toksF]
      cases hd : l.dropWhile blankB with
      | nil => rfl
      | cons b r =>
        have h1 := drop_len l
        rw [hd] at h1
        simp only
        split
        · rfl
        · rename_i hn
          have h2 := begG_le (b :: r)
          rw [ih g _ _ (by rw [List.length_drop]; omega) (by rw [List.length_drop]; omega)]
/-- The tokens of l, which stands at the offset k, or the first fault. -/
def toksG (l : List UInt8) (k : Nat) : Except (Int × Nat) (List T) := toksF (l.length + 1) l k
theorem toksG_eq (l : List UInt8) (k : Nat) : toksG l k = match l.dropWhile blankB with
    | [] => .ok []
    | b :: r =>
      if (begG (b :: r)).2 = 0 then .error (3, k + (l.length - (b :: r).length))
      else glue ((begG (b :: r)).1, (b :: r).take (begG (b :: r)).2, k + (l.length - (b :: r).length))
        (toksG ((b :: r).drop (begG (b :: r)).2) (k + (l.length - (b :: r).length) + (begG (b :: r)).2)) := by
  show toksF (l.length + 1) l k = _
  simp only [toksF]
  cases hd : l.dropWhile blankB with
  | nil => rfl
  | cons b r =>
    have h1 := drop_len l
    rw [hd] at h1
    simp only
    split
    · rfl
    · rename_i hn
      have h2 := begG_le (b :: r)
      unfold toksG
      rw [toksF_fuel l.length ((List.drop (begG (b :: r)).2 (b :: r)).length + 1) _ _ (by rw [List.length_drop]; omega) (by omega)]
end Go.Proofs.YtdoioaeppepndaaGreatDoor.Tk7
namespace Go.Proofs.YtdoioaeppepndaaGreatDoor.Tk7

/-- What may follow a token without being part of it: nothing, or a blank. -/
def endB (e : List UInt8) : Bool := match e with | [] => true | b :: _ => blankB b
theorem blank_not {b : UInt8} (h : blankB b = true) : smallB b = false ∧ largeB b = false ∧ digB b = false ∧ (b == 45) = false ∧ oneB b = false ∧ twoB b = false ∧ (b == 61) = false := by
  have : b = 9 ∨ b = 10 ∨ b = 13 ∨ b = 32 := by simpa [blankB, or_assoc] using h
  rcases this with rfl | rfl | rfl | rfl <;> decide
theorem take_end (p : UInt8 → Bool) (hp : ∀ b, blankB b = true → p b = false) (r e : List UInt8) (he : endB e = true) : (r ++ e).takeWhile p = r.takeWhile p := by
  induction r with
  | nil =>
    cases e with
    | nil => rfl
    | cons b e => simp [hp b he]
  | cons c r ih =>
    rw [List.cons_append, List.takeWhile_cons, List.takeWhile_cons, ih]
theorem sign_end (b : UInt8) (r e : List UInt8) (he : endB e = true) : signG (b :: r ++ e) = signG (b :: r) := by
  cases r with
  | cons c r => rfl
  | nil =>
    cases e with
    | nil => rfl
    | cons d e =>
      have h : ((some d : Option UInt8) == some 61) = false := (blank_not (b := d) he).2.2.2.2.2.2
      have h2 : ((none : Option UInt8) == some 61) = false := rfl
      simp only [signG, List.cons_append, List.nil_append, List.head?_cons, List.head?_nil, h, h2]
theorem begG_end {l : List UInt8} (e : List UInt8) (hl : l ≠ []) (he : endB e = true) : begG (l ++ e) = begG l := by
  cases l with
  | nil => exact absurd rfl hl
  | cons b r =>
    have h1 := take_end smallB (fun b h => (blank_not h).1) r e he
    have h2 := take_end digB (fun b h => (blank_not h).2.2.1) r e he
    have h3 := sign_end b r e he
    rw [List.cons_append] at h3 ⊢
    simp only [begG, numG, h1, h2, h3]
theorem takeWhile_take (p : UInt8 → Bool) (r : List UInt8) : r.take (r.takeWhile p).length = r.takeWhile p := by
  induction r with
  | nil => rfl
  | cons c r ih =>
    rw [List.takeWhile_cons]
    split
    · simp [ih]
    · rfl
theorem takeWhile_twice (p : UInt8 → Bool) (r : List UInt8) : (r.takeWhile p).takeWhile p = r.takeWhile p := by
  induction r with
  | nil => rfl
  | cons c r ih =>
    rw [List.takeWhile_cons]
    split
    · rename_i h; rw [List.takeWhile_cons, if_pos h, ih]
    · rfl
theorem signG_take {b : UInt8} {r : List UInt8} (h : signG (b :: r) ≠ 0) : signG ((b :: r).take (signG (b :: r))) = signG (b :: r) := by
  by_cases h2 : (twoB b && r.head? == some 61) = true
  · have e : signG (b :: r) = 2 := by simp only [signG]; rw [if_pos h2]
    rw [e]
    cases r with
    | nil => simp at h2
    | cons c r =>
      simp only [List.take_succ_cons, List.take_zero, signG]
      rw [if_pos]
      simpa using h2
  · have e : signG (b :: r) = if oneB b then 1 else 0 := by simp only [signG]; rw [if_neg h2]
    rw [e] at h ⊢
    split at h
    · rename_i h1
      rw [if_pos h1]
      simp [signG, h1]
    · exact absurd rfl h
theorem begG_take {l : List UInt8} (h : (begG l).2 ≠ 0) : begG (l.take (begG l).2) = begG l := by
  cases l with
  | nil => rfl
  | cons b r =>
    simp only [begG] at h ⊢
    by_cases h1 : smallB b = true
    · simp only [h1, if_true, List.take_succ_cons, takeWhile_take, takeWhile_twice]
    · rw [if_neg h1] at h ⊢
      by_cases h2 : largeB b = true
      · rw [if_pos h2]
        simp only [List.take_succ_cons, List.take_zero]
        rw [if_neg h1, if_pos h2]
      · rw [if_neg h2] at h ⊢
        by_cases h3 : (digB b || b == 45) = true
        · rw [if_pos h3] at h ⊢
          have hn : numG b r = (r.takeWhile digB).length + 1 := by
            simp only [numG] at h ⊢
            split at h <;> split at h <;> simp_all
          have hn2 : numG b (r.takeWhile digB) = numG b r := by
            simp only [numG, takeWhile_twice]
          simp only [hn, List.take_succ_cons, takeWhile_take]
          rw [if_neg h1, if_neg h2, if_pos h3, hn2, hn]
        · rw [if_neg h3] at h ⊢
          have hs := signG_take h
          cases hx : (b :: r).take (signG (b :: r)) with
          | nil =>
            rw [hx] at hs
            exact absurd hs.symm h
          | cons c q =>
            have hc : c = b := by
              cases hz : signG (b :: r) with
              | zero => exact absurd hz h
              | succ n => rw [hz] at hx; cases hx; rfl
            subst hc
            simp only
            rw [if_neg h1, if_neg h2, if_neg h3, ← hx, hs]
/-- The bytes t are a token of this kind. -/
def isTok (kd : Nat) (t : List UInt8) : Bool := begG t == (kd, t.length) && !t.isEmpty
theorem isTok_iff {kd : Nat} {t : List UInt8} : isTok kd t = true ↔ begG t = (kd, t.length) ∧ t ≠ [] := by
  cases t <;> simp [isTok]
theorem isTok_take {l : List UInt8} (h : (begG l).2 ≠ 0) : isTok (begG l).1 (l.take (begG l).2) = true := by
  have h1 := begG_take h
  have h2 := begG_le l
  rw [isTok_iff, h1, List.length_take, Nat.min_eq_left h2]
  refine ⟨rfl, fun e => ?_⟩
  have := congrArg List.length e
  rw [List.length_take, Nat.min_eq_left h2] at this
  exact h this
theorem isTok_kind {kd : Nat} {t : List UInt8} (h : isTok kd t = true) : 1 ≤ kd ∧ kd ≤ 4 := by
  rw [isTok_iff] at h
  obtain ⟨h1, h2⟩ := h
  cases t with
  | nil => exact absurd rfl h2
  | cons b r =>
    have := congrArg Prod.fst h1
    simp only [begG] at this
    split at this
    · simp only at this; omega
    · split at this
      · simp only at this; omega
      · split at this <;> simp only at this <;> omega
theorem isTok_front {kd : Nat} {b : UInt8} {r : List UInt8} (h : isTok kd (b :: r) = true) : blankB b = false := by
  cases hb : blankB b with
  | false => rfl
  | true =>
    obtain ⟨h1, h2, h3, h4, h5, h6, _⟩ := blank_not hb
    rw [isTok_iff] at h
    have := congrArg Prod.snd h.1
    simp only [begG, h1, h2, h3, h4, signG, h5, h6] at this
    simp at this
theorem dropWhile_all {g : List UInt8} (hg : ∀ b ∈ g, blankB b = true) (l : List UInt8) : (g ++ l).dropWhile blankB = l.dropWhile blankB := by
  induction g with
  | nil => rfl
  | cons c g ih => rw [List.cons_append, List.dropWhile_cons, if_pos (hg c (by simp)), ih (fun b hb => hg b (by simp [hb]))]
theorem dropWhile_split (l : List UInt8) : ∃ g, l = g ++ l.dropWhile blankB ∧ (∀ b ∈ g, blankB b = true) ∧ g.length = l.length - (l.dropWhile blankB).length := by
  refine ⟨l.takeWhile blankB, List.takeWhile_append_dropWhile.symm, fun b hb => ?_, ?_⟩
  · have := List.all_takeWhile (l := l) (p := blankB)
    exact List.all_eq_true.1 this b hb
  · have := congrArg List.length (List.takeWhile_append_dropWhile (p := blankB) (l := l))
    rw [List.length_append] at this
    omega
theorem dropWhile_head {l : List UInt8} {b : UInt8} {r : List UInt8} (h : l.dropWhile blankB = b :: r) : blankB b = false := by
  have := List.head_dropWhile_not (p := blankB) (l := l) (by rw [h]; simp)
  simpa [h] using this
/-- A text that begins with blanks. -/
theorem toks_blank {g : List UInt8} (hg : ∀ b ∈ g, blankB b = true) (l : List UInt8) (k : Nat) : toksG (g ++ l) k = toksG l (k + g.length) := by
  rw [toksG_eq, toksG_eq, dropWhile_all hg]
  have h1 := drop_len l
  cases hd : l.dropWhile blankB with
  | nil => rfl
  | cons b r =>
    rw [hd] at h1
    simp only
    have e : k + ((g ++ l).length - (b :: r).length) = k + g.length + (l.length - (b :: r).length) := by rw [List.length_append]; omega
    rw [e]
theorem toks_nil (k : Nat) : toksG [] k = .ok [] := rfl
theorem toks_blanks {g : List UInt8} (hg : ∀ b ∈ g, blankB b = true) (k : Nat) : toksG g k = .ok [] := by
  have := toks_blank hg [] k
  rw [List.append_nil, toks_nil] at this
  exact this
/-- A token, what follows it, and blanks in front of it. -/
theorem toks_tok {g t e : List UInt8} {kd : Nat} (hg : ∀ b ∈ g, blankB b = true) (ht : isTok kd t = true) (he : endB e = true) (k : Nat) :
    toksG (g ++ (t ++ e)) k = glue (kd, t, k + g.length) (toksG e (k + g.length + t.length)) := by
  rw [toks_blank hg, toksG_eq]
  cases t with
  | nil => simp [isTok] at ht
  | cons b r =>
    have h1 := isTok_front ht
    have h2 := (isTok_iff.1 ht).1
    have h3 := begG_end e (l := b :: r) (by simp) he
    rw [h2] at h3
    rw [List.cons_append] at h3 ⊢
    rw [List.dropWhile_cons, if_neg (by rw [h1]; decide)]
    simp only
    rw [h3]
    simp only
    rw [if_neg (by simp), Nat.sub_self, Nat.add_zero, ← List.cons_append, List.take_left, List.drop_left]
/-- The tokens of one text and those of another behind it. -/
def both : Except (Int × Nat) (List T) → Except (Int × Nat) (List T) → Except (Int × Nat) (List T)
  | .error e, _ => .error e
  | .ok _, .error e => .error e
  | .ok l, .ok m => .ok (l ++ m)
theorem both_glue (t : T) (x y : Except (Int × Nat) (List T)) : both (glue t x) y = glue t (both x y) := by
  cases x with
  | error e => rfl
  | ok l => cases y <;> rfl
theorem both_nil (y : Except (Int × Nat) (List T)) : both (.ok []) y = y := by cases y <;> rfl
theorem toks_both (n : Nat) : ∀ (a b : List UInt8) (k : Nat), a.length ≤ n → toksG (a ++ 32 :: b) k = both (toksG a k) (toksG b (k + a.length + 1)) := by
  induction n with
  | zero =>
    intro a b k ha
    have : a = [] := List.eq_nil_of_length_eq_zero (by omega)
    subst this
    rw [toks_nil, both_nil]
    exact toks_blank (g := [32]) (by simp [blankB]) b k
  | succ n ih =>
    intro a b k ha
    obtain ⟨g, hg1, hg2, hg3⟩ := dropWhile_split a
    cases hd : a.dropWhile blankB with
    | nil =>
      rw [hd, List.append_nil] at hg1
      have hb : ∀ c ∈ a ++ [32], blankB c = true := by
        intro c hc
        rcases List.mem_append.1 hc with h | h
        · exact hg2 c (hg1 ▸ h)
        · simp at h; subst h; rfl
      have e1 := toks_blank hb b k
      rw [List.append_assoc, List.length_append] at e1
      rw [toks_blanks (fun c hc => hg2 c (hg1 ▸ hc)), both_nil]
      exact e1
    | cons c r =>
      have hl := begG_le (c :: r)
      have h1 := drop_len a
      rw [hd] at h1 hg1 hg3
      have h4 := begG_end (32 :: b) (l := c :: r) (by simp) rfl
      rw [toksG_eq (a ++ 32 :: b), toksG_eq a]
      have hd2 : (a ++ 32 :: b).dropWhile blankB = c :: (r ++ 32 :: b) := by
        rw [hg1, List.append_assoc, dropWhile_all hg2, List.cons_append, List.dropWhile_cons, if_neg (by rw [dropWhile_head hd]; decide)]
      rw [hd, hd2]
      rw [List.cons_append] at h4
      simp only
      rw [h4]
      have e2 : (a ++ 32 :: b).length - (c :: (r ++ 32 :: b)).length = a.length - (c :: r).length := by
        simp only [List.length_append, List.length_cons]; omega
      rw [e2]
      split
      · rfl
      · rename_i hz
        rw [both_glue]
        have e3 : List.drop (begG (c :: r)).2 (c :: (r ++ 32 :: b)) = List.drop (begG (c :: r)).2 (c :: r) ++ 32 :: b := by
          rw [← List.cons_append, List.drop_append_of_le_length hl]
        have e4 : List.take (begG (c :: r)).2 (c :: (r ++ 32 :: b)) = List.take (begG (c :: r)).2 (c :: r) := by
          rw [← List.cons_append, List.take_append_of_le_length hl]
        rw [e3, e4, ih _ _ _ (by rw [List.length_drop]; omega)]
        have e5 : k + (a.length - (c :: r).length) + (begG (c :: r)).2 + (List.drop (begG (c :: r)).2 (c :: r)).length + 1 = k + a.length + 1 := by
          rw [List.length_drop]; omega
        rw [e5]
/-- Tokens moved by d bytes. -/
def moved (d : Nat) (l : List T) : List T := l.map fun t => (t.1, t.2.1, t.2.2 + d)
def movedR (d : Nat) : Except (Int × Nat) (List T) → Except (Int × Nat) (List T)
  | .error e => .error (e.1, e.2 + d)
  | .ok l => .ok (moved d l)
theorem toks_moved (d n : Nat) : ∀ (a : List UInt8) (k : Nat), a.length ≤ n → toksG a (k + d) = movedR d (toksG a k) := by
  induction n with
  | zero =>
    intro a k ha
    have : a = [] := List.eq_nil_of_length_eq_zero (by omega)
    subst this
    rfl
  | succ n ih =>
    intro a k ha
    rw [toksG_eq a (k + d), toksG_eq a k]
    cases hd : a.dropWhile blankB with
    | nil => rfl
    | cons c r =>
      have h1 := drop_len a
      rw [hd] at h1
      have e : k + d + (a.length - (c :: r).length) = k + (a.length - (c :: r).length) + d := by omega
      simp only
      rw [e]
      split
      · rfl
      · rename_i hz
        have e2 : k + (a.length - (c :: r).length) + d + (begG (c :: r)).2 = k + (a.length - (c :: r).length) + (begG (c :: r)).2 + d := by omega
        rw [e2, ih _ _ (by rw [List.length_drop]; omega)]
        cases toksG (List.drop (begG (c :: r)).2 (c :: r)) (k + (a.length - (c :: r).length) + (begG (c :: r)).2) <;> rfl
/-- The tokens ts stand in l, which stands at k: each where it says, with blanks alone between them. -/
def Laid : List UInt8 → Nat → List T → Prop
  | l, _, [] => ∀ b ∈ l, blankB b = true
  | l, k, t :: ts => ∃ g e, l = g ++ (t.2.1 ++ e) ∧ (∀ b ∈ g, blankB b = true) ∧ t.2.2 = k + g.length ∧ isTok t.1 t.2.1 = true ∧ Laid e (t.2.2 + t.2.1.length) ts
theorem laid_of (n : Nat) : ∀ (a : List UInt8) (k : Nat) (ts : List T), a.length ≤ n → toksG a k = .ok ts → Laid a k ts := by
  induction n with
  | zero =>
    intro a k ts ha h
    have : a = [] := List.eq_nil_of_length_eq_zero (by omega)
    subst this
    cases h
    exact fun b hb => by cases hb
  | succ n ih =>
    intro a k ts ha h
    rw [toksG_eq] at h
    obtain ⟨g, hg1, hg2, hg3⟩ := dropWhile_split a
    cases hd : a.dropWhile blankB with
    | nil =>
      rw [hd] at h hg1
      cases h
      rw [List.append_nil] at hg1
      exact fun b hb => hg2 b (hg1 ▸ hb)
    | cons c r =>
      rw [hd] at h hg1 hg3
      simp only at h
      split at h
      · cases h
      · rename_i hz
        have h1 := drop_len a
        rw [hd] at h1
        rw [← hg3] at h
        have hlen : (List.take (begG (c :: r)).2 (c :: r)).length = (begG (c :: r)).2 := by rw [List.length_take]; exact Nat.min_eq_left (begG_le _)
        cases hr : toksG (List.drop (begG (c :: r)).2 (c :: r)) (k + g.length + (begG (c :: r)).2) with
        | error e => rw [hr] at h; cases h
        | ok us =>
          rw [hr] at h
          cases h
          refine ⟨g, List.drop (begG (c :: r)).2 (c :: r), ?_, hg2, rfl, isTok_take hz, ?_⟩
          · rw [List.take_append_drop]; exact hg1
          · simp only
            rw [hlen]
            exact ih _ _ _ (by rw [List.length_drop]; omega) hr
theorem fault_of (n : Nat) : ∀ (a : List UInt8) (k : Nat) (e : Int × Nat), a.length ≤ n → toksG a k = .error e → e.1 = 3 ∧ k ≤ e.2 ∧ e.2 < k + a.length := by
  induction n with
  | zero =>
    intro a k e ha h
    have : a = [] := List.eq_nil_of_length_eq_zero (by omega)
    subst this
    cases h
  | succ n ih =>
    intro a k e ha h
    rw [toksG_eq] at h
    have h1 := drop_len a
    cases hd : a.dropWhile blankB with
    | nil => rw [hd] at h; cases h
    | cons c r =>
      rw [hd] at h h1
      have hl := begG_le (c :: r)
      have hc : (c :: r).length = r.length + 1 := List.length_cons
      simp only at h
      split at h
      · cases h
        refine ⟨rfl, ?_, ?_⟩
        · show k ≤ k + (a.length - (c :: r).length); omega
        · show k + (a.length - (c :: r).length) < k + a.length; omega
      · rename_i hz
        cases hr : toksG (List.drop (begG (c :: r)).2 (c :: r)) (k + (a.length - (c :: r).length) + (begG (c :: r)).2) with
        | ok us => rw [hr] at h; cases h
        | error e' =>
          rw [hr] at h
          cases h
          have hd2 : (List.drop (begG (c :: r)).2 (c :: r)).length = (c :: r).length - (begG (c :: r)).2 := List.length_drop
          have := ih _ _ _ (by omega) hr
          obtain ⟨h4, h5, h6⟩ := this
          exact ⟨h4, by omega, by omega⟩
theorem laid_tok : ∀ (ts : List T) (l : List UInt8) (k : Nat), Laid l k ts → ∀ t ∈ ts, isTok t.1 t.2.1 = true := by
  intro ts
  induction ts with
  | nil => intro l k _ t h; cases h
  | cons x ts ih =>
    rintro l k ⟨g, e, _, _, _, h, h2⟩ t ht
    rcases List.mem_cons.1 ht with rfl | ht
    · exact h
    · exact ih _ _ h2 t ht
theorem laid_len : ∀ (ts : List T) (l : List UInt8) (k : Nat), Laid l k ts → (ts.map fun t => t.2.1.length).sum ≤ l.length := by
  intro ts
  induction ts with
  | nil => intro l k _; simp
  | cons x ts ih =>
    rintro l k ⟨g, e, rfl, _, _, h, h2⟩
    have := ih _ _ h2
    simp only [List.map_cons, List.sum_cons, List.length_append]
    omega
/-- The same kinds and texts. -/
def sameT (a b : List T) : Prop := a.map (fun t => (t.1, t.2.1)) = b.map (fun t => (t.1, t.2.1))
/-- Tokens with blanks in front of each, and e behind the last one. -/
def spread : List (List UInt8) → List T → List UInt8 → List UInt8
  | g :: gs, t :: ts, e => g ++ (t.2.1 ++ spread gs ts e)
  | _, _, e => e
theorem spread_end : ∀ (gs : List (List UInt8)) (ts : List T) (e : List UInt8), (∀ g ∈ gs, g ≠ [] ∧ ∀ b ∈ g, blankB b = true) → endB e = true → endB (spread gs ts e) = true := by
  intro gs ts e hg he
  cases gs with
  | nil => exact he
  | cons g gs =>
    cases ts with
    | nil => exact he
    | cons t ts =>
      obtain ⟨h1, h2⟩ := hg g (by simp)
      cases g with
      | nil => exact absurd rfl h1
      | cons b g => exact h2 b (by simp)
theorem toks_spread : ∀ (gs : List (List UInt8)) (ts : List T) (e : List UInt8) (k : Nat), gs.length = ts.length → (∀ g ∈ gs, g ≠ [] ∧ ∀ b ∈ g, blankB b = true) → (∀ t ∈ ts, isTok t.1 t.2.1 = true) → (∀ b ∈ e, blankB b = true) →
    ∃ us, toksG (spread gs ts e) k = .ok us ∧ sameT us ts := by
  intro gs
  induction gs with
  | nil =>
    intro ts e k hl _ _ he
    have : ts = [] := List.eq_nil_of_length_eq_zero (by simpa using hl.symm)
    subst this
    exact ⟨[], toks_blanks he k, rfl⟩
  | cons g gs ih =>
    intro ts e k hl hg ht he
    cases ts with
    | nil => simp at hl
    | cons t ts =>
      have hee : endB e = true := by
        cases e with
        | nil => rfl
        | cons b e => exact he b (by simp)
      have h1 := spread_end gs ts e (fun g h => hg g (by simp [h])) hee
      obtain ⟨us, hu, hs⟩ := ih ts e (k + g.length + t.2.1.length) (by simpa using hl) (fun g h => hg g (by simp [h])) (fun t h => ht t (by simp [h])) he
      refine ⟨(t.1, t.2.1, k + g.length) :: us, ?_, ?_⟩
      · show toksG (g ++ (t.2.1 ++ spread gs ts e)) k = _
        rw [toks_tok (hg g (by simp)).2 (ht t (by simp)) h1, hu]
        rfl
      · unfold sameT at hs ⊢
        simp [hs]
/-- The texts of tokens with one blank between two of them. -/
def joinT : List T → List UInt8
  | [] => []
  | t :: ts => t.2.1 ++ (ts.map fun u => (32 :: u.2.1 : List UInt8)).flatten
theorem joinT_spread (ts : List T) : (ts.map fun u => (32 :: u.2.1 : List UInt8)).flatten = spread (ts.map fun _ => [32]) ts [] := by
  induction ts with
  | nil => rfl
  | cons t ts ih =>
    rw [List.map_cons, List.flatten_cons, ih]
    rfl
theorem toks_join (ts : List T) (k : Nat) (ht : ∀ t ∈ ts, isTok t.1 t.2.1 = true) : ∃ us, toksG (joinT ts) k = .ok us ∧ sameT us ts := by
  cases ts with
  | nil => exact ⟨[], rfl, rfl⟩
  | cons t ts =>
    have hg : ∀ g ∈ ts.map (fun _ => ([32] : List UInt8)), g ≠ [] ∧ ∀ b ∈ g, blankB b = true := by
      intro g h
      obtain ⟨_, _, rfl⟩ := List.mem_map.1 h
      exact ⟨by simp, by simp [blankB]⟩
    obtain ⟨us, hu, hs⟩ := toks_spread (ts.map fun _ => [32]) ts [] (k + t.2.1.length) (by simp) hg (fun t h => ht t (by simp [h])) (by simp)
    refine ⟨(t.1, t.2.1, k) :: us, ?_, ?_⟩
    · have := toks_tok (g := []) (t := t.2.1) (e := spread (ts.map fun _ => [32]) ts []) (by simp) (ht t (by simp)) (spread_end _ _ _ hg rfl) k
      rw [List.nil_append, List.length_nil, Nat.add_zero, hu] at this
      show toksG (t.2.1 ++ (ts.map fun u => (32 :: u.2.1 : List UInt8)).flatten) k = _
      rw [joinT_spread, this]
      rfl
    · unfold sameT at hs ⊢
      simp [hs]
theorem joinT_len (ts : List T) : (joinT ts).length ≤ (ts.map fun t => t.2.1.length).sum + ts.length := by
  have h : ∀ us : List T, ((us.map fun u => (32 :: u.2.1 : List UInt8)).flatten).length = (us.map fun t => t.2.1.length).sum + us.length := by
    intro us
    induction us with
    | nil => rfl
    | cons u us ih =>
      rw [List.map_cons, List.flatten_cons, List.length_append, ih]
      simp only [List.map_cons, List.sum_cons, List.length_cons]
      omega
  cases ts with
  | nil => simp [joinT]
  | cons t ts =>
    have := h ts
    simp only [joinT, List.length_append, List.map_cons, List.sum_cons, List.length_cons]
    omega
end Go.Proofs.YtdoioaeppepndaaGreatDoor.Tk7
