/- What is written is read, over lists of bytes: words, lines, rows; blanks and remarks. -/
import Derived.Test.YtkmkhegekonbmaaDoorRowSpec
namespace Go.Proofs.YtkmkhegekonbmaaDoor.Rw6

theorem quotG_end (r : List UInt8) : quotG (34 :: r) = some ([], r) := by rw [quotG.eq_def]; rfl
theorem quotG_mark {c : UInt8} (r : List UInt8) (h : c = 34 ∨ c = 92) : quotG (92 :: c :: r) = front c (quotG r) := by
  rw [quotG.eq_def]
  simp only
  rw [if_neg (by decide), if_pos trivial, if_pos h]
theorem quotG_hex (x y : UInt8) (r : List UInt8) : quotG (92 :: 120 :: x :: y :: r) = (match pairV x y with | some d => front d (quotG r) | none => none) := by
  rw [quotG.eq_def]
  simp only
  rw [if_neg (by decide), if_pos trivial, if_neg (by decide), if_pos trivial]
  cases pairV x y <;> rfl
theorem quotG_print {b : UInt8} (r : List UInt8) (h1 : b ≠ 34) (h2 : b ≠ 92) (h3 : printB b = true) : quotG (b :: r) = front b (quotG r) := by
  rw [quotG.eq_def]
  simp only
  rw [if_neg h1, if_neg h2, if_pos h3]

set_option maxRecDepth 20000 in
theorem pairV_nat : ∀ n : Fin 256, pairV (hexD (n.val / 16)) (hexD (n.val % 16)) = some (UInt8.ofNat n.val) := by decide
theorem pairV_hexD (b : UInt8) : pairV (hexD (b.toNat / 16)) (hexD (b.toNat % 16)) = some b := by
  have h := pairV_nat ⟨b.toNat, UInt8.toNat_lt b⟩
  simp only at h
  rw [h, UInt8.ofNat_toNat]

theorem quotG_esc (t r : List UInt8) : quotG (escL t ++ 34 :: r) = some (t, r) := by
  induction t with
  | nil => exact quotG_end r
  | cons b t ih =>
    show quotG (escB b ++ escL t ++ 34 :: r) = _
    rw [List.append_assoc]
    unfold escB
    split
    · rename_i h
      show quotG (92 :: b :: (escL t ++ 34 :: r)) = _
      rw [quotG_mark _ h, ih]; rfl
    · rename_i h
      split
      · rename_i hp
        show quotG (b :: (escL t ++ 34 :: r)) = _
        rw [quotG_print _ (fun e => h (Or.inl e)) (fun e => h (Or.inr e)) hp, ih]; rfl
      · show quotG (92 :: 120 :: hexD (b.toNat / 16) :: hexD (b.toNat % 16) :: (escL t ++ 34 :: r)) = _
        rw [quotG_hex, pairV_hexD, ih]; rfl

theorem quotG_app (z : List UInt8) (x : List UInt8) : ∀ t r, quotG x = some (t, r) → quotG (x ++ z) = some (t, r ++ z) := by
  induction hn : x.length using Nat.strongRecOn generalizing x with
  | ind n ih =>
    intro t r h
    rw [quotG.eq_def] at h
    cases x with
    | nil => cases h
    | cons b s =>
      simp only at h
      simp only [List.length_cons] at hn
      split at h
      · rename_i hb
        subst hb
        cases h
        exact quotG_end _
      · rename_i hb
        split at h
        · rename_i hb2
          subst hb2
          cases s with
          | nil => cases h
          | cons c s2 =>
            simp only at h
            simp only [List.length_cons] at hn
            split at h
            · rename_i hc
              obtain ⟨t', h', he⟩ := front_some h
              have := ih s2.length (by omega) s2 rfl _ _ h'
              show quotG (92 :: c :: (s2 ++ z)) = _
              rw [quotG_mark _ hc, this]
              simp only at he
              subst he
              rfl
            · split at h
              · rename_i hc
                subst hc
                cases s2 with
                | nil => cases h
                | cons u s3 =>
                  cases s3 with
                  | nil => cases h
                  | cons v s4 =>
                    simp only at h
                    simp only [List.length_cons] at hn
                    split at h
                    · rename_i d hd
                      obtain ⟨t', h', he⟩ := front_some h
                      have := ih s4.length (by omega) s4 rfl _ _ h'
                      show quotG (92 :: 120 :: u :: v :: (s4 ++ z)) = _
                      rw [quotG_hex, hd, this]
                      simp only at he
                      subst he
                      rfl
                    · cases h
              · cases h
        · rename_i hb2
          split at h
          · rename_i hp
            obtain ⟨t', h', he⟩ := front_some h
            have := ih s.length (by omega) s rfl _ _ h'
            show quotG (b :: (s ++ z)) = _
            rw [quotG_print _ hb hb2 hp, this]
            simp only at he
            subst he
            rfl
          · cases h

theorem plain_blank : ∀ b : UInt8, blankB b = true → plainB b = false := by
  intro b h
  unfold blankB at h
  rw [Bool.or_eq_true, beq_iff_eq, beq_iff_eq] at h
  rcases h with h | h <;> subst h <;> decide
theorem plain_ne34 : ∀ b : UInt8, plainB b = true → b ≠ 34 := by intro b h e; subst e; revert h; decide
theorem plain_notblank : ∀ b : UInt8, plainB b = true → blankB b = false := by
  intro b h
  cases hb : blankB b with
  | false => rfl
  | true => rw [plain_blank b hb] at h; cases h

theorem while_app {z : List UInt8} (hz : endB z = true) (x : List UInt8) : (x ++ z).takeWhile plainB = x.takeWhile plainB ∧ (x ++ z).dropWhile plainB = x.dropWhile plainB ++ z := by
  induction x with
  | nil =>
    cases z with
    | nil => exact ⟨rfl, rfl⟩
    | cons b z =>
      have : plainB b = false := plain_blank b hz
      simp [this]
  | cons b x ih =>
    rw [List.cons_append, List.takeWhile_cons, List.takeWhile_cons, List.dropWhile_cons, List.dropWhile_cons]
    cases plainB b with
    | false => exact ⟨rfl, rfl⟩
    | true => simp [ih.1, ih.2]

theorem endB_app {r z : List UInt8} (hr : endB r = true) (hz : endB z = true) : endB (r ++ z) = true := by
  cases r with
  | nil => exact hz
  | cons b r => exact hr

theorem oneG_app {x z r : List UInt8} {w : Bool × List UInt8} (hz : endB z = true) (h : oneG x = some (w, r)) : oneG (x ++ z) = some (w, r ++ z) := by
  unfold oneG at h
  cases x with
  | nil => cases h
  | cons b s =>
    simp only at h
    unfold oneG
    simp only [List.cons_append]
    split at h
    · rename_i hb
      rw [if_pos hb]
      split at h
      · rename_i t r2 hq
        split at h
        · rename_i he
          cases h
          rw [quotG_app z s _ _ hq]
          simp only
          rw [if_pos (endB_app he hz)]
        · cases h
      · cases h
    · rename_i hb
      rw [if_neg hb]
      split at h
      · rename_i hc
        cases h
        have hw := while_app hz (b :: s)
        rw [List.cons_append] at hw
        rw [hw.1, hw.2, if_pos ⟨hc.1, endB_app hc.2 hz⟩]
      · cases h

theorem while_all {t : List UInt8} (h : t.all plainB = true) : t.takeWhile plainB = t ∧ t.dropWhile plainB = [] := by
  induction t with
  | nil => exact ⟨rfl, rfl⟩
  | cons b t ih =>
    rw [List.all_cons, Bool.and_eq_true] at h
    rw [List.takeWhile_cons, List.dropWhile_cons, if_pos h.1, if_pos h.1, (ih h.2).1]
    exact ⟨rfl, (ih h.2).2⟩

theorem oneG_word {q : Bool} {t rest : List UInt8} (h : okW q t = true) (hr : endB rest = true) : oneG (wordW q t ++ rest) = some ((q, t), rest) := by
  cases q with
  | true =>
    show oneG (34 :: (escL t ++ [34]) ++ rest) = _
    rw [List.cons_append, List.append_assoc]
    unfold oneG
    simp only
    rw [if_pos trivial]
    show (match quotG (escL t ++ 34 :: rest) with | some (t, r2) => if endB r2 = true then some ((true, t), r2) else none | none => none) = _
    rw [quotG_esc]
    simp only
    rw [if_pos hr]
  | false =>
    have hb : bareB t = true := h
    unfold bareB at hb
    rw [Bool.and_eq_true, Bool.and_eq_true] at hb
    obtain ⟨⟨h1, h2⟩, h3⟩ := hb
    show oneG (t ++ rest) = _
    cases t with
    | nil => cases h1
    | cons b t =>
      have hp : plainB b = true := by
        rw [List.all_cons, Bool.and_eq_true] at h3; exact h3.1
      unfold oneG
      simp only [List.cons_append]
      rw [if_neg (plain_ne34 b hp)]
      have hw := while_app hr (b :: t)
      rw [List.cons_append] at hw
      have ha := while_all h3
      rw [hw.1, hw.2, ha.1, ha.2, if_pos ⟨by simp, hr⟩]
      rfl

/-- The first byte of a word that is written. -/
theorem wordW_head {q : Bool} {t : List UInt8} (h : okW q t = true) : ∃ b r, wordW q t = b :: r ∧ blankB b = false ∧ b ≠ 35 := by
  cases q with
  | true => exact ⟨34, escL t ++ [34], rfl, by decide, by decide⟩
  | false =>
    have hb : bareB t = true := h
    unfold bareB at hb
    rw [Bool.and_eq_true, Bool.and_eq_true] at hb
    obtain ⟨⟨h1, h2⟩, h3⟩ := hb
    cases t with
    | nil => cases h1
    | cons b t =>
      refine ⟨b, t, rfl, ?_, ?_⟩
      · rw [List.all_cons, Bool.and_eq_true] at h3
        exact plain_notblank b h3.1
      · intro e; subst e; exact absurd h2 (by rw [List.head?_cons]; decide)

theorem lineG_word {q : Bool} {t rest : List UInt8} (h : okW q t = true) (hr : endB rest = true) (a : Nat) :
    lineG (wordW q t ++ rest) a = (match lineG rest (a + (wordW q t).length) with | .ok ws => .ok ((q, t, a) :: ws) | .error e => .error e) := by
  obtain ⟨b, r, he, hb, h35⟩ := wordW_head h
  have h1 := oneG_word h hr
  have hl : (wordW q t ++ rest).length - rest.length = (wordW q t).length := by rw [List.length_append]; omega
  rw [he] at h1 hl ⊢
  rw [List.cons_append] at h1 hl ⊢
  rw [lineG_cons, if_neg (by rw [hb]; decide), if_neg h35, h1]
  simp only
  rw [hl]
  cases lineG rest (a + (b :: r).length) <;> rfl

theorem lineG_one {q : Bool} {t : List UInt8} (h : okW q t = true) (a : Nat) : lineG (wordW q t) a = .ok [(q, t, a)] := by
  have := lineG_word h (rest := []) rfl a
  rw [List.append_nil, lineG_nil] at this
  exact this

theorem lineG_rowW (ws : List W) : (∀ w ∈ ws, okW w.1 w.2.1 = true) → ∀ a, ∃ ws', lineG (rowW ws) a = .ok ws' ∧ bare ws' = bare ws := by
  induction ws with
  | nil => intro _ a; exact ⟨[], lineG_nil a, rfl⟩
  | cons w ws ih =>
    intro h a
    cases ws with
    | nil => exact ⟨_, lineG_one (h w (by simp)) a, rfl⟩
    | cons w2 ws =>
      obtain ⟨ws', h1, h2⟩ := ih (fun x hx => h x (List.mem_cons_of_mem _ hx)) (a + (wordW w.1 w.2.1).length + 1)
      refine ⟨(w.1, w.2.1, a) :: ws', ?_, ?_⟩
      · show lineG (wordW w.1 w.2.1 ++ 32 :: rowW (w2 :: ws)) a = _
        rw [lineG_word (h w (by simp)) (by rfl), lineG_cons, if_pos (by decide), h1]
      · show (w.1, w.2.1) :: bare ws' = _
        rw [h2]; rfl

/-- No line feed is within what is written. -/
theorem hexD_print : ∀ n : Fin 16, printB (hexD n.val) = true := by decide
theorem esc_print (b : UInt8) : ∀ c ∈ escB b, printB c = true := by
  intro c hc
  unfold escB at hc
  split at hc
  · rename_i h
    rw [List.mem_cons, List.mem_singleton] at hc
    rcases hc with hc | hc
    · subst hc; decide
    · subst hc; rcases h with h | h <;> subst h <;> decide
  · split at hc
    · rename_i h
      rw [List.mem_singleton] at hc
      rw [hc]; exact h
    · simp only [List.mem_cons, List.not_mem_nil, or_false] at hc
      have hb := UInt8.toNat_lt b
      rcases hc with hc | hc | hc | hc
      · subst hc; decide
      · subst hc; decide
      · subst hc; exact hexD_print ⟨b.toNat / 16, by omega⟩
      · subst hc; exact hexD_print ⟨b.toNat % 16, by omega⟩
theorem plain_print {b : UInt8} (h : plainB b = true) : printB b = true := by
  unfold plainB at h
  rw [Bool.and_eq_true, Bool.and_eq_true, Bool.and_eq_true] at h
  exact h.1.1.1
theorem wordW_print {q : Bool} {t : List UInt8} (h : okW q t = true) : ∀ c ∈ wordW q t, printB c = true := by
  intro c hc
  cases q with
  | true =>
    have hc' : c ∈ 34 :: (escL t ++ [34]) := hc
    rw [List.mem_cons, List.mem_append, List.mem_singleton] at hc'
    rcases hc' with hc | hc | hc
    · subst hc; decide
    · unfold escL at hc
      rw [List.mem_flatMap] at hc
      obtain ⟨b, _, hb⟩ := hc
      exact esc_print b c hb
    · subst hc; decide
  | false =>
    have hb : bareB t = true := h
    unfold bareB at hb
    rw [Bool.and_eq_true, Bool.and_eq_true, List.all_eq_true] at hb
    exact plain_print (hb.2 c hc)
theorem rowW_print (ws : List W) : (∀ w ∈ ws, okW w.1 w.2.1 = true) → ∀ c ∈ rowW ws, printB c = true := by
  induction ws with
  | nil => intro _ c hc; cases hc
  | cons w ws ih =>
    intro h c hc
    cases ws with
    | nil => exact wordW_print (h w (by simp)) c hc
    | cons w2 ws =>
      have hc' : c ∈ wordW w.1 w.2.1 ++ 32 :: rowW (w2 :: ws) := hc
      rw [List.mem_append, List.mem_cons] at hc'
      rcases hc' with hc | hc | hc
      · exact wordW_print (h w (by simp)) c hc
      · subst hc; decide
      · exact ih (fun x hx => h x (List.mem_cons_of_mem _ hx)) c hc
theorem print_no10 {l : List UInt8} (h : ∀ c ∈ l, printB c = true) : (10 : UInt8) ∉ l := by
  intro hc
  exact absurd (h 10 hc) (by decide)

theorem linesOf_cons10 (t : List UInt8) : linesOf (10 :: t) = [] :: linesOf t := by
  show (if (10 : UInt8) = 10 then _ else _) = _
  rw [if_pos rfl]
theorem linesOf_cons {b : UInt8} (h : b ≠ 10) (t : List UInt8) : linesOf (b :: t) = match linesOf t with | [] => [[b]] | x :: xs => (b :: x) :: xs := by
  show (if b = 10 then _ else _) = _
  rw [if_neg h]
  cases linesOf t <;> rfl
theorem linesOf_line (l : List UInt8) (t : List UInt8) : (10 : UInt8) ∉ l → linesOf (l ++ 10 :: t) = l :: linesOf t := by
  induction l with
  | nil => intro _; exact linesOf_cons10 t
  | cons b l ih =>
    intro h
    rw [List.mem_cons, not_or] at h
    rw [List.cons_append, linesOf_cons (fun e => h.1 e.symm), ih h.2]
theorem linesOf_last (l : List UInt8) : (10 : UInt8) ∉ l → l ≠ [] → linesOf l = [l] := by
  induction l with
  | nil => intro _ h; exact absurd rfl h
  | cons b l ih =>
    intro h _
    rw [List.mem_cons, not_or] at h
    rw [linesOf_cons (fun e => h.1 e.symm)]
    cases l with
    | nil => rfl
    | cons c l => rw [ih h.2 (by simp)]

/-- A line's words without their offsets, where it is right. -/
def lineB (s : List UInt8) : Option (List (Bool × List UInt8)) := match lineG s 0 with | .ok ws => some (bare ws) | .error _ => none
theorem lineG_off (s : List UInt8) : ∀ a c ws, lineG s a = .ok ws → ∃ ws', lineG s c = .ok ws' ∧ bare ws' = bare ws := by
  induction hn : s.length using Nat.strongRecOn generalizing s with
  | ind n ih =>
    intro a c ws h
    cases s with
    | nil =>
      rw [lineG_nil] at h ⊢
      cases h
      exact ⟨[], rfl, rfl⟩
    | cons b r =>
      simp only [List.length_cons] at hn
      rw [lineG_cons] at h ⊢
      split at h
      · rename_i hb
        rw [if_pos hb]
        exact ih r.length (by omega) r rfl _ _ _ h
      · rename_i hb
        rw [if_neg hb]
        split at h
        · rename_i h35
          rw [if_pos h35]
          cases h
          exact ⟨[], rfl, rfl⟩
        · rename_i h35
          rw [if_neg h35]
          cases h1 : oneG (b :: r) with
          | none => rw [h1] at h; cases h
          | some p =>
            have hl := oneG_len (w := p.1) (r := p.2) h1
            simp only [List.length_cons] at hl
            rw [h1] at h
            simp only at h ⊢
            cases h2 : lineG p.2 (a + ((b :: r).length - p.2.length)) with
            | error e => rw [h2] at h; cases h
            | ok ws1 =>
              rw [h2] at h
              cases h
              obtain ⟨ws', h3, h4⟩ := ih p.2.length (by omega) p.2 rfl _ (c + ((b :: r).length - p.2.length)) _ h2
              rw [h3]
              exact ⟨_, rfl, by show (p.1.1, p.1.2) :: bare ws' = (p.1.1, p.1.2) :: bare ws1; rw [h4]⟩
theorem lineB_ok {s : List UInt8} {a : Nat} {ws : List W} (h : lineG s a = .ok ws) : lineB s = some (bare ws) := by
  obtain ⟨ws', h1, h2⟩ := lineG_off s a 0 ws h
  unfold lineB
  rw [h1, ← h2]
theorem lineG_ok {s : List UInt8} {l : List (Bool × List UInt8)} (h : lineB s = some l) (a : Nat) : ∃ ws, lineG s a = .ok ws ∧ bare ws = l := by
  unfold lineB at h
  cases h1 : lineG s 0 with
  | error e => rw [h1] at h; cases h
  | ok ws =>
    rw [h1] at h
    cases h
    exact lineG_off s 0 a ws h1

/-- Rows' words without offsets, where all lines are right. -/
def rB : List (List UInt8) → Option (List (List (Bool × List UInt8)))
  | [] => some []
  | l :: ls =>
    if 1000 < l.length then none
    else
      match lineB l, rB ls with
      | some ws, some rs => some (if ws = [] then rs else ws :: rs)
      | _, _ => none
theorem rB_cons {l : List UInt8} {ls : List (List UInt8)} {ws : List (Bool × List UInt8)} {rs : List (List (Bool × List UInt8))} (h : l.length ≤ 1000) (h1 : lineB l = some ws) (h2 : rB ls = some rs) :
    rB (l :: ls) = some (if ws = [] then rs else ws :: rs) := by
  unfold rB
  rw [if_neg (by omega), h1, h2]
theorem rB_inv {l : List UInt8} {ls : List (List UInt8)} {R : List (List (Bool × List UInt8))} (h : rB (l :: ls) = some R) :
    l.length ≤ 1000 ∧ ∃ ws rs, lineB l = some ws ∧ rB ls = some rs ∧ R = if ws = [] then rs else ws :: rs := by
  unfold rB at h
  split at h
  · cases h
  · rename_i hl
    refine ⟨by omega, ?_⟩
    cases h1 : lineB l with
    | none => rw [h1] at h; cases h
    | some ws =>
      cases h2 : rB ls with
      | none => rw [h1, h2] at h; cases h
      | some rs =>
        rw [h1, h2] at h
        cases h
        exact ⟨ws, rs, rfl, rfl, rfl⟩
theorem bare_nil {ws : List W} : bare ws = [] ↔ ws = [] := by unfold bare; exact List.map_eq_nil_iff
theorem rowsG_rB (ls : List (List UInt8)) : ∀ a rs, rowsG ls a = .ok rs → rB ls = some (bares rs) := by
  induction ls with
  | nil => intro a rs h; cases h; rfl
  | cons l ls ih =>
    intro a rs h
    unfold rowsG at h
    split at h
    · cases h
    · rename_i hl
      cases h1 : lineG l a with
      | error e => rw [h1] at h; cases h
      | ok ws =>
        rw [h1] at h
        simp only at h
        cases h2 : rowsG ls (a + l.length + 1) with
        | error e => rw [h2] at h; cases h
        | ok rs2 =>
          rw [h2] at h
          cases h
          rw [rB_cons (by omega) (lineB_ok h1) (ih _ _ h2)]
          by_cases hw : ws = []
          · rw [if_pos hw, if_pos (bare_nil.2 hw)]
          · rw [if_neg hw, if_neg (fun e => hw (bare_nil.1 e))]; rfl
theorem rB_rowsG (ls : List (List UInt8)) : ∀ a R, rB ls = some R → ∃ rs, rowsG ls a = .ok rs ∧ bares rs = R := by
  induction ls with
  | nil => intro a R h; cases h; exact ⟨[], rfl, rfl⟩
  | cons l ls ih =>
    intro a R h
    obtain ⟨hl, ws, rs, h1, h2, h3⟩ := rB_inv h
    obtain ⟨w', h4, h5⟩ := lineG_ok h1 a
    obtain ⟨r', h6, h7⟩ := ih (a + l.length + 1) rs h2
    unfold rowsG
    rw [if_neg (by omega), h4]
    simp only
    rw [h6]
    refine ⟨_, rfl, ?_⟩
    rw [h3]
    by_cases hw : w' = []
    · rw [if_pos hw, if_pos (by rw [← h5]; exact bare_nil.2 hw), h7]
    · rw [if_neg hw, if_neg (fun e => hw (bare_nil.1 (h5.trans e)))]
      show bare w' :: bares r' = _
      rw [h5, h7]
theorem rB_append {xs ys : List (List UInt8)} {A B : List (List (Bool × List UInt8))} (h1 : rB xs = some A) (h2 : rB ys = some B) : rB (xs ++ ys) = some (A ++ B) := by
  induction xs generalizing A with
  | nil => cases h1; exact h2
  | cons l ls ih =>
    obtain ⟨hl, ws, rs, h3, h4, h5⟩ := rB_inv h1
    rw [List.cons_append, rB_cons hl h3 (ih h4), h5]
    by_cases hw : ws = []
    · rw [if_pos hw, if_pos hw]
    · rw [if_neg hw, if_neg hw]; rfl
theorem lineB_nil : lineB [] = some [] := by unfold lineB; rw [lineG_nil]; rfl
theorem rB_empty {ls : List (List UInt8)} {R : List (List (Bool × List UInt8))} (h : rB ls = some R) : rB ([] :: ls) = some R := by
  rw [rB_cons (by simp) lineB_nil h, if_pos rfl]

/-- The rows that are read from a text that is written (P6.5). -/
theorem rB_textW (rs : List (Nat × List W)) : (∀ r ∈ rs, r.2 ≠ [] ∧ (∀ w ∈ r.2, okW w.1 w.2.1 = true) ∧ (rowW r.2).length ≤ 1000) → rB (linesOf (textW rs)) = some (bares rs) := by
  induction rs with
  | nil => intro _; rfl
  | cons r rs ih =>
    intro h
    obtain ⟨h1, h2, h3⟩ := h r (by simp)
    have he : textW (r :: rs) = rowW r.2 ++ 10 :: textW rs := by
      show rowW r.2 ++ [10] ++ textW rs = _
      rw [List.append_assoc]; rfl
    rw [he, linesOf_line _ _ (print_no10 (rowW_print _ h2))]
    obtain ⟨ws', h4, h5⟩ := lineG_rowW r.2 h2 0
    rw [rB_cons h3 (lineB_ok h4) (ih fun x hx => h x (List.mem_cons_of_mem _ hx)), h5, if_neg (fun e => h1 (bare_nil.1 e))]
    rfl
theorem readG_rB {t : List UInt8} {R : List (List (Bool × List UInt8))} (hl : t.length ≤ 20000) (h : rB (linesOf t) = some R) : ∃ rs, readG t = .ok rs ∧ bares rs = R := by
  unfold readG
  rw [if_neg (by omega)]
  exact rB_rowsG _ 0 R h
theorem readG_inv {t : List UInt8} {rs : List (Nat × List W)} (h : readG t = .ok rs) : t.length ≤ 20000 ∧ rB (linesOf t) = some (bares rs) := by
  unfold readG at h
  split at h
  · cases h
  · exact ⟨by omega, rowsG_rB _ _ _ h⟩

/-- A text with one word (P6.9). -/
theorem readG_word {q : Bool} {t : List UInt8} (h : okW q t = true) (hl : (wordW q t).length ≤ 1000) : readG (wordW q t) = .ok [(0, [(q, t, 0)])] := by
  obtain ⟨b, r, he, _⟩ := wordW_head h
  unfold readG
  rw [if_neg (by omega), linesOf_last _ (print_no10 (wordW_print h)) (by rw [he]; simp)]
  unfold rowsG
  rw [if_neg (by omega), lineG_one h]
  rfl
theorem escB_len (b : UInt8) : (escB b).length ≤ 4 := by
  unfold escB
  split
  · simp
  · split <;> simp
theorem escL_len (t : List UInt8) : (escL t).length ≤ 4 * t.length := by
  induction t with
  | nil => simp [escL]
  | cons b t ih =>
    show (escB b ++ escL t).length ≤ _
    rw [List.length_append, List.length_cons]
    have := escB_len b
    omega

/-- What is read can be written. -/
theorem takeWhile_all (l : List UInt8) : (l.takeWhile plainB).all plainB = true := by
  induction l with
  | nil => rfl
  | cons b l ih =>
    rw [List.takeWhile_cons]
    cases h : plainB b with
    | false => rfl
    | true => rw [if_pos rfl, List.all_cons, h, ih]; rfl
theorem oneG_ok {b : UInt8} {s r : List UInt8} {w : Bool × List UInt8} (h35 : b ≠ 35) (h : oneG (b :: s) = some (w, r)) : okW w.1 w.2 = true := by
  unfold oneG at h
  simp only at h
  split at h
  · split at h
    · split at h
      · cases h; rfl
      · cases h
    · cases h
  · split at h
    · rename_i hc
      cases h
      show bareB _ = true
      unfold bareB
      rw [Bool.and_eq_true, Bool.and_eq_true]
      refine ⟨⟨?_, ?_⟩, takeWhile_all _⟩
      · cases hh : (b :: s).takeWhile plainB with
        | nil => exact absurd hh hc.1
        | cons x y => rfl
      · have h1 := hc.1
        rw [List.takeWhile_cons] at h1 ⊢
        cases hp : plainB b with
        | false => rw [hp] at h1; exact absurd rfl h1
        | true =>
          rw [if_pos rfl, List.head?_cons]
          simp [h35]
    · cases h
theorem lineG_okW (s : List UInt8) : ∀ a ws, lineG s a = .ok ws → ∀ w ∈ ws, okW w.1 w.2.1 = true := by
  induction hn : s.length using Nat.strongRecOn generalizing s with
  | ind n ih =>
    intro a ws h
    cases s with
    | nil =>
      rw [lineG_nil] at h
      cases h
      intro w hw; cases hw
    | cons b r =>
      simp only [List.length_cons] at hn
      rw [lineG_cons] at h
      split at h
      · exact ih r.length (by omega) r rfl _ _ h
      · split at h
        · cases h
          intro w hw; cases hw
        · rename_i h35
          cases h1 : oneG (b :: r) with
          | none => rw [h1] at h; cases h
          | some p =>
            have hl := oneG_len (w := p.1) (r := p.2) h1
            simp only [List.length_cons] at hl
            rw [h1] at h
            simp only at h
            cases h2 : lineG p.2 (a + ((b :: r).length - p.2.length)) with
            | error e => rw [h2] at h; cases h
            | ok ws1 =>
              rw [h2] at h
              cases h
              intro w hw
              rw [List.mem_cons] at hw
              rcases hw with hw | hw
              · subst hw
                exact oneG_ok (w := p.1) h35 h1
              · exact ih p.2.length (by omega) p.2 rfl _ _ h2 w hw
theorem rowsG_okW (ls : List (List UInt8)) : ∀ a rs, rowsG ls a = .ok rs → ∀ r ∈ rs, r.2 ≠ [] ∧ ∀ w ∈ r.2, okW w.1 w.2.1 = true := by
  induction ls with
  | nil => intro a rs h; cases h; intro r hr; cases hr
  | cons l ls ih =>
    intro a rs h
    unfold rowsG at h
    split at h
    · cases h
    · cases h1 : lineG l a with
      | error e => rw [h1] at h; cases h
      | ok ws =>
        rw [h1] at h
        simp only at h
        cases h2 : rowsG ls (a + l.length + 1) with
        | error e => rw [h2] at h; cases h
        | ok rs2 =>
          rw [h2] at h
          cases h
          intro r hr
          by_cases hw : ws = []
          · rw [if_pos hw] at hr
            exact ih _ _ h2 r hr
          · rw [if_neg hw, List.mem_cons] at hr
            rcases hr with hr | hr
            · subst hr
              exact ⟨hw, lineG_okW _ _ _ h1⟩
            · exact ih _ _ h2 r hr

/-- The lines of two texts with a line feed between them (P6.8). -/
theorem linesOf_two (s t : List UInt8) : linesOf (s ++ 10 :: t) = linesOf s ++ linesOf t ∨ linesOf (s ++ 10 :: t) = linesOf s ++ [] :: linesOf t := by
  induction s with
  | nil => right; exact linesOf_cons10 t
  | cons b s ih =>
    rw [List.cons_append]
    by_cases hb : b = 10
    · subst hb
      rw [linesOf_cons10, linesOf_cons10]
      rcases ih with ih | ih
      · left; rw [ih]; rfl
      · right; rw [ih]; rfl
    · rw [linesOf_cons hb, linesOf_cons hb]
      cases hs : linesOf s with
      | nil =>
        rw [hs] at ih
        rcases ih with ih | ih
        · have h0 : s = [] := by
            cases s with
            | nil => rfl
            | cons c s =>
              by_cases hc : c = 10
              · subst hc; rw [linesOf_cons10] at hs; cases hs
              · rw [linesOf_cons hc] at hs
                cases hq : linesOf s with
                | nil => rw [hq] at hs; cases hs
                | cons x xs => rw [hq] at hs; cases hs
          subst h0
          left
          rw [List.nil_append, linesOf_cons10]
          rfl
        · left
          rw [ih]
          rfl
      | cons x xs =>
        rw [hs] at ih
        rcases ih with ih | ih
        · left; rw [ih]; rfl
        · right; rw [ih]; rfl
theorem rB_two {s t : List UInt8} {A B : List (List (Bool × List UInt8))} (h1 : rB (linesOf s) = some A) (h2 : rB (linesOf t) = some B) : rB (linesOf (s ++ 10 :: t)) = some (A ++ B) := by
  rcases linesOf_two s t with h | h
  · rw [h]; exact rB_append h1 h2
  · rw [h]; exact rB_append h1 (rB_empty h2)

theorem linesOf_le (s : List UInt8) : ∀ l ∈ linesOf s, l.length ≤ s.length := by
  induction s with
  | nil => intro l hl; cases hl
  | cons b s ih =>
    intro l hl
    rw [List.length_cons]
    by_cases hb : b = 10
    · subst hb
      rw [linesOf_cons10, List.mem_cons] at hl
      rcases hl with hl | hl
      · subst hl; simp
      · have := ih l hl; omega
    · rw [linesOf_cons hb] at hl
      cases hs : linesOf s with
      | nil =>
        rw [hs, List.mem_singleton] at hl
        subst hl; simp
      | cons x xs =>
        rw [hs] at hl
        rw [hs] at ih
        simp only [List.mem_cons] at hl
        rcases hl with hl | hl
        · subst hl
          have := ih x (by simp)
          rw [List.length_cons]; omega
        · have := ih l (by simp [hl]); omega
/-- A blank ahead (P6.7). -/
theorem lineB_blank {b : UInt8} (hb : blankB b = true) {x : List UInt8} {l : List (Bool × List UInt8)} (h : lineB x = some l) : lineB (b :: x) = some l := by
  obtain ⟨ws, h1, h2⟩ := lineG_ok h 1
  unfold lineB
  rw [lineG_cons, if_pos hb]
  show (match lineG x 1 with | .ok ws => some (bare ws) | .error _ => none) = _
  rw [h1]
  exact congrArg some h2
theorem rB_blank {b : UInt8} (hb : blankB b = true) {s : List UInt8} {A : List (List (Bool × List UInt8))} (hs : s.length < 1000) (h : rB (linesOf s) = some A) : rB (linesOf (b :: s)) = some A := by
  have h10 : b ≠ 10 := by intro e; subst e; revert hb; decide
  rw [linesOf_cons h10]
  cases hl : linesOf s with
  | nil =>
    rw [hl] at h
    cases h
    show rB [[b]] = _
    rw [rB_cons (by simp) (lineB_blank hb lineB_nil) (rs := []) rfl]
    rfl
  | cons x xs =>
    have hx := linesOf_le s x (by rw [hl]; simp)
    rw [hl] at h
    obtain ⟨_, ws, rs, h1, h2, h3⟩ := rB_inv h
    show rB ((b :: x) :: xs) = _
    rw [rB_cons (by rw [List.length_cons]; omega) (lineB_blank hb h1) h2, h3]

/-- A blank and a remark behind (P6.7). -/
theorem lineG_behind (z : List UInt8) (x : List UInt8) : ∀ a ws, lineG x a = .ok ws → lineG (x ++ 32 :: 35 :: z) a = .ok ws := by
  induction hn : x.length using Nat.strongRecOn generalizing x with
  | ind n ih =>
    intro a ws h
    cases x with
    | nil =>
      rw [lineG_nil] at h
      cases h
      rw [List.nil_append, lineG_cons, if_pos (by decide), lineG_cons, if_neg (by decide), if_pos rfl]
    | cons b r =>
      simp only [List.length_cons] at hn
      rw [lineG_cons] at h
      rw [List.cons_append, lineG_cons]
      split at h
      · rename_i hb
        rw [if_pos hb]
        exact ih r.length (by omega) r rfl _ _ h
      · rename_i hb
        rw [if_neg hb]
        split at h
        · rename_i h35
          rw [if_pos h35]
          exact h
        · rename_i h35
          rw [if_neg h35]
          cases h1 : oneG (b :: r) with
          | none => rw [h1] at h; cases h
          | some p =>
            have hl := oneG_len (w := p.1) (r := p.2) h1
            simp only [List.length_cons] at hl
            have h1' := oneG_app (z := 32 :: 35 :: z) (w := p.1) (r := p.2) (by rfl) h1
            rw [List.cons_append] at h1'
            rw [h1] at h
            rw [h1']
            simp only at h ⊢
            have he : (b :: (r ++ 32 :: 35 :: z)).length - (p.2 ++ 32 :: 35 :: z).length = (b :: r).length - p.2.length := by
              simp only [List.length_cons, List.length_append]; omega
            rw [he]
            cases h2 : lineG p.2 (a + ((b :: r).length - p.2.length)) with
            | error e => rw [h2] at h; cases h
            | ok ws1 =>
              rw [h2] at h
              rw [ih p.2.length (by omega) p.2 rfl _ _ h2]
              exact h
theorem lineB_behind (z : List UInt8) {x : List UInt8} {l : List (Bool × List UInt8)} (h : lineB x = some l) : lineB (x ++ 32 :: 35 :: z) = some l := by
  obtain ⟨ws, h1, h2⟩ := lineG_ok h 0
  rw [lineB_ok (lineG_behind z x 0 ws h1), h2]
theorem linesOf_behind {z : List UInt8} (hz : (10 : UInt8) ∉ z) (hn : z ≠ []) (t : List UInt8) : linesOf (t ++ z) = linesOf t ++ [z] ∨ ∃ xs x, linesOf t = xs ++ [x] ∧ linesOf (t ++ z) = xs ++ [x ++ z] := by
  induction t with
  | nil => left; exact linesOf_last z hz hn
  | cons b t ih =>
    rw [List.cons_append]
    by_cases hb : b = 10
    · subst hb
      rw [linesOf_cons10, linesOf_cons10]
      rcases ih with ih | ⟨xs, x, h1, h2⟩
      · left; rw [ih]; rfl
      · right; exact ⟨[] :: xs, x, by rw [h1]; rfl, by rw [h2]; rfl⟩
    · rw [linesOf_cons hb, linesOf_cons hb]
      rcases ih with ih | ⟨xs, x, h1, h2⟩
      · rw [ih]
        cases hs : linesOf t with
        | nil => right; exact ⟨[], [b], rfl, rfl⟩
        | cons y ys => left; rfl
      · right
        rw [h1, h2]
        cases xs with
        | nil => exact ⟨[], b :: x, rfl, rfl⟩
        | cons y ys => exact ⟨(b :: y) :: ys, x, rfl, rfl⟩
theorem rB_split (xs : List (List UInt8)) {ys : List (List UInt8)} {R : List (List (Bool × List UInt8))} (h : rB (xs ++ ys) = some R) : ∃ A B, rB xs = some A ∧ rB ys = some B ∧ R = A ++ B := by
  induction xs generalizing R with
  | nil => exact ⟨[], R, rfl, h, rfl⟩
  | cons l ls ih =>
    rw [List.cons_append] at h
    obtain ⟨hl, ws, rs, h1, h2, h3⟩ := rB_inv h
    obtain ⟨A, B, h4, h5, h6⟩ := ih h2
    refine ⟨_, B, rB_cons hl h1 h4, h5, ?_⟩
    rw [h3, h6]
    by_cases hw : ws = []
    · rw [if_pos hw, if_pos hw]
    · rw [if_neg hw, if_neg hw]; rfl
theorem rB_behind {z : List UInt8} (hz : (10 : UInt8) ∉ z) {t : List UInt8} {B : List (List (Bool × List UInt8))} (hl : t.length + z.length + 2 ≤ 1000) (h : rB (linesOf t) = some B) : rB (linesOf (t ++ 32 :: 35 :: z)) = some B := by
  rcases linesOf_behind (z := 32 :: 35 :: z) (by rw [List.mem_cons, List.mem_cons, not_or, not_or]; exact ⟨by decide, by decide, hz⟩) (by simp) t with h1 | ⟨xs, x, h1, h2⟩
  · rw [h1]
    have h3 : rB [32 :: 35 :: z] = some [] := by
      have h0 := lineB_behind z lineB_nil
      rw [List.nil_append] at h0
      rw [rB_cons (by simp only [List.length_cons]; omega) h0 (rs := []) rfl]
      rfl
    have := rB_append h h3
    rw [List.append_nil] at this
    exact this
  · have hx := linesOf_le t x (by rw [h1]; simp)
    rw [h1] at h
    obtain ⟨P, Q, h3, h4, h5⟩ := rB_split xs h
    obtain ⟨_, ws, rs, h6, h7, h8⟩ := rB_inv h4
    rw [h2, h5, h8]
    exact rB_append h3 (rB_cons (by simp only [List.length_append, List.length_cons]; omega) (lineB_behind z h6) h7)
theorem rB_remark {z : List UInt8} (hz : (10 : UInt8) ∉ z) (hl : z.length < 1000) : rB (linesOf (35 :: z)) = some [] := by
  rw [linesOf_last _ (by rw [List.mem_cons, not_or]; exact ⟨by decide, hz⟩) (by simp)]
  have h1 : lineB (35 :: z) = some [] := by
    unfold lineB
    rw [lineG_cons, if_neg (by decide), if_pos rfl]
    rfl
  rw [rB_cons (by rw [List.length_cons]; omega) h1 (rs := []) rfl]
  rfl
end Go.Proofs.YtkmkhegekonbmaaDoor.Rw6
