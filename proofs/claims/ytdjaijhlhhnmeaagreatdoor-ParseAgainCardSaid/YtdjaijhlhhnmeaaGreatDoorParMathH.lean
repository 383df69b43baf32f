/- What is parsed does not depend on the offsets; more blanks change nothing. Nothing here speaks of the program. Made by program (wip/tools/gen_parMathH.py). -/
import Derived.Test.YtdjaijhlhhnmeaaGreatDoorParMathG
namespace Go.Proofs.YtdjaijhlhhnmeaaGreatDoor.P9
open Go.Proofs.YtdjaijhlhhnmeaaGreatDoor.Tk7 Go.Proofs.YtdjaijhlhhnmeaaGreatDoor.A8

def Cng {α : Type} (p p' : List T → R α) : Prop := ∀ l l' a r, sameT l l' → p l = .ok (a, r) → ∃ r', p' l' = .ok (a, r') ∧ sameT r r'
theorem same_len {l l' : List T} (h : sameT l l') : l.length = l'.length := by
  have := congrArg List.length h
  simpa using this
theorem same_cons {t : T} {l l' : List T} (h : sameT (t :: l) l') : ∃ t' m, l' = t' :: m ∧ t'.1 = t.1 ∧ t'.2.1 = t.2.1 ∧ sameT l m := by
  cases l' with
  | nil => cases h
  | cons t' m =>
    unfold sameT at h
    simp only [List.map_cons, List.cons.injEq, Prod.mk.injEq] at h
    exact ⟨t', m, rfl, h.1.1.symm, h.1.2.symm, h.2⟩
theorem same_tail {l l' : List T} (h : sameT l l') : sameT l.tail l'.tail := by
  cases l with
  | nil =>
    have := same_len h
    rw [List.length_nil] at this
    rw [List.eq_nil_of_length_eq_zero this.symm]
    exact rfl
  | cons t l =>
    obtain ⟨t', m, rfl, -, -, h2⟩ := same_cons h
    exact h2
theorem same_sees {x : List UInt8} {l l' : List T} (h : sameT l l') : seesP x l = seesP x l' := by
  cases l with
  | nil =>
    have := same_len h
    rw [List.length_nil] at this
    rw [List.eq_nil_of_length_eq_zero this.symm]
  | cons t l =>
    obtain ⟨t', m, rfl, -, h1, -⟩ := same_cons h
    simp only [seesP, h1]
theorem then_cng {α β : Type} {p p' : List T → R α} {f f' : α → List T → R β} (hp : Cng p p') (hf : ∀ a, Cng (f a) (f' a)) : Cng (fun l => andThen (p l) f) (fun l => andThen (p' l) f') := fun l l' b r hs h => by
  obtain ⟨a, r1, h1, h2⟩ := andThen_some h
  obtain ⟨r1', h3, h4⟩ := hp l l' a r1 hs h1
  obtain ⟨r', h5, h6⟩ := hf a r1 r1' b r h4 h2
  refine ⟨r', ?_, h6⟩
  simp only
  rw [h3, andThen_ok]
  exact h5
theorem ret_cng {α : Type} (a : α) : Cng (fun l => .ok (a, l)) (fun l => .ok (a, l)) := fun l l' b r hs h => by cases h; exact ⟨l', rfl, hs⟩
theorem tl_cng {α : Type} {p p' : List T → R α} (hp : Cng p p') : Cng (fun l => p l.tail) (fun l => p' l.tail) := fun l l' b r hs h => hp l.tail l'.tail b r (same_tail hs) h
theorem if_cng {α : Type} {x : List UInt8} {p q p' q' : List T → R α} (hp : Cng p p') (hq : Cng q q') : Cng (fun l => if seesP x l = true then p l else q l) (fun l => if seesP x l = true then p' l else q' l) := fun l l' b r hs h => by
  simp only [← same_sees (x := x) hs] at h ⊢
  split at h
  · rename_i hc
    rw [if_pos hc]
    exact hp l l' b r hs h
  · rename_i hc
    rw [if_neg hc]
    exact hq l l' b r hs h
theorem want_cng (e e' : Nat) (x : List UInt8) : Cng (wantP e x) (wantP e' x) := fun l l' a r hs h => by
  unfold wantP at h ⊢
  rw [← same_sees hs]
  split at h
  · rename_i hc
    rw [if_pos hc]
    cases h
    exact ⟨_, rfl, same_tail hs⟩
  · cases h
theorem num_cng (e e' : Nat) (lo hi : Int) : Cng (numP e lo hi) (numP e' lo hi) := fun l l' a r hs h => by
  cases l with
  | nil => cases h
  | cons t l =>
    obtain ⟨t', m, rfl, k1, k2, k3⟩ := same_cons hs
    simp only [numP] at h ⊢
    simp only [k1, k2]
    split at h
    · rename_i hc
      rw [if_pos hc]
      split at h
      · rename_i hd
        rw [if_pos hd]
        cases h
        exact ⟨m, rfl, k3⟩
      · cases h
    · cases h
theorem name_cng (e e' : Nat)  : Cng (nameP e) (nameP e') := fun l l' a r hs h => by
  cases l with
  | nil => cases h
  | cons t l =>
    obtain ⟨t', m, rfl, k1, k2, k3⟩ := same_cons hs
    simp only [nameP] at h ⊢
    simp only [k2]
    split at h
    · rename_i hc
      rw [if_pos hc]
      cases h
      exact ⟨m, rfl, k3⟩
    · cases h
theorem letter_cng (e e' : Nat)  : Cng (letterP e) (letterP e') := fun l l' a r hs h => by
  cases l with
  | nil => cases h
  | cons t l =>
    obtain ⟨t', m, rfl, k1, k2, k3⟩ := same_cons hs
    simp only [letterP] at h ⊢
    simp only [k1, k2]
    split at h
    · rename_i hc
      rw [if_pos hc]
      cases h
      exact ⟨m, rfl, k3⟩
    · cases h
theorem one_cng (tab : List (List UInt8)) (e e' : Nat) : Cng (oneP tab e) (oneP tab e') := fun l l' a r hs h => by
  cases l with
  | nil => cases h
  | cons t l =>
    obtain ⟨t', m, rfl, k1, k2, k3⟩ := same_cons hs
    simp only [oneP] at h ⊢
    simp only [k2]
    split at h
    · rename_i hc
      rw [if_pos hc]
      cases h
      exact ⟨m, rfl, k3⟩
    · cases h
theorem more_cng {α : Type} {x : List UInt8} {part part' : List T → R α} (hp : Cng part part') : ∀ f, Cng (moreP x part f) (moreP x part' f)
  | 0 => fun l l' a r hs h => by cases h; exact ⟨l', rfl, hs⟩
  | f + 1 => if_cng (x := x) (p := fun l => andThen (part l.tail) fun a r => andThen (moreP x part f r) fun zs r => .ok (a :: zs, r)) (q := fun l => .ok ([], l)) (p' := fun l => andThen (part' l.tail) fun a r => andThen (moreP x part' f r) fun zs r => .ok (a :: zs, r)) (q' := fun l => .ok ([], l)) (then_cng (tl_cng hp) fun a => then_cng (more_cng hp f) fun zs => ret_cng _) (ret_cng _)
theorem list_cng {α : Type} {x : List UInt8} {part part' : List T → R α} (hp : Cng part part') : Cng (listP x part) (listP x part') :=
  then_cng hp fun a => fun l l' b r hs h => by
    obtain ⟨zs, r1, h1, h2⟩ := andThen_some h
    cases h2
    obtain ⟨r', h3, h4⟩ := more_cng (x := x) hp l.length l l' zs r hs h1
    refine ⟨r', ?_, h4⟩
    rw [← same_len hs, h3]
    rfl
theorem cat_cng (e e' : Nat) (b : Int) : Cng (catP e b) (catP e' b) := fun l l' a r hs h => by
  obtain ⟨c, r1, h1, h2⟩ := andThen_some h
  obtain ⟨r', h3, h4⟩ := num_cng e e' 0 63 l l' c r1 hs h1
  split at h2
  · cases h2
  · rename_i hc
    cases h2
    refine ⟨r', ?_, h4⟩
    unfold catP
    rw [h3, andThen_ok, if_neg hc]
theorem moreC_cng (e e' : Nat) : ∀ f b, Cng (moreC e f b) (moreC e' f b)
  | 0, _ => fun l l' a r hs h => by cases h; exact ⟨l', rfl, hs⟩
  | f + 1, b => if_cng (x := [44]) (p := fun l => andThen (catP e b l.tail) fun c r => andThen (moreC e f c r) fun cs r => .ok (c :: cs, r)) (q := fun l => .ok ([], l)) (p' := fun l => andThen (catP e' b l.tail) fun c r => andThen (moreC e' f c r) fun cs r => .ok (c :: cs, r)) (q' := fun l => .ok ([], l)) (then_cng (tl_cng (cat_cng e e' b)) fun c => then_cng (moreC_cng e e' f c) fun cs => ret_cng _) (ret_cng _)
theorem cats_cng (e e' : Nat) : Cng (catsP e) (catsP e') := then_cng (cat_cng e e' (-1)) fun c => fun l l' b r hs h => by
  obtain ⟨zs, r1, h1, h2⟩ := andThen_some h
  cases h2
  obtain ⟨r', h3, h4⟩ := moreC_cng e e' l.length c l l' zs r hs h1
  refine ⟨r', ?_, h4⟩
  rw [← same_len hs, h3]
  rfl
theorem label_cng (e e' : Nat) : Cng (labelP e) (labelP e') :=
  then_cng (want_cng e e' [123]) fun _ => if_cng (x := [125]) (p := fun r => .ok (0, r.tail)) (q := fun r => andThen (catsP e r) fun cs r => andThen (wantP e [125] r) fun _ r => .ok (Lb.orAll cs, r)) (p' := fun r => .ok (0, r.tail)) (q' := fun r => andThen (catsP e' r) fun cs r => andThen (wantP e' [125] r) fun _ r => .ok (Lb.orAll cs, r)) (fun l l' a r hs h => by cases h; exact ⟨_, rfl, same_tail hs⟩) (then_cng (cats_cng e e') fun cs => then_cng (want_cng e e' [125]) fun _ => ret_cng _)
theorem cond_cng (e e' : Nat) : Cng (condP e) (condP e') := then_cng (one_cng _ e e') fun _ => then_cng (num_cng e e' _ _) fun _ => ret_cng _
theorem agg_cng (e e' : Nat) : Cng (aggP e) (aggP e') := then_cng (one_cng _ e e') fun _ => then_cng (want_cng e e' _) fun _ => then_cng (name_cng e e') fun _ => then_cng (want_cng e e' _) fun _ => ret_cng _
theorem have_cng (e e' : Nat) : Cng (haveP e) (haveP e') := then_cng (agg_cng e e') fun _ => then_cng (cond_cng e e') fun _ => ret_cng _
theorem bound_cng (e e' : Nat) : Cng (boundP e) (boundP e') := if_cng (x := [64]) (p := fun l => andThen (labelP e l.tail) fun b r => .ok ((true, b), r)) (q := fun l => .ok ((false, 0), l)) (p' := fun l => andThen (labelP e' l.tail) fun b r => .ok ((true, b), r)) (q' := fun l => .ok ((false, 0), l)) (then_cng (tl_cng (label_cng e e')) fun _ => ret_cng _) (ret_cng _)
theorem conds_cng (e e' : Nat) : Cng (condsP e) (condsP e') := if_cng (x := [91]) (p := fun l => andThen (listP [44] (condP e) l.tail) fun cs r => andThen (wantP e [93] r) fun _ r => .ok (cs, r)) (q := fun l => .ok ([], l)) (p' := fun l => andThen (listP [44] (condP e') l.tail) fun cs r => andThen (wantP e' [93] r) fun _ r => .ok (cs, r)) (q' := fun l => .ok ([], l)) (then_cng (tl_cng (list_cng (cond_cng e e'))) fun _ => then_cng (want_cng e e' _) fun _ => ret_cng _) (ret_cng _)
theorem nm_cng (e e' : Nat) : Cng (nmP e) (nmP e') := if_cng (x := [58]) (p := fun l => nameP e l.tail) (q := fun l => .ok ([], l)) (p' := fun l => nameP e' l.tail) (q' := fun l => .ok ([], l)) (tl_cng (name_cng e e')) (ret_cng _)
theorem atom_cng (e e' : Nat) : Cng (atomP e) (atomP e') := then_cng (letter_cng e e') fun _ => then_cng (bound_cng e e') fun _ => then_cng (conds_cng e e') fun _ => then_cng (nm_cng e e') fun _ => ret_cng _
theorem times_cng (e e' : Nat) : Cng (timesP e) (timesP e') := if_cng (x := [123]) (p := fun l => andThen (numP e 0 99 l.tail) fun a r => andThen (wantP e [44] r) fun _ r => andThen (numP e 0 99 r) fun b r => andThen (wantP e [125] r) fun _ r => .ok ((a, b), r)) (q := fun l => .ok ((1, 1), l)) (p' := fun l => andThen (numP e' 0 99 l.tail) fun a r => andThen (wantP e' [44] r) fun _ r => andThen (numP e' 0 99 r) fun b r => andThen (wantP e' [125] r) fun _ r => .ok ((a, b), r)) (q' := fun l => .ok ((1, 1), l)) (then_cng (tl_cng (num_cng e e' 0 99)) fun _ => then_cng (want_cng e e' _) fun _ => then_cng (num_cng e e' 0 99) fun _ => then_cng (want_cng e e' _) fun _ => ret_cng _) (ret_cng _)
theorem unit_cng (e e' : Nat) {pat pat' : List T → R Nd} (hp : Cng pat pat') : Cng (unitP e pat) (unitP e' pat') := if_cng (x := [40]) (p := fun l => andThen (pat l.tail) fun n r => andThen (wantP e [41] r) fun _ r => .ok (n, r)) (q := fun l => andThen (atomP e l) fun a r => andThen (timesP e r) fun m r => .ok (Nd.mk 1 m.1 m.2 a [], r)) (p' := fun l => andThen (pat' l.tail) fun n r => andThen (wantP e' [41] r) fun _ r => .ok (n, r)) (q' := fun l => andThen (atomP e' l) fun a r => andThen (timesP e' r) fun m r => .ok (Nd.mk 1 m.1 m.2 a [], r)) (then_cng (tl_cng hp) fun _ => then_cng (want_cng e e' _) fun _ => ret_cng _) (then_cng (atom_cng e e') fun _ => then_cng (times_cng e e') fun _ => ret_cng _)
theorem item_cng (e e' : Nat) {pat pat' : List T → R Nd} (hp : Cng pat pat') : Cng (itemP e pat) (itemP e' pat') := if_cng (x := [110, 111, 116]) (p := fun l => andThen (atomP e l.tail) fun a r => .ok (Nd.mk 2 0 0 a [], r)) (q := unitP e pat) (p' := fun l => andThen (atomP e' l.tail) fun a r => .ok (Nd.mk 2 0 0 a [], r)) (q' := unitP e' pat') (then_cng (tl_cng (atom_cng e e')) fun _ => ret_cng _) (unit_cng e e' hp)
theorem seq_cng (e e' : Nat) {pat pat' : List T → R Nd} (hp : Cng pat pat') : Cng (seqP e pat) (seqP e' pat') := then_cng (list_cng (item_cng e e' hp)) fun _ => ret_cng _
theorem alt_cng (e e' : Nat) {pat pat' : List T → R Nd} (hp : Cng pat pat') : Cng (altP e pat) (altP e' pat') := then_cng (list_cng (seq_cng e e' hp)) fun _ => ret_cng _
theorem pat_cng (e e' : Nat) : ∀ f, Cng (patP e f) (patP e' f)
  | 0 => fun l l' a r hs h => by cases h
  | f + 1 => alt_cng e e' (pat_cng e e' f)
theorem haves_cng (e e' : Nat) : Cng (havesP e) (havesP e') := if_cng (x := havingA) (p := fun l => listP andA (haveP e) l.tail) (q := fun l => .ok ([], l)) (p' := fun l => listP andA (haveP e') l.tail) (q' := fun l => .ok ([], l)) (tl_cng (list_cng (have_cng e e'))) (ret_cng _)
theorem emits_cng (e e' : Nat) : Cng (emitsP e) (emitsP e') := if_cng (x := emitA) (p := fun l => listP [44] (aggP e) l.tail) (q := fun l => .ok ([], l)) (p' := fun l => listP [44] (aggP e') l.tail) (q' := fun l => .ok ([], l)) (tl_cng (list_cng (agg_cng e e'))) (ret_cng _)
theorem query_cng (e e' f : Nat) : Cng (queryP e f) (queryP e' f) := then_cng (pat_cng e e' f) fun _ => then_cng (want_cng e e' _) fun _ => then_cng (num_cng e e' _ _) fun _ => then_cng (haves_cng e e') fun _ => then_cng (emits_cng e e') fun _ => ret_cng _
theorem same_refl (l : List T) : sameT l l := rfl
theorem same_symm {l m : List T} (h : sameT l m) : sameT m l := Eq.symm h
theorem same_trans {l m n : List T} (h : sameT l m) (k : sameT m n) : sameT l n := Eq.trans h k
theorem same_app {a b c d : List T} (h : sameT a c) (k : sameT b d) : sameT (a ++ b) (c ++ d) := by
  unfold sameT at h k ⊢
  rw [List.map_append, List.map_append, h, k]
theorem moved_same (d : Nat) (l : List T) : sameT (moved d l) l := by
  unfold sameT moved
  rw [List.map_map]
  rfl
/-- The tokens of a text at another offset. -/
theorem toks_at {a : List UInt8} {k : Nat} {ts : List T} (h : toksG a k = .ok ts) (k' : Nat) : ∃ us, toksG a k' = .ok us ∧ sameT us ts := by
  have h1 := toks_moved k a.length a 0 (Nat.le_refl _)
  have h2 := toks_moved k' a.length a 0 (Nat.le_refl _)
  rw [Nat.zero_add] at h1 h2
  rw [h] at h1
  cases h3 : toksG a 0 with
  | error y => rw [h3] at h1; cases h1
  | ok vs =>
    rw [h3] at h1 h2
    simp only [movedR] at h1 h2
    cases h1
    exact ⟨_, h2, same_trans (moved_same _ _) (same_symm (moved_same _ _))⟩
/-- A text with more blanks behind each blank. -/
def wideT (t : List UInt8) : List UInt8 := t.flatMap fun b => if b = 32 then [32, 13, 10, 32] else [b]
theorem wide_no {t : List UInt8} (h : (32 : UInt8) ∉ t) : wideT t = t := by
  induction t with
  | nil => rfl
  | cons b t ih =>
    have h1 : ¬ b = 32 := fun e => h (by rw [e]; exact List.mem_cons_self)
    have h2 := ih fun e => h (List.mem_cons_of_mem _ e)
    unfold wideT at h2 ⊢
    rw [List.flatMap_cons, if_neg h1, h2]
    rfl
theorem split_blank (t : List UInt8) : (32 : UInt8) ∉ t ∨ ∃ a b, t = a ++ 32 :: b ∧ (32 : UInt8) ∉ a := by
  induction t with
  | nil => exact .inl (by simp)
  | cons c t ih =>
    by_cases hc : c = 32
    · exact .inr ⟨[], t, by rw [hc]; rfl, by simp⟩
    · rcases ih with h | ⟨a, b, rfl, h⟩
      · refine .inl fun e => ?_
        rcases List.mem_cons.1 e with e | e
        · exact hc e.symm
        · exact h e
      · refine .inr ⟨c :: a, b, rfl, fun e => ?_⟩
        rcases List.mem_cons.1 e with e | e
        · exact hc e.symm
        · exact h e
theorem toks_wide : ∀ (n : Nat) (t : List UInt8) (k : Nat) (ts : List T), t.length ≤ n → toksG t k = .ok ts → ∀ k', ∃ us, toksG (wideT t) k' = .ok us ∧ sameT us ts
  | n, t, k, ts, hn, h, k' => by
    rcases split_blank t with h1 | ⟨a, b, rfl, h1⟩
    · rw [wide_no h1]
      exact toks_at h k'
    · cases n with
      | zero => simp at hn
      | succ n =>
        have e1 : wideT (a ++ 32 :: b) = a ++ 32 :: ([13, 10, 32] ++ wideT b) := by
          have e2 : wideT (a ++ 32 :: b) = wideT a ++ ([32, 13, 10, 32] ++ wideT b) := by
            unfold wideT
            rw [List.flatMap_append, List.flatMap_cons, if_pos rfl]
          rw [e2, wide_no h1]
          rfl
        rw [toks_both a.length a b k (Nat.le_refl _)] at h
        rw [e1, toks_both a.length a _ k' (Nat.le_refl _)]
        cases ha : toksG a k with
        | error y => rw [ha] at h; cases h
        | ok us =>
          rw [ha] at h
          cases hb : toksG b (k + a.length + 1) with
          | error y => rw [hb] at h; cases h
          | ok vs =>
            rw [hb] at h
            cases h
            obtain ⟨us', h2, h3⟩ := toks_at ha k'
            obtain ⟨vs', h4, h5⟩ := toks_wide n b _ vs (by simp at hn; omega) hb (k' + a.length + 1 + ([13, 10, 32] : List UInt8).length)
            rw [h2, toks_blank (by decide), h4]
            exact ⟨us' ++ vs', rfl, same_app h3 h5⟩
/-- More blanks change nothing. -/
theorem parse_wide {t : List UInt8} {q : Qu} (h : parseP t = .ok q) (hl : (([32, 9] : List UInt8) ++ wideT t).length ≤ 400) : parseP ([32, 9] ++ wideT t) = .ok q := by
  unfold parseP wholeP at h
  cases ht : toksP t with
  | error y => rw [ht] at h; cases h
  | ok ts =>
    rw [ht] at h
    simp only at h
    have hg : toksG t 0 = .ok ts := by
      unfold toksP at ht
      split at ht
      · cases ht
      · exact ht
    obtain ⟨us, h1, h2⟩ := toks_wide t.length t 0 ts (Nat.le_refl _) hg (0 + ([32, 9] : List UInt8).length)
    have h3 : toksP ([32, 9] ++ wideT t) = .ok us := by
      unfold toksP
      rw [if_neg (by omega), toks_blank (by decide)]
      exact h1
    cases hq : queryP t.length (ts.length + 1) ts with
    | error y => rw [hq] at h; cases h
    | ok ar =>
      obtain ⟨q', r⟩ := ar
      rw [hq] at h
      cases r with
      | cons x r => cases h
      | nil =>
        cases h
        obtain ⟨r', h4, h5⟩ := query_cng t.length (([32, 9] : List UInt8) ++ wideT t).length (ts.length + 1) ts us q [] (same_symm h2) hq
        have h6 : r' = [] := List.eq_nil_of_length_eq_zero (same_len h5).symm
        subst h6
        unfold parseP wholeP
        rw [h3]
        simp only
        rw [same_len h2, h4]
        rfl
end Go.Proofs.YtdjaijhlhhnmeaaGreatDoor.P9
