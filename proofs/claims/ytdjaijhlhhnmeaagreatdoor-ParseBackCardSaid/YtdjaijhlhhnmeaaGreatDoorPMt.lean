/- Reading queries from tokens: mathematics. -/
import Derived.Test.YtdjaijhlhhnmeaaGreatDoorAstSm
import Derived.Test.YtdjaijhlhhnmeaaGreatDoorTokSm
import Derived.Test.YtdjaijhlhhnmeaaGreatDoorSumOne
import Derived.Test.YtdjaijhlhhnmeaaGreatDoorLabSm
namespace Go.Proofs.YtdjaijhlhhnmeaaGreatDoor.P9
open Go.Proofs.YtdjaijhlhhnmeaaGreatDoor.Tk7 Go.Proofs.YtdjaijhlhhnmeaaGreatDoor.A8

/-- A fault: its error and its offset. -/
abbrev F := Int × Nat
/-- What a part reads: a fault, or what was read and the tokens that are left. -/
abbrev R (α : Type) := Except F (α × List T)
/-- The fault of what comes next, which cannot stand there; e is the length of the text. -/
def wrongP (e : Nat) : List T → F
  | [] => (5, e)
  | t :: _ => if t.1 = 1 ∧ nameB t.2.1 = false ∧ wordsA.contains t.2.1 = false then (12, t.2.2) else (3, t.2.2)
/-- Whether this text comes next. -/
def seesP (x : List UInt8) : List T → Bool
  | [] => false
  | t :: _ => t.2.1 == x
def andThen {α β : Type} (x : R α) (f : α → List T → R β) : R β :=
  match x with
  | .error y => .error y
  | .ok (a, r) => f a r
theorem andThen_err {α β : Type} (y : F) (f : α → List T → R β) : andThen (.error y) f = .error y := rfl
theorem andThen_ok {α β : Type} (a : α) (r : List T) (f : α → List T → R β) : andThen (.ok (a, r)) f = f a r := rfl
def wantP (e : Nat) (x : List UInt8) (l : List T) : R Unit := if seesP x l = true then .ok ((), l.tail) else .error (wrongP e l)
def numP (e : Nat) (lo hi : Int) : List T → R Int
  | [] => .error (5, e)
  | t :: r => if t.1 = 3 then (if Sm.okI (Sm.valV t.2.1) = true ∧ lo ≤ Sm.valV t.2.1 ∧ Sm.valV t.2.1 ≤ hi then .ok (Sm.valV t.2.1, r) else .error (2, t.2.2)) else .error (wrongP e (t :: r))
def nameP (e : Nat) : List T → R (List UInt8)
  | [] => .error (5, e)
  | t :: r => if nameB t.2.1 = true then .ok (t.2.1, r) else .error (wrongP e (t :: r))
def letterP (e : Nat) : List T → R Int
  | [] => .error (5, e)
  | t :: r => if t.1 = 2 then .ok (((t.2.1.headD 65).toNat : Int) - 65, r) else .error (wrongP e (t :: r))
/-- One of the texts of a table, behind its first: its place. -/
def oneP (tab : List (List UInt8)) (e : Nat) : List T → R Int
  | [] => .error (5, e)
  | t :: r => if 1 ≤ tab.idxOf t.2.1 ∧ tab.idxOf t.2.1 < tab.length then .ok ((tab.idxOf t.2.1 : Nat), r) else .error (wrongP e (t :: r))
/-- Parts, with something before each. -/
def moreP {α : Type} (x : List UInt8) (part : List T → R α) : Nat → List T → R (List α)
  | 0, l => .ok ([], l)
  | f + 1, l => if seesP x l = true then andThen (part l.tail) fun a r => andThen (moreP x part f r) fun zs r => .ok (a :: zs, r) else .ok ([], l)
/-- A part, and more with something between. -/
def listP {α : Type} (x : List UInt8) (part : List T → R α) (l : List T) : R (List α) :=
  andThen (part l) fun a r => andThen (moreP x part r.length r) fun zs r => .ok (a :: zs, r)
def placeP (e : Nat) : List T → Nat
  | [] => e
  | t :: _ => t.2.2
def catP (e : Nat) (b : Int) (l : List T) : R Int := andThen (numP e 0 63 l) fun c r => if c ≤ b then .error (9, placeP e l) else .ok (c, r)
def moreC (e : Nat) : Nat → Int → List T → R (List Int)
  | 0, _, l => .ok ([], l)
  | f + 1, b, l => if seesP [44] l = true then andThen (catP e b l.tail) fun c r => andThen (moreC e f c r) fun cs r => .ok (c :: cs, r) else .ok ([], l)
def catsP (e : Nat) (l : List T) : R (List Int) := andThen (catP e (-1) l) fun c r => andThen (moreC e r.length c r) fun cs r => .ok (c :: cs, r)
def labelP (e : Nat) (l : List T) : R Int :=
  andThen (wantP e [123] l) fun _ r =>
    if seesP [125] r = true then .ok (0, r.tail)
    else andThen (catsP e r) fun cs r => andThen (wantP e [125] r) fun _ r => .ok (Lb.orAll cs, r)
def condP (e : Nat) (l : List T) : R Cn := andThen (oneP opsA e l) fun o r => andThen (numP e (-9223372036854775808) 9223372036854775807 r) fun v r => .ok (⟨o, v⟩, r)
def aggP (e : Nat) (l : List T) : R Ag :=
  andThen (oneP funsA e l) fun f r => andThen (wantP e [40] r) fun _ r => andThen (nameP e r) fun n r => andThen (wantP e [41] r) fun _ r => .ok (⟨f, n⟩, r)
def haveP (e : Nat) (l : List T) : R Hv := andThen (aggP e l) fun a r => andThen (condP e r) fun c r => .ok (⟨a, c⟩, r)
/-- What may be missing. -/
def boundP (e : Nat) (l : List T) : R (Bool × Int) := if seesP [64] l = true then andThen (labelP e l.tail) fun b r => .ok ((true, b), r) else .ok ((false, 0), l)
def condsP (e : Nat) (l : List T) : R (List Cn) := if seesP [91] l = true then andThen (listP [44] (condP e) l.tail) fun cs r => andThen (wantP e [93] r) fun _ r => .ok (cs, r) else .ok ([], l)
def nmP (e : Nat) (l : List T) : R (List UInt8) := if seesP [58] l = true then nameP e l.tail else .ok ([], l)
def atomP (e : Nat) (l : List T) : R At :=
  andThen (letterP e l) fun k r => andThen (boundP e r) fun b r => andThen (condsP e r) fun cs r => andThen (nmP e r) fun n r => .ok (⟨k, b.1, b.2, cs, n⟩, r)
def timesP (e : Nat) (l : List T) : R (Int × Int) :=
  if seesP [123] l = true then andThen (numP e 0 99 l.tail) fun a r => andThen (wantP e [44] r) fun _ r => andThen (numP e 0 99 r) fun b r => andThen (wantP e [125] r) fun _ r => .ok ((a, b), r)
  else .ok ((1, 1), l)
def noA : At := ⟨0, false, 0, [], []⟩
def joinP (k : Int) (ns : List Nd) : Nd :=
  match ns with
  | [n] => n
  | _ => .mk k 0 0 noA ns
def unitP (e : Nat) (pat : List T → R Nd) (l : List T) : R Nd :=
  if seesP [40] l = true then andThen (pat l.tail) fun n r => andThen (wantP e [41] r) fun _ r => .ok (n, r)
  else andThen (atomP e l) fun a r => andThen (timesP e r) fun m r => .ok (.mk 1 m.1 m.2 a [], r)
def itemP (e : Nat) (pat : List T → R Nd) (l : List T) : R Nd :=
  if seesP [110, 111, 116] l = true then andThen (atomP e l.tail) fun a r => .ok (.mk 2 0 0 a [], r) else unitP e pat l
def seqP (e : Nat) (pat : List T → R Nd) (l : List T) : R Nd := andThen (listP [59] (itemP e pat) l) fun ns r => .ok (joinP 3 ns, r)
def altP (e : Nat) (pat : List T → R Nd) (l : List T) : R Nd := andThen (listP [124] (seqP e pat) l) fun ns r => .ok (joinP 4 ns, r)
/-- A pattern; the number is greater than that of the tokens. -/
def patP (e : Nat) : Nat → List T → R Nd
  | 0, _ => .error (0, 0)
  | f + 1, l => altP e (patP e f) l
def withinA : List UInt8 := [119, 105, 116, 104, 105, 110]
def havingA : List UInt8 := [104, 97, 118, 105, 110, 103]
def andA : List UInt8 := [97, 110, 100]
def emitA : List UInt8 := [101, 109, 105, 116]
def havesP (e : Nat) (l : List T) : R (List Hv) := if seesP havingA l = true then listP andA (haveP e) l.tail else .ok ([], l)
def emitsP (e : Nat) (l : List T) : R (List Ag) := if seesP emitA l = true then listP [44] (aggP e) l.tail else .ok ([], l)
def queryP (e f : Nat) (l : List T) : R Qu :=
  andThen (patP e f l) fun p r => andThen (wantP e withinA r) fun _ r => andThen (numP e 0 99999 r) fun w r => andThen (havesP e r) fun hs r => andThen (emitsP e r) fun zs r => .ok (⟨p, w, hs, zs⟩, r)
/-- .. and nothing behind it. -/
def overP {α : Type} (e : Nat) (x : R α) : Except F α :=
  match x with
  | .error y => .error y
  | .ok (a, []) => .ok a
  | .ok (_, t :: r) => .error (wrongP e (t :: r))
def toksP (t : List UInt8) : Except F (List T) := if 400 < t.length then .error (4, 400) else toksG t 0
def wholeP {α : Type} (g : Nat → Nat → List T → R α) (t : List UInt8) : Except F α :=
  match toksP t with
  | .error y => .error y
  | .ok ts => overP t.length (g t.length (ts.length + 1) ts)
def parseP (t : List UInt8) : Except F Qu := wholeP queryP t
def patternP (t : List UInt8) : Except F Nd := wholeP patP t
def aloneP (t : List UInt8) : Except F At := wholeP (fun e _ l => atomP e l) t

/-! Parts leave an end of the tokens. -/
def Ends {α : Type} (p : List T → R α) : Prop := ∀ l a r, p l = .ok (a, r) → r <:+ l
theorem andThen_some {α β : Type} {x : R α} {f : α → List T → R β} {b : β} {r : List T} (h : andThen x f = .ok (b, r)) : ∃ a r1, x = .ok (a, r1) ∧ f a r1 = .ok (b, r) := by
  cases x with
  | error y => cases h
  | ok v => obtain ⟨a, r1⟩ := v; exact ⟨a, r1, rfl, h⟩
theorem tail_sfx (l : List T) : l.tail <:+ l := List.tail_suffix l
theorem want_ends (e : Nat) (x : List UInt8) : Ends (wantP e x) := fun l a r h => by
  unfold wantP at h
  split at h
  · cases h; exact tail_sfx l
  · cases h
theorem num_ends (e : Nat) (lo hi : Int) : Ends (numP e lo hi) := fun l a r h => by
  cases l with
  | nil => cases h
  | cons t l =>
    simp only [numP] at h
    split at h
    · split at h
      · cases h; exact List.suffix_cons _ _
      · cases h
    · cases h
theorem name_ends (e : Nat) : Ends (nameP e) := fun l a r h => by
  cases l with
  | nil => cases h
  | cons t l =>
    simp only [nameP] at h
    split at h
    · cases h; exact List.suffix_cons _ _
    · cases h
theorem letter_ends (e : Nat) : Ends (letterP e) := fun l a r h => by
  cases l with
  | nil => cases h
  | cons t l =>
    simp only [letterP] at h
    split at h
    · cases h; exact List.suffix_cons _ _
    · cases h
theorem one_ends (tab : List (List UInt8)) (e : Nat) : Ends (oneP tab e) := fun l a r h => by
  cases l with
  | nil => cases h
  | cons t l =>
    simp only [oneP] at h
    split at h
    · cases h; exact List.suffix_cons _ _
    · cases h
theorem then_ends {α β : Type} {p : List T → R α} {f : α → List T → R β} (hp : Ends p) (hf : ∀ a, Ends (f a)) : Ends (fun l => andThen (p l) f) := fun l b r h => by
  obtain ⟨a, r1, h1, h2⟩ := andThen_some h
  exact (hf a r1 b r h2).trans (hp l a r1 h1)
theorem ret_ends {α : Type} (a : α) : Ends (fun l => .ok (a, l)) := fun l b r h => by cases h; exact List.suffix_refl _
theorem tl_ends {α : Type} {p : List T → R α} (hp : Ends p) : Ends (fun l => p l.tail) := fun l b r h => (hp l.tail b r h).trans (tail_sfx l)
theorem if_ends {α : Type} {c : List T → Bool} {p q : List T → R α} (hp : Ends p) (hq : Ends q) : Ends (fun l => if c l = true then p l else q l) := fun l b r h => by
  simp only at h
  split at h
  · exact hp l b r h
  · exact hq l b r h
theorem more_ends {α : Type} {x : List UInt8} {part : List T → R α} (hp : Ends part) : ∀ f, Ends (moreP x part f)
  | 0 => fun l a r h => by cases h; exact List.suffix_refl _
  | f + 1 => if_ends (c := seesP x) (p := fun l => andThen (part l.tail) fun a r => andThen (moreP x part f r) fun zs r => .ok (a :: zs, r)) (q := fun l => .ok ([], l)) (then_ends (tl_ends hp) fun a => then_ends (more_ends hp f) fun zs => ret_ends _) (ret_ends _)
theorem list_ends {α : Type} {x : List UInt8} {part : List T → R α} (hp : Ends part) : Ends (listP x part) :=
  then_ends hp fun a => fun l b r h => by
    obtain ⟨zs, r1, h1, h2⟩ := andThen_some h
    cases h2
    exact more_ends hp _ l zs r h1
theorem cat_ends (e : Nat) (b : Int) : Ends (catP e b) := fun l a r h => by
  obtain ⟨c, r1, h1, h2⟩ := andThen_some h
  split at h2
  · cases h2
  · cases h2; exact num_ends e 0 63 l a r h1
theorem moreC_ends (e : Nat) : ∀ f b, Ends (moreC e f b)
  | 0, _ => fun l a r h => by cases h; exact List.suffix_refl _
  | f + 1, b => if_ends (c := seesP [44]) (p := fun l => andThen (catP e b l.tail) fun c r => andThen (moreC e f c r) fun cs r => .ok (c :: cs, r)) (q := fun l => .ok ([], l)) (then_ends (tl_ends (cat_ends e b)) fun c => then_ends (moreC_ends e f c) fun cs => ret_ends _) (ret_ends _)
theorem cats_ends (e : Nat) : Ends (catsP e) := then_ends (cat_ends e (-1)) fun c => fun l b r h => by
  obtain ⟨zs, r1, h1, h2⟩ := andThen_some h
  cases h2
  exact moreC_ends e _ c l zs r h1
theorem label_ends (e : Nat) : Ends (labelP e) :=
  then_ends (want_ends e [123]) fun _ => if_ends (c := seesP [125]) (p := fun r => .ok (0, r.tail)) (q := fun r => andThen (catsP e r) fun cs r => andThen (wantP e [125] r) fun _ r => .ok (Lb.orAll cs, r)) (fun l a r h => by cases h; exact tail_sfx l) (then_ends (cats_ends e) fun cs => then_ends (want_ends e [125]) fun _ => ret_ends _)
theorem cond_ends (e : Nat) : Ends (condP e) := then_ends (one_ends _ e) fun _ => then_ends (num_ends e _ _) fun _ => ret_ends _
theorem agg_ends (e : Nat) : Ends (aggP e) := then_ends (one_ends _ e) fun _ => then_ends (want_ends e _) fun _ => then_ends (name_ends e) fun _ => then_ends (want_ends e _) fun _ => ret_ends _
theorem have_ends (e : Nat) : Ends (haveP e) := then_ends (agg_ends e) fun _ => then_ends (cond_ends e) fun _ => ret_ends _
theorem bound_ends (e : Nat) : Ends (boundP e) := if_ends (c := seesP [64]) (p := fun l => andThen (labelP e l.tail) fun b r => .ok ((true, b), r)) (q := fun l => .ok ((false, 0), l)) (then_ends (tl_ends (label_ends e)) fun _ => ret_ends _) (ret_ends _)
theorem conds_ends (e : Nat) : Ends (condsP e) := if_ends (c := seesP [91]) (p := fun l => andThen (listP [44] (condP e) l.tail) fun cs r => andThen (wantP e [93] r) fun _ r => .ok (cs, r)) (q := fun l => .ok ([], l)) (then_ends (tl_ends (list_ends (cond_ends e))) fun _ => then_ends (want_ends e _) fun _ => ret_ends _) (ret_ends _)
theorem nm_ends (e : Nat) : Ends (nmP e) := if_ends (c := seesP [58]) (p := fun l => nameP e l.tail) (q := fun l => .ok ([], l)) (tl_ends (name_ends e)) (ret_ends _)
theorem atom_ends (e : Nat) : Ends (atomP e) := then_ends (letter_ends e) fun _ => then_ends (bound_ends e) fun _ => then_ends (conds_ends e) fun _ => then_ends (nm_ends e) fun _ => ret_ends _
theorem times_ends (e : Nat) : Ends (timesP e) := if_ends (c := seesP [123]) (p := fun l => andThen (numP e 0 99 l.tail) fun a r => andThen (wantP e [44] r) fun _ r => andThen (numP e 0 99 r) fun b r => andThen (wantP e [125] r) fun _ r => .ok ((a, b), r)) (q := fun l => .ok ((1, 1), l)) (then_ends (tl_ends (num_ends e 0 99)) fun _ => then_ends (want_ends e _) fun _ => then_ends (num_ends e 0 99) fun _ => then_ends (want_ends e _) fun _ => ret_ends _) (ret_ends _)
theorem unit_ends (e : Nat) {pat : List T → R Nd} (hp : Ends pat) : Ends (unitP e pat) := if_ends (c := seesP [40]) (p := fun l => andThen (pat l.tail) fun n r => andThen (wantP e [41] r) fun _ r => .ok (n, r)) (q := fun l => andThen (atomP e l) fun a r => andThen (timesP e r) fun m r => .ok (Nd.mk 1 m.1 m.2 a [], r)) (then_ends (tl_ends hp) fun _ => then_ends (want_ends e _) fun _ => ret_ends _) (then_ends (atom_ends e) fun _ => then_ends (times_ends e) fun _ => ret_ends _)
theorem item_ends (e : Nat) {pat : List T → R Nd} (hp : Ends pat) : Ends (itemP e pat) := if_ends (c := seesP [110, 111, 116]) (p := fun l => andThen (atomP e l.tail) fun a r => .ok (Nd.mk 2 0 0 a [], r)) (q := unitP e pat) (then_ends (tl_ends (atom_ends e)) fun _ => ret_ends _) (unit_ends e hp)
theorem seq_ends (e : Nat) {pat : List T → R Nd} (hp : Ends pat) : Ends (seqP e pat) := then_ends (list_ends (item_ends e hp)) fun _ => ret_ends _
theorem alt_ends (e : Nat) {pat : List T → R Nd} (hp : Ends pat) : Ends (altP e pat) := then_ends (list_ends (seq_ends e hp)) fun _ => ret_ends _
theorem pat_ends (e : Nat) : ∀ f, Ends (patP e f)
  | 0 => fun l a r h => by cases h
  | f + 1 => alt_ends e (pat_ends e f)
theorem haves_ends (e : Nat) : Ends (havesP e) := if_ends (c := seesP havingA) (p := fun l => listP andA (haveP e) l.tail) (q := fun l => .ok ([], l)) (tl_ends (list_ends (have_ends e))) (ret_ends _)
theorem emits_ends (e : Nat) : Ends (emitsP e) := if_ends (c := seesP emitA) (p := fun l => listP [44] (aggP e) l.tail) (q := fun l => .ok ([], l)) (tl_ends (list_ends (agg_ends e))) (ret_ends _)
theorem query_ends (e f : Nat) : Ends (queryP e f) := then_ends (pat_ends e f) fun _ => then_ends (want_ends e _) fun _ => then_ends (num_ends e _ _) fun _ => then_ends (haves_ends e) fun _ => then_ends (emits_ends e) fun _ => ret_ends _
end Go.Proofs.YtdjaijhlhhnmeaaGreatDoor.P9
namespace Go.Proofs.YtdjaijhlhhnmeaaGreatDoor.P9
open Go.Proofs.YtdjaijhlhhnmeaaGreatDoor.Tk7 Go.Proofs.YtdjaijhlhhnmeaaGreatDoor.A8

/-! One token in front of what follows. -/
/-- Nothing follows, or a byte for which p is false. -/
def Nx (p : UInt8 → Bool) (r : List UInt8) : Prop := ∀ b t, r = b :: t → p b = false
theorem nx_nil (p : UInt8 → Bool) : Nx p [] := fun _ _ e => by cases e
theorem nx_cons {p : UInt8 → Bool} {c : UInt8} {u : List UInt8} (hc : p c = false) : Nx p (c :: u) := fun b t e => by obtain ⟨rfl, _⟩ := List.cons.inj e; exact hc
theorem while_app {p : UInt8 → Bool} : ∀ {x r : List UInt8}, (∀ b ∈ x, p b = true) → Nx p r → (x ++ r).takeWhile p = x
  | [], r, _, hr => by
    cases r with
    | nil => rfl
    | cons b t => rw [List.nil_append, List.takeWhile_cons, if_neg (by rw [hr b t rfl]; decide)]
  | c :: x, r, hx, hr => by
    rw [List.cons_append, List.takeWhile_cons, if_pos (hx c (by simp)), while_app (fun b hb => hx b (List.mem_cons_of_mem _ hb)) hr]
/-- The text x is the first token of x ++ r, of this kind. -/
structure Fits (kd : Nat) (x r : List UInt8) : Prop where
  beg : begG (x ++ r) = (kd, x.length)
  hd : ∃ b t, x = b :: t ∧ blankB b = false
theorem toks_fit {kd : Nat} {x r : List UInt8} (h : Fits kd x r) (k : Nat) : toksG (x ++ r) k = glue (kd, x, k) (toksG r (k + x.length)) := by
  obtain ⟨h1, b, t, rfl, hb⟩ := h
  rw [toksG_eq]
  rw [List.cons_append] at h1 ⊢
  rw [List.dropWhile_cons, if_neg (by rw [hb]; decide)]
  simp only
  rw [h1]
  simp only
  rw [if_neg (by simp), Nat.sub_self, Nat.add_zero, ← List.cons_append, List.take_left, List.drop_left]
theorem small_not {b : UInt8} (h : smallB b = true) : blankB b = false := by
  cases e : blankB b
  · rfl
  · rw [(blank_not e).1] at h; cases h
theorem fits_word {x r : List UInt8} (hx : ∀ b ∈ x, smallB b = true) (hn : x ≠ []) (hr : Nx smallB r) : Fits 1 x r := by
  cases x with
  | nil => exact absurd rfl hn
  | cons b t =>
    have hb := hx b (by simp)
    refine ⟨?_, b, t, rfl, small_not hb⟩
    rw [List.cons_append, begG, if_pos hb, while_app (fun c hc => hx c (List.mem_cons_of_mem _ hc)) hr]
    rfl
theorem fits_letter {b : UInt8} (r : List UInt8) (hb : largeB b = true) : Fits 2 [b] r := by
  have h1 : smallB b = false := by
    unfold largeB at hb
    unfold smallB
    simp only [Bool.and_eq_true, decide_eq_true_eq] at hb
    simp only [Bool.and_eq_false_iff, decide_eq_false_iff_not]
    omega
  have h2 : blankB b = false := by
    cases e : blankB b
    · rfl
    · rw [(blank_not e).2.1] at hb; cases hb
  refine ⟨?_, b, [], rfl, h2⟩
  rw [List.cons_append, begG, if_neg (by rw [h1]; decide), if_pos hb]
  rfl
/-- A sign of one byte that does not begin a longer one. -/
def signB (b : UInt8) : Bool := oneB b && !smallB b && !largeB b && !digB b && !(b == 45) && !blankB b
theorem fits_sign {b : UInt8} {r : List UInt8} (hb : signB b = true) (hr : twoB b = false ∨ ∀ t, r ≠ 61 :: t) : Fits 4 [b] r := by
  unfold signB at hb
  simp only [Bool.and_eq_true, Bool.not_eq_true'] at hb
  obtain ⟨⟨⟨⟨⟨h1, h2⟩, h3⟩, h4⟩, h5⟩, h6⟩ := hb
  refine ⟨?_, b, [], rfl, h6⟩
  have h7 : (twoB b && (r.head? == some 61)) = false := by
    rcases hr with h | h
    · rw [h]; rfl
    · cases r with
      | nil => simp
      | cons c t =>
        have : c ≠ 61 := fun e => h t (by rw [e])
        simp [this]
  show begG (b :: r) = _
  rw [begG, if_neg (by rw [h2]; decide), if_neg (by rw [h3]; decide), if_neg (by rw [h4, h5]; decide), signG, if_neg (by rw [h7]; decide), if_pos h1]
  rfl
theorem fits_two {b : UInt8} (r : List UInt8) (hb : twoB b = true) (hn : smallB b = false ∧ largeB b = false ∧ digB b = false ∧ (b == 45) = false ∧ blankB b = false) : Fits 4 [b, 61] r := by
  obtain ⟨h2, h3, h4, h5, h6⟩ := hn
  refine ⟨?_, b, [61], rfl, h6⟩
  show begG (b :: 61 :: r) = _
  rw [begG, if_neg (by rw [h2]; decide), if_neg (by rw [h3]; decide), if_neg (by rw [h4, h5]; decide), signG, if_pos (by rw [hb]; rfl)]
  rfl
theorem dig_not {b : UInt8} (h : digB b = true) : smallB b = false ∧ largeB b = false ∧ blankB b = false ∧ (b == 45) = false := by
  have hb : blankB b = false := by
    cases e : blankB b
    · rfl
    · rw [(blank_not e).2.2.1] at h; cases h
  unfold digB at h
  simp only [Bool.and_eq_true, decide_eq_true_eq] at h
  refine ⟨?_, ?_, hb, ?_⟩
  · unfold smallB; simp only [Bool.and_eq_false_iff, decide_eq_false_iff_not]; omega
  · unfold largeB; simp only [Bool.and_eq_false_iff, decide_eq_false_iff_not]; omega
  · cases e : (b == 45)
    · rfl
    · rw [beq_iff_eq] at e; subst e; exact absurd h (by decide)
theorem dec_form (u : Nat) : (∀ b ∈ Lib.decDigits u, digB b = true) ∧ ∃ b t, Lib.decDigits u = b :: t ∧ (b = 48 → t = [] ∧ u = 0) := by
  have h1 : ∀ b ∈ Lib.decDigits u, digB b = true := fun b hb => Sm.dec_all u b hb
  refine ⟨h1, ?_⟩
  by_cases h0 : u = 0
  · subst h0
    exact ⟨48, [], by rw [Sm.dec_one (by omega)]; rfl, fun _ => ⟨rfl, rfl⟩⟩
  · obtain ⟨d, ds, e, hd⟩ := Sm.dec_head u (by omega)
    exact ⟨d, ds, e, fun h => by subst h; exact absurd hd (by decide)⟩
theorem fits_num (v : Int) {r : List UInt8} (hr : Nx digB r) : Fits 3 (Lib.itoa v) r := by
  by_cases h : 0 ≤ v
  · rw [Sm.itoa_pos h]
    obtain ⟨h1, b, t, e, h2⟩ := dec_form v.toNat
    rw [e] at h1 ⊢
    have hb := h1 b (by simp)
    obtain ⟨n1, n2, n3, n4⟩ := dig_not hb
    refine ⟨?_, b, t, rfl, n3⟩
    have hw := while_app (p := digB) (x := t) (r := r) (fun c hc => h1 c (List.mem_cons_of_mem _ hc)) hr
    rw [List.cons_append, begG, if_neg (by rw [n1]; decide), if_neg (by rw [n2]; decide), if_pos (by rw [hb]; rfl), numG, if_neg (by rw [n4]; decide), hw]
    have hR : rightD false (b :: t) = true := by
      unfold rightD
      by_cases e48 : b = 48
      · obtain ⟨rfl, -⟩ := h2 e48
        subst e48
        rfl
      · simp [e48]
    rw [if_pos hR]
    rfl
  · rw [Sm.itoa_neg (by omega)]
    obtain ⟨h1, b, t, e, h2⟩ := dec_form v.natAbs
    refine ⟨?_, 45, _, rfl, by decide⟩
    have hw := while_app (p := digB) (x := Lib.decDigits v.natAbs) (r := r) h1 hr
    rw [List.cons_append, begG, if_neg (by decide), if_neg (by decide), if_pos (by decide), numG, if_pos (by decide), hw]
    have hR : rightD true (Lib.decDigits v.natAbs) = true := by
      rw [e]
      unfold rightD
      by_cases e48 : b = 48
      · exact absurd (h2 e48).2 (by omega)
      · simp [e48]
    rw [if_pos hR]
    rfl
theorem val_itoa {v : Int} (h : Sm.okI v = true) : Sm.valV (Lib.itoa v) = v := by
  have h1 := Sm.int_itoa v h
  obtain ⟨h1, h2⟩ := h1
  unfold Sm.intE at h2
  cases hf : Sm.formB (Lib.itoa v) with
  | false => rw [if_neg (by rw [hf]; decide)] at h2; exact absurd h2 (by decide)
  | true =>
    rw [if_pos hf] at h2
    cases ho : Sm.okI (Sm.valV (Lib.itoa v)) with
    | false => rw [if_neg (by rw [ho]; decide)] at h2; exact absurd h2 (by decide)
    | true =>
      unfold Sm.intN at h1
      rw [if_pos hf, Sm.numI_ok ho] at h1
      exact h1

/-! What reads a part. -/
/-- The first byte that is no blank is none of these. -/
def Nb (l : List UInt8) (r : List UInt8) : Prop := ∀ b t, r.dropWhile blankB = b :: t → b ∉ l
theorem Nb.mono {l l' r : List UInt8} (h : Nb l r) (hs : ∀ b ∈ l', b ∈ l) : Nb l' r := fun b t e hb => h b t e (hs b hb)
theorem nb_nil (l : List UInt8) : Nb l [] := fun _ _ e => by cases e
theorem nb_cons {l : List UInt8} {b : UInt8} {r : List UInt8} (hb : blankB b = false) (h : b ∉ l) : Nb l (b :: r) := fun c t e => by
  rw [List.dropWhile_cons, if_neg (by rw [hb]; decide)] at e
  obtain ⟨rfl, _⟩ := List.cons.inj e
  exact h
theorem nb_blank {l : List UInt8} {b : UInt8} {r : List UInt8} (hb : blankB b = true) : Nb l (b :: r) ↔ Nb l r := by
  unfold Nb
  rw [List.dropWhile_cons, if_pos hb]
theorem sees_not {c : UInt8} {s l r : List UInt8} {k : Nat} {ts : List T} (hc : c ∈ l) (h : Nb l r) (ht : toksG r k = .ok ts) : seesP (c :: s) ts = false := by
  rw [toksG_eq] at ht
  cases hd : r.dropWhile blankB with
  | nil => rw [hd] at ht; cases ht; rfl
  | cons b t =>
    rw [hd] at ht
    simp only at ht
    have hb := h b t hd
    split at ht
    · cases ht
    · rename_i hz
      cases hr : toksG ((b :: t).drop (begG (b :: t)).2) (k + (r.length - (b :: t).length) + (begG (b :: t)).2) with
      | error y => rw [hr] at ht; cases ht
      | ok us =>
        rw [hr] at ht
        cases ht
        show (((b :: t).take (begG (b :: t)).2) == c :: s) = false
        obtain ⟨n, hn⟩ : ∃ n, (begG (b :: t)).2 = n + 1 := ⟨(begG (b :: t)).2 - 1, by omega⟩
        rw [hn, List.take_succ_cons]
        have : b ≠ c := fun e => hb (e ▸ hc)
        simp [this]
/-- p reads the bytes x as a, where F follows; with W no token of them is the word within. -/
def Reads {α : Type} (W : Prop) (p : Nat → List T → R α) (x : List UInt8) (a : α) (F : List UInt8 → Prop) : Prop :=
  ∀ r k ts, F r → toksG r (k + x.length) = .ok ts → ∃ us, toksG (x ++ r) k = .ok (us ++ ts) ∧ (∀ f, (us ++ ts).length ≤ f → p f (us ++ ts) = .ok (a, ts)) ∧ (W → ∀ t ∈ us, t.2.1 ≠ withinA)
theorem Reads.mono {α : Type} {W : Prop} {p : Nat → List T → R α} {x : List UInt8} {a : α} {F G : List UInt8 → Prop} (h : Reads W p x a F) (hG : ∀ r, G r → F r) : Reads W p x a G := fun r k ts hr => h r k ts (hG r hr)
theorem Reads.weak {α : Type} {W V : Prop} {p : Nat → List T → R α} {x : List UInt8} {a : α} {F : List UInt8 → Prop} (h : Reads W p x a F) (hV : V → W) : Reads V p x a F := fun r k ts hr ht => by
  obtain ⟨us, h1, h2, h3⟩ := h r k ts hr ht
  exact ⟨us, h1, h2, fun v => h3 (hV v)⟩
theorem reads_ret {α : Type} {W : Prop} (a : α) (F : List UInt8 → Prop) : Reads W (fun _ l => .ok (a, l)) [] a F := fun r k ts _ ht => ⟨[], ht, fun _ _ => rfl, fun _ t h => by cases h⟩
theorem reads_then {α β : Type} {W : Prop} {p : Nat → List T → R α} {q : Nat → α → List T → R β} {x y : List UInt8} {a : α} {b : β} {F G : List UInt8 → Prop} (hp : Reads W p x a F) (hq : Reads W (fun f => q f a) y b G) (hF : ∀ r, G r → F (y ++ r)) :
    Reads W (fun f l => andThen (p f l) (q f)) (x ++ y) b G := fun r k ts hr ht => by
  rw [List.length_append, ← Nat.add_assoc] at ht
  obtain ⟨us, h1, h2, h3⟩ := hq r (k + x.length) ts hr ht
  obtain ⟨vs, g1, g2, g3⟩ := hp (y ++ r) k (us ++ ts) (hF r hr) h1
  refine ⟨vs ++ us, by rw [List.append_assoc, List.append_assoc]; exact g1, fun f hf => ?_, fun w t ht => ?_⟩
  · rw [List.append_assoc] at hf ⊢
    show andThen (p f (vs ++ (us ++ ts))) (q f) = _
    rw [g2 f hf, andThen_ok]
    exact h2 f (by rw [List.length_append] at hf; omega)
  · rcases List.mem_append.1 ht with h | h
    · exact g3 w t h
    · exact h3 w t h
theorem reads_blank {α : Type} {W : Prop} {p : Nat → List T → R α} {x : List UInt8} {a : α} {F : List UInt8 → Prop} {b : UInt8} (hb : blankB b = true) (h : Reads W p x a F) : Reads W p (b :: x) a F := fun r k ts hr ht => by
  have e : k + (b :: x).length = (k + 1) + x.length := by simp only [List.length_cons]; omega
  rw [e] at ht
  obtain ⟨us, h1, h2, h3⟩ := h r (k + 1) ts hr ht
  refine ⟨us, ?_, h2, h3⟩
  have := toks_blank (g := [b]) (fun c hc => by rw [List.mem_singleton.1 hc]; exact hb) (x ++ r) k
  exact this.trans h1
/-- One token, and what p makes of it. -/
theorem reads_tok {α : Type} {W : Prop} {p : Nat → List T → R α} {kd : Nat} {x : List UInt8} {a : α} {F : List UInt8 → Prop} (hf : ∀ r, F r → Fits kd x r) (hw : W → x ≠ withinA) (hp : ∀ f k ts, (ts.length + 1 ≤ f) → p f ((kd, x, k) :: ts) = .ok (a, ts)) : Reads W p x a F := fun r k ts hr ht => by
  refine ⟨[(kd, x, k)], ?_, fun f h => hp f k ts (by simpa using h), fun w t hm => ?_⟩
  · rw [toks_fit (hf r hr), ht]; rfl
  · rw [List.mem_singleton.1 hm]; exact hw w
theorem reads_want {W : Prop} {kd : Nat} {x : List UInt8} {F : List UInt8 → Prop} (e : Nat) (hf : ∀ r, F r → Fits kd x r) (hw : W → x ≠ withinA) : Reads W (fun _ => wantP e x) x () F :=
  reads_tok hf hw fun f k ts _ => by
    unfold wantP seesP
    rw [if_pos (by simp)]
    rfl
/-- .. that must come first, and then the rest. -/
theorem reads_see {α : Type} {W : Prop} {p q : Nat → List T → R α} {kd : Nat} {x y : List UInt8} {a : α} {F : List UInt8 → Prop} (hf : ∀ r, F r → Fits kd x (y ++ r)) (hw : W → x ≠ withinA) (hp : Reads W p y a F) :
    Reads W (fun f l => if seesP x l = true then p f l.tail else q f l) (x ++ y) a F := fun r k ts hr ht => by
  rw [List.length_append, ← Nat.add_assoc] at ht
  obtain ⟨us, h1, h2, h3⟩ := hp r (k + x.length) ts hr ht
  refine ⟨(kd, x, k) :: us, ?_, fun f h => ?_, fun w t hm => ?_⟩
  · rw [List.append_assoc, toks_fit (hf r hr), h1]; rfl
  · show (if seesP x ((kd, x, k) :: (us ++ ts)) = true then p f (us ++ ts) else _) = _
    rw [if_pos (by simp [seesP])]
    exact h2 f (by simp at h ⊢; omega)
  · rcases List.mem_cons.1 hm with rfl | hm
    · exact hw w
    · exact h3 w t hm
/-- .. that does not come, as the first byte tells. -/
theorem reads_pass {α : Type} {W : Prop} {p q : Nat → List T → R α} {c : UInt8} {s x : List UInt8} {a : α} {F : List UInt8 → Prop} (hn : ∀ r, F r → Nb [c] (x ++ r)) (hq : Reads W q x a F) :
    Reads W (fun f l => if seesP (c :: s) l = true then p f l.tail else q f l) x a F := fun r k ts hr ht => by
  obtain ⟨us, h1, h2, h3⟩ := hq r k ts hr ht
  refine ⟨us, h1, fun f h => ?_, h3⟩
  show (if seesP (c :: s) (us ++ ts) = true then _ else _) = _
  rw [if_neg (by rw [sees_not (c := c) (s := s) (by simp) (hn r hr) h1]; decide)]
  exact h2 f h
/-- A list of parts. -/
theorem reads_list {α : Type} {W : Prop} {p : Nat → List T → R α} {c : UInt8} {s sb : List UInt8} {g : α → List UInt8} {F G : List UInt8 → Prop}
    (hs : ∀ y k ts, toksG y (k + sb.length) = .ok ts → ∃ t, toksG (sb ++ y) k = .ok (t :: ts) ∧ t.2.1 = c :: s ∧ (W → t.2.1 ≠ withinA)) (hF : ∀ r, F (sb ++ r)) (hG : ∀ r, G r → F r ∧ Nb [c] r) :
    ∀ (l : List α), l ≠ [] → (∀ a ∈ l, Reads W p (g a) a F) → Reads W (fun f => listP (c :: s) (p f)) (sepL sb (l.map g)) l G := by
  have more : ∀ (l : List α), (∀ a ∈ l, Reads W p (g a) a F) → ∀ r k ts, G r → toksG r (k + ((l.map fun a => sb ++ g a).flatten).length) = .ok ts →
      F ((l.map fun a => sb ++ g a).flatten ++ r) ∧ ∃ us, toksG ((l.map fun a => sb ++ g a).flatten ++ r) k = .ok (us ++ ts) ∧ (∀ f m, (us ++ ts).length ≤ f → (us ++ ts).length ≤ m → moreP (c :: s) (p f) m (us ++ ts) = .ok (l, ts)) ∧ (W → ∀ t ∈ us, t.2.1 ≠ withinA) := by
    intro l
    induction l with
    | nil =>
      intro _ r k ts hr ht
      refine ⟨(hG r hr).1, [], ht, fun f m _ _ => ?_, fun _ t h => by cases h⟩
      have hn := sees_not (c := c) (s := s) (by simp) (hG r hr).2 ht
      cases m with
      | zero => rfl
      | succ m =>
        show (if seesP (c :: s) ts = true then _ else _) = _
        rw [if_neg (by rw [hn]; decide)]
        rfl
    | cons a l ih =>
      intro hp r k ts hr ht
      have hl : k + (((a :: l).map fun a => sb ++ g a).flatten).length = (k + sb.length + (g a).length) + ((l.map fun a => sb ++ g a).flatten).length := by
        simp only [List.map_cons, List.flatten_cons, List.length_append]; omega
      rw [hl] at ht
      obtain ⟨i0, us, i1, i2, i3⟩ := ih (fun b hb => hp b (List.mem_cons_of_mem _ hb)) r _ ts hr ht
      obtain ⟨vs, j1, j2, j3⟩ := hp a (by simp) _ (k + sb.length) (us ++ ts) i0 i1
      obtain ⟨t, q1, q2, q3⟩ := hs _ k _ j1
      have ee : ((a :: l).map fun a => sb ++ g a).flatten ++ r = sb ++ (g a ++ ((l.map fun a => sb ++ g a).flatten ++ r)) := by
        simp only [List.map_cons, List.flatten_cons, List.append_assoc]
      refine ⟨by rw [ee]; exact hF _, t :: (vs ++ us), ?_, fun f m hf hm => ?_, fun w u hu => ?_⟩
      · rw [ee, q1]; simp
      · cases m with
        | zero => simp at hm
        | succ m =>
          simp only [List.cons_append, List.append_assoc, List.length_cons, List.length_append] at hf hm ⊢
          show (if seesP (c :: s) (t :: (vs ++ (us ++ ts))) = true then _ else _) = _
          rw [if_pos (by simp [seesP, q2])]
          show andThen (p f (vs ++ (us ++ ts))) _ = _
          rw [j2 f (by simp only [List.length_append]; omega), andThen_ok, i2 f m (by simp only [List.length_append]; omega) (by simp only [List.length_append]; omega)]
          rfl
      · rcases List.mem_cons.1 hu with rfl | hu
        · exact q3 w
        · rcases List.mem_append.1 hu with hu | hu
          · exact j3 w u hu
          · exact i3 w u hu
  have sep_flat : ∀ (a : α) (l : List α), sepL sb ((a :: l).map g) = g a ++ (l.map fun a => sb ++ g a).flatten := by
    intro a l
    induction l generalizing a with
    | nil => simp [sepL]
    | cons b l ih =>
      rw [List.map_cons, List.map_cons, sepL, ← List.map_cons, ih b]
      simp only [List.map_cons, List.flatten_cons, List.append_assoc]
  intro l hl hp
  cases l with
  | nil => exact absurd rfl hl
  | cons a l =>
    rw [sep_flat]
    intro r k ts hr ht
    rw [List.length_append, ← Nat.add_assoc] at ht
    obtain ⟨i0, us, i1, i2, i3⟩ := more l (fun b hb => hp b (List.mem_cons_of_mem _ hb)) r _ ts hr ht
    obtain ⟨vs, j1, j2, j3⟩ := hp a (by simp) _ k (us ++ ts) i0 i1
    refine ⟨vs ++ us, by rw [List.append_assoc, List.append_assoc]; exact j1, fun f hf => ?_, fun w t hm => ?_⟩
    · rw [List.append_assoc] at hf ⊢
      show andThen (p f (vs ++ (us ++ ts))) _ = _
      rw [j2 f hf, andThen_ok, i2 f _ (by rw [List.length_append] at hf; omega) (Nat.le_refl _)]
      rfl
    · rcases List.mem_append.1 hm with h | h
      · exact j3 w t h
      · exact i3 w t h
theorem tok_letter {l : List UInt8} (h : isTok 2 l = true) : ∃ c, l = [c] ∧ largeB c = true := by
  obtain ⟨h1, h2⟩ := isTok_iff.1 h
  cases l with
  | nil => exact absurd rfl h2
  | cons b r =>
    simp only [begG] at h1
    split at h1
    · cases h1
    · split at h1
      · rename_i hl
        have : r = [] := List.eq_nil_of_length_eq_zero (by
          have := (Prod.mk.inj h1).2
          simp only [List.length_cons] at this
          omega)
        exact ⟨b, by rw [this], hl⟩
      · split at h1 <;> cases h1
theorem isTok_one {k : Nat} {l : List UInt8} (h : isTok k l = true) (hs : ∀ b ∈ l, smallB b = true) (hn : l ≠ []) : k = 1 := by
  obtain ⟨h1, _⟩ := isTok_iff.1 h
  have h3 := (fits_word hs hn (nx_nil _)).beg
  rw [List.append_nil, h1] at h3
  exact (Prod.mk.inj h3).1
end Go.Proofs.YtdjaijhlhhnmeaaGreatDoor.P9
namespace Go.Proofs.YtdjaijhlhhnmeaaGreatDoor.P9
open Go.Proofs.YtdjaijhlhhnmeaaGreatDoor.Tk7 Go.Proofs.YtdjaijhlhhnmeaaGreatDoor.A8

theorem itoa_not (v : Int) : Lib.itoa v ≠ withinA := fun h => by
  have := (fits_num v (nx_nil _)).beg
  rw [List.append_nil, h] at this
  exact absurd this (by decide)
theorem reads_num {W : Prop} (e : Nat) {lo hi v : Int} (ho : Sm.okI v = true) (h1 : lo ≤ v) (h2 : v ≤ hi) : Reads W (fun _ => numP e lo hi) (Lib.itoa v) v (Nx digB) :=
  reads_tok (kd := 3) (fun r hr => fits_num v hr) (fun _ => itoa_not v) fun f k ts _ => by
    simp only [numP]
    rw [if_pos trivial, if_pos ⟨by rw [val_itoa ho]; exact ho, by rw [val_itoa ho]; exact h1, by rw [val_itoa ho]; exact h2⟩, val_itoa ho]
theorem reads_map {α β : Type} {W : Prop} {p : Nat → List T → R α} {x : List UInt8} {a : α} {F : List UInt8 → Prop} (g : α → β) (h : Reads W p x a F) : Reads W (fun f l => andThen (p f l) fun v r => .ok (g v, r)) x (g a) F := by
  have := reads_then (q := fun _ v r => .ok (g v, r)) h (reads_ret (g a) F) (fun r hr => hr)
  rw [List.append_nil] at this
  exact this
theorem name_facts {s : List UInt8} (h : nameB s = true) : (∀ b ∈ s, smallB b = true) ∧ s ≠ [] ∧ s ≠ withinA ∧ s.length ≤ 8 := by
  unfold nameB at h
  simp only [Bool.and_eq_true, decide_eq_true_eq, Bool.not_eq_true'] at h
  obtain ⟨⟨⟨h1, h2⟩, h3⟩, h4⟩ := h
  refine ⟨List.all_eq_true.1 h3, fun e => ?_, fun e => ?_, h2⟩
  · rw [e] at h1; simp at h1
  · rw [e] at h4; exact absurd h4 (by decide)
theorem reads_name {W : Prop} (e : Nat) {s : List UInt8} (h : nameB s = true) : Reads W (fun _ => nameP e) s s (Nx smallB) :=
  reads_tok (kd := 1) (fun r hr => fits_word (name_facts h).1 (name_facts h).2.1 hr) (fun _ => (name_facts h).2.2.1) fun f k ts _ => by
    show (if nameB s = true then _ else _) = _
    rw [if_pos h]
/-- Behind an operator. -/
def NoEq (r : List UInt8) : Prop := ∀ t, r ≠ 61 :: t
theorem reads_op {W : Prop} (e : Nat) {i : Int} (h1 : 1 ≤ i) (h2 : i ≤ 6) : Reads W (fun _ => oneP opsA e) (opsA.getD i.toNat []) i NoEq := by
  have h : i = 1 ∨ i = 2 ∨ i = 3 ∨ i = 4 ∨ i = 5 ∨ i = 6 := by omega
  have one : ∀ b : UInt8, signB b = true → (fun r => NoEq r) = NoEq := fun _ _ => rfl
  rcases h with rfl | rfl | rfl | rfl | rfl | rfl
  · exact reads_tok (kd := 4) (x := [61]) (fun r hr => fits_sign (by decide) (.inl (by decide))) (fun _ => by decide) fun f k ts _ => rfl
  · exact reads_tok (kd := 4) (x := [33, 61]) (fun r hr => fits_two r (by decide) (by decide)) (fun _ => by decide) fun f k ts _ => rfl
  · exact reads_tok (kd := 4) (x := [60]) (fun r hr => fits_sign (by decide) (.inr hr)) (fun _ => by decide) fun f k ts _ => rfl
  · exact reads_tok (kd := 4) (x := [60, 61]) (fun r hr => fits_two r (by decide) (by decide)) (fun _ => by decide) fun f k ts _ => rfl
  · exact reads_tok (kd := 4) (x := [62]) (fun r hr => fits_sign (by decide) (.inr hr)) (fun _ => by decide) fun f k ts _ => rfl
  · exact reads_tok (kd := 4) (x := [62, 61]) (fun r hr => fits_two r (by decide) (by decide)) (fun _ => by decide) fun f k ts _ => rfl
theorem reads_fun {W : Prop} (e : Nat) {i : Int} (h1 : 1 ≤ i) (h2 : i ≤ 6) : Reads W (fun _ => oneP funsA e) (funsA.getD i.toNat []) i (Nx smallB) := by
  have h : i = 1 ∨ i = 2 ∨ i = 3 ∨ i = 4 ∨ i = 5 ∨ i = 6 := by omega
  rcases h with rfl | rfl | rfl | rfl | rfl | rfl
  · exact reads_tok (kd := 1) (x := [99, 111, 117, 110, 116]) (fun r hr => fits_word (by decide) (by decide) hr) (fun _ => by decide) fun f k ts _ => rfl
  · exact reads_tok (kd := 1) (x := [115, 117, 109]) (fun r hr => fits_word (by decide) (by decide) hr) (fun _ => by decide) fun f k ts _ => rfl
  · exact reads_tok (kd := 1) (x := [109, 105, 110]) (fun r hr => fits_word (by decide) (by decide) hr) (fun _ => by decide) fun f k ts _ => rfl
  · exact reads_tok (kd := 1) (x := [109, 97, 120]) (fun r hr => fits_word (by decide) (by decide) hr) (fun _ => by decide) fun f k ts _ => rfl
  · exact reads_tok (kd := 1) (x := [102, 105, 114, 115, 116]) (fun r hr => fits_word (by decide) (by decide) hr) (fun _ => by decide) fun f k ts _ => rfl
  · exact reads_tok (kd := 1) (x := [108, 97, 115, 116]) (fun r hr => fits_word (by decide) (by decide) hr) (fun _ => by decide) fun f k ts _ => rfl
theorem itoa_head (v : Int) : ∃ b t, Lib.itoa v = b :: t ∧ (b = 45 ∨ digB b = true) := by
  by_cases h : 0 ≤ v
  · rw [Sm.itoa_pos h]
    obtain ⟨h1, b, t, e, _⟩ := dec_form v.toNat
    exact ⟨b, t, e, .inr (h1 b (by rw [e]; simp))⟩
  · rw [Sm.itoa_neg (by omega)]
    exact ⟨45, _, rfl, .inl rfl⟩
theorem itoa_noEq (v : Int) (r : List UInt8) : NoEq (Lib.itoa v ++ r) := fun t e => by
  obtain ⟨b, u, h1, h2⟩ := itoa_head v
  rw [h1, List.cons_append] at e
  obtain ⟨rfl, _⟩ := List.cons.inj e
  rcases h2 with h2 | h2 <;> exact absurd h2 (by decide)
theorem okI_of {v : Int} (h : okV v) : Sm.okI v = true := Sm.okI_iff.2 h
theorem reads_cond {W : Prop} (e : Nat) {c : Cn} (h : condB c = true) (ho : okC c) : Reads W (fun _ => condP e) (condT c) c (Nx digB) := by
  unfold condB at h
  simp only [Bool.and_eq_true, decide_eq_true_eq] at h
  obtain ⟨op, va⟩ := c
  exact reads_then (W := W) (G := Nx digB) (q := fun _ (o : Int) r => andThen (numP e (-9223372036854775808) 9223372036854775807 r) fun v r => .ok ((⟨o, v⟩ : Cn), r)) (reads_op e h.1 h.2) (reads_map (fun v => (⟨op, v⟩ : Cn)) (reads_num e (okI_of ho.2) ho.2.1 ho.2.2)) fun r _ => itoa_noEq va r
/-! Signs -/
theorem sign_want {W : Prop} (e : Nat) {b : UInt8} (hb : signB b = true) (h2 : twoB b = false) : Reads W (fun _ => wantP e [b]) [b] () (fun _ => True) :=
  reads_want (kd := 4) e (fun r _ => fits_sign hb (.inl h2)) fun _ h => by
    have := congrArg List.length h
    simp [withinA] at this
theorem sign_sep {W : Prop} {b : UInt8} (hb : signB b = true) (h2 : twoB b = false) : ∀ y k ts, toksG y (k + [b].length) = .ok ts → ∃ t, toksG ([b] ++ y) k = .ok (t :: ts) ∧ t.2.1 = b :: [] ∧ (W → t.2.1 ≠ withinA) := fun y k ts h =>
  ⟨(4, [b], k), by rw [toks_fit (fits_sign hb (.inl h2)), h]; rfl, rfl, fun _ h => by
    have := congrArg List.length h
    simp [withinA] at this⟩
theorem nb_app {l x r : List UInt8} (hx : x = [] ∨ ∃ b t, x = b :: t ∧ blankB b = false ∧ b ∉ l) (hr : Nb l r) : Nb l (x ++ r) := by
  rcases hx with rfl | ⟨b, t, rfl, h1, h2⟩
  · exact hr
  · exact nb_cons h1 h2
theorem nx_app {p : UInt8 → Bool} {x r : List UInt8} (hx : x = [] ∨ ∃ b t, x = b :: t ∧ p b = false) (hr : Nx p r) : Nx p (x ++ r) := by
  rcases hx with rfl | ⟨b, t, rfl, h1⟩
  · exact hr
  · exact nx_cons h1

/-! Labels -/
theorem joinSep (sep : List UInt8) : ∀ l : List (List UInt8), Lib.join l sep = sepL sep l
  | [] => rfl
  | [x] => by rw [Lib.join_one, sepL]
  | x :: y :: l => by
    have h := joinSep sep (y :: l)
    rw [Lib.join_cons] at h
    rw [Lib.join_cons, sepL, ← h]
    show x ++ ((y :: l).map (sep ++ ·)).flatten = _
    rw [List.map_cons, List.flatten_cons]
    simp only [List.append_assoc]
    rfl
/-- Ascending, from behind b on. -/
def Asc : Int → List Nat → Prop
  | _, [] => True
  | b, z :: zs => b < (z : Int) ∧ z < 64 ∧ Asc (z : Int) zs
theorem reads_cat {W : Prop} (e : Nat) {b : Int} {z : Nat} (hb : b < (z : Int)) (hz : z < 64) : Reads W (fun _ => catP e b) (Lib.decDigits z) (z : Int) (Nx digB) := fun r k ts hr ht => by
  have h0 : Lib.itoa (z : Int) = Lib.decDigits z := by rw [Sm.itoa_pos (by omega), Int.toNat_natCast]
  obtain ⟨us, h1, h2, h3⟩ := reads_num (W := W) e (lo := 0) (hi := 63) (v := (z : Int)) (Sm.okI_iff.2 (by omega)) (by omega) (by omega) r k ts hr (by rw [h0]; exact ht)
  rw [h0] at h1
  refine ⟨us, h1, fun f hf => ?_, h3⟩
  have h4 := h2 f hf
  show andThen (numP e 0 63 (us ++ ts)) _ = _
  rw [show numP e 0 63 (us ++ ts) = .ok ((z : Int), ts) from h4, andThen_ok, if_neg (by omega)]
theorem reads_cats {W : Prop} (e : Nat) : ∀ (zs : List Nat), zs ≠ [] → Asc (-1) zs → Reads W (fun _ => catsP e) (sepL [44] (zs.map Lib.decDigits)) (zs.map fun (z : Nat) => (z : Int)) (fun r => Nx digB r ∧ Nb [44] r) := by
  have more : ∀ (zs : List Nat) (b : Int), Asc b zs → ∀ r k ts, Nx digB r → Nb [44] r → toksG r (k + ((zs.map fun z => [44] ++ Lib.decDigits z).flatten).length) = .ok ts →
      Nx digB ((zs.map fun z => [44] ++ Lib.decDigits z).flatten ++ r) ∧ ∃ us, toksG ((zs.map fun z => [44] ++ Lib.decDigits z).flatten ++ r) k = .ok (us ++ ts) ∧ (∀ m, (us ++ ts).length ≤ m → moreC e m b (us ++ ts) = .ok (zs.map fun (z : Nat) => (z : Int), ts)) ∧ (W → ∀ t ∈ us, t.2.1 ≠ withinA) := by
    intro zs
    induction zs with
    | nil =>
      intro b _ r k ts hr hn ht
      refine ⟨hr, [], ht, fun m _ => ?_, fun _ t h => by cases h⟩
      have hn := sees_not (c := 44) (s := []) (by simp) hn ht
      cases m with
      | zero => rfl
      | succ m =>
        show (if seesP [44] ts = true then _ else _) = _
        rw [if_neg (by rw [hn]; decide)]
        rfl
    | cons z zs ih =>
      intro b hA r k ts hr hn ht
      have hl : k + (((z :: zs).map fun z => [44] ++ Lib.decDigits z).flatten).length = (k + [44].length + (Lib.decDigits z).length) + ((zs.map fun z => [44] ++ Lib.decDigits z).flatten).length := by
        simp only [List.map_cons, List.flatten_cons, List.length_append]; omega
      rw [hl] at ht
      obtain ⟨i0, us, i1, i2, i3⟩ := ih (z : Int) hA.2.2 r _ ts hr hn ht
      obtain ⟨vs, j1, j2, j3⟩ := reads_cat (W := W) e hA.1 hA.2.1 _ (k + [44].length) (us ++ ts) i0 i1
      obtain ⟨t, q1, q2, q3⟩ := sign_sep (W := W) (b := 44) (by decide) (by decide) _ k _ j1
      have ee : ((z :: zs).map fun z => [44] ++ Lib.decDigits z).flatten ++ r = [44] ++ (Lib.decDigits z ++ ((zs.map fun z => [44] ++ Lib.decDigits z).flatten ++ r)) := by
        simp only [List.map_cons, List.flatten_cons, List.append_assoc]
      refine ⟨by rw [ee]; exact nx_cons (by decide), t :: (vs ++ us), ?_, fun m hm => ?_, fun w u hu => ?_⟩
      · rw [ee, q1]; simp
      · cases m with
        | zero => simp at hm
        | succ m =>
          simp only [List.cons_append, List.append_assoc, List.length_cons, List.length_append] at hm ⊢
          show (if seesP [44] (t :: (vs ++ (us ++ ts))) = true then andThen (catP e b (vs ++ (us ++ ts))) _ else _) = _
          rw [if_pos (by simp [seesP, q2]), show catP e b (vs ++ (us ++ ts)) = _ from j2 _ (Nat.le_refl _), andThen_ok, i2 m (by simp only [List.length_append]; omega)]
          rfl
      · rcases List.mem_cons.1 hu with rfl | hu
        · exact q3 w
        · rcases List.mem_append.1 hu with hu | hu
          · exact j3 w u hu
          · exact i3 w u hu
  have sep_flat : ∀ (a : Nat) (l : List Nat), sepL [44] ((a :: l).map Lib.decDigits) = Lib.decDigits a ++ (l.map fun a => [44] ++ Lib.decDigits a).flatten := by
    intro a l
    induction l generalizing a with
    | nil => simp [sepL]
    | cons b l ih =>
      rw [List.map_cons, List.map_cons, sepL, ← List.map_cons, ih b]
      simp only [List.map_cons, List.flatten_cons, List.append_assoc]
  intro zs hz hA
  cases zs with
  | nil => exact absurd rfl hz
  | cons z zs =>
    rw [sep_flat]
    intro r k ts hr ht
    rw [List.length_append, ← Nat.add_assoc] at ht
    obtain ⟨i0, us, i1, i2, i3⟩ := more zs (z : Int) hA.2.2 r _ ts hr.1 hr.2 ht
    obtain ⟨vs, j1, j2, j3⟩ := reads_cat (W := W) e hA.1 hA.2.1 _ k (us ++ ts) i0 i1
    refine ⟨vs ++ us, by rw [List.append_assoc, List.append_assoc]; exact j1, fun f hf => ?_, fun w t hm => ?_⟩
    · rw [List.append_assoc] at hf ⊢
      show andThen (catP e (-1) (vs ++ (us ++ ts))) _ = _
      rw [show catP e (-1) (vs ++ (us ++ ts)) = _ from j2 f hf, andThen_ok, i2 _ (Nat.le_refl _)]
      rfl
    · rcases List.mem_append.1 hm with h | h
      · exact j3 w t h
      · exact i3 w t h
def orN (zs : List Nat) : Nat := zs.foldl (fun a k => a ||| 2 ^ k) 0
theorem orN_foldl (zs : List Nat) (a i : Nat) : (zs.foldl (fun a k => a ||| 2 ^ k) a).testBit i = (a.testBit i || decide (i ∈ zs)) := by
  induction zs generalizing a with
  | nil => simp
  | cons z zs ih =>
    rw [List.foldl_cons, ih, Nat.testBit_or, Nat.testBit_two_pow]
    cases a.testBit i <;> simp [List.mem_cons, eq_comm]
theorem orN_cats (n : Nat) (hn : n < 18446744073709551616) : orN (Lb.cats n) = n := by
  apply Nat.eq_of_testBit_eq
  intro i
  unfold orN
  rw [orN_foldl]
  unfold Lb.cats
  by_cases hi : i < 64
  · cases h : n.testBit i <;> simp [hi, h]
  · have : n.testBit i = false := Nat.testBit_lt_two_pow (Nat.lt_of_lt_of_le hn (by rw [show (18446744073709551616 : Nat) = 2 ^ 64 by decide]; exact Nat.pow_le_pow_right (by decide) (by omega)))
    rw [this]; simp [hi]
theorem bitOf_nat (k : Nat) (hk : k < 64) : Lb.bitOf (k : Int) = ((2 ^ k : Nat) : Int) := by
  unfold Lb.bitOf
  have h : 2 ^ k < 2 ^ 64 := Nat.pow_lt_pow_right (by decide) hk
  rw [show (18446744073709551616 : Int) = ((2 ^ 64 : Nat) : Int) by decide, Int.toNat_natCast, show ((2 : Int) ^ k) = ((2 ^ k : Nat) : Int) by simp, ← Int.natCast_emod, Nat.mod_eq_of_lt h]
theorem orAll_nat (zs : List Nat) (h : ∀ k ∈ zs, k < 64) : ∀ a : Nat, a < 18446744073709551616 → (zs.map fun (k : Nat) => (k : Int)).foldl (fun a c => bits .or .u64 a (Lb.bitOf c)) (a : Int) = ((zs.foldl (fun a k => a ||| 2 ^ k) a : Nat) : Int) ∧ zs.foldl (fun a k => a ||| 2 ^ k) a < 18446744073709551616 := by
  induction zs with
  | nil => intro a ha; exact ⟨rfl, ha⟩
  | cons z zs ih =>
    intro a ha
    have hz := h z (by simp)
    have h2 : 2 ^ z < 18446744073709551616 := by
      rw [show (18446744073709551616 : Nat) = 2 ^ 64 by decide]; exact Nat.pow_lt_pow_right (by decide) hz
    rw [List.map_cons, List.foldl_cons, List.foldl_cons, bitOf_nat z hz, Lb.or_nat _ _ ha h2]
    exact ih (fun k hk => h k (by simp [hk])) _ (by
      rw [show (18446744073709551616 : Nat) = 2 ^ 64 by decide] at ha h2 ⊢
      exact Nat.or_lt_two_pow ha h2)
theorem orAll_cats (n : Nat) (hn : n < 18446744073709551616) : Lb.orAll ((Lb.cats n).map fun (k : Nat) => (k : Int)) = (n : Int) := by
  have hk : ∀ k ∈ Lb.cats n, k < 64 := fun k hk => by simpa using (List.mem_filter.1 hk).1
  have := (orAll_nat (Lb.cats n) hk 0 (by decide)).1
  unfold Lb.orAll
  rw [show (0 : Int) = ((0 : Nat) : Int) from rfl, this]
  have h2 : (Lb.cats n).foldl (fun a k => a ||| 2 ^ k) 0 = n := orN_cats n hn
  rw [h2]
theorem asc_filter (p : Nat → Bool) : ∀ (m k : Nat) (b : Int), b < (k : Int) → k + m ≤ 64 → Asc b ((List.range' k m).filter p)
  | 0, k, b, _, _ => by simp [Asc]
  | m + 1, k, b, hb, hm => by
    rw [List.range'_succ, List.filter_cons]
    split
    · exact ⟨hb, by omega, asc_filter p m (k + 1) (k : Int) (by omega) (by omega)⟩
    · exact asc_filter p m (k + 1) b (by omega) (by omega)
theorem asc_cats (n : Nat) : Asc (-1) (Lb.cats n) := by
  unfold Lb.cats
  rw [List.range_eq_range']
  exact asc_filter _ 64 0 (-1) (by decide) (by decide)
theorem reads_label {W : Prop} (e : Nat) {x : Int} (hx : 0 ≤ x ∧ x < 18446744073709551616) : Reads W (fun _ => labelP e) (labelT x) x (fun _ => True) := by
  unfold labelT
  rw [joinSep, List.append_assoc]
  refine reads_then (q := fun _ _ r => if seesP [125] r = true then .ok (0, r.tail) else andThen (catsP e r) fun cs r => andThen (wantP e [125] r) fun _ r => .ok (Lb.orAll cs, r)) (F := fun _ => True) (sign_want e (by decide) (by decide)) ?_ fun _ _ => trivial
  by_cases hc : Lb.cats x.toNat = []
  · rw [hc]
    have h0 : x = 0 := by
      have := orAll_cats x.toNat (by omega)
      rw [hc] at this
      have h1 : Lb.orAll [] = 0 := rfl
      rw [List.map_nil, h1] at this
      omega
    subst h0
    have := reads_see (W := W) (x := [125]) (kd := 4) (p := fun _ l => .ok ((0 : Int), l)) (q := fun _ r => andThen (catsP e r) fun cs r => andThen (wantP e [125] r) fun _ r => .ok (Lb.orAll cs, r)) (F := fun _ => True) (fun r _ => fits_sign (b := 125) (by decide) (.inl (by decide))) (fun _ => by decide) (reads_ret (0 : Int) _)
    rw [List.append_nil] at this
    exact this
  · have hv := orAll_cats x.toNat (by omega)
    have hx2 : (x.toNat : Int) = x := by omega
    rw [hx2] at hv
    have hd : ∃ b t, sepL [44] ((Lb.cats x.toNat).map Lib.decDigits) = b :: t ∧ digB b = true := by
      cases hz : Lb.cats x.toNat with
      | nil => exact absurd hz hc
      | cons z zs =>
        obtain ⟨h1, b, t, h2, _⟩ := dec_form z
        cases zs with
        | nil => exact ⟨b, t, h2, h1 b (by rw [h2]; simp)⟩
        | cons z2 zs =>
          refine ⟨b, t ++ [44] ++ sepL [44] ((z2 :: zs).map Lib.decDigits), ?_, h1 b (by rw [h2]; simp)⟩
          rw [List.map_cons, List.map_cons, sepL, h2]
          rfl
    have hr := reads_then (W := W) (q := fun _ cs r => andThen (wantP e [125] r) fun _ r => .ok (Lb.orAll cs, r)) (G := fun _ => True) (reads_cats e _ hc (asc_cats x.toNat)) (by
      have := reads_then (W := W) (q := fun _ _ r => .ok (Lb.orAll ((Lb.cats x.toNat).map fun (z : Nat) => (z : Int)), r)) (sign_want e (b := 125) (by decide) (by decide)) (reads_ret _ (fun _ => True)) (fun r hr => hr)
      rw [List.append_nil, hv] at this
      rw [hv]
      exact this) (fun r _ => (⟨nx_cons (p := digB) (c := 125) (u := r) (by decide), nb_cons (l := [44]) (b := 125) (r := r) (by decide) (by decide)⟩ : Nx digB ([125] ++ r) ∧ Nb [44] ([125] ++ r)))
    refine reads_pass (c := 125) (s := []) (p := fun _ r => .ok (0, r)) (fun r _ => ?_) hr
    obtain ⟨b, t, h1, h2⟩ := hd
    rw [h1]
    refine nb_cons (dig_not h2).2.2.1 (fun hm => ?_)
    rw [List.mem_singleton.1 hm] at h2
    exact absurd h2 (by decide)
end Go.Proofs.YtdjaijhlhhnmeaaGreatDoor.P9
namespace Go.Proofs.YtdjaijhlhhnmeaaGreatDoor.P9
open Go.Proofs.YtdjaijhlhhnmeaaGreatDoor.Tk7 Go.Proofs.YtdjaijhlhhnmeaaGreatDoor.A8

theorem listT_form (b : UInt8) (l : List (List UInt8)) (btw aft : List UInt8) : listT [b] l btw aft = if l.isEmpty = true then [] else b :: (sepL btw l ++ aft) := by
  unfold listT
  cases l <;> rfl
theorem reads_nm {W : Prop} (e : Nat) {s : List UInt8} (h : s.isEmpty = true ∨ nameB s = true) : Reads W (fun _ => nmP e) (if s.isEmpty = true then [] else 58 :: s) s (fun r => Nb [58] r ∧ Nx smallB r) := by
  cases hs : s.isEmpty with
  | true =>
    rw [List.isEmpty_iff.1 hs]
    exact reads_pass (c := 58) (s := []) (p := fun _ => nameP e) (q := fun _ l => .ok ([], l)) (fun r hr => hr.1) (reads_ret [] _)
  | false =>
    rw [hs] at h
    have hn := h.resolve_left (by decide)
    exact reads_see (x := [58]) (kd := 4) (p := fun _ => nameP e) (q := fun _ l => .ok ([], l)) (fun r _ => fits_sign (b := 58) (by decide) (.inl (by decide))) (fun _ => by decide) ((reads_name e hn).mono fun r hr => hr.2)
theorem reads_conds {W : Prop} (e : Nat) {cs : List Cn} (h : ∀ c ∈ cs, condB c = true ∧ okC c) : Reads W (fun _ => condsP e) (listT [91] (cs.map condT) [44] [93]) cs (Nb [91]) := by
  rw [listT_form]
  cases cs with
  | nil => exact reads_pass (c := 91) (s := []) (p := fun _ l => andThen (listP [44] (condP e) l) fun cs r => andThen (wantP e [93] r) fun _ r => .ok (cs, r)) (q := fun _ l => .ok ([], l)) (fun r hr => hr) (reads_ret [] _)
  | cons c cs =>
    rw [if_neg (by simp)]
    have hl := reads_list (W := W) (p := fun _ => condP e) (c := 44) (s := []) (sb := [44]) (g := condT) (F := Nx digB) (G := fun r => ∃ t, r = 93 :: t) (sign_sep (by decide) (by decide)) (fun r => nx_cons (by decide)) (fun r hr => by
      obtain ⟨t, rfl⟩ := hr
      exact ⟨nx_cons (by decide), nb_cons (by decide) (by decide)⟩) (c :: cs) (by simp) (fun a ha => reads_cond e (h a ha).1 (h a ha).2)
    refine reads_see (x := [91]) (kd := 4) (p := fun _ l => andThen (listP [44] (condP e) l) fun cs r => andThen (wantP e [93] r) fun _ r => .ok (cs, r)) (q := fun _ l => .ok ([], l)) (fun r _ => fits_sign (b := 91) (by decide) (.inl (by decide))) (fun _ => by decide) ?_
    exact reads_then (W := W) (G := Nb [91]) (q := fun _ (cs : List Cn) r => andThen (wantP e [93] r) fun _ r => .ok (cs, r)) hl (reads_map (fun _ => c :: cs) ((sign_want e (b := 93) (by decide) (by decide)).mono fun r _ => trivial)) fun r _ => ⟨r, rfl⟩
theorem reads_bound {W : Prop} (e : Nat) {bd : Bool} {bn : Int} (h0 : bd = true ∨ bn = 0) (hb : 0 ≤ bn ∧ bn < 18446744073709551616) : Reads W (fun _ => boundP e) (if bd = true then 64 :: labelT bn else []) (bd, bn) (Nb [64]) := by
  cases bd with
  | true => exact reads_see (x := [64]) (kd := 4) (p := fun _ l => andThen (labelP e l) fun b r => .ok ((true, b), r)) (q := fun _ l => .ok ((false, 0), l)) (fun r _ => fits_sign (b := 64) (by decide) (.inl (by decide))) (fun _ => by decide) ((reads_map (fun b => (true, b)) (reads_label e hb)).mono fun r _ => trivial)
  | false =>
    have : bn = 0 := h0.resolve_left (by decide)
    subst this
    exact reads_pass (c := 64) (s := []) (p := fun _ l => andThen (labelP e l) fun b r => .ok ((true, b), r)) (q := fun _ l => .ok ((false, 0), l)) (fun r hr => hr) (reads_ret _ _)
/-- What may follow an atom, an item, a sequence, a pattern. -/
def Fa (r : List UInt8) : Prop := Nb [64, 91, 58] r ∧ Nx smallB r
def Fi (r : List UInt8) : Prop := Nb [64, 91, 58, 123] r ∧ Nx smallB r
def Fs (r : List UInt8) : Prop := Nb [64, 91, 58, 123, 59] r ∧ Nx smallB r
def Fp (r : List UInt8) : Prop := Nb [64, 91, 58, 123, 59, 124] r ∧ Nx smallB r
theorem fi_fa {r : List UInt8} (h : Fi r) : Fa r := ⟨h.1.mono (by decide), h.2⟩
theorem fs_fi {r : List UInt8} (h : Fs r) : Fi r := ⟨h.1.mono (by decide), h.2⟩
theorem fp_fs {r : List UInt8} (h : Fp r) : Fs r := ⟨h.1.mono (by decide), h.2⟩
theorem large_facts {kd : Int} (h : 0 ≤ kd ∧ kd ≤ 25) : largeB (UInt8.ofNat (65 + kd.toNat)) = true ∧ ((UInt8.ofNat (65 + kd.toNat)).toNat : Int) - 65 = kd := by
  obtain ⟨k, rfl⟩ : ∃ k : Nat, kd = (k : Int) := ⟨kd.toNat, by omega⟩
  rw [Int.toNat_natCast]
  have h1 : (UInt8.ofNat (65 + k)).toNat = 65 + k := by rw [UInt8.toNat_ofNat']; omega
  unfold largeB
  rw [h1]
  simp
  omega
structure OkB (a : At) : Prop where
  bn : 0 ≤ a.bn ∧ a.bn < 18446744073709551616
  cs : ∀ c ∈ a.cs, okC c
theorem atomB_facts {a : At} (h : atomB a = true) : (0 ≤ a.kd ∧ a.kd ≤ 25) ∧ (a.bd = true ∨ a.bn = 0) ∧ (∀ c ∈ a.cs, condB c = true) ∧ (a.nm.isEmpty = true ∨ nameB a.nm = true) := by
  unfold atomB at h
  simp only [Bool.and_eq_true, Bool.or_eq_true, decide_eq_true_eq] at h
  exact ⟨h.1.1.1, h.1.1.2, List.all_eq_true.1 h.1.2, h.2⟩
theorem nm_head {l : List UInt8} {s r : List UInt8} (h : (58 : UInt8) ∉ l) (hr : Nb l r) : Nb l ((if s.isEmpty = true then [] else 58 :: s) ++ r) := by
  split
  · exact hr
  · exact nb_cons (by decide) h
theorem conds_head {l : List UInt8} {cs : List (List UInt8)} {r : List UInt8} (h : (91 : UInt8) ∉ l) (hr : Nb l r) : Nb l (listT [91] cs [44] [93] ++ r) := by
  rw [listT_form]
  split
  · exact hr
  · exact nb_cons (by decide) h
theorem reads_atom {W : Prop} (e : Nat) {a : At} (h : atomB a = true) (ho : OkB a) : Reads W (fun _ => atomP e) (atomT a) a Fa := by
  obtain ⟨h1, h2, h3, h4⟩ := atomB_facts h
  obtain ⟨kd, bd, bn, cs, nm⟩ := a
  simp only at h1 h2 h3 h4
  unfold atomT
  rw [List.append_assoc, List.append_assoc]
  have r4 := reads_map (W := W) (fun n => (⟨kd, bd, bn, cs, n⟩ : At)) (reads_nm e h4)
  have r3 := reads_then (W := W) (q := fun _ (cs : List Cn) r => andThen (nmP e r) fun n r => .ok ((⟨kd, bd, bn, cs, n⟩ : At), r)) (G := fun r => Nb [91, 58] r ∧ Nx smallB r) (reads_conds e (cs := cs) fun c hc => ⟨h3 c hc, ho.cs c hc⟩) (r4.mono fun r hr => ⟨hr.1.mono (by decide), hr.2⟩) (fun r hr => nm_head (by decide) (hr.1.mono (by decide)))
  have r2 := reads_then (W := W) (q := fun _ (b : Bool × Int) r => andThen (condsP e r) fun cs r => andThen (nmP e r) fun n r => .ok ((⟨kd, b.1, b.2, cs, n⟩ : At), r)) (G := Fa) (reads_bound e h2 ho.bn) (r3.mono fun r hr => ⟨hr.1.mono (by decide), hr.2⟩) (fun r hr => by
    rw [List.append_assoc]
    exact conds_head (by decide) (nm_head (by decide) (hr.1.mono (by decide))))
  refine reads_then (W := W) (q := fun _ (k : Int) r => andThen (boundP e r) fun b r => andThen (condsP e r) fun cs r => andThen (nmP e r) fun n r => .ok ((⟨k, b.1, b.2, cs, n⟩ : At), r)) (F := fun _ => True) (a := kd) ?_ r2 fun _ _ => trivial
  obtain ⟨g1, g2⟩ := large_facts h1
  exact reads_tok (kd := 2) (fun r _ => fits_letter r g1) (fun _ h => by have := congrArg List.length h; simp [withinA] at this) fun f k ts _ => by
    simp only [letterP, List.headD_cons]
    rw [if_pos trivial, g2]
theorem reads_times {W : Prop} (e : Nat) {mn mx : Int} (h1 : 0 ≤ mn ∧ mn ≤ 99) (h2 : 0 ≤ mx ∧ mx ≤ 99) : Reads W (fun _ => timesP e) (timesT mn mx) (mn, mx) (Nb [123]) := by
  unfold timesT
  by_cases h : mn = 1 ∧ mx = 1
  · rw [if_pos h, h.1, h.2]
    exact reads_pass (c := 123) (s := []) (p := fun _ l => andThen (numP e 0 99 l) fun a r => andThen (wantP e [44] r) fun _ r => andThen (numP e 0 99 r) fun b r => andThen (wantP e [125] r) fun _ r => .ok ((a, b), r)) (q := fun _ l => .ok ((1, 1), l)) (fun r hr => hr) (reads_ret _ _)
  · rw [if_neg h]
    have ee : ([123] : List UInt8) ++ (Lib.itoa mn ++ [44] ++ Lib.itoa mx) ++ [125] = [123] ++ (Lib.itoa mn ++ ([44] ++ (Lib.itoa mx ++ [125]))) := by simp
    rw [ee]
    refine reads_see (x := [123]) (kd := 4) (p := fun _ l => andThen (numP e 0 99 l) fun a r => andThen (wantP e [44] r) fun _ r => andThen (numP e 0 99 r) fun b r => andThen (wantP e [125] r) fun _ r => .ok ((a, b), r)) (q := fun _ l => .ok ((1, 1), l)) (fun r _ => fits_sign (b := 123) (by decide) (.inl (by decide))) (fun _ => by decide) ?_
    have r4 := reads_map (W := W) (fun _ => (mn, mx)) (sign_want (W := W) e (b := 125) (by decide) (by decide))
    have r3 := reads_then (W := W) (q := fun _ (b : Int) r => andThen (wantP e [125] r) fun _ r => .ok ((mn, b), r)) (G := fun _ => True) (reads_num e (lo := 0) (hi := 99) (v := mx) (Sm.okI_iff.2 (by omega)) h2.1 h2.2) r4 (fun r _ => nx_cons (p := digB) (c := 125) (u := r) (by decide))
    have r2 := reads_then (W := W) (q := fun _ _ r => andThen (numP e 0 99 r) fun b r => andThen (wantP e [125] r) fun _ r => .ok ((mn, b), r)) (G := fun _ => True) (sign_want (W := W) e (b := 44) (by decide) (by decide)) r3 (fun _ _ => trivial)
    exact (reads_then (W := W) (q := fun _ (a : Int) r => andThen (wantP e [44] r) fun _ r => andThen (numP e 0 99 r) fun b r => andThen (wantP e [125] r) fun _ r => .ok ((a, b), r)) (G := fun _ => True) (reads_num e (lo := 0) (hi := 99) (v := mn) (Sm.okI_iff.2 (by omega)) h1.1 h1.2) r2 (fun r _ => nx_cons (p := digB) (c := 44) (by decide))).mono fun _ _ => trivial
theorem atom_first (a : At) : ∃ t, atomT a = UInt8.ofNat (65 + a.kd.toNat) :: t := ⟨_, rfl⟩
theorem large_nb {l : List UInt8} {a : At} (h : atomB a = true) (hl : ∀ b ∈ l, largeB b = false) (r : List UInt8) : Nb l (atomT a ++ r) := by
  obtain ⟨t, ht⟩ := atom_first a
  have hg := (large_facts (atomB_facts h).1).1
  rw [ht]
  refine nb_cons ?_ fun hm => ?_
  · cases e : blankB (UInt8.ofNat (65 + a.kd.toNat))
    · rfl
    · rw [(blank_not e).2.1] at hg; cases hg
  · rw [hl _ hm] at hg; cases hg
/-- .. behind an opening sign, with one more to spare. -/
theorem reads_open {α : Type} {W : Prop} {p q : Nat → List T → R α} {kd : Nat} {x y : List UInt8} {a : α} {F : List UInt8 → Prop} (hf : ∀ r, F r → Fits kd x (y ++ r)) (hw : W → x ≠ withinA) (hp : Reads W (fun f => p (f + 1)) y a F) :
    Reads W (fun f l => if seesP x l = true then p f l.tail else q f l) (x ++ y) a F := fun r k ts hr ht => by
  rw [List.length_append, ← Nat.add_assoc] at ht
  obtain ⟨us, h1, h2, h3⟩ := hp r (k + x.length) ts hr ht
  refine ⟨(kd, x, k) :: us, ?_, fun f h => ?_, fun w t hm => ?_⟩
  · rw [List.append_assoc, toks_fit (hf r hr), h1]; rfl
  · show (if seesP x ((kd, x, k) :: (us ++ ts)) = true then p f (us ++ ts) else _) = _
    rw [if_pos (by simp [seesP])]
    obtain ⟨f', rfl⟩ : ∃ f', f = f' + 1 := ⟨f - 1, by simp at h; omega⟩
    exact h2 f' (by simp at h ⊢; omega)
  · rcases List.mem_cons.1 hm with rfl | hm
    · exact hw w
    · exact h3 w t hm
/-! Nodes -/
def itemF (e f : Nat) : List T → R Nd := itemP e (patP e f)
def seqF (e f : Nat) : List T → R Nd := seqP e (patP e f)
def patF (e f : Nat) : List T → R Nd := patP e (f + 1)
theorem paren_item {W : Prop} (e : Nat) {x : List UInt8} {n : Nd} (h : Reads W (patF e) x n Fp) : Reads W (itemF e) ([40] ++ x ++ [41]) n Fi := by
  have h1 := reads_then (W := W) (q := fun _ (n : Nd) r => andThen (wantP e [41] r) fun _ r => .ok (n, r)) (G := Fi) h (reads_map (fun _ => n) ((sign_want e (b := 41) (by decide) (by decide)).mono fun _ _ => trivial)) (fun r _ => (⟨nb_cons (b := 41) (r := r) (by decide) (by decide), nx_cons (c := 41) (u := r) (by decide)⟩ : Fp ([41] ++ r)))
  have h2 := reads_open (W := W) (x := [40]) (kd := 4) (p := fun f l => andThen (patP e f l) fun n r => andThen (wantP e [41] r) fun _ r => .ok (n, r)) (q := fun _ l => andThen (atomP e l) fun a r => andThen (timesP e r) fun m r => .ok (Nd.mk 1 m.1 m.2 a [], r)) (fun r _ => fits_sign (b := 40) (by decide) (.inl (by decide))) (fun _ => by decide) h1
  rw [List.append_assoc]
  exact reads_pass (c := 110) (s := [111, 116]) (p := fun _ l => andThen (atomP e l) fun a r => .ok (Nd.mk 2 0 0 a [], r)) (fun r _ => nb_cons (by decide) (by decide)) h2
theorem seq_one {W : Prop} (e : Nat) {x : List UInt8} {n : Nd} (h : Reads W (itemF e) x n Fi) : Reads W (seqF e) x n Fs := by
  have := reads_list (W := W) (p := itemF e) (c := 59) (s := []) (sb := [59]) (g := fun _ => x) (F := Fi) (G := Fs) (sign_sep (by decide) (by decide)) (fun r => ⟨nb_cons (by decide) (by decide), nx_cons (by decide)⟩) (fun r hr => ⟨fs_fi hr, hr.1.mono (by decide)⟩) [n] (by simp) (fun a ha => by rw [List.mem_singleton.1 ha]; exact h)
  exact reads_map (joinP 3) this
theorem pat_one {W : Prop} (e : Nat) {x : List UInt8} {n : Nd} (h : Reads W (seqF e) x n Fs) : Reads W (patF e) x n Fp := by
  have := reads_list (W := W) (p := seqF e) (c := 124) (s := []) (sb := [124]) (g := fun _ => x) (F := Fs) (G := Fp) (sign_sep (by decide) (by decide)) (fun r => ⟨nb_cons (by decide) (by decide), nx_cons (by decide)⟩) (fun r hr => ⟨fp_fs hr, hr.1.mono (by decide)⟩) [n] (by simp) (fun a ha => by rw [List.mem_singleton.1 ha]; exact h)
  exact reads_map (joinP 4) this
/-- A sign between blanks. -/
theorem blank_sep {W : Prop} {b : UInt8} (hb : signB b = true) (h2 : twoB b = false) : ∀ y k ts, toksG y (k + [32, b, 32].length) = .ok ts → ∃ t, toksG ([32, b, 32] ++ y) k = .ok (t :: ts) ∧ t.2.1 = b :: [] ∧ (W → t.2.1 ≠ withinA) := fun y k ts h =>
  ⟨(4, [b], k + 1), by
    have e1 := toks_blank (g := [32]) (fun c hc => by rw [List.mem_singleton.1 hc]; decide) ([b] ++ (32 :: y)) k
    have e2 := toks_fit (fits_sign (r := 32 :: y) hb (.inl h2)) (k + 1)
    have e3 := toks_blank (g := [32]) (fun c hc => by rw [List.mem_singleton.1 hc]; decide) y (k + 1 + 1)
    have e4 : toksG ([32, b, 32] ++ y) k = glue (4, [b], k + 1) (toksG y (k + 1 + 1 + 1)) := e1.trans (e2.trans (congrArg _ e3))
    rw [e4, show k + 1 + 1 + 1 = k + [32, b, 32].length from rfl, h]
    rfl, rfl, fun _ h => by
    have := congrArg List.length h
    simp [withinA] at this⟩
theorem join_many {k : Int} {ks : List Nd} (h : 2 ≤ ks.length) : joinP k ks = .mk k 0 0 noA ks := by
  match ks, h with
  | _ :: _ :: _, _ => rfl
theorem zero_noA {a : At} (h : zeroB a = true) : a = noA := by
  obtain ⟨kd, bd, bn, cs, nm⟩ := a
  unfold zeroB at h
  simp only [Bool.and_eq_true, decide_eq_true_eq, Bool.not_eq_true', List.isEmpty_iff] at h
  obtain ⟨⟨⟨⟨h1, h2⟩, h3⟩, h4⟩, h5⟩ := h
  rw [h1, h2, h3, h4, h5]
  rfl
def OkT9 (n : Nd) : Prop := ∀ t ∈ subsN n, OkB t.atom
theorem subsL_flat (l : List Nd) : subsL l = l.flatMap subsN := by
  induction l with
  | nil => rfl
  | cons n ns ih => rw [subsL, ih, List.flatMap_cons]
theorem okT9_kid {k mn mx : Int} {a : At} {ks : List Nd} (h : OkT9 (.mk k mn mx a ks)) {n : Nd} (hn : n ∈ ks) : OkT9 n := fun t ht => h t (by
  rw [subsN, subsL_flat]
  exact List.mem_cons_of_mem _ (List.mem_flatMap.2 ⟨n, hn, ht⟩))
theorem node_reads (e : Nat) : ∀ n : Nd, ∀ d, soundN d n = true → OkT9 n →
    ((n.kind = 1 ∨ n.kind = 2) → Reads True (itemF e) (textN n) n Fi) ∧ (n.kind = 3 → Reads True (seqF e) (textN n) n Fs) ∧ Reads True (patF e) (textN n) n Fp := by
  refine Nd.ind fun k mn mx a ks ih d hs ho => ?_
  rw [soundN] at hs
  simp only [Bool.and_eq_true, decide_eq_true_eq, soundL_all, List.all_eq_true] at hs
  obtain ⟨⟨hd, hn⟩, hk⟩ := hs
  have hoa : OkB a := ho (.mk k mn mx a ks) (by rw [subsN]; exact List.mem_cons_self)
  have item_of : (k = 1 ∨ k = 2) → Reads True (itemF e) (textN (.mk k mn mx a ks)) (.mk k mn mx a ks) Fi := by
    rintro (rfl | rfl)
    · unfold nodeB at hn
      rw [if_pos rfl] at hn
      simp only [Bool.and_eq_true, decide_eq_true_eq] at hn
      obtain ⟨⟨⟨ha, hmn⟩, hmx⟩, hl⟩ := hn
      have : ks = [] := List.eq_nil_of_length_eq_zero hl
      subst this
      rw [textN, if_pos rfl]
      have h1 := reads_then (W := True) (q := fun _ (a : At) r => andThen (timesP e r) fun m r => .ok (Nd.mk 1 m.1 m.2 a [], r)) (G := Fi) (reads_atom e ha hoa) (reads_map (fun m => Nd.mk 1 m.1 m.2 a []) ((reads_times e (mn := mn) (mx := mx) hmn hmx).mono fun r hr => hr.1.mono (by decide))) (fun r hr => by
        unfold timesT
        split
        · exact fi_fa hr
        · exact (⟨nb_cons (b := 123) (by decide) (by decide), nx_cons (c := 123) (by decide)⟩ : Fa _))
      have h2 := reads_pass (W := True) (c := 40) (s := []) (p := fun f l => andThen (patP e f l) fun n r => andThen (wantP e [41] r) fun _ r => .ok (n, r)) (fun r _ => by rw [List.append_assoc]; exact large_nb ha (by decide) _) h1
      exact reads_pass (c := 110) (s := [111, 116]) (p := fun _ l => andThen (atomP e l) fun a r => .ok (Nd.mk 2 0 0 a [], r)) (fun r _ => by rw [List.append_assoc]; exact large_nb ha (by decide) _) h2
    · unfold nodeB at hn
      rw [if_neg (by decide), if_pos rfl] at hn
      simp only [Bool.and_eq_true, decide_eq_true_eq] at hn
      obtain ⟨⟨ha, hm1, hm2⟩, hl⟩ := hn
      have : ks = [] := List.eq_nil_of_length_eq_zero hl
      subst this
      subst hm1
      subst hm2
      rw [textN, if_neg (by decide), if_pos rfl]
      exact reads_see (x := [110, 111, 116]) (y := 32 :: atomT a) (kd := 1) (p := fun _ l => andThen (atomP e l) fun a r => .ok (Nd.mk 2 0 0 a [], r)) (fun r _ => fits_word (by decide) (by decide) (nx_cons (by decide))) (fun _ => by decide) (reads_map (fun a => Nd.mk 2 0 0 a []) (reads_blank (by decide) ((reads_atom e ha hoa).mono fun r hr => fi_fa hr)))
  have kids : (k = 3 ∨ k = 4) → a = noA ∧ mn = 0 ∧ mx = 0 ∧ 2 ≤ ks.length := by
    intro h
    unfold nodeB at hn
    rw [if_neg (by omega), if_neg (by omega), if_pos h] at hn
    simp only [Bool.and_eq_true, decide_eq_true_eq] at hn
    exact ⟨zero_noA hn.1.1, hn.1.2.1, hn.1.2.2, hn.2⟩
  have kid_kind : ∀ t ∈ ks, t.kind = 1 ∨ t.kind = 2 ∨ t.kind = 3 ∨ t.kind = 4 := by
    intro t ht
    have h1 := hk t ht
    obtain ⟨k', mn', mx', a', ks'⟩ := t
    rw [soundN] at h1
    simp only [Bool.and_eq_true, decide_eq_true_eq] at h1
    have h2 := h1.1.2
    show k' = 1 ∨ k' = 2 ∨ k' = 3 ∨ k' = 4
    unfold nodeB at h2
    by_cases e1 : k' = 1
    · exact .inl e1
    · rw [if_neg e1] at h2
      by_cases e2 : k' = 2
      · exact .inr (.inl e2)
      · rw [if_neg e2] at h2
        by_cases e3 : k' = 3 ∨ k' = 4
        · exact .inr (.inr e3)
        · rw [if_neg e3] at h2; cases h2
  have seq_of : k = 3 → Reads True (seqF e) (textN (.mk k mn mx a ks)) (.mk k mn mx a ks) Fs := by
    rintro rfl
    obtain ⟨rfl, rfl, rfl, h2⟩ := kids (.inl rfl)
    rw [textN, if_neg (by decide), if_neg (by decide), if_pos rfl, textL_map]
    have hl := reads_list (W := True) (p := itemF e) (c := 59) (s := []) (sb := [32, 59, 32]) (g := fun n => wrapT 3 n.kind (textN n)) (F := Fi) (G := Fs) (blank_sep (by decide) (by decide)) (fun r => ⟨(nb_blank (by decide)).2 (nb_cons (b := 59) (by decide) (by decide)), nx_cons (c := 32) (by decide)⟩) (fun r hr => ⟨fs_fi hr, hr.1.mono (by decide)⟩) ks (by intro e; rw [e] at h2; simp at h2) (fun t ht => by
      obtain ⟨g1, g2, g3⟩ := ih t ht (d + 1) (hk t ht) (okT9_kid ho ht)
      unfold wrapT
      rcases kid_kind t ht with h | h | h | h
      · rw [if_neg (by rw [h]; decide)]; exact g1 (.inl h)
      · rw [if_neg (by rw [h]; decide)]; exact g1 (.inr h)
      · rw [if_pos (by rw [h]; decide)]; exact paren_item e g3
      · rw [if_pos (by rw [h]; decide)]; exact paren_item e g3)
    have := reads_map (joinP 3) hl
    rw [join_many h2] at this
    exact this
  refine ⟨item_of, seq_of, ?_⟩
  have hkk : k = 1 ∨ k = 2 ∨ k = 3 ∨ k = 4 := by
    unfold nodeB at hn
    by_cases e1 : k = 1
    · exact .inl e1
    · rw [if_neg e1] at hn
      by_cases e2 : k = 2
      · exact .inr (.inl e2)
      · rw [if_neg e2] at hn
        by_cases e3 : k = 3 ∨ k = 4
        · exact .inr (.inr e3)
        · rw [if_neg e3] at hn; cases hn
  rcases hkk with h | h | h | h
  · exact pat_one e (seq_one e (item_of (.inl h)))
  · exact pat_one e (seq_one e (item_of (.inr h)))
  · exact pat_one e (seq_of h)
  · subst h
    obtain ⟨rfl, rfl, rfl, h2⟩ := kids (.inr rfl)
    rw [textN, if_neg (by decide), if_neg (by decide), if_neg (by decide), if_pos rfl, textL_map]
    have hl := reads_list (W := True) (p := seqF e) (c := 124) (s := []) (sb := [32, 124, 32]) (g := fun n => wrapT 4 n.kind (textN n)) (F := Fs) (G := Fp) (blank_sep (by decide) (by decide)) (fun r => ⟨(nb_blank (by decide)).2 (nb_cons (b := 124) (by decide) (by decide)), nx_cons (c := 32) (by decide)⟩) (fun r hr => ⟨fp_fs hr, hr.1.mono (by decide)⟩) ks (by intro e; rw [e] at h2; simp at h2) (fun t ht => by
      obtain ⟨g1, g2, g3⟩ := ih t ht (d + 1) (hk t ht) (okT9_kid ho ht)
      unfold wrapT
      rcases kid_kind t ht with h | h | h | h
      · rw [if_neg (by rw [h]; decide)]; exact seq_one e (g1 (.inl h))
      · rw [if_neg (by rw [h]; decide)]; exact seq_one e (g1 (.inr h))
      · rw [if_neg (by rw [h]; decide)]; exact g2 h
      · rw [if_pos (by rw [h]; decide)]; exact seq_one e (paren_item e g3))
    have := reads_map (joinP 4) hl
    rw [join_many h2] at this
    exact this
end Go.Proofs.YtdjaijhlhhnmeaaGreatDoor.P9
namespace Go.Proofs.YtdjaijhlhhnmeaaGreatDoor.P9
open Go.Proofs.YtdjaijhlhhnmeaaGreatDoor.Tk7 Go.Proofs.YtdjaijhlhhnmeaaGreatDoor.A8

theorem laid_at : ∀ (ts : List T) (l : List UInt8) (k : Nat), Laid l k ts → ∀ t ∈ ts, t.2.2 + t.2.1.length ≤ k + l.length := by
  intro ts
  induction ts with
  | nil => intro l k _ t h; cases h
  | cons x ts ih =>
    rintro l k ⟨g, e, rfl, _, h0, h, h2⟩ t ht
    rcases List.mem_cons.1 ht with rfl | ht
    · simp only [List.length_append]
      omega
    · have := ih _ _ h2 t ht
      simp only [List.length_append]
      omega
theorem aggB_facts {a : Ag} (h : aggB a = true) : (1 ≤ a.fn ∧ a.fn ≤ 6) ∧ nameB a.nm = true := by
  unfold aggB at h
  simp only [Bool.and_eq_true, decide_eq_true_eq] at h
  exact h
theorem reads_agg {W : Prop} (e : Nat) {a : Ag} (h : aggB a = true) : Reads W (fun _ => aggP e) (aggT a) a (fun _ => True) := by
  obtain ⟨h1, h2⟩ := aggB_facts h
  obtain ⟨fn, nm⟩ := a
  simp only at h1 h2
  unfold aggT
  rw [List.append_assoc, List.append_assoc]
  have r4 := reads_map (W := W) (fun _ => (⟨fn, nm⟩ : Ag)) (sign_want (W := W) e (b := 41) (by decide) (by decide))
  have r3 := reads_then (W := W) (q := fun _ (n : List UInt8) r => andThen (wantP e [41] r) fun _ r => .ok ((⟨fn, n⟩ : Ag), r)) (G := fun _ => True) (reads_name e h2) r4 (fun r _ => nx_cons (p := smallB) (c := 41) (u := r) (by decide))
  have r2 := reads_then (W := W) (q := fun _ _ r => andThen (nameP e r) fun n r => andThen (wantP e [41] r) fun _ r => .ok ((⟨fn, n⟩ : Ag), r)) (G := fun _ => True) (sign_want (W := W) e (b := 40) (by decide) (by decide)) r3 (fun _ _ => trivial)
  exact reads_then (W := W) (q := fun _ (f : Int) r => andThen (wantP e [40] r) fun _ r => andThen (nameP e r) fun n r => andThen (wantP e [41] r) fun _ r => .ok ((⟨f, n⟩ : Ag), r)) (G := fun _ => True) (reads_fun e h1.1 h1.2) r2 (fun r _ => nx_cons (p := smallB) (c := 40) (by decide))
theorem reads_have {W : Prop} (e : Nat) {h : Hv} (hh : haveB h = true) (ho : okC h.cn) : Reads W (fun _ => haveP e) (haveT h) h (Nx digB) := by
  unfold haveB at hh
  rw [Bool.and_eq_true] at hh
  obtain ⟨ag, cn⟩ := h
  unfold haveT
  rw [List.append_assoc]
  exact reads_then (W := W) (q := fun _ (a : Ag) r => andThen (condP e r) fun c r => .ok ((⟨a, c⟩ : Hv), r)) (G := Nx digB) (reads_agg e hh.1) (reads_map (fun c => (⟨ag, c⟩ : Hv)) (reads_blank (by decide) (reads_cond e hh.2 ho))) (fun _ _ => trivial)
/-- What may follow a query: nothing, or a semicolon. -/
def Fq (r : List UInt8) : Prop := r = [] ∨ ∃ t, r = 59 :: t
theorem fq_nb {r : List UInt8} {l : List UInt8} (h : Fq r) (hl : (59 : UInt8) ∉ l) : Nb l r := by
  rcases h with rfl | ⟨t, rfl⟩
  · exact nb_nil l
  · exact nb_cons (by decide) hl
theorem fq_nx {r : List UInt8} {p : UInt8 → Bool} (h : Fq r) (hp : p 59 = false) : Nx p r := by
  rcases h with rfl | ⟨t, rfl⟩
  · exact nx_nil p
  · exact nx_cons hp
theorem word_sep {W : Prop} {x sb pre : List UInt8} {c : UInt8} {s : List UInt8} (hx : x = c :: s) (hs : ∀ b ∈ x, smallB b = true) (hpre : ∀ b ∈ pre, blankB b = true) (hsb : sb = pre ++ (x ++ [32])) (hw : W → x ≠ withinA) : ∀ y k ts, toksG y (k + sb.length) = .ok ts → ∃ t, toksG (sb ++ y) k = .ok (t :: ts) ∧ t.2.1 = c :: s ∧ (W → t.2.1 ≠ withinA) := fun y k ts h =>
  ⟨(1, x, k + pre.length), by
    subst hsb
    have e1 := toks_blank hpre (x ++ (32 :: y)) k
    have e2 := toks_fit (fits_word (r := 32 :: y) hs (by rw [hx]; simp) (nx_cons (by decide))) (k + pre.length)
    have e3 := toks_blank (g := [32]) (fun c hc => by rw [List.mem_singleton.1 hc]; decide) y (k + pre.length + x.length)
    have e4 : toksG ((pre ++ (x ++ [32])) ++ y) k = glue (1, x, k + pre.length) (toksG y (k + pre.length + x.length + 1)) := by
      rw [show (pre ++ (x ++ [32])) ++ y = pre ++ (x ++ (32 :: y)) by simp]
      exact e1.trans (e2.trans (congrArg _ e3))
    rw [e4, show k + pre.length + x.length + 1 = k + (pre ++ (x ++ [32])).length by simp only [List.length_append, List.length_cons, List.length_nil]; omega, h]
    rfl, hx, fun w => hw w⟩
theorem reads_haves {W : Prop} (e : Nat) {hs : List Hv} (h : ∀ x ∈ hs, haveB x = true ∧ okC x.cn) : Reads W (fun _ => havesP e) (listT [32, 104, 97, 118, 105, 110, 103, 32] (hs.map haveT) [32, 97, 110, 100, 32] []) hs (fun r => Nb [97, 104] r ∧ Nx digB r) := by
  cases hs with
  | nil => exact reads_pass (c := 104) (s := [97, 118, 105, 110, 103]) (p := fun _ l => listP andA (haveP e) l) (q := fun _ l => .ok ([], l)) (fun r hr => hr.1.mono (by decide)) (reads_ret [] _)
  | cons x hs =>
    have hl := reads_list (W := W) (p := fun _ => haveP e) (c := 97) (s := [110, 100]) (sb := [32, 97, 110, 100, 32]) (g := haveT) (F := Nx digB) (G := fun r => Nb [97, 104] r ∧ Nx digB r) (word_sep (x := andA) (pre := [32]) rfl (by decide) (by decide) rfl (fun _ => by decide)) (fun r => nx_cons (c := 32) (by decide)) (fun r hr => ⟨hr.2, hr.1.mono (by decide)⟩) (x :: hs) (by simp) (fun a ha => reads_have e (h a ha).1 (h a ha).2)
    unfold listT
    rw [if_neg (by simp)]
    have ee : ([32, 104, 97, 118, 105, 110, 103, 32] : List UInt8) ++ sepL [32, 97, 110, 100, 32] ((x :: hs).map haveT) ++ [] = 32 :: (havingA ++ (32 :: sepL [32, 97, 110, 100, 32] ((x :: hs).map haveT))) := by simp [havingA]
    rw [ee]
    exact reads_blank (by decide) (reads_see (x := havingA) (kd := 1) (p := fun _ l => listP andA (haveP e) l) (q := fun _ l => .ok ([], l)) (fun r _ => fits_word (by decide) (by decide) (nx_cons (by decide))) (fun _ => by decide) (reads_blank (by decide) hl))
theorem reads_emits {W : Prop} (e : Nat) {es : List Ag} (h : ∀ x ∈ es, aggB x = true) : Reads W (fun _ => emitsP e) (listT [32, 101, 109, 105, 116, 32] (es.map aggT) [44, 32] []) es (fun r => Nb [44, 101] r) := by
  cases es with
  | nil => exact reads_pass (c := 101) (s := [109, 105, 116]) (p := fun _ l => listP [44] (aggP e) l) (q := fun _ l => .ok ([], l)) (fun r hr => hr.mono (by decide)) (reads_ret [] _)
  | cons x es =>
    have hsep : ∀ y k ts, toksG y (k + [44, 32].length) = .ok ts → ∃ t, toksG ([44, 32] ++ y) k = .ok (t :: ts) ∧ t.2.1 = 44 :: [] ∧ (W → t.2.1 ≠ withinA) := fun y k ts h0 =>
      ⟨(4, [44], k), by
        have e2 := toks_fit (fits_sign (b := 44) (r := 32 :: y) (by decide) (.inl (by decide))) k
        have e3 := toks_blank (g := [32]) (fun c hc => by rw [List.mem_singleton.1 hc]; decide) y (k + 1)
        have e4 : toksG ([44, 32] ++ y) k = glue (4, [44], k) (toksG y (k + 1 + 1)) := e2.trans (congrArg _ e3)
        rw [e4, show k + 1 + 1 = k + [44, 32].length from rfl, h0]
        rfl, rfl, fun _ h => by
        have := congrArg List.length h
        simp [withinA] at this⟩
    have hl := reads_list (W := W) (p := fun _ => aggP e) (c := 44) (s := []) (sb := [44, 32]) (g := aggT) (F := fun _ => True) (G := fun r => Nb [44, 101] r) hsep (fun _ => trivial) (fun r hr => ⟨trivial, hr.mono (by decide)⟩) (x :: es) (by simp) (fun a ha => reads_agg e (h a ha))
    unfold listT
    rw [if_neg (by simp)]
    have ee : ([32, 101, 109, 105, 116, 32] : List UInt8) ++ sepL [44, 32] ((x :: es).map aggT) ++ [] = 32 :: (emitA ++ (32 :: sepL [44, 32] ((x :: es).map aggT))) := by simp [emitA]
    rw [ee]
    exact reads_blank (by decide) (reads_see (x := emitA) (kd := 1) (p := fun _ l => listP [44] (aggP e) l) (q := fun _ l => .ok ([], l)) (fun r _ => fits_word (by decide) (by decide) (nx_cons (by decide))) (fun _ => by decide) (reads_blank (by decide) hl))
/-- A query of which all numbers can be written. -/
structure OkQ (q : Qu) : Prop where
  p : OkT9 q.p
  wi : 0 ≤ q.wi
  hv : ∀ h ∈ q.hv, okC h.cn
theorem checkB_facts {q : Qu} (h : checkB q = true) : soundN 1 q.p = true ∧ q.wi ≤ 99999 ∧ (∀ x ∈ q.hv, haveB x = true) ∧ ∀ x ∈ q.em, aggB x = true := by
  unfold checkB at h
  simp only [Bool.and_eq_true, decide_eq_true_eq] at h
  exact ⟨h.1.1.1, h.1.1.2, List.all_eq_true.1 h.1.2, List.all_eq_true.1 h.2⟩
theorem reads_within (e : Nat) : Reads False (fun _ => wantP e withinA) withinA () (Nx smallB) := reads_want (kd := 1) e (fun r hr => fits_word (by decide) (by decide) hr) (fun h => h.elim)
theorem reads_query (e : Nat) {q : Qu} (h : checkB q = true) (ho : OkQ q) : Reads False (fun f => queryP e (f + 1)) (queryT q) q Fq := by
  obtain ⟨h1, h2, h3, h4⟩ := checkB_facts h
  obtain ⟨p, wi, hs, es⟩ := q
  obtain ⟨o1, o2, o3⟩ := ho
  simp only at h1 h2 h3 h4 o1 o2 o3
  have hp := (node_reads e p 1 h1 o1).2.2
  unfold queryT
  simp only
  have ee : textN p ++ [32, 119, 105, 116, 104, 105, 110, 32] ++ Lib.itoa wi ++ listT [32, 104, 97, 118, 105, 110, 103, 32] (hs.map haveT) [32, 97, 110, 100, 32] [] ++ listT [32, 101, 109, 105, 116, 32] (es.map aggT) [44, 32] [] =
      textN p ++ ((32 :: withinA) ++ ((32 :: Lib.itoa wi) ++ (listT [32, 104, 97, 118, 105, 110, 103, 32] (hs.map haveT) [32, 97, 110, 100, 32] [] ++ listT [32, 101, 109, 105, 116, 32] (es.map aggT) [44, 32] []))) := by
    simp [withinA]
  rw [ee]
  have emit_nb : ∀ (l : List UInt8) (r : List UInt8), (101 : UInt8) ∉ l → (59 : UInt8) ∉ l → Fq r → Nb l (listT [32, 101, 109, 105, 116, 32] (es.map aggT) [44, 32] [] ++ r) := fun l r hl hl2 hr => by
    unfold listT
    split
    · exact fq_nb hr hl2
    · exact (nb_blank (by decide)).2 (nb_cons (by decide) hl)
  have emit_nx : ∀ (r : List UInt8), Fq r → Nx digB (listT [32, 101, 109, 105, 116, 32] (es.map aggT) [44, 32] [] ++ r) := fun r hr => by
    unfold listT
    split
    · exact fq_nx hr (by decide)
    · exact nx_cons (by decide)
  have r5 := reads_map (W := False) (fun zs => (⟨p, wi, hs, zs⟩ : Qu)) (reads_emits e (es := es) h4)
  have r4 := reads_then (W := False) (q := fun _ (hs : List Hv) r => andThen (emitsP e r) fun zs r => .ok ((⟨p, wi, hs, zs⟩ : Qu), r)) (G := Fq) (reads_haves e (hs := hs) fun x hx => ⟨h3 x hx, o3 x hx⟩) (r5.mono fun r hr => fq_nb hr (by decide)) (fun r hr => ⟨emit_nb _ r (by decide) (by decide) hr, emit_nx r hr⟩)
  have r3 := reads_then (W := False) (q := fun _ (w : Int) r => andThen (havesP e r) fun hs r => andThen (emitsP e r) fun zs r => .ok ((⟨p, w, hs, zs⟩ : Qu), r)) (G := Fq) (reads_blank (b := 32) (by decide) (reads_num e (lo := 0) (hi := 99999) (v := wi) (Sm.okI_iff.2 (by omega)) o2 h2)) r4 (fun r hr => by
    rw [List.append_assoc]
    unfold listT
    split
    · exact emit_nx r hr
    · exact nx_cons (by decide))
  have r2 := reads_then (W := False) (q := fun _ _ r => andThen (numP e 0 99999 r) fun w r => andThen (havesP e r) fun hs r => andThen (emitsP e r) fun zs r => .ok ((⟨p, w, hs, zs⟩ : Qu), r)) (G := Fq) (reads_blank (b := 32) (by decide) (reads_within e)) r3 (fun r hr => nx_cons (c := 32) (by decide))
  exact reads_then (W := False) (q := fun _ (n : Nd) r => andThen (wantP e withinA r) fun _ r => andThen (numP e 0 99999 r) fun w r => andThen (havesP e r) fun hs r => andThen (emitsP e r) fun zs r => .ok ((⟨n, w, hs, zs⟩ : Qu), r)) (G := Fq) (hp.weak (fun h => h.elim)) r2 (fun r hr => (⟨(nb_blank (by decide)).2 (nb_cons (b := 119) (by decide) (by decide)), nx_cons (c := 32) (by decide)⟩ : Fp _))
/-- A query is parsed from its text. -/
theorem parse_query {q : Qu} (h : checkB q = true) (ho : OkQ q) (hl : (queryT q).length ≤ 400) : parseP (queryT q) = .ok q := by
  obtain ⟨us, h1, h2, _⟩ := reads_query (queryT q).length h ho [] 0 [] (.inl rfl) (toks_nil _)
  rw [List.append_nil, List.append_nil] at h1
  have h3 := h2 us.length (by simp)
  rw [List.append_nil] at h3
  have h4 : queryP (queryT q).length (us.length + 1) us = .ok (q, []) := h3
  unfold parseP wholeP toksP
  rw [if_neg (by omega), h1]
  simp only
  rw [h4]
  rfl
/-- So is a pattern, also in parentheses. -/
theorem pattern_text {n : Nd} {d : Nat} (h : soundN d n = true) (ho : OkT9 n) (hl : (textN n).length ≤ 400) : patternP (textN n) = .ok n := by
  obtain ⟨us, h1, h2, _⟩ := (node_reads (textN n).length n d h ho).2.2 [] 0 [] ⟨nb_nil _, nx_nil _⟩ (toks_nil _)
  rw [List.append_nil, List.append_nil] at h1
  have h3 := h2 us.length (by simp)
  rw [List.append_nil] at h3
  unfold patternP wholeP toksP
  rw [if_neg (by omega), h1]
  simp only
  have h4 : patP (textN n).length (us.length + 1) us = .ok (n, []) := h3
  rw [h4]
  rfl
theorem pattern_parens {n : Nd} {d : Nat} (h : soundN d n = true) (ho : OkT9 n) (hl : (textN n).length ≤ 390) : patternP ([40, 32, 40] ++ textN n ++ [41, 10, 41]) = .ok n := by
  have hr := (node_reads ([40, 32, 40] ++ textN n ++ [41, 10, 41]).length n d h ho).2.2
  have r1 := pat_one _ (seq_one _ (paren_item _ hr))
  have r2 : Reads True (patF ([40, 32, 40] ++ textN n ++ [41, 10, 41]).length) (32 :: ([40] ++ textN n ++ [41])) n Fp := reads_blank (by decide) r1
  have r3 : Reads True (patF ([40, 32, 40] ++ textN n ++ [41, 10, 41]).length) ((32 :: ([40] ++ textN n ++ [41])) ++ [10]) n Fp := fun r k ts hr ht => by
    have hb := toks_blank (g := [10]) (fun c hc => by rw [List.mem_singleton.1 hc]; decide) r (k + (32 :: ([40] ++ textN n ++ [41])).length)
    obtain ⟨us, g1, g2, g3⟩ := r2 ([10] ++ r) k ts ⟨(nb_blank (by decide)).2 hr.1, nx_cons (c := 10) (by decide)⟩ (by rw [hb]; rw [List.length_append, ← Nat.add_assoc] at ht; exact ht)
    exact ⟨us, by rw [List.append_assoc]; exact g1, g2, g3⟩
  have r4 := pat_one _ (seq_one _ (paren_item _ r3))
  have ee : [40] ++ ((32 :: ([40] ++ textN n ++ [41])) ++ [10]) ++ [41] = [40, 32, 40] ++ textN n ++ [41, 10, 41] := by simp
  rw [ee] at r4
  obtain ⟨us, h1, h2, _⟩ := r4 [] 0 [] ⟨nb_nil _, nx_nil _⟩ (toks_nil _)
  rw [List.append_nil, List.append_nil] at h1
  have h3 := h2 us.length (by simp)
  rw [List.append_nil] at h3
  unfold patternP wholeP toksP
  rw [if_neg (by simp only [List.length_append, List.length_cons, List.length_nil]; omega), h1]
  simp only
  have h4 : patP ([40, 32, 40] ++ textN n ++ [41, 10, 41]).length (us.length + 1) us = .ok (n, []) := h3
  rw [h4]
  rfl
/-- Behind a query's text a semicolon is refused. -/
theorem parse_semicolon {q : Qu} (h : checkB q = true) (ho : OkQ q) (s : List UInt8) : ∃ y, parseP (queryT q ++ 59 :: 32 :: s) = .error y := by
  unfold parseP wholeP
  cases ht : toksP (queryT q ++ 59 :: 32 :: s) with
  | error y => exact ⟨y, rfl⟩
  | ok ts =>
    simp only
    unfold toksP at ht
    split at ht
    · cases ht
    · have hs : toksG (59 :: 32 :: s) (0 + (queryT q).length) = glue (4, [59], 0 + (queryT q).length) (toksG (32 :: s) (0 + (queryT q).length + 1)) := toks_fit (fits_sign (b := 59) (r := 32 :: s) (by decide) (.inl (by decide))) _
      have hb : toksG (32 :: s) (0 + (queryT q).length + 1) = toksG s (0 + (queryT q).length + 1 + 1) := toks_blank (g := [32]) (fun c hc => by rw [List.mem_singleton.1 hc]; decide) s _
      cases hts : toksG s (0 + (queryT q).length + 1 + 1) with
      | error y =>
        exfalso
        have h1 := toks_both _ (queryT q ++ [59]) s 0 (Nat.le_refl _)
        rw [List.append_assoc] at h1
        have h2 : toksG (queryT q ++ 59 :: 32 :: s) 0 = both (toksG (queryT q ++ [59]) 0) (toksG s (0 + (queryT q ++ [59]).length + 1)) := h1
        have hn : 0 + (queryT q ++ [59]).length + 1 = 0 + (queryT q).length + 1 + 1 := by
          rw [List.length_append]
          rfl
        rw [hn, hts, ht] at h2
        cases ha : toksG (queryT q ++ [59]) 0 with
        | error z => rw [ha] at h2; cases h2
        | ok z => rw [ha] at h2; cases h2
      | ok vs =>
        rw [hb, hts] at hs
        obtain ⟨us, h1, h2, _⟩ := reads_query (queryT q ++ 59 :: 32 :: s).length h ho (59 :: 32 :: s) 0 _ (.inr ⟨32 :: s, rfl⟩) hs
        rw [h1] at ht
        cases ht
        have h3 := h2 _ (Nat.le_refl _)
        have h4 : queryP (queryT q ++ 59 :: 32 :: s).length ((us ++ (4, [59], 0 + (queryT q).length) :: vs).length + 1) (us ++ (4, [59], 0 + (queryT q).length) :: vs) = .ok (q, (4, [59], 0 + (queryT q).length) :: vs) := h3
        exact ⟨wrongP (queryT q ++ 59 :: 32 :: s).length ((4, [59], 0 + (queryT q).length) :: vs), by
          show overP _ (queryP _ ((us ++ (4, [59], 0 + (queryT q).length) :: vs).length + 1) _) = _
          rw [h4]
          rfl⟩
end Go.Proofs.YtdjaijhlhhnmeaaGreatDoor.P9
namespace Go.Proofs.YtdjaijhlhhnmeaaGreatDoor.P9
open Go.Proofs.YtdjaijhlhhnmeaaGreatDoor.Tk7 Go.Proofs.YtdjaijhlhhnmeaaGreatDoor.A8

/-! Faults -/
/-- Where a fault may lie. -/
def Flt (e : Nat) (l : List T) (y : F) : Prop := (y.1 = 5 ∧ y.2 = e) ∨ ((y.1 = 2 ∨ y.1 = 3 ∨ y.1 = 9 ∨ y.1 = 12) ∧ ∃ t ∈ l, y.2 = t.2.2)
def Flts {α : Type} (e N : Nat) (p : List T → R α) : Prop := ∀ l y, l.length ≤ N → p l = .error y → Flt e l y
theorem flt_mono {e : Nat} {l l' : List T} {y : F} (h : Flt e l y) (hs : l <:+ l') : Flt e l' y := by
  rcases h with h | ⟨h1, t, ht, h2⟩
  · exact .inl h
  · exact .inr ⟨h1, t, hs.subset ht, h2⟩
theorem wrong_flt (e : Nat) (l : List T) : Flt e l (wrongP e l) := by
  cases l with
  | nil => exact .inl ⟨rfl, rfl⟩
  | cons t l =>
    simp only [wrongP]
    split
    · exact .inr ⟨by simp, t, by simp, rfl⟩
    · exact .inr ⟨by simp, t, by simp, rfl⟩
theorem want_flt {N : Nat} (e : Nat) (x : List UInt8) : Flts e N (wantP e x) := fun l y _ h => by
  unfold wantP at h
  split at h
  · cases h
  · cases h; exact wrong_flt e l
theorem num_flt {N : Nat} (e : Nat) (lo hi : Int) : Flts e N (numP e lo hi) := fun l y _ h => by
  cases l with
  | nil => cases h; exact .inl ⟨rfl, rfl⟩
  | cons t l =>
    simp only [numP] at h
    split at h
    · split at h
      · cases h
      · cases h; exact .inr ⟨by simp, t, by simp, rfl⟩
    · cases h; exact wrong_flt e _
theorem name_flt {N : Nat} (e : Nat) : Flts e N (nameP e) := fun l y _ h => by
  cases l with
  | nil => cases h; exact .inl ⟨rfl, rfl⟩
  | cons t l =>
    simp only [nameP] at h
    split at h
    · cases h
    · cases h; exact wrong_flt e _
theorem letter_flt {N : Nat} (e : Nat) : Flts e N (letterP e) := fun l y _ h => by
  cases l with
  | nil => cases h; exact .inl ⟨rfl, rfl⟩
  | cons t l =>
    simp only [letterP] at h
    split at h
    · cases h
    · cases h; exact wrong_flt e _
theorem one_flt {N : Nat} (tab : List (List UInt8)) (e : Nat) : Flts e N (oneP tab e) := fun l y _ h => by
  cases l with
  | nil => cases h; exact .inl ⟨rfl, rfl⟩
  | cons t l =>
    simp only [oneP] at h
    split at h
    · cases h
    · cases h; exact wrong_flt e _
theorem andThen_fail {α β : Type} {x : R α} {f : α → List T → R β} {y : F} (h : andThen x f = .error y) : x = .error y ∨ ∃ a r, x = .ok (a, r) ∧ f a r = .error y := by
  cases x with
  | error z => cases h; exact .inl rfl
  | ok v => obtain ⟨a, r⟩ := v; exact .inr ⟨a, r, rfl, h⟩
theorem then_flt {N : Nat} {α β : Type} {e : Nat} {p : List T → R α} {f : α → List T → R β} (hE : P9.Ends p) (hp : Flts e N p) (hf : ∀ a, Flts e N (f a)) : Flts e N (fun l => andThen (p l) f) := fun l y hN h => by
  rcases andThen_fail h with h1 | ⟨a, r, h1, h2⟩
  · exact hp l y hN h1
  · exact flt_mono (hf a r y (Nat.le_trans (hE l a r h1).length_le hN) h2) (hE l a r h1)
theorem ret_flt {N : Nat} {α : Type} {e : Nat} (a : α) : Flts e N (fun l => .ok (a, l)) := fun l y _ h => by cases h
theorem tl_flt {N : Nat} {α : Type} {e : Nat} {p : List T → R α} (hp : Flts e N p) : Flts e N (fun l => p l.tail) := fun l y hN h => flt_mono (hp l.tail y (Nat.le_trans (tail_sfx l).length_le hN) h) (tail_sfx l)
theorem if_flt {N : Nat} {α : Type} {e : Nat} {c : List T → Bool} {p q : List T → R α} (hp : Flts e N p) (hq : Flts e N q) : Flts e N (fun l => if c l = true then p l else q l) := fun l y hN h => by
  simp only at h
  split at h
  · exact hp l y hN h
  · exact hq l y hN h
theorem more_flt {N : Nat} {α : Type} {e : Nat} {x : List UInt8} {part : List T → R α} (hE : P9.Ends part) (hp : Flts e N part) : ∀ f, Flts e N (moreP x part f)
  | 0 => fun l y _ h => by cases h
  | f + 1 => if_flt (c := seesP x) (p := fun l => andThen (part l.tail) fun a r => andThen (moreP x part f r) fun zs r => .ok (a :: zs, r)) (q := fun l => .ok ([], l)) (then_flt (tl_ends hE) (tl_flt hp) fun a => then_flt (more_ends hE f) (more_flt hE hp f) fun zs => ret_flt _) (ret_flt _)
theorem list_flt {N : Nat} {α : Type} {e : Nat} {x : List UInt8} {part : List T → R α} (hE : P9.Ends part) (hp : Flts e N part) : Flts e N (listP x part) :=
  then_flt hE hp fun a => fun l y hN h => by
    rcases andThen_fail h with h1 | ⟨zs, r, h1, h2⟩
    · exact more_flt hE hp _ l y hN h1
    · cases h2
theorem cat_flt {N : Nat} (e : Nat) (b : Int) : Flts e N (catP e b) := fun l y hN h => by
  rcases andThen_fail h with h1 | ⟨c, r, h1, h2⟩
  · exact num_flt e 0 63 l y hN h1
  · split at h2
    · cases h2
      cases l with
      | nil => cases h1
      | cons t l => exact .inr ⟨by simp, t, by simp, rfl⟩
    · cases h2
theorem moreC_flt {N : Nat} (e : Nat) : ∀ f b, Flts e N (moreC e f b)
  | 0, _ => fun l y _ h => by cases h
  | f + 1, b => if_flt (c := seesP [44]) (p := fun l => andThen (catP e b l.tail) fun c r => andThen (moreC e f c r) fun cs r => .ok (c :: cs, r)) (q := fun l => .ok ([], l)) (then_flt (tl_ends (cat_ends e b)) (tl_flt (cat_flt e b)) fun c => then_flt (moreC_ends e f c) (moreC_flt e f c) fun cs => ret_flt _) (ret_flt _)
theorem cats_flt {N : Nat} (e : Nat) : Flts e N (catsP e) := then_flt (cat_ends e (-1)) (cat_flt e (-1)) fun c => fun l y hN h => by
  rcases andThen_fail h with h1 | ⟨zs, r, h1, h2⟩
  · exact moreC_flt e _ c l y hN h1
  · cases h2
theorem label_flt {N : Nat} (e : Nat) : Flts e N (labelP e) :=
  then_flt (want_ends e [123]) (want_flt e [123]) fun _ => if_flt (c := seesP [125]) (p := fun r => .ok (0, r.tail)) (q := fun r => andThen (catsP e r) fun cs r => andThen (wantP e [125] r) fun _ r => .ok (Lb.orAll cs, r)) (fun l y _ h => by cases h) (then_flt (cats_ends e) (cats_flt e) fun cs => then_flt (want_ends e [125]) (want_flt e [125]) fun _ => ret_flt _)
theorem cond_flt {N : Nat} (e : Nat) : Flts e N (condP e) := then_flt (one_ends _ e) (one_flt _ e) fun _ => then_flt (num_ends e _ _) (num_flt e _ _) fun _ => ret_flt _
theorem agg_flt {N : Nat} (e : Nat) : Flts e N (aggP e) := then_flt (one_ends _ e) (one_flt _ e) fun _ => then_flt (want_ends e _) (want_flt e _) fun _ => then_flt (name_ends e) (name_flt e) fun _ => then_flt (want_ends e _) (want_flt e _) fun _ => ret_flt _
theorem have_flt {N : Nat} (e : Nat) : Flts e N (haveP e) := then_flt (agg_ends e) (agg_flt e) fun _ => then_flt (cond_ends e) (cond_flt e) fun _ => ret_flt _
theorem bound_flt {N : Nat} (e : Nat) : Flts e N (boundP e) := if_flt (c := seesP [64]) (p := fun l => andThen (labelP e l.tail) fun b r => .ok ((true, b), r)) (q := fun l => .ok ((false, 0), l)) (then_flt (tl_ends (label_ends e)) (tl_flt (label_flt e)) fun _ => ret_flt _) (ret_flt _)
theorem conds_flt {N : Nat} (e : Nat) : Flts e N (condsP e) := if_flt (c := seesP [91]) (p := fun l => andThen (listP [44] (condP e) l.tail) fun cs r => andThen (wantP e [93] r) fun _ r => .ok (cs, r)) (q := fun l => .ok ([], l)) (then_flt (tl_ends (list_ends (cond_ends e))) (tl_flt (list_flt (cond_ends e) (cond_flt e))) fun _ => then_flt (want_ends e _) (want_flt e _) fun _ => ret_flt _) (ret_flt _)
theorem nm_flt {N : Nat} (e : Nat) : Flts e N (nmP e) := if_flt (c := seesP [58]) (p := fun l => nameP e l.tail) (q := fun l => .ok ([], l)) (tl_flt (name_flt e)) (ret_flt _)
theorem atom_flt {N : Nat} (e : Nat) : Flts e N (atomP e) := then_flt (letter_ends e) (letter_flt e) fun _ => then_flt (bound_ends e) (bound_flt e) fun _ => then_flt (conds_ends e) (conds_flt e) fun _ => then_flt (nm_ends e) (nm_flt e) fun _ => ret_flt _
theorem times_flt {N : Nat} (e : Nat) : Flts e N (timesP e) := if_flt (c := seesP [123]) (p := fun l => andThen (numP e 0 99 l.tail) fun a r => andThen (wantP e [44] r) fun _ r => andThen (numP e 0 99 r) fun b r => andThen (wantP e [125] r) fun _ r => .ok ((a, b), r)) (q := fun l => .ok ((1, 1), l)) (then_flt (tl_ends (num_ends e 0 99)) (tl_flt (num_flt e 0 99)) fun _ => then_flt (want_ends e _) (want_flt e _) fun _ => then_flt (num_ends e 0 99) (num_flt e 0 99) fun _ => then_flt (want_ends e _) (want_flt e _) fun _ => ret_flt _) (ret_flt _)
theorem unit_flt {N : Nat} (e : Nat) {pat : List T → R Nd} (hp : ∀ l y, l.length < N → pat l = .error y → Flt e l y) (hE : P9.Ends pat) : Flts e N (unitP e pat) := fun l y hN h => by
  unfold unitP at h
  split at h
  · rename_i hs
    have hl : l.tail.length < N := by
      cases l with
      | nil => cases hs
      | cons t r => simp at hN ⊢; omega
    rcases andThen_fail h with h1 | ⟨n, r, h1, h2⟩
    · exact flt_mono (hp l.tail y hl h1) (tail_sfx l)
    · have h3 : Flts e N (fun r => andThen (wantP e [41] r) fun _ r => (.ok (n, r) : R Nd)) := then_flt (want_ends e _) (want_flt e _) fun _ => ret_flt _
      have hr := (hE l.tail n r h1).trans (tail_sfx l)
      exact flt_mono (h3 r y (Nat.le_trans hr.length_le hN) h2) hr
  · have h3 : Flts e N (fun l => andThen (atomP e l) fun a r => andThen (timesP e r) fun m r => (.ok (Nd.mk 1 m.1 m.2 a [], r) : R Nd)) := then_flt (atom_ends e) (atom_flt e) fun _ => then_flt (times_ends e) (times_flt e) fun _ => ret_flt _
    exact h3 l y hN h
theorem item_flt {N : Nat} (e : Nat) {pat : List T → R Nd} (hp : ∀ l y, l.length < N → pat l = .error y → Flt e l y) (hE : P9.Ends pat) : Flts e N (itemP e pat) := if_flt (c := seesP [110, 111, 116]) (p := fun l => andThen (atomP e l.tail) fun a r => .ok (Nd.mk 2 0 0 a [], r)) (q := unitP e pat) (then_flt (tl_ends (atom_ends e)) (tl_flt (atom_flt e)) fun _ => ret_flt _) (unit_flt e hp hE)
theorem seq_flt {N : Nat} (e : Nat) {pat : List T → R Nd} (hp : ∀ l y, l.length < N → pat l = .error y → Flt e l y) (hE : P9.Ends pat) : Flts e N (seqP e pat) := then_flt (list_ends (item_ends e hE)) (list_flt (item_ends e hE) (item_flt e hp hE)) fun _ => ret_flt _
theorem alt_flt {N : Nat} (e : Nat) {pat : List T → R Nd} (hp : ∀ l y, l.length < N → pat l = .error y → Flt e l y) (hE : P9.Ends pat) : Flts e N (altP e pat) := then_flt (list_ends (seq_ends e hE)) (list_flt (seq_ends e hE) (seq_flt e hp hE)) fun _ => ret_flt _
theorem pat_flt (e : Nat) : ∀ f l y, l.length < f → patP e f l = .error y → Flt e l y
  | 0, _, _, hl, _ => absurd hl (Nat.not_lt_zero _)
  | f + 1, l, y, hl, h => alt_flt (N := f) e (fun l' y' hl' h' => pat_flt e f l' y' hl' h') (pat_ends e f) l y (by omega) h
theorem query_flt (e f : Nat) (l : List T) (y : F) (hl : l.length < f) (h : queryP e f l = .error y) : Flt e l y := by
  rcases andThen_fail h with h1 | ⟨n, r, h1, h2⟩
  · exact pat_flt e f l y hl h1
  · have h3 : Flts e r.length (fun r => andThen (wantP e withinA r) fun _ r => andThen (numP e 0 99999 r) fun w r => andThen (havesP e r) fun hs r => andThen (emitsP e r) fun zs r => (.ok (⟨n, w, hs, zs⟩, r) : R Qu)) :=
      then_flt (want_ends e _) (want_flt e _) fun _ => then_flt (num_ends e _ _) (num_flt e _ _) fun _ => then_flt (haves_ends e) (if_flt (c := seesP havingA) (p := fun l => listP andA (haveP e) l.tail) (q := fun l => .ok ([], l)) (tl_flt (list_flt (have_ends e) (have_flt e))) (ret_flt _)) fun _ => then_flt (emits_ends e) (if_flt (c := seesP emitA) (p := fun l => listP [44] (aggP e) l.tail) (q := fun l => .ok ([], l)) (tl_flt (list_flt (agg_ends e) (agg_flt e))) (ret_flt _)) fun _ => ret_flt _
    exact flt_mono (h3 r y (Nat.le_refl _) h2) (pat_ends e f l n r h1)
/-- A fault is none of no error, and lies in the text; one of the end lies at the end. -/
theorem fault_in {t : List UInt8} {y : F} (h : parseP t = .error y) : y.1 ≠ 0 ∧ y.2 ≤ t.length ∧ (y.1 = 5 → y.2 = t.length) := by
  unfold parseP wholeP at h
  cases ht : toksP t with
  | error z =>
    rw [ht] at h
    cases h
    unfold toksP at ht
    split at ht
    · cases ht
      rename_i hl
      exact ⟨by decide, by simp only; omega, fun h => absurd h (by decide)⟩
    · have h3 := fault_of t.length t 0 y (Nat.le_refl _) ht
      exact ⟨by omega, by omega, fun h => by omega⟩
  | ok ts =>
    rw [ht] at h
    simp only at h
    have hat : ∀ x ∈ ts, x.2.2 ≤ t.length := by
      unfold toksP at ht
      split at ht
      · cases ht
      · intro x hx
        have := laid_at ts t 0 (laid_of t.length t 0 ts (Nat.le_refl _) ht) x hx
        omega
    have hf : Flt t.length ts y := by
      cases hq : queryP t.length (ts.length + 1) ts with
      | error z =>
        rw [hq] at h
        cases h
        exact query_flt _ _ ts y (Nat.lt_succ_self _) hq
      | ok ar =>
        obtain ⟨q, r⟩ := ar
        rw [hq] at h
        cases r with
        | nil => cases h
        | cons x r =>
          cases h
          exact flt_mono (wrong_flt _ (x :: r)) (query_ends _ _ ts q _ hq)
    rcases hf with ⟨h1, h2⟩ | ⟨h1, x, hx, h2⟩
    · exact ⟨by omega, by omega, fun _ => h2⟩
    · exact ⟨by omega, by have := hat x hx; omega, fun h => by omega⟩
end Go.Proofs.YtdjaijhlhhnmeaaGreatDoor.P9
namespace Go.Proofs.YtdjaijhlhhnmeaaGreatDoor.P9
open Go.Proofs.YtdjaijhlhhnmeaaGreatDoor.Tk7 Go.Proofs.YtdjaijhlhhnmeaaGreatDoor.A8

def TsOk (l : List T) : Prop := ∀ t ∈ l, isTok t.1 t.2.1 = true
theorem TsOk.sfx {l r : List T} (h : TsOk l) (hs : r <:+ l) : TsOk r := fun t ht => h t (hs.subset ht)
theorem TsOk.tail {l : List T} (h : TsOk l) : TsOk l.tail := h.sfx (tail_sfx l)
theorem sees_len {x : List UInt8} {l : List T} (h : seesP x l = true) : l.tail.length + 1 = l.length := by
  cases l with
  | nil => cases h
  | cons t l => rfl
theorem want_len {e : Nat} {x : List UInt8} {l : List T} {u : Unit} {r : List T} (h : wantP e x l = .ok (u, r)) : r.length + 1 = l.length := by
  unfold wantP at h
  split at h
  · rename_i hs
    cases h
    exact sees_len hs
  · cases h
theorem num_okV {e : Nat} {lo hi : Int} {l : List T} {v : Int} {r : List T} (h : numP e lo hi l = .ok (v, r)) : okV v ∧ (lo ≤ v ∧ v ≤ hi) ∧ r.length + 1 = l.length := by
  cases l with
  | nil => cases h
  | cons t l =>
    simp only [numP] at h
    split at h
    · split at h
      · rename_i hx
        cases h
        exact ⟨Sm.okI_iff.1 hx.1, hx.2, rfl⟩
      · cases h
    · cases h
theorem name_okN {e : Nat} {l : List T} {s : List UInt8} {r : List T} (h : nameP e l = .ok (s, r)) : nameB s = true ∧ r.length + 1 = l.length := by
  cases l with
  | nil => cases h
  | cons t l =>
    simp only [nameP] at h
    split at h
    · rename_i hn
      cases h
      exact ⟨hn, rfl⟩
    · cases h
theorem one_ok {tab : List (List UInt8)} {e : Nat} {l : List T} {v : Int} {r : List T} (h : oneP tab e l = .ok (v, r)) : (1 ≤ v ∧ v < (tab.length : Int)) ∧ r.length + 1 = l.length := by
  cases l with
  | nil => cases h
  | cons t l =>
    simp only [oneP] at h
    split at h
    · rename_i hx
      cases h
      exact ⟨by omega, rfl⟩
    · cases h
/-! How long texts are. -/
theorem decK (k : Nat) : ∀ u, u < 10 ^ (k + 1) → (Lib.decDigits u).length ≤ k + 1 := by
  induction k with
  | zero => intro u h; rw [Lib.decDigits_one (by omega)]; simp
  | succ k ih =>
    intro u h
    by_cases h1 : u < 10
    · rw [Lib.decDigits_one h1]; simp
    · rw [Lib.decDigits, dif_neg h1, List.length_append]
      have h2 : 10 ^ (k + 1 + 1) = 10 ^ (k + 1) * 10 := Nat.pow_succ _ _
      have := ih (u / 10) (by omega)
      simp only [List.length_cons, List.length_nil]
      omega
theorem itoaK {v : Int} (h : okV v) : (Lib.itoa v).length ≤ 21 := by
  by_cases h0 : 0 ≤ v
  · rw [Sm.itoa_pos h0]
    have := decK 19 v.toNat (by have := h.2; omega)
    omega
  · rw [Sm.itoa_neg (by omega)]
    have := decK 19 v.natAbs (by have := h.1; omega)
    simp only [List.length_cons]
    omega
theorem sepK (sep : List UInt8) (K : Nat) : ∀ l : List (List UInt8), (∀ x ∈ l, x.length ≤ K) → (sepL sep l).length ≤ (K + sep.length) * l.length
  | [], _ => Nat.zero_le _
  | [x], h => by
    have := h x (by simp)
    show x.length ≤ _
    simp
    omega
  | x :: z :: l, h => by
    have h1 := h x (by simp)
    have h2 := sepK sep K (z :: l) (fun y hy => h y (List.mem_cons_of_mem _ hy))
    rw [sepL, List.length_append, List.length_append]
    rw [List.length_cons (a := x), Nat.mul_succ]
    omega
theorem labelK (x : Int) : (labelT x).length ≤ 194 := by
  unfold labelT
  rw [joinSep, List.length_append, List.length_append]
  have hc : ∀ k ∈ Lb.cats x.toNat, k < 64 := fun k hk => by simpa using (List.mem_filter.1 hk).1
  have h1 := sepK [44] 2 ((Lb.cats x.toNat).map Lib.decDigits) (fun y hy => by
    obtain ⟨u, hu, rfl⟩ := List.mem_map.1 hy
    exact decK 1 u (by have := hc u hu; omega))
  have h2 : (Lb.cats x.toNat).length ≤ 64 := by
    have := List.length_filter_le (x.toNat.testBit) (List.range 64)
    rw [List.length_range] at this
    exact this
  rw [List.length_map] at h1
  have h3 : (2 + [44].length) * (Lb.cats x.toNat).length ≤ 3 * 64 := Nat.mul_le_mul_left 3 h2
  simp only [List.length_cons, List.length_nil] at h1 h3 ⊢
  omega
theorem opsK (v : Int) : (opsA.getD v.toNat []).length ≤ 2 ∧ (funsA.getD v.toNat []).length ≤ 5 := by
  by_cases h : v.toNat < 7
  · have : ∀ i : Fin 7, (opsA.getD i.val []).length ≤ 2 ∧ (funsA.getD i.val []).length ≤ 5 := by decide +kernel
    exact this ⟨v.toNat, h⟩
  · unfold List.getD
    rw [List.getElem?_eq_none (by show 7 ≤ v.toNat; omega), List.getElem?_eq_none (by show 7 ≤ v.toNat; omega)]
    exact ⟨Nat.zero_le _, Nat.zero_le _⟩
theorem cond_ok {e : Nat} {l : List T} {c : Cn} {r : List T} (h : condP e l = .ok (c, r)) : condB c = true ∧ okC c ∧ r.length + 2 = l.length ∧ (condT c).length ≤ 23 := by
  obtain ⟨o, r1, h1, h2⟩ := andThen_some h
  obtain ⟨v, r2, h3, h4⟩ := andThen_some h2
  cases h4
  obtain ⟨a1, a2⟩ := one_ok h1
  obtain ⟨b1, b2, b3⟩ := num_okV h3
  have ho : (opsA.length : Int) = 7 := rfl
  refine ⟨?_, ⟨by unfold okV; simp only; omega, b1⟩, by omega, ?_⟩
  · unfold condB
    simp only [Bool.and_eq_true, decide_eq_true_eq]
    omega
  · unfold condT
    rw [List.length_append]
    have := (opsK o).1
    have := itoaK b1
    simp only
    omega
theorem agg_ok {e : Nat} {l : List T} {a : Ag} {r : List T} (h : aggP e l = .ok (a, r)) : aggB a = true ∧ okV a.fn ∧ r.length + 4 = l.length ∧ (aggT a).length ≤ 15 := by
  obtain ⟨f, r1, h1, h2⟩ := andThen_some h
  obtain ⟨u, r2, h3, h4⟩ := andThen_some h2
  obtain ⟨n, r3, h5, h6⟩ := andThen_some h4
  obtain ⟨u2, r4, h7, h8⟩ := andThen_some h6
  cases h8
  obtain ⟨a1, a2⟩ := one_ok h1
  have b1 := want_len h3
  obtain ⟨c1, c2⟩ := name_okN h5
  have d1 := want_len h7
  have ho : (funsA.length : Int) = 7 := rfl
  refine ⟨?_, by unfold okV; simp only; omega, by omega, ?_⟩
  · unfold aggB
    simp only [Bool.and_eq_true, decide_eq_true_eq]
    exact ⟨by omega, c1⟩
  · unfold aggT
    have := (opsK f).2
    have := (name_facts c1).2.2.2
    simp only [List.length_append, List.length_cons, List.length_nil]
    omega
theorem have_ok {e : Nat} {l : List T} {h' : Hv} {r : List T} (h : haveP e l = .ok (h', r)) : haveB h' = true ∧ (okC h'.cn ∧ okV h'.ag.fn) ∧ r.length + 6 = l.length ∧ (haveT h').length ≤ 39 := by
  obtain ⟨a, r1, h1, h2⟩ := andThen_some h
  obtain ⟨c, r2, h3, h4⟩ := andThen_some h2
  cases h4
  obtain ⟨a1, a2, a3, a4⟩ := agg_ok h1
  obtain ⟨b1, b2, b3, b4⟩ := cond_ok h3
  refine ⟨?_, ⟨b2, a2⟩, by omega, ?_⟩
  · unfold haveB
    rw [a1, b1]
    rfl
  · unfold haveT
    simp only [List.length_append, List.length_cons, List.length_nil]
    omega
/-- A list of parts: each of them is right; how many there are. -/
theorem more_ok {α : Type} {x : List UInt8} {p : List T → R α} {Q : α → Prop} {k : Nat} (hp : ∀ l a r, TsOk l → p l = .ok (a, r) → Q a ∧ r.length + k ≤ l.length) (hE : P9.Ends p) : ∀ (f : Nat) (l : List T) (zs : List α) (r : List T), TsOk l → moreP x p f l = .ok (zs, r) → (∀ z ∈ zs, Q z) ∧ r.length + (k + 1) * zs.length ≤ l.length
  | 0, l, zs, r, _, h => by cases h; exact ⟨(fun z hz => by cases hz), by simp⟩
  | f + 1, l, zs, r, hl, h => by
    unfold moreP at h
    split at h
    · rename_i hs
      obtain ⟨a, r1, h1, h2⟩ := andThen_some h
      obtain ⟨as', r2, h3, h4⟩ := andThen_some h2
      cases h4
      obtain ⟨a1, a2⟩ := hp _ a r1 hl.tail h1
      obtain ⟨b1, b2⟩ := more_ok hp hE f r1 as' r (hl.sfx ((hE _ a r1 h1).trans (tail_sfx l))) h3
      have := sees_len hs
      refine ⟨fun z hz => ?_, ?_⟩
      · rcases List.mem_cons.1 hz with rfl | hz
        · exact a1
        · exact b1 z hz
      · rw [List.length_cons, Nat.mul_succ]
        omega
    · cases h
      exact ⟨(fun z hz => by cases hz), by simp⟩
theorem list_ok {α : Type} {x : List UInt8} {p : List T → R α} {Q : α → Prop} {k : Nat} (hp : ∀ l a r, TsOk l → p l = .ok (a, r) → Q a ∧ r.length + k ≤ l.length) (hE : P9.Ends p) {l : List T} {zs : List α} {r : List T} (hl : TsOk l) (h : listP x p l = .ok (zs, r)) : (∀ z ∈ zs, Q z) ∧ r.length + (k + 1) * zs.length ≤ l.length + 1 := by
  obtain ⟨a, r1, h1, h2⟩ := andThen_some h
  obtain ⟨as', r2, h3, h4⟩ := andThen_some h2
  cases h4
  obtain ⟨a1, a2⟩ := hp _ a r1 hl h1
  obtain ⟨b1, b2⟩ := more_ok hp hE _ r1 as' r (hl.sfx (hE _ a r1 h1)) h3
  refine ⟨fun z hz => ?_, ?_⟩
  · rcases List.mem_cons.1 hz with rfl | hz
    · exact a1
    · exact b1 z hz
  · rw [List.length_cons, Nat.mul_succ]
    omega
theorem moreC_rng {e : Nat} : ∀ (m : Nat) (c : Int) (l : List T) (cs : List Int) (r : List T), moreC e m c l = .ok (cs, r) → ∀ c ∈ cs, 0 ≤ c ∧ c ≤ 63
  | 0, _, _, cs, r, h => by cases h; intro c hc; cases hc
  | m + 1, c, l, cs, r, h => by
    unfold moreC at h
    split at h
    · obtain ⟨a, r1, h1, h2⟩ := andThen_some h
      obtain ⟨zs, r2, h3, h4⟩ := andThen_some h2
      cases h4
      intro x hx
      rcases List.mem_cons.1 hx with rfl | hx
      · obtain ⟨c', r', g1, g2⟩ := andThen_some h1
        split at g2
        · cases g2
        · cases g2; exact (num_okV g1).2.1
      · exact moreC_rng m a r1 zs r h3 x hx
    · cases h
      intro c hc
      cases hc
theorem label_ok {e : Nat} {l : List T} {x : Int} {r : List T} (h : labelP e l = .ok (x, r)) : (0 ≤ x ∧ x < 18446744073709551616) ∧ r.length + 2 ≤ l.length := by
  obtain ⟨u, r1, h1, h2⟩ := andThen_some h
  have h3 := want_len h1
  split at h2
  · rename_i hs
    cases h2
    have := sees_len hs
    exact ⟨by decide, by omega⟩
  · obtain ⟨cs, r2, h4, h5⟩ := andThen_some h2
    obtain ⟨u2, r3, h6, h7⟩ := andThen_some h5
    cases h7
    have h8 := want_len h6
    have h9 := (cats_ends e r1 cs r2 h4).length_le
    refine ⟨?_, by omega⟩
    have hr : ∀ c ∈ cs, 0 ≤ c ∧ c ≤ 63 := by
      obtain ⟨a, r4, g1, g2⟩ := andThen_some h4
      obtain ⟨zs, r5, g3, g4⟩ := andThen_some g2
      cases g4
      intro x hx
      rcases List.mem_cons.1 hx with rfl | hx
      · obtain ⟨c', r', k1, k2⟩ := andThen_some g1
        split at k2
        · cases k2
        · cases k2; exact (num_okV k1).2.1
      · exact moreC_rng _ a r4 zs _ g3 x hx
    have e1 : cs = (cs.map Int.toNat).map fun (k : Nat) => (k : Int) := by
      rw [List.map_map]
      conv => lhs; rw [← List.map_id cs]
      refine List.map_congr_left fun c hc => ?_
      have := hr c hc
      simp
      omega
    have h10 := orAll_nat (cs.map Int.toNat) (fun k hk => by
      obtain ⟨c, hc, rfl⟩ := List.mem_map.1 hk
      have := hr c hc
      omega) 0 (by decide)
    rw [← e1] at h10
    have h11 : Lb.orAll cs = (((cs.map Int.toNat).foldl (fun a k => a ||| 2 ^ k) 0 : Nat) : Int) := h10.1
    rw [h11]
    omega
theorem atom_ok {e : Nat} {l : List T} {a : At} {r : List T} (hl : TsOk l) (h : atomP e l = .ok (a, r)) : atomB a = true ∧ OkB a ∧ r.length + 1 ≤ l.length ∧ (atomT a).length + 100 + 200 * r.length ≤ 200 * l.length ∧ a.nm.length ≤ 8 := by
  obtain ⟨k, r1, h1, h2⟩ := andThen_some h
  obtain ⟨bd, r2, h3, h4⟩ := andThen_some h2
  obtain ⟨cs, r3, h5, h6⟩ := andThen_some h4
  obtain ⟨nm, r4, h7, h8⟩ := andThen_some h6
  cases h8
  -- the letter
  have hk : (0 ≤ k ∧ k ≤ 25) ∧ r1.length + 1 = l.length := by
    cases l with
    | nil => cases h1
    | cons t l =>
      simp only [letterP] at h1
      split at h1
      · rename_i hk2
        cases h1
        have h9 := hl t (by simp)
        rw [hk2] at h9
        obtain ⟨c, h10, h11⟩ := tok_letter h9
        rw [h10]
        unfold largeB at h11
        simp only [Bool.and_eq_true, decide_eq_true_eq] at h11
        simp only [List.headD_cons]
        exact ⟨by omega, rfl⟩
      · cases h1
  have hb : (bd.1 = true ∨ bd.2 = 0) ∧ (0 ≤ bd.2 ∧ bd.2 < 18446744073709551616) ∧ (if bd.1 = true then 64 :: labelT bd.2 else []).length + 200 * r2.length ≤ 200 * r1.length := by
    unfold boundP at h3
    split at h3
    · rename_i hs
      obtain ⟨x, r5, g1, g2⟩ := andThen_some h3
      cases g2
      obtain ⟨k1, k2⟩ := label_ok g1
      have := sees_len hs
      have := labelK x
      refine ⟨.inl rfl, k1, ?_⟩
      simp only [if_true, List.length_cons]
      omega
    · cases h3
      exact ⟨.inr rfl, by decide, by simp⟩
  have hr1 : TsOk r1 := hl.sfx (letter_ends e l k r1 h1)
  have hr2 : TsOk r2 := hr1.sfx (bound_ends e r1 bd r2 h3)
  have hc : (∀ c ∈ cs, condB c = true ∧ okC c) ∧ (listT [91] (cs.map condT) [44] [93]).length + 200 * r3.length ≤ 200 * r2.length := by
    unfold condsP at h5
    split at h5
    · rename_i hs
      obtain ⟨zs, r5, g1, g2⟩ := andThen_some h5
      obtain ⟨u, r6, g3, g4⟩ := andThen_some g2
      cases g4
      obtain ⟨k1, k2⟩ := list_ok (Q := fun c => (condB c = true ∧ okC c) ∧ (condT c).length ≤ 23) (k := 2) (fun l c r _ h => by
        obtain ⟨m1, m2, m3, m4⟩ := cond_ok h
        exact ⟨⟨⟨m1, m2⟩, m4⟩, by omega⟩) (cond_ends e) hr2.tail g1
      refine ⟨fun c hc => (k1 c hc).1, ?_⟩
      have k3 := want_len g3
      have k4 := sees_len hs
      have k5 := sepK [44] 23 (cs.map condT) (fun x hx => by
        obtain ⟨c, hc, rfl⟩ := List.mem_map.1 hx
        exact (k1 c hc).2)
      rw [List.length_map] at k5
      unfold listT
      split
      · simp; omega
      · simp only [List.length_append, List.length_cons, List.length_nil] at k5 ⊢
        omega
    · cases h5
      exact ⟨(fun c hc => by cases hc), by simp [listT]⟩
  have hn : (nm.isEmpty = true ∨ nameB nm = true) ∧ nm.length ≤ 8 ∧ (if nm.isEmpty = true then [] else 58 :: nm).length + 200 * r.length ≤ 200 * r3.length := by
    unfold nmP at h7
    split at h7
    · rename_i hs
      obtain ⟨k1, k2⟩ := name_okN h7
      have k3 := (name_facts k1).2.2.2
      have k4 := sees_len hs
      refine ⟨.inr k1, k3, ?_⟩
      split
      · simp; omega
      · simp only [List.length_cons]; omega
    · cases h7
      exact ⟨.inl rfl, by simp, by simp⟩
  refine ⟨?_, ⟨hb.2.1, fun c hc' => (hc.1 c hc').2⟩, ?_, ?_, hn.2.1⟩
  · unfold atomB
    simp only [Bool.and_eq_true, Bool.or_eq_true, decide_eq_true_eq, List.all_eq_true]
    exact ⟨⟨⟨hk.1, hb.1⟩, fun c hc' => (hc.1 c hc').1⟩, hn.1⟩
  · have e1 := (bound_ends e r1 bd r2 h3).length_le
    have e2 := (conds_ends e r2 cs r3 h5).length_le
    have e3 := (nm_ends e r3 nm r h7).length_le
    omega
  · unfold atomT
    simp only [List.length_append, List.length_cons, List.length_nil] at hb hc hn ⊢
    omega
theorem times_ok {e : Nat} {l : List T} {m : Int × Int} {r : List T} (h : timesP e l = .ok (m, r)) : ((0 ≤ m.1 ∧ m.1 ≤ 99) ∧ 0 ≤ m.2 ∧ m.2 ≤ 99) ∧ (timesT m.1 m.2).length + 200 * r.length ≤ 200 * l.length ∧ r.length ≤ l.length := by
  unfold timesP at h
  split at h
  · rename_i hs
    obtain ⟨a, r1, h1, h2⟩ := andThen_some h
    obtain ⟨u, r2, h3, h4⟩ := andThen_some h2
    obtain ⟨b, r3, h5, h6⟩ := andThen_some h4
    obtain ⟨u2, r4, h7, h8⟩ := andThen_some h6
    cases h8
    obtain ⟨a1, a2, a3⟩ := num_okV h1
    have b1 := want_len h3
    obtain ⟨c1, c2, c3⟩ := num_okV h5
    have d1 := want_len h7
    have := sees_len hs
    refine ⟨⟨a2, c2⟩, ?_, by omega⟩
    have e1 := itoaK a1
    have e2 := itoaK c1
    unfold timesT
    split
    · simp; omega
    · simp only [List.length_append, List.length_cons, List.length_nil]; omega
  · cases h
    refine ⟨by decide, ?_, Nat.le_refl _⟩
    unfold timesT
    simp
end Go.Proofs.YtdjaijhlhhnmeaaGreatDoor.P9
namespace Go.Proofs.YtdjaijhlhhnmeaaGreatDoor.P9
open Go.Proofs.YtdjaijhlhhnmeaaGreatDoor.Tk7 Go.Proofs.YtdjaijhlhhnmeaaGreatDoor.A8

def lensT : List Nd → Nat
  | [] => 0
  | n :: ns => (textN n).length + lensT ns
/-- A node that is read between these tokens: it is sound as deep as it is; how large it is. -/
structure Nok (l r : List T) (n : Nd) : Prop where
  s : ∀ d, d + depthN n ≤ 201 → soundN d n = true
  d : 2 * depthN n + r.length ≤ l.length + 1
  c : nodesN n + 1 + 2 * r.length ≤ 2 * l.length
  t : (textN n).length + 10 + 200 * r.length ≤ 200 * l.length
  o : OkT9 n
/-- .. nodes, each with something before it. -/
structure Mok (l r : List T) (ns : List Nd) : Prop where
  s : ∀ n ∈ ns, ∀ d, d + depthN n ≤ 201 → soundN d n = true
  d : 2 * depthL ns + r.length ≤ l.length
  c : nodesL ns + 3 * ns.length + 2 * r.length ≤ 2 * l.length
  t : lensT ns + 210 * ns.length + 200 * r.length ≤ 200 * l.length
  o : ∀ n ∈ ns, OkT9 n
theorem Nok.mono {l r l' r' : List T} {n : Nd} (h : Nok l r n) (h1 : l.length ≤ l'.length) (h2 : r'.length ≤ r.length) : Nok l' r' n :=
  ⟨h.s, by have := h.d; omega, by have := h.c; omega, by have := h.t; omega, h.o⟩
theorem depth_pos (n : Nd) : 1 ≤ depthN n := by
  obtain ⟨k, mn, mx, a, ks⟩ := n
  rw [depthN]
  omega
theorem nodes_pos (n : Nd) : 1 ≤ nodesN n := by
  obtain ⟨k, mn, mx, a, ks⟩ := n
  rw [nodesN]
  omega
theorem depthL_mem {ns : List Nd} {n : Nd} (h : n ∈ ns) : depthN n ≤ depthL ns := by
  induction ns with
  | nil => cases h
  | cons m ms ih =>
    rw [depthL]
    rcases List.mem_cons.1 h with rfl | h
    · exact Nat.le_max_left _ _
    · exact Nat.le_trans (ih h) (Nat.le_max_right _ _)
theorem mokNil (l : List T) : Mok l l [] := ⟨(fun n hn => by cases hn), by simp [depthL], by simp [nodesL], by simp [lensT], (fun n hn => by cases hn)⟩
theorem mokCons {l l1 r1 r : List T} {n : Nd} {ns : List Nd} (hl : l1.length + 1 = l.length) (h : Nok l1 r1 n) (h2 : Mok r1 r ns) : Mok l r (n :: ns) where
  s := fun m hm => by
    rcases List.mem_cons.1 hm with rfl | hm
    · exact h.s
    · exact h2.s m hm
  d := by
    have a1 := h.d
    have a2 := h2.d
    have a3 := h.c
    have a4 := nodes_pos n
    rw [depthL]
    omega
  c := by
    have a1 := h.c
    have a2 := h2.c
    rw [nodesL, List.length_cons]
    omega
  t := by
    have a1 := h.t
    have a2 := h2.t
    rw [lensT, List.length_cons]
    omega
  o := fun m hm => by
    rcases List.mem_cons.1 hm with rfl | hm
    · exact h.o
    · exact h2.o m hm
theorem sepS (sep : List UInt8) : ∀ l : List (List UInt8), (sepL sep l).length ≤ (l.map List.length).sum + sep.length * l.length
  | [] => by simp [sepL]
  | [x] => by simp [sepL]
  | x :: y :: r => by
    have := sepS sep (y :: r)
    rw [sepL]
    simp only [List.length_append, List.map_cons, List.sum_cons, List.length_cons, Nat.mul_succ] at this ⊢
    omega
theorem textL_sum (k : Int) : ∀ ns : List Nd, ((textL k ns).map List.length).sum ≤ lensT ns + 2 * ns.length ∧ (textL k ns).length = ns.length
  | [] => by simp [textL, lensT]
  | n :: ns => by
    obtain ⟨h1, h2⟩ := textL_sum k ns
    rw [textL, lensT]
    simp only [List.map_cons, List.sum_cons, List.length_cons]
    have : (wrapT k n.kind (textN n)).length ≤ (textN n).length + 2 := by
      unfold wrapT
      split
      · simp only [List.length_append, List.length_cons, List.length_nil]
        omega
      · omega
    exact ⟨by omega, by omega⟩
theorem okB_no : OkB noA := by
  refine ⟨by decide, fun c hc => ?_⟩
  cases hc
/-- A node of nodes. -/
theorem joinOk {l r1 r : List T} {k : Int} (hk : k = 3 ∨ k = 4) {n : Nd} {ns : List Nd} (h : Nok l r1 n) (h2 : Mok r1 r ns) (hs : r.length ≤ r1.length) : Nok l r (joinP k (n :: ns)) := by
  cases ns with
  | nil => exact h.mono (Nat.le_refl _) hs
  | cons m ms =>
    obtain ⟨zs, hz⟩ : ∃ zs, zs = m :: ms := ⟨_, rfl⟩
    have hj : joinP k (n :: m :: ms) = .mk k 0 0 noA (n :: zs) := by rw [hz]; rfl
    rw [hj]
    have hz1 : 1 ≤ zs.length := by rw [hz]; simp
    have hz2 : 1 ≤ nodesL zs := by
      rw [hz, nodesL]
      have := nodes_pos m
      omega
    rw [← hz] at h2
    clear hz hj
    have a1 := h.d
    have a2 := h2.d
    have a3 := h.c
    have a4 := h2.c
    have a5 := nodes_pos n
    have a6 := h.t
    have a7 := h2.t
    have hs : ∀ x ∈ n :: zs, ∀ d, d + depthN x ≤ 201 → soundN d x = true := fun x hx => by
      rcases List.mem_cons.1 hx with rfl | hx
      · exact h.s
      · exact h2.s x hx
    refine ⟨fun d hd => ?_, ?_, ?_, ?_, ?_⟩
    · rw [depthN] at hd
      rw [soundN, soundL_all]
      have e1 : decide (d ≤ 200) = true := by
        rw [decide_eq_true_eq]
        have := depthL_mem (List.mem_cons_self (a := n) (l := zs))
        have := depth_pos n
        omega
      have e2 : nodeB k 0 0 noA (n :: zs).length = true := by
        unfold nodeB
        rw [if_neg (by omega), if_neg (by omega), if_pos hk]
        have : decide (2 ≤ (n :: zs).length) = true := by rw [decide_eq_true_eq, List.length_cons]; omega
        rw [this]
        rfl
      have e3 : (n :: zs).all (soundN (d + 1)) = true := by
        rw [List.all_eq_true]
        intro x hx
        exact hs x hx (d + 1) (by have := depthL_mem hx; omega)
      rw [e1, e2, e3]
      rfl
    · rw [depthN, depthL]
      omega
    · rw [nodesN, nodesL]
      omega
    · have t1 : (textN (.mk k 0 0 noA (n :: zs))).length ≤ lensT (n :: zs) + 5 * (n :: zs).length := by
        obtain ⟨b1, b2⟩ := textL_sum k (n :: zs)
        rw [textN]
        rw [if_neg (by omega), if_neg (by omega)]
        split
        · have := sepS [32, 59, 32] (textL k (n :: zs))
          simp only [List.length_cons, List.length_nil] at this b1 b2 ⊢
          omega
        · rw [if_pos (by omega)]
          have := sepS [32, 124, 32] (textL k (n :: zs))
          simp only [List.length_cons, List.length_nil] at this b1 b2 ⊢
          omega
      rw [lensT, List.length_cons] at t1
      omega
    · intro t ht
      rw [subsN, subsL_flat] at ht
      rcases List.mem_cons.1 ht with rfl | ht
      · exact okB_no
      · obtain ⟨x, hx, ht2⟩ := List.mem_flatMap.1 ht
        rcases List.mem_cons.1 hx with rfl | hx
        · exact h.o t ht2
        · exact h2.o x hx t ht2
def Rds (p : List T → R Nd) : Prop := ∀ l n r, TsOk l → p l = .ok (n, r) → Nok l r n
theorem more_nok {x : List UInt8} {p : List T → R Nd} (hp : Rds p) (hE : P9.Ends p) : ∀ (f : Nat) (l : List T) (zs : List Nd) (r : List T), TsOk l → moreP x p f l = .ok (zs, r) → Mok l r zs
  | 0, l, zs, r, _, h => by cases h; exact mokNil l
  | f + 1, l, zs, r, hl, h => by
    unfold moreP at h
    split at h
    · rename_i hs
      obtain ⟨a, r1, h1, h2⟩ := andThen_some h
      obtain ⟨as', r2, h3, h4⟩ := andThen_some h2
      cases h4
      exact mokCons (sees_len hs) (hp _ a r1 hl.tail h1) (more_nok hp hE f r1 as' r (hl.sfx ((hE _ a r1 h1).trans (tail_sfx l))) h3)
    · cases h
      exact mokNil l
theorem join_nok {x : List UInt8} {p : List T → R Nd} (hp : Rds p) (hE : P9.Ends p) {k : Int} (hk : k = 3 ∨ k = 4) : Rds (fun l => andThen (listP x p l) fun ns r => .ok (joinP k ns, r)) := fun l n r hl h => by
  obtain ⟨ns, r1, h1, h2⟩ := andThen_some h
  cases h2
  obtain ⟨a, r2, h3, h4⟩ := andThen_some h1
  obtain ⟨zs, r3, h5, h6⟩ := andThen_some h4
  cases h6
  exact joinOk hk (hp l a r2 hl h3) (more_nok hp hE _ r2 zs r (hl.sfx (hE l a r2 h3)) h5) (more_ends hE _ r2 zs r h5).length_le
theorem leaf_ok9 {k mn mx : Int} {a : At} (hb : OkB a) (hn : nodeB k mn mx a 0 = true) : (∀ d, d + depthN (.mk k mn mx a []) ≤ 201 → soundN d (.mk k mn mx a []) = true) ∧ OkT9 (.mk k mn mx a []) := by
  refine ⟨fun d hd => ?_, fun t ht => ?_⟩
  · rw [depthN, depthL] at hd
    rw [soundN, soundL, List.length_nil, hn]
    simp
    omega
  · rw [subsN, subsL] at ht
    rcases List.mem_cons.1 ht with rfl | ht
    · exact hb
    · cases ht
theorem unit_nok (e : Nat) {pat : List T → R Nd} (hp : Rds pat) : Rds (unitP e pat) := fun l n r hl h => by
  unfold unitP at h
  split at h
  · rename_i hs
    obtain ⟨m, r1, h1, h2⟩ := andThen_some h
    obtain ⟨u, r2, h3, h4⟩ := andThen_some h2
    cases h4
    have := want_len h3
    have := sees_len hs
    exact (hp l.tail _ _ hl.tail h1).mono (by omega) (by omega)
  · obtain ⟨a, r1, h1, h2⟩ := andThen_some h
    obtain ⟨m, r2, h3, h4⟩ := andThen_some h2
    cases h4
    obtain ⟨a1, a2, a3, a4, a5⟩ := atom_ok hl h1
    obtain ⟨⟨b1, b2⟩, b3, b4⟩ := times_ok h3
    have hn : nodeB 1 m.1 m.2 a 0 = true := by
      unfold nodeB
      rw [if_pos rfl, a1]
      simp [b1.1, b1.2, b2.1, b2.2]
    obtain ⟨c1, c2⟩ := leaf_ok9 a2 hn
    refine ⟨c1, ?_, ?_, ?_, c2⟩
    · rw [depthN, depthL]; omega
    · rw [nodesN, nodesL]; omega
    · rw [textN, if_pos rfl, List.length_append]; omega
theorem item_nok (e : Nat) {pat : List T → R Nd} (hp : Rds pat) : Rds (itemP e pat) := fun l n r hl h => by
  unfold itemP at h
  split at h
  · rename_i hs
    obtain ⟨a, r1, h1, h2⟩ := andThen_some h
    cases h2
    obtain ⟨a1, a2, a3, a4, a5⟩ := atom_ok hl.tail h1
    have hl' := sees_len hs
    have hn : nodeB 2 0 0 a 0 = true := by
      unfold nodeB
      rw [if_neg (by decide), if_pos rfl, a1]
      rfl
    obtain ⟨c1, c2⟩ := leaf_ok9 a2 hn
    refine ⟨c1, ?_, ?_, ?_, c2⟩
    · rw [depthN, depthL]; omega
    · rw [nodesN, nodesL]; omega
    · rw [textN, if_neg (by decide), if_pos rfl, List.length_append]
      simp only [List.length_cons, List.length_nil]
      omega
  · exact unit_nok e hp l n r hl h
theorem pat_nok (e : Nat) : ∀ f, Rds (patP e f)
  | 0 => fun l n r _ h => by cases h
  | f + 1 => join_nok (p := seqP e (patP e f)) (join_nok (p := itemP e (patP e f)) (item_nok e (pat_nok e f)) (item_ends e (pat_ends e f)) (.inl rfl)) (seq_ends e (pat_ends e f)) (.inr rfl)
theorem toks_facts {t : List UInt8} {ts : List T} (h : toksP t = .ok ts) : TsOk ts ∧ ts.length ≤ 400 ∧ t.length ≤ 400 := by
  unfold toksP at h
  split at h
  · cases h
  · rename_i hl
    have h1 := laid_of t.length t 0 ts (Nat.le_refl _) h
    have h2 := laid_tok ts t 0 h1
    have h3 := laid_len ts t 0 h1
    refine ⟨h2, ?_, by omega⟩
    have h4 : ∀ us : List T, (∀ u ∈ us, isTok u.1 u.2.1 = true) → us.length ≤ (us.map fun t => t.2.1.length).sum := by
      intro us
      induction us with
      | nil => intro _; simp
      | cons u us ih =>
        intro hu
        have := ih fun v hv => hu v (List.mem_cons_of_mem _ hv)
        have h5 := hu u List.mem_cons_self
        have h6 : 1 ≤ u.2.1.length := by
          cases hx : u.2.1 with
          | nil => rw [hx] at h5; simp [isTok] at h5
          | cons b s => simp
        simp only [List.length_cons, List.map_cons, List.sum_cons]
        omega
    have := h4 ts h2
    omega
theorem listK {bef btw : List UInt8} {ls : List (List UInt8)} {K : Nat} (h : ∀ x ∈ ls, x.length ≤ K) : (listT bef ls btw []).length ≤ bef.length + (K + btw.length) * ls.length := by
  unfold listT
  split
  · simp
  · have := sepK btw K ls h
    simp only [List.length_append, List.length_nil]
    omega
/-- What is parsed from a text is sound, and not large. -/
theorem parse_sound {t : List UInt8} {q : Qu} (h : parseP t = .ok q) : (checkB q = true ∧ OkQ q) ∧ (nodesN q.p ≤ 800 ∧ (textN q.p).length ≤ 80000) ∧ (queryT q).length ≤ 200000 ∧ q.wi ≤ 99999 := by
  unfold parseP wholeP at h
  cases ht : toksP t with
  | error y => rw [ht] at h; cases h
  | ok ts =>
    rw [ht] at h
    obtain ⟨hts, hn, -⟩ := toks_facts ht
    simp only at h
    cases hq : queryP t.length (ts.length + 1) ts with
    | error y => rw [hq] at h; cases h
    | ok ar =>
      obtain ⟨q', r⟩ := ar
      rw [hq] at h
      cases r with
      | cons x r => cases h
      | nil =>
        cases h
        obtain ⟨p, r1, h1, h2⟩ := andThen_some hq
        obtain ⟨u, r2, h3, h4⟩ := andThen_some h2
        obtain ⟨wi, r3, h5, h6⟩ := andThen_some h4
        obtain ⟨hs, r4, h7, h8⟩ := andThen_some h6
        obtain ⟨es, r5, h9, h10⟩ := andThen_some h8
        cases h10
        have a1 := pat_nok t.length _ ts p r1 hts h1
        have hts1 : TsOk r1 := hts.sfx (pat_ends _ _ ts p r1 h1)
        have hts2 : TsOk r2 := hts1.sfx (want_ends _ _ r1 u r2 h3)
        have hts3 : TsOk r3 := hts2.sfx (num_ends _ _ _ r2 wi r3 h5)
        have hts4 : TsOk r4 := hts3.sfx (haves_ends _ r3 hs r4 h7)
        have l1 := (pat_ends _ _ ts p r1 h1).length_le
        have l2 := (want_ends _ _ r1 u r2 h3).length_le
        have l3 := (num_ends _ _ _ r2 wi r3 h5).length_le
        have l4 := (haves_ends _ r3 hs r4 h7).length_le
        obtain ⟨b1, b2, b3⟩ := num_okV h5
        have c1 : (∀ x ∈ hs, (haveB x = true ∧ okC x.cn) ∧ (haveT x).length ≤ 39) ∧ hs.length ≤ 400 := by
          unfold havesP at h7
          split at h7
          · rename_i hsee
            have := sees_len hsee
            obtain ⟨k1, k2⟩ := list_ok (Q := fun x => (haveB x = true ∧ okC x.cn) ∧ (haveT x).length ≤ 39) (k := 0) (fun l c r _ h => by
              obtain ⟨m1, m2, m3, m4⟩ := have_ok h
              exact ⟨⟨⟨m1, m2.1⟩, m4⟩, by omega⟩) (have_ends t.length) hts3.tail h7
            exact ⟨k1, by omega⟩
          · cases h7
            exact ⟨(fun x hx => by cases hx), by simp⟩
        have d1 : (∀ x ∈ es, aggB x = true ∧ (aggT x).length ≤ 15) ∧ es.length ≤ 400 := by
          unfold emitsP at h9
          split at h9
          · rename_i hsee
            have := sees_len hsee
            obtain ⟨k1, k2⟩ := list_ok (Q := fun x => aggB x = true ∧ (aggT x).length ≤ 15) (k := 0) (fun l c r _ h => by
              obtain ⟨m1, m2, m3, m4⟩ := agg_ok h
              exact ⟨⟨m1, m4⟩, by omega⟩) (agg_ends t.length) hts4.tail h9
            exact ⟨k1, by omega⟩
          · cases h9
            exact ⟨(fun x hx => by cases hx), by simp⟩
        have e1 := a1.d
        have e2 := a1.c
        have e3 := a1.t
        have e4 := itoaK b1
        have e5 := listK (bef := [32, 104, 97, 118, 105, 110, 103, 32]) (btw := [32, 97, 110, 100, 32]) (ls := hs.map haveT) (K := 39) (fun x hx => by
          obtain ⟨c, hc, rfl⟩ := List.mem_map.1 hx
          exact (c1.1 c hc).2)
        have e6 := listK (bef := [32, 101, 109, 105, 116, 32]) (btw := [44, 32]) (ls := es.map aggT) (K := 15) (fun x hx => by
          obtain ⟨c, hc, rfl⟩ := List.mem_map.1 hx
          exact (d1.1 c hc).2)
        rw [List.length_map] at e5 e6
        simp only [List.length_cons, List.length_nil] at e5 e6
        refine ⟨⟨?_, ?_⟩, ⟨by simp only; omega, by simp only; omega⟩, ?_, b2.2⟩
        · unfold checkB
          simp only [Bool.and_eq_true, decide_eq_true_eq, List.all_eq_true]
          exact ⟨⟨⟨a1.s 1 (by omega), b2.2⟩, fun x hx => (c1.1 x hx).1.1⟩, fun x hx => (d1.1 x hx).1⟩
        · exact ⟨a1.o, b2.1, fun x hx => (c1.1 x hx).1.2⟩
        · unfold queryT
          simp only [List.length_append, List.length_cons, List.length_nil]
          omega
end Go.Proofs.YtdjaijhlhhnmeaaGreatDoor.P9
