/- Reading queries from tokens: the grammar, as functions on lists of tokens. Nothing here speaks of the program. -/
import Derived.Test.YtdoioaeppepndaaGreatDoorAstSm
import Derived.Test.YtdoioaeppepndaaGreatDoorTokSm
import Derived.Test.YtdoioaeppepndaaGreatDoorSumOne
namespace Go.Proofs.YtdoioaeppepndaaGreatDoor.P9
open Go.Proofs.YtdoioaeppepndaaGreatDoor.Tk7 Go.Proofs.YtdoioaeppepndaaGreatDoor.A8

/-- A fault: its error and its offset. -/
abbrev F := Int × Nat
/-- What a part reads: a fault, or what was read and the tokens that are left. -/
abbrev R (α : Type) := Except F (α × List T)
/-- The fault of what comes next, which cannot stand there; e is the length of the text. -/
def wrongP (e : Nat) : List T → F
  | [] => (5, e)
  | t :: _ => if t.1 = 1 ∧ nameB t.2.1 = false ∧ wordsA.contains t.2.1 = false then (12, t.2.2) else (3, t.2.2)
/-- Whether this text comes next. -/
def seesP (x : List UInt8) : List T → Bool
  | [] => false
  | t :: _ => t.2.1 == x
def andThen {α β : Type} (x : R α) (f : α → List T → R β) : R β :=
  match x with
  | .error y => .error y
  | .ok (a, r) => f a r
theorem andThen_err {α β : Type} (y : F) (f : α → List T → R β) : andThen (.error y) f = .error y := rfl
theorem andThen_ok {α β : Type} (a : α) (r : List T) (f : α → List T → R β) : andThen (.ok (a, r)) f = f a r := rfl
def wantP (e : Nat) (x : List UInt8) (l : List T) : R Unit := if seesP x l = true then .ok ((), l.tail) else .error (wrongP e l)
def numP (e : Nat) (lo hi : Int) : List T → R Int
  | [] => .error (5, e)
  | t :: r => if t.1 = 3 then (if Sm.okI (Sm.valV t.2.1) = true ∧ lo ≤ Sm.valV t.2.1 ∧ Sm.valV t.2.1 ≤ hi then .ok (Sm.valV t.2.1, r) else .error (2, t.2.2)) else .error (wrongP e (t :: r))
def nameP (e : Nat) : List T → R (List UInt8)
  | [] => .error (5, e)
  | t :: r => if nameB t.2.1 = true then .ok (t.2.1, r) else .error (wrongP e (t :: r))
def letterP (e : Nat) : List T → R Int
  | [] => .error (5, e)
  | t :: r => if t.1 = 2 then .ok (((t.2.1.headD 65).toNat : Int) - 65, r) else .error (wrongP e (t :: r))
/-- One of the texts of a table, behind its first: its place. -/
def oneP (tab : List (List UInt8)) (e : Nat) : List T → R Int
  | [] => .error (5, e)
  | t :: r => if 1 ≤ tab.idxOf t.2.1 ∧ tab.idxOf t.2.1 < tab.length then .ok ((tab.idxOf t.2.1 : Nat), r) else .error (wrongP e (t :: r))
/-- Parts, with something before each. -/
def moreP {α : Type} (x : List UInt8) (part : List T → R α) : Nat → List T → R (List α)
  | 0, l => .ok ([], l)
  | f + 1, l => if seesP x l = true then andThen (part l.tail) fun a r => andThen (moreP x part f r) fun zs r => .ok (a :: zs, r) else .ok ([], l)
/-- A part, and more with something between. -/
def listP {α : Type} (x : List UInt8) (part : List T → R α) (l : List T) : R (List α) :=
  andThen (part l) fun a r => andThen (moreP x part r.length r) fun zs r => .ok (a :: zs, r)
def placeP (e : Nat) : List T → Nat
  | [] => e
  | t :: _ => t.2.2
def catP (e : Nat) (b : Int) (l : List T) : R Int := andThen (numP e 0 63 l) fun c r => if c ≤ b then .error (9, placeP e l) else .ok (c, r)
def moreC (e : Nat) : Nat → Int → List T → R (List Int)
  | 0, _, l => .ok ([], l)
  | f + 1, b, l => if seesP [44] l = true then andThen (catP e b l.tail) fun c r => andThen (moreC e f c r) fun cs r => .ok (c :: cs, r) else .ok ([], l)
def catsP (e : Nat) (l : List T) : R (List Int) := andThen (catP e (-1) l) fun c r => andThen (moreC e r.length c r) fun cs r => .ok (c :: cs, r)
def labelP (e : Nat) (l : List T) : R Int :=
  andThen (wantP e [123] l) fun _ r =>
    if seesP [125] r = true then .ok (0, r.tail)
    else andThen (catsP e r) fun cs r => andThen (wantP e [125] r) fun _ r => .ok (Lb.orAll cs, r)
def condP (e : Nat) (l : List T) : R Cn := andThen (oneP opsA e l) fun o r => andThen (numP e (-9223372036854775808) 9223372036854775807 r) fun v r => .ok (⟨o, v⟩, r)
def aggP (e : Nat) (l : List T) : R Ag :=
  andThen (oneP funsA e l) fun f r => andThen (wantP e [40] r) fun _ r => andThen (nameP e r) fun n r => andThen (wantP e [41] r) fun _ r => .ok (⟨f, n⟩, r)
def haveP (e : Nat) (l : List T) : R Hv := andThen (aggP e l) fun a r => andThen (condP e r) fun c r => .ok (⟨a, c⟩, r)
/-- What may be missing. -/
def boundP (e : Nat) (l : List T) : R (Bool × Int) := if seesP [64] l = true then andThen (labelP e l.tail) fun b r => .ok ((true, b), r) else .ok ((false, 0), l)
def condsP (e : Nat) (l : List T) : R (List Cn) := if seesP [91] l = true then andThen (listP [44] (condP e) l.tail) fun cs r => andThen (wantP e [93] r) fun _ r => .ok (cs, r) else .ok ([], l)
def nmP (e : Nat) (l : List T) : R (List UInt8) := if seesP [58] l = true then nameP e l.tail else .ok ([], l)
def atomP (e : Nat) (l : List T) : R At :=
  andThen (letterP e l) fun k r => andThen (boundP e r) fun b r => andThen (condsP e r) fun cs r => andThen (nmP e r) fun n r => .ok (⟨k, b.1, b.2, cs, n⟩, r)
def timesP (e : Nat) (l : List T) : R (Int × Int) :=
  if seesP [123] l = true then andThen (numP e 0 99 l.tail) fun a r => andThen (wantP e [44] r) fun _ r => andThen (numP e 0 99 r) fun b r => andThen (wantP e [125] r) fun _ r => .ok ((a, b), r)
  else .ok ((1, 1), l)
def noA : At := ⟨0, false, 0, [], []⟩
def joinP (k : Int) (ns : List Nd) : Nd :=
  match ns with
  | [n] => n
  | _ => .mk k 0 0 noA ns
def unitP (e : Nat) (pat : List T → R Nd) (l : List T) : R Nd :=
  if seesP [40] l = true then andThen (pat l.tail) fun n r => andThen (wantP e [41] r) fun _ r => .ok (n, r)
  else andThen (atomP e l) fun a r => andThen (timesP e r) fun m r => .ok (.mk 1 m.1 m.2 a [], r)
def itemP (e : Nat) (pat : List T → R Nd) (l : List T) : R Nd :=
  if seesP [110, 111, 116] l = true then andThen (atomP e l.tail) fun a r => .ok (.mk 2 0 0 a [], r) else unitP e pat l
def seqP (e : Nat) (pat : List T → R Nd) (l : List T) : R Nd := andThen (listP [59] (itemP e pat) l) fun ns r => .ok (joinP 3 ns, r)
def altP (e : Nat) (pat : List T → R Nd) (l : List T) : R Nd := andThen (listP [124] (seqP e pat) l) fun ns r => .ok (joinP 4 ns, r)
/-- A pattern; the number is greater than that of the tokens. -/
def patP (e : Nat) : Nat → List T → R Nd
  | 0, _ => .error (0, 0)
  | f + 1, l => altP e (patP e f) l
def withinA : List UInt8 := [119, 105, 116, 104, 105, 110]
def havingA : List UInt8 := [104, 97, 118, 105, 110, 103]
def andA : List UInt8 := [97, 110, 100]
def emitA : List UInt8 := [101, 109, 105, 116]
def havesP (e : Nat) (l : List T) : R (List Hv) := if seesP havingA l = true then listP andA (haveP e) l.tail else .ok ([], l)
def emitsP (e : Nat) (l : List T) : R (List Ag) := if seesP emitA l = true then listP [44] (aggP e) l.tail else .ok ([], l)
def queryP (e f : Nat) (l : List T) : R Qu :=
  andThen (patP e f l) fun p r => andThen (wantP e withinA r) fun _ r => andThen (numP e 0 99999 r) fun w r => andThen (havesP e r) fun hs r => andThen (emitsP e r) fun zs r => .ok (⟨p, w, hs, zs⟩, r)
/-- .. and nothing behind it. -/
def overP {α : Type} (e : Nat) (x : R α) : Except F α :=
  match x with
  | .error y => .error y
  | .ok (a, []) => .ok a
  | .ok (_, t :: r) => .error (wrongP e (t :: r))
def toksP (t : List UInt8) : Except F (List T) := if 400 < t.length then .error (4, 400) else toksG t 0
def wholeP {α : Type} (g : Nat → Nat → List T → R α) (t : List UInt8) : Except F α :=
  match toksP t with
  | .error y => .error y
  | .ok ts => overP t.length (g t.length (ts.length + 1) ts)
def parseP (t : List UInt8) : Except F Qu := wholeP queryP t
def patternP (t : List UInt8) : Except F Nd := wholeP patP t
def aloneP (t : List UInt8) : Except F At := wholeP (fun e _ l => atomP e l) t

/-! Parts leave an end of the tokens. -/
def Ends {α : Type} (p : List T → R α) : Prop := ∀ l a r, p l = .ok (a, r) → r <:+ l
theorem andThen_some {α β : Type} {x : R α} {f : α → List T → R β} {b : β} {r : List T} (h : andThen x f = .ok (b, r)) : ∃ a r1, x = .ok (a, r1) ∧ f a r1 = .ok (b, r) := by
  cases x with
  | error y => cases h
  | ok v => obtain ⟨a, r1⟩ := v; exact ⟨a, r1, rfl, h⟩
theorem tail_sfx (l : List T) : l.tail <:+ l := List.tail_suffix l
theorem want_ends (e : Nat) (x : List UInt8) : Ends (wantP e x) := fun l a r h => by
  unfold wantP at h
  split at h
  · cases h; exact tail_sfx l
  · cases h
theorem num_ends (e : Nat) (lo hi : Int) : Ends (numP e lo hi) := fun l a r h => by
  cases l with
  | nil => cases h
  | cons t l =>
    simp only [numP] at h
    split at h
    · split at h
      · cases h; exact List.suffix_cons _ _
      · cases h
    · cases h
theorem name_ends (e : Nat) : Ends (nameP e) := fun l a r h => by
  cases l with
  | nil => cases h
  | cons t l =>
    simp only [nameP] at h
    split at h
    · cases h; exact List.suffix_cons _ _
    · cases h
theorem letter_ends (e : Nat) : Ends (letterP e) := fun l a r h => by
  cases l with
  | nil => cases h
  | cons t l =>
    simp only [letterP] at h
    split at h
    · cases h; exact List.suffix_cons _ _
    · cases h
theorem one_ends (tab : List (List UInt8)) (e : Nat) : Ends (oneP tab e) := fun l a r h => by
  cases l with
  | nil => cases h
  | cons t l =>
    simp only [oneP] at h
    split at h
    · cases h; exact List.suffix_cons _ _
    · cases h
theorem then_ends {α β : Type} {p : List T → R α} {f : α → List T → R β} (hp : Ends p) (hf : ∀ a, Ends (f a)) : Ends (fun l => andThen (p l) f) := fun l b r h => by
  obtain ⟨a, r1, h1, h2⟩ := andThen_some h
  exact (hf a r1 b r h2).trans (hp l a r1 h1)
theorem ret_ends {α : Type} (a : α) : Ends (fun l => .ok (a, l)) := fun l b r h => by cases h; exact List.suffix_refl _
theorem tl_ends {α : Type} {p : List T → R α} (hp : Ends p) : Ends (fun l => p l.tail) := fun l b r h => (hp l.tail b r h).trans (tail_sfx l)
theorem if_ends {α : Type} {c : List T → Bool} {p q : List T → R α} (hp : Ends p) (hq : Ends q) : Ends (fun l => if c l = true then p l else q l) := fun l b r h => by
  simp only at h
  split at h
  · exact hp l b r h
  · exact hq l b r h
theorem more_ends {α : Type} {x : List UInt8} {part : List T → R α} (hp : Ends part) : ∀ f, Ends (moreP x part f)
  | 0 => fun l a r h => by cases h; exact List.suffix_refl _
  | f + 1 => if_ends (c := seesP x) (p := fun l => andThen (part l.tail) fun a r => andThen (moreP x part f r) fun zs r => .ok (a :: zs, r)) (q := fun l => .ok ([], l)) (then_ends (tl_ends hp) fun a => then_ends (more_ends hp f) fun zs => ret_ends _) (ret_ends _)
theorem list_ends {α : Type} {x : List UInt8} {part : List T → R α} (hp : Ends part) : Ends (listP x part) :=
  then_ends hp fun a => fun l b r h => by
    obtain ⟨zs, r1, h1, h2⟩ := andThen_some h
    cases h2
    exact more_ends hp _ l zs r h1
theorem cat_ends (e : Nat) (b : Int) : Ends (catP e b) := fun l a r h => by
  obtain ⟨c, r1, h1, h2⟩ := andThen_some h
  split at h2
  · cases h2
  · cases h2; exact num_ends e 0 63 l a r h1
theorem moreC_ends (e : Nat) : ∀ f b, Ends (moreC e f b)
  | 0, _ => fun l a r h => by cases h; exact List.suffix_refl _
  | f + 1, b => if_ends (c := seesP [44]) (p := fun l => andThen (catP e b l.tail) fun c r => andThen (moreC e f c r) fun cs r => .ok (c :: cs, r)) (q := fun l => .ok ([], l)) (then_ends (tl_ends (cat_ends e b)) fun c => then_ends (moreC_ends e f c) fun cs => ret_ends _) (ret_ends _)
theorem cats_ends (e : Nat) : Ends (catsP e) := then_ends (cat_ends e (-1)) fun c => fun l b r h => by
  obtain ⟨zs, r1, h1, h2⟩ := andThen_some h
  cases h2
  exact moreC_ends e _ c l zs r h1
theorem label_ends (e : Nat) : Ends (labelP e) :=
  then_ends (want_ends e [123]) fun _ => if_ends (c := seesP [125]) (p := fun r => .ok (0, r.tail)) (q := fun r => andThen (catsP e r) fun cs r => andThen (wantP e [125] r) fun _ r => .ok (Lb.orAll cs, r)) (fun l a r h => by cases h; exact tail_sfx l) (then_ends (cats_ends e) fun cs => then_ends (want_ends e [125]) fun _ => ret_ends _)
theorem cond_ends (e : Nat) : Ends (condP e) := then_ends (one_ends _ e) fun _ => then_ends (num_ends e _ _) fun _ => ret_ends _
theorem agg_ends (e : Nat) : Ends (aggP e) := then_ends (one_ends _ e) fun _ => then_ends (want_ends e _) fun _ => then_ends (name_ends e) fun _ => then_ends (want_ends e _) fun _ => ret_ends _
theorem have_ends (e : Nat) : Ends (haveP e) := then_ends (agg_ends e) fun _ => then_ends (cond_ends e) fun _ => ret_ends _
theorem bound_ends (e : Nat) : Ends (boundP e) := if_ends (c := seesP [64]) (p := fun l => andThen (labelP e l.tail) fun b r => .ok ((true, b), r)) (q := fun l => .ok ((false, 0), l)) (then_ends (tl_ends (label_ends e)) fun _ => ret_ends _) (ret_ends _)
theorem conds_ends (e : Nat) : Ends (condsP e) := if_ends (c := seesP [91]) (p := fun l => andThen (listP [44] (condP e) l.tail) fun cs r => andThen (wantP e [93] r) fun _ r => .ok (cs, r)) (q := fun l => .ok ([], l)) (then_ends (tl_ends (list_ends (cond_ends e))) fun _ => then_ends (want_ends e _) fun _ => ret_ends _) (ret_ends _)
theorem nm_ends (e : Nat) : Ends (nmP e) := if_ends (c := seesP [58]) (p := fun l => nameP e l.tail) (q := fun l => .ok ([], l)) (tl_ends (name_ends e)) (ret_ends _)
theorem atom_ends (e : Nat) : Ends (atomP e) := then_ends (letter_ends e) fun _ => then_ends (bound_ends e) fun _ => then_ends (conds_ends e) fun _ => then_ends (nm_ends e) fun _ => ret_ends _
theorem times_ends (e : Nat) : Ends (timesP e) := if_ends (c := seesP [123]) (p := fun l => andThen (numP e 0 99 l.tail) fun a r => andThen (wantP e [44] r) fun _ r => andThen (numP e 0 99 r) fun b r => andThen (wantP e [125] r) fun _ r => .ok ((a, b), r)) (q := fun l => .ok ((1, 1), l)) (then_ends (tl_ends (num_ends e 0 99)) fun _ => then_ends (want_ends e _) fun _ => then_ends (num_ends e 0 99) fun _ => then_ends (want_ends e _) fun _ => ret_ends _) (ret_ends _)
theorem unit_ends (e : Nat) {pat : List T → R Nd} (hp : Ends pat) : Ends (unitP e pat) := if_ends (c := seesP [40]) (p := fun l => andThen (pat l.tail) fun n r => andThen (wantP e [41] r) fun _ r => .ok (n, r)) (q := fun l => andThen (atomP e l) fun a r => andThen (timesP e r) fun m r => .ok (Nd.mk 1 m.1 m.2 a [], r)) (then_ends (tl_ends hp) fun _ => then_ends (want_ends e _) fun _ => ret_ends _) (then_ends (atom_ends e) fun _ => then_ends (times_ends e) fun _ => ret_ends _)
theorem item_ends (e : Nat) {pat : List T → R Nd} (hp : Ends pat) : Ends (itemP e pat) := if_ends (c := seesP [110, 111, 116]) (p := fun l => andThen (atomP e l.tail) fun a r => .ok (Nd.mk 2 0 0 a [], r)) (q := unitP e pat) (then_ends (tl_ends (atom_ends e)) fun _ => ret_ends _) (unit_ends e hp)
theorem seq_ends (e : Nat) {pat : List T → R Nd} (hp : Ends pat) : Ends (seqP e pat) := then_ends (list_ends (item_ends e hp)) fun _ => ret_ends _
theorem alt_ends (e : Nat) {pat : List T → R Nd} (hp : Ends pat) : Ends (altP e pat) := then_ends (list_ends (seq_ends e hp)) fun _ => ret_ends _
theorem pat_ends (e : Nat) : ∀ f, Ends (patP e f)
  | 0 => fun l a r h => by cases h
  | f + 1 => alt_ends e (pat_ends e f)
theorem haves_ends (e : Nat) : Ends (havesP e) := if_ends (c := seesP havingA) (p := fun l => listP andA (haveP e) l.tail) (q := fun l => .ok ([], l)) (tl_ends (list_ends (have_ends e))) (ret_ends _)
theorem emits_ends (e : Nat) : Ends (emitsP e) := if_ends (c := seesP emitA) (p := fun l => listP [44] (aggP e) l.tail) (q := fun l => .ok ([], l)) (tl_ends (list_ends (agg_ends e))) (ret_ends _)
theorem query_ends (e f : Nat) : Ends (queryP e f) := then_ends (pat_ends e f) fun _ => then_ends (want_ends e _) fun _ => then_ends (num_ends e _ _) fun _ => then_ends (haves_ends e) fun _ => then_ends (emits_ends e) fun _ => ret_ends _
end Go.Proofs.YtdoioaeppepndaaGreatDoor.P9
