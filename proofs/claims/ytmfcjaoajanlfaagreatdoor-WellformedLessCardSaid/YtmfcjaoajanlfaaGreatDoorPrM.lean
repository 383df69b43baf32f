/- Reading queries from tokens, and how long texts are: mathematics; hidden memory. -/
import Derived.Test.YtmfcjaoajanlfaaGreatDoorAstSm
import Derived.Test.YtmfcjaoajanlfaaGreatDoorTokSm
import Derived.Test.YtmfcjaoajanlfaaGreatDoorSumOne
import Derived.Test.YtmfcjaoajanlfaaGreatDoorLabSm
import Derived.Test.YtmfcjaoajanlfaaGreatDoorKitQs
namespace Go.Proofs.YtmfcjaoajanlfaaGreatDoor.P9
open Go.Proofs.YtmfcjaoajanlfaaGreatDoor.Tk7 Go.Proofs.YtmfcjaoajanlfaaGreatDoor.A8

/-- A fault: its error and its offset. -/
abbrev F := Int × Nat
/-- What a part reads: a fault, or what was read and the tokens that are left. -/
abbrev R (α : Type) := Except F (α × List T)
/-- The fault of what comes next, which cannot stand there; e is the length of the text. -/
def wrongP (e : Nat) : List T → F
  | [] => (5, e)
  | t :: _ => if t.1 = 1 ∧ nameB t.2.1 = false ∧ wordsA.contains t.2.1 = false then (12, t.2.2) else (3, t.2.2)
/-- Whether this text comes next. -/
def seesP (x : List UInt8) : List T → Bool
  | [] => false
  | t :: _ => t.2.1 == x
def andThen {α β : Type} (x : R α) (f : α → List T → R β) : R β :=
  match x with
  | .error y => .error y
  | .ok (a, r) => f a r
theorem andThen_err {α β : Type} (y : F) (f : α → List T → R β) : andThen (.error y) f = .error y := rfl
theorem andThen_ok {α β : Type} (a : α) (r : List T) (f : α → List T → R β) : andThen (.ok (a, r)) f = f a r := rfl
def wantP (e : Nat) (x : List UInt8) (l : List T) : R Unit := if seesP x l = true then .ok ((), l.tail) else .error (wrongP e l)
def numP (e : Nat) (lo hi : Int) : List T → R Int
  | [] => .error (5, e)
  | t :: r => if t.1 = 3 then (if Sm.okI (Sm.valV t.2.1) = true ∧ lo ≤ Sm.valV t.2.1 ∧ Sm.valV t.2.1 ≤ hi then .ok (Sm.valV t.2.1, r) else .error (2, t.2.2)) else .error (wrongP e (t :: r))
def nameP (e : Nat) : List T → R (List UInt8)
  | [] => .error (5, e)
  | t :: r => if nameB t.2.1 = true then .ok (t.2.1, r) else .error (wrongP e (t :: r))
def letterP (e : Nat) : List T → R Int
  | [] => .error (5, e)
  | t :: r => if t.1 = 2 then .ok (((t.2.1.headD 65).toNat : Int) - 65, r) else .error (wrongP e (t :: r))
/-- One of the texts of a table, behind its first: its place. -/
def oneP (tab : List (List UInt8)) (e : Nat) : List T → R Int
  | [] => .error (5, e)
  | t :: r => if 1 ≤ tab.idxOf t.2.1 ∧ tab.idxOf t.2.1 < tab.length then .ok ((tab.idxOf t.2.1 : Nat), r) else .error (wrongP e (t :: r))
/-- Parts, with something before each. -/
def moreP {α : Type} (x : List UInt8) (part : List T → R α) : Nat → List T → R (List α)
  | 0, l => .ok ([], l)
  | f + 1, l => if seesP x l = true then andThen (part l.tail) fun a r => andThen (moreP x part f r) fun zs r => .ok (a :: zs, r) else .ok ([], l)
/-- A part, and more with something between. -/
def listP {α : Type} (x : List UInt8) (part : List T → R α) (l : List T) : R (List α) :=
  andThen (part l) fun a r => andThen (moreP x part r.length r) fun zs r => .ok (a :: zs, r)
def placeP (e : Nat) : List T → Nat
  | [] => e
  | t :: _ => t.2.2
def catP (e : Nat) (b : Int) (l : List T) : R Int := andThen (numP e 0 63 l) fun c r => if c ≤ b then .error (9, placeP e l) else .ok (c, r)
def moreC (e : Nat) : Nat → Int → List T → R (List Int)
  | 0, _, l => .ok ([], l)
  | f + 1, b, l => if seesP [44] l = true then andThen (catP e b l.tail) fun c r => andThen (moreC e f c r) fun cs r => .ok (c :: cs, r) else .ok ([], l)
def catsP (e : Nat) (l : List T) : R (List Int) := andThen (catP e (-1) l) fun c r => andThen (moreC e r.length c r) fun cs r => .ok (c :: cs, r)
def labelP (e : Nat) (l : List T) : R Int :=
  andThen (wantP e [123] l) fun _ r =>
    if seesP [125] r = true then .ok (0, r.tail)
    else andThen (catsP e r) fun cs r => andThen (wantP e [125] r) fun _ r => .ok (Lb.orAll cs, r)
def condP (e : Nat) (l : List T) : R Cn := andThen (oneP opsA e l) fun o r => andThen (numP e (-9223372036854775808) 9223372036854775807 r) fun v r => .ok (⟨o, v⟩, r)
def aggP (e : Nat) (l : List T) : R Ag :=
  andThen (oneP funsA e l) fun f r => andThen (wantP e [40] r) fun _ r => andThen (nameP e r) fun n r => andThen (wantP e [41] r) fun _ r => .ok (⟨f, n⟩, r)
def haveP (e : Nat) (l : List T) : R Hv := andThen (aggP e l) fun a r => andThen (condP e r) fun c r => .ok (⟨a, c⟩, r)
/-- What may be missing. -/
def boundP (e : Nat) (l : List T) : R (Bool × Int) := if seesP [64] l = true then andThen (labelP e l.tail) fun b r => .ok ((true, b), r) else .ok ((false, 0), l)
def condsP (e : Nat) (l : List T) : R (List Cn) := if seesP [91] l = true then andThen (listP [44] (condP e) l.tail) fun cs r => andThen (wantP e [93] r) fun _ r => .ok (cs, r) else .ok ([], l)
def nmP (e : Nat) (l : List T) : R (List UInt8) := if seesP [58] l = true then nameP e l.tail else .ok ([], l)
def atomP (e : Nat) (l : List T) : R At :=
  andThen (letterP e l) fun k r => andThen (boundP e r) fun b r => andThen (condsP e r) fun cs r => andThen (nmP e r) fun n r => .ok (⟨k, b.1, b.2, cs, n⟩, r)
def timesP (e : Nat) (l : List T) : R (Int × Int) :=
  if seesP [123] l = true then andThen (numP e 0 99 l.tail) fun a r => andThen (wantP e [44] r) fun _ r => andThen (numP e 0 99 r) fun b r => andThen (wantP e [125] r) fun _ r => .ok ((a, b), r)
  else .ok ((1, 1), l)
def noA : At := ⟨0, false, 0, [], []⟩
def joinP (k : Int) (ns : List Nd) : Nd :=
  match ns with
  | [n] => n
  | _ => .mk k 0 0 noA ns
def unitP (e : Nat) (pat : List T → R Nd) (l : List T) : R Nd :=
  if seesP [40] l = true then andThen (pat l.tail) fun n r => andThen (wantP e [41] r) fun _ r => .ok (n, r)
  else andThen (atomP e l) fun a r => andThen (timesP e r) fun m r => .ok (.mk 1 m.1 m.2 a [], r)
def itemP (e : Nat) (pat : List T → R Nd) (l : List T) : R Nd :=
  if seesP [110, 111, 116] l = true then andThen (atomP e l.tail) fun a r => .ok (.mk 2 0 0 a [], r) else unitP e pat l
def seqP (e : Nat) (pat : List T → R Nd) (l : List T) : R Nd := andThen (listP [59] (itemP e pat) l) fun ns r => .ok (joinP 3 ns, r)
def altP (e : Nat) (pat : List T → R Nd) (l : List T) : R Nd := andThen (listP [124] (seqP e pat) l) fun ns r => .ok (joinP 4 ns, r)
/-- A pattern; the number is greater than that of the tokens. -/
def patP (e : Nat) : Nat → List T → R Nd
  | 0, _ => .error (0, 0)
  | f + 1, l => altP e (patP e f) l
def withinA : List UInt8 := [119, 105, 116, 104, 105, 110]
def havingA : List UInt8 := [104, 97, 118, 105, 110, 103]
def andA : List UInt8 := [97, 110, 100]
def emitA : List UInt8 := [101, 109, 105, 116]
def havesP (e : Nat) (l : List T) : R (List Hv) := if seesP havingA l = true then listP andA (haveP e) l.tail else .ok ([], l)
def emitsP (e : Nat) (l : List T) : R (List Ag) := if seesP emitA l = true then listP [44] (aggP e) l.tail else .ok ([], l)
def queryP (e f : Nat) (l : List T) : R Qu :=
  andThen (patP e f l) fun p r => andThen (wantP e withinA r) fun _ r => andThen (numP e 0 99999 r) fun w r => andThen (havesP e r) fun hs r => andThen (emitsP e r) fun zs r => .ok (⟨p, w, hs, zs⟩, r)
/-- .. and nothing behind it. -/
def overP {α : Type} (e : Nat) (x : R α) : Except F α :=
  match x with
  | .error y => .error y
  | .ok (a, []) => .ok a
  | .ok (_, t :: r) => .error (wrongP e (t :: r))
def toksP (t : List UInt8) : Except F (List T) := if 400 < t.length then .error (4, 400) else toksG t 0
def wholeP {α : Type} (g : Nat → Nat → List T → R α) (t : List UInt8) : Except F α :=
  match toksP t with
  | .error y => .error y
  | .ok ts => overP t.length (g t.length (ts.length + 1) ts)
def parseP (t : List UInt8) : Except F Qu := wholeP queryP t
def patternP (t : List UInt8) : Except F Nd := wholeP patP t
def aloneP (t : List UInt8) : Except F At := wholeP (fun e _ l => atomP e l) t

/-! Parts leave an end of the tokens. -/
def Ends {α : Type} (p : List T → R α) : Prop := ∀ l a r, p l = .ok (a, r) → r <:+ l
theorem andThen_some {α β : Type} {x : R α} {f : α → List T → R β} {b : β} {r : List T} (h : andThen x f = .ok (b, r)) : ∃ a r1, x = .ok (a, r1) ∧ f a r1 = .ok (b, r) := by
  cases x with
  | error y => cases h
  | ok v => obtain ⟨a, r1⟩ := v; exact ⟨a, r1, rfl, h⟩
theorem tail_sfx (l : List T) : l.tail <:+ l := List.tail_suffix l
theorem want_ends (e : Nat) (x : List UInt8) : Ends (wantP e x) := fun l a r h => by
  unfold wantP at h
  split at h
  · cases h; exact tail_sfx l
  · cases h
theorem num_ends (e : Nat) (lo hi : Int) : Ends (numP e lo hi) := fun l a r h => by
  cases l with
  | nil => cases h
  | cons t l =>
    simp only [numP] at h
    split at h
    · split at h
      · cases h; exact List.suffix_cons _ _
      · cases h
    · cases h
theorem name_ends (e : Nat) : Ends (nameP e) := fun l a r h => by
  cases l with
  | nil => cases h
  | cons t l =>
    simp only [nameP] at h
    split at h
    · cases h; exact List.suffix_cons _ _
    · cases h
theorem letter_ends (e : Nat) : Ends (letterP e) := fun l a r h => by
  cases l with
  | nil => cases h
  | cons t l =>
    simp only [letterP] at h
    split at h
    · cases h; exact List.suffix_cons _ _
    · cases h
theorem one_ends (tab : List (List UInt8)) (e : Nat) : Ends (oneP tab e) := fun l a r h => by
  cases l with
  | nil => cases h
  | cons t l =>
    simp only [oneP] at h
    split at h
    · cases h; exact List.suffix_cons _ _
    · cases h
theorem then_ends {α β : Type} {p : List T → R α} {f : α → List T → R β} (hp : Ends p) (hf : ∀ a, Ends (f a)) : Ends (fun l => andThen (p l) f) := fun l b r h => by
  obtain ⟨a, r1, h1, h2⟩ := andThen_some h
  exact (hf a r1 b r h2).trans (hp l a r1 h1)
theorem ret_ends {α : Type} (a : α) : Ends (fun l => .ok (a, l)) := fun l b r h => by cases h; exact List.suffix_refl _
theorem tl_ends {α : Type} {p : List T → R α} (hp : Ends p) : Ends (fun l => p l.tail) := fun l b r h => (hp l.tail b r h).trans (tail_sfx l)
theorem if_ends {α : Type} {c : List T → Bool} {p q : List T → R α} (hp : Ends p) (hq : Ends q) : Ends (fun l => if c l = true then p l else q l) := fun l b r h => by
  simp only at h
  split at h
  · exact hp l b r h
  · exact hq l b r h
theorem more_ends {α : Type} {x : List UInt8} {part : List T → R α} (hp : Ends part) : ∀ f, Ends (moreP x part f)
  | 0 => fun l a r h => by cases h; exact List.suffix_refl _
  | f + 1 => if_ends (c := seesP x) (p := fun l => andThen (part l.tail) fun a r => andThen (moreP x part f r) fun zs r => .ok (a :: zs, r)) (q := fun l => .ok ([], l)) (then_ends (tl_ends hp) fun a => then_ends (more_ends hp f) fun zs => ret_ends _) (ret_ends _)
theorem list_ends {α : Type} {x : List UInt8} {part : List T → R α} (hp : Ends part) : Ends (listP x part) :=
  then_ends hp fun a => fun l b r h => by
    obtain ⟨zs, r1, h1, h2⟩ := andThen_some h
    cases h2
    exact more_ends hp _ l zs r h1
theorem cat_ends (e : Nat) (b : Int) : Ends (catP e b) := fun l a r h => by
  obtain ⟨c, r1, h1, h2⟩ := andThen_some h
  split at h2
  · cases h2
  · cases h2; exact num_ends e 0 63 l a r h1
theorem moreC_ends (e : Nat) : ∀ f b, Ends (moreC e f b)
  | 0, _ => fun l a r h => by cases h; exact List.suffix_refl _
  | f + 1, b => if_ends (c := seesP [44]) (p := fun l => andThen (catP e b l.tail) fun c r => andThen (moreC e f c r) fun cs r => .ok (c :: cs, r)) (q := fun l => .ok ([], l)) (then_ends (tl_ends (cat_ends e b)) fun c => then_ends (moreC_ends e f c) fun cs => ret_ends _) (ret_ends _)
theorem cats_ends (e : Nat) : Ends (catsP e) := then_ends (cat_ends e (-1)) fun c => fun l b r h => by
  obtain ⟨zs, r1, h1, h2⟩ := andThen_some h
  cases h2
  exact moreC_ends e _ c l zs r h1
theorem label_ends (e : Nat) : Ends (labelP e) :=
  then_ends (want_ends e [123]) fun _ => if_ends (c := seesP [125]) (p := fun r => .ok (0, r.tail)) (q := fun r => andThen (catsP e r) fun cs r => andThen (wantP e [125] r) fun _ r => .ok (Lb.orAll cs, r)) (fun l a r h => by cases h; exact tail_sfx l) (then_ends (cats_ends e) fun cs => then_ends (want_ends e [125]) fun _ => ret_ends _)
theorem cond_ends (e : Nat) : Ends (condP e) := then_ends (one_ends _ e) fun _ => then_ends (num_ends e _ _) fun _ => ret_ends _
theorem agg_ends (e : Nat) : Ends (aggP e) := then_ends (one_ends _ e) fun _ => then_ends (want_ends e _) fun _ => then_ends (name_ends e) fun _ => then_ends (want_ends e _) fun _ => ret_ends _
theorem have_ends (e : Nat) : Ends (haveP e) := then_ends (agg_ends e) fun _ => then_ends (cond_ends e) fun _ => ret_ends _
theorem bound_ends (e : Nat) : Ends (boundP e) := if_ends (c := seesP [64]) (p := fun l => andThen (labelP e l.tail) fun b r => .ok ((true, b), r)) (q := fun l => .ok ((false, 0), l)) (then_ends (tl_ends (label_ends e)) fun _ => ret_ends _) (ret_ends _)
theorem conds_ends (e : Nat) : Ends (condsP e) := if_ends (c := seesP [91]) (p := fun l => andThen (listP [44] (condP e) l.tail) fun cs r => andThen (wantP e [93] r) fun _ r => .ok (cs, r)) (q := fun l => .ok ([], l)) (then_ends (tl_ends (list_ends (cond_ends e))) fun _ => then_ends (want_ends e _) fun _ => ret_ends _) (ret_ends _)
theorem nm_ends (e : Nat) : Ends (nmP e) := if_ends (c := seesP [58]) (p := fun l => nameP e l.tail) (q := fun l => .ok ([], l)) (tl_ends (name_ends e)) (ret_ends _)
theorem atom_ends (e : Nat) : Ends (atomP e) := then_ends (letter_ends e) fun _ => then_ends (bound_ends e) fun _ => then_ends (conds_ends e) fun _ => then_ends (nm_ends e) fun _ => ret_ends _
theorem times_ends (e : Nat) : Ends (timesP e) := if_ends (c := seesP [123]) (p := fun l => andThen (numP e 0 99 l.tail) fun a r => andThen (wantP e [44] r) fun _ r => andThen (numP e 0 99 r) fun b r => andThen (wantP e [125] r) fun _ r => .ok ((a, b), r)) (q := fun l => .ok ((1, 1), l)) (then_ends (tl_ends (num_ends e 0 99)) fun _ => then_ends (want_ends e _) fun _ => then_ends (num_ends e 0 99) fun _ => then_ends (want_ends e _) fun _ => ret_ends _) (ret_ends _)
theorem unit_ends (e : Nat) {pat : List T → R Nd} (hp : Ends pat) : Ends (unitP e pat) := if_ends (c := seesP [40]) (p := fun l => andThen (pat l.tail) fun n r => andThen (wantP e [41] r) fun _ r => .ok (n, r)) (q := fun l => andThen (atomP e l) fun a r => andThen (timesP e r) fun m r => .ok (Nd.mk 1 m.1 m.2 a [], r)) (then_ends (tl_ends hp) fun _ => then_ends (want_ends e _) fun _ => ret_ends _) (then_ends (atom_ends e) fun _ => then_ends (times_ends e) fun _ => ret_ends _)
theorem item_ends (e : Nat) {pat : List T → R Nd} (hp : Ends pat) : Ends (itemP e pat) := if_ends (c := seesP [110, 111, 116]) (p := fun l => andThen (atomP e l.tail) fun a r => .ok (Nd.mk 2 0 0 a [], r)) (q := unitP e pat) (then_ends (tl_ends (atom_ends e)) fun _ => ret_ends _) (unit_ends e hp)
theorem seq_ends (e : Nat) {pat : List T → R Nd} (hp : Ends pat) : Ends (seqP e pat) := then_ends (list_ends (item_ends e hp)) fun _ => ret_ends _
theorem alt_ends (e : Nat) {pat : List T → R Nd} (hp : Ends pat) : Ends (altP e pat) := then_ends (list_ends (seq_ends e hp)) fun _ => ret_ends _
theorem pat_ends (e : Nat) : ∀ f, Ends (patP e f)
  | 0 => fun l a r h => by cases h
  | f + 1 => alt_ends e (pat_ends e f)
theorem haves_ends (e : Nat) : Ends (havesP e) := if_ends (c := seesP havingA) (p := fun l => listP andA (haveP e) l.tail) (q := fun l => .ok ([], l)) (tl_ends (list_ends (have_ends e))) (ret_ends _)
theorem emits_ends (e : Nat) : Ends (emitsP e) := if_ends (c := seesP emitA) (p := fun l => listP [44] (aggP e) l.tail) (q := fun l => .ok ([], l)) (tl_ends (list_ends (agg_ends e))) (ret_ends _)
theorem query_ends (e f : Nat) : Ends (queryP e f) := then_ends (pat_ends e f) fun _ => then_ends (want_ends e _) fun _ => then_ends (num_ends e _ _) fun _ => then_ends (haves_ends e) fun _ => then_ends (emits_ends e) fun _ => ret_ends _
end Go.Proofs.YtmfcjaoajanlfaaGreatDoor.P9
namespace Go.Proofs.YtmfcjaoajanlfaaGreatDoor.P9
open Go.Proofs.YtmfcjaoajanlfaaGreatDoor.Tk7 Go.Proofs.YtmfcjaoajanlfaaGreatDoor.A8

/-! One token in front of what follows. -/
/-- Nothing follows, or a byte for which p is false. -/
def Nx (p : UInt8 → Bool) (r : List UInt8) : Prop := ∀ b t, r = b :: t → p b = false
theorem nx_nil (p : UInt8 → Bool) : Nx p [] := fun _ _ e => by cases e
theorem nx_cons {p : UInt8 → Bool} {c : UInt8} {u : List UInt8} (hc : p c = false) : Nx p (c :: u) := fun b t e => by obtain ⟨rfl, _⟩ := List.cons.inj e; exact hc
theorem while_app {p : UInt8 → Bool} : ∀ {x r : List UInt8}, (∀ b ∈ x, p b = true) → Nx p r → (x ++ r).takeWhile p = x
  | [], r, _, hr => by
    cases r with
    | nil => rfl
    | cons b t => rw [List.nil_append, List.takeWhile_cons, if_neg (by rw [hr b t rfl]; decide)]
  | c :: x, r, hx, hr => by
    rw [List.cons_append, List.takeWhile_cons, if_pos (hx c (by simp)), while_app (fun b hb => hx b (List.mem_cons_of_mem _ hb)) hr]
/-- The text x is the first token of x ++ r, of this kind. -/
structure Fits (kd : Nat) (x r : List UInt8) : Prop where
  beg : begG (x ++ r) = (kd, x.length)
  hd : ∃ b t, x = b :: t ∧ blankB b = false
theorem toks_fit {kd : Nat} {x r : List UInt8} (h : Fits kd x r) (k : Nat) : toksG (x ++ r) k = glue (kd, x, k) (toksG r (k + x.length)) := by
  obtain ⟨h1, b, t, rfl, hb⟩ := h
  rw [toksG_eq]
  rw [List.cons_append] at h1 ⊢
  rw [List.dropWhile_cons, if_neg (by rw [hb]; decide)]
  simp only
  rw [h1]
  simp only
  rw [if_neg (by simp), Nat.sub_self, Nat.add_zero, ← List.cons_append, List.take_left, List.drop_left]
theorem small_not {b : UInt8} (h : smallB b = true) : blankB b = false := by
  cases e : blankB b
  · rfl
  · rw [(blank_not e).1] at h; cases h
theorem fits_word {x r : List UInt8} (hx : ∀ b ∈ x, smallB b = true) (hn : x ≠ []) (hr : Nx smallB r) : Fits 1 x r := by
  cases x with
  | nil => exact absurd rfl hn
  | cons b t =>
    have hb := hx b (by simp)
    refine ⟨?_, b, t, rfl, small_not hb⟩
    rw [List.cons_append, begG, if_pos hb, while_app (fun c hc => hx c (List.mem_cons_of_mem _ hc)) hr]
    rfl
theorem fits_letter {b : UInt8} (r : List UInt8) (hb : largeB b = true) : Fits 2 [b] r := by
  have h1 : smallB b = false := by
    unfold largeB at hb
    unfold smallB
    simp only [Bool.and_eq_true, decide_eq_true_eq] at hb
    simp only [Bool.and_eq_false_iff, decide_eq_false_iff_not]
    omega
  have h2 : blankB b = false := by
    cases e : blankB b
    · rfl
    · rw [(blank_not e).2.1] at hb; cases hb
  refine ⟨?_, b, [], rfl, h2⟩
  rw [List.cons_append, begG, if_neg (by rw [h1]; decide), if_pos hb]
  rfl
/-- A sign of one byte that does not begin a longer one. -/
def signB (b : UInt8) : Bool := oneB b && !smallB b && !largeB b && !digB b && !(b == 45) && !blankB b
theorem fits_sign {b : UInt8} {r : List UInt8} (hb : signB b = true) (hr : twoB b = false ∨ ∀ t, r ≠ 61 :: t) : Fits 4 [b] r := by
  unfold signB at hb
  simp only [Bool.and_eq_true, Bool.not_eq_true'] at hb
  obtain ⟨⟨⟨⟨⟨h1, h2⟩, h3⟩, h4⟩, h5⟩, h6⟩ := hb
  refine ⟨?_, b, [], rfl, h6⟩
  have h7 : (twoB b && (r.head? == some 61)) = false := by
    rcases hr with h | h
    · rw [h]; rfl
    · cases r with
      | nil => simp
      | cons c t =>
        have : c ≠ 61 := fun e => h t (by rw [e])
        simp [this]
  show begG (b :: r) = _
  rw [begG, if_neg (by rw [h2]; decide), if_neg (by rw [h3]; decide), if_neg (by rw [h4, h5]; decide), signG, if_neg (by rw [h7]; decide), if_pos h1]
  rfl
theorem fits_two {b : UInt8} (r : List UInt8) (hb : twoB b = true) (hn : smallB b = false ∧ largeB b = false ∧ digB b = false ∧ (b == 45) = false ∧ blankB b = false) : Fits 4 [b, 61] r := by
  obtain ⟨h2, h3, h4, h5, h6⟩ := hn
  refine ⟨?_, b, [61], rfl, h6⟩
  show begG (b :: 61 :: r) = _
  rw [begG, if_neg (by rw [h2]; decide), if_neg (by rw [h3]; decide), if_neg (by rw [h4, h5]; decide), signG, if_pos (by rw [hb]; rfl)]
  rfl
theorem dig_not {b : UInt8} (h : digB b = true) : smallB b = false ∧ largeB b = false ∧ blankB b = false ∧ (b == 45) = false := by
  have hb : blankB b = false := by
    cases e : blankB b
    · rfl
    · rw [(blank_not e).2.2.1] at h; cases h
  unfold digB at h
  simp only [Bool.and_eq_true, decide_eq_true_eq] at h
  refine ⟨?_, ?_, hb, ?_⟩
  · unfold smallB; simp only [Bool.and_eq_false_iff, decide_eq_false_iff_not]; omega
  · unfold largeB; simp only [Bool.and_eq_false_iff, decide_eq_false_iff_not]; omega
  · cases e : (b == 45)
    · rfl
    · rw [beq_iff_eq] at e; subst e; exact absurd h (by decide)
theorem dec_form (u : Nat) : (∀ b ∈ Lib.decDigits u, digB b = true) ∧ ∃ b t, Lib.decDigits u = b :: t ∧ (b = 48 → t = [] ∧ u = 0) := by
  have h1 : ∀ b ∈ Lib.decDigits u, digB b = true := fun b hb => Sm.dec_all u b hb
  refine ⟨h1, ?_⟩
  by_cases h0 : u = 0
  · subst h0
    exact ⟨48, [], by rw [Sm.dec_one (by omega)]; rfl, fun _ => ⟨rfl, rfl⟩⟩
  · obtain ⟨d, ds, e, hd⟩ := Sm.dec_head u (by omega)
    exact ⟨d, ds, e, fun h => by subst h; exact absurd hd (by decide)⟩
theorem fits_num (v : Int) {r : List UInt8} (hr : Nx digB r) : Fits 3 (Lib.itoa v) r := by
  by_cases h : 0 ≤ v
  · rw [Sm.itoa_pos h]
    obtain ⟨h1, b, t, e, h2⟩ := dec_form v.toNat
    rw [e] at h1 ⊢
    have hb := h1 b (by simp)
    obtain ⟨n1, n2, n3, n4⟩ := dig_not hb
    refine ⟨?_, b, t, rfl, n3⟩
    have hw := while_app (p := digB) (x := t) (r := r) (fun c hc => h1 c (List.mem_cons_of_mem _ hc)) hr
    rw [List.cons_append, begG, if_neg (by rw [n1]; decide), if_neg (by rw [n2]; decide), if_pos (by rw [hb]; rfl), numG, if_neg (by rw [n4]; decide), hw]
    have hR : rightD false (b :: t) = true := by
      unfold rightD
      by_cases e48 : b = 48
      · obtain ⟨rfl, -⟩ := h2 e48
        subst e48
        rfl
      · simp [e48]
    rw [if_pos hR]
    rfl
  · rw [Sm.itoa_neg (by omega)]
    obtain ⟨h1, b, t, e, h2⟩ := dec_form v.natAbs
    refine ⟨?_, 45, _, rfl, by decide⟩
    have hw := while_app (p := digB) (x := Lib.decDigits v.natAbs) (r := r) h1 hr
    rw [List.cons_append, begG, if_neg (by decide), if_neg (by decide), if_pos (by decide), numG, if_pos (by decide), hw]
    have hR : rightD true (Lib.decDigits v.natAbs) = true := by
      rw [e]
      unfold rightD
      by_cases e48 : b = 48
      · exact absurd (h2 e48).2 (by omega)
      · simp [e48]
    rw [if_pos hR]
    rfl
theorem val_itoa {v : Int} (h : Sm.okI v = true) : Sm.valV (Lib.itoa v) = v := by
  have h1 := Sm.int_itoa v h
  obtain ⟨h1, h2⟩ := h1
  unfold Sm.intE at h2
  cases hf : Sm.formB (Lib.itoa v) with
  | false => rw [if_neg (by rw [hf]; decide)] at h2; exact absurd h2 (by decide)
  | true =>
    rw [if_pos hf] at h2
    cases ho : Sm.okI (Sm.valV (Lib.itoa v)) with
    | false => rw [if_neg (by rw [ho]; decide)] at h2; exact absurd h2 (by decide)
    | true =>
      unfold Sm.intN at h1
      rw [if_pos hf, Sm.numI_ok ho] at h1
      exact h1

/-! What reads a part. -/
/-- The first byte that is no blank is none of these. -/
def Nb (l : List UInt8) (r : List UInt8) : Prop := ∀ b t, r.dropWhile blankB = b :: t → b ∉ l
theorem Nb.mono {l l' r : List UInt8} (h : Nb l r) (hs : ∀ b ∈ l', b ∈ l) : Nb l' r := fun b t e hb => h b t e (hs b hb)
theorem nb_nil (l : List UInt8) : Nb l [] := fun _ _ e => by cases e
theorem nb_cons {l : List UInt8} {b : UInt8} {r : List UInt8} (hb : blankB b = false) (h : b ∉ l) : Nb l (b :: r) := fun c t e => by
  rw [List.dropWhile_cons, if_neg (by rw [hb]; decide)] at e
  obtain ⟨rfl, _⟩ := List.cons.inj e
  exact h
theorem nb_blank {l : List UInt8} {b : UInt8} {r : List UInt8} (hb : blankB b = true) : Nb l (b :: r) ↔ Nb l r := by
  unfold Nb
  rw [List.dropWhile_cons, if_pos hb]
theorem sees_not {c : UInt8} {s l r : List UInt8} {k : Nat} {ts : List T} (hc : c ∈ l) (h : Nb l r) (ht : toksG r k = .ok ts) : seesP (c :: s) ts = false := by
  rw [toksG_eq] at ht
  cases hd : r.dropWhile blankB with
  | nil => rw [hd] at ht; cases ht; rfl
  | cons b t =>
    rw [hd] at ht
    simp only at ht
    have hb := h b t hd
    split at ht
    · cases ht
    · rename_i hz
      cases hr : toksG ((b :: t).drop (begG (b :: t)).2) (k + (r.length - (b :: t).length) + (begG (b :: t)).2) with
      | error y => rw [hr] at ht; cases ht
      | ok us =>
        rw [hr] at ht
        cases ht
        show (((b :: t).take (begG (b :: t)).2) == c :: s) = false
        obtain ⟨n, hn⟩ : ∃ n, (begG (b :: t)).2 = n + 1 := ⟨(begG (b :: t)).2 - 1, by omega⟩
        rw [hn, List.take_succ_cons]
        have : b ≠ c := fun e => hb (e ▸ hc)
        simp [this]
/-- p reads the bytes x as a, where F follows; with W no token of them is the word within. -/
def Reads {α : Type} (W : Prop) (p : Nat → List T → R α) (x : List UInt8) (a : α) (F : List UInt8 → Prop) : Prop :=
  ∀ r k ts, F r → toksG r (k + x.length) = .ok ts → ∃ us, toksG (x ++ r) k = .ok (us ++ ts) ∧ (∀ f, (us ++ ts).length ≤ f → p f (us ++ ts) = .ok (a, ts)) ∧ (W → ∀ t ∈ us, t.2.1 ≠ withinA)
theorem Reads.mono {α : Type} {W : Prop} {p : Nat → List T → R α} {x : List UInt8} {a : α} {F G : List UInt8 → Prop} (h : Reads W p x a F) (hG : ∀ r, G r → F r) : Reads W p x a G := fun r k ts hr => h r k ts (hG r hr)
theorem Reads.weak {α : Type} {W V : Prop} {p : Nat → List T → R α} {x : List UInt8} {a : α} {F : List UInt8 → Prop} (h : Reads W p x a F) (hV : V → W) : Reads V p x a F := fun r k ts hr ht => by
  obtain ⟨us, h1, h2, h3⟩ := h r k ts hr ht
  exact ⟨us, h1, h2, fun v => h3 (hV v)⟩
theorem reads_ret {α : Type} {W : Prop} (a : α) (F : List UInt8 → Prop) : Reads W (fun _ l => .ok (a, l)) [] a F := fun r k ts _ ht => ⟨[], ht, fun _ _ => rfl, fun _ t h => by cases h⟩
theorem reads_then {α β : Type} {W : Prop} {p : Nat → List T → R α} {q : Nat → α → List T → R β} {x y : List UInt8} {a : α} {b : β} {F G : List UInt8 → Prop} (hp : Reads W p x a F) (hq : Reads W (fun f => q f a) y b G) (hF : ∀ r, G r → F (y ++ r)) :
    Reads W (fun f l => andThen (p f l) (q f)) (x ++ y) b G := fun r k ts hr ht => by
  rw [List.length_append, ← Nat.add_assoc] at ht
  obtain ⟨us, h1, h2, h3⟩ := hq r (k + x.length) ts hr ht
  obtain ⟨vs, g1, g2, g3⟩ := hp (y ++ r) k (us ++ ts) (hF r hr) h1
  refine ⟨vs ++ us, by rw [List.append_assoc, List.append_assoc]; exact g1, fun f hf => ?_, fun w t ht => ?_⟩
  · rw [List.append_assoc] at hf ⊢
    show andThen (p f (vs ++ (us ++ ts))) (q f) = _
    rw [g2 f hf, andThen_ok]
    exact h2 f (by rw [List.length_append] at hf; omega)
  · rcases List.mem_append.1 ht with h | h
    · exact g3 w t h
    · exact h3 w t h
theorem reads_blank {α : Type} {W : Prop} {p : Nat → List T → R α} {x : List UInt8} {a : α} {F : List UInt8 → Prop} {b : UInt8} (hb : blankB b = true) (h : Reads W p x a F) : Reads W p (b :: x) a F := fun r k ts hr ht => by
  have e : k + (b :: x).length = (k + 1) + x.length := by simp only [List.length_cons]; omega
  rw [e] at ht
  obtain ⟨us, h1, h2, h3⟩ := h r (k + 1) ts hr ht
  refine ⟨us, ?_, h2, h3⟩
  have := toks_blank (g := [b]) (fun c hc => by rw [List.mem_singleton.1 hc]; exact hb) (x ++ r) k
  exact this.trans h1
/-- One token, and what p makes of it. -/
theorem reads_tok {α : Type} {W : Prop} {p : Nat → List T → R α} {kd : Nat} {x : List UInt8} {a : α} {F : List UInt8 → Prop} (hf : ∀ r, F r → Fits kd x r) (hw : W → x ≠ withinA) (hp : ∀ f k ts, (ts.length + 1 ≤ f) → p f ((kd, x, k) :: ts) = .ok (a, ts)) : Reads W p x a F := fun r k ts hr ht => by
  refine ⟨[(kd, x, k)], ?_, fun f h => hp f k ts (by simpa using h), fun w t hm => ?_⟩
  · rw [toks_fit (hf r hr), ht]; rfl
  · rw [List.mem_singleton.1 hm]; exact hw w
theorem reads_want {W : Prop} {kd : Nat} {x : List UInt8} {F : List UInt8 → Prop} (e : Nat) (hf : ∀ r, F r → Fits kd x r) (hw : W → x ≠ withinA) : Reads W (fun _ => wantP e x) x () F :=
  reads_tok hf hw fun f k ts _ => by
    unfold wantP seesP
    rw [if_pos (by simp)]
    rfl
/-- .. that must come first, and then the rest. -/
theorem reads_see {α : Type} {W : Prop} {p q : Nat → List T → R α} {kd : Nat} {x y : List UInt8} {a : α} {F : List UInt8 → Prop} (hf : ∀ r, F r → Fits kd x (y ++ r)) (hw : W → x ≠ withinA) (hp : Reads W p y a F) :
    Reads W (fun f l => if seesP x l = true then p f l.tail else q f l) (x ++ y) a F := fun r k ts hr ht => by
  rw [List.length_append, ← Nat.add_assoc] at ht
  obtain ⟨us, h1, h2, h3⟩ := hp r (k + x.length) ts hr ht
  refine ⟨(kd, x, k) :: us, ?_, fun f h => ?_, fun w t hm => ?_⟩
  · rw [List.append_assoc, toks_fit (hf r hr), h1]; rfl
  · show (if seesP x ((kd, x, k) :: (us ++ ts)) = true then p f (us ++ ts) else _) = _
    rw [if_pos (by simp [seesP])]
    exact h2 f (by simp at h ⊢; omega)
  · rcases List.mem_cons.1 hm with rfl | hm
    · exact hw w
    · exact h3 w t hm
/-- .. that does not come, as the first byte tells. -/
theorem reads_pass {α : Type} {W : Prop} {p q : Nat → List T → R α} {c : UInt8} {s x : List UInt8} {a : α} {F : List UInt8 → Prop} (hn : ∀ r, F r → Nb [c] (x ++ r)) (hq : Reads W q x a F) :
    Reads W (fun f l => if seesP (c :: s) l = true then p f l.tail else q f l) x a F := fun r k ts hr ht => by
  obtain ⟨us, h1, h2, h3⟩ := hq r k ts hr ht
  refine ⟨us, h1, fun f h => ?_, h3⟩
  show (if seesP (c :: s) (us ++ ts) = true then _ else _) = _
  rw [if_neg (by rw [sees_not (c := c) (s := s) (by simp) (hn r hr) h1]; decide)]
  exact h2 f h
/-- A list of parts. -/
theorem reads_list {α : Type} {W : Prop} {p : Nat → List T → R α} {c : UInt8} {s sb : List UInt8} {g : α → List UInt8} {F G : List UInt8 → Prop}
    (hs : ∀ y k ts, toksG y (k + sb.length) = .ok ts → ∃ t, toksG (sb ++ y) k = .ok (t :: ts) ∧ t.2.1 = c :: s ∧ (W → t.2.1 ≠ withinA)) (hF : ∀ r, F (sb ++ r)) (hG : ∀ r, G r → F r ∧ Nb [c] r) :
    ∀ (l : List α), l ≠ [] → (∀ a ∈ l, Reads W p (g a) a F) → Reads W (fun f => listP (c :: s) (p f)) (sepL sb (l.map g)) l G := by
  have more : ∀ (l : List α), (∀ a ∈ l, Reads W p (g a) a F) → ∀ r k ts, G r → toksG r (k + ((l.map fun a => sb ++ g a).flatten).length) = .ok ts →
      F ((l.map fun a => sb ++ g a).flatten ++ r) ∧ ∃ us, toksG ((l.map fun a => sb ++ g a).flatten ++ r) k = .ok (us ++ ts) ∧ (∀ f m, (us ++ ts).length ≤ f → (us ++ ts).length ≤ m → moreP (c :: s) (p f) m (us ++ ts) = .ok (l, ts)) ∧ (W → ∀ t ∈ us, t.2.1 ≠ withinA) := by
    intro l
    induction l with
    | nil =>
      intro _ r k ts hr ht
      refine ⟨(hG r hr).1, [], ht, fun f m _ _ => ?_, fun _ t h => by cases h⟩
      have hn := sees_not (c := c) (s := s) (by simp) (hG r hr).2 ht
      cases m with
      | zero => rfl
      | succ m =>
        show (if seesP (c :: s) ts = true then _ else _) = _
        rw [if_neg (by rw [hn]; decide)]
        rfl
    | cons a l ih =>
      intro hp r k ts hr ht
      have hl : k + (((a :: l).map fun a => sb ++ g a).flatten).length = (k + sb.length + (g a).length) + ((l.map fun a => sb ++ g a).flatten).length := by
        simp only [List.map_cons, List.flatten_cons, List.length_append]; omega
      rw [hl] at ht
      obtain ⟨i0, us, i1, i2, i3⟩ := ih (fun b hb => hp b (List.mem_cons_of_mem _ hb)) r _ ts hr ht
      obtain ⟨vs, j1, j2, j3⟩ := hp a (by simp) _ (k + sb.length) (us ++ ts) i0 i1
      obtain ⟨t, q1, q2, q3⟩ := hs _ k _ j1
      have ee : ((a :: l).map fun a => sb ++ g a).flatten ++ r = sb ++ (g a ++ ((l.map fun a => sb ++ g a).flatten ++ r)) := by
        simp only [List.map_cons, List.flatten_cons, List.append_assoc]
      refine ⟨by rw [ee]; exact hF _, t :: (vs ++ us), ?_, fun f m hf hm => ?_, fun w u hu => ?_⟩
      · rw [ee, q1]; simp
      · cases m with
        | zero => simp at hm
        | succ m =>
          simp only [List.cons_append, List.append_assoc, List.length_cons, List.length_append] at hf hm ⊢
          show (if seesP (c :: s) (t :: (vs ++ (us ++ ts))) = true then _ else _) = _
          rw [if_pos (by simp [seesP, q2])]
          show andThen (p f (vs ++ (us ++ ts))) _ = _
          rw [j2 f (by simp only [List.length_append]; omega), andThen_ok, i2 f m (by simp only [List.length_append]; omega) (by simp only [List.length_append]; omega)]
          rfl
      · rcases List.mem_cons.1 hu with rfl | hu
        · exact q3 w
        · rcases List.mem_append.1 hu with hu | hu
          · exact j3 w u hu
          · exact i3 w u hu
  have sep_flat : ∀ (a : α) (l : List α), sepL sb ((a :: l).map g) = g a ++ (l.map fun a => sb ++ g a).flatten := by
    intro a l
    induction l generalizing a with
    | nil => simp [sepL]
    | cons b l ih =>
      rw [List.map_cons, List.map_cons, sepL, ← List.map_cons, ih b]
      simp only [List.map_cons, List.flatten_cons, List.append_assoc]
  intro l hl hp
  cases l with
  | nil => exact absurd rfl hl
  | cons a l =>
    rw [sep_flat]
    intro r k ts hr ht
    rw [List.length_append, ← Nat.add_assoc] at ht
    obtain ⟨i0, us, i1, i2, i3⟩ := more l (fun b hb => hp b (List.mem_cons_of_mem _ hb)) r _ ts hr ht
    obtain ⟨vs, j1, j2, j3⟩ := hp a (by simp) _ k (us ++ ts) i0 i1
    refine ⟨vs ++ us, by rw [List.append_assoc, List.append_assoc]; exact j1, fun f hf => ?_, fun w t hm => ?_⟩
    · rw [List.append_assoc] at hf ⊢
      show andThen (p f (vs ++ (us ++ ts))) _ = _
      rw [j2 f hf, andThen_ok, i2 f _ (by rw [List.length_append] at hf; omega) (Nat.le_refl _)]
      rfl
    · rcases List.mem_append.1 hm with h | h
      · exact j3 w t h
      · exact i3 w t h
theorem tok_letter {l : List UInt8} (h : isTok 2 l = true) : ∃ c, l = [c] ∧ largeB c = true := by
  obtain ⟨h1, h2⟩ := isTok_iff.1 h
  cases l with
  | nil => exact absurd rfl h2
  | cons b r =>
    simp only [begG] at h1
    split at h1
    · cases h1
    · split at h1
      · rename_i hl
        have : r = [] := List.eq_nil_of_length_eq_zero (by
          have := (Prod.mk.inj h1).2
          simp only [List.length_cons] at this
          omega)
        exact ⟨b, by rw [this], hl⟩
      · split at h1 <;> cases h1
theorem isTok_one {k : Nat} {l : List UInt8} (h : isTok k l = true) (hs : ∀ b ∈ l, smallB b = true) (hn : l ≠ []) : k = 1 := by
  obtain ⟨h1, _⟩ := isTok_iff.1 h
  have h3 := (fits_word hs hn (nx_nil _)).beg
  rw [List.append_nil, h1] at h3
  exact (Prod.mk.inj h3).1
end Go.Proofs.YtmfcjaoajanlfaaGreatDoor.P9
namespace Go.Proofs.YtmfcjaoajanlfaaGreatDoor.P9
open Go.Proofs.YtmfcjaoajanlfaaGreatDoor.Tk7 Go.Proofs.YtmfcjaoajanlfaaGreatDoor.A8

theorem itoa_not (v : Int) : Lib.itoa v ≠ withinA := fun h => by
  have := (fits_num v (nx_nil _)).beg
  rw [List.append_nil, h] at this
  exact absurd this (by decide)
theorem reads_num {W : Prop} (e : Nat) {lo hi v : Int} (ho : Sm.okI v = true) (h1 : lo ≤ v) (h2 : v ≤ hi) : Reads W (fun _ => numP e lo hi) (Lib.itoa v) v (Nx digB) :=
  reads_tok (kd := 3) (fun r hr => fits_num v hr) (fun _ => itoa_not v) fun f k ts _ => by
    simp only [numP]
    rw [if_pos trivial, if_pos ⟨by rw [val_itoa ho]; exact ho, by rw [val_itoa ho]; exact h1, by rw [val_itoa ho]; exact h2⟩, val_itoa ho]
theorem reads_map {α β : Type} {W : Prop} {p : Nat → List T → R α} {x : List UInt8} {a : α} {F : List UInt8 → Prop} (g : α → β) (h : Reads W p x a F) : Reads W (fun f l => andThen (p f l) fun v r => .ok (g v, r)) x (g a) F := by
  have := reads_then (q := fun _ v r => .ok (g v, r)) h (reads_ret (g a) F) (fun r hr => hr)
  rw [List.append_nil] at this
  exact this
theorem name_facts {s : List UInt8} (h : nameB s = true) : (∀ b ∈ s, smallB b = true) ∧ s ≠ [] ∧ s ≠ withinA ∧ s.length ≤ 8 := by
  unfold nameB at h
  simp only [Bool.and_eq_true, decide_eq_true_eq, Bool.not_eq_true'] at h
  obtain ⟨⟨⟨h1, h2⟩, h3⟩, h4⟩ := h
  refine ⟨List.all_eq_true.1 h3, fun e => ?_, fun e => ?_, h2⟩
  · rw [e] at h1; simp at h1
  · rw [e] at h4; exact absurd h4 (by decide)
theorem reads_name {W : Prop} (e : Nat) {s : List UInt8} (h : nameB s = true) : Reads W (fun _ => nameP e) s s (Nx smallB) :=
  reads_tok (kd := 1) (fun r hr => fits_word (name_facts h).1 (name_facts h).2.1 hr) (fun _ => (name_facts h).2.2.1) fun f k ts _ => by
    show (if nameB s = true then _ else _) = _
    rw [if_pos h]
/-- Behind an operator. -/
def NoEq (r : List UInt8) : Prop := ∀ t, r ≠ 61 :: t
theorem reads_op {W : Prop} (e : Nat) {i : Int} (h1 : 1 ≤ i) (h2 : i ≤ 6) : Reads W (fun _ => oneP opsA e) (opsA.getD i.toNat []) i NoEq := by
  have h : i = 1 ∨ i = 2 ∨ i = 3 ∨ i = 4 ∨ i = 5 ∨ i = 6 := by omega
  have one : ∀ b : UInt8, signB b = true → (fun r => NoEq r) = NoEq := fun _ _ => rfl
  rcases h with rfl | rfl | rfl | rfl | rfl | rfl
  · exact reads_tok (kd := 4) (x := [61]) (fun r hr => fits_sign (by decide) (.inl (by decide))) (fun _ => by decide) fun f k ts _ => rfl
  · exact reads_tok (kd := 4) (x := [33, 61]) (fun r hr => fits_two r (by decide) (by decide)) (fun _ => by decide) fun f k ts _ => rfl
  · exact reads_tok (kd := 4) (x := [60]) (fun r hr => fits_sign (by decide) (.inr hr)) (fun _ => by decide) fun f k ts _ => rfl
  · exact reads_tok (kd := 4) (x := [60, 61]) (fun r hr => fits_two r (by decide) (by decide)) (fun _ => by decide) fun f k ts _ => rfl
  · exact reads_tok (kd := 4) (x := [62]) (fun r hr => fits_sign (by decide) (.inr hr)) (fun _ => by decide) fun f k ts _ => rfl
  · exact reads_tok (kd := 4) (x := [62, 61]) (fun r hr => fits_two r (by decide) (by decide)) (fun _ => by decide) fun f k ts _ => rfl
theorem reads_fun {W : Prop} (e : Nat) {i : Int} (h1 : 1 ≤ i) (h2 : i ≤ 6) : Reads W (fun _ => oneP funsA e) (funsA.getD i.toNat []) i (Nx smallB) := by
  have h : i = 1 ∨ i = 2 ∨ i = 3 ∨ i = 4 ∨ i = 5 ∨ i = 6 := by omega
  rcases h with rfl | rfl | rfl | rfl | rfl | rfl
  · exact reads_tok (kd := 1) (x := [99, 111, 117, 110, 116]) (fun r hr => fits_word (by decide) (by decide) hr) (fun _ => by decide) fun f k ts _ => rfl
  · exact reads_tok (kd := 1) (x := [115, 117, 109]) (fun r hr => fits_word (by decide) (by decide) hr) (fun _ => by decide) fun f k ts _ => rfl
  · exact reads_tok (kd := 1) (x := [109, 105, 110]) (fun r hr => fits_word (by decide) (by decide) hr) (fun _ => by decide) fun f k ts _ => rfl
  · exact reads_tok (kd := 1) (x := [109, 97, 120]) (fun r hr => fits_word (by decide) (by decide) hr) (fun _ => by decide) fun f k ts _ => rfl
  · exact reads_tok (kd := 1) (x := [102, 105, 114, 115, 116]) (fun r hr => fits_word (by decide) (by decide) hr) (fun _ => by decide) fun f k ts _ => rfl
  · exact reads_tok (kd := 1) (x := [108, 97, 115, 116]) (fun r hr => fits_word (by decide) (by decide) hr) (fun _ => by decide) fun f k ts _ => rfl
theorem itoa_head (v : Int) : ∃ b t, Lib.itoa v = b :: t ∧ (b = 45 ∨ digB b = true) := by
  by_cases h : 0 ≤ v
  · rw [Sm.itoa_pos h]
    obtain ⟨h1, b, t, e, _⟩ := dec_form v.toNat
    exact ⟨b, t, e, .inr (h1 b (by rw [e]; simp))⟩
  · rw [Sm.itoa_neg (by omega)]
    exact ⟨45, _, rfl, .inl rfl⟩
theorem itoa_noEq (v : Int) (r : List UInt8) : NoEq (Lib.itoa v ++ r) := fun t e => by
  obtain ⟨b, u, h1, h2⟩ := itoa_head v
  rw [h1, List.cons_append] at e
  obtain ⟨rfl, _⟩ := List.cons.inj e
  rcases h2 with h2 | h2 <;> exact absurd h2 (by decide)
theorem okI_of {v : Int} (h : okV v) : Sm.okI v = true := Sm.okI_iff.2 h
theorem reads_cond {W : Prop} (e : Nat) {c : Cn} (h : condB c = true) (ho : okC c) : Reads W (fun _ => condP e) (condT c) c (Nx digB) := by
  unfold condB at h
  simp only [Bool.and_eq_true, decide_eq_true_eq] at h
  obtain ⟨op, va⟩ := c
  exact reads_then (W := W) (G := Nx digB) (q := fun _ (o : Int) r => andThen (numP e (-9223372036854775808) 9223372036854775807 r) fun v r => .ok ((⟨o, v⟩ : Cn), r)) (reads_op e h.1 h.2) (reads_map (fun v => (⟨op, v⟩ : Cn)) (reads_num e (okI_of ho.2) ho.2.1 ho.2.2)) fun r _ => itoa_noEq va r
/-! Signs -/
theorem sign_want {W : Prop} (e : Nat) {b : UInt8} (hb : signB b = true) (h2 : twoB b = false) : Reads W (fun _ => wantP e [b]) [b] () (fun _ => True) :=
  reads_want (kd := 4) e (fun r _ => fits_sign hb (.inl h2)) fun _ h => by
    have := congrArg List.length h
    simp [withinA] at this
theorem sign_sep {W : Prop} {b : UInt8} (hb : signB b = true) (h2 : twoB b = false) : ∀ y k ts, toksG y (k + [b].length) = .ok ts → ∃ t, toksG ([b] ++ y) k = .ok (t :: ts) ∧ t.2.1 = b :: [] ∧ (W → t.2.1 ≠ withinA) := fun y k ts h =>
  ⟨(4, [b], k), by rw [toks_fit (fits_sign hb (.inl h2)), h]; rfl, rfl, fun _ h => by
    have := congrArg List.length h
    simp [withinA] at this⟩
theorem nb_app {l x r : List UInt8} (hx : x = [] ∨ ∃ b t, x = b :: t ∧ blankB b = false ∧ b ∉ l) (hr : Nb l r) : Nb l (x ++ r) := by
  rcases hx with rfl | ⟨b, t, rfl, h1, h2⟩
  · exact hr
  · exact nb_cons h1 h2
theorem nx_app {p : UInt8 → Bool} {x r : List UInt8} (hx : x = [] ∨ ∃ b t, x = b :: t ∧ p b = false) (hr : Nx p r) : Nx p (x ++ r) := by
  rcases hx with rfl | ⟨b, t, rfl, h1⟩
  · exact hr
  · exact nx_cons h1

/-! Labels -/
theorem joinSep (sep : List UInt8) : ∀ l : List (List UInt8), Lib.join l sep = sepL sep l
  | [] => rfl
  | [x] => by rw [Lib.join_one, sepL]
  | x :: y :: l => by
    have h := joinSep sep (y :: l)
    rw [Lib.join_cons] at h
    rw [Lib.join_cons, sepL, ← h]
    show x ++ ((y :: l).map (sep ++ ·)).flatten = _
    rw [List.map_cons, List.flatten_cons]
    simp only [List.append_assoc]
    rfl
/-- Ascending, from behind b on. -/
def Asc : Int → List Nat → Prop
  | _, [] => True
  | b, z :: zs => b < (z : Int) ∧ z < 64 ∧ Asc (z : Int) zs
theorem reads_cat {W : Prop} (e : Nat) {b : Int} {z : Nat} (hb : b < (z : Int)) (hz : z < 64) : Reads W (fun _ => catP e b) (Lib.decDigits z) (z : Int) (Nx digB) := fun r k ts hr ht => by
  have h0 : Lib.itoa (z : Int) = Lib.decDigits z := by rw [Sm.itoa_pos (by omega), Int.toNat_natCast]
  obtain ⟨us, h1, h2, h3⟩ := reads_num (W := W) e (lo := 0) (hi := 63) (v := (z : Int)) (Sm.okI_iff.2 (by omega)) (by omega) (by omega) r k ts hr (by rw [h0]; exact ht)
  rw [h0] at h1
  refine ⟨us, h1, fun f hf => ?_, h3⟩
  have h4 := h2 f hf
  show andThen (numP e 0 63 (us ++ ts)) _ = _
  rw [show numP e 0 63 (us ++ ts) = .ok ((z : Int), ts) from h4, andThen_ok, if_neg (by omega)]
theorem reads_cats {W : Prop} (e : Nat) : ∀ (zs : List Nat), zs ≠ [] → Asc (-1) zs → Reads W (fun _ => catsP e) (sepL [44] (zs.map Lib.decDigits)) (zs.map fun (z : Nat) => (z : Int)) (fun r => Nx digB r ∧ Nb [44] r) := by
  have more : ∀ (zs : List Nat) (b : Int), Asc b zs → ∀ r k ts, Nx digB r → Nb [44] r → toksG r (k + ((zs.map fun z => [44] ++ Lib.decDigits z).flatten).length) = .ok ts →
      Nx digB ((zs.map fun z => [44] ++ Lib.decDigits z).flatten ++ r) ∧ ∃ us, toksG ((zs.map fun z => [44] ++ Lib.decDigits z).flatten ++ r) k = .ok (us ++ ts) ∧ (∀ m, (us ++ ts).length ≤ m → moreC e m b (us ++ ts) = .ok (zs.map fun (z : Nat) => (z : Int), ts)) ∧ (W → ∀ t ∈ us, t.2.1 ≠ withinA) := by
    intro zs
    induction zs with
    | nil =>
      intro b _ r k ts hr hn ht
      refine ⟨hr, [], ht, fun m _ => ?_, fun _ t h => by cases h⟩
      have hn := sees_not (c := 44) (s := []) (by simp) hn ht
      cases m with
      | zero => rfl
      | succ m =>
        show (if seesP [44] ts = true then _ else _) = _
        rw [if_neg (by rw [hn]; decide)]
        rfl
    | cons z zs ih =>
      intro b hA r k ts hr hn ht
      have hl : k + (((z :: zs).map fun z => [44] ++ Lib.decDigits z).flatten).length = (k + [44].length + (Lib.decDigits z).length) + ((zs.map fun z => [44] ++ Lib.decDigits z).flatten).length := by
        simp only [List.map_cons, List.flatten_cons, List.length_append]; omega
      rw [hl] at ht
      obtain ⟨i0, us, i1, i2, i3⟩ := ih (z : Int) hA.2.2 r _ ts hr hn ht
      obtain ⟨vs, j1, j2, j3⟩ := reads_cat (W := W) e hA.1 hA.2.1 _ (k + [44].length) (us ++ ts) i0 i1
      obtain ⟨t, q1, q2, q3⟩ := sign_sep (W := W) (b := 44) (by decide) (by decide) _ k _ j1
      have ee : ((z :: zs).map fun z => [44] ++ Lib.decDigits z).flatten ++ r = [44] ++ (Lib.decDigits z ++ ((zs.map fun z => [44] ++ Lib.decDigits z).flatten ++ r)) := by
        simp only [List.map_cons, List.flatten_cons, List.append_assoc]
      refine ⟨by rw [ee]; exact nx_cons (by decide), t :: (vs ++ us), ?_, fun m hm => ?_, fun w u hu => ?_⟩
      · rw [ee, q1]; simp
      · cases m with
        | zero => simp at hm
        | succ m =>
          simp only [List.cons_append, List.append_assoc, List.length_cons, List.length_append] at hm ⊢
          show (if seesP [44] (t :: (vs ++ (us ++ ts))) = true then andThen (catP e b (vs ++ (us ++ ts))) _ else _) = _
          rw [if_pos (by simp [seesP, q2]), show catP e b (vs ++ (us ++ ts)) = _ from j2 _ (Nat.le_refl _), andThen_ok, i2 m (by simp only [List.length_append]; omega)]
          rfl
      · rcases List.mem_cons.1 hu with rfl | hu
        · exact q3 w
        · rcases List.mem_append.1 hu with hu | hu
          · exact j3 w u hu
          · exact i3 w u hu
  have sep_flat : ∀ (a : Nat) (l : List Nat), sepL [44] ((a :: l).map Lib.decDigits) = Lib.decDigits a ++ (l.map fun a => [44] ++ Lib.decDigits a).flatten := by
    intro a l
    induction l generalizing a with
    | nil => simp [sepL]
    | cons b l ih =>
      rw [List.map_cons, List.map_cons, sepL, ← List.map_cons, ih b]
      simp only [List.map_cons, List.flatten_cons, List.append_assoc]
  intro zs hz hA
  cases zs with
  | nil => exact absurd rfl hz
  | cons z zs =>
    rw [sep_flat]
    intro r k ts hr ht
    rw [List.length_append, ← Nat.add_assoc] at ht
    obtain ⟨i0, us, i1, i2, i3⟩ := more zs (z : Int) hA.2.2 r _ ts hr.1 hr.2 ht
    obtain ⟨vs, j1, j2, j3⟩ := reads_cat (W := W) e hA.1 hA.2.1 _ k (us ++ ts) i0 i1
    refine ⟨vs ++ us, by rw [List.append_assoc, List.append_assoc]; exact j1, fun f hf => ?_, fun w t hm => ?_⟩
    · rw [List.append_assoc] at hf ⊢
      show andThen (catP e (-1) (vs ++ (us ++ ts))) _ = _
      rw [show catP e (-1) (vs ++ (us ++ ts)) = _ from j2 f hf, andThen_ok, i2 _ (Nat.le_refl _)]
      rfl
    · rcases List.mem_append.1 hm with h | h
      · exact j3 w t h
      · exact i3 w t h
def orN (zs : List Nat) : Nat := zs.foldl (fun a k => a ||| 2 ^ k) 0
theorem orN_foldl (zs : List Nat) (a i : Nat) : (zs.foldl (fun a k => a ||| 2 ^ k) a).testBit i = (a.testBit i || decide (i ∈ zs)) := by
  induction zs generalizing a with
  | nil => simp
  | cons z zs ih =>
    rw [List.foldl_cons, ih, Nat.testBit_or, Nat.testBit_two_pow]
    cases a.testBit i <;> simp [List.mem_cons, eq_comm]
theorem orN_cats (n : Nat) (hn : n < 18446744073709551616) : orN (Lb.cats n) = n := by
  apply Nat.eq_of_testBit_eq
  intro i
  unfold orN
  rw [orN_foldl]
  unfold Lb.cats
  by_cases hi : i < 64
  · cases h : n.testBit i <;> simp [hi, h]
  · have : n.testBit i = false := Nat.testBit_lt_two_pow (Nat.lt_of_lt_of_le hn (by rw [show (18446744073709551616 : Nat) = 2 ^ 64 by decide]; exact Nat.pow_le_pow_right (by decide) (by omega)))
    rw [this]; simp [hi]
theorem bitOf_nat (k : Nat) (hk : k < 64) : Lb.bitOf (k : Int) = ((2 ^ k : Nat) : Int) := by
  unfold Lb.bitOf
  have h : 2 ^ k < 2 ^ 64 := Nat.pow_lt_pow_right (by decide) hk
  rw [show (18446744073709551616 : Int) = ((2 ^ 64 : Nat) : Int) by decide, Int.toNat_natCast, show ((2 : Int) ^ k) = ((2 ^ k : Nat) : Int) by simp, ← Int.natCast_emod, Nat.mod_eq_of_lt h]
theorem orAll_nat (zs : List Nat) (h : ∀ k ∈ zs, k < 64) : ∀ a : Nat, a < 18446744073709551616 → (zs.map fun (k : Nat) => (k : Int)).foldl (fun a c => bits .or .u64 a (Lb.bitOf c)) (a : Int) = ((zs.foldl (fun a k => a ||| 2 ^ k) a : Nat) : Int) ∧ zs.foldl (fun a k => a ||| 2 ^ k) a < 18446744073709551616 := by
  induction zs with
  | nil => intro a ha; exact ⟨rfl, ha⟩
  | cons z zs ih =>
    intro a ha
    have hz := h z (by simp)
    have h2 : 2 ^ z < 18446744073709551616 := by
      rw [show (18446744073709551616 : Nat) = 2 ^ 64 by decide]; exact Nat.pow_lt_pow_right (by decide) hz
    rw [List.map_cons, List.foldl_cons, List.foldl_cons, bitOf_nat z hz, Lb.or_nat _ _ ha h2]
    exact ih (fun k hk => h k (by simp [hk])) _ (by
      rw [show (18446744073709551616 : Nat) = 2 ^ 64 by decide] at ha h2 ⊢
      exact Nat.or_lt_two_pow ha h2)
theorem orAll_cats (n : Nat) (hn : n < 18446744073709551616) : Lb.orAll ((Lb.cats n).map fun (k : Nat) => (k : Int)) = (n : Int) := by
  have hk : ∀ k ∈ Lb.cats n, k < 64 := fun k hk => by simpa using (List.mem_filter.1 hk).1
  have := (orAll_nat (Lb.cats n) hk 0 (by decide)).1
  unfold Lb.orAll
  rw [show (0 : Int) = ((0 : Nat) : Int) from rfl, this]
  have h2 : (Lb.cats n).foldl (fun a k => a ||| 2 ^ k) 0 = n := orN_cats n hn
  rw [h2]
theorem asc_filter (p : Nat → Bool) : ∀ (m k : Nat) (b : Int), b < (k : Int) → k + m ≤ 64 → Asc b ((List.range' k m).filter p)
  | 0, k, b, _, _ => by simp [Asc]
  | m + 1, k, b, hb, hm => by
    rw [List.range'_succ, List.filter_cons]
    split
    · exact ⟨hb, by omega, asc_filter p m (k + 1) (k : Int) (by omega) (by omega)⟩
    · exact asc_filter p m (k + 1) b (by omega) (by omega)
theorem asc_cats (n : Nat) : Asc (-1) (Lb.cats n) := by
  unfold Lb.cats
  rw [List.range_eq_range']
  exact asc_filter _ 64 0 (-1) (by decide) (by decide)
theorem reads_label {W : Prop} (e : Nat) {x : Int} (hx : 0 ≤ x ∧ x < 18446744073709551616) : Reads W (fun _ => labelP e) (labelT x) x (fun _ => True) := by
  unfold labelT
  rw [joinSep, List.append_assoc]
  refine reads_then (q := fun _ _ r => if seesP [125] r = true then .ok (0, r.tail) else andThen (catsP e r) fun cs r => andThen (wantP e [125] r) fun _ r => .ok (Lb.orAll cs, r)) (F := fun _ => True) (sign_want e (by decide) (by decide)) ?_ fun _ _ => trivial
  by_cases hc : Lb.cats x.toNat = []
  · rw [hc]
    have h0 : x = 0 := by
      have := orAll_cats x.toNat (by omega)
      rw [hc] at this
      have h1 : Lb.orAll [] = 0 := rfl
      rw [List.map_nil, h1] at this
      omega
    subst h0
    have := reads_see (W := W) (x := [125]) (kd := 4) (p := fun _ l => .ok ((0 : Int), l)) (q := fun _ r => andThen (catsP e r) fun cs r => andThen (wantP e [125] r) fun _ r => .ok (Lb.orAll cs, r)) (F := fun _ => True) (fun r _ => fits_sign (b := 125) (by decide) (.inl (by decide))) (fun _ => by decide) (reads_ret (0 : Int) _)
    rw [List.append_nil] at this
    exact this
  · have hv := orAll_cats x.toNat (by omega)
    have hx2 : (x.toNat : Int) = x := by omega
    rw [hx2] at hv
    have hd : ∃ b t, sepL [44] ((Lb.cats x.toNat).map Lib.decDigits) = b :: t ∧ digB b = true := by
      cases hz : Lb.cats x.toNat with
      | nil => exact absurd hz hc
      | cons z zs =>
        obtain ⟨h1, b, t, h2, _⟩ := dec_form z
        cases zs with
        | nil => exact ⟨b, t, h2, h1 b (by rw [h2]; simp)⟩
        | cons z2 zs =>
          refine ⟨b, t ++ [44] ++ sepL [44] ((z2 :: zs).map Lib.decDigits), ?_, h1 b (by rw [h2]; simp)⟩
          rw [List.map_cons, List.map_cons, sepL, h2]
          rfl
    have hr := reads_then (W := W) (q := fun _ cs r => andThen (wantP e [125] r) fun _ r => .ok (Lb.orAll cs, r)) (G := fun _ => True) (reads_cats e _ hc (asc_cats x.toNat)) (by
      have := reads_then (W := W) (q := fun _ _ r => .ok (Lb.orAll ((Lb.cats x.toNat).map fun (z : Nat) => (z : Int)), r)) (sign_want e (b := 125) (by decide) (by decide)) (reads_ret _ (fun _ => True)) (fun r hr => hr)
      rw [List.append_nil, hv] at this
      rw [hv]
      exact this) (fun r _ => (⟨nx_cons (p := digB) (c := 125) (u := r) (by decide), nb_cons (l := [44]) (b := 125) (r := r) (by decide) (by decide)⟩ : Nx digB ([125] ++ r) ∧ Nb [44] ([125] ++ r)))
    refine reads_pass (c := 125) (s := []) (p := fun _ r => .ok (0, r)) (fun r _ => ?_) hr
    obtain ⟨b, t, h1, h2⟩ := hd
    rw [h1]
    refine nb_cons (dig_not h2).2.2.1 (fun hm => ?_)
    rw [List.mem_singleton.1 hm] at h2
    exact absurd h2 (by decide)
end Go.Proofs.YtmfcjaoajanlfaaGreatDoor.P9
namespace Go.Proofs.YtmfcjaoajanlfaaGreatDoor.P9
open Go.Proofs.YtmfcjaoajanlfaaGreatDoor.Tk7 Go.Proofs.YtmfcjaoajanlfaaGreatDoor.A8

theorem listT_form (b : UInt8) (l : List (List UInt8)) (btw aft : List UInt8) : listT [b] l btw aft = if l.isEmpty = true then [] else b :: (sepL btw l ++ aft) := by
  unfold listT
  cases l <;> rfl
theorem reads_nm {W : Prop} (e : Nat) {s : List UInt8} (h : s.isEmpty = true ∨ nameB s = true) : Reads W (fun _ => nmP e) (if s.isEmpty = true then [] else 58 :: s) s (fun r => Nb [58] r ∧ Nx smallB r) := by
  cases hs : s.isEmpty with
  | true =>
    rw [List.isEmpty_iff.1 hs]
    exact reads_pass (c := 58) (s := []) (p := fun _ => nameP e) (q := fun _ l => .ok ([], l)) (fun r hr => hr.1) (reads_ret [] _)
  | false =>
    rw [hs] at h
    have hn := h.resolve_left (by decide)
    exact reads_see (x := [58]) (kd := 4) (p := fun _ => nameP e) (q := fun _ l => .ok ([], l)) (fun r _ => fits_sign (b := 58) (by decide) (.inl (by decide))) (fun _ => by decide) ((reads_name e hn).mono fun r hr => hr.2)
theorem reads_conds {W : Prop} (e : Nat) {cs : List Cn} (h : ∀ c ∈ cs, condB c = true ∧ okC c) : Reads W (fun _ => condsP e) (listT [91] (cs.map condT) [44] [93]) cs (Nb [91]) := by
  rw [listT_form]
  cases cs with
  | nil => exact reads_pass (c := 91) (s := []) (p := fun _ l => andThen (listP [44] (condP e) l) fun cs r => andThen (wantP e [93] r) fun _ r => .ok (cs, r)) (q := fun _ l => .ok ([], l)) (fun r hr => hr) (reads_ret [] _)
  | cons c cs =>
    rw [if_neg (by simp)]
    have hl := reads_list (W := W) (p := fun _ => condP e) (c := 44) (s := []) (sb := [44]) (g := condT) (F := Nx digB) (G := fun r => ∃ t, r = 93 :: t) (sign_sep (by decide) (by decide)) (fun r => nx_cons (by decide)) (fun r hr => by
      obtain ⟨t, rfl⟩ := hr
      exact ⟨nx_cons (by decide), nb_cons (by decide) (by decide)⟩) (c :: cs) (by simp) (fun a ha => reads_cond e (h a ha).1 (h a ha).2)
    refine reads_see (x := [91]) (kd := 4) (p := fun _ l => andThen (listP [44] (condP e) l) fun cs r => andThen (wantP e [93] r) fun _ r => .ok (cs, r)) (q := fun _ l => .ok ([], l)) (fun r _ => fits_sign (b := 91) (by decide) (.inl (by decide))) (fun _ => by decide) ?_
    exact reads_then (W := W) (G := Nb [91]) (q := fun _ (cs : List Cn) r => andThen (wantP e [93] r) fun _ r => .ok (cs, r)) hl (reads_map (fun _ => c :: cs) ((sign_want e (b := 93) (by decide) (by decide)).mono fun r _ => trivial)) fun r _ => ⟨r, rfl⟩
theorem reads_bound {W : Prop} (e : Nat) {bd : Bool} {bn : Int} (h0 : bd = true ∨ bn = 0) (hb : 0 ≤ bn ∧ bn < 18446744073709551616) : Reads W (fun _ => boundP e) (if bd = true then 64 :: labelT bn else []) (bd, bn) (Nb [64]) := by
  cases bd with
  | true => exact reads_see (x := [64]) (kd := 4) (p := fun _ l => andThen (labelP e l) fun b r => .ok ((true, b), r)) (q := fun _ l => .ok ((false, 0), l)) (fun r _ => fits_sign (b := 64) (by decide) (.inl (by decide))) (fun _ => by decide) ((reads_map (fun b => (true, b)) (reads_label e hb)).mono fun r _ => trivial)
  | false =>
    have : bn = 0 := h0.resolve_left (by decide)
    subst this
    exact reads_pass (c := 64) (s := []) (p := fun _ l => andThen (labelP e l) fun b r => .ok ((true, b), r)) (q := fun _ l => .ok ((false, 0), l)) (fun r hr => hr) (reads_ret _ _)
/-- What may follow an atom, an item, a sequence, a pattern. -/
def Fa (r : List UInt8) : Prop := Nb [64, 91, 58] r ∧ Nx smallB r
def Fi (r : List UInt8) : Prop := Nb [64, 91, 58, 123] r ∧ Nx smallB r
def Fs (r : List UInt8) : Prop := Nb [64, 91, 58, 123, 59] r ∧ Nx smallB r
def Fp (r : List UInt8) : Prop := Nb [64, 91, 58, 123, 59, 124] r ∧ Nx smallB r
theorem fi_fa {r : List UInt8} (h : Fi r) : Fa r := ⟨h.1.mono (by decide), h.2⟩
theorem fs_fi {r : List UInt8} (h : Fs r) : Fi r := ⟨h.1.mono (by decide), h.2⟩
theorem fp_fs {r : List UInt8} (h : Fp r) : Fs r := ⟨h.1.mono (by decide), h.2⟩
theorem large_facts {kd : Int} (h : 0 ≤ kd ∧ kd ≤ 25) : largeB (UInt8.ofNat (65 + kd.toNat)) = true ∧ ((UInt8.ofNat (65 + kd.toNat)).toNat : Int) - 65 = kd := by
  obtain ⟨k, rfl⟩ : ∃ k : Nat, kd = (k : Int) := ⟨kd.toNat, by omega⟩
  rw [Int.toNat_natCast]
  have h1 : (UInt8.ofNat (65 + k)).toNat = 65 + k := by rw [UInt8.toNat_ofNat']; omega
  unfold largeB
  rw [h1]
  simp
  omega
structure OkB (a : At) : Prop where
  bn : 0 ≤ a.bn ∧ a.bn < 18446744073709551616
  cs : ∀ c ∈ a.cs, okC c
theorem atomB_facts {a : At} (h : atomB a = true) : (0 ≤ a.kd ∧ a.kd ≤ 25) ∧ (a.bd = true ∨ a.bn = 0) ∧ (∀ c ∈ a.cs, condB c = true) ∧ (a.nm.isEmpty = true ∨ nameB a.nm = true) := by
  unfold atomB at h
  simp only [Bool.and_eq_true, Bool.or_eq_true, decide_eq_true_eq] at h
  exact ⟨h.1.1.1, h.1.1.2, List.all_eq_true.1 h.1.2, h.2⟩
theorem nm_head {l : List UInt8} {s r : List UInt8} (h : (58 : UInt8) ∉ l) (hr : Nb l r) : Nb l ((if s.isEmpty = true then [] else 58 :: s) ++ r) := by
  split
  · exact hr
  · exact nb_cons (by decide) h
theorem conds_head {l : List UInt8} {cs : List (List UInt8)} {r : List UInt8} (h : (91 : UInt8) ∉ l) (hr : Nb l r) : Nb l (listT [91] cs [44] [93] ++ r) := by
  rw [listT_form]
  split
  · exact hr
  · exact nb_cons (by decide) h
theorem reads_atom {W : Prop} (e : Nat) {a : At} (h : atomB a = true) (ho : OkB a) : Reads W (fun _ => atomP e) (atomT a) a Fa := by
  obtain ⟨h1, h2, h3, h4⟩ := atomB_facts h
  obtain ⟨kd, bd, bn, cs, nm⟩ := a
  simp only at h1 h2 h3 h4
  unfold atomT
  rw [List.append_assoc, List.append_assoc]
  have r4 := reads_map (W := W) (fun n => (⟨kd, bd, bn, cs, n⟩ : At)) (reads_nm e h4)
  have r3 := reads_then (W := W) (q := fun _ (cs : List Cn) r => andThen (nmP e r) fun n r => .ok ((⟨kd, bd, bn, cs, n⟩ : At), r)) (G := fun r => Nb [91, 58] r ∧ Nx smallB r) (reads_conds e (cs := cs) fun c hc => ⟨h3 c hc, ho.cs c hc⟩) (r4.mono fun r hr => ⟨hr.1.mono (by decide), hr.2⟩) (fun r hr => nm_head (by decide) (hr.1.mono (by decide)))
  have r2 := reads_then (W := W) (q := fun _ (b : Bool × Int) r => andThen (condsP e r) fun cs r => andThen (nmP e r) fun n r => .ok ((⟨kd, b.1, b.2, cs, n⟩ : At), r)) (G := Fa) (reads_bound e h2 ho.bn) (r3.mono fun r hr => ⟨hr.1.mono (by decide), hr.2⟩) (fun r hr => by
    rw [List.append_assoc]
    exact conds_head (by decide) (nm_head (by decide) (hr.1.mono (by decide))))
  refine reads_then (W := W) (q := fun _ (k : Int) r => andThen (boundP e r) fun b r => andThen (condsP e r) fun cs r => andThen (nmP e r) fun n r => .ok ((⟨k, b.1, b.2, cs, n⟩ : At), r)) (F := fun _ => True) (a := kd) ?_ r2 fun _ _ => trivial
  obtain ⟨g1, g2⟩ := large_facts h1
  exact reads_tok (kd := 2) (fun r _ => fits_letter r g1) (fun _ h => by have := congrArg List.length h; simp [withinA] at this) fun f k ts _ => by
    simp only [letterP, List.headD_cons]
    rw [if_pos trivial, g2]
theorem reads_times {W : Prop} (e : Nat) {mn mx : Int} (h1 : 0 ≤ mn ∧ mn ≤ 99) (h2 : 0 ≤ mx ∧ mx ≤ 99) : Reads W (fun _ => timesP e) (timesT mn mx) (mn, mx) (Nb [123]) := by
  unfold timesT
  by_cases h : mn = 1 ∧ mx = 1
  · rw [if_pos h, h.1, h.2]
    exact reads_pass (c := 123) (s := []) (p := fun _ l => andThen (numP e 0 99 l) fun a r => andThen (wantP e [44] r) fun _ r => andThen (numP e 0 99 r) fun b r => andThen (wantP e [125] r) fun _ r => .ok ((a, b), r)) (q := fun _ l => .ok ((1, 1), l)) (fun r hr => hr) (reads_ret _ _)
  · rw [if_neg h]
    have ee : ([123] : List UInt8) ++ (Lib.itoa mn ++ [44] ++ Lib.itoa mx) ++ [125] = [123] ++ (Lib.itoa mn ++ ([44] ++ (Lib.itoa mx ++ [125]))) := by simp
    rw [ee]
    refine reads_see (x := [123]) (kd := 4) (p := fun _ l => andThen (numP e 0 99 l) fun a r => andThen (wantP e [44] r) fun _ r => andThen (numP e 0 99 r) fun b r => andThen (wantP e [125] r) fun _ r => .ok ((a, b), r)) (q := fun _ l => .ok ((1, 1), l)) (fun r _ => fits_sign (b := 123) (by decide) (.inl (by decide))) (fun _ => by decide) ?_
    have r4 := reads_map (W := W) (fun _ => (mn, mx)) (sign_want (W := W) e (b := 125) (by decide) (by decide))
    have r3 := reads_then (W := W) (q := fun _ (b : Int) r => andThen (wantP e [125] r) fun _ r => .ok ((mn, b), r)) (G := fun _ => True) (reads_num e (lo := 0) (hi := 99) (v := mx) (Sm.okI_iff.2 (by omega)) h2.1 h2.2) r4 (fun r _ => nx_cons (p := digB) (c := 125) (u := r) (by decide))
    have r2 := reads_then (W := W) (q := fun _ _ r => andThen (numP e 0 99 r) fun b r => andThen (wantP e [125] r) fun _ r => .ok ((mn, b), r)) (G := fun _ => True) (sign_want (W := W) e (b := 44) (by decide) (by decide)) r3 (fun _ _ => trivial)
    exact (reads_then (W := W) (q := fun _ (a : Int) r => andThen (wantP e [44] r) fun _ r => andThen (numP e 0 99 r) fun b r => andThen (wantP e [125] r) fun _ r => .ok ((a, b), r)) (G := fun _ => True) (reads_num e (lo := 0) (hi := 99) (v := mn) (Sm.okI_iff.2 (by omega)) h1.1 h1.2) r2 (fun r _ => nx_cons (p := digB) (c := 44) (by decide))).mono fun _ _ => trivial
theorem atom_first (a : At) : ∃ t, atomT a = UInt8.ofNat (65 + a.kd.toNat) :: t := ⟨_, rfl⟩
theorem large_nb {l : List UInt8} {a : At} (h : atomB a = true) (hl : ∀ b ∈ l, largeB b = false) (r : List UInt8) : Nb l (atomT a ++ r) := by
  obtain ⟨t, ht⟩ := atom_first a
  have hg := (large_facts (atomB_facts h).1).1
  rw [ht]
  refine nb_cons ?_ fun hm => ?_
  · cases e : blankB (UInt8.ofNat (65 + a.kd.toNat))
    · rfl
    · rw [(blank_not e).2.1] at hg; cases hg
  · rw [hl _ hm] at hg; cases hg
/-- .. behind an opening sign, with one more to spare. -/
theorem reads_open {α : Type} {W : Prop} {p q : Nat → List T → R α} {kd : Nat} {x y : List UInt8} {a : α} {F : List UInt8 → Prop} (hf : ∀ r, F r → Fits kd x (y ++ r)) (hw : W → x ≠ withinA) (hp : Reads W (fun f => p (f + 1)) y a F) :
    Reads W (fun f l => if seesP x l = true then p f l.tail else q f l) (x ++ y) a F := fun r k ts hr ht => by
  rw [List.length_append, ← Nat.add_assoc] at ht
  obtain ⟨us, h1, h2, h3⟩ := hp r (k + x.length) ts hr ht
  refine ⟨(kd, x, k) :: us, ?_, fun f h => ?_, fun w t hm => ?_⟩
  · rw [List.append_assoc, toks_fit (hf r hr), h1]; rfl
  · show (if seesP x ((kd, x, k) :: (us ++ ts)) = true then p f (us ++ ts) else _) = _
    rw [if_pos (by simp [seesP])]
    obtain ⟨f', rfl⟩ : ∃ f', f = f' + 1 := ⟨f - 1, by simp at h; omega⟩
    exact h2 f' (by simp at h ⊢; omega)
  · rcases List.mem_cons.1 hm with rfl | hm
    · exact hw w
    · exact h3 w t hm
/-! Nodes -/
def itemF (e f : Nat) : List T → R Nd := itemP e (patP e f)
def seqF (e f : Nat) : List T → R Nd := seqP e (patP e f)
def patF (e f : Nat) : List T → R Nd := patP e (f + 1)
theorem paren_item {W : Prop} (e : Nat) {x : List UInt8} {n : Nd} (h : Reads W (patF e) x n Fp) : Reads W (itemF e) ([40] ++ x ++ [41]) n Fi := by
  have h1 := reads_then (W := W) (q := fun _ (n : Nd) r => andThen (wantP e [41] r) fun _ r => .ok (n, r)) (G := Fi) h (reads_map (fun _ => n) ((sign_want e (b := 41) (by decide) (by decide)).mono fun _ _ => trivial)) (fun r _ => (⟨nb_cons (b := 41) (r := r) (by decide) (by decide), nx_cons (c := 41) (u := r) (by decide)⟩ : Fp ([41] ++ r)))
  have h2 := reads_open (W := W) (x := [40]) (kd := 4) (p := fun f l => andThen (patP e f l) fun n r => andThen (wantP e [41] r) fun _ r => .ok (n, r)) (q := fun _ l => andThen (atomP e l) fun a r => andThen (timesP e r) fun m r => .ok (Nd.mk 1 m.1 m.2 a [], r)) (fun r _ => fits_sign (b := 40) (by decide) (.inl (by decide))) (fun _ => by decide) h1
  rw [List.append_assoc]
  exact reads_pass (c := 110) (s := [111, 116]) (p := fun _ l => andThen (atomP e l) fun a r => .ok (Nd.mk 2 0 0 a [], r)) (fun r _ => nb_cons (by decide) (by decide)) h2
theorem seq_one {W : Prop} (e : Nat) {x : List UInt8} {n : Nd} (h : Reads W (itemF e) x n Fi) : Reads W (seqF e) x n Fs := by
  have := reads_list (W := W) (p := itemF e) (c := 59) (s := []) (sb := [59]) (g := fun _ => x) (F := Fi) (G := Fs) (sign_sep (by decide) (by decide)) (fun r => ⟨nb_cons (by decide) (by decide), nx_cons (by decide)⟩) (fun r hr => ⟨fs_fi hr, hr.1.mono (by decide)⟩) [n] (by simp) (fun a ha => by rw [List.mem_singleton.1 ha]; exact h)
  exact reads_map (joinP 3) this
theorem pat_one {W : Prop} (e : Nat) {x : List UInt8} {n : Nd} (h : Reads W (seqF e) x n Fs) : Reads W (patF e) x n Fp := by
  have := reads_list (W := W) (p := seqF e) (c := 124) (s := []) (sb := [124]) (g := fun _ => x) (F := Fs) (G := Fp) (sign_sep (by decide) (by decide)) (fun r => ⟨nb_cons (by decide) (by decide), nx_cons (by decide)⟩) (fun r hr => ⟨fp_fs hr, hr.1.mono (by decide)⟩) [n] (by simp) (fun a ha => by rw [List.mem_singleton.1 ha]; exact h)
  exact reads_map (joinP 4) this
/-- A sign between blanks. -/
theorem blank_sep {W : Prop} {b : UInt8} (hb : signB b = true) (h2 : twoB b = false) : ∀ y k ts, toksG y (k + [32, b, 32].length) = .ok ts → ∃ t, toksG ([32, b, 32] ++ y) k = .ok (t :: ts) ∧ t.2.1 = b :: [] ∧ (W → t.2.1 ≠ withinA) := fun y k ts h =>
  ⟨(4, [b], k + 1), by
    have e1 := toks_blank (g := [32]) (fun c hc => by rw [List.mem_singleton.1 hc]; decide) ([b] ++ (32 :: y)) k
    have e2 := toks_fit (fits_sign (r := 32 :: y) hb (.inl h2)) (k + 1)
    have e3 := toks_blank (g := [32]) (fun c hc => by rw [List.mem_singleton.1 hc]; decide) y (k + 1 + 1)
    have e4 : toksG ([32, b, 32] ++ y) k = glue (4, [b], k + 1) (toksG y (k + 1 + 1 + 1)) := e1.trans (e2.trans (congrArg _ e3))
    rw [e4, show k + 1 + 1 + 1 = k + [32, b, 32].length from rfl, h]
    rfl, rfl, fun _ h => by
    have := congrArg List.length h
    simp [withinA] at this⟩
theorem join_many {k : Int} {ks : List Nd} (h : 2 ≤ ks.length) : joinP k ks = .mk k 0 0 noA ks := by
  match ks, h with
  | _ :: _ :: _, _ => rfl
theorem zero_noA {a : At} (h : zeroB a = true) : a = noA := by
  obtain ⟨kd, bd, bn, cs, nm⟩ := a
  unfold zeroB at h
  simp only [Bool.and_eq_true, decide_eq_true_eq, Bool.not_eq_true', List.isEmpty_iff] at h
  obtain ⟨⟨⟨⟨h1, h2⟩, h3⟩, h4⟩, h5⟩ := h
  rw [h1, h2, h3, h4, h5]
  rfl
def OkT9 (n : Nd) : Prop := ∀ t ∈ subsN n, OkB t.atom
theorem subsL_flat (l : List Nd) : subsL l = l.flatMap subsN := by
  induction l with
  | nil => rfl
  | cons n ns ih => rw [subsL, ih, List.flatMap_cons]
theorem okT9_kid {k mn mx : Int} {a : At} {ks : List Nd} (h : OkT9 (.mk k mn mx a ks)) {n : Nd} (hn : n ∈ ks) : OkT9 n := fun t ht => h t (by
  rw [subsN, subsL_flat]
  exact List.mem_cons_of_mem _ (List.mem_flatMap.2 ⟨n, hn, ht⟩))
theorem node_reads (e : Nat) : ∀ n : Nd, ∀ d, soundN d n = true → OkT9 n →
    ((n.kind = 1 ∨ n.kind = 2) → Reads True (itemF e) (textN n) n Fi) ∧ (n.kind = 3 → Reads True (seqF e) (textN n) n Fs) ∧ Reads True (patF e) (textN n) n Fp := by
  refine Nd.ind fun k mn mx a ks ih d hs ho => ?_
  rw [soundN] at hs
  simp only [Bool.and_eq_true, decide_eq_true_eq, soundL_all, List.all_eq_true] at hs
  obtain ⟨⟨hd, hn⟩, hk⟩ := hs
  have hoa : OkB a := ho (.mk k mn mx a ks) (by rw [subsN]; exact List.mem_cons_self)
  have item_of : (k = 1 ∨ k = 2) → Reads True (itemF e) (textN (.mk k mn mx a ks)) (.mk k mn mx a ks) Fi := by
    rintro (rfl | rfl)
    · unfold nodeB at hn
      rw [if_pos rfl] at hn
      simp only [Bool.and_eq_true, decide_eq_true_eq] at hn
      obtain ⟨⟨⟨ha, hmn⟩, hmx⟩, hl⟩ := hn
      have : ks = [] := List.eq_nil_of_length_eq_zero hl
      subst this
      rw [textN, if_pos rfl]
      have h1 := reads_then (W := True) (q := fun _ (a : At) r => andThen (timesP e r) fun m r => .ok (Nd.mk 1 m.1 m.2 a [], r)) (G := Fi) (reads_atom e ha hoa) (reads_map (fun m => Nd.mk 1 m.1 m.2 a []) ((reads_times e (mn := mn) (mx := mx) hmn hmx).mono fun r hr => hr.1.mono (by decide))) (fun r hr => by
        unfold timesT
        split
        · exact fi_fa hr
        · exact (⟨nb_cons (b := 123) (by decide) (by decide), nx_cons (c := 123) (by decide)⟩ : Fa _))
      have h2 := reads_pass (W := True) (c := 40) (s := []) (p := fun f l => andThen (patP e f l) fun n r => andThen (wantP e [41] r) fun _ r => .ok (n, r)) (fun r _ => by rw [List.append_assoc]; exact large_nb ha (by decide) _) h1
      exact reads_pass (c := 110) (s := [111, 116]) (p := fun _ l => andThen (atomP e l) fun a r => .ok (Nd.mk 2 0 0 a [], r)) (fun r _ => by rw [List.append_assoc]; exact large_nb ha (by decide) _) h2
    · unfold nodeB at hn
      rw [if_neg (by decide), if_pos rfl] at hn
      simp only [Bool.and_eq_true, decide_eq_true_eq] at hn
      obtain ⟨⟨ha, hm1, hm2⟩, hl⟩ := hn
      have : ks = [] := List.eq_nil_of_length_eq_zero hl
      subst this
      subst hm1
      subst hm2
      rw [textN, if_neg (by decide), if_pos rfl]
      exact reads_see (x := [110, 111, 116]) (y := 32 :: atomT a) (kd := 1) (p := fun _ l => andThen (atomP e l) fun a r => .ok (Nd.mk 2 0 0 a [], r)) (fun r _ => fits_word (by decide) (by decide) (nx_cons (by decide))) (fun _ => by decide) (reads_map (fun a => Nd.mk 2 0 0 a []) (reads_blank (by decide) ((reads_atom e ha hoa).mono fun r hr => fi_fa hr)))
  have kids : (k = 3 ∨ k = 4) → a = noA ∧ mn = 0 ∧ mx = 0 ∧ 2 ≤ ks.length := by
    intro h
    unfold nodeB at hn
    rw [if_neg (by omega), if_neg (by omega), if_pos h] at hn
    simp only [Bool.and_eq_true, decide_eq_true_eq] at hn
    exact ⟨zero_noA hn.1.1, hn.1.2.1, hn.1.2.2, hn.2⟩
  have kid_kind : ∀ t ∈ ks, t.kind = 1 ∨ t.kind = 2 ∨ t.kind = 3 ∨ t.kind = 4 := by
    intro t ht
    have h1 := hk t ht
    obtain ⟨k', mn', mx', a', ks'⟩ := t
    rw [soundN] at h1
    simp only [Bool.and_eq_true, decide_eq_true_eq] at h1
    have h2 := h1.1.2
    show k' = 1 ∨ k' = 2 ∨ k' = 3 ∨ k' = 4
    unfold nodeB at h2
    by_cases e1 : k' = 1
    · exact .inl e1
    · rw [if_neg e1] at h2
      by_cases e2 : k' = 2
      · exact .inr (.inl e2)
      · rw [if_neg e2] at h2
        by_cases e3 : k' = 3 ∨ k' = 4
        · exact .inr (.inr e3)
        · rw [if_neg e3] at h2; cases h2
  have seq_of : k = 3 → Reads True (seqF e) (textN (.mk k mn mx a ks)) (.mk k mn mx a ks) Fs := by
    rintro rfl
    obtain ⟨rfl, rfl, rfl, h2⟩ := kids (.inl rfl)
    rw [textN, if_neg (by decide), if_neg (by decide), if_pos rfl, textL_map]
    have hl := reads_list (W := True) (p := itemF e) (c := 59) (s := []) (sb := [32, 59, 32]) (g := fun n => wrapT 3 n.kind (textN n)) (F := Fi) (G := Fs) (blank_sep (by decide) (by decide)) (fun r => ⟨(nb_blank (by decide)).2 (nb_cons (b := 59) (by decide) (by decide)), nx_cons (c := 32) (by decide)⟩) (fun r hr => ⟨fs_fi hr, hr.1.mono (by decide)⟩) ks (by intro e; rw [e] at h2; simp at h2) (fun t ht => by
      obtain ⟨g1, g2, g3⟩ := ih t ht (d + 1) (hk t ht) (okT9_kid ho ht)
      unfold wrapT
      rcases kid_kind t ht with h | h | h | h
      · rw [if_neg (by rw [h]; decide)]; exact g1 (.inl h)
      · rw [if_neg (by rw [h]; decide)]; exact g1 (.inr h)
      · rw [if_pos (by rw [h]; decide)]; exact paren_item e g3
      · rw [if_pos (by rw [h]; decide)]; exact paren_item e g3)
    have := reads_map (joinP 3) hl
    rw [join_many h2] at this
    exact this
  refine ⟨item_of, seq_of, ?_⟩
  have hkk : k = 1 ∨ k = 2 ∨ k = 3 ∨ k = 4 := by
    unfold nodeB at hn
    by_cases e1 : k = 1
    · exact .inl e1
    · rw [if_neg e1] at hn
      by_cases e2 : k = 2
      · exact .inr (.inl e2)
      · rw [if_neg e2] at hn
        by_cases e3 : k = 3 ∨ k = 4
        · exact .inr (.inr e3)
        · rw [if_neg e3] at hn; cases hn
  rcases hkk with h | h | h | h
  · exact pat_one e (seq_one e (item_of (.inl h)))
  · exact pat_one e (seq_one e (item_of (.inr h)))
  · exact pat_one e (seq_of h)
  · subst h
    obtain ⟨rfl, rfl, rfl, h2⟩ := kids (.inr rfl)
    rw [textN, if_neg (by decide), if_neg (by decide), if_neg (by decide), if_pos rfl, textL_map]
    have hl := reads_list (W := True) (p := seqF e) (c := 124) (s := []) (sb := [32, 124, 32]) (g := fun n => wrapT 4 n.kind (textN n)) (F := Fs) (G := Fp) (blank_sep (by decide) (by decide)) (fun r => ⟨(nb_blank (by decide)).2 (nb_cons (b := 124) (by decide) (by decide)), nx_cons (c := 32) (by decide)⟩) (fun r hr => ⟨fp_fs hr, hr.1.mono (by decide)⟩) ks (by intro e; rw [e] at h2; simp at h2) (fun t ht => by
      obtain ⟨g1, g2, g3⟩ := ih t ht (d + 1) (hk t ht) (okT9_kid ho ht)
      unfold wrapT
      rcases kid_kind t ht with h | h | h | h
      · rw [if_neg (by rw [h]; decide)]; exact seq_one e (g1 (.inl h))
      · rw [if_neg (by rw [h]; decide)]; exact seq_one e (g1 (.inr h))
      · rw [if_neg (by rw [h]; decide)]; exact g2 h
      · rw [if_pos (by rw [h]; decide)]; exact seq_one e (paren_item e g3))
    have := reads_map (joinP 4) hl
    rw [join_many h2] at this
    exact this
end Go.Proofs.YtmfcjaoajanlfaaGreatDoor.P9
namespace Go.Proofs.YtmfcjaoajanlfaaGreatDoor.P9
open Go.Proofs.YtmfcjaoajanlfaaGreatDoor.Tk7 Go.Proofs.YtmfcjaoajanlfaaGreatDoor.A8

theorem laid_at : ∀ (ts : List T) (l : List UInt8) (k : Nat), Laid l k ts → ∀ t ∈ ts, t.2.2 + t.2.1.length ≤ k + l.length := by
  intro ts
  induction ts with
  | nil => intro l k _ t h; cases h
  | cons x ts ih =>
    rintro l k ⟨g, e, rfl, _, h0, h, h2⟩ t ht
    rcases List.mem_cons.1 ht with rfl | ht
    · simp only [List.length_append]
      omega
    · have := ih _ _ h2 t ht
      simp only [List.length_append]
      omega
theorem aggB_facts {a : Ag} (h : aggB a = true) : (1 ≤ a.fn ∧ a.fn ≤ 6) ∧ nameB a.nm = true := by
  unfold aggB at h
  simp only [Bool.and_eq_true, decide_eq_true_eq] at h
  exact h
theorem reads_agg {W : Prop} (e : Nat) {a : Ag} (h : aggB a = true) : Reads W (fun _ => aggP e) (aggT a) a (fun _ => True) := by
  obtain ⟨h1, h2⟩ := aggB_facts h
  obtain ⟨fn, nm⟩ := a
  simp only at h1 h2
  unfold aggT
  rw [List.append_assoc, List.append_assoc]
  have r4 := reads_map (W := W) (fun _ => (⟨fn, nm⟩ : Ag)) (sign_want (W := W) e (b := 41) (by decide) (by decide))
  have r3 := reads_then (W := W) (q := fun _ (n : List UInt8) r => andThen (wantP e [41] r) fun _ r => .ok ((⟨fn, n⟩ : Ag), r)) (G := fun _ => True) (reads_name e h2) r4 (fun r _ => nx_cons (p := smallB) (c := 41) (u := r) (by decide))
  have r2 := reads_then (W := W) (q := fun _ _ r => andThen (nameP e r) fun n r => andThen (wantP e [41] r) fun _ r => .ok ((⟨fn, n⟩ : Ag), r)) (G := fun _ => True) (sign_want (W := W) e (b := 40) (by decide) (by decide)) r3 (fun _ _ => trivial)
  exact reads_then (W := W) (q := fun _ (f : Int) r => andThen (wantP e [40] r) fun _ r => andThen (nameP e r) fun n r => andThen (wantP e [41] r) fun _ r => .ok ((⟨f, n⟩ : Ag), r)) (G := fun _ => True) (reads_fun e h1.1 h1.2) r2 (fun r _ => nx_cons (p := smallB) (c := 40) (by decide))
theorem reads_have {W : Prop} (e : Nat) {h : Hv} (hh : haveB h = true) (ho : okC h.cn) : Reads W (fun _ => haveP e) (haveT h) h (Nx digB) := by
  unfold haveB at hh
  rw [Bool.and_eq_true] at hh
  obtain ⟨ag, cn⟩ := h
  unfold haveT
  rw [List.append_assoc]
  exact reads_then (W := W) (q := fun _ (a : Ag) r => andThen (condP e r) fun c r => .ok ((⟨a, c⟩ : Hv), r)) (G := Nx digB) (reads_agg e hh.1) (reads_map (fun c => (⟨ag, c⟩ : Hv)) (reads_blank (by decide) (reads_cond e hh.2 ho))) (fun _ _ => trivial)
/-- What may follow a query: nothing, or a semicolon. -/
def Fq (r : List UInt8) : Prop := r = [] ∨ ∃ t, r = 59 :: t
theorem fq_nb {r : List UInt8} {l : List UInt8} (h : Fq r) (hl : (59 : UInt8) ∉ l) : Nb l r := by
  rcases h with rfl | ⟨t, rfl⟩
  · exact nb_nil l
  · exact nb_cons (by decide) hl
theorem fq_nx {r : List UInt8} {p : UInt8 → Bool} (h : Fq r) (hp : p 59 = false) : Nx p r := by
  rcases h with rfl | ⟨t, rfl⟩
  · exact nx_nil p
  · exact nx_cons hp
theorem word_sep {W : Prop} {x sb pre : List UInt8} {c : UInt8} {s : List UInt8} (hx : x = c :: s) (hs : ∀ b ∈ x, smallB b = true) (hpre : ∀ b ∈ pre, blankB b = true) (hsb : sb = pre ++ (x ++ [32])) (hw : W → x ≠ withinA) : ∀ y k ts, toksG y (k + sb.length) = .ok ts → ∃ t, toksG (sb ++ y) k = .ok (t :: ts) ∧ t.2.1 = c :: s ∧ (W → t.2.1 ≠ withinA) := fun y k ts h =>
  ⟨(1, x, k + pre.length), by
    subst hsb
    have e1 := toks_blank hpre (x ++ (32 :: y)) k
    have e2 := toks_fit (fits_word (r := 32 :: y) hs (by rw [hx]; simp) (nx_cons (by decide))) (k + pre.length)
    have e3 := toks_blank (g := [32]) (fun c hc => by rw [List.mem_singleton.1 hc]; decide) y (k + pre.length + x.length)
    have e4 : toksG ((pre ++ (x ++ [32])) ++ y) k = glue (1, x, k + pre.length) (toksG y (k + pre.length + x.length + 1)) := by
      rw [show (pre ++ (x ++ [32])) ++ y = pre ++ (x ++ (32 :: y)) by simp]
      exact e1.trans (e2.trans (congrArg _ e3))
    rw [e4, show k + pre.length + x.length + 1 = k + (pre ++ (x ++ [32])).length by simp only [List.length_append, List.length_cons, List.length_nil]; omega, h]
    rfl, hx, fun w => hw w⟩
theorem reads_haves {W : Prop} (e : Nat) {hs : List Hv} (h : ∀ x ∈ hs, haveB x = true ∧ okC x.cn) : Reads W (fun _ => havesP e) (listT [32, 104, 97, 118, 105, 110, 103, 32] (hs.map haveT) [32, 97, 110, 100, 32] []) hs (fun r => Nb [97, 104] r ∧ Nx digB r) := by
  cases hs with
  | nil => exact reads_pass (c := 104) (s := [97, 118, 105, 110, 103]) (p := fun _ l => listP andA (haveP e) l) (q := fun _ l => .ok ([], l)) (fun r hr => hr.1.mono (by decide)) (reads_ret [] _)
  | cons x hs =>
    have hl := reads_list (W := W) (p := fun _ => haveP e) (c := 97) (s := [110, 100]) (sb := [32, 97, 110, 100, 32]) (g := haveT) (F := Nx digB) (G := fun r => Nb [97, 104] r ∧ Nx digB r) (word_sep (x := andA) (pre := [32]) rfl (by decide) (by decide) rfl (fun _ => by decide)) (fun r => nx_cons (c := 32) (by decide)) (fun r hr => ⟨hr.2, hr.1.mono (by decide)⟩) (x :: hs) (by simp) (fun a ha => reads_have e (h a ha).1 (h a ha).2)
    unfold listT
    rw [if_neg (by simp)]
    have ee : ([32, 104, 97, 118, 105, 110, 103, 32] : List UInt8) ++ sepL [32, 97, 110, 100, 32] ((x :: hs).map haveT) ++ [] = 32 :: (havingA ++ (32 :: sepL [32, 97, 110, 100, 32] ((x :: hs).map haveT))) := by simp [havingA]
    rw [ee]
    exact reads_blank (by decide) (reads_see (x := havingA) (kd := 1) (p := fun _ l => listP andA (haveP e) l) (q := fun _ l => .ok ([], l)) (fun r _ => fits_word (by decide) (by decide) (nx_cons (by decide))) (fun _ => by decide) (reads_blank (by decide) hl))
theorem reads_emits {W : Prop} (e : Nat) {es : List Ag} (h : ∀ x ∈ es, aggB x = true) : Reads W (fun _ => emitsP e) (listT [32, 101, 109, 105, 116, 32] (es.map aggT) [44, 32] []) es (fun r => Nb [44, 101] r) := by
  cases es with
  | nil => exact reads_pass (c := 101) (s := [109, 105, 116]) (p := fun _ l => listP [44] (aggP e) l) (q := fun _ l => .ok ([], l)) (fun r hr => hr.mono (by decide)) (reads_ret [] _)
  | cons x es =>
    have hsep : ∀ y k ts, toksG y (k + [44, 32].length) = .ok ts → ∃ t, toksG ([44, 32] ++ y) k = .ok (t :: ts) ∧ t.2.1 = 44 :: [] ∧ (W → t.2.1 ≠ withinA) := fun y k ts h0 =>
      ⟨(4, [44], k), by
        have e2 := toks_fit (fits_sign (b := 44) (r := 32 :: y) (by decide) (.inl (by decide))) k
        have e3 := toks_blank (g := [32]) (fun c hc => by rw [List.mem_singleton.1 hc]; decide) y (k + 1)
        have e4 : toksG ([44, 32] ++ y) k = glue (4, [44], k) (toksG y (k + 1 + 1)) := e2.trans (congrArg _ e3)
        rw [e4, show k + 1 + 1 = k + [44, 32].length from rfl, h0]
        rfl, rfl, fun _ h => by
        have := congrArg List.length h
        simp [withinA] at this⟩
    have hl := reads_list (W := W) (p := fun _ => aggP e) (c := 44) (s := []) (sb := [44, 32]) (g := aggT) (F := fun _ => True) (G := fun r => Nb [44, 101] r) hsep (fun _ => trivial) (fun r hr => ⟨trivial, hr.mono (by decide)⟩) (x :: es) (by simp) (fun a ha => reads_agg e (h a ha))
    unfold listT
    rw [if_neg (by simp)]
    have ee : ([32, 101, 109, 105, 116, 32] : List UInt8) ++ sepL [44, 32] ((x :: es).map aggT) ++ [] = 32 :: (emitA ++ (32 :: sepL [44, 32] ((x :: es).map aggT))) := by simp [emitA]
    rw [ee]
    exact reads_blank (by decide) (reads_see (x := emitA) (kd := 1) (p := fun _ l => listP [44] (aggP e) l) (q := fun _ l => .ok ([], l)) (fun r _ => fits_word (by decide) (by decide) (nx_cons (by decide))) (fun _ => by decide) (reads_blank (by decide) hl))
/-- A query of which all numbers can be written. -/
structure OkQ (q : Qu) : Prop where
  p : OkT9 q.p
  wi : 0 ≤ q.wi
  hv : ∀ h ∈ q.hv, okC h.cn
theorem checkB_facts {q : Qu} (h : checkB q = true) : soundN 1 q.p = true ∧ q.wi ≤ 99999 ∧ (∀ x ∈ q.hv, haveB x = true) ∧ ∀ x ∈ q.em, aggB x = true := by
  unfold checkB at h
  simp only [Bool.and_eq_true, decide_eq_true_eq] at h
  exact ⟨h.1.1.1, h.1.1.2, List.all_eq_true.1 h.1.2, List.all_eq_true.1 h.2⟩
theorem reads_within (e : Nat) : Reads False (fun _ => wantP e withinA) withinA () (Nx smallB) := reads_want (kd := 1) e (fun r hr => fits_word (by decide) (by decide) hr) (fun h => h.elim)
theorem reads_query (e : Nat) {q : Qu} (h : checkB q = true) (ho : OkQ q) : Reads False (fun f => queryP e (f + 1)) (queryT q) q Fq := by
  obtain ⟨h1, h2, h3, h4⟩ := checkB_facts h
  obtain ⟨p, wi, hs, es⟩ := q
  obtain ⟨o1, o2, o3⟩ := ho
  simp only at h1 h2 h3 h4 o1 o2 o3
  have hp := (node_reads e p 1 h1 o1).2.2
  unfold queryT
  simp only
  have ee : textN p ++ [32, 119, 105, 116, 104, 105, 110, 32] ++ Lib.itoa wi ++ listT [32, 104, 97, 118, 105, 110, 103, 32] (hs.map haveT) [32, 97, 110, 100, 32] [] ++ listT [32, 101, 109, 105, 116, 32] (es.map aggT) [44, 32] [] =
      textN p ++ ((32 :: withinA) ++ ((32 :: Lib.itoa wi) ++ (listT [32, 104, 97, 118, 105, 110, 103, 32] (hs.map haveT) [32, 97, 110, 100, 32] [] ++ listT [32, 101, 109, 105, 116, 32] (es.map aggT) [44, 32] []))) := by
    simp [withinA]
  rw [ee]
  have emit_nb : ∀ (l : List UInt8) (r : List UInt8), (101 : UInt8) ∉ l → (59 : UInt8) ∉ l → Fq r → Nb l (listT [32, 101, 109, 105, 116, 32] (es.map aggT) [44, 32] [] ++ r) := fun l r hl hl2 hr => by
    unfold listT
    split
    · exact fq_nb hr hl2
    · exact (nb_blank (by decide)).2 (nb_cons (by decide) hl)
  have emit_nx : ∀ (r : List UInt8), Fq r → Nx digB (listT [32, 101, 109, 105, 116, 32] (es.map aggT) [44, 32] [] ++ r) := fun r hr => by
    unfold listT
    split
    · exact fq_nx hr (by decide)
    · exact nx_cons (by decide)
  have r5 := reads_map (W := False) (fun zs => (⟨p, wi, hs, zs⟩ : Qu)) (reads_emits e (es := es) h4)
  have r4 := reads_then (W := False) (q := fun _ (hs : List Hv) r => andThen (emitsP e r) fun zs r => .ok ((⟨p, wi, hs, zs⟩ : Qu), r)) (G := Fq) (reads_haves e (hs := hs) fun x hx => ⟨h3 x hx, o3 x hx⟩) (r5.mono fun r hr => fq_nb hr (by decide)) (fun r hr => ⟨emit_nb _ r (by decide) (by decide) hr, emit_nx r hr⟩)
  have r3 := reads_then (W := False) (q := fun _ (w : Int) r => andThen (havesP e r) fun hs r => andThen (emitsP e r) fun zs r => .ok ((⟨p, w, hs, zs⟩ : Qu), r)) (G := Fq) (reads_blank (b := 32) (by decide) (reads_num e (lo := 0) (hi := 99999) (v := wi) (Sm.okI_iff.2 (by omega)) o2 h2)) r4 (fun r hr => by
    rw [List.append_assoc]
    unfold listT
    split
    · exact emit_nx r hr
    · exact nx_cons (by decide))
  have r2 := reads_then (W := False) (q := fun _ _ r => andThen (numP e 0 99999 r) fun w r => andThen (havesP e r) fun hs r => andThen (emitsP e r) fun zs r => .ok ((⟨p, w, hs, zs⟩ : Qu), r)) (G := Fq) (reads_blank (b := 32) (by decide) (reads_within e)) r3 (fun r hr => nx_cons (c := 32) (by decide))
  exact reads_then (W := False) (q := fun _ (n : Nd) r => andThen (wantP e withinA r) fun _ r => andThen (numP e 0 99999 r) fun w r => andThen (havesP e r) fun hs r => andThen (emitsP e r) fun zs r => .ok ((⟨n, w, hs, zs⟩ : Qu), r)) (G := Fq) (hp.weak (fun h => h.elim)) r2 (fun r hr => (⟨(nb_blank (by decide)).2 (nb_cons (b := 119) (by decide) (by decide)), nx_cons (c := 32) (by decide)⟩ : Fp _))
/-- A query is parsed from its text. -/
theorem parse_query {q : Qu} (h : checkB q = true) (ho : OkQ q) (hl : (queryT q).length ≤ 400) : parseP (queryT q) = .ok q := by
  obtain ⟨us, h1, h2, _⟩ := reads_query (queryT q).length h ho [] 0 [] (.inl rfl) (toks_nil _)
  rw [List.append_nil, List.append_nil] at h1
  have h3 := h2 us.length (by simp)
  rw [List.append_nil] at h3
  have h4 : queryP (queryT q).length (us.length + 1) us = .ok (q, []) := h3
  unfold parseP wholeP toksP
  rw [if_neg (by omega), h1]
  simp only
  rw [h4]
  rfl
/-- So is a pattern, also in parentheses. -/
theorem pattern_text {n : Nd} {d : Nat} (h : soundN d n = true) (ho : OkT9 n) (hl : (textN n).length ≤ 400) : patternP (textN n) = .ok n := by
  obtain ⟨us, h1, h2, _⟩ := (node_reads (textN n).length n d h ho).2.2 [] 0 [] ⟨nb_nil _, nx_nil _⟩ (toks_nil _)
  rw [List.append_nil, List.append_nil] at h1
  have h3 := h2 us.length (by simp)
  rw [List.append_nil] at h3
  unfold patternP wholeP toksP
  rw [if_neg (by omega), h1]
  simp only
  have h4 : patP (textN n).length (us.length + 1) us = .ok (n, []) := h3
  rw [h4]
  rfl
theorem pattern_parens {n : Nd} {d : Nat} (h : soundN d n = true) (ho : OkT9 n) (hl : (textN n).length ≤ 390) : patternP ([40, 32, 40] ++ textN n ++ [41, 10, 41]) = .ok n := by
  have hr := (node_reads ([40, 32, 40] ++ textN n ++ [41, 10, 41]).length n d h ho).2.2
  have r1 := pat_one _ (seq_one _ (paren_item _ hr))
  have r2 : Reads True (patF ([40, 32, 40] ++ textN n ++ [41, 10, 41]).length) (32 :: ([40] ++ textN n ++ [41])) n Fp := reads_blank (by decide) r1
  have r3 : Reads True (patF ([40, 32, 40] ++ textN n ++ [41, 10, 41]).length) ((32 :: ([40] ++ textN n ++ [41])) ++ [10]) n Fp := fun r k ts hr ht => by
    have hb := toks_blank (g := [10]) (fun c hc => by rw [List.mem_singleton.1 hc]; decide) r (k + (32 :: ([40] ++ textN n ++ [41])).length)
    obtain ⟨us, g1, g2, g3⟩ := r2 ([10] ++ r) k ts ⟨(nb_blank (by decide)).2 hr.1, nx_cons (c := 10) (by decide)⟩ (by rw [hb]; rw [List.length_append, ← Nat.add_assoc] at ht; exact ht)
    exact ⟨us, by rw [List.append_assoc]; exact g1, g2, g3⟩
  have r4 := pat_one _ (seq_one _ (paren_item _ r3))
  have ee : [40] ++ ((32 :: ([40] ++ textN n ++ [41])) ++ [10]) ++ [41] = [40, 32, 40] ++ textN n ++ [41, 10, 41] := by simp
  rw [ee] at r4
  obtain ⟨us, h1, h2, _⟩ := r4 [] 0 [] ⟨nb_nil _, nx_nil _⟩ (toks_nil _)
  rw [List.append_nil, List.append_nil] at h1
  have h3 := h2 us.length (by simp)
  rw [List.append_nil] at h3
  unfold patternP wholeP toksP
  rw [if_neg (by simp only [List.length_append, List.length_cons, List.length_nil]; omega), h1]
  simp only
  have h4 : patP ([40, 32, 40] ++ textN n ++ [41, 10, 41]).length (us.length + 1) us = .ok (n, []) := h3
  rw [h4]
  rfl
/-- Behind a query's text a semicolon is refused. -/
theorem parse_semicolon {q : Qu} (h : checkB q = true) (ho : OkQ q) (s : List UInt8) : ∃ y, parseP (queryT q ++ 59 :: 32 :: s) = .error y := by
  unfold parseP wholeP
  cases ht : toksP (queryT q ++ 59 :: 32 :: s) with
  | error y => exact ⟨y, rfl⟩
  | ok ts =>
    simp only
    unfold toksP at ht
    split at ht
    · cases ht
    · have hs : toksG (59 :: 32 :: s) (0 + (queryT q).length) = glue (4, [59], 0 + (queryT q).length) (toksG (32 :: s) (0 + (queryT q).length + 1)) := toks_fit (fits_sign (b := 59) (r := 32 :: s) (by decide) (.inl (by decide))) _
      have hb : toksG (32 :: s) (0 + (queryT q).length + 1) = toksG s (0 + (queryT q).length + 1 + 1) := toks_blank (g := [32]) (fun c hc => by rw [List.mem_singleton.1 hc]; decide) s _
      cases hts : toksG s (0 + (queryT q).length + 1 + 1) with
      | error y =>
        exfalso
        have h1 := toks_both _ (queryT q ++ [59]) s 0 (Nat.le_refl _)
        rw [List.append_assoc] at h1
        have h2 : toksG (queryT q ++ 59 :: 32 :: s) 0 = both (toksG (queryT q ++ [59]) 0) (toksG s (0 + (queryT q ++ [59]).length + 1)) := h1
        have hn : 0 + (queryT q ++ [59]).length + 1 = 0 + (queryT q).length + 1 + 1 := by
          rw [List.length_append]
          rfl
        rw [hn, hts, ht] at h2
        cases ha : toksG (queryT q ++ [59]) 0 with
        | error z => rw [ha] at h2; cases h2
        | ok z => rw [ha] at h2; cases h2
      | ok vs =>
        rw [hb, hts] at hs
        obtain ⟨us, h1, h2, _⟩ := reads_query (queryT q ++ 59 :: 32 :: s).length h ho (59 :: 32 :: s) 0 _ (.inr ⟨32 :: s, rfl⟩) hs
        rw [h1] at ht
        cases ht
        have h3 := h2 _ (Nat.le_refl _)
        have h4 : queryP (queryT q ++ 59 :: 32 :: s).length ((us ++ (4, [59], 0 + (queryT q).length) :: vs).length + 1) (us ++ (4, [59], 0 + (queryT q).length) :: vs) = .ok (q, (4, [59], 0 + (queryT q).length) :: vs) := h3
        exact ⟨wrongP (queryT q ++ 59 :: 32 :: s).length ((4, [59], 0 + (queryT q).length) :: vs), by
          show overP _ (queryP _ ((us ++ (4, [59], 0 + (queryT q).length) :: vs).length + 1) _) = _
          rw [h4]
          rfl⟩
end Go.Proofs.YtmfcjaoajanlfaaGreatDoor.P9
namespace Go.Proofs.YtmfcjaoajanlfaaGreatDoor.P9
open Go.RowKit
open Go.Proofs.YtmfcjaoajanlfaaGreatDoor.A8 Go.Proofs.YtmfcjaoajanlfaaGreatDoor.Tk7

/-- The world w, without the blocks of P. -/
def hide (P : Nat → Bool) (w : World) : World := { w with heap := w.heap.mapIdx fun k o => if P k = true then .cells #[] 0 else o }
theorem hide_size (P : Nat → Bool) (w : World) : (hide P w).heap.size = w.heap.size := by simp [hide]
theorem hide_heap (P : Nat → Bool) (w : World) (k : Nat) : (hide P w).heap[k]? = w.heap[k]?.map fun o => if P k = true then .cells #[] 0 else o := by simp [hide]
theorem hide_cell {P : Nat → Bool} {w : World} {a : Addr} {v : Value} (h : (hide P w).cell? a = some v) : P a.block = false ∧ a.block < w.heap.size ∧ w.cell? a = some v := by
  have h1 := hide_heap P w a.block
  cases hh : w.heap[a.block]? with
  | none =>
    rw [hh] at h1
    simp [World.cell?, h1] at h
  | some o =>
    rw [hh] at h1
    have hlt : a.block < w.heap.size := (Array.getElem?_eq_some_iff.1 hh).1
    cases hp : P a.block with
    | true =>
      rw [hp] at h1
      simp only [Option.map_some, if_pos] at h1
      simp [World.cell?, h1] at h
    | false =>
      rw [hp] at h1
      simp only [Option.map_some] at h1
      rw [if_neg (by decide)] at h1
      refine ⟨rfl, hlt, ?_⟩
      rw [← h]
      exact (World.cell?_of_block (w := w) (a := a) (h1.trans hh.symm)).symm
/-- What is in W is in W'. -/
structure Le (W W' : World) : Prop where
  size : W.heap.size ≤ W'.heap.size
  cell : ∀ a v, W.cell? a = some v → W'.cell? a = some v
theorem Le.refl (W : World) : Le W W := ⟨Nat.le_refl _, fun _ _ h => h⟩
theorem Le.trans {A B C : World} (h : Le A B) (k : Le B C) : Le A C := ⟨Nat.le_trans h.size k.size, fun a v hv => k.cell a v (h.cell a v hv)⟩
theorem hide_le {P Q : Nat → Bool} {w w' : World} (hs : w.heap.size ≤ w'.heap.size) (h : ∀ k, k < w.heap.size → P k = false → Q k = false ∧ w'.heap[k]? = w.heap[k]?) : Le (hide P w) (hide Q w') := by
  refine ⟨by rw [hide_size, hide_size]; exact hs, fun a v hv => ?_⟩
  obtain ⟨h1, h2, h3⟩ := hide_cell hv
  obtain ⟨h4, h5⟩ := h a.block h2 h1
  have h6 := hide_heap Q w' a.block
  rw [h4] at h6
  have h7 : (hide Q w').heap[a.block]? = w.heap[a.block]? := by
    rw [h6, h5]
    cases w.heap[a.block]? <;> rfl
  exact (World.cell?_of_block (w := w) (a := a) h7).trans h3
theorem hide_out {P : Nat → Bool} {w w' : World} (hs : w.heap.size ≤ w'.heap.size) (h : ∀ k, k < w.heap.size → P k = false → w'.heap[k]? = w.heap[k]?) : Le (hide P w) w' := by
  refine ⟨by rw [hide_size]; exact hs, fun a v hv => ?_⟩
  obtain ⟨h1, h2, h3⟩ := hide_cell hv
  exact (World.cell?_of_block (w := w) (a := a) (h a.block h2 h1)).trans h3
/-- What lies in w lies in a later w', whatever is hidden that is new. -/
theorem hide_in {Q : Nat → Bool} {w w' : World} (hs : w.heap.size ≤ w'.heap.size) (h : ∀ k, k < w.heap.size → Q k = false ∧ w'.heap[k]? = w.heap[k]?) : Le w (hide Q w') := by
  refine ⟨by rw [hide_size]; exact hs, fun a v hv => ?_⟩
  have hlt : a.block < w.heap.size := by
    cases hh : w.heap[a.block]? with
    | none => simp [World.cell?, hh] at hv
    | some o => exact (Array.getElem?_eq_some_iff.1 hh).1
  obtain ⟨h4, h5⟩ := h a.block hlt
  have h6 := hide_heap Q w' a.block
  rw [h4] at h6
  have h7 : (hide Q w').heap[a.block]? = w.heap[a.block]? := by
    rw [h6, h5]
    cases w.heap[a.block]? <;> rfl
  exact (World.cell?_of_block (w := w) (a := a) h7).trans hv
theorem Le.below {w w' : World} (h : Below w.heap.size w w') : Le w w' := by
  refine ⟨h.size, fun a v hv => ?_⟩
  have hlt : a.block < w.heap.size := by
    cases hh : w.heap[a.block]? with
    | none => simp [World.cell?, hh] at hv
    | some o => exact (Array.getElem?_eq_some_iff.1 hh).1
  exact (h.cell (p := a) hlt).trans hv
theorem sl_le {W W' : World} {sz n : Nat} {v : Value} {us : List Value} (h : Sl W sz n v us) (hl : Le W W') : Sl W' sz n v us := by
  obtain ⟨h1, h2, A, cap, h3, h4, h5, h6⟩ := h
  refine ⟨h1, h2, A, cap, h3, h4, h5, fun i u hu => ?_⟩
  obtain ⟨a, ha, hlt, hc⟩ := h6 i u hu
  exact ⟨a, ha, Nat.lt_of_lt_of_le hlt hl.size, hl.cell _ _ hc⟩
theorem oneA_le {W W' : World} {g : GA} (h : OneA W g) (hl : Le W W') : OneA W' g := ⟨h.1, sl_le h.2 hl⟩
theorem oneT_le {W W' : World} {t : Tr} (h : OneT W t) (hl : Le W W') : OneT W' t := by
  cases t with
  | mk k mn mx g sk ks => exact ⟨h.1, oneA_le h.2.1 hl, sl_le h.2.2 hl⟩
theorem trW_le {W W' : World} {T : Tr} (h : TrW W T) (hl : Le W W') : TrW W' T := fun t ht => oneT_le (h t ht) hl
/-- A slice that is not empty has no cell in a hidden block. -/
theorem sl_lit {W : World} {b : Nat} {us : List Value} (h : Blk W b us) (sz n : Nat) (hl : us.length = n * sz) (hm : n ≤ 1000000) {P : Nat → Bool} (hp : P b = false) : Sl (hide P W) sz n (.slice (some ⟨b, 0, none⟩) n n) us := by
  obtain ⟨h1, h2, A, cap, h3, h4, h5, h6⟩ := Sl.lit h sz n hl hm
  refine ⟨h1, h2, A, cap, h3, h4, h5, fun i u hu => ?_⟩
  obtain ⟨a, ha, hlt, hc⟩ := h6 i u hu
  cases h3
  cases ha
  refine ⟨_, rfl, by rw [hide_size]; exact hlt, ?_⟩
  have h7 := hide_heap P W b
  rw [hp] at h7
  have h8 : (hide P W).heap[b]? = W.heap[b]? := by
    rw [h7]
    cases W.heap[b]? <;> rfl
  exact (World.cell?_of_block (w := W) (a := (⟨b, 0, none⟩ : Addr).add i) (by rw [add_block]; exact h8)).trans hc
/-- A row of the call's own, seen where its block is not hidden. -/
theorem sl_row {w : World} {base sz n : Nat} {e : TypeId} {v : Value} {us : List Value} (h : w.ownsRow base e sz v n us) {P : Nat → Bool} (hp : ∀ k, base ≤ k → P k = false) : Sl (hide P w) sz n v us := by
  have hs := Sl.of_own h
  have hlt := h.lt
  obtain ⟨h1, h2, A, cap, h3, h4, h5, h6⟩ := hs
  refine ⟨h1, h2, A, cap, h3, h4, h5, fun i u hu => ?_⟩
  obtain ⟨a, ha, hl, hc⟩ := h6 i u hu
  refine ⟨a, ha, by rw [hide_size]; exact hl, ?_⟩
  have hb : base ≤ a.block := by
    rcases h.2 with ⟨hv, hn⟩ | ⟨g, cap', cur, hv, hg, _⟩
    · rw [hv] at h3
      cases h3
      cases ha
    · rw [hv] at h3
      cases h3
      cases ha
      exact hg
  have h7 := hide_heap P w a.block
  rw [hp _ hb] at h7
  have h8 : (hide P w).heap[a.block]? = w.heap[a.block]? := by
    rw [h7]
    cases w.heap[a.block]? <;> rfl
  exact (World.cell?_of_block (w := w) (a := a.add i) (by rw [add_block]; exact h8)).trans hc

/-! Worlds in which one old block may have turned. -/
theorem grown_trans {w w1 w2 : World} {b : Nat} (h : w.grownBy w1 (some b)) (k : w1.grownBy w2 (some b)) : w.grownBy w2 (some b) :=
  ⟨k.os.trans h.os, k.tape.trans h.tape, k.output.trans h.output, Nat.le_trans h.size k.size, fun i hi hne => (k.block i (Nat.lt_of_lt_of_le hi h.size) hne).trans (h.block i hi hne)⟩
theorem grown_of {w w' : World} (b : Nat) (h : Below w.heap.size w w') : w.grownBy w' (some b) := ⟨h.os, h.tape, h.output, h.size, fun k hk _ => h.block k hk⟩
theorem grown_refl (w : World) (b : Nat) : w.grownBy w (some b) := ⟨rfl, rfl, rfl, Nat.le_refl _, fun _ _ _ => rfl⟩
theorem grown_to {w W w' : World} {b : Nat} (hb : Below w.heap.size w W) (h : W.grownBy w' (some b)) : w.grownBy w' (some b) := grown_trans (grown_of b hb) h
/-- What lies above m is as it was where b is below m. -/
theorem above_le {w w' : World} {b m m' : Nat} (h : w.grownBy w' (some b)) (hb : b < m) (hm : m' ≤ m) : Le (hide (fun k => decide (k < m)) w) (hide (fun k => decide (k < m')) w') :=
  hide_le h.size fun k hk hp => ⟨by simp only [decide_eq_false_iff_not] at hp ⊢; omega, h.block k hk (fun e => by injection e with e; simp only [decide_eq_false_iff_not] at hp; omega)⟩
theorem but_le {w w' : World} {b : Nat} (h : w.grownBy w' (some b)) : Le (hide (fun k => k == b) w) (hide (fun k => k == b) w') :=
  hide_le h.size fun k hk hp => ⟨hp, h.block k hk (fun e => by injection e with e; simp at hp; omega)⟩

/-- From m on all is kept. -/
structure Tn (m : Nat) (w w' : World) : Prop where
  size : w.heap.size ≤ w'.heap.size
  block : ∀ k, m ≤ k → k < w.heap.size → w'.heap[k]? = w.heap[k]?
theorem Tn.refl (m : Nat) (w : World) : Tn m w w := ⟨Nat.le_refl _, fun _ _ _ => rfl⟩
theorem Tn.trans {m : Nat} {a b c : World} (h : Tn m a b) (k : Tn m b c) : Tn m a c := ⟨Nat.le_trans h.size k.size, fun i hi hl => (k.block i hi (Nat.lt_of_lt_of_le hl h.size)).trans (h.block i hi hl)⟩
theorem Tn.grown {m b : Nat} {w w' : World} (h : w.grownBy w' (some b)) (hb : b < m) : Tn m w w' := ⟨h.size, fun k hk hl => h.block k hl (fun e => by injection e with e; omega)⟩
theorem Tn.only {m R : Nat} {w w' : World} (h : Only R w w') (hR : R < m) : Tn m w w' := ⟨Nat.le_of_eq h.size.symm, fun k hk _ => h.block k (by omega)⟩
theorem Tn.below {m : Nat} {w w' : World} (h : Below w.heap.size w w') : Tn m w w' := ⟨h.size, fun k _ hl => h.block k hl⟩
theorem Tn.le {m m' : Nat} {w w' : World} (h : Tn m w w') (hm : m' ≤ m) : Le (hide (fun k => decide (k < m)) w) (hide (fun k => decide (k < m')) w') :=
  hide_le h.size fun k hk hp => by
    simp only [decide_eq_false_iff_not] at hp ⊢
    exact ⟨by omega, h.block k (by omega) hk⟩
theorem Tn.out {m : Nat} {w w' : World} (h : Tn m w w') : Le (hide (fun k => decide (k < m)) w) w' :=
  hide_out h.size fun k hk hp => by
    simp only [decide_eq_false_iff_not] at hp
    exact h.block k (by omega) hk
theorem grown_only {w W V : World} {b R : Nat} (h : w.grownBy W (some b)) (hR : w.heap.size ≤ R) (ho : Only R W V) : w.grownBy V (some b) :=
  ⟨ho.os.trans h.os, ho.tape.trans h.tape, ho.output.trans h.output, by rw [ho.size]; exact h.size, fun k hk hne => (ho.block k (by omega)).trans (h.block k hk hne)⟩
theorem grown_low {w W V : World} {b R : Nat} (h : w.grownBy W (some b)) (hR : w.heap.size ≤ R) (hV : Below R W V) : w.grownBy V (some b) :=
  ⟨hV.os.trans h.os, hV.tape.trans h.tape, hV.output.trans h.output, Nat.le_trans h.size hV.size, fun k hk hne => (hV.block k (by omega)).trans (h.block k hk hne)⟩
/-- Values laid into a block, from i on. -/
def fillW (W : World) (R : Nat) : Nat → List Value → World
  | _, [] => W
  | i, u :: us => fillW (W.setCell ⟨R, i, none⟩ u) R (i + 1) us
theorem fill_only (R : Nat) : ∀ (us : List Value) (i : Nat) (W : World), Only R W (fillW W R i us)
  | [], _, W => Only.refl R W
  | u :: us, i, W => ((Only.refl R W).setCell i u).trans (fill_only R us (i + 1) _)
theorem fill_blk (R : Nat) : ∀ (us : List Value) (i : Nat) (W : World) (xs : List Value), Blk W R xs → i + us.length ≤ xs.length → Blk (fillW W R i us) R (xs.take i ++ us ++ xs.drop (i + us.length))
  | [], i, W, xs, h, hl => by
    rw [List.append_nil, List.length_nil, Nat.add_zero, List.take_append_drop]
    exact h
  | u :: us, i, W, xs, h, hl => by
    have hlen : i + (us.length + 1) ≤ xs.length := hl
    have h1 := fill_blk R us (i + 1) _ (xs.set i u) (h.set i u) (by rw [List.length_set]; omega)
    have e1 : (xs.set i u).take (i + 1) = xs.take i ++ [u] := by
      rw [List.take_add_one, List.take_set_of_le (Nat.le_refl _), List.getElem?_set_self (by omega)]
      rfl
    have e2 : (xs.set i u).drop (i + 1 + us.length) = xs.drop (i + (u :: us).length) := by
      rw [List.drop_set_of_lt (by omega)]
      congr 1
      simp only [List.length_cons]
      omega
    rw [e1, e2, List.append_assoc, List.append_assoc] at h1
    rw [List.append_assoc]
    exact h1
/-- A struct is laid into its block. -/
theorem res_out {W V : World} {R : Nat} {xs us : List Value} (h : Blk W R xs) (hl : us.length = xs.length) (hV : V = fillW W R 0 us) : Blk V R us ∧ Only R W V := by
  subst hV
  have h1 := fill_blk R us 0 W xs h (by omega)
  rw [List.take_zero, List.nil_append, List.drop_eq_nil_of_le (by omega), List.append_nil] at h1
  exact ⟨h1, fill_only R us 0 W⟩

/-! Tokens in memory. -/
def tkC (t : T) : List Value := [.int .i64 (t.1 : Int), .string (strOf t.2.1), .int .i64 (t.2.2 : Int)]
theorem tkC_len (t : T) : (tkC t).length = 3 := rfl
/-- The tokens of a text, and the length of the text. -/
structure G9 where
  v : Value
  ts : List T
  e : Nat
structure Ok9 (g : G9) : Prop where
  tok : ∀ t ∈ g.ts, isTok t.1 t.2.1 = true
  at_ : ∀ t ∈ g.ts, t.2.2 < 100000
  len : ∀ t ∈ g.ts, t.2.1.length < 100000
  n : g.ts.length < 100000
  e : g.e < 100000
end Go.Proofs.YtmfcjaoajanlfaaGreatDoor.P9
namespace Go.Proofs.YtmfcjaoajanlfaaGreatDoor.Kq
open Go.Proofs.YtmfcjaoajanlfaaGreatDoor.A8 Go.Proofs.YtmfcjaoajanlfaaGreatDoor.Tk7 Go.Proofs.YtmfcjaoajanlfaaGreatDoor.Lb Go.Proofs.YtmfcjaoajanlfaaGreatDoor.P9

theorem itoa_form (v : Int) : Lib.itoa v = if v < 0 then 45 :: Lib.decDigits v.natAbs else Lib.decDigits v.toNat := rfl
theorem decK (k : Nat) : ∀ u, u < 10 ^ (k + 1) → (Lib.decDigits u).length ≤ k + 1 := by
  induction k with
  | zero => intro u h; rw [Lib.decDigits_one (by omega)]; simp
  | succ k ih =>
    intro u h
    by_cases h1 : u < 10
    · rw [Lib.decDigits_one h1]; simp
    · rw [Lib.decDigits, dif_neg h1, List.length_append]
      have h2 : 10 ^ (k + 1 + 1) = 10 ^ (k + 1) * 10 := Nat.pow_succ _ _
      have := ih (u / 10) (by omega)
      simp only [List.length_cons, List.length_nil]
      omega
theorem itoaK (v : Int) (h0 : -9223372036854775808 ≤ v) (h1 : v < 18446744073709551616) : (Lib.itoa v).length ≤ 21 := by
  rw [itoa_form]
  split
  · have := decK 19 v.natAbs (by omega)
    simp only [List.length_cons]
    omega
  · have := decK 19 v.toNat (by omega)
    omega
theorem sepK (sep : List UInt8) (K : Nat) : ∀ l : List (List UInt8), (∀ x ∈ l, x.length ≤ K) → (sepL sep l).length ≤ (K + sep.length) * l.length
  | [], _ => Nat.zero_le _
  | [x], h => by
    have := h x (by simp)
    show x.length ≤ _
    simp
    omega
  | x :: z :: l, h => by
    have h1 := h x (by simp)
    have h2 := sepK sep K (z :: l) (fun y hy => h y (List.mem_cons_of_mem _ hy))
    rw [sepL, List.length_append, List.length_append]
    rw [List.length_cons (a := x), Nat.mul_succ]
    omega
theorem opsK (k : Nat) : (opsA.getD k []).length ≤ 10 := by
  by_cases h : k < 7
  · have : ∀ i : Fin 7, (opsA.getD i.val []).length ≤ 10 := by decide +kernel
    exact this ⟨k, h⟩
  · unfold List.getD
    rw [List.getElem?_eq_none (by show 7 ≤ k; omega)]
    exact Nat.zero_le _
theorem funsK (k : Nat) : (funsA.getD k []).length ≤ 10 := by
  by_cases h : k < 7
  · have : ∀ i : Fin 7, (funsA.getD i.val []).length ≤ 10 := by decide +kernel
    exact this ⟨k, h⟩
  · unfold List.getD
    rw [List.getElem?_eq_none (by show 7 ≤ k; omega)]
    exact Nat.zero_le _
theorem condK {c : Cn} (h : okV c.va) : (condT c).length ≤ 31 := by
  unfold condT
  rw [List.length_append]
  have := opsK c.op.toNat
  have := itoaK c.va h.1 (by have := h.2; omega)
  omega
theorem labelK {x : Int} (h : 0 ≤ x ∧ x < 4) : (labelT x).length ≤ 194 := by
  have : ∀ n : Fin 4, (labelT ((n.val : Nat) : Int)).length ≤ 194 := by decide +kernel
  have h2 := this ⟨x.toNat, by omega⟩
  simp only at h2
  rwa [show ((x.toNat : Nat) : Int) = x by omega] at h2
theorem atomK {a : At} (hb : 0 ≤ a.bn ∧ a.bn < 4) (hc : a.cs.length ≤ 20) (hn : a.nm.length ≤ 30) (hv : ∀ c ∈ a.cs, okV c.va) : (atomT a).length ≤ 900 := by
  unfold atomT
  rw [List.length_append, List.length_append, List.length_append]
  have h1 : (if a.bd = true then 64 :: labelT a.bn else []).length ≤ 195 := by
    split
    · have := labelK hb
      simp only [List.length_cons]
      omega
    · exact Nat.zero_le _
  have h2 : (listT [91] (a.cs.map condT) [44] [93]).length ≤ 642 := by
    unfold listT
    split
    · exact Nat.zero_le _
    · rw [List.length_append, List.length_append]
      have h3 := sepK [44] 31 (a.cs.map condT) (fun y hy => by
        obtain ⟨u, hu, rfl⟩ := List.mem_map.1 hy
        exact condK (hv u hu))
      rw [List.length_map] at h3
      have h4 : (31 + [44].length) * a.cs.length ≤ 32 * 20 := Nat.mul_le_mul_left 32 hc
      simp only [List.length_cons, List.length_nil] at h3 h4 ⊢
      omega
  have h5 : (if a.nm.isEmpty = true then [] else 58 :: a.nm).length ≤ 31 := by
    split
    · exact Nat.zero_le _
    · simp only [List.length_cons]
      omega
  simp only [List.length_cons, List.length_nil]
  omega
theorem timesK {mn mx : Int} (h1 : okV mn) (h2 : okV mx) : (timesT mn mx).length ≤ 45 := by
  unfold timesT
  split
  · exact Nat.zero_le _
  · have := itoaK mn h1.1 (by have := h1.2; omega)
    have := itoaK mx h2.1 (by have := h2.2; omega)
    simp only [List.length_append, List.length_cons, List.length_nil]
    omega
def ndMn : Nd → Int | .mk _ m _ _ _ => m
def ndMx : Nd → Int | .mk _ _ m _ _ => m
/-- Small: few conditions, short names, numbers of 64 bits. -/
def SmallN (n : Nd) : Prop := ∀ t ∈ subsN n, (t.atom.cs.length ≤ 20 ∧ t.atom.nm.length ≤ 30) ∧ (0 ≤ t.atom.bn ∧ t.atom.bn < 4) ∧ (∀ c ∈ t.atom.cs, okV c.va) ∧ okV (ndMn t) ∧ okV (ndMx t)
theorem SmallN.kid {k mn mx : Int} {a : At} {ks : List Nd} (h : SmallN (.mk k mn mx a ks)) {t : Nd} (ht : t ∈ ks) : SmallN t := fun u hu => by
  refine h u ?_
  rw [subsN, subsL_flat]
  exact List.mem_cons_of_mem _ (List.mem_flatMap.2 ⟨t, ht, hu⟩)
theorem textK (n : Nd) : SmallN n → (textN n).length + 5 ≤ 1000 * nodesN n := by
  refine Nd.ind (P := fun n => SmallN n → (textN n).length + 5 ≤ 1000 * nodesN n) (fun k mn mx a ks ih => ?_) n
  intro h
  obtain ⟨⟨h1, h2⟩, h0, h3, h4, h5⟩ := h (.mk k mn mx a ks) (by rw [subsN]; exact List.mem_cons_self)
  have hA : (atomT a).length ≤ 900 := atomK h0 h1 h2 h3
  have hT : (timesT mn mx).length ≤ 45 := timesK h4 h5
  have hS : ∀ (j : Int) (sep : List UInt8), sep.length = 3 → (sepL sep (textL j ks)).length ≤ 1000 * nodesL ks := fun j sep hs => by
    rw [textL_map]
    have : ∀ l : List Nd, (∀ t ∈ l, (textN t).length + 5 ≤ 1000 * nodesN t) → (sepL sep (l.map fun n => wrapT j n.kind (textN n))).length ≤ 1000 * nodesL l := fun l => by
      have hw : ∀ t : Nd, (wrapT j t.kind (textN t)).length ≤ (textN t).length + 2 := fun t => by
        unfold wrapT
        split
        · simp only [List.length_append, List.length_cons, List.length_nil]
          omega
        · omega
      induction l with
      | nil => intro _; exact Nat.zero_le _
      | cons x xs ihx =>
        intro hl
        have e1 := hl x (by simp)
        have e2 := hw x
        have e3 := ihx (fun t ht => hl t (List.mem_cons_of_mem _ ht))
        cases xs with
        | nil =>
          show (wrapT j x.kind (textN x)).length ≤ _
          rw [nodesL, nodesL]
          omega
        | cons y ys =>
          rw [nodesL]
          simp only [List.map_cons, sepL, List.length_append] at e3 ⊢
          omega
    exact this ks (fun t ht => ih t ht (h.kid ht))
  rw [nodesN]
  rw [textN]
  split
  · rw [List.length_append]
    omega
  · split
    · rw [List.length_append]
      simp only [List.length_cons, List.length_nil]
      omega
    · split
      · have := hS k [32, 59, 32] rfl
        omega
      · split
        · have := hS k [32, 124, 32] rfl
          omega
        · simp only [List.length_nil]
          omega
theorem aggK {a : Ag} (h : a.nm.length ≤ 30) : (aggT a).length ≤ 42 := by
  unfold aggT
  have := funsK a.fn.toNat
  simp only [List.length_append, List.length_cons, List.length_nil]
  omega
theorem haveK {x : Hv} (h : x.ag.nm.length ≤ 30) (hv : okV x.cn.va) : (haveT x).length ≤ 75 := by
  unfold haveT
  have := aggK h
  have := condK hv
  simp only [List.length_append, List.length_cons, List.length_nil]
  omega
theorem listK {bef btw : List UInt8} {l : List (List UInt8)} {K : Nat} (h : ∀ x ∈ l, x.length ≤ K) (hl : l.length ≤ 20) (hb : bef.length ≤ 10) (hw : btw.length ≤ 10) : (listT bef l btw []).length ≤ 10 + (K + 10) * 20 := by
  unfold listT
  split
  · exact Nat.zero_le _
  · have h1 := sepK btw K l h
    have h2 : (K + btw.length) * l.length ≤ (K + 10) * 20 := Nat.mul_le_mul (by omega) hl
    simp only [List.length_append, List.length_nil]
    omega
theorem queryK {q : Qu} (hs : SmallN q.p) (hn : nodesN q.p ≤ 250) (hw : 0 ≤ q.wi ∧ q.wi < 18446744073709551616) (hh : q.hv.length ≤ 20) (he : q.em.length ≤ 20) (h1 : ∀ x ∈ q.hv, x.ag.nm.length ≤ 30 ∧ okV x.cn.va) (h2 : ∀ x ∈ q.em, x.nm.length ≤ 30) : (queryT q).length ≤ 300000 := by
  have a1 := textK q.p hs
  have a2 := itoaK q.wi (by omega) hw.2
  have a3 := listK (bef := [32, 104, 97, 118, 105, 110, 103, 32]) (btw := [32, 97, 110, 100, 32]) (l := q.hv.map haveT) (K := 75) (fun y hy => by
    obtain ⟨u, hu, rfl⟩ := List.mem_map.1 hy
    exact haveK (h1 u hu).1 (h1 u hu).2) (by rw [List.length_map]; exact hh) (by decide) (by decide)
  have a4 := listK (bef := [32, 101, 109, 105, 116, 32]) (btw := [44, 32]) (l := q.em.map aggT) (K := 42) (fun y hy => by
    obtain ⟨u, hu, rfl⟩ := List.mem_map.1 hy
    exact aggK (h2 u hu)) (by rw [List.length_map]; exact he) (by decide) (by decide)
  unfold queryT
  simp only [List.length_append, List.length_cons, List.length_nil] at a3 a4 ⊢
  omega

theorem subs_one (n : Nd) : n ∈ subsN n := by
  cases n
  rw [subsN]
  exact List.mem_cons_self
theorem kq_small {q : Qu} (h : KQok q) : SmallN q.p := fun t ht => by
  obtain ⟨h1, h2, h3, h4, h5⟩ := h.sm t ht
  obtain ⟨k, mn, mx, a, ks⟩ := t
  exact ⟨⟨by simp only [Nd.atom] at h3 ⊢; omega, by simp only [Nd.atom] at h4 ⊢; omega⟩, h1, fun c hc => (h2 c hc).2, h5.2.1, h5.2.2⟩
/-- The texts of the kit's queries are not long, and the queries are as reading wants them. -/
theorem kq_len {q : Qu} (h : KQok q) : (queryT q).length ≤ 1000000 ∧ (textN q.p).length ≤ 1000000 := by
  have h1 := textK q.p (kq_small h)
  have h2 := h.few
  have h3 := queryK (q := q) (kq_small h) (by omega) ⟨h.wi.1, by have := h.wi.2; omega⟩ (by have := h.hl; omega) (by have := h.el; omega) (fun x hx => ⟨by have := (h.hv x hx).2.2; omega, (h.hv x hx).1.2⟩) (fun x hx => by have := (h.em x hx).2; omega)
  omega
theorem kq_ok {q : Qu} (h : KQok q) : OkQ q := by
  refine ⟨fun t ht => ?_, h.wi.1, fun x hx => (h.hv x hx).1⟩
  obtain ⟨h1, h2, -⟩ := h.sm t ht
  exact ⟨⟨h1.1, by have := h1.2; omega⟩, h2⟩
theorem text_le (q : Qu) : (textN q.p).length ≤ (queryT q).length := by
  unfold queryT
  simp only [List.length_append]
  omega
theorem text_head (q : Qu) : ∃ Y, queryT q = textN q.p ++ Y := by
  unfold queryT
  simp only [List.append_assoc]
  exact ⟨_, rfl⟩
end Go.Proofs.YtmfcjaoajanlfaaGreatDoor.Kq
