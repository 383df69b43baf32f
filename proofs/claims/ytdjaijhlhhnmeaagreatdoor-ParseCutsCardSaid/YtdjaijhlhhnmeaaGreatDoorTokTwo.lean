/- Package token: all tokens, checks, words. -/
import Derived.Test.YtdjaijhlhhnmeaaGreatDoorTokOneB
import Derived.RangeFuncNested
import Derived.RangeFuncFrom
import Derived.RangeFuncBox
import Derived.RangeFuncBound
import Derived.RangeFuncCalls
import Derived.RangeFuncLeaves
import Derived.Shelf.Abstract
import Derived.Shelf.RegionOpen
import Derived.WalkKit
import Derived.OwnWalkIn
import Derived.TacticsInMore
import Derived.LoopNIn
import Derived.LoopIn
import Derived.Outline
import Derived.Test.YtdjaijhlhhnmeaaGreatDoorWd
import Derived.Deep.LoopGhost
import Derived.BigQuiet
import Derived.Deep.Slices
namespace Go.Proofs.YtdjaijhlhhnmeaaGreatDoor
open Go.RowKit
open Tk7

/-- What is handed out from the place k on. -/
def seqX (l : List UInt8) : Nat → Nat → List NX
  | 0, _ => []
  | f + 1, k => if (nextX l (k : Int)).er = 5 then [] else if (nextX l (k : Int)).er = 0 then nextX l (k : Int) :: seqX l f (nextX l (k : Int)).nx else [nextX l (k : Int)]
def okX (t : T) : NX := ⟨t.1, t.2.1, t.2.2, t.2.2 + t.2.1.length, 0, 0⟩
def badX (e : Int × Nat) : NX := ⟨0, [], 0, 0, e.1, e.2⟩
theorem nextX_nat {l : List UInt8} {k : Nat} (hk : k ≤ l.length) : nextX l (k : Int) = match nextG (l.drop k) k with
    | .error e => badX e
    | .ok (kd, p, n) => ⟨kd, (l.drop p).take n, p, p + n, 0, 0⟩ := by
  unfold nextX
  rw [if_neg (by omega), Int.toNat_natCast]
  cases nextG (l.drop k) k with
  | error e => rfl
  | ok x => rfl
/-- The next token, read off the rest of the text. -/
theorem next_cases {l : List UInt8} {k : Nat} (hk : k ≤ l.length) :
    (toksG (l.drop k) k = .ok [] ∧ nextX l (k : Int) = badX (5, l.length)) ∨
    (∃ p, toksG (l.drop k) k = .error (3, p) ∧ nextX l (k : Int) = badX (3, p)) ∨
    (∃ t : T, toksG (l.drop k) k = glue t (toksG (l.drop (t.2.2 + t.2.1.length)) (t.2.2 + t.2.1.length)) ∧ nextX l (k : Int) = okX t ∧ k < t.2.2 + t.2.1.length ∧ t.2.2 + t.2.1.length ≤ l.length) := by
  rw [nextX_nat hk, toksG_eq]
  unfold nextG
  have h1 := drop_len (l.drop k)
  have hl : (l.drop k).length = l.length - k := List.length_drop
  have hdd : (l.drop k).dropWhile blankB = l.drop (k + ((l.drop k).takeWhile blankB).length) := by rw [drop_while, List.drop_drop]
  have htl : ((l.drop k).takeWhile blankB).length = (l.drop k).length - ((l.drop k).dropWhile blankB).length := by
    have := congrArg List.length (List.takeWhile_append_dropWhile (p := blankB) (l := l.drop k))
    rw [List.length_append] at this
    omega
  cases hd : (l.drop k).dropWhile blankB with
  | nil =>
    left
    refine ⟨rfl, ?_⟩
    simp only
    rw [hl, show k + (l.length - k) = l.length by omega]
  | cons b r =>
    rw [hd] at h1 hdd htl
    right
    simp only
    by_cases hz : (begG (b :: r)).2 = 0
    · left
      rw [if_pos hz, if_pos hz]
      exact ⟨_, rfl, rfl⟩
    · right
      rw [if_neg hz, if_neg hz]
      have hle := begG_le (b :: r)
      have e1 : k + ((l.drop k).length - (b :: r).length) = k + ((l.drop k).takeWhile blankB).length := by rw [htl]
      rw [e1]
      obtain ⟨p, hp⟩ : ∃ p, p = k + ((l.drop k).takeWhile blankB).length := ⟨_, rfl⟩
      rw [← hp] at hdd ⊢
      have hlen : ((b :: r).take (begG (b :: r)).2).length = (begG (b :: r)).2 := by rw [List.length_take]; exact Nat.min_eq_left hle
      have hpl : (b :: r).length = l.length - p := by rw [hdd, List.length_drop]
      refine ⟨((begG (b :: r)).1, (b :: r).take (begG (b :: r)).2, p), ?_, ?_, ?_, ?_⟩
      · simp only
        rw [hlen, hdd, List.drop_drop]
      · simp only
        unfold okX
        simp only
        rw [hlen, hdd]
      · show k < p + ((b :: r).take (begG (b :: r)).2).length
        rw [hlen]; omega
      · show p + ((b :: r).take (begG (b :: r)).2).length ≤ l.length
        rw [hlen]
        simp only [List.length_cons] at hpl hle h1
        omega
/-- What is handed out, against the tokens. -/
theorem seq_toks (l : List UInt8) : ∀ (f k : Nat), k ≤ l.length → l.length - k < f →
    (∃ ts : List T, toksG (l.drop k) k = .ok ts ∧ seqX l f k = ts.map okX) ∨ (∃ (e : Int × Nat) (ts : List T), toksG (l.drop k) k = .error e ∧ e.1 = 3 ∧ seqX l f k = ts.map okX ++ [badX e]) := by
  intro f
  induction f with
  | zero => intro k _ h; omega
  | succ f ih =>
    intro k hk hf
    rcases next_cases hk with ⟨h1, h2⟩ | ⟨p, h1, h2⟩ | ⟨t, h1, h2, h3, h4⟩
    · left
      refine ⟨[], h1, ?_⟩
      unfold seqX
      rw [h2, if_pos (by rfl)]
      rfl
    · right
      refine ⟨_, [], h1, rfl, ?_⟩
      unfold seqX
      rw [h2, if_neg (by show ¬ (3 : Int) = 5; decide), if_neg (by show ¬ (3 : Int) = 0; decide)]
      rfl
    · have hs : seqX l (f + 1) k = okX t :: seqX l f (t.2.2 + t.2.1.length) := by
        rw [seqX, h2, if_neg (by show ¬ (0 : Int) = 5; decide), if_pos (by rfl)]
        rfl
      rw [hs, h1]
      rcases ih _ h4 (by omega) with ⟨ts, h5, h6⟩ | ⟨e, ts, h5, h6, h7⟩
      · left
        exact ⟨t :: ts, by rw [h5]; rfl, by rw [h6]; rfl⟩
      · right
        exact ⟨e, t :: ts, by rw [h5]; rfl, h6, by rw [h7]; rfl⟩
/-- All that is handed out of a text. -/
def seqA (l : List UInt8) : List NX := seqX l (l.length + 1) 0
theorem seqX_len (l : List UInt8) : ∀ (f k : Nat), (seqX l f k).length ≤ f := by
  intro f
  induction f with
  | zero => intro k; exact Nat.le_refl _
  | succ f ih =>
    intro k
    unfold seqX
    split
    · simp
    · split
      · have := ih (nextX l (k : Int)).nx
        simp only [List.length_cons]; omega
      · simp
end Go.Proofs.YtdjaijhlhhnmeaaGreatDoor
namespace Go.Proofs.YtdjaijhlhhnmeaaGreatDoor
open Go.RowKit Go.Shelf
attribute [local go_sem] Oper.semAt_some

/-- How a round may end. -/
def roundEnd {α : Type} (Kp : World → World → Prop) (I Ix : List α → World → Prop) (xs : List α) (W : World) : Exit → Act → World → Prop
  | .normal, _, W' => KeepsOthers W W' ∧ Kp W W' ∧ I xs W'
  | .ret, _, W' => KeepsOthers W W' ∧ Ix xs W'
  | _, _, _ => False
theorem ownFrom_grow {β : Type} {B : Nat} {I : β → World → Prop} (h : OwnFrom B I) {s : β} {W W' : World} (hs : I s W) (hb : Below W.heap.size W W') : I s W' :=
  h s W W' none hs (grown_below _ _ hb) (fun r e => by cases e)
section
variable {F : Fence} {n : Nat} {P : Program}
/-- The statement over such an iterator: between two rounds I holds, and a round may return (Ix); A says how the values of a round lie. -/
theorem wpIn_range_asg {α : Type} {g : Operand} {ps : Array Tmp} {assign body : Code} {Q : Exit → Act → World → Prop} {a : Act} {w : World}
    (hro : F.round = none) (h1 : 1 ≤ n) {gf : Nat} {lb : Array Value} (hg : a.eval g = .func (.func gf) #[] lb) (hFg : F.fn gf) (eg : ∀ args w, (callFunc gf args).run P w = .ok (.enter gf args) w)
    {encs : α → Array Value} {Kp : World → World → Prop} {Sd Sp : List α → Prop} {N : Nat} {w0 : World} (hseq : SeqStopsK F (n - 1) P gf lb encs Kp Sd Sp N w0)
    (hKt : ∀ {A B C : World}, Kp A B → Kp B C → Kp A C) (hKb : ∀ (W : World) (l : Nat) (o o' : Obj), w.heap.size ≤ l → W.heap[l]? = some o → o.isCells = false → Kp W (W.putObj l o')) (hKa : ∀ W W' : World, Below W.heap.size W W' → Kp W W')
    (hb0 : Below w0.heap.size w0 w) (hps : ∀ x, (encs x).size = ps.size)
    (I Ix : List α → World → Prop) (hI : OwnFrom w.heap.size I) (hIx : OwnFrom w.heap.size Ix) (h0 : I [] w)
    (A : α → Act → World → Prop) (hA : ∀ x act, OwnFrom w.heap.size (fun (_ : Unit) W => A x act W))
    (hassign : ∀ (l : Nat) (x : α) (W : World) (K : Act → World → Prop), w.heap.size ≤ W.heap.size → (∀ act W1, A x act W1 → Below W.heap.size W W1 → K act W1) →
      assign.wpIn (F.inRound l) (n - 1 - 1) P (Exit.then K (fun _ _ _ => False)) { tmps := (ps.zip (encs x)).foldl (fun t (p, v) => t.setIfInBounds p v) a.tmps, defers := [] } W)
    (hbody : ∀ (l : Nat) (pre : List α) (x : α) (act : Act) (W : World), pre.length < N → I pre W → A x act W → body.wpIn (F.inRound l) (n - 1 - 1) P (roundEnd Kp I Ix (pre ++ [x]) W) act W)
    (hdone : ∀ (D : Nat) (xs : List α) (W : World), w.heap.size ≤ D → Sd xs → I xs W → W.heap[D]? = some (.deferred (some [])) → Q .normal { a with defers := { target := .collected D, args := #[] } :: a.defers } W)
    (hstop : ∀ (D : Nat) (pre : List α) (W : World), w.heap.size ≤ D → Sp pre → Ix pre W → W.heap[D]? = some (.deferred (some [])) → Code.ret.wpIn F n P Q { a with defers := { target := .collected D, args := #[] } :: a.defers } W) :
    (Code.rangeFunc g ps assign body).wpIn F n P Q a w := by
  refine wpIn_rangeFunc ?_
  intro fn hfn
  rw [hro]
  -- the loop's record, in a state, with a jump that is pending
  obtain ⟨rec, hrec⟩ : ∃ rec : LoopState → Option Code → Loop, rec = fun st pe => { state := st, pending := pe, fn, tmps := a.tmps, params := ps, assign, body, defers := w.heap.size } := ⟨_, rfl⟩
  obtain ⟨S, hS⟩ : ∃ S, S = w.heap.size := ⟨_, rfl⟩
  obtain ⟨W1, hW1⟩ : ∃ W1, W1 = (w.alloc (.deferred (some []))).alloc (.loop (rec .ready none)) := ⟨_, rfl⟩
  have hnew : W1.heap[S + 1]? = some (.loop (rec .ready none)) := by
    have := World.alloc_heap_new (w.alloc (.deferred (some []))) (.loop (rec .ready none))
    rw [World.size_alloc, ← hS, ← hW1] at this
    exact this
  have hdef : W1.heap[S]? = some (.deferred (some [])) := by
    rw [hW1, hS]
    exact (Below.heap_alloc _ _ _ (by simp)).trans (World.alloc_heap_new w _)
  have hW1s : S + 2 ≤ W1.heap.size := by rw [hW1, hS]; simp
  have hI1 : I [] W1 := hW1 ▸ hI.alloc _ (hI.alloc _ h0)
  have hb1 : Below w0.heap.size w0 W1 := hW1 ▸ hb0.trans ((((Below.refl _ w).alloc (Nat.le_refl _) _).alloc (by simp) _).mono hb0.size)
  rw [← hS] at hI hIx hKb hdone hstop hA hassign
  have turn : ∀ {K : List α → World → Prop} {pre : List α} {W : World} {o : Obj} (o' : Obj), OwnFrom S K → K pre W → W.heap[S + 1]? = some o → o.isCells = false → W.heap[S]? = some (.deferred (some [])) →
      K pre (W.putObj (S + 1) o') ∧ (W.putObj (S + 1) o').heap[S + 1]? = some o' ∧ (W.putObj (S + 1) o').heap[S]? = some (.deferred (some [])) ∧ Kp W (W.putObj (S + 1) o') := fun o' hK hk hl ho hd =>
    ⟨hK.putObj o' hk (by omega) hl ho, World.putObj_heap_same (Array.getElem?_eq_some_iff.1 hl).1, (World.putObj_heap_other (by omega)).trans hd, hKb _ _ _ _ (by omega) hl ho⟩
  have walks : ∀ {A B : World} {row : Option Nat}, (∀ r, row = some r → W1.heap.size ≤ r ∧ ∃ o : Obj, A.heap[r]? = some o ∧ o.isWalk = true) → (∀ r, row = some r → S ≤ r ∧ ∃ o : Obj, A.heap[r]? = some o ∧ o.isCells = false) :=
    fun hr r e => by obtain ⟨hB, o, ho, hw⟩ := hr r e; exact ⟨by omega, o, ho, Obj.not_cells_of_walk hw⟩
  have stand : ∀ {A B : World} {row : Option Nat} {k : Nat} {o : Obj}, A.grownBy B row → (∀ r, row = some r → W1.heap.size ≤ r ∧ ∃ o : Obj, A.heap[r]? = some o ∧ o.isWalk = true) → k < S + 2 → A.heap[k]? = some o → B.heap[k]? = some o :=
    fun hgr hr hk ho => (hgr.block _ (Array.getElem?_eq_some_iff.1 ho).1 (fun e => by have := (hr _ e.symm).1; omega)).trans ho
  refine ⟨S + 1, [{ target := .collected S, args := #[] }], W1, { target := .fn (.func gf) lb, args := #[.func (.yield (S + 1)) #[] #[]] }, W1, gf,
    #[.func (.yield (S + 1)) #[] #[]] ++ lb, W1, ?_, ?_, ?_, ?_, fun _ => h1, ?_⟩
  · rw [hW1, hS, hrec]; exact run_enterLoop_outer _ _ _ _ _
  · simp only [resolve, hg]
    simp [go_sem]
  · intro f' hf'; simp [Target.leads] at hf'; subst hf'; exact hFg
  · simp [invoke, go_sem, eg]
  · refine (hseq (S + 1)
      (fun pre W => I pre W ∧ W.heap[S + 1]? = some (.loop (rec .ready none)) ∧ W.heap[S]? = some (.deferred (some [])) ∧ S ≤ W.heap.size)
      (fun pre W => Ix pre W ∧ W.heap[S + 1]? = some (.loop (rec .done (some .ret))) ∧ W.heap[S]? = some (.deferred (some [])))
      W1 hb1
      (fun s A B row h hgr hr => ⟨hI s A B row h.1 hgr (walks (B := B) hr), stand hgr hr (by omega) h.2.1, stand hgr hr (by omega) h.2.2.1, Nat.le_trans h.2.2.2 hgr.size⟩)
      (fun s A B row h hgr hr => ⟨hIx s A B row h.1 hgr (walks (B := B) hr), stand hgr hr (by omega) h.2.1, stand hgr hr (by omega) h.2.2⟩)
      ?_ ⟨hI1, hnew, hdef, by omega⟩).mono ?_
    · rintro pre x W ⟨hi, hl, hd, hsz⟩ hpre
      have hy := run_yield (P := P) (args := encs x) hl (by rw [hrec]; exact hps x)
      rw [hrec] at hy
      refine ⟨fn, _, assign, body, hy, roundIn_of_wpIn hfn (hassign _ x W _ hsz ?_)⟩
      clear hy
      intro act W5 hA5 hb5
      have hi5 := ownFrom_grow hI hi hb5
      have hl5 : W5.heap[S + 1]? = some (.loop (rec .ready none)) := (hb5.block _ (Array.getElem?_eq_some_iff.1 hl).1).trans hl
      have hd5 : W5.heap[S]? = some (.deferred (some [])) := (hb5.block _ (Array.getElem?_eq_some_iff.1 hd).1).trans hd
      refine ⟨_, run_beginRound hl5 (by rw [hrec]), ?_⟩
      obtain ⟨hi2, hl2, hd2, hk2⟩ := turn (.loop { rec .ready none with state := .busy }) hI hi5 hl5 rfl hd5
      have hA2 := (hA x act).putObj (s := ()) (.loop { rec .ready none with state := .busy }) hA5 (by omega) hl5 rfl
      refine wpIn_mono (hbody _ pre x act _ hpre hi2 hA2) ?_
      rintro e a3 W3 hp
      cases e with
      | normal =>
        obtain ⟨hk3, hkp, hi3⟩ := hp
        have hl3 := hk3.same _ _ hl2 rfl
        have hd3 := hk3.same _ _ hd2 rfl
        obtain ⟨hi4, hl4, hd4, hk4⟩ := turn (.loop (rec .ready none)) hI hi3 hl3 rfl hd3
        have hr := run_endRound (P := P) none hl3
        have hs4 : S ≤ (W3.putObj (S + 1) (.loop (rec .ready none))).heap.size := by
          have := (Array.getElem?_eq_some_iff.1 hd4).1; omega
        rw [hrec] at hr
        rw [hrec] at hi4 hl4 hd4 hk4 hk2 hkp hs4
        exact ⟨_, _, hr, .inl ⟨rfl, ⟨hi4, by rw [hrec]; exact hl4, hd4, hs4⟩, hKt (hKa _ _ hb5) (hKt (hKt hk2 hkp) hk4)⟩⟩
      | ret =>
        obtain ⟨hk3, hi3⟩ := hp
        have hl3 := hk3.same _ _ hl2 rfl
        have hd3 := hk3.same _ _ hd2 rfl
        obtain ⟨hi4, hl4, hd4, _⟩ := turn (.loop (rec .done (some .ret))) hIx hi3 hl3 rfl hd3
        have hr := run_endRound (P := P) (some .ret) hl3
        rw [hrec] at hr
        rw [hrec] at hi4 hl4 hd4
        exact ⟨_, _, hr, .inr ⟨rfl, hi4, by rw [hrec]; exact hl4, hd4⟩⟩
      | exit id => exact hp.elim
      | goto t => exact hp.elim
      | panic ch => exact hp.elim
      | outgrown => exact hp.elim
    · rintro e W2 ⟨⟨v, rfl⟩, (⟨xs, hxs, hi, hl, hd, _⟩ | ⟨pre, hpre, hi, hl, hd⟩)⟩
      · have hr := run_endLoop (P := P) hl (by rw [hrec]; simp)
        rw [hrec] at hr hl
        exact ⟨none, _, hr, hdone _ _ _ (Nat.le_refl _) hxs (hI.putObj _ hi (by omega) hl rfl) ((World.putObj_heap_other (by omega)).trans hd)⟩
      · have hr := run_endLoop (P := P) hl (by rw [hrec]; simp)
        rw [hrec] at hr hl
        exact ⟨some .ret, _, hr, hstop _ pre _ (Nat.le_refl _) hpre (hIx.putObj _ hi (by omega) hl rfl) ((World.putObj_heap_other (by omega)).trans hd)⟩
end
end Go.Proofs.YtdjaijhlhhnmeaaGreatDoor
namespace Go.Proofs.YtdjaijhlhhnmeaaGreatDoor
open Go.RowKit Go.Shelf
open Tk7
attribute [local go_sem] Oper.semAt_some

/-- What is kept from one round to the next: all below m, the block b, and from n on the blocks of a fault. -/
def KeepT (m b n : Nat) (W W' : World) : Prop :=
  W.heap.size ≤ W'.heap.size ∧ ∀ k, k < W.heap.size → (k < m ∨ k = b ∨ (n ≤ k ∧ ∃ cs fr, W.heap[k]? = some (.cells cs 36 fr))) → W'.heap[k]? = W.heap[k]?
theorem KeepT.trans {m b n : Nat} {A B C : World} (h : KeepT m b n A B) (k : KeepT m b n B C) : KeepT m b n A C := by
  refine ⟨Nat.le_trans h.1 k.1, fun i hi hx => ?_⟩
  have e := h.2 i hi hx
  refine (k.2 i (Nat.lt_of_lt_of_le hi h.1) ?_).trans e
  rcases hx with hx | hx | ⟨hx, cs, fr, ho⟩
  · exact .inl hx
  · exact .inr (.inl hx)
  · exact .inr (.inr ⟨hx, cs, fr, e.trans ho⟩)
theorem KeepT.put {m b n S : Nat} (hm : m ≤ S) (hb : b < S) (W : World) (l : Nat) (o o' : Obj) (hl : S ≤ l) (ho : W.heap[l]? = some o) (hc : o.isCells = false) : KeepT m b n W (W.putObj l o') := by
  refine ⟨by simp, fun k hk hx => World.putObj_heap_other ?_⟩
  rcases hx with hx | hx | ⟨hx, cs, fr, h⟩
  · omega
  · omega
  · rintro rfl
    rw [ho] at h
    cases h
    cases hc
/-- A block that is kept. -/
theorem KeepT.blk {m b n k : Nat} {W W' : World} {us : List Value} (h : KeepT m b n W W') (hB : Blk W k us) (hx : k < m ∨ k = b ∨ (n ≤ k ∧ ∃ cs fr, W.heap[k]? = some (.cells cs 36 fr))) : Blk W' k us := by
  have e := h.2 k hB.lt hx
  exact ⟨Nat.lt_of_lt_of_le hB.lt h.1, fun i v hv => (World.cell?_of_block (w := W) (a := ⟨k, i, none⟩) e).trans (hB.cell i v hv), fun i v hv => (World.frozen?_of_block (w := W) (a := ⟨k, i, none⟩) e).trans (hB.fr i v hv)⟩
theorem KeepT.sg {m b n : Nat} {W W' : World} (h : KeepT m b n W W') (hm : 4 < m) (hG : SG W) : SG W' := by
  refine ⟨Nat.lt_of_lt_of_le hG.1 h.1, fun i c hc => ?_⟩
  exact (World.cell?_of_block (w := W) (a := ⟨4, i, none⟩) (h.2 _ hG.1 (.inl hm))).trans (hG.2 i c hc)
def tokV (x : NX) : Value := .agg #[.int .i64 (x.kd : Int), .string (strOf x.tx), .int .i64 (x.at_ : Int)]
def fltV (x : NX) : Value := .agg #[.int .i64 x.er, .int .i64 (x.ea : Int)]
theorem abide {β : Type} {B : Nat} {J : β → World → Prop} (h : AbidesFrom B J) {s : β} {W W' : World} (hJ : J s W) (hb : Below W.heap.size W W') : J s W' :=
  h s W W' none hJ (grown_below _ _ hb) (fun r e => by cases e)
theorem below_two {w w2 : World} (hb : Below w.heap.size w w2) (o p : Obj) : Below w.heap.size w ((w2.alloc o).alloc p) := (hb.alloc hb.size o).alloc (by have := hb.size; simp; omega) p
set_option maxRecDepth 100000 in
set_option maxHeartbeats 4000000 in
theorem each_in (n : Nat) (hn : 1 ≤ n) (l m b n0 : Nat) (t : List UInt8) (ht : t.length ≤ 100000) (hm : 4 < m) (J Jx : List NX → World → Prop) (W : World) (hn0 : n0 ≤ W.heap.size) (hJa : AbidesFrom W.heap.size J)
    (hY : ∀ pre x W1, J pre W1 → pre.length < (seqA t).length → YieldAt Fence.wide (n - 1) Tryz.prog l #[tokV x, fltV x] W1 fun e W' =>
      (e = .returned (.bool true) ∧ J (pre ++ [x]) W' ∧ KeepT m b n0 W1 W') ∨ (e = .returned (.bool false) ∧ Jx (pre ++ [x]) W'))
    (hB : Blk W b [.string (strOf t)]) (hG : SG W) (h0 : J [] W) :
    CallsIn Fence.wide n Tryz.prog 170 #[.func (.yield l) #[] #[], .pointer (some ⟨b, 0, none⟩)] W fun e W' => (∃ v, e = .returned v) ∧
      ((∃ xs, xs = seqA t ∧ J xs W') ∨ ∃ pre, pre <+: seqA t ∧ Jx pre W') := by
  refine callsIn_of_wp Tryz.func170 rfl trivial ?_ rfl
  simp only [Tryz.ntmps170, List.size_toArray, List.length_cons, List.length_nil, Nat.reduceAdd, Nat.reduceSub, Array.replicate_succ, Array.replicate_zero, List.push_toArray, List.append_toArray, List.nil_append, List.cons_append]
  have hsz : (strOf t).size ≤ maxLen := by rw [strOf_size]; unfold maxLen; omega
  gi_wp2
  gi_loopw [3] (fun v wr => ∃ (pre : List NX) (k f : Nat), v = .int .i64 (k : Int) ∧ k ≤ t.length ∧ t.length - k < f ∧ Hid (seqA t = pre ++ seqX t f k) ∧ Hid (Blk wr b [.string (strOf t)]) ∧ Hid (SG wr) ∧ W.heap.size ≤ wr.heap.size ∧ J pre wr) (fun v _ => t.length + 1 - (intOf v).toNat)
  case atStart => exact ⟨[], 0, t.length + 1, rfl, Nat.zero_le _, by omega, Lib.hid rfl, Lib.hid hB, Lib.hid hG, Nat.le_refl _, h0⟩
  case round =>
    obtain ⟨pre, k, f, rfl, hk, hf, hS, hBb, hGr, hsz2, hJ⟩ := hrel
    have hN := next_any (strOf t) (k : Int) hsz wr hGr.out
    have c0 := hBb.out.cell 0 _ rfl
    obtain ⟨g, rfl⟩ : ∃ g, f = g + 1 := ⟨f - 1, by omega⟩
    have hx := next_cases hk
    obtain ⟨x, hxx⟩ : ∃ x, x = nextX t (k : Int) := ⟨_, rfl⟩
    have HS := Lib.hid (show seqX t (g + 1) k = if x.er = 5 then [] else if x.er = 0 then x :: seqX t g x.nx else [x] by rw [hxx]; rfl)
    have hN2 : ∀ w, w = wr → Calls Tryz.prog 171 #[.string (strOf t), .int .i64 (k : Int)] w fun e w' => e = .returned (.tuple #[tokV x, .int .i64 (x.nx : Int), fltV x]) ∧ Below wr.heap.size wr w' := by
      rintro w rfl
      rw [hxx]
      refine hN.mono ?_
      rintro e w' ⟨h1, h2⟩
      rw [strOf_dat] at h1
      exact ⟨h1, h2⟩
    unfold tokV fltV at hN2
    rw [← hxx] at hx
    clear hN hxx
    rcases hx with ⟨h1, h2⟩ | ⟨p, h1, h2⟩ | ⟨tk, h1, h2, h3, h4⟩
    · have hE := Lib.hid (show seqA t = pre by rw [hS.out, HS.out, h2, if_pos (by rfl), List.append_nil])
      have hN3 : ∀ w, w = wr → Calls Tryz.prog 171 #[.string (strOf t), .int .i64 (k : Int)] w fun e w' => e = .returned (.tuple #[.agg #[.int .i64 0, .string ⟨#[]⟩, .int .i64 0], .int .i64 0, .agg #[.int .i64 5, .int .i64 (t.length : Int)]]) ∧ Below wr.heap.size wr w' := by
        rw [h2] at hN2; exact hN2
      clear h1 h2 HS hN2 x
      gi_wp2_with (refine ⟨trivial, ?_⟩; gi_at_call 171; refine (callsIn_wide.2 (hN3 _ rfl)).mono ?_; rintro e w2 ⟨rfl, hb2⟩)
      refine ⟨(fun f h => by cases h), ?_⟩
      gi_wp2
      refine bodyPost_ret (results_none rfl _ _ _) rfl ?_
      exact ⟨⟨_, rfl⟩, .inl ⟨pre, hE.out.symm, abide hJa hJ (below_two hb2 _ _)⟩⟩
    · have hE := Lib.hid (show seqA t = pre ++ [badX (3, p)] by rw [hS.out, HS.out, h2, if_neg (by show ¬ (3 : Int) = 5; decide), if_neg (by show ¬ (3 : Int) = 0; decide)])
      have hN3 : ∀ w, w = wr → Calls Tryz.prog 171 #[.string (strOf t), .int .i64 (k : Int)] w fun e w' => e = .returned (.tuple #[.agg #[.int .i64 0, .string ⟨#[]⟩, .int .i64 0], .int .i64 0, .agg #[.int .i64 3, .int .i64 (p : Int)]]) ∧ Below wr.heap.size wr w' := by
        rw [h2] at hN2; exact hN2
      clear h1 h2 HS hN2 x
      have hlen : pre.length < (seqA t).length := by rw [hE.out]; simp
      have hY2 : ∀ (w2 : World) (hb2 : Below wr.heap.size wr w2) (W3 : World), W3 = ((w2.alloc (.cells #[.int .i64 0, .string ⟨#[]⟩, .int .i64 0] 130)).alloc (.cells #[.int .i64 3, .int .i64 (p : Int)] 36)) →
          YieldAt Fence.wide (n - 1) Tryz.prog l #[.agg #[.int .i64 0, .string ⟨#[]⟩, .int .i64 0], .agg #[.int .i64 3, .int .i64 (p : Int)]] W3 fun e W' =>
            (e = .returned (.bool true) ∧ J (pre ++ [badX (3, p)]) W' ∧ Blk W' (w2.heap.size + 1) [.int .i64 3, .int .i64 (p : Int)]) ∨ (e = .returned (.bool false) ∧ Jx (pre ++ [badX (3, p)]) W') := fun w2 hb2 W3 hW3 => by
        obtain ⟨fn, tmps, assign, body, hy, hR⟩ := hY pre (badX (3, p)) W3 (hW3 ▸ abide hJa hJ (below_two hb2 _ _)) hlen
        refine ⟨fn, tmps, assign, body, hy, hR.mono ?_⟩
        rintro e W' (⟨h1, h2, h3⟩ | h1)
        · refine .inl ⟨h1, h2, ?_⟩
          rw [hW3] at h3
          exact h3.blk (Blk.is (us := [.int .i64 3, .int .i64 (p : Int)]) _ (by simp)) (.inr (.inr ⟨by have := hb2.size; omega, _, _, by have := World.alloc_heap_new (w2.alloc (.cells #[.int .i64 0, .string ⟨#[]⟩, .int .i64 0] 130)) (.cells #[.int .i64 3, .int .i64 (p : Int)] 36); rw [World.size_alloc] at this; exact this⟩))
        · exact .inr h1
      gi_wp2_with (refine ⟨trivial, ?_⟩; gi_at_call 171; refine (callsIn_wide.2 (hN3 _ rfl)).mono ?_; rintro e w2 ⟨rfl, hb2⟩; obtain ⟨fn, tmps, assign, body, hy, hR⟩ := hY2 w2 hb2 _ rfl)
      refine hR.mono ?_
      rintro e W3 (⟨rfl, hJ3, hk3⟩ | ⟨rfl, hJx3⟩)
      · have k0 := hk3.cell 0 _ rfl
        have k1 := hk3.cell 1 _ rfl
        gi_wp2
        refine bodyPost_ret (results_none rfl _ _ _) rfl ?_
        exact ⟨⟨_, rfl⟩, .inl ⟨_, hE.out.symm, hJ3⟩⟩
      · gi_wp2
        refine bodyPost_ret (results_none rfl _ _ _) rfl ?_
        exact ⟨⟨_, rfl⟩, .inr ⟨_, ⟨[], by rw [List.append_nil]; exact hE.out.symm⟩, hJx3⟩⟩
    · obtain ⟨kd, tx, at_⟩ := tk
      simp only at h1 h2 h3 h4
      obtain ⟨N, hNN⟩ : ∃ N, N = at_ + tx.length := ⟨_, rfl⟩
      have hox : okX (kd, tx, at_) = ⟨kd, tx, at_, N, 0, 0⟩ := by unfold okX; rw [hNN]
      rw [hox] at h2
      rw [← hNN] at h3 h4
      have hE := Lib.hid (show seqA t = (pre ++ [⟨kd, tx, at_, N, 0, 0⟩]) ++ seqX t g N by rw [hS.out, HS.out, h2, if_neg (by show ¬ (0 : Int) = 5; decide), if_pos (by rfl), List.append_assoc]; rfl)
      have hN3 : ∀ w, w = wr → Calls Tryz.prog 171 #[.string (strOf t), .int .i64 (k : Int)] w fun e w' => e = .returned (.tuple #[.agg #[.int .i64 (kd : Int), .string (strOf tx), .int .i64 (at_ : Int)], .int .i64 (N : Int), .agg #[.int .i64 0, .int .i64 0]]) ∧ Below wr.heap.size wr w' := by
        rw [h2] at hN2; exact hN2
      clear h1 h2 HS hN2 x hox hNN
      have hlen : pre.length < (seqA t).length := by rw [hE.out]; simp
      have hY2 : ∀ (w2 : World) (hb2 : Below wr.heap.size wr w2) (W3 : World), W3 = ((w2.alloc (.cells #[.int .i64 (kd : Int), .string (strOf tx), .int .i64 (at_ : Int)] 130)).alloc (.cells #[.int .i64 0, .int .i64 0] 36)) →
          YieldAt Fence.wide (n - 1) Tryz.prog l #[.agg #[.int .i64 (kd : Int), .string (strOf tx), .int .i64 (at_ : Int)], .agg #[.int .i64 0, .int .i64 0]] W3 fun e W' =>
            (e = .returned (.bool true) ∧ J (pre ++ [⟨kd, tx, at_, N, 0, 0⟩]) W' ∧ Blk W' (w2.heap.size + 1) [.int .i64 0, .int .i64 0] ∧ Blk W' b [.string (strOf t)] ∧ SG W' ∧ W.heap.size ≤ W'.heap.size) ∨ (e = .returned (.bool false) ∧ Jx (pre ++ [⟨kd, tx, at_, N, 0, 0⟩]) W') := fun w2 hb2 W3 hW3 => by
        obtain ⟨fn, tmps, assign, body, hy, hR⟩ := hY pre ⟨kd, tx, at_, N, 0, 0⟩ W3 (hW3 ▸ abide hJa hJ (below_two hb2 _ _)) hlen
        refine ⟨fn, tmps, assign, body, hy, hR.mono ?_⟩
        rintro e W' (⟨h1, h2, h3⟩ | h1)
        · rw [hW3] at h3
          have hbb := below_two hb2 (.cells #[.int .i64 (kd : Int), .string (strOf tx), .int .i64 (at_ : Int)] 130) (.cells #[.int .i64 0, .int .i64 0] 36)
          refine .inl ⟨h1, h2, ?_, h3.blk (hBb.out.later hbb) (.inr (.inl rfl)), h3.sg hm (hGr.out.later hbb), Nat.le_trans hsz2 (Nat.le_trans hbb.size h3.1)⟩
          exact h3.blk (Blk.is (us := [.int .i64 0, .int .i64 0]) _ (by simp)) (.inr (.inr ⟨by have := hb2.size; omega, _, _, by have := World.alloc_heap_new (w2.alloc (.cells #[.int .i64 (kd : Int), .string (strOf tx), .int .i64 (at_ : Int)] 130)) (.cells #[.int .i64 0, .int .i64 0] 36); rw [World.size_alloc] at this; exact this⟩))
        · exact .inr h1
      gi_wp2_with (refine ⟨trivial, ?_⟩; gi_at_call 171; refine (callsIn_wide.2 (hN3 _ rfl)).mono ?_; rintro e w2 ⟨rfl, hb2⟩; obtain ⟨fn, tmps, assign, body, hy, hR⟩ := hY2 w2 hb2 _ rfl)
      refine hR.mono ?_
      rintro e W3 (⟨rfl, hJ3, hk3, hk4, hk5, hk6⟩ | ⟨rfl, hJx3⟩)
      · have k0 := hk3.cell 0 _ rfl
        have k1 := hk3.cell 1 _ rfl
        gi_wp2
        go_roundw
        case rel => exact ⟨_, N, g, rfl, h4, by omega, hE, Lib.hid hk4, Lib.hid hk5, hk6, hJ3⟩
        case measure => simp [intOf]; omega
      · gi_wp2
        refine bodyPost_ret (results_none rfl _ _ _) rfl ?_
        exact ⟨⟨_, rfl⟩, .inr ⟨_, ⟨_, hE.out.symm⟩, hJx3⟩⟩
/-- What the iterator owes a range over it. -/
theorem each_stops (n : Nat) (hn : 1 ≤ n) (m b n0 : Nat) (t : List UInt8) (ht : t.length ≤ 100000) (hm : 4 < m) (w : World) (hn0 : n0 ≤ w.heap.size) (hB : Blk w b [.string (strOf t)]) (hG : SG w) :
    SeqStopsK Fence.wide n Tryz.prog 170 #[.pointer (some ⟨b, 0, none⟩)] (fun x : NX => #[tokV x, fltV x]) (KeepT m b n0) (fun xs => xs = seqA t) (fun pre => pre <+: seqA t) (seqA t).length w :=
  fun l J Jx W hW hJa _ hY h0 => each_in n hn l m b n0 t ht hm J Jx W (Nat.le_trans hn0 hW.size) hJa hY (hB.later hW) (hG.later hW) h0
theorem each_any (s : ByteArray) (w : World) :
    Calls Tryz.prog 123 #[.string s] w fun e w' => e = .returned (.func (.func 170) #[] #[.pointer (some ⟨w.heap.size, 0, none⟩)]) ∧ w' = w.alloc (.cells #[.string s] 9) := by
  go_enter Tryz.func123, Tryz.ntmps123
  go_wp2
  go_ret
  exact ⟨rfl, rfl⟩
end Go.Proofs.YtdjaijhlhhnmeaaGreatDoor
namespace Go.Proofs.YtdjaijhlhhnmeaaGreatDoor
open Go.RowKit Go.Shelf
open Tk7
attribute [local go_sem] Oper.semAt_some

/-- A token's three cells. -/
def tcell (x : NX) : List Value := [.int .i64 (x.kd : Int), .string (strOf x.tx), .int .i64 (x.at_ : Int)]
def tcells (xs : List NX) : List Value := xs.flatMap tcell
theorem tcells_snoc (xs : List NX) (x : NX) : tcells (xs ++ [x]) = tcells xs ++ tcell x := by unfold tcells; simp
theorem infoTok : (Tryz.prog.info? 130).map (fun i => (i.zero, i.size, i.bytes)) = some (some (.agg #[.int .i64 0, .string ⟨#[]⟩, .int .i64 0]), 3, 32) := by kernel_rfl
/-- What stands between two rounds. -/
structure TI (w : World) (pre : List NX) (W : World) : Prop where
  all : ∀ x ∈ pre, x.er = 0
  out : Blk W w.heap.size [.slice none 0 0]
  flt : Blk W (w.heap.size + 1) [.int .i64 0, .int .i64 0]
  row : ∃ v, Blk W (w.heap.size + 2) [v] ∧ W.ownsRow (w.heap.size + 4) 130 3 v pre.length (tcells pre)
  bel : Below w.heap.size w W
  big : w.heap.size + 4 ≤ W.heap.size
/-- What stands when a round has returned. -/
structure TX (w : World) (W : World) (er : Int) (ea : Nat) : Prop where
  out : Blk W w.heap.size [.slice none 0 0]
  flt : Blk W (w.heap.size + 1) [.int .i64 er, .int .i64 (ea : Int)]
  bel : Below w.heap.size w W
theorem TI.grown {w W W' : World} {pre : List NX} {row : Option Nat} (h : TI w pre W) (hg : W.grownBy W' row) (hr : ∀ j, row = some j → w.heap.size + 4 ≤ j ∧ ∃ o : Obj, W.heap[j]? = some o ∧ o.isCells = false) : TI w pre W' := by
  obtain ⟨v, h1, h2⟩ := h.row
  exact ⟨h.all, blk_noncells (by simp) h.out hg fun j e => (hr j e).2, blk_noncells (by simp) h.flt hg fun j e => (hr j e).2, ⟨v, blk_noncells (by simp) h1 hg fun j e => (hr j e).2, own_far h2 hg fun j e => .inr (hr j e).2⟩,
    h.bel.grown hg h.bel.size fun j e => by have := (hr j e).1; omega, Nat.le_trans h.big hg.size⟩
theorem TX.grown {w W W' : World} {er : Int} {ea : Nat} {row : Option Nat} (h : TX w W er ea) (hg : W.grownBy W' row) (hr : ∀ j, row = some j → w.heap.size + 4 ≤ j ∧ ∃ o : Obj, W.heap[j]? = some o ∧ o.isCells = false) : TX w W' er ea :=
  ⟨blk_noncells (by simp) h.out hg fun j e => (hr j e).2, blk_noncells (by simp) h.flt hg fun j e => (hr j e).2, h.bel.grown hg h.bel.size fun j e => by have := (hr j e).1; omega⟩
/-- What the tokens of a text are, or its fault. -/
def toksR (l : List UInt8) : Except (Int × Nat) (List T) := if 400 < l.length then .error (4, 400) else toksG l 0
/-- What asking for the tokens of a text gives. -/
def ToksP (w : World) (t : List UInt8) (e : Ending) (w' : World) : Prop :=
  Below w.heap.size w w' ∧
  ((∃ (er : Int) (a : Nat), toksR t = .error (er, a) ∧ e = .returned (.tuple #[.slice none 0 0, .agg #[.int .i64 er, .int .i64 (a : Int)]])) ∨
   (∃ ts v, toksR t = .ok ts ∧ e = .returned (.tuple #[v, .agg #[.int .i64 0, .int .i64 0]]) ∧ w'.ownsRow w.heap.size 130 3 v ts.length (tcells (ts.map okX))))
/-- The two results, written. -/
theorem rf_out {w W : World} {B : Nat} {x0 y0 y1 : Value} (h0 : Blk W B [x0]) (h1 : Blk W (B + 1) [y0, y1]) (hB : Below B w W) (u0 v0 v1 : Value) (V : World)
    (hV : V = ((W.setCell ⟨B, 0, none⟩ u0).setCell ⟨B + 1, 0, none⟩ v0).setCell ⟨B + 1, 1, none⟩ v1) :
    Blk V B [u0] ∧ Blk V (B + 1) [v0, v1] ∧ Below B w V ∧ KeepsOthers W V ∧ (W.heap.size = V.heap.size) ∧ (∀ {base sz n : Nat} {e : TypeId} {v : Value} {us : List Value}, B + 2 ≤ base → W.ownsRow base e sz v n us → V.ownsRow base e sz v n us) ∧ (∀ k, k ≠ B → k ≠ B + 1 → V.heap[k]? = W.heap[k]?) := by
  subst hV
  refine ⟨((h0.set 0 u0).other (by simp) _).other (by simp) _, ((h1.other (p := ⟨B, 0, none⟩) (by simp) _).set 0 v0).set 1 v1, ?_, ?_, by simp [World.setCell], fun hb ho => ?_, fun k hk hk1 => ?_⟩
  · exact ((hB.setCell (p := ⟨B, 0, none⟩) (by simp) _).setCell (p := ⟨B + 1, 0, none⟩) (by simp) _).setCell (p := ⟨B + 1, 1, none⟩) (by simp) _
  · exact ((KeepsOthers.setCell _ _ _).trans (KeepsOthers.setCell _ _ _)).trans (KeepsOthers.setCell _ _ _)
  · exact own_set (own_set (own_set ho (by omega) _ _) (by omega) _ _) (by omega) _ _
  · exact (Below.heap_setCell _ _ _ _ hk1).trans ((Below.heap_setCell _ _ _ _ hk1).trans (Below.heap_setCell _ _ _ _ hk))
set_option maxRecDepth 100000 in
set_option maxHeartbeats 4000000 in
theorem tokens_long (t : List UInt8) (hlong : 400 < t.length) (w : World) :
    Calls Tryz.prog 63 #[.string (strOf t)] w (ToksP w t) := by
  have hsz : (strOf t).size = t.length := strOf_size t
  have hR := Lib.hid (show toksR t = .error (4, 400) from if_pos hlong)
  have hl' : (400 : Int) < (t.length : Int) := by omega
  have hF := fun w => fault_any 4 400 w
  obtain ⟨W, hW⟩ : ∃ W, W = (w.alloc (.cells #[.slice none 0 0] 66)).alloc (.cells #[.int .i64 0, .int .i64 0] 36) := ⟨_, rfl⟩
  have hK0 : Blk W w.heap.size [.slice none 0 0] := by rw [hW]; exact (Blk.is _ rfl).alloc _
  have hK1 : Blk W (w.heap.size + 1) [.int .i64 0, .int .i64 0] := by rw [hW]; exact Blk.is _ (by simp)
  have hWb : Below w.heap.size w W := by rw [hW]; exact below2 _ _ _
  go_enter Tryz.func63, Tryz.ntmps63
  go_wp2_with fail
  rw [← hW]
  refine (hF _).mono ?_
  rintro e w1 ⟨rfl, hb1⟩
  have hZ0 := hK0.later hb1
  have hZ1 := hK1.later hb1
  have hZB := bstep hWb hb1
  clear hK0 hK1 hW
  have k0 := hZ0.fr 0 _ rfl
  have d0 := hZ0.cell 0 _ rfl
  have k1 := hZ1.fr 0 _ rfl
  have k2 := hZ1.fr 1 _ rfl
  have d1 := hZ1.cell 0 _ rfl
  have d2 := hZ1.cell 1 _ rfl
  go_wp2
  refine named_post fun V hV => ?_
  obtain ⟨hVa, hVb, hVB, -, -, -, -⟩ := rf_out hZ0 hZ1 hZB _ _ _ V hV
  clear hV d0 d1 d2 k0 k1 k2
  have c0 := hVa.cell 0 _ rfl
  have c1 := hVb.cell 0 _ rfl
  have c2 := hVb.cell 1 _ rfl
  exact bodyPost_ret (v := .tuple #[.slice none 0 0, .agg #[.int .i64 4, .int .i64 400]]) (by simp [results, Tryz.results63, go_sem, c0, c1, c2]; try rfl) rfl ⟨hVB, .inl ⟨4, 400, hR.out, rfl⟩⟩
theorem keep_below {m b n : Nat} (W W' : World) (h : Below W.heap.size W W') : KeepT m b n W W' := ⟨h.size, fun k hk _ => h.block k hk⟩
theorem keep_set {m b n c i : Nat} (W : World) (h1 : m ≤ c) (h2 : c ≠ b) (h3 : c < n) (u : Value) : KeepT m b n W (W.setCell ⟨c, i, none⟩ u) := by
  refine ⟨by simp [World.setCell], fun k _ hx => Below.heap_setCell _ _ _ _ ?_⟩
  show k ≠ c
  rcases hx with hx | hx | ⟨hx, _⟩ <;> omega
theorem keep_grown {m b n sz k : Nat} {W W1 : World} {v : Value} {us : List Value} (hv : W.ownsRow n 130 sz v k us) (hm : m ≤ n) (hb : b < n) (hg : W.grownBy W1 v.ownBlock) : KeepT m b n W W1 := by
  refine ⟨hg.size, fun j hj hx => hg.block j hj fun e => ?_⟩
  rcases hv.2 with ⟨rfl, _⟩ | ⟨g, cap, cur, rfl, hn, hh, _⟩
  · cases e
  · have : j = g := by simpa [Value.ownBlock] using e
    subst this
    rcases hx with hx | hx | ⟨_, cs, fr, ho⟩
    · omega
    · omega
    · rw [hh] at ho
      injection ho with ho
      injection ho with _ ht
      exact absurd ht (by decide)
/-- How the two values of a round lie. -/
def TA (w : World) (t : List UInt8) (x : NX) (act : Act) (W : World) : Prop :=
  ∃ b, w.heap.size + 4 ≤ b ∧ act = { tmps := #[.string (strOf t), undef, .pointer (some ⟨w.heap.size, 0, none⟩), .pointer (some ⟨w.heap.size + 1, 0, none⟩), .pointer (some ⟨w.heap.size + 1 + 1, 0, none⟩), .pointer (some ⟨b, 0, none⟩), .pointer (some ⟨b + 1, 0, none⟩), .string (strOf t), .int .i64 (t.length : Int), .bool false, undef, .string (strOf t), .func (.func 170) #[] #[.pointer (some ⟨w.heap.size + 1 + 1 + 1, 0, none⟩)], tokV x, fltV x, undef, undef, undef, undef, undef, undef, undef, undef, undef, undef], defers := [] } ∧
    Blk W b (tcell x) ∧ Blk W (b + 1) [.int .i64 x.er, .int .i64 (x.ea : Int)]
set_option maxRecDepth 100000 in
set_option maxHeartbeats 8000000 in
theorem tokens_short (t : List UInt8) (hshort : t.length ≤ 400) (w : World) (hG : SG w) :
    Calls Tryz.prog 63 #[.string (strOf t)] w (ToksP w t) := by
  have hsz : (strOf t).size = t.length := strOf_size t
  have hl' : ¬ (400 : Int) < (t.length : Int) := by omega
  obtain ⟨i0, hi, hz0, hz1, hz2⟩ := info_parts infoTok
  have hNN := seqX_len t (t.length + 1) 0
  refine (callsIn_wide (n := 3)).1 ?_
  refine callsIn_of_wp_marks Tryz.func63 rfl trivial ?_ rfl
  simp only [Tryz.ntmps63, List.size_toArray, List.length_cons, List.length_nil, Nat.reduceAdd, Nat.reduceSub, Array.replicate_succ, Array.replicate_zero, List.push_toArray, List.append_toArray, List.nil_append, List.cons_append]
  gi_wp2_with (refine ⟨trivial, ?_⟩; gi_at_call 123; refine (callsIn_wide.2 (each_any _ _)).mono ?_; rintro e w' ⟨rfl, rfl⟩)
  refine wpIn_range_asg rfl (by decide) (gf := 170) (lb := #[.pointer (some ⟨w.heap.size + 1 + 1 + 1, 0, none⟩)]) rfl trivial (enters_of Tryz.func170 (by kernel_rfl) rfl)
    (each_stops 2 (by decide) w.heap.size (w.heap.size + 1 + 1 + 1) (w.heap.size + 4) t (by omega) hG.1 _ (by simp) (Blk.is (us := [.string (strOf t)]) _ (by simp)) (hG.later (((below3 w _ _ _).alloc (by simp; omega) _))))
    (fun h k => KeepT.trans h k) (KeepT.put (by simp; omega) (by simp)) keep_below (Below.refl _ _) (fun _ => rfl)
    (fun pre W => TI w pre W)
    (fun pre W => ∃ x pre', pre = pre' ++ [x] ∧ x.er ≠ 0 ∧ TX w W x.er x.ea)
    ?hI ?hIx ?h0 (TA w t) ?hA ?assign ?body ?done ?stop
  case hI =>
    intro s A B row h hg hr
    exact h.grown hg fun j e => by have := hr j e; simpa using this
  case hIx =>
    rintro s A B row ⟨x, pre', h1, h2, h3⟩ hg hr
    exact ⟨x, pre', h1, h2, h3.grown hg fun j e => by have := hr j e; simpa using this⟩
  case h0 =>
    refine ⟨(fun x hx => by cases hx), (((Blk.is _ rfl).alloc _).alloc _).alloc _, ((Blk.is (us := [.int .i64 0, .int .i64 0]) _ (by simp)).alloc _).alloc _, ⟨.slice none 0 0, (Blk.is (us := [.slice none 0 0]) _ (by simp)).alloc _, World.ownsRow_nil _ _ _ _⟩, ?_, by simp⟩
    exact (below3 w _ _ _).alloc (by simp; omega) _
  case hA =>
    rintro x act s A B row ⟨b, h1, h2, h3, h4⟩ hg hr
    exact ⟨b, h1, h2, blk_noncells (by simp [tcell]) h3 hg fun j e => (hr j e).2, blk_noncells (by simp) h4 hg fun j e => (hr j e).2⟩
  case assign =>
    intro l x W K hW hK
    simp only [World.size_alloc] at hW
    unfold TA tokV fltV tcell at hK
    unfold tokV fltV
    gi_wp2
    exact hK _ _ ⟨W.heap.size, by omega, rfl, (Blk.is _ rfl).alloc _, Blk.is (us := [.int .i64 x.er, .int .i64 (x.ea : Int)]) _ (by simp)⟩ (below2 _ _ _)
  case body =>
    rintro l pre x act W hpre h ⟨b, hb4, rfl, hA, hB⟩
    have hN2 : pre.length < 402 := by unfold seqA at hpre; omega
    clear hpre hNN
    obtain ⟨v, hrow, hown⟩ := h.row
    have H := Lib.hid h
    have hbig := h.big
    have hall := Lib.hid h.all
    have a0 := hA.cell 0 _ rfl
    have a1 := hA.cell 1 _ rfl
    have a2 := hA.cell 2 _ rfl
    have b0 := hB.cell 0 _ rfl
    have b1 := hB.cell 1 _ rfl
    have r0 := hrow.cell 0 _ rfl
    have r1 := hrow.fr 0 _ rfl
    have hrl := hrow.lt
    have o0 := h.out.cell 0 _ rfl
    have o1 := h.out.fr 0 _ rfl
    have f0 := h.flt.cell 0 _ rfl
    have f1 := h.flt.cell 1 _ rfl
    have f2 := h.flt.fr 0 _ rfl
    have f3 := h.flt.fr 1 _ rfl
    unfold tokV fltV
    obtain ⟨kd, tx, at_, nx, er, ea⟩ := x
    simp only at a0 a1 a2 b0 b1 ⊢
    clear h hA hB hsz
    by_cases her : er = 0
    · subst her
      clear o0 o1 f0 f1 f2 f3
      gi_wp2_with (gi_at_builtin; go_loud (refine wpListIn_append_own _ rfl _ _ 66 rfl (w.heap.size + 4) 130 i0 (.agg #[.int .i64 0, .string ⟨#[]⟩, .int .i64 0]) 3 32 Tryz.underlying66 hi hz0 hz1 hz2 rfl (by decide) _ _ _ rfl (hown.alloc _) ⟨W.heap.size, 0, none⟩ 1 1 (tcell ⟨kd, tx, at_, nx, 0, ea⟩) rfl rfl (blk_cells (Blk.is (us := tcell ⟨kd, tx, at_, nx, 0, ea⟩) 130 rfl)) (by simp [tcell, Value.oneCell']) (by unfold maxLen; omega) (by omega) (by simp; omega) ?_; intro v' w3 hown' hgrow _; obtain ⟨A', c', rfl⟩ := own_form hown'; have far := fun j (e : v.ownBlock = some j) => (hown.lt j e).1; have hw2 := (hrow.alloc _).grown hgrow (fun e => by have := far _ e.symm; omega); have q0 := hw2.cell 0 _ rfl; have q1 := hw2.fr 0 _ rfl; have q4 := hw2.lt; have HG := Lib.hid hgrow; have HO := Lib.hid hown'; have HW2 := Lib.hid hw2; clear far hw2 hown' hgrow))
      have hga := (World.grownBy_alloc W (.cells (tcell ⟨kd, tx, at_, nx, 0, ea⟩).toArray 130) v.ownBlock).trans HG.out
      have far := fun j (e : v.ownBlock = some j) => (hown.lt j e).1
      refine ⟨((KeepsOthers.alloc W _).trans (KeepsOthers.of_grownBy HG.out (fun j o e ho => own_cells (hown.alloc _) j o e ho))).trans (KeepsOthers.setCell _ _ _),
        ((keep_below _ _ (below1 _ _)).trans (keep_grown (hown.alloc _) (by omega) (by omega) HG.out)).trans (keep_set _ (by omega) (by omega) (by omega) _), ?_⟩
      refine ⟨fun y hy => ?_, ((H.out.out.grown hga (fun e => by have := far _ e.symm; omega))).other (by simp; omega) _, ((H.out.flt.grown hga (fun e => by have := far _ e.symm; omega))).other (by simp) _, ⟨_, HW2.out.set 0 _, ?_⟩, ?_, ?_⟩
      · rcases List.mem_append.1 hy with hy | hy
        · exact hall.out y hy
        · rw [List.mem_singleton.1 hy]
      · rw [tcells_snoc, List.length_append]
        exact own_set HO.out (by omega) _ _
      · exact (H.out.bel.grown hga H.out.bel.size (fun j e => by have := far j e; omega)).setCell (p := ⟨w.heap.size + 2, 0, none⟩) (by simp) _
      · have := hga.size
        simp [World.setCell]
        omega
    · have hnb : (er != 0) = true := by simpa using her
      have HE := Lib.hid her
      clear her
      gi_wp2
      gi_region_with (fail)
      all_goals gi_wp2
      all_goals
        obtain ⟨hV0, hV1, hVB, hVK, -, -, -⟩ := rf_out H.out.out H.out.flt H.out.bel (.slice none 0 0) (.int .i64 er) (.int .i64 (ea : Int)) _ rfl
        exact ⟨hVK.trans (KeepsOthers.drew _), ⟨kd, tx, at_, nx, er, ea⟩, pre, rfl, HE.out, ⟨hV0.drew, hV1.drew, hVB.drew⟩⟩
  case done =>
    rintro D xs W hD rfl h hK
    have hDD : w.heap.size ≤ D := by simp at hD; omega
    have hR : ∃ ts : List T, toksR t = .ok ts ∧ seqA t = ts.map okX := by
      have h1 : toksR t = toksG t 0 := if_neg (by omega)
      rcases seq_toks t (t.length + 1) 0 (Nat.zero_le _) (by omega) with ⟨ts, h2, h3⟩ | ⟨e, ts, h2, h3, h4⟩
      · exact ⟨ts, h1.trans h2, h3⟩
      · have : (badX e).er = 0 := h.all _ (by unfold seqA; rw [h4]; simp)
        have e2 : e.1 = 0 := this
        omega
    obtain ⟨ts, hR, hS⟩ := hR
    obtain ⟨v, hrow, hown⟩ := h.row
    rw [hS, List.length_map] at hown
    have HR := Lib.hid hR
    have hB := h.bel
    have hK0 := h.out
    have hK1 := h.flt
    obtain ⟨A', c', rfl⟩ := own_form hown
    have c0 := h.out.cell 0 _ rfl
    have c1 := h.flt.cell 0 _ rfl
    have c2 := h.flt.cell 1 _ rfl
    have c3 := hrow.cell 0 _ rfl
    have f0 := h.out.fr 0 _ rfl
    have f1 := h.flt.fr 0 _ rfl
    have f2 := h.flt.fr 1 _ rfl
    clear hR hS h hsz hNN
    gi_wp2
    obtain ⟨V, hV⟩ : ∃ V, V = ((W.setCell ⟨w.heap.size, 0, none⟩ (.slice A' ts.length c')).setCell ⟨w.heap.size + 1, 0, none⟩ (.int .i64 0)).setCell ⟨w.heap.size + 1, 1, none⟩ (.int .i64 0) := ⟨_, rfl⟩
    obtain ⟨hV0, hV1, hVB, hVK, -, hVO, -⟩ := rf_out hK0 hK1 hB _ _ _ V hV
    rw [← hV]
    have hKV := hVK.same D _ hK rfl
    refine ⟨by simp, .inl ⟨_, _, rfl, run_takeDeferred hKV, ?_⟩⟩
    have hZ0 := (blk_put (o' := .deferred none) (by simp) hV0 hKV rfl).cell 0 _ rfl
    have hZ1 := (blk_put (o' := .deferred none) (by simp) hV1 hKV rfl).cell 0 _ rfl
    have hZ2 := (blk_put (o' := .deferred none) (by simp) hV1 hKV rfl).cell 1 _ rfl
    refine ⟨.tuple #[.slice A' ts.length c', .agg #[.int .i64 0, .int .i64 0]], ?_, below_put hVB hKV hDD, .inr ⟨ts, _, HR.out, rfl, own_mono (own_put (hVO (by omega) hown) hKV rfl) (by omega)⟩⟩
    simp [results, Tryz.f63, go_sem, hZ0, hZ1, hZ2]
  case stop =>
    rintro D pre W hD hpre ⟨x, pre', rfl, hx, h⟩ hK
    have hDD : w.heap.size ≤ D := by simp at hD; omega
    have hR : toksR t = .error (x.er, x.ea) := by
      have h1 : toksR t = toksG t 0 := if_neg (by omega)
      have hmem : x ∈ seqA t := hpre.subset (by simp)
      rcases seq_toks t (t.length + 1) 0 (Nat.zero_le _) (by omega) with ⟨ts, h2, h3⟩ | ⟨e, ts, h2, h3, h4⟩
      · unfold seqA at hmem
        rw [h3] at hmem
        obtain ⟨k, _, rfl⟩ := List.mem_map.1 hmem
        exact absurd rfl hx
      · unfold seqA at hmem
        rw [h4] at hmem
        rcases List.mem_append.1 hmem with hm | hm
        · obtain ⟨k, _, rfl⟩ := List.mem_map.1 hm
          exact absurd rfl hx
        · rw [List.mem_singleton.1 hm]
          exact h1.trans h2
    have HR := Lib.hid hR
    have hZ0 := (blk_put (o' := .deferred none) (by simp) h.out hK rfl).cell 0 _ rfl
    have hZ1 := (blk_put (o' := .deferred none) (by simp) h.flt hK rfl).cell 0 _ rfl
    have hZ2 := (blk_put (o' := .deferred none) (by simp) h.flt hK rfl).cell 1 _ rfl
    have hB := h.bel
    clear hR h hsz hNN hpre hx
    gi_wp2
    refine ⟨by simp, .inl ⟨_, _, rfl, run_takeDeferred hK, ?_⟩⟩
    refine ⟨.tuple #[.slice none 0 0, .agg #[.int .i64 x.er, .int .i64 (x.ea : Int)]], ?_, below_put hB hK hDD, .inl ⟨x.er, x.ea, HR.out, rfl⟩⟩
    simp [results, Tryz.f63, go_sem, hZ0, hZ1, hZ2]
theorem tokens_any (t : List UInt8) (w : World) (hG : SG w) :
    Calls Tryz.prog 63 #[.string (strOf t)] w (ToksP w t) := by
  by_cases h : 400 < t.length
  · exact tokens_long t h w
  · exact tokens_short t (by omega) w hG
end Go.Proofs.YtdjaijhlhhnmeaaGreatDoor
namespace Go.Proofs.YtdjaijhlhhnmeaaGreatDoor
open Go.RowKit
open Tk7

/-- A token: its kind, its text, and its offset, whatever they are. -/
abbrev TK := Int × List UInt8 × Int
def kcell (x : TK) : List Value := [.int .i64 x.1, .string (strOf x.2.1), .int .i64 x.2.2]
def kcells (xs : List TK) : List Value := xs.flatMap kcell
theorem kcells_get {xs : List TK} {k : Nat} (h : k < xs.length) : (kcells xs)[k * 3]? = some (.int .i64 xs[k].1) ∧ (kcells xs)[k * 3 + 1]? = some (.string (strOf xs[k].2.1)) ∧ (kcells xs)[k * 3 + 2]? = some (.int .i64 xs[k].2.2) :=
  ⟨flat_get (f := kcell) (n := 3) (fun _ => rfl) xs k h 0 (by decide), flat_get (f := kcell) (n := 3) (fun _ => rfl) xs k h 1 (by decide), flat_get (f := kcell) (n := 3) (fun _ => rfl) xs k h 2 (by decide)⟩
/-- The slice v holds these tokens. -/
def KSl (w : World) (v : Value) (xs : List TK) : Prop := Sl w 3 xs.length v (kcells xs)
theorem KSl.later {w w' : World} {v : Value} {xs : List TK} (h : KSl w v xs) (hb : Below w.heap.size w w') : KSl w' v xs := Sl.later h hb
theorem KSl.drewN {w : World} {v : Value} {xs : List TK} (h : KSl w v xs) (n : Nat) : KSl (w.drewN n) v xs := h.later (below_drewN (Below.refl _ _) n)
/-- What a slice of tokens gives a walk. -/
theorem KSl.at_ {w : World} {v : Value} {xs : List TK} (h : KSl w v xs) : ∃ (A : Option Addr) (cap : Nat), v = .slice A xs.length cap ∧ xs.length ≤ cap ∧ xs.length ≤ 9223372036854775807 ∧ (A = none → cap = 0) ∧
    ∀ (k : Nat) (hk : k < xs.length), ∃ a, A = some a ∧ a.block < w.heap.size ∧ w.cell? (a.add (k * 3)) = some (.int .i64 xs[k].1) ∧ w.cell? (a.add (k * 3 + 1)) = some (.string (strOf xs[k].2.1)) ∧ w.cell? (a.add (k * 3 + 2)) = some (.int .i64 xs[k].2.2) := by
  obtain ⟨h1, h2, A, cap, h3, h4, h5, h6⟩ := h
  refine ⟨A, cap, h3, h4, by unfold maxLen at h2; exact h2, h5, fun k hk => ?_⟩
  obtain ⟨g0, g1, g2⟩ := kcells_get hk
  obtain ⟨a, rfl, hlt, hc0⟩ := h6 _ _ g0
  obtain ⟨a', e1, _, hc1⟩ := h6 _ _ g1
  cases e1
  obtain ⟨a', e2, _, hc2⟩ := h6 _ _ g2
  cases e2
  exact ⟨a, rfl, hlt, hc0, hc1, hc2⟩
theorem laid_at : ∀ (ts : List T) (l : List UInt8) (k : Nat), Laid l k ts → ∀ t ∈ ts, k ≤ t.2.2 ∧ t.2.2 + t.2.1.length ≤ k + l.length := by
  intro ts
  induction ts with
  | nil => intro l k _ t ht; cases ht
  | cons x ts ih =>
    rintro l k ⟨g, e, rfl, h1, h2, h3, h4⟩ t ht
    have hl : (g ++ (x.2.1 ++ e)).length = g.length + (x.2.1.length + e.length) := by rw [List.length_append, List.length_append]
    rw [hl]
    rcases List.mem_cons.1 ht with rfl | ht
    · omega
    · have := ih e _ h4 t ht
      omega
end Go.Proofs.YtdjaijhlhhnmeaaGreatDoor
namespace Go.Proofs.YtdjaijhlhhnmeaaGreatDoor
open Go.RowKit
open Tk7

/-- The error of a token. -/
def checkI (x : TK) : Int := if x.1 < 1 ∨ 4 < x.1 then 11 else if isTok x.1.toNat x.2.1 = false then 3 else if x.2.2 < 0 then 2 else 0
theorem next_tok {k : Nat} {l : List UInt8} (h : isTok k l = true) : nextX l (0 : Int) = ⟨k, l, 0, l.length, 0, 0⟩ := by
  have hn := nextX_nat (l := l) (k := 0) (Nat.zero_le _)
  rw [List.drop_zero] at hn
  refine hn.trans ?_
  cases l with
  | nil => simp [isTok] at h
  | cons b r =>
    have h1 := isTok_front h
    have h2 := (isTok_iff.1 h).1
    unfold nextG
    rw [List.dropWhile_cons, if_neg (by rw [h1]; decide)]
    simp only
    rw [h2]
    simp only
    rw [if_neg (by simp), Nat.sub_self]
    simp
theorem next_tok_only {k : Nat} {l : List UInt8} (hk : k ≠ 0) (h1 : (nextX l (0 : Int)).kd = k) (h2 : (nextX l (0 : Int)).tx = l) (h3 : (nextX l (0 : Int)).at_ = 0) : isTok k l = true := by
  have hn := nextX_nat (l := l) (k := 0) (Nat.zero_le _)
  rw [List.drop_zero] at hn
  have hn' : nextX l (0 : Int) = _ := hn
  rw [hn'] at h1 h2 h3
  unfold nextG at h1 h2 h3
  have hd := drop_len l
  cases hl : l.dropWhile blankB with
  | nil =>
    rw [hl] at h1
    exact absurd h1.symm hk
  | cons b r =>
    rw [hl] at h1 h2 h3 hd
    simp only at h1 h2 h3
    by_cases hz : (begG (b :: r)).2 = 0
    · rw [if_pos hz] at h1
      exact absurd h1.symm hk
    · rw [if_neg hz] at h1 h2 h3
      simp only at h1 h2 h3
      have hle := begG_le (b :: r)
      have hll : (b :: r).length = l.length := by omega
      have hbr : b :: r = l := by
        obtain ⟨g, hg1, _, hg3⟩ := dropWhile_split l
        rw [hl] at hg1 hg3
        have : g = [] := List.eq_nil_of_length_eq_zero (by omega)
        rw [this, List.nil_append] at hg1
        exact hg1.symm
      rw [hbr] at h1 h2 h3 hz hle
      rw [isTok_iff]
      refine ⟨?_, fun e => by rw [e] at hbr; cases hbr⟩
      have h4 := congrArg List.length h2
      rw [Nat.zero_add, Nat.sub_self, List.drop_zero, List.length_take] at h4
      have h5 : (begG l).2 = l.length := by omega
      rw [← h1, ← h5]
set_option maxRecDepth 100000 in
set_option maxHeartbeats 4000000 in
theorem check_any (K : Int) (l : List UInt8) (a : Int) (hl : l.length ≤ maxLen) (w : World) (hG : SG w) :
    Calls Tryz.prog 167 #[.agg #[.int .i64 K, .string (strOf l), .int .i64 a]] w fun e w' => e = .returned (.int .i64 (checkI (K, l, a))) ∧ Below w.heap.size w w' := by
  have hc : checkI (K, l, a) = if K < 1 ∨ 4 < K then 11 else if isTok K.toNat l = false then 3 else if a < 0 then 2 else 0 := rfl
  by_cases hk1 : K < 1
  · rw [hc, if_pos (Or.inl hk1)]
    clear hc
    go_enter Tryz.func167, Tryz.ntmps167
    go_wp2
    go_ret
    exact ⟨rfl, below1 _ _⟩
  · by_cases hk2 : 4 < K
    · rw [hc, if_pos (Or.inr hk2)]
      clear hc
      go_enter Tryz.func167, Tryz.ntmps167
      go_wp2
      go_ret
      exact ⟨rfl, below1 _ _⟩
    · rw [hc, if_neg (by omega)]
      have hN := fun w hG => next_any (strOf l) 0 (by rw [strOf_size]; exact hl) w hG
      unfold NextP at hN
      rw [strOf_dat] at hN
      obtain ⟨k, hk⟩ : ∃ k : Nat, k = K.toNat := ⟨_, rfl⟩
      have hKk : K = (k : Int) := by omega
      have hk0 : k ≠ 0 := by omega
      have hG1 := hG.later (below1 w (.cells #[.int .i64 K, .string (strOf l), .int .i64 a] 130))
      rw [← hk]
      clear hc hk
      subst hKk
      cases ht : isTok k l with
      | true =>
        rw [if_neg (by decide)]
        have hX := next_tok ht
        rw [hX] at hN
        have hN2 : ∀ w, SG w → Calls Tryz.prog 171 #[.string (strOf l), .int .i64 0] w fun e w' => e = .returned (.tuple #[.agg #[.int .i64 (k : Int), .string (strOf l), .int .i64 0], .int .i64 (l.length : Int), .agg #[.int .i64 0, .int .i64 0]]) ∧ Below w.heap.size w w' := hN
        clear hN ht hX
        obtain ⟨S, hS⟩ : ∃ S, S = strOf l := ⟨_, rfl⟩
        rw [← hS] at hN2 hG1 ⊢
        clear hS
        have hbx : ∀ w2 : World, Below (w.alloc (.cells #[.int .i64 (k : Int), .string S, .int .i64 a] 130)).heap.size (w.alloc (.cells #[.int .i64 (k : Int), .string S, .int .i64 a] 130)) w2 → Blk w2 w.heap.size [.int .i64 (k : Int), .string S, .int .i64 a] := fun w2 hb => (Blk.is _ rfl).later hb
        by_cases ha : a < 0
        · rw [if_pos ha]
          go_enter Tryz.func167, Tryz.ntmps167
          go_wp2_with (go_at_call 171; refine (hN2 _ hG1).mono ?_; rintro e w2 ⟨rfl, hb2⟩; have hq := hbx w2 hb2; have c0 := hq.cell 0 _ rfl; have c1 := hq.cell 1 _ rfl; have c2 := hq.cell 2 _ rfl; have hql := hq.lt)
          go_ret
          exact ⟨rfl, bstep (bstep (below1 _ _) hb2) (below2 _ _ _)⟩
        · rw [if_neg ha]
          go_enter Tryz.func167, Tryz.ntmps167
          go_wp2_with (go_at_call 171; refine (hN2 _ hG1).mono ?_; rintro e w2 ⟨rfl, hb2⟩; have hq := hbx w2 hb2; have c0 := hq.cell 0 _ rfl; have c1 := hq.cell 1 _ rfl; have c2 := hq.cell 2 _ rfl; have hql := hq.lt)
          go_ret
          exact ⟨rfl, bstep (bstep (below1 _ _) hb2) (below2 _ _ _)⟩
      | false =>
        rw [if_pos rfl]
        obtain ⟨X, hX⟩ : ∃ X, X = nextX l (0 : Int) := ⟨_, rfl⟩
        have hno : ¬ (X.kd = k ∧ X.tx = l ∧ X.at_ = 0) := fun h => by
          rw [hX] at h
          rw [next_tok_only hk0 h.1 h.2.1 h.2.2] at ht
          cases ht
        rw [← hX] at hN
        obtain ⟨kd, tx, at_, nx, er, ea⟩ := X
        simp only at hno
        have hN2 : ∀ w, SG w → Calls Tryz.prog 171 #[.string (strOf l), .int .i64 0] w fun e w' => e = .returned (.tuple #[.agg #[.int .i64 (kd : Int), .string (strOf tx), .int .i64 (at_ : Int)], .int .i64 (nx : Int), .agg #[.int .i64 er, .int .i64 (ea : Int)]]) ∧ Below w.heap.size w w' := hN
        clear hN hX ht
        have h3 : (kd ≠ k) ∨ (kd = k ∧ tx ≠ l) ∨ (kd = k ∧ tx = l ∧ at_ ≠ 0) := by
          by_cases h1 : kd = k
          · by_cases h2 : tx = l
            · exact .inr (.inr ⟨h1, h2, fun h => hno ⟨h1, h2, h⟩⟩)
            · exact .inr (.inl ⟨h1, h2⟩)
          · exact .inl h1
        have hbx : ∀ w2 : World, Below (w.alloc (.cells #[.int .i64 (k : Int), .string (strOf l), .int .i64 a] 130)).heap.size (w.alloc (.cells #[.int .i64 (k : Int), .string (strOf l), .int .i64 a] 130)) w2 → Blk w2 w.heap.size [.int .i64 (k : Int), .string (strOf l), .int .i64 a] := fun w2 hb => (Blk.is _ rfl).later hb
        have hl1 : (strOf tx).toList = tx := strOf_toL tx
        have hl2 : (strOf l).toList = l := strOf_toL l
        rcases h3 with h | ⟨rfl, h⟩ | ⟨rfl, rfl, h⟩
        · have b1 : ((kd : Int) == (k : Int)) = false := by rw [beq_eq_false_iff_ne]; omega
          have n1 : ¬ (kd : Int) = (k : Int) := by omega
          have n2 : ¬ kd = k := h
          obtain ⟨S, hS⟩ : ∃ S, S = strOf l := ⟨_, rfl⟩
          obtain ⟨S2, hS2⟩ : ∃ S, S = strOf tx := ⟨_, rfl⟩
          rw [← hS] at hN2 hG1 hbx ⊢
          rw [← hS2] at hN2
          clear hS hS2 hno hl1 hl2 h
          go_enter Tryz.func167, Tryz.ntmps167
          go_wp2_with (go_at_call 171; refine (hN2 _ hG1).mono ?_; rintro e w2 ⟨rfl, hb2⟩; have hq := hbx w2 hb2; have c0 := hq.cell 0 _ rfl; have c1 := hq.cell 1 _ rfl; have c2 := hq.cell 2 _ rfl; have hql := hq.lt)
          go_ret
          exact ⟨rfl, bstep (bstep (below1 _ _) hb2) (below2 _ _ _)⟩
        · have b1 : ((strOf tx).toList == (strOf l).toList) = false := by rw [hl1, hl2, beq_eq_false_iff_ne]; exact h
          have n1 : ¬ (strOf tx).toList = (strOf l).toList := by rw [hl1, hl2]; exact h
          obtain ⟨S, hS⟩ : ∃ S, S = strOf l := ⟨_, rfl⟩
          obtain ⟨S2, hS2⟩ : ∃ S, S = strOf tx := ⟨_, rfl⟩
          rw [← hS] at hN2 hG1 hbx b1 n1 ⊢
          rw [← hS2] at hN2 b1 n1
          clear hS hS2 hno hl1 hl2 h
          go_enter Tryz.func167, Tryz.ntmps167
          go_wp2_with (go_at_call 171; refine (hN2 _ hG1).mono ?_; rintro e w2 ⟨rfl, hb2⟩; have hq := hbx w2 hb2; have c0 := hq.cell 0 _ rfl; have c1 := hq.cell 1 _ rfl; have c2 := hq.cell 2 _ rfl; have hql := hq.lt)
          go_ret
          exact ⟨rfl, bstep (bstep (below1 _ _) hb2) (below2 _ _ _)⟩
        · have b1 : ((at_ : Int) == 0) = false := by rw [beq_eq_false_iff_ne]; omega
          have n1 : ¬ (at_ : Int) = 0 := by omega
          have n2 : ¬ at_ = 0 := h
          obtain ⟨S, hS⟩ : ∃ S, S = strOf tx := ⟨_, rfl⟩
          rw [← hS] at hN2 hG1 hbx ⊢
          clear hS hno hl1 hl2 h
          go_enter Tryz.func167, Tryz.ntmps167
          go_wp2_with (go_at_call 171; refine (hN2 _ hG1).mono ?_; rintro e w2 ⟨rfl, hb2⟩; have hq := hbx w2 hb2; have c0 := hq.cell 0 _ rfl; have c1 := hq.cell 1 _ rfl; have c2 := hq.cell 2 _ rfl; have hql := hq.lt)
          go_ret
          exact ⟨rfl, bstep (bstep (below1 _ _) hb2) (below2 _ _ _)⟩
end Go.Proofs.YtdjaijhlhhnmeaaGreatDoor
namespace Go.Proofs.YtdjaijhlhhnmeaaGreatDoor
open Go.RowKit
open Tk7

end Go.Proofs.YtdjaijhlhhnmeaaGreatDoor
namespace Go.Proofs.YtdjaijhlhhnmeaaGreatDoor
open Go.RowKit
open Tk7

/-- The words of the language. -/
def wordsL : List (List UInt8) := [[119, 105, 116, 104, 105, 110], [104, 97, 118, 105, 110, 103], [97, 110, 100], [101, 109, 105, 116], [110, 111, 116], [99, 111, 117, 110, 116], [115, 117, 109], [109, 105, 110], [109, 97, 120], [102, 105, 114, 115, 116], [108, 97, 115, 116]]
def wordB (s : ByteArray) : Bool := wordsL.any fun c => decide (s = strOf c)
end Go.Proofs.YtdjaijhlhhnmeaaGreatDoor
namespace Go.Proofs.YtdjaijhlhhnmeaaGreatDoor
open Go.RowKit
open Tk7

theorem word_is {s : ByteArray} {c : List UInt8} (hc : c ∈ wordsL) (h : s = strOf c) : wordB s = true := by
  unfold wordB
  rw [List.any_eq_true]
  exact ⟨c, hc, decide_eq_true h⟩
theorem str_nel {s : ByteArray} {l : List UInt8} (h : ¬ s = strOf l) : (s.toList == l) = false := by
  have := str_ne h
  rwa [strOf_toL] at this
theorem word_not {s : ByteArray} (h : ∀ c ∈ wordsL, ¬ s = strOf c) : wordB s = false := by
  cases hb : wordB s with
  | false => rfl
  | true =>
    unfold wordB at hb
    rw [List.any_eq_true] at hb
    obtain ⟨c, hc, hd⟩ := hb
    exact absurd (of_decide_eq_true hd) (h c hc)
set_option maxRecDepth 100000 in
theorem word_0 (w : World) : Calls Tryz.prog 166 #[.string ⟨#[119, 105, 116, 104, 105, 110]⟩] w fun e w' => e = .returned (.bool true) ∧ w = w' := by
  go_enter Tryz.func166, Tryz.ntmps166
  go_wp2
  go_ret
  exact ⟨rfl, by first | rfl | trivial⟩
set_option maxRecDepth 100000 in
theorem word_1 (w : World) : Calls Tryz.prog 166 #[.string ⟨#[104, 97, 118, 105, 110, 103]⟩] w fun e w' => e = .returned (.bool true) ∧ w = w' := by
  go_enter Tryz.func166, Tryz.ntmps166
  go_wp2
  go_ret
  exact ⟨rfl, by first | rfl | trivial⟩
set_option maxRecDepth 100000 in
theorem word_2 (w : World) : Calls Tryz.prog 166 #[.string ⟨#[97, 110, 100]⟩] w fun e w' => e = .returned (.bool true) ∧ w = w' := by
  go_enter Tryz.func166, Tryz.ntmps166
  go_wp2
  go_ret
  exact ⟨rfl, by first | rfl | trivial⟩
set_option maxRecDepth 100000 in
theorem word_3 (w : World) : Calls Tryz.prog 166 #[.string ⟨#[101, 109, 105, 116]⟩] w fun e w' => e = .returned (.bool true) ∧ w = w' := by
  go_enter Tryz.func166, Tryz.ntmps166
  go_wp2
  go_ret
  exact ⟨rfl, by first | rfl | trivial⟩
set_option maxRecDepth 100000 in
theorem word_4 (w : World) : Calls Tryz.prog 166 #[.string ⟨#[110, 111, 116]⟩] w fun e w' => e = .returned (.bool true) ∧ w = w' := by
  go_enter Tryz.func166, Tryz.ntmps166
  go_wp2
  go_ret
  exact ⟨rfl, by first | rfl | trivial⟩
set_option maxRecDepth 100000 in
theorem word_5 (w : World) : Calls Tryz.prog 166 #[.string ⟨#[99, 111, 117, 110, 116]⟩] w fun e w' => e = .returned (.bool true) ∧ w = w' := by
  go_enter Tryz.func166, Tryz.ntmps166
  go_wp2
  go_ret
  exact ⟨rfl, by first | rfl | trivial⟩
set_option maxRecDepth 100000 in
theorem word_6 (w : World) : Calls Tryz.prog 166 #[.string ⟨#[115, 117, 109]⟩] w fun e w' => e = .returned (.bool true) ∧ w = w' := by
  go_enter Tryz.func166, Tryz.ntmps166
  go_wp2
  go_ret
  exact ⟨rfl, by first | rfl | trivial⟩
set_option maxRecDepth 100000 in
theorem word_7 (w : World) : Calls Tryz.prog 166 #[.string ⟨#[109, 105, 110]⟩] w fun e w' => e = .returned (.bool true) ∧ w = w' := by
  go_enter Tryz.func166, Tryz.ntmps166
  go_wp2
  go_ret
  exact ⟨rfl, by first | rfl | trivial⟩
set_option maxRecDepth 100000 in
theorem word_8 (w : World) : Calls Tryz.prog 166 #[.string ⟨#[109, 97, 120]⟩] w fun e w' => e = .returned (.bool true) ∧ w = w' := by
  go_enter Tryz.func166, Tryz.ntmps166
  go_wp2
  go_ret
  exact ⟨rfl, by first | rfl | trivial⟩
set_option maxRecDepth 100000 in
theorem word_9 (w : World) : Calls Tryz.prog 166 #[.string ⟨#[102, 105, 114, 115, 116]⟩] w fun e w' => e = .returned (.bool true) ∧ w = w' := by
  go_enter Tryz.func166, Tryz.ntmps166
  go_wp2
  go_ret
  exact ⟨rfl, by first | rfl | trivial⟩
set_option maxRecDepth 100000 in
theorem word_10 (w : World) : Calls Tryz.prog 166 #[.string ⟨#[108, 97, 115, 116]⟩] w fun e w' => e = .returned (.bool true) ∧ w = w' := by
  go_enter Tryz.func166, Tryz.ntmps166
  go_wp2
  go_ret
  exact ⟨rfl, by first | rfl | trivial⟩
set_option maxRecDepth 100000 in
theorem word_no (s : ByteArray) (h0 : (s.toList == [119, 105, 116, 104, 105, 110]) = false) (h1 : (s.toList == [104, 97, 118, 105, 110, 103]) = false) (h2 : (s.toList == [97, 110, 100]) = false) (h3 : (s.toList == [101, 109, 105, 116]) = false) (h4 : (s.toList == [110, 111, 116]) = false) (h5 : (s.toList == [99, 111, 117, 110, 116]) = false) (h6 : (s.toList == [115, 117, 109]) = false) (h7 : (s.toList == [109, 105, 110]) = false) (h8 : (s.toList == [109, 97, 120]) = false) (h9 : (s.toList == [102, 105, 114, 115, 116]) = false) (h10 : (s.toList == [108, 97, 115, 116]) = false) (w : World) : Calls Tryz.prog 166 #[.string s] w fun e w' => e = .returned (.bool false) ∧ w = w' := by
  go_enter Tryz.func166, Tryz.ntmps166
  go_wp2
  go_ret
  exact ⟨rfl, by first | rfl | trivial⟩
theorem word_any (s : ByteArray) (w : World) : Calls Tryz.prog 166 #[.string s] w fun e w' => e = .returned (.bool (wordB s)) ∧ w = w' := by
  by_cases n0 : s = ⟨#[119, 105, 116, 104, 105, 110]⟩
  · subst n0
    rw [show wordB ⟨#[119, 105, 116, 104, 105, 110]⟩ = true from word_is (c := [119, 105, 116, 104, 105, 110]) (by decide) rfl]
    exact word_0 w
  by_cases n1 : s = ⟨#[104, 97, 118, 105, 110, 103]⟩
  · subst n1
    rw [show wordB ⟨#[104, 97, 118, 105, 110, 103]⟩ = true from word_is (c := [104, 97, 118, 105, 110, 103]) (by decide) rfl]
    exact word_1 w
  by_cases n2 : s = ⟨#[97, 110, 100]⟩
  · subst n2
    rw [show wordB ⟨#[97, 110, 100]⟩ = true from word_is (c := [97, 110, 100]) (by decide) rfl]
    exact word_2 w
  by_cases n3 : s = ⟨#[101, 109, 105, 116]⟩
  · subst n3
    rw [show wordB ⟨#[101, 109, 105, 116]⟩ = true from word_is (c := [101, 109, 105, 116]) (by decide) rfl]
    exact word_3 w
  by_cases n4 : s = ⟨#[110, 111, 116]⟩
  · subst n4
    rw [show wordB ⟨#[110, 111, 116]⟩ = true from word_is (c := [110, 111, 116]) (by decide) rfl]
    exact word_4 w
  by_cases n5 : s = ⟨#[99, 111, 117, 110, 116]⟩
  · subst n5
    rw [show wordB ⟨#[99, 111, 117, 110, 116]⟩ = true from word_is (c := [99, 111, 117, 110, 116]) (by decide) rfl]
    exact word_5 w
  by_cases n6 : s = ⟨#[115, 117, 109]⟩
  · subst n6
    rw [show wordB ⟨#[115, 117, 109]⟩ = true from word_is (c := [115, 117, 109]) (by decide) rfl]
    exact word_6 w
  by_cases n7 : s = ⟨#[109, 105, 110]⟩
  · subst n7
    rw [show wordB ⟨#[109, 105, 110]⟩ = true from word_is (c := [109, 105, 110]) (by decide) rfl]
    exact word_7 w
  by_cases n8 : s = ⟨#[109, 97, 120]⟩
  · subst n8
    rw [show wordB ⟨#[109, 97, 120]⟩ = true from word_is (c := [109, 97, 120]) (by decide) rfl]
    exact word_8 w
  by_cases n9 : s = ⟨#[102, 105, 114, 115, 116]⟩
  · subst n9
    rw [show wordB ⟨#[102, 105, 114, 115, 116]⟩ = true from word_is (c := [102, 105, 114, 115, 116]) (by decide) rfl]
    exact word_9 w
  by_cases n10 : s = ⟨#[108, 97, 115, 116]⟩
  · subst n10
    rw [show wordB ⟨#[108, 97, 115, 116]⟩ = true from word_is (c := [108, 97, 115, 116]) (by decide) rfl]
    exact word_10 w
  rw [show wordB s = false from word_not (fun c hc h => by
    subst h
    simp only [wordsL, List.mem_cons, List.not_mem_nil, or_false] at hc
    rcases hc with rfl | rfl | rfl | rfl | rfl | rfl | rfl | rfl | rfl | rfl | rfl
    · exact n0 rfl
    · exact n1 rfl
    · exact n2 rfl
    · exact n3 rfl
    · exact n4 rfl
    · exact n5 rfl
    · exact n6 rfl
    · exact n7 rfl
    · exact n8 rfl
    · exact n9 rfl
    · exact n10 rfl
    )]
  exact word_no s (str_nel n0) (str_nel n1) (str_nel n2) (str_nel n3) (str_nel n4) (str_nel n5) (str_nel n6) (str_nel n7) (str_nel n8) (str_nel n9) (str_nel n10) w
end Go.Proofs.YtdjaijhlhhnmeaaGreatDoor
