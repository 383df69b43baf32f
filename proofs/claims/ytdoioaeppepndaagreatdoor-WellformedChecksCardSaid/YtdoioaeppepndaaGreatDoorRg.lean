/- Ranges over functions: laws of the statement. -/
import Derived.RangeFuncNested
import Derived.RangeFuncFrom
import Derived.RangeFuncBox
import Derived.RangeFuncBound
import Derived.RangeFuncCalls
import Derived.RangeFuncLeaves
import Derived.Shelf.Abstract
import Derived.Shelf.RegionOpen
import Derived.WalkKit
import Derived.OwnWalkIn
import Derived.TacticsInMore
import Derived.LoopNIn
import Derived.LoopIn
import Derived.Outline
import Derived.Test.YtdoioaeppepndaaGreatDoorSl
namespace Go.Proofs.YtdoioaeppepndaaGreatDoor
open Go.RowKit Go.Shelf
attribute [local go_sem] Oper.semAt_some

/-- How a round may end. -/
def roundEnd {α : Type} (Kp : World → World → Prop) (I Ix : List α → World → Prop) (xs : List α) (W : World) : Exit → Act → World → Prop
  | .normal, _, W' => KeepsOthers W W' ∧ Kp W W' ∧ I xs W'
  | .ret, _, W' => KeepsOthers W W' ∧ Ix xs W'
  | _, _, _ => False
theorem ownFrom_grow {β : Type} {B : Nat} {I : β → World → Prop} (h : OwnFrom B I) {s : β} {W W' : World} (hs : I s W) (hb : Below W.heap.size W W') : I s W' :=
  h s W W' none hs (grown_below _ _ hb) (fun r e => by cases e)
section
variable {F : Fence} {n : Nat} {P : Program}
/-- The statement over such an iterator: between two rounds I holds, and a round may return (Ix); A says how the values of a round lie. -/
theorem wpIn_range_asg {α : Type} {g : Operand} {ps : Array Tmp} {assign body : Code} {Q : Exit → Act → World → Prop} {a : Act} {w : World}
    (hro : F.round = none) (h1 : 1 ≤ n) {gf : Nat} {lb : Array Value} (hg : a.eval g = .func (.func gf) #[] lb) (hFg : F.fn gf) (eg : ∀ args w, (callFunc gf args).run P w = .ok (.enter gf args) w)
    {encs : α → Array Value} {Kp : World → World → Prop} {Sd Sp : List α → Prop} {N : Nat} {w0 : World} (hseq : SeqStopsK F (n - 1) P gf lb encs Kp Sd Sp N w0)
    (hKt : ∀ {A B C : World}, Kp A B → Kp B C → Kp A C) (hKb : ∀ (W : World) (l : Nat) (o o' : Obj), w.heap.size ≤ l → W.heap[l]? = some o → o.isCells = false → Kp W (W.putObj l o')) (hKa : ∀ W W' : World, Below W.heap.size W W' → Kp W W')
    (hb0 : Below w0.heap.size w0 w) (hps : ∀ x, (encs x).size = ps.size)
    (I Ix : List α → World → Prop) (hI : OwnFrom w.heap.size I) (hIx : OwnFrom w.heap.size Ix) (h0 : I [] w)
    (A : α → Act → World → Prop) (hA : ∀ x act, OwnFrom w.heap.size (fun (_ : Unit) W => A x act W))
    (hassign : ∀ (l : Nat) (x : α) (W : World) (K : Act → World → Prop), w.heap.size ≤ W.heap.size → (∀ act W1, A x act W1 → Below W.heap.size W W1 → K act W1) →
      assign.wpIn (F.inRound l) (n - 1 - 1) P (Exit.then K (fun _ _ _ => False)) { tmps := (ps.zip (encs x)).foldl (fun t (p, v) => t.setIfInBounds p v) a.tmps, defers := [] } W)
    (hbody : ∀ (l : Nat) (pre : List α) (x : α) (act : Act) (W : World), pre.length < N → I pre W → A x act W → body.wpIn (F.inRound l) (n - 1 - 1) P (roundEnd Kp I Ix (pre ++ [x]) W) act W)
    (hdone : ∀ (D : Nat) (xs : List α) (W : World), w.heap.size ≤ D → Sd xs → I xs W → W.heap[D]? = some (.deferred (some [])) → Q .normal { a with defers := { target := .collected D, args := #[] } :: a.defers } W)
    (hstop : ∀ (D : Nat) (pre : List α) (W : World), w.heap.size ≤ D → Sp pre → Ix pre W → W.heap[D]? = some (.deferred (some [])) → Code.ret.wpIn F n P Q { a with defers := { target := .collected D, args := #[] } :: a.defers } W) :
    (Code.rangeFunc g ps assign body).wpIn F n P Q a w := by
  refine wpIn_rangeFunc ?_
  intro fn hfn
  rw [hro]
  -- the loop's record, in a state, with a jump that is pending
  obtain ⟨rec, hrec⟩ : ∃ rec : LoopState → Option Code → Loop, rec = fun st pe => { state := st, pending := pe, fn, tmps := a.tmps, params := ps, assign, body, defers := w.heap.size } := ⟨_, rfl⟩
  obtain ⟨S, hS⟩ : ∃ S, S = w.heap.size := ⟨_, rfl⟩
  obtain ⟨W1, hW1⟩ : ∃ W1, W1 = (w.alloc (.deferred (some []))).alloc (.loop (rec .ready none)) := ⟨_, rfl⟩
  have hnew : W1.heap[S + 1]? = some (.loop (rec .ready none)) := by
    have := World.alloc_heap_new (w.alloc (.deferred (some []))) (.loop (rec .ready none))
    rw [World.size_alloc, ← hS, ← hW1] at this
    exact this
  have hdef : W1.heap[S]? = some (.deferred (some [])) := by
    rw [hW1, hS]
    exact (Below.heap_alloc _ _ _ (by simp)).trans (World.alloc_heap_new w _)
  have hW1s : S + 2 ≤ W1.heap.size := by rw [hW1, hS]; simp
  have hI1 : I [] W1 := hW1 ▸ hI.alloc _ (hI.alloc _ h0)
  have hb1 : Below w0.heap.size w0 W1 := hW1 ▸ hb0.trans ((((Below.refl _ w).alloc (Nat.le_refl _) _).alloc (by simp) _).mono hb0.size)
  rw [← hS] at hI hIx hKb hdone hstop hA hassign
  have turn : ∀ {K : List α → World → Prop} {pre : List α} {W : World} {o : Obj} (o' : Obj), OwnFrom S K → K pre W → W.heap[S + 1]? = some o → o.isCells = false → W.heap[S]? = some (.deferred (some [])) →
      K pre (W.putObj (S + 1) o') ∧ (W.putObj (S + 1) o').heap[S + 1]? = some o' ∧ (W.putObj (S + 1) o').heap[S]? = some (.deferred (some [])) ∧ Kp W (W.putObj (S + 1) o') := fun o' hK hk hl ho hd =>
    ⟨hK.putObj o' hk (by omega) hl ho, World.putObj_heap_same (Array.getElem?_eq_some_iff.1 hl).1, (World.putObj_heap_other (by omega)).trans hd, hKb _ _ _ _ (by omega) hl ho⟩
  have walks : ∀ {A B : World} {row : Option Nat}, (∀ r, row = some r → W1.heap.size ≤ r ∧ ∃ o : Obj, A.heap[r]? = some o ∧ o.isWalk = true) → (∀ r, row = some r → S ≤ r ∧ ∃ o : Obj, A.heap[r]? = some o ∧ o.isCells = false) :=
    fun hr r e => by obtain ⟨hB, o, ho, hw⟩ := hr r e; exact ⟨by omega, o, ho, Obj.not_cells_of_walk hw⟩
  have stand : ∀ {A B : World} {row : Option Nat} {k : Nat} {o : Obj}, A.grownBy B row → (∀ r, row = some r → W1.heap.size ≤ r ∧ ∃ o : Obj, A.heap[r]? = some o ∧ o.isWalk = true) → k < S + 2 → A.heap[k]? = some o → B.heap[k]? = some o :=
    fun hgr hr hk ho => (hgr.block _ (Array.getElem?_eq_some_iff.1 ho).1 (fun e => by have := (hr _ e.symm).1; omega)).trans ho
  refine ⟨S + 1, [{ target := .collected S, args := #[] }], W1, { target := .fn (.func gf) lb, args := #[.func (.yield (S + 1)) #[] #[]] }, W1, gf,
    #[.func (.yield (S + 1)) #[] #[]] ++ lb, W1, ?_, ?_, ?_, ?_, fun _ => h1, ?_⟩
  · rw [hW1, hS, hrec]; exact run_enterLoop_outer _ _ _ _ _
  · simp only [resolve, hg]
    simp [go_sem]
  · intro f' hf'; simp [Target.leads] at hf'; subst hf'; exact hFg
  · simp [invoke, go_sem, eg]
  · refine (hseq (S + 1)
      (fun pre W => I pre W ∧ W.heap[S + 1]? = some (.loop (rec .ready none)) ∧ W.heap[S]? = some (.deferred (some [])) ∧ S ≤ W.heap.size)
      (fun pre W => Ix pre W ∧ W.heap[S + 1]? = some (.loop (rec .done (some .ret))) ∧ W.heap[S]? = some (.deferred (some [])))
      W1 hb1
      (fun s A B row h hgr hr => ⟨hI s A B row h.1 hgr (walks (B := B) hr), stand hgr hr (by omega) h.2.1, stand hgr hr (by omega) h.2.2.1, Nat.le_trans h.2.2.2 hgr.size⟩)
      (fun s A B row h hgr hr => ⟨hIx s A B row h.1 hgr (walks (B := B) hr), stand hgr hr (by omega) h.2.1, stand hgr hr (by omega) h.2.2⟩)
      ?_ ⟨hI1, hnew, hdef, by omega⟩).mono ?_
    · rintro pre x W ⟨hi, hl, hd, hsz⟩ hpre
      have hy := run_yield (P := P) (args := encs x) hl (by rw [hrec]; exact hps x)
      rw [hrec] at hy
      refine ⟨fn, _, assign, body, hy, roundIn_of_wpIn hfn (hassign _ x W _ hsz ?_)⟩
      clear hy
      intro act W5 hA5 hb5
      have hi5 := ownFrom_grow hI hi hb5
      have hl5 : W5.heap[S + 1]? = some (.loop (rec .ready none)) := (hb5.block _ (Array.getElem?_eq_some_iff.1 hl).1).trans hl
      have hd5 : W5.heap[S]? = some (.deferred (some [])) := (hb5.block _ (Array.getElem?_eq_some_iff.1 hd).1).trans hd
      refine ⟨_, run_beginRound hl5 (by rw [hrec]), ?_⟩
      obtain ⟨hi2, hl2, hd2, hk2⟩ := turn (.loop { rec .ready none with state := .busy }) hI hi5 hl5 rfl hd5
      have hA2 := (hA x act).putObj (s := ()) (.loop { rec .ready none with state := .busy }) hA5 (by omega) hl5 rfl
      refine wpIn_mono (hbody _ pre x act _ hpre hi2 hA2) ?_
      rintro e a3 W3 hp
      cases e with
      | normal =>
        obtain ⟨hk3, hkp, hi3⟩ := hp
        have hl3 := hk3.same _ _ hl2 rfl
        have hd3 := hk3.same _ _ hd2 rfl
        obtain ⟨hi4, hl4, hd4, hk4⟩ := turn (.loop (rec .ready none)) hI hi3 hl3 rfl hd3
        have hr := run_endRound (P := P) none hl3
        have hs4 : S ≤ (W3.putObj (S + 1) (.loop (rec .ready none))).heap.size := by
          have := (Array.getElem?_eq_some_iff.1 hd4).1; omega
        rw [hrec] at hr
        rw [hrec] at hi4 hl4 hd4 hk4 hk2 hkp hs4
        exact ⟨_, _, hr, .inl ⟨rfl, ⟨hi4, by rw [hrec]; exact hl4, hd4, hs4⟩, hKt (hKa _ _ hb5) (hKt (hKt hk2 hkp) hk4)⟩⟩
      | ret =>
        obtain ⟨hk3, hi3⟩ := hp
        have hl3 := hk3.same _ _ hl2 rfl
        have hd3 := hk3.same _ _ hd2 rfl
        obtain ⟨hi4, hl4, hd4, _⟩ := turn (.loop (rec .done (some .ret))) hIx hi3 hl3 rfl hd3
        have hr := run_endRound (P := P) (some .ret) hl3
        rw [hrec] at hr
        rw [hrec] at hi4 hl4 hd4
        exact ⟨_, _, hr, .inr ⟨rfl, hi4, by rw [hrec]; exact hl4, hd4⟩⟩
      | exit id => exact hp.elim
      | goto t => exact hp.elim
      | panic ch => exact hp.elim
      | outgrown => exact hp.elim
    · rintro e W2 ⟨⟨v, rfl⟩, (⟨xs, hxs, hi, hl, hd, _⟩ | ⟨pre, hpre, hi, hl, hd⟩)⟩
      · have hr := run_endLoop (P := P) hl (by rw [hrec]; simp)
        rw [hrec] at hr hl
        exact ⟨none, _, hr, hdone _ _ _ (Nat.le_refl _) hxs (hI.putObj _ hi (by omega) hl rfl) ((World.putObj_heap_other (by omega)).trans hd)⟩
      · have hr := run_endLoop (P := P) hl (by rw [hrec]; simp)
        rw [hrec] at hr hl
        exact ⟨some .ret, _, hr, hstop _ pre _ (Nat.le_refl _) hpre (hIx.putObj _ hi (by omega) hl rfl) ((World.putObj_heap_other (by omega)).trans hd)⟩
end
end Go.Proofs.YtdoioaeppepndaaGreatDoor
namespace Go.Proofs.YtdoioaeppepndaaGreatDoor
open Go.RowKit Go.Shelf
attribute [local go_sem] Oper.semAt_some

/-- An iterator that yields the values of L, one after the other, or is left before. -/
def SeqL {α : Type} (F : Fence) (n : Nat) (P : Program) (g : Nat) (lb : Array Value) (encs : α → Array Value) (Kp : World → World → Prop) (L : List α) (w : World) : Prop :=
  ∀ (l : Nat) (J Jx : List α → World → Prop) (W : World), Below w.heap.size w W → AbidesFrom W.heap.size J → AbidesFrom W.heap.size Jx →
    (∀ pre x W1, J pre W1 → pre ++ [x] <+: L → YieldAt F (n - 1) P l (encs x) W1 fun e W' =>
      (e = .returned (.bool true) ∧ J (pre ++ [x]) W' ∧ Kp W1 W') ∨ (e = .returned (.bool false) ∧ Jx (pre ++ [x]) W')) →
    J [] W →
    CallsIn F n P g (#[.func (.yield l) #[] #[]] ++ lb) W fun e W' => (∃ v, e = .returned v) ∧ (J L W' ∨ ∃ pre, pre <+: L ∧ Jx pre W')
section
variable {F : Fence} {n : Nat} {P : Program}
/-- The statement over such an iterator: between two rounds I holds, and a round may return (Ix); A says how the values of a round lie. -/
theorem wpIn_range_list {α : Type} {g : Operand} {ps : Array Tmp} {assign body : Code} {Q : Exit → Act → World → Prop} {a : Act} {w : World}
    (hro : F.round = none) (h1 : 1 ≤ n) {gf : Nat} {lb : Array Value} (hg : a.eval g = .func (.func gf) #[] lb) (hFg : F.fn gf) (eg : ∀ args w, (callFunc gf args).run P w = .ok (.enter gf args) w)
    {encs : α → Array Value} {Kp : World → World → Prop} {L : List α} {w0 : World} (hseq : SeqL F (n - 1) P gf lb encs Kp L w0)
    (hKt : ∀ {A B C : World}, Kp A B → Kp B C → Kp A C) (hKb : ∀ (W : World) (l : Nat) (o o' : Obj), w.heap.size ≤ l → W.heap[l]? = some o → o.isCells = false → Kp W (W.putObj l o')) (hKa : ∀ W W' : World, Below W.heap.size W W' → Kp W W')
    (hb0 : Below w0.heap.size w0 w) (hps : ∀ x, (encs x).size = ps.size)
    (I Ix : List α → World → Prop) (hI : OwnFrom w.heap.size I) (hIx : OwnFrom w.heap.size Ix) (h0 : I [] w)
    (A : α → Act → World → Prop) (hA : ∀ x act, OwnFrom w.heap.size (fun (_ : Unit) W => A x act W))
    (hassign : ∀ (l : Nat) (pre : List α) (x : α) (W : World) (K : Act → World → Prop), pre ++ [x] <+: L → w.heap.size ≤ W.heap.size → (∀ act W1, A x act W1 → Below W.heap.size W W1 → K act W1) →
      assign.wpIn (F.inRound l) (n - 1 - 1) P (Exit.then K (fun _ _ _ => False)) { tmps := (ps.zip (encs x)).foldl (fun t (p, v) => t.setIfInBounds p v) a.tmps, defers := [] } W)
    (hbody : ∀ (l : Nat) (pre : List α) (x : α) (act : Act) (W : World), pre ++ [x] <+: L → I pre W → A x act W → body.wpIn (F.inRound l) (n - 1 - 1) P (roundEnd Kp I Ix (pre ++ [x]) W) act W)
    (hdone : ∀ (D : Nat) (W : World), w.heap.size ≤ D → I L W → W.heap[D]? = some (.deferred (some [])) → Q .normal { a with defers := { target := .collected D, args := #[] } :: a.defers } W)
    (hstop : ∀ (D : Nat) (pre : List α) (W : World), w.heap.size ≤ D → pre <+: L → Ix pre W → W.heap[D]? = some (.deferred (some [])) → Code.ret.wpIn F n P Q { a with defers := { target := .collected D, args := #[] } :: a.defers } W) :
    (Code.rangeFunc g ps assign body).wpIn F n P Q a w := by
  refine wpIn_rangeFunc ?_
  intro fn hfn
  rw [hro]
  -- the loop's record, in a state, with a jump that is pending
  obtain ⟨rec, hrec⟩ : ∃ rec : LoopState → Option Code → Loop, rec = fun st pe => { state := st, pending := pe, fn, tmps := a.tmps, params := ps, assign, body, defers := w.heap.size } := ⟨_, rfl⟩
  obtain ⟨S, hS⟩ : ∃ S, S = w.heap.size := ⟨_, rfl⟩
  obtain ⟨W1, hW1⟩ : ∃ W1, W1 = (w.alloc (.deferred (some []))).alloc (.loop (rec .ready none)) := ⟨_, rfl⟩
  have hnew : W1.heap[S + 1]? = some (.loop (rec .ready none)) := by
    have := World.alloc_heap_new (w.alloc (.deferred (some []))) (.loop (rec .ready none))
    rw [World.size_alloc, ← hS, ← hW1] at this
    exact this
  have hdef : W1.heap[S]? = some (.deferred (some [])) := by
    rw [hW1, hS]
    exact (Below.heap_alloc _ _ _ (by simp)).trans (World.alloc_heap_new w _)
  have hW1s : S + 2 ≤ W1.heap.size := by rw [hW1, hS]; simp
  have hI1 : I [] W1 := hW1 ▸ hI.alloc _ (hI.alloc _ h0)
  have hb1 : Below w0.heap.size w0 W1 := hW1 ▸ hb0.trans ((((Below.refl _ w).alloc (Nat.le_refl _) _).alloc (by simp) _).mono hb0.size)
  rw [← hS] at hI hIx hKb hdone hstop hA hassign
  have turn : ∀ {K : List α → World → Prop} {pre : List α} {W : World} {o : Obj} (o' : Obj), OwnFrom S K → K pre W → W.heap[S + 1]? = some o → o.isCells = false → W.heap[S]? = some (.deferred (some [])) →
      K pre (W.putObj (S + 1) o') ∧ (W.putObj (S + 1) o').heap[S + 1]? = some o' ∧ (W.putObj (S + 1) o').heap[S]? = some (.deferred (some [])) ∧ Kp W (W.putObj (S + 1) o') := fun o' hK hk hl ho hd =>
    ⟨hK.putObj o' hk (by omega) hl ho, World.putObj_heap_same (Array.getElem?_eq_some_iff.1 hl).1, (World.putObj_heap_other (by omega)).trans hd, hKb _ _ _ _ (by omega) hl ho⟩
  have walks : ∀ {A B : World} {row : Option Nat}, (∀ r, row = some r → W1.heap.size ≤ r ∧ ∃ o : Obj, A.heap[r]? = some o ∧ o.isWalk = true) → (∀ r, row = some r → S ≤ r ∧ ∃ o : Obj, A.heap[r]? = some o ∧ o.isCells = false) :=
    fun hr r e => by obtain ⟨hB, o, ho, hw⟩ := hr r e; exact ⟨by omega, o, ho, Obj.not_cells_of_walk hw⟩
  have stand : ∀ {A B : World} {row : Option Nat} {k : Nat} {o : Obj}, A.grownBy B row → (∀ r, row = some r → W1.heap.size ≤ r ∧ ∃ o : Obj, A.heap[r]? = some o ∧ o.isWalk = true) → k < S + 2 → A.heap[k]? = some o → B.heap[k]? = some o :=
    fun hgr hr hk ho => (hgr.block _ (Array.getElem?_eq_some_iff.1 ho).1 (fun e => by have := (hr _ e.symm).1; omega)).trans ho
  refine ⟨S + 1, [{ target := .collected S, args := #[] }], W1, { target := .fn (.func gf) lb, args := #[.func (.yield (S + 1)) #[] #[]] }, W1, gf,
    #[.func (.yield (S + 1)) #[] #[]] ++ lb, W1, ?_, ?_, ?_, ?_, fun _ => h1, ?_⟩
  · rw [hW1, hS, hrec]; exact run_enterLoop_outer _ _ _ _ _
  · simp only [resolve, hg]
    simp [go_sem]
  · intro f' hf'; simp [Target.leads] at hf'; subst hf'; exact hFg
  · simp [invoke, go_sem, eg]
  · refine (hseq (S + 1)
      (fun pre W => I pre W ∧ W.heap[S + 1]? = some (.loop (rec .ready none)) ∧ W.heap[S]? = some (.deferred (some [])) ∧ S ≤ W.heap.size)
      (fun pre W => Ix pre W ∧ W.heap[S + 1]? = some (.loop (rec .done (some .ret))) ∧ W.heap[S]? = some (.deferred (some [])))
      W1 hb1
      (fun s A B row h hgr hr => ⟨hI s A B row h.1 hgr (walks (B := B) hr), stand hgr hr (by omega) h.2.1, stand hgr hr (by omega) h.2.2.1, Nat.le_trans h.2.2.2 hgr.size⟩)
      (fun s A B row h hgr hr => ⟨hIx s A B row h.1 hgr (walks (B := B) hr), stand hgr hr (by omega) h.2.1, stand hgr hr (by omega) h.2.2⟩)
      ?_ ⟨hI1, hnew, hdef, by omega⟩).mono ?_
    · rintro pre x W ⟨hi, hl, hd, hsz⟩ hpre
      have hy := run_yield (P := P) (args := encs x) hl (by rw [hrec]; exact hps x)
      rw [hrec] at hy
      refine ⟨fn, _, assign, body, hy, roundIn_of_wpIn hfn (hassign _ pre x W _ hpre hsz ?_)⟩
      clear hy
      intro act W5 hA5 hb5
      have hi5 := ownFrom_grow hI hi hb5
      have hl5 : W5.heap[S + 1]? = some (.loop (rec .ready none)) := (hb5.block _ (Array.getElem?_eq_some_iff.1 hl).1).trans hl
      have hd5 : W5.heap[S]? = some (.deferred (some [])) := (hb5.block _ (Array.getElem?_eq_some_iff.1 hd).1).trans hd
      refine ⟨_, run_beginRound hl5 (by rw [hrec]), ?_⟩
      obtain ⟨hi2, hl2, hd2, hk2⟩ := turn (.loop { rec .ready none with state := .busy }) hI hi5 hl5 rfl hd5
      have hA2 := (hA x act).putObj (s := ()) (.loop { rec .ready none with state := .busy }) hA5 (by omega) hl5 rfl
      refine wpIn_mono (hbody _ pre x act _ hpre hi2 hA2) ?_
      rintro e a3 W3 hp
      cases e with
      | normal =>
        obtain ⟨hk3, hkp, hi3⟩ := hp
        have hl3 := hk3.same _ _ hl2 rfl
        have hd3 := hk3.same _ _ hd2 rfl
        obtain ⟨hi4, hl4, hd4, hk4⟩ := turn (.loop (rec .ready none)) hI hi3 hl3 rfl hd3
        have hr := run_endRound (P := P) none hl3
        have hs4 : S ≤ (W3.putObj (S + 1) (.loop (rec .ready none))).heap.size := by
          have := (Array.getElem?_eq_some_iff.1 hd4).1; omega
        rw [hrec] at hr
        rw [hrec] at hi4 hl4 hd4 hk4 hk2 hkp hs4
        exact ⟨_, _, hr, .inl ⟨rfl, ⟨hi4, by rw [hrec]; exact hl4, hd4, hs4⟩, hKt (hKa _ _ hb5) (hKt (hKt hk2 hkp) hk4)⟩⟩
      | ret =>
        obtain ⟨hk3, hi3⟩ := hp
        have hl3 := hk3.same _ _ hl2 rfl
        have hd3 := hk3.same _ _ hd2 rfl
        obtain ⟨hi4, hl4, hd4, _⟩ := turn (.loop (rec .done (some .ret))) hIx hi3 hl3 rfl hd3
        have hr := run_endRound (P := P) (some .ret) hl3
        rw [hrec] at hr
        rw [hrec] at hi4 hl4 hd4
        exact ⟨_, _, hr, .inr ⟨rfl, hi4, by rw [hrec]; exact hl4, hd4⟩⟩
      | exit id => exact hp.elim
      | goto t => exact hp.elim
      | panic ch => exact hp.elim
      | outgrown => exact hp.elim
    · rintro e W2 ⟨⟨v, rfl⟩, (⟨hi, hl, hd, _⟩ | ⟨pre, hpre, hi, hl, hd⟩)⟩
      · have hr := run_endLoop (P := P) hl (by rw [hrec]; simp)
        rw [hrec] at hr hl
        exact ⟨none, _, hr, hdone _ _ (Nat.le_refl _) (hI.putObj _ hi (by omega) hl rfl) ((World.putObj_heap_other (by omega)).trans hd)⟩
      · have hr := run_endLoop (P := P) hl (by rw [hrec]; simp)
        rw [hrec] at hr hl
        exact ⟨some .ret, _, hr, hstop _ pre _ (Nat.le_refl _) hpre (hIx.putObj _ hi (by omega) hl rfl) ((World.putObj_heap_other (by omega)).trans hd)⟩
end
end Go.Proofs.YtdoioaeppepndaaGreatDoor
namespace Go.Proofs.YtdoioaeppepndaaGreatDoor
open Go.RowKit Go.Shelf
attribute [local go_sem] Oper.semAt_some

/-- Where no depth is asked of a fence, a round wants none. -/
theorem round_wide {F : Fence} (hd : F.depth = none) {m m' : Nat} {P : Program} {l : Nat} {f : FuncId} {tmps : Array Value} {assign body : Code} {w : World} {R : Ending → World → Prop}
    (h : RoundIn F m P l f tmps assign body w R) : RoundIn F m' P l f tmps assign body w R := ⟨h.1, fun c cs _ => h.2 c cs (fun d h => by rw [hd] at h; cases h)⟩
/-- What an iterator may turn: from block B on, what is no cells, and cells of type t. -/
structure Turn (t : TypeId) (B : Nat) (W W' : World) : Prop where
  os : W'.os = W.os
  tape : W'.tape = W.tape
  output : W'.output = W.output
  size : W.heap.size ≤ W'.heap.size
  same : ∀ k o, W.heap[k]? = some o → (k < B ∨ ∃ cs u fr, o = .cells cs u fr ∧ u ≠ t) → W'.heap[k]? = some o
theorem Turn.refl (t : TypeId) (B : Nat) (W : World) : Turn t B W W := ⟨rfl, rfl, rfl, Nat.le_refl _, fun _ _ h _ => h⟩
theorem Turn.trans {t : TypeId} {B : Nat} {X Y Z : World} (h : Turn t B X Y) (k : Turn t B Y Z) : Turn t B X Z :=
  ⟨k.os.trans h.os, k.tape.trans h.tape, k.output.trans h.output, Nat.le_trans h.size k.size, fun i o hi hx => k.same i o (h.same i o hi hx) hx⟩
theorem Turn.mono {t : TypeId} {B B' : Nat} {X Y : World} (h : Turn t B' X Y) (hB : B ≤ B') : Turn t B X Y :=
  ⟨h.os, h.tape, h.output, h.size, fun i o hi hx => h.same i o hi (hx.imp (fun hk => Nat.lt_of_lt_of_le hk hB) id)⟩
theorem Turn.of {t : TypeId} {B : Nat} {W W' : World} (h : Below W.heap.size W W') : Turn t B W W' :=
  ⟨h.os, h.tape, h.output, h.size, fun k _ hk _ => (h.block k (Array.getElem?_eq_some_iff.1 hk).1).trans hk⟩
theorem Turn.put {t : TypeId} {B : Nat} {W : World} {l : Nat} {o : Obj} (o' : Obj) (hB : B ≤ l) (hl : W.heap[l]? = some o) (hc : o.isCells = false) : Turn t B W (W.putObj l o') := by
  refine ⟨rfl, rfl, rfl, by simp, fun k u hk hx => (World.putObj_heap_other ?_).trans hk⟩
  rintro rfl
  rcases hx with hx | ⟨cs, u', fr, rfl, -⟩
  · omega
  · rw [hl] at hk
    cases hk
    cases hc
theorem Turn.set {t : TypeId} {B : Nat} {W : World} {b : Nat} {cs : Array Value} {fr : Nat × Nat} (hB : B ≤ b) (hb : W.heap[b]? = some (.cells cs t fr)) (i : Nat) (v : Value) : Turn t B W (W.setCell ⟨b, i, none⟩ v) := by
  refine ⟨rfl, rfl, rfl, by simp [World.setCell], fun k o hk hx => (Below.heap_setCell _ _ _ _ ?_).trans hk⟩
  show k ≠ b
  rintro rfl
  rcases hx with hx | ⟨cs', u', fr', rfl, hu⟩
  · omega
  · rw [hb] at hk
    cases hk
    exact hu rfl
theorem Turn.below {t : TypeId} {m B : Nat} {w W W' : World} (h : Turn t B W W') (hb : Below m w W) (hm : m ≤ B) (hw : m ≤ w.heap.size) : Below m w W' :=
  ⟨h.os.trans hb.os, h.tape.trans hb.tape, h.output.trans hb.output, Nat.le_trans hb.size h.size, fun k hk => by
    have e := hb.block k hk
    rw [← e]
    have hlt : k < W.heap.size := by have := hb.size; omega
    rw [Array.getElem?_eq_getElem hlt]
    exact h.same k _ (Array.getElem?_eq_getElem hlt) (.inl (by omega))⟩
/-- What holds in spite of it. -/
def Closed {β : Type} (t : TypeId) (B : Nat) (J : β → World → Prop) : Prop := ∀ s W W', J s W → Turn t B W W' → J s W'
theorem Closed.mono {β : Type} {t : TypeId} {B B' : Nat} {J : β → World → Prop} (h : Closed t B J) (hB : B ≤ B') : Closed t B' J := fun s W W' hs ht => h s W W' hs (ht.mono hB)
/-- What a round keeps of an iterator: all below m, cells of the types tN, and from block B on what is no cells, and cells of type t. -/
structure KeepW (tN : List TypeId) (t : TypeId) (m B : Nat) (W W' : World) : Prop where
  size : W.heap.size ≤ W'.heap.size
  same : ∀ k o, W.heap[k]? = some o → (k < m ∨ (∃ cs u fr, o = .cells cs u fr ∧ u ∈ tN) ∨ (B ≤ k ∧ (o.isCells = false ∨ ∃ cs fr, o = .cells cs t fr))) → W'.heap[k]? = some o
section
variable {tN : List TypeId} {t : TypeId} {m : Nat}
theorem KeepW.refl (B : Nat) (W : World) : KeepW tN t m B W W := ⟨Nat.le_refl _, fun _ _ h _ => h⟩
theorem KeepW.trans {B : Nat} {X Y Z : World} (h : KeepW tN t m B X Y) (k : KeepW tN t m B Y Z) : KeepW tN t m B X Z := ⟨Nat.le_trans h.size k.size, fun i o hi hx => k.same i o (h.same i o hi hx) hx⟩
theorem KeepW.mono {B B' : Nat} {X Y : World} (h : KeepW tN t m B X Y) (hB : B ≤ B') : KeepW tN t m B' X Y :=
  ⟨h.size, fun i o hi hx => h.same i o hi (hx.imp id fun hx => hx.imp id fun hx => ⟨by omega, hx.2⟩)⟩
theorem KeepW.of {B : Nat} {W W' : World} (h : Below W.heap.size W W') : KeepW tN t m B W W' := ⟨h.size, fun k _ hk _ => (h.block k (Array.getElem?_eq_some_iff.1 hk).1).trans hk⟩
theorem KeepW.put {B : Nat} {W : World} {l : Nat} {o : Obj} (o' : Obj) (hm : m ≤ l) (hB : l < B) (hl : W.heap[l]? = some o) (hc : o.isCells = false) : KeepW tN t m B W (W.putObj l o') := by
  refine ⟨by simp, fun k u hk hx => (World.putObj_heap_other ?_).trans hk⟩
  rintro rfl
  rw [hl] at hk
  cases hk
  rcases hx with hx | ⟨cs, u, fr, rfl, -⟩ | ⟨hx, -⟩
  · omega
  · cases hc
  · omega
theorem KeepW.set {B : Nat} {W : World} {b : Nat} {cs : Array Value} {u : TypeId} {fr : Nat × Nat} (hm : m ≤ b) (hb : W.heap[b]? = some (.cells cs u fr)) (hN : u ∉ tN) (hB : b < B ∨ u ≠ t) (i : Nat) (v : Value) : KeepW tN t m B W (W.setCell ⟨b, i, none⟩ v) := by
  refine ⟨by simp [World.setCell], fun k o hk hx => (Below.heap_setCell _ _ _ _ ?_).trans hk⟩
  show k ≠ b
  rintro rfl
  rw [hb] at hk
  cases hk
  rcases hx with hx | ⟨cs, u', fr, he, hu⟩ | ⟨hx, hc | ⟨cs, fr, he⟩⟩
  · omega
  · cases he; exact hN hu
  · cases hc
  · cases he; rcases hB with hB | hB
    · omega
    · exact hB rfl
theorem KeepW.from {B : Nat} {W W' : World} (h : KeepW tN t m B W W') : KeepsFrom B W W' := ⟨h.size, fun k o hB hk hc => h.same k o hk (.inr (.inr ⟨hB, .inl hc⟩))⟩
theorem KeepW.same_b {B : Nat} {w0 W W' : World} (h : KeepW tN t m B W W') (hs : Below m w0 W) (hm : m ≤ w0.heap.size) : w0.heap.size ≤ W'.heap.size ∧ ∀ k, k < m → W'.heap[k]? = w0.heap[k]? :=
  ⟨Nat.le_trans hs.size h.size, fun k hk => by
    have e := hs.block k hk
    rw [← e]
    have hlt : k < W.heap.size := by have := hs.size; omega
    rw [Array.getElem?_eq_getElem hlt]
    exact h.same k _ (Array.getElem?_eq_getElem hlt) (.inl hk)⟩
/-- What stands of a round under way survives a turn behind it. -/
theorem KeepW.turn {B B' : Nat} {X Y Z : World} (h : KeepW tN t m B X Y) (ht : Turn t B' Y Z) (hX : X.heap.size ≤ B') : KeepW tN t m B X Z :=
  ⟨Nat.le_trans h.size ht.size, fun k o hk hx => ht.same k o (h.same k o hk hx) (.inl (Nat.lt_of_lt_of_le (Array.getElem?_eq_some_iff.1 hk).1 hX))⟩
end
theorem KeepsFrom.turn {t : TypeId} {B B' : Nat} {X Y Z : World} (h : KeepsFrom B X Y) (ht : Turn t B' Y Z) (hX : X.heap.size ≤ B') : KeepsFrom B X Z :=
  ⟨Nat.le_trans h.size ht.size, fun k o hB hk hc => ht.same k o (h.same k o hB hk hc) (.inl (Nat.lt_of_lt_of_le (Array.getElem?_eq_some_iff.1 hk).1 hX))⟩
theorem KeepsFrom.of_below {B : Nat} {W W' : World} (h : Below W.heap.size W W') : KeepsFrom B W W' := ⟨h.size, fun k _ _ hk _ => (h.block k (Array.getElem?_eq_some_iff.1 hk).1).trans hk⟩
theorem KeepsFrom.put {B : Nat} {W : World} {l : Nat} (o' : Obj) (hB : l < B) : KeepsFrom B W (W.putObj l o') := ⟨by simp, fun k _ hk h _ => (World.putObj_heap_other (by omega)).trans h⟩
theorem KeepsFrom.mono {B B' : Nat} {W W' : World} (h : KeepsFrom B W W') (hB : B ≤ B') : KeepsFrom B' W W' := ⟨h.size, fun k o hk => h.same k o (Nat.le_trans hB hk)⟩
theorem KeepsFrom.setCell (B : Nat) (W : World) (a : Addr) (v : Value) : KeepsFrom B W (W.setCell a v) := (KeepsOthers.setCell W a v).from B
/-- What a round owes to an iterator. -/
def Owed {α : Type} (tN : List TypeId) (t : TypeId) (m B : Nat) (J Jx : List α → World → Prop) (xs : List α) (W : World) (e : Ending) (W' : World) : Prop :=
  KeepsFrom B W W' ∧ ((e = .returned (.bool true) ∧ J xs W' ∧ KeepW tN t m B W W') ∨ (e = .returned (.bool false) ∧ Jx xs W'))
/-- An iterator that yields the values of L, one after the other, or is left before. -/
def SeqO {α : Type} (P : Program) (g : Nat) (lb : Array Value) (encs : α → Array Value) (tN : List TypeId) (t : TypeId) (m : Nat) (L : List α) (w : World) : Prop :=
  ∀ (n l : Nat) (J Jx : List α → World → Prop) (W : World), Below w.heap.size w W → Closed t W.heap.size J → Closed t W.heap.size Jx →
    (∀ k pre x W1, J pre W1 → pre ++ [x] <+: L → W.heap.size ≤ W1.heap.size → YieldAt Fence.wide k P l (encs x) W1 (Owed tN t m W.heap.size J Jx (pre ++ [x]) W1)) →
    J [] W →
    CallsIn Fence.wide n P g (#[.func (.yield l) #[] #[]] ++ lb) W fun e W' => (∃ v, e = .returned v) ∧ (J L W' ∨ ∃ pre, pre <+: L ∧ Jx pre W')
/-- How a round may end. -/
def roundEndW {α : Type} (tN : List TypeId) (t : TypeId) (m B : Nat) (I Ix : List α → World → Prop) (xs : List α) (W : World) : Exit → Act → World → Prop
  | .normal, _, W' => KeepW tN t m B W W' ∧ I xs W'
  | .ret, _, W' => KeepsFrom B W W' ∧ Ix xs W'
  | _, _, _ => False
/-- The statement over such an iterator: between two rounds I holds, and a round may return (Ix); A says how the values of a round lie. -/
theorem wpIn_range_own {n : Nat} {P : Program} {α : Type} {g : Operand} {ps : Array Tmp} {assign body : Code} {Q : Exit → Act → World → Prop} {a : Act} {w : World}
    {gf : Nat} {lb : Array Value} (hg : a.eval g = .func (.func gf) #[] lb) (eg : ∀ args w, (callFunc gf args).run P w = .ok (.enter gf args) w)
    {encs : α → Array Value} {tN : List TypeId} {t : TypeId} {m : Nat} {L : List α} {w0 : World} (hseq : SeqO P gf lb encs tN t m L w0)
    (hm : m ≤ w.heap.size) (hb0 : Below w0.heap.size w0 w) (hps : ∀ x, (encs x).size = ps.size)
    (I Ix : List α → World → Prop) (hI : Closed t w.heap.size I) (hIx : Closed t w.heap.size Ix) (h0 : I [] w)
    (A : α → Act → World → Prop) (hA : ∀ x act, OwnFrom w.heap.size (fun (_ : Unit) W => A x act W))
    (hassign : ∀ (l : Nat) (pre : List α) (x : α) (W : World) (K : Act → World → Prop), pre ++ [x] <+: L → w.heap.size + 2 ≤ W.heap.size → I pre W → (∀ act W1, A x act W1 → Below W.heap.size W W1 → K act W1) →
      assign.wpIn (Fence.wide.inRound l) (n - 1 - 1) P (Exit.then K (fun _ _ _ => False)) { tmps := (ps.zip (encs x)).foldl (fun t (p, v) => t.setIfInBounds p v) a.tmps, defers := [] } W)
    (hbody : ∀ (l : Nat) (pre : List α) (x : α) (act : Act) (W : World), pre ++ [x] <+: L → w.heap.size + 2 ≤ W.heap.size → I pre W → A x act W → body.wpIn (Fence.wide.inRound l) (n - 1 - 1) P (roundEndW tN t m w.heap.size I Ix (pre ++ [x]) W) act W)
    (hdone : ∀ (D : Nat) (W : World), w.heap.size ≤ D → I L W → W.heap[D]? = some (.deferred (some [])) → Q .normal { a with defers := { target := .collected D, args := #[] } :: a.defers } W)
    (hstop : ∀ (D : Nat) (pre : List α) (W : World), w.heap.size ≤ D → pre <+: L → Ix pre W → W.heap[D]? = some (.deferred (some [])) → Code.ret.wpIn Fence.wide n P Q { a with defers := { target := .collected D, args := #[] } :: a.defers } W) :
    (Code.rangeFunc g ps assign body).wpIn Fence.wide n P Q a w := by
  refine wpIn_rangeFunc ?_
  intro fn hfn
  rw [show Fence.wide.round = none from rfl]
  -- the loop's record, in a state, with a jump that is pending
  obtain ⟨rec, hrec⟩ : ∃ rec : LoopState → Option Code → Loop, rec = fun st pe => { state := st, pending := pe, fn, tmps := a.tmps, params := ps, assign, body, defers := w.heap.size } := ⟨_, rfl⟩
  obtain ⟨S, hS⟩ : ∃ S, S = w.heap.size := ⟨_, rfl⟩
  obtain ⟨W1, hW1⟩ : ∃ W1, W1 = (w.alloc (.deferred (some []))).alloc (.loop (rec .ready none)) := ⟨_, rfl⟩
  have hnew : W1.heap[S + 1]? = some (.loop (rec .ready none)) := by
    have := World.alloc_heap_new (w.alloc (.deferred (some []))) (.loop (rec .ready none))
    rw [World.size_alloc, ← hS, ← hW1] at this
    exact this
  have hdef : W1.heap[S]? = some (.deferred (some [])) := by
    rw [hW1, hS]
    exact (Below.heap_alloc _ _ _ (by simp)).trans (World.alloc_heap_new w _)
  have hW1s : W1.heap.size = S + 2 := by rw [hW1, hS]; simp
  have hb2 : Below w.heap.size w W1 := hW1 ▸ ((Below.refl _ w).alloc (Nat.le_refl _) _).alloc (by simp) _
  have hI1 : I [] W1 := hI _ _ _ h0 (Turn.of hb2)
  have hb1 : Below w0.heap.size w0 W1 := hb0.trans (hb2.mono hb0.size)
  rw [← hS] at hI hIx hdone hstop hA hassign hbody hm
  refine ⟨S + 1, [{ target := .collected S, args := #[] }], W1, { target := .fn (.func gf) lb, args := #[.func (.yield (S + 1)) #[] #[]] }, W1, gf,
    #[.func (.yield (S + 1)) #[] #[]] ++ lb, W1, ?_, ?_, ?_, ?_, (fun h => by simp [Fence.wide] at h), ?_⟩
  · rw [hW1, hS, hrec]; exact run_enterLoop_outer _ _ _ _ _
  · simp only [resolve, hg]
    simp [go_sem]
  · intro f' hf'; exact trivial
  · simp [invoke, go_sem, eg]
  · refine (hseq (n - 1) (S + 1)
      (fun pre W => I pre W ∧ W.heap[S + 1]? = some (.loop (rec .ready none)) ∧ W.heap[S]? = some (.deferred (some [])))
      (fun pre W => Ix pre W ∧ W.heap[S + 1]? = some (.loop (rec .done (some .ret))) ∧ W.heap[S]? = some (.deferred (some [])))
      W1 hb1
      (fun s A B h ht => ⟨hI s A B h.1 (ht.mono (by omega)), ht.same _ _ h.2.1 (.inl (by omega)), ht.same _ _ h.2.2 (.inl (by omega))⟩)
      (fun s A B h ht => ⟨hIx s A B h.1 (ht.mono (by omega)), ht.same _ _ h.2.1 (.inl (by omega)), ht.same _ _ h.2.2 (.inl (by omega))⟩)
      ?_ ⟨hI1, hnew, hdef⟩).mono ?_
    · rintro k pre x W ⟨hi, hl, hd⟩ hpre hsz
      rw [hW1s] at hsz ⊢
      have hy := run_yield (P := P) (args := encs x) hl (by rw [hrec]; exact hps x)
      rw [hrec] at hy
      refine ⟨fn, _, assign, body, hy, round_wide rfl (m := n - 1 - 1) (roundIn_of_wpIn hfn (hassign _ pre x W _ hpre hsz hi ?_))⟩
      clear hy
      intro act W5 hA5 hb5
      have hi5 := hI _ _ _ hi (Turn.of hb5)
      have hl5 : W5.heap[S + 1]? = some (.loop (rec .ready none)) := (hb5.block _ (Array.getElem?_eq_some_iff.1 hl).1).trans hl
      have hd5 : W5.heap[S]? = some (.deferred (some [])) := (hb5.block _ (Array.getElem?_eq_some_iff.1 hd).1).trans hd
      refine ⟨_, run_beginRound hl5 (by rw [hrec]), ?_⟩
      obtain ⟨W2, hW2⟩ : ∃ W2, W2 = W5.putObj (S + 1) (.loop { rec .ready none with state := .busy }) := ⟨_, rfl⟩
      have hi2 : I pre W2 := hW2 ▸ hI _ _ _ hi5 (Turn.put _ (by omega) hl5 rfl)
      have hA2 : A x act W2 := hW2 ▸ (hA x act).putObj (s := ()) (.loop { rec .ready none with state := .busy }) hA5 (by omega) hl5 rfl
      have hl2 : W2.heap[S + 1]? = some (.loop { rec .ready none with state := .busy }) := hW2 ▸ World.putObj_heap_same (Array.getElem?_eq_some_iff.1 hl5).1
      have hd2 : W2.heap[S]? = some (.deferred (some [])) := hW2 ▸ (World.putObj_heap_other (by omega)).trans hd5
      have hk2 : KeepW tN t m (S + 2) W W2 := hW2 ▸ (KeepW.of hb5).trans (KeepW.put _ (by omega) (by omega) hl5 rfl)
      have hsz2 : S + 2 ≤ W2.heap.size := Nat.le_trans hsz hk2.size
      rw [← hW2]
      clear hW2
      refine wpIn_mono (hbody _ pre x act _ hpre hsz2 hi2 hA2) ?_
      rintro e a3 W3 hp
      cases e with
      | normal =>
        obtain ⟨hkp, hi3⟩ := hp
        have hl3 := hkp.same _ _ hl2 (.inr (.inr ⟨by omega, .inl rfl⟩))
        have hd3 := hkp.same _ _ hd2 (.inr (.inr ⟨by omega, .inl rfl⟩))
        have hr := run_endRound (P := P) none hl3
        obtain ⟨W4, hW4⟩ : ∃ W4, W4 = W3.putObj (S + 1) (.loop (rec .ready none)) := ⟨_, rfl⟩
        have hi4 : I (pre ++ [x]) W4 := hW4 ▸ hI _ _ _ hi3 (Turn.put _ (by omega) hl3 rfl)
        have hl4 : W4.heap[S + 1]? = some (.loop (rec .ready none)) := hW4 ▸ World.putObj_heap_same (Array.getElem?_eq_some_iff.1 hl3).1
        have hd4 : W4.heap[S]? = some (.deferred (some [])) := hW4 ▸ (World.putObj_heap_other (by omega)).trans hd3
        have hk4 : KeepW tN t m (S + 2) W3 W4 := hW4 ▸ KeepW.put _ (by omega) (by omega) hl3 rfl
        have hr' : (Instr.endRound (S + 1) none).run P W3 = .ok (.bool true) W4 := by rw [hW4]; rw [hrec] at hr ⊢; exact hr
        have hkw := hk2.trans ((hkp.mono (by omega)).trans hk4)
        exact ⟨_, _, hr', hkw.from, .inl ⟨rfl, ⟨hi4, hl4, hd4⟩, hkw⟩⟩
      | ret =>
        obtain ⟨hkp, hi3⟩ := hp
        have hl3 := hkp.same _ _ (by omega) hl2 rfl
        have hd3 := hkp.same _ _ (by omega) hd2 rfl
        have hr := run_endRound (P := P) (some .ret) hl3
        obtain ⟨W4, hW4⟩ : ∃ W4, W4 = W3.putObj (S + 1) (.loop (rec .done (some .ret))) := ⟨_, rfl⟩
        have hi4 : Ix (pre ++ [x]) W4 := hW4 ▸ hIx _ _ _ hi3 (Turn.put _ (by omega) hl3 rfl)
        have hl4 : W4.heap[S + 1]? = some (.loop (rec .done (some .ret))) := hW4 ▸ World.putObj_heap_same (Array.getElem?_eq_some_iff.1 hl3).1
        have hd4 : W4.heap[S]? = some (.deferred (some [])) := hW4 ▸ (World.putObj_heap_other (by omega)).trans hd3
        have hr' : (Instr.endRound (S + 1) (some .ret)).run P W3 = .ok (.bool false) W4 := by rw [hW4]; rw [hrec] at hr ⊢; exact hr
        have hk4 : KeepsFrom (S + 2) W3 W4 := hW4 ▸ KeepsFrom.put _ (by omega)
        exact ⟨_, _, hr', hk2.from.trans ((KeepsFrom.mono hkp (by omega)).trans hk4), .inr ⟨rfl, hi4, hl4, hd4⟩⟩
      | exit id => exact hp.elim
      | goto t => exact hp.elim
      | panic ch => exact hp.elim
      | outgrown => exact hp.elim
    · rintro e W2 ⟨⟨v, rfl⟩, (⟨hi, hl, hd⟩ | ⟨pre, hpre, hi, hl, hd⟩)⟩
      · have hr := run_endLoop (P := P) hl (by rw [hrec]; simp)
        rw [hrec] at hr hl
        exact ⟨none, _, hr, hdone _ _ (Nat.le_refl _) (hI _ _ _ hi (Turn.put _ (by omega) hl rfl)) ((World.putObj_heap_other (by omega)).trans hd)⟩
      · have hr := run_endLoop (P := P) hl (by rw [hrec]; simp)
        rw [hrec] at hr hl
        exact ⟨some .ret, _, hr, hstop _ pre _ (Nat.le_refl _) hpre (hIx _ _ _ hi (Turn.put _ (by omega) hl rfl)) ((World.putObj_heap_other (by omega)).trans hd)⟩
/-- A function's way out through marks of its loops. -/
theorem leaves_marks {P : Program} {fn : Func} {tmps : Array Value} {n : Nat} {R : Ending → World → Prop} {t : TypeId} {B : Nat} (K : World → Prop) (hK : ∀ W W', K W → Turn t B W W' → K W')
    (hend : ∀ W, K W → LeavesInM Fence.wide n P fn tmps R [] .returning W) :
    ∀ (Ds : List Nat) (W : World), Ds.Nodup → (∀ D ∈ Ds, B ≤ D ∧ W.heap[D]? = some (.deferred (some []))) → K W →
      LeavesInM Fence.wide n P fn tmps R (Ds.map fun D => { target := .collected D, args := #[] }) .returning W := by
  intro Ds
  induction Ds with
  | nil => intro W _ _ hk; exact hend W hk
  | cons D Ds ih =>
    intro W hn hD hk
    obtain ⟨h1, h2⟩ := hD D (by simp)
    rw [List.nodup_cons] at hn
    refine ⟨by simp, .inl ⟨D, _, rfl, run_takeDeferred h2, ih _ hn.2 (fun E hE => ⟨(hD E (by simp [hE])).1, ?_⟩) (hK _ _ hk (Turn.put _ h1 h2 rfl))⟩⟩
    exact (World.putObj_heap_other (fun e => hn.1 (by rw [← e]; exact hE))).trans (hD E (by simp [hE])).2
end Go.Proofs.YtdoioaeppepndaaGreatDoor
