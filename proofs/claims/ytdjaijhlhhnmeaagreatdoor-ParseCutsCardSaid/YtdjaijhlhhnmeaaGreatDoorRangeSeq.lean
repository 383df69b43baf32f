/- A range over an iterator that yields the values of one list in their order: the statement's law; a round knows which beginning has come. Nothing here speaks of the program. -/
import Derived.RangeFuncNested
import Derived.RangeFuncFrom
import Derived.RangeFuncBox
import Derived.RangeFuncBound
import Derived.RangeFuncCalls
import Derived.RangeFuncLeaves
import Derived.Shelf.Abstract
import Derived.Shelf.RegionOpen
import Derived.WalkKit
import Derived.OwnWalkIn
import Derived.TacticsInMore
import Derived.LoopNIn
import Derived.LoopIn
import Derived.Outline
import Derived.Test.YtdjaijhlhhnmeaaGreatDoorTokTwo
namespace Go.Proofs.YtdjaijhlhhnmeaaGreatDoor
open Go.RowKit Go.Shelf
attribute [local go_sem] Oper.semAt_some

/-- An iterator that yields the values of L, one after the other, or is left before. -/
def SeqL {α : Type} (F : Fence) (n : Nat) (P : Program) (g : Nat) (lb : Array Value) (encs : α → Array Value) (Kp : World → World → Prop) (L : List α) (w : World) : Prop :=
  ∀ (l : Nat) (J Jx : List α → World → Prop) (W : World), Below w.heap.size w W → AbidesFrom W.heap.size J → AbidesFrom W.heap.size Jx →
    (∀ pre x W1, J pre W1 → pre ++ [x] <+: L → YieldAt F (n - 1) P l (encs x) W1 fun e W' =>
      (e = .returned (.bool true) ∧ J (pre ++ [x]) W' ∧ Kp W1 W') ∨ (e = .returned (.bool false) ∧ Jx (pre ++ [x]) W')) →
    J [] W →
    CallsIn F n P g (#[.func (.yield l) #[] #[]] ++ lb) W fun e W' => (∃ v, e = .returned v) ∧ (J L W' ∨ ∃ pre, pre <+: L ∧ Jx pre W')
section
variable {F : Fence} {n : Nat} {P : Program}
/-- The statement over such an iterator: between two rounds I holds, and a round may return (Ix); A says how the values of a round lie. -/
theorem wpIn_range_list {α : Type} {g : Operand} {ps : Array Tmp} {assign body : Code} {Q : Exit → Act → World → Prop} {a : Act} {w : World}
    (hro : F.round = none) (h1 : 1 ≤ n) {gf : Nat} {lb : Array Value} (hg : a.eval g = .func (.func gf) #[] lb) (hFg : F.fn gf) (eg : ∀ args w, (callFunc gf args).run P w = .ok (.enter gf args) w)
    {encs : α → Array Value} {Kp : World → World → Prop} {L : List α} {w0 : World} (hseq : SeqL F (n - 1) P gf lb encs Kp L w0)
    (hKt : ∀ {A B C : World}, Kp A B → Kp B C → Kp A C) (hKb : ∀ (W : World) (l : Nat) (o o' : Obj), w.heap.size ≤ l → W.heap[l]? = some o → o.isCells = false → Kp W (W.putObj l o')) (hKa : ∀ W W' : World, Below W.heap.size W W' → Kp W W')
    (hb0 : Below w0.heap.size w0 w) (hps : ∀ x, (encs x).size = ps.size)
    (I Ix : List α → World → Prop) (hI : OwnFrom w.heap.size I) (hIx : OwnFrom w.heap.size Ix) (h0 : I [] w)
    (A : α → Act → World → Prop) (hA : ∀ x act, OwnFrom w.heap.size (fun (_ : Unit) W => A x act W))
    (hassign : ∀ (l : Nat) (pre : List α) (x : α) (W : World) (K : Act → World → Prop), pre ++ [x] <+: L → w.heap.size ≤ W.heap.size → (∀ act W1, A x act W1 → Below W.heap.size W W1 → K act W1) →
      assign.wpIn (F.inRound l) (n - 1 - 1) P (Exit.then K (fun _ _ _ => False)) { tmps := (ps.zip (encs x)).foldl (fun t (p, v) => t.setIfInBounds p v) a.tmps, defers := [] } W)
    (hbody : ∀ (l : Nat) (pre : List α) (x : α) (act : Act) (W : World), pre ++ [x] <+: L → I pre W → A x act W → body.wpIn (F.inRound l) (n - 1 - 1) P (roundEnd Kp I Ix (pre ++ [x]) W) act W)
    (hdone : ∀ (D : Nat) (W : World), w.heap.size ≤ D → I L W → W.heap[D]? = some (.deferred (some [])) → Q .normal { a with defers := { target := .collected D, args := #[] } :: a.defers } W)
    (hstop : ∀ (D : Nat) (pre : List α) (W : World), w.heap.size ≤ D → pre <+: L → Ix pre W → W.heap[D]? = some (.deferred (some [])) → Code.ret.wpIn F n P Q { a with defers := { target := .collected D, args := #[] } :: a.defers } W) :
    (Code.rangeFunc g ps assign body).wpIn F n P Q a w := by
  refine wpIn_rangeFunc ?_
  intro fn hfn
  rw [hro]
  -- the loop's record, in a state, with a jump that is pending
  obtain ⟨rec, hrec⟩ : ∃ rec : LoopState → Option Code → Loop, rec = fun st pe => { state := st, pending := pe, fn, tmps := a.tmps, params := ps, assign, body, defers := w.heap.size } := ⟨_, rfl⟩
  obtain ⟨S, hS⟩ : ∃ S, S = w.heap.size := ⟨_, rfl⟩
  obtain ⟨W1, hW1⟩ : ∃ W1, W1 = (w.alloc (.deferred (some []))).alloc (.loop (rec .ready none)) := ⟨_, rfl⟩
  have hnew : W1.heap[S + 1]? = some (.loop (rec .ready none)) := by
    have := World.alloc_heap_new (w.alloc (.deferred (some []))) (.loop (rec .ready none))
    rw [World.size_alloc, ← hS, ← hW1] at this
    exact this
  have hdef : W1.heap[S]? = some (.deferred (some [])) := by
    rw [hW1, hS]
    exact (Below.heap_alloc _ _ _ (by simp)).trans (World.alloc_heap_new w _)
  have hW1s : S + 2 ≤ W1.heap.size := by rw [hW1, hS]; simp
  have hI1 : I [] W1 := hW1 ▸ hI.alloc _ (hI.alloc _ h0)
  have hb1 : Below w0.heap.size w0 W1 := hW1 ▸ hb0.trans ((((Below.refl _ w).alloc (Nat.le_refl _) _).alloc (by simp) _).mono hb0.size)
  rw [← hS] at hI hIx hKb hdone hstop hA hassign
  have turn : ∀ {K : List α → World → Prop} {pre : List α} {W : World} {o : Obj} (o' : Obj), OwnFrom S K → K pre W → W.heap[S + 1]? = some o → o.isCells = false → W.heap[S]? = some (.deferred (some [])) →
      K pre (W.putObj (S + 1) o') ∧ (W.putObj (S + 1) o').heap[S + 1]? = some o' ∧ (W.putObj (S + 1) o').heap[S]? = some (.deferred (some [])) ∧ Kp W (W.putObj (S + 1) o') := fun o' hK hk hl ho hd =>
    ⟨hK.putObj o' hk (by omega) hl ho, World.putObj_heap_same (Array.getElem?_eq_some_iff.1 hl).1, (World.putObj_heap_other (by omega)).trans hd, hKb _ _ _ _ (by omega) hl ho⟩
  have walks : ∀ {A B : World} {row : Option Nat}, (∀ r, row = some r → W1.heap.size ≤ r ∧ ∃ o : Obj, A.heap[r]? = some o ∧ o.isWalk = true) → (∀ r, row = some r → S ≤ r ∧ ∃ o : Obj, A.heap[r]? = some o ∧ o.isCells = false) :=
    fun hr r e => by obtain ⟨hB, o, ho, hw⟩ := hr r e; exact ⟨by omega, o, ho, Obj.not_cells_of_walk hw⟩
  have stand : ∀ {A B : World} {row : Option Nat} {k : Nat} {o : Obj}, A.grownBy B row → (∀ r, row = some r → W1.heap.size ≤ r ∧ ∃ o : Obj, A.heap[r]? = some o ∧ o.isWalk = true) → k < S + 2 → A.heap[k]? = some o → B.heap[k]? = some o :=
    fun hgr hr hk ho => (hgr.block _ (Array.getElem?_eq_some_iff.1 ho).1 (fun e => by have := (hr _ e.symm).1; omega)).trans ho
  refine ⟨S + 1, [{ target := .collected S, args := #[] }], W1, { target := .fn (.func gf) lb, args := #[.func (.yield (S + 1)) #[] #[]] }, W1, gf,
    #[.func (.yield (S + 1)) #[] #[]] ++ lb, W1, ?_, ?_, ?_, ?_, fun _ => h1, ?_⟩
  · rw [hW1, hS, hrec]; exact run_enterLoop_outer _ _ _ _ _
  · simp only [resolve, hg]
    simp [go_sem]
  · intro f' hf'; simp [Target.leads] at hf'; subst hf'; exact hFg
  · simp [invoke, go_sem, eg]
  · refine (hseq (S + 1)
      (fun pre W => I pre W ∧ W.heap[S + 1]? = some (.loop (rec .ready none)) ∧ W.heap[S]? = some (.deferred (some [])) ∧ S ≤ W.heap.size)
      (fun pre W => Ix pre W ∧ W.heap[S + 1]? = some (.loop (rec .done (some .ret))) ∧ W.heap[S]? = some (.deferred (some [])))
      W1 hb1
      (fun s A B row h hgr hr => ⟨hI s A B row h.1 hgr (walks (B := B) hr), stand hgr hr (by omega) h.2.1, stand hgr hr (by omega) h.2.2.1, Nat.le_trans h.2.2.2 hgr.size⟩)
      (fun s A B row h hgr hr => ⟨hIx s A B row h.1 hgr (walks (B := B) hr), stand hgr hr (by omega) h.2.1, stand hgr hr (by omega) h.2.2⟩)
      ?_ ⟨hI1, hnew, hdef, by omega⟩).mono ?_
    · rintro pre x W ⟨hi, hl, hd, hsz⟩ hpre
      have hy := run_yield (P := P) (args := encs x) hl (by rw [hrec]; exact hps x)
      rw [hrec] at hy
      refine ⟨fn, _, assign, body, hy, roundIn_of_wpIn hfn (hassign _ pre x W _ hpre hsz ?_)⟩
      clear hy
      intro act W5 hA5 hb5
      have hi5 := ownFrom_grow hI hi hb5
      have hl5 : W5.heap[S + 1]? = some (.loop (rec .ready none)) := (hb5.block _ (Array.getElem?_eq_some_iff.1 hl).1).trans hl
      have hd5 : W5.heap[S]? = some (.deferred (some [])) := (hb5.block _ (Array.getElem?_eq_some_iff.1 hd).1).trans hd
      refine ⟨_, run_beginRound hl5 (by rw [hrec]), ?_⟩
      obtain ⟨hi2, hl2, hd2, hk2⟩ := turn (.loop { rec .ready none with state := .busy }) hI hi5 hl5 rfl hd5
      have hA2 := (hA x act).putObj (s := ()) (.loop { rec .ready none with state := .busy }) hA5 (by omega) hl5 rfl
      refine wpIn_mono (hbody _ pre x act _ hpre hi2 hA2) ?_
      rintro e a3 W3 hp
      cases e with
      | normal =>
        obtain ⟨hk3, hkp, hi3⟩ := hp
        have hl3 := hk3.same _ _ hl2 rfl
        have hd3 := hk3.same _ _ hd2 rfl
        obtain ⟨hi4, hl4, hd4, hk4⟩ := turn (.loop (rec .ready none)) hI hi3 hl3 rfl hd3
        have hr := run_endRound (P := P) none hl3
        have hs4 : S ≤ (W3.putObj (S + 1) (.loop (rec .ready none))).heap.size := by
          have := (Array.getElem?_eq_some_iff.1 hd4).1; omega
        rw [hrec] at hr
        rw [hrec] at hi4 hl4 hd4 hk4 hk2 hkp hs4
        exact ⟨_, _, hr, .inl ⟨rfl, ⟨hi4, by rw [hrec]; exact hl4, hd4, hs4⟩, hKt (hKa _ _ hb5) (hKt (hKt hk2 hkp) hk4)⟩⟩
      | ret =>
        obtain ⟨hk3, hi3⟩ := hp
        have hl3 := hk3.same _ _ hl2 rfl
        have hd3 := hk3.same _ _ hd2 rfl
        obtain ⟨hi4, hl4, hd4, _⟩ := turn (.loop (rec .done (some .ret))) hIx hi3 hl3 rfl hd3
        have hr := run_endRound (P := P) (some .ret) hl3
        rw [hrec] at hr
        rw [hrec] at hi4 hl4 hd4
        exact ⟨_, _, hr, .inr ⟨rfl, hi4, by rw [hrec]; exact hl4, hd4⟩⟩
      | exit id => exact hp.elim
      | goto t => exact hp.elim
      | panic ch => exact hp.elim
      | outgrown => exact hp.elim
    · rintro e W2 ⟨⟨v, rfl⟩, (⟨hi, hl, hd, _⟩ | ⟨pre, hpre, hi, hl, hd⟩)⟩
      · have hr := run_endLoop (P := P) hl (by rw [hrec]; simp)
        rw [hrec] at hr hl
        exact ⟨none, _, hr, hdone _ _ (Nat.le_refl _) (hI.putObj _ hi (by omega) hl rfl) ((World.putObj_heap_other (by omega)).trans hd)⟩
      · have hr := run_endLoop (P := P) hl (by rw [hrec]; simp)
        rw [hrec] at hr hl
        exact ⟨some .ret, _, hr, hstop _ pre _ (Nat.le_refl _) hpre (hIx.putObj _ hi (by omega) hl rfl) ((World.putObj_heap_other (by omega)).trans hd)⟩
end
end Go.Proofs.YtdjaijhlhhnmeaaGreatDoor
