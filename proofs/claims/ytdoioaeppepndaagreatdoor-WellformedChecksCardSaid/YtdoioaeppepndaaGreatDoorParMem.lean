/- Memory of which some blocks are hidden: what was read lies in new blocks alone. Nothing here speaks of the program. -/
import Derived.Test.YtdoioaeppepndaaGreatDoorAstSm
import Derived.Test.YtdoioaeppepndaaGreatDoorParSpec
namespace Go.Proofs.YtdoioaeppepndaaGreatDoor.P9
open Go.RowKit
open Go.Proofs.YtdoioaeppepndaaGreatDoor.A8 Go.Proofs.YtdoioaeppepndaaGreatDoor.Tk7

/-- The world w, without the blocks of P. -/
def hide (P : Nat → Bool) (w : World) : World := { w with heap := w.heap.mapIdx fun k o => if P k = true then .cells #[] 0 else o }
theorem hide_size (P : Nat → Bool) (w : World) : (hide P w).heap.size = w.heap.size := by simp [hide]
theorem hide_heap (P : Nat → Bool) (w : World) (k : Nat) : (hide P w).heap[k]? = w.heap[k]?.map fun o => if P k = true then .cells #[] 0 else o := by simp [hide]
theorem hide_cell {P : Nat → Bool} {w : World} {a : Addr} {v : Value} (h : (hide P w).cell? a = some v) : P a.block = false ∧ a.block < w.heap.size ∧ w.cell? a = some v := by
  have h1 := hide_heap P w a.block
  cases hh : w.heap[a.block]? with
  | none =>
    rw [hh] at h1
    simp [World.cell?, h1] at h
  | some o =>
    rw [hh] at h1
    have hlt : a.block < w.heap.size := (Array.getElem?_eq_some_iff.1 hh).1
    cases hp : P a.block with
    | true =>
      rw [hp] at h1
      simp only [Option.map_some, if_pos] at h1
      simp [World.cell?, h1] at h
    | false =>
      rw [hp] at h1
      simp only [Option.map_some] at h1
      rw [if_neg (by decide)] at h1
      refine ⟨rfl, hlt, ?_⟩
      rw [← h]
      exact (World.cell?_of_block (w := w) (a := a) (h1.trans hh.symm)).symm
/-- What is in W is in W'. -/
structure Le (W W' : World) : Prop where
  size : W.heap.size ≤ W'.heap.size
  cell : ∀ a v, W.cell? a = some v → W'.cell? a = some v
theorem Le.refl (W : World) : Le W W := ⟨Nat.le_refl _, fun _ _ h => h⟩
theorem Le.trans {A B C : World} (h : Le A B) (k : Le B C) : Le A C := ⟨Nat.le_trans h.size k.size, fun a v hv => k.cell a v (h.cell a v hv)⟩
theorem hide_le {P Q : Nat → Bool} {w w' : World} (hs : w.heap.size ≤ w'.heap.size) (h : ∀ k, k < w.heap.size → P k = false → Q k = false ∧ w'.heap[k]? = w.heap[k]?) : Le (hide P w) (hide Q w') := by
  refine ⟨by rw [hide_size, hide_size]; exact hs, fun a v hv => ?_⟩
  obtain ⟨h1, h2, h3⟩ := hide_cell hv
  obtain ⟨h4, h5⟩ := h a.block h2 h1
  have h6 := hide_heap Q w' a.block
  rw [h4] at h6
  have h7 : (hide Q w').heap[a.block]? = w.heap[a.block]? := by
    rw [h6, h5]
    cases w.heap[a.block]? <;> rfl
  exact (World.cell?_of_block (w := w) (a := a) h7).trans h3
theorem hide_out {P : Nat → Bool} {w w' : World} (hs : w.heap.size ≤ w'.heap.size) (h : ∀ k, k < w.heap.size → P k = false → w'.heap[k]? = w.heap[k]?) : Le (hide P w) w' := by
  refine ⟨by rw [hide_size]; exact hs, fun a v hv => ?_⟩
  obtain ⟨h1, h2, h3⟩ := hide_cell hv
  exact (World.cell?_of_block (w := w) (a := a) (h a.block h2 h1)).trans h3
/-- What lies in w lies in a later w', whatever is hidden that is new. -/
theorem hide_in {Q : Nat → Bool} {w w' : World} (hs : w.heap.size ≤ w'.heap.size) (h : ∀ k, k < w.heap.size → Q k = false ∧ w'.heap[k]? = w.heap[k]?) : Le w (hide Q w') := by
  refine ⟨by rw [hide_size]; exact hs, fun a v hv => ?_⟩
  have hlt : a.block < w.heap.size := by
    cases hh : w.heap[a.block]? with
    | none => simp [World.cell?, hh] at hv
    | some o => exact (Array.getElem?_eq_some_iff.1 hh).1
  obtain ⟨h4, h5⟩ := h a.block hlt
  have h6 := hide_heap Q w' a.block
  rw [h4] at h6
  have h7 : (hide Q w').heap[a.block]? = w.heap[a.block]? := by
    rw [h6, h5]
    cases w.heap[a.block]? <;> rfl
  exact (World.cell?_of_block (w := w) (a := a) h7).trans hv
theorem Le.below {w w' : World} (h : Below w.heap.size w w') : Le w w' := by
  refine ⟨h.size, fun a v hv => ?_⟩
  have hlt : a.block < w.heap.size := by
    cases hh : w.heap[a.block]? with
    | none => simp [World.cell?, hh] at hv
    | some o => exact (Array.getElem?_eq_some_iff.1 hh).1
  exact (h.cell (p := a) hlt).trans hv
theorem sl_le {W W' : World} {sz n : Nat} {v : Value} {us : List Value} (h : Sl W sz n v us) (hl : Le W W') : Sl W' sz n v us := by
  obtain ⟨h1, h2, A, cap, h3, h4, h5, h6⟩ := h
  refine ⟨h1, h2, A, cap, h3, h4, h5, fun i u hu => ?_⟩
  obtain ⟨a, ha, hlt, hc⟩ := h6 i u hu
  exact ⟨a, ha, Nat.lt_of_lt_of_le hlt hl.size, hl.cell _ _ hc⟩
theorem oneA_le {W W' : World} {g : GA} (h : OneA W g) (hl : Le W W') : OneA W' g := ⟨h.1, sl_le h.2 hl⟩
theorem oneT_le {W W' : World} {t : Tr} (h : OneT W t) (hl : Le W W') : OneT W' t := by
  cases t with
  | mk k mn mx g sk ks => exact ⟨h.1, oneA_le h.2.1 hl, sl_le h.2.2 hl⟩
theorem trW_le {W W' : World} {T : Tr} (h : TrW W T) (hl : Le W W') : TrW W' T := fun t ht => oneT_le (h t ht) hl
/-- A slice that is not empty has no cell in a hidden block. -/
theorem sl_lit {W : World} {b : Nat} {us : List Value} (h : Blk W b us) (sz n : Nat) (hl : us.length = n * sz) (hm : n ≤ 1000000) {P : Nat → Bool} (hp : P b = false) : Sl (hide P W) sz n (.slice (some ⟨b, 0, none⟩) n n) us := by
  obtain ⟨h1, h2, A, cap, h3, h4, h5, h6⟩ := Sl.lit h sz n hl hm
  refine ⟨h1, h2, A, cap, h3, h4, h5, fun i u hu => ?_⟩
  obtain ⟨a, ha, hlt, hc⟩ := h6 i u hu
  cases h3
  cases ha
  refine ⟨_, rfl, by rw [hide_size]; exact hlt, ?_⟩
  have h7 := hide_heap P W b
  rw [hp] at h7
  have h8 : (hide P W).heap[b]? = W.heap[b]? := by
    rw [h7]
    cases W.heap[b]? <;> rfl
  exact (World.cell?_of_block (w := W) (a := (⟨b, 0, none⟩ : Addr).add i) (by rw [add_block]; exact h8)).trans hc
/-- A row of the call's own, seen where its block is not hidden. -/
theorem sl_row {w : World} {base sz n : Nat} {e : TypeId} {v : Value} {us : List Value} (h : w.ownsRow base e sz v n us) {P : Nat → Bool} (hp : ∀ k, base ≤ k → P k = false) : Sl (hide P w) sz n v us := by
  have hs := Sl.of_own h
  have hlt := h.lt
  obtain ⟨h1, h2, A, cap, h3, h4, h5, h6⟩ := hs
  refine ⟨h1, h2, A, cap, h3, h4, h5, fun i u hu => ?_⟩
  obtain ⟨a, ha, hl, hc⟩ := h6 i u hu
  refine ⟨a, ha, by rw [hide_size]; exact hl, ?_⟩
  have hb : base ≤ a.block := by
    rcases h.2 with ⟨hv, hn⟩ | ⟨g, cap', cur, hv, hg, _⟩
    · rw [hv] at h3
      cases h3
      cases ha
    · rw [hv] at h3
      cases h3
      cases ha
      exact hg
  have h7 := hide_heap P w a.block
  rw [hp _ hb] at h7
  have h8 : (hide P w).heap[a.block]? = w.heap[a.block]? := by
    rw [h7]
    cases w.heap[a.block]? <;> rfl
  exact (World.cell?_of_block (w := w) (a := a.add i) (by rw [add_block]; exact h8)).trans hc

/-! Worlds in which one old block may have turned. -/
theorem grown_trans {w w1 w2 : World} {b : Nat} (h : w.grownBy w1 (some b)) (k : w1.grownBy w2 (some b)) : w.grownBy w2 (some b) :=
  ⟨k.os.trans h.os, k.tape.trans h.tape, k.output.trans h.output, Nat.le_trans h.size k.size, fun i hi hne => (k.block i (Nat.lt_of_lt_of_le hi h.size) hne).trans (h.block i hi hne)⟩
theorem grown_of {w w' : World} (b : Nat) (h : Below w.heap.size w w') : w.grownBy w' (some b) := ⟨h.os, h.tape, h.output, h.size, fun k hk _ => h.block k hk⟩
theorem grown_refl (w : World) (b : Nat) : w.grownBy w (some b) := ⟨rfl, rfl, rfl, Nat.le_refl _, fun _ _ _ => rfl⟩
theorem grown_to {w W w' : World} {b : Nat} (hb : Below w.heap.size w W) (h : W.grownBy w' (some b)) : w.grownBy w' (some b) := grown_trans (grown_of b hb) h
/-- What lies above m is as it was where b is below m. -/
theorem above_le {w w' : World} {b m m' : Nat} (h : w.grownBy w' (some b)) (hb : b < m) (hm : m' ≤ m) : Le (hide (fun k => decide (k < m)) w) (hide (fun k => decide (k < m')) w') :=
  hide_le h.size fun k hk hp => ⟨by simp only [decide_eq_false_iff_not] at hp ⊢; omega, h.block k hk (fun e => by injection e with e; simp only [decide_eq_false_iff_not] at hp; omega)⟩
theorem but_le {w w' : World} {b : Nat} (h : w.grownBy w' (some b)) : Le (hide (fun k => k == b) w) (hide (fun k => k == b) w') :=
  hide_le h.size fun k hk hp => ⟨hp, h.block k hk (fun e => by injection e with e; simp at hp; omega)⟩

/-- From m on all is kept. -/
structure Tn (m : Nat) (w w' : World) : Prop where
  size : w.heap.size ≤ w'.heap.size
  block : ∀ k, m ≤ k → k < w.heap.size → w'.heap[k]? = w.heap[k]?
theorem Tn.refl (m : Nat) (w : World) : Tn m w w := ⟨Nat.le_refl _, fun _ _ _ => rfl⟩
theorem Tn.trans {m : Nat} {a b c : World} (h : Tn m a b) (k : Tn m b c) : Tn m a c := ⟨Nat.le_trans h.size k.size, fun i hi hl => (k.block i hi (Nat.lt_of_lt_of_le hl h.size)).trans (h.block i hi hl)⟩
theorem Tn.grown {m b : Nat} {w w' : World} (h : w.grownBy w' (some b)) (hb : b < m) : Tn m w w' := ⟨h.size, fun k hk hl => h.block k hl (fun e => by injection e with e; omega)⟩
theorem Tn.only {m R : Nat} {w w' : World} (h : Only R w w') (hR : R < m) : Tn m w w' := ⟨Nat.le_of_eq h.size.symm, fun k hk _ => h.block k (by omega)⟩
theorem Tn.below {m : Nat} {w w' : World} (h : Below w.heap.size w w') : Tn m w w' := ⟨h.size, fun k _ hl => h.block k hl⟩
theorem Tn.le {m m' : Nat} {w w' : World} (h : Tn m w w') (hm : m' ≤ m) : Le (hide (fun k => decide (k < m)) w) (hide (fun k => decide (k < m')) w') :=
  hide_le h.size fun k hk hp => by
    simp only [decide_eq_false_iff_not] at hp ⊢
    exact ⟨by omega, h.block k (by omega) hk⟩
theorem Tn.out {m : Nat} {w w' : World} (h : Tn m w w') : Le (hide (fun k => decide (k < m)) w) w' :=
  hide_out h.size fun k hk hp => by
    simp only [decide_eq_false_iff_not] at hp
    exact h.block k (by omega) hk
theorem grown_only {w W V : World} {b R : Nat} (h : w.grownBy W (some b)) (hR : w.heap.size ≤ R) (ho : Only R W V) : w.grownBy V (some b) :=
  ⟨ho.os.trans h.os, ho.tape.trans h.tape, ho.output.trans h.output, by rw [ho.size]; exact h.size, fun k hk hne => (ho.block k (by omega)).trans (h.block k hk hne)⟩
theorem grown_low {w W V : World} {b R : Nat} (h : w.grownBy W (some b)) (hR : w.heap.size ≤ R) (hV : Below R W V) : w.grownBy V (some b) :=
  ⟨hV.os.trans h.os, hV.tape.trans h.tape, hV.output.trans h.output, Nat.le_trans h.size hV.size, fun k hk hne => (hV.block k (by omega)).trans (h.block k hk hne)⟩
/-- Values laid into a block, from i on. -/
def fillW (W : World) (R : Nat) : Nat → List Value → World
  | _, [] => W
  | i, u :: us => fillW (W.setCell ⟨R, i, none⟩ u) R (i + 1) us
theorem fill_only (R : Nat) : ∀ (us : List Value) (i : Nat) (W : World), Only R W (fillW W R i us)
  | [], _, W => Only.refl R W
  | u :: us, i, W => ((Only.refl R W).setCell i u).trans (fill_only R us (i + 1) _)
theorem fill_blk (R : Nat) : ∀ (us : List Value) (i : Nat) (W : World) (xs : List Value), Blk W R xs → i + us.length ≤ xs.length → Blk (fillW W R i us) R (xs.take i ++ us ++ xs.drop (i + us.length))
  | [], i, W, xs, h, hl => by
    rw [List.append_nil, List.length_nil, Nat.add_zero, List.take_append_drop]
    exact h
  | u :: us, i, W, xs, h, hl => by
    have hlen : i + (us.length + 1) ≤ xs.length := hl
    have h1 := fill_blk R us (i + 1) _ (xs.set i u) (h.set i u) (by rw [List.length_set]; omega)
    have e1 : (xs.set i u).take (i + 1) = xs.take i ++ [u] := by
      rw [List.take_add_one, List.take_set_of_le (Nat.le_refl _), List.getElem?_set_self (by omega)]
      rfl
    have e2 : (xs.set i u).drop (i + 1 + us.length) = xs.drop (i + (u :: us).length) := by
      rw [List.drop_set_of_lt (by omega)]
      congr 1
      simp only [List.length_cons]
      omega
    rw [e1, e2, List.append_assoc, List.append_assoc] at h1
    rw [List.append_assoc]
    exact h1
/-- A struct is laid into its block. -/
theorem res_out {W V : World} {R : Nat} {xs us : List Value} (h : Blk W R xs) (hl : us.length = xs.length) (hV : V = fillW W R 0 us) : Blk V R us ∧ Only R W V := by
  subst hV
  have h1 := fill_blk R us 0 W xs h (by omega)
  rw [List.take_zero, List.nil_append, List.drop_eq_nil_of_le (by omega), List.append_nil] at h1
  exact ⟨h1, fill_only R us 0 W⟩

/-! Tokens in memory. -/
def tkC (t : T) : List Value := [.int .i64 (t.1 : Int), .string (strOf t.2.1), .int .i64 (t.2.2 : Int)]
theorem tkC_len (t : T) : (tkC t).length = 3 := rfl
/-- The tokens of a text, and the length of the text. -/
structure G9 where
  v : Value
  ts : List T
  e : Nat
structure Ok9 (g : G9) : Prop where
  tok : ∀ t ∈ g.ts, isTok t.1 t.2.1 = true
  at_ : ∀ t ∈ g.ts, t.2.2 < 100000
  len : ∀ t ∈ g.ts, t.2.1.length < 100000
  n : g.ts.length < 100000
  e : g.e < 100000
end Go.Proofs.YtdoioaeppepndaaGreatDoor.P9
