/- Sets of labels that the program keeps as maps to true: each is an ascending list. The keys that a range over such a map has met. -/
import Derived.Test.YtlembnpplnbagaaLatF
import Derived.Test.YtlembnpplnbagaaBlk
import Derived.Test.YtlembnpplnbagaaProg
import Derived.Maps.OwnSet
import Derived.Sort.KeysCollected
import Derived.Maps.RangeWalk
namespace Go.Proofs.Ytlembnpplnbagaa.Lt
open Go.RowKit Go.Maps

/-- The entry of a label in the set; the set as a datum. -/
def ent (x : Nat) : Lit × DataW Unit := (.int .u64 (x : Int), .lit (.bool true))
def setD (s : List Nat) : DataW Unit := .map (s.map ent)
def Asc (s : List Nat) : Prop := s.Pairwise (· < ·)
theorem Asc.tail {y : Nat} {l : List Nat} (h : Asc (y :: l)) : Asc l := (List.pairwise_cons.1 h).2
theorem Asc.head {y : Nat} {l : List Nat} (h : Asc (y :: l)) : ∀ z ∈ l, y < z := (List.pairwise_cons.1 h).1

theorem ent_other {x y : Nat} : (ent y).1.sameKey (.int .u64 (x : Int)) = decide (y = x) := by
  simp [ent, Lit.sameKey]
  omega
theorem kept_above {x : Nat} {l : List Nat} (h : ∀ z ∈ l, x < z) : (l.map ent).filter (fun p => !p.1.sameKey (.int .u64 (x : Int))) = l.map ent := by
  rw [List.filter_eq_self]
  intro p hp
  obtain ⟨z, hz, rfl⟩ := List.mem_map.1 hp
  have := h z hz
  rw [ent_other]
  simp
  omega
theorem insert_above {x : Nat} {l : List Nat} (h : ∀ z ∈ l, x < z) : DataW.insert (ent x) (l.map ent) = ent x :: l.map ent := by
  cases l with
  | nil => rfl
  | cons z l =>
    have := h z (by simp)
    simp [DataW.insert, ent, Lit.before]
    omega
theorem put_list (x : Nat) : ∀ s : List Nat, Asc s → DataW.insert (ent x) ((s.map ent).filter (fun p => !p.1.sameKey (.int .u64 (x : Int)))) = (ins s x).map ent := by
  intro s
  induction s with
  | nil => intro _; rfl
  | cons y l ih =>
    intro h
    rw [List.map_cons]
    unfold ins
    by_cases h1 : y < x
    · rw [if_pos h1, List.filter_cons_of_pos (by rw [ent_other]; simp; omega), List.map_cons, ← ih h.tail]
      rw [DataW.insert, if_neg (by simp [ent, Lit.before]; omega)]
    · rw [if_neg h1]
      by_cases h2 : y = x
      · subst h2
        rw [if_pos rfl, List.filter_cons_of_neg (by rw [ent_other]; simp), kept_above h.head, insert_above h.head, List.map_cons]
      · rw [if_neg h2, List.filter_cons_of_pos (by rw [ent_other]; simp; omega), kept_above (fun z hz => by have := h.head z hz; omega)]
        exact insert_above (x := x) (l := y :: l) (fun z hz => by
          rcases List.mem_cons.1 hz with rfl | hz
          · omega
          · have := h.head z hz; omega)
theorem put_set {s : List Nat} (h : Asc s) (x : Nat) : (setD s).put (.int .u64 (x : Int)) (.lit (.bool true)) = setD (ins s x) := by
  show DataW.map _ = DataW.map _
  rw [← put_list x s h]
  rfl
theorem has_set (s : List Nat) (x : Int) : has (setD s) (.int .u64 x) = true ↔ ∃ k ∈ s, (k : Int) = x := by
  rw [setD, has_eq, List.any_eq_true]
  constructor
  · rintro ⟨p, hp, hk⟩
    obtain ⟨k, hk', rfl⟩ := List.mem_map.1 hp
    exact ⟨k, hk', by simpa [ent, Lit.sameKey] using hk⟩
  · rintro ⟨k, hk, rfl⟩
    exact ⟨ent k, List.mem_map.2 ⟨k, hk, rfl⟩, by simp [ent, Lit.sameKey]⟩
theorem Asc.nodup {s : List Nat} (h : Asc s) : s.Nodup := h.imp (fun h => Nat.ne_of_lt h)

/-- Block b is a map whose keys are the list's labels, each to true. -/
def SetAt (w : World) (b : Nat) (s : List Nat) : Prop := w.ownsMap Try.prog 23 (plainElem Try.prog 4) b s.length (setD s)
theorem setD_tight {P : Program} {k : TypeId} {R : Value → Option (DataW Unit × List MemPlace)} {w : World} {b n : Nat} {s : List Nat} (h : w.ownsMap P k R b n (setD s)) : w.ownsMap P k R b s.length (setD s) := by
  obtain ⟨es, clock, hb, F, _, hD⟩ := h
  refine ⟨es, clock, hb, F, ?_, hD⟩
  have h1 : (s.map ent).length = ((es.toList.map (Go.WideElems.rg P k R)).foldr DataW.insert []).length := congrArg List.length (DataW.map.inj hD)
  rw [length_sorted] at h1
  simp at h1
  omega
theorem SetAt.later {w w' : World} {b n : Nat} {s : List Nat} (h : SetAt w b s) (hb : Below n w w') (hn : b < n) : SetAt w' b s := by
  obtain ⟨es, clock, h1, F, h2, h3⟩ := h
  exact ⟨es, clock, (hb.block b hn).trans h1, F, h2, h3⟩
theorem SetAt.lt {w : World} {b : Nat} {s : List Nat} (h : SetAt w b s) : b < w.heap.size := World.ownsMap.lt h
theorem set_made (w : World) : SetAt (w.alloc (.map #[] 0)) w.heap.size [] := World.ownsMap_made w _ _ _
theorem key_u64 {x : Int} (h0 : 0 ≤ x) (h1 : x < 18446744073709551616) : keyOf Try.prog 23 (.int .u64 x) = some (.int .u64 x) :=
  keyOf_int_mk Try.underlying23 (by simp [Lit.wf, IntKind.min, IntKind.max, IntKind.signed, IntKind.bits]; omega)
theorem ukeyed : Keyed Try.prog 23 := int_keyed Try.underlying23

/-- What a range over the set has met: no label twice; those that are no longer to come. -/
def Met (s : List Nat) (left : Lit → Bool) (ys : List Nat) : Prop := ys.Nodup ∧ ∀ x, x ∈ ys ↔ (x ∈ s ∧ left (.int .u64 (x : Int)) = false)
theorem Met.start (s : List Nat) : Met s (has (setD s)) [] := ⟨List.nodup_nil, fun x => by
  constructor
  · intro h; cases h
  · rintro ⟨h1, h2⟩
    rw [(has_set s x).2 ⟨x, h1, rfl⟩] at h2
    cases h2⟩
theorem Met.step {s : List Nat} {left : Lit → Bool} {ys : List Nat} (h : Met s left ys) {x : Nat} (hx : x ∈ s) (hl : left (.int .u64 (x : Int)) = true) : Met s (fun z => left z && !z.sameKey (.int .u64 (x : Int))) (ys ++ [x]) := by
  have hnew : x ∉ ys := fun hm => by rw [((h.2 x).1 hm).2] at hl; cases hl
  refine ⟨List.nodup_append.2 ⟨h.1, by simp, fun a ha b hb => by simp at hb; subst hb; exact fun e => hnew (e ▸ ha)⟩, fun y => ?_⟩
  by_cases hy : y = x
  · subst hy; simp [hx, Lit.sameKey]
  · have hy' : ¬ (y : Int) = (x : Int) := by omega
    simp [h.2 y, hy, hy', Lit.sameKey]
theorem Met.all {s : List Nat} {left : Lit → Bool} {ys : List Nat} (h : Met s left ys) (hs : Asc s) (hl : ∀ z, left z = false) : ys.Perm s :=
  (List.perm_ext_iff_of_nodup h.1 hs.nodup).2 fun x => by rw [h.2 x, hl]; simp
end Go.Proofs.Ytlembnpplnbagaa.Lt
