/- The document's own: all, stands, at, full, ranges, uses. -/
import Derived.Test.YtdoioaeppepndaaGreatDoorWfSpec
import Derived.Test.YtdoioaeppepndaaGreatDoorProg
import Derived.Test.YtdoioaeppepndaaGreatDoorAppRun
import Derived.Deep.LoopGhost
import Derived.Deep.CutBlock
import Derived.Deep.DeepCutAuto
import Derived.Deep.RegionWith
import Derived.Deep.QuietTactic
import Derived.Outline
import Derived.IntWalk
import Derived.Test.YtdoioaeppepndaaGreatDoorAstThr
namespace Go.Proofs.YtdoioaeppepndaaGreatDoor.W10
open A8

/-! Nodes that are sound -/
theorem sound_kids : ∀ {d : Nat} {n : Nd}, soundN d n = true → ∀ t ∈ subsN n, (∃ e, soundN e t = true) := by
  have key : ∀ m : Nat, ∀ n : Nd, SizeOf.sizeOf n ≤ m → ∀ d, soundN d n = true → ∀ t ∈ subsN n, ∃ e, soundN e t = true := by
    intro m
    induction m with
    | zero => intro n hn; cases n; simp at hn
    | succ m ih =>
      intro n hn d hs t ht
      obtain ⟨k, mn, mx, a, ks⟩ := n
      rw [subsN] at ht
      rcases List.mem_cons.1 ht with rfl | ht
      · exact ⟨d, hs⟩
      · rw [soundN, soundL_all] at hs
        simp only [Bool.and_eq_true, List.all_eq_true] at hs
        have hl : ∀ (l : List Nd), t ∈ subsL l → ∃ x ∈ l, t ∈ subsN x := by
          intro l
          induction l with
          | nil => intro h; cases h
          | cons x l ih2 =>
            intro h
            rw [subsL, List.mem_append] at h
            rcases h with h | h
            · exact ⟨x, List.mem_cons_self, h⟩
            · obtain ⟨y, hy, hty⟩ := ih2 h
              exact ⟨y, List.mem_cons_of_mem _ hy, hty⟩
        obtain ⟨x, hx, htx⟩ := hl ks ht
        have hsz : SizeOf.sizeOf x < SizeOf.sizeOf ks := List.sizeOf_lt_of_mem hx
        have hn2 : 1 + SizeOf.sizeOf k + SizeOf.sizeOf mn + SizeOf.sizeOf mx + SizeOf.sizeOf a + SizeOf.sizeOf ks ≤ m + 1 := by simpa using hn
        exact ih x (by omega) (d + 1) (hs.2 x hx) t htx
  intro d n h
  exact key (SizeOf.sizeOf n) n (Nat.le_refl _) d h
/-- A sound node has kids or it is a Single or a Not. -/
theorem sound_leaf {d : Nat} {n : Nd} (h : soundN d n = true) : leafB n = decide (n.kind = 1 ∨ n.kind = 2) := by
  obtain ⟨k, mn, mx, a, ks⟩ := n
  rw [soundN] at h
  simp only [Bool.and_eq_true] at h
  have h2 := h.1.2
  unfold nodeB at h2
  show ks.isEmpty = decide (k = 1 ∨ k = 2)
  by_cases h1 : k = 1
  · rw [if_pos h1] at h2
    simp only [Bool.and_eq_true, decide_eq_true_eq] at h2
    rw [List.eq_nil_of_length_eq_zero h2.2, decide_eq_true (.inl h1)]
    rfl
  · rw [if_neg h1] at h2
    by_cases h3 : k = 2
    · rw [if_pos h3] at h2
      simp only [Bool.and_eq_true, decide_eq_true_eq] at h2
      rw [List.eq_nil_of_length_eq_zero h2.2, decide_eq_true (.inr h3)]
      rfl
    · rw [if_neg h3] at h2
      split at h2
      · simp only [Bool.and_eq_true, decide_eq_true_eq] at h2
        rw [decide_eq_false (by omega)]
        cases ks with
        | nil => have := h2.2; simp at this
        | cons => rfl
      · cases h2

/-! Too much of something, numbers -/
def singB (n : Nd) : Bool := decide (n.kind = 1 ∨ n.kind = 2)
def fullR (q : Qu) : Bool := (subsN q.p).any wideB || decide (12 < ((subsN q.p).filter singB).length) || decide (4 < q.hv.length) || decide (4 < q.em.length)
theorem filter_sing {d : Nat} {p : Nd} (h : soundN d p = true) : (subsN p).filter singB = (subsN p).filter leafB := by
  apply List.filter_congr
  intro t ht
  obtain ⟨e, he⟩ := sound_kids h t ht
  exact (sound_leaf he).symm
theorem full_is {d : Nat} {q : Qu} (h : soundN d q.p = true) : fullR q = fullB q := by
  unfold fullR fullB roomL
  rw [filter_sing h]
  cases (subsN q.p).any wideB <;> cases decide (12 < ((subsN q.p).filter leafB).length) <;> cases decide (4 < q.hv.length) <;> cases decide (4 < q.em.length) <;> rfl
def rangeR (q : Qu) : Bool := (subsN q.p).all timesB && decide (q.wi ≤ 10000)
theorem range_is {d : Nat} {q : Qu} (h : soundN d q.p = true) : rangeR q = rangeB q := by
  unfold rangeR rangeB
  rw [Bool.and_comm]
  congr 1
  unfold leavesN
  rw [Bool.eq_iff_iff, List.all_eq_true, List.all_eq_true]
  constructor
  · intro ha t ht
    exact ha t (List.mem_filter.1 ht).1
  · intro ha t ht
    cases hk : t.kids.isEmpty with
    | true => exact ha t (List.mem_filter.2 ⟨ht, hk⟩)
    | false =>
      obtain ⟨e, he⟩ := sound_kids h t ht
      have h1 := sound_leaf he
      have h2 : leafB t = false := hk
      rw [h2] at h1
      have h3 := of_decide_eq_false h1.symm
      obtain ⟨k, mn, mx, a, ks⟩ := t
      have h4 : ¬ k = 1 := fun e => h3 (.inl e)
      show (!decide (k = 1) || (decide (1 ≤ mn) && decide (mn ≤ mx) && decide (mx ≤ 6))) = true
      rw [decide_eq_false h4]
      rfl

/-! Where a Not stands -/
mutual
def stR : Bool → Nd → Bool
  | top, .mk k _ _ _ ks => if k = 2 then !top else stRL k ks.length 0 ks
def stRL : Int → Nat → Nat → List Nd → Bool
  | _, _, _, [] => true
  | k, n, i, x :: xs => !(isNotB x && (!decide (k = 3) || decide (i = 0) || decide (i + 1 = n))) && stR (!decide (k = 3)) x && stRL k n (i + 1) xs
end
theorem stRL_all (k : Int) (n : Nat) : ∀ (xs : List Nd) (i : Nat), stRL k n i xs = true ↔ ∀ (j : Nat) (hj : j < xs.length), (isNotB xs[j] = true → k = 3 ∧ i + j ≠ 0 ∧ i + j + 1 ≠ n) ∧ stR (!decide (k = 3)) xs[j] = true
  | [], i => by simp [stRL]
  | x :: xs, i => by
    rw [stRL, Bool.and_eq_true, Bool.and_eq_true, stRL_all k n xs (i + 1)]
    constructor
    · rintro ⟨⟨h1, h2⟩, h3⟩ j hj
      cases j with
      | zero =>
        refine ⟨fun hn => ?_, h2⟩
        simp only [List.getElem_cons_zero] at hn
        rw [hn] at h1
        simp at h1
        refine ⟨h1.1.1, ?_, ?_⟩
        · omega
        · omega
      | succ j =>
        have := h3 j (by simpa using hj)
        simp only [List.getElem_cons_succ]
        refine ⟨fun hn => ?_, this.2⟩
        have h4 := this.1 hn
        exact ⟨h4.1, by omega, by omega⟩
    · intro h
      refine ⟨⟨?_, ?_⟩, fun j hj => ?_⟩
      · have h0 := (h 0 (by simp)).1
        cases hn : isNotB x with
        | false => rfl
        | true =>
          obtain ⟨h1, h2, h3⟩ := h0 hn
          simp [h1]
          omega
      · exact (h 0 (by simp)).2
      · have h1 := h (j + 1) (by simpa using hj)
        simp only [List.getElem_cons_succ] at h1
        refine ⟨fun hn => ?_, h1.2⟩
        obtain ⟨g1, g2, g3⟩ := h1.1 hn
        exact ⟨g1, by omega, by omega⟩
/-- The kids of a node stand right: said by what stands at the ends. -/
theorem stand_ends (k : Int) (ks : List Nd) : ((List.range ks.length).all (standL k ks) = true) ↔ ∀ (j : Nat) (hj : j < ks.length), isNotB ks[j] = true → k = 3 ∧ j ≠ 0 ∧ j + 1 ≠ ks.length := by
  rw [List.all_eq_true]
  constructor
  · intro h j hj hn
    have h1 := h j (List.mem_range.2 hj)
    unfold standL at h1
    rw [List.getElem?_eq_getElem hj] at h1
    simp only [hn, Bool.not_true, Bool.false_or, Bool.and_eq_true, decide_eq_true_eq] at h1
    refine ⟨h1.1.1, ?_, ?_⟩
    · rintro rfl
      have := h1.1.2
      simp [otherB] at this
    · intro e
      have := h1.2
      rw [List.drop_of_length_le (by omega)] at this
      simp [otherB] at this
  · intro h j hj
    rw [List.mem_range] at hj
    unfold standL
    rw [List.getElem?_eq_getElem hj]
    simp only
    cases hn : isNotB ks[j] with
    | false => rfl
    | true =>
      obtain ⟨h1, h2, h3⟩ := h j hj hn
      have h0 : isNotB (ks[0]'(by omega)) = false := by
        cases h4 : isNotB (ks[0]'(by omega)) with
        | false => rfl
        | true => exact absurd rfl (h 0 (by omega) h4).2.1
      have hl : isNotB (ks[ks.length - 1]'(by omega)) = false := by
        cases h4 : isNotB (ks[ks.length - 1]'(by omega)) with
        | false => rfl
        | true => exact absurd (by omega) (h (ks.length - 1) (by omega) h4).2.2
      have o1 : otherB (ks.take j) = true := by
        unfold otherB
        rw [List.any_eq_true]
        refine ⟨ks[0]'(by omega), ?_, by rw [h0]; rfl⟩
        rw [List.mem_take_iff_getElem]
        exact ⟨0, by omega, rfl⟩
      have o2 : otherB (ks.drop (j + 1)) = true := by
        unfold otherB
        rw [List.any_eq_true]
        refine ⟨ks[ks.length - 1]'(by omega), ?_, by rw [hl]; rfl⟩
        rw [List.mem_drop_iff_getElem]
        exact ⟨ks.length - 1 - (j + 1), by omega, by congr 1; omega⟩
      rw [h1, o1, o2]
      rfl
theorem all_subsL (f : Nd → Bool) (ks : List Nd) : (subsL ks).all f = true ↔ ∀ n ∈ ks, (subsN n).all f = true := by
  induction ks with
  | nil => simp [subsL]
  | cons n ns ih =>
    rw [subsL, List.all_append, Bool.and_eq_true, ih]
    simp
theorem not_kids {d : Nat} {n : Nd} (h : soundN d n = true) (hn : isNotB n = true) : (subsN n).all standsN = true := by
  have h1 := sound_leaf h
  have hk : n.kind = 2 := of_decide_eq_true hn
  rw [decide_eq_true (.inr hk)] at h1
  obtain ⟨k, mn, mx, a, ks⟩ := n
  have h2 : ks = [] := List.isEmpty_iff.1 h1
  subst h2
  rfl
theorem st_is : ∀ (m : Nat) (n : Nd), SizeOf.sizeOf n ≤ m → ∀ d top, soundN d n = true → stR top n = if isNotB n = true then !top else (subsN n).all standsN := by
  intro m
  induction m with
  | zero => intro n hn; cases n; simp at hn
  | succ m ih =>
    intro n hn d top hs
    obtain ⟨k, mn, mx, a, ks⟩ := n
    rw [stR]
    by_cases hk : k = 2
    · rw [if_pos hk, if_pos (show isNotB (.mk k mn mx a ks) = true from decide_eq_true hk)]
    · rw [if_neg hk, if_neg (show ¬ isNotB (.mk k mn mx a ks) = true from fun e => hk (of_decide_eq_true e))]
      rw [soundN, soundL_all] at hs
      simp only [Bool.and_eq_true, List.all_eq_true] at hs
      have hsz : 1 + SizeOf.sizeOf k + SizeOf.sizeOf mn + SizeOf.sizeOf mx + SizeOf.sizeOf a + SizeOf.sizeOf ks ≤ m + 1 := by simpa using hn
      have hk2 : ∀ x ∈ ks, ∀ t, stR t x = if isNotB x = true then !t else (subsN x).all standsN := fun x hx t => by
        have := List.sizeOf_lt_of_mem hx
        exact ih x (by omega) (d + 1) t (hs.2 x hx)
      rw [subsN, List.all_cons]
      show stRL k ks.length 0 ks = ((List.range ks.length).all (standL k ks) && (subsL ks).all standsN)
      rw [Bool.eq_iff_iff, Bool.and_eq_true, stRL_all, stand_ends, all_subsL]
      constructor
      · intro h
        refine ⟨fun j hj hnj => ?_, fun x hx => ?_⟩
        · obtain ⟨g1, g2, g3⟩ := (h j hj).1 hnj
          exact ⟨g1, by omega, by omega⟩
        · obtain ⟨j, hj, rfl⟩ := List.getElem_of_mem hx
          have h2 := (h j hj).2
          rw [hk2 _ hx] at h2
          cases hnx : isNotB ks[j] with
          | true => exact not_kids (hs.2 _ hx) hnx
          | false => rw [if_neg (by rw [hnx]; decide)] at h2; exact h2
      · rintro ⟨h1, h2⟩ j hj
        refine ⟨fun hnj => ?_, ?_⟩
        · obtain ⟨g1, g2, g3⟩ := h1 j hj hnj
          exact ⟨g1, by omega, by omega⟩
        · rw [hk2 _ (List.getElem_mem hj)]
          cases hnx : isNotB ks[j] with
          | true =>
            rw [if_pos rfl, (h1 j hj hnx).1]
            rfl
          | false => exact h2 _ (List.getElem_mem hj)
/-- Each Not of a sound pattern stands right: the document's own way to say it. -/
theorem nots_is {d : Nat} {p : Nd} (h : soundN d p = true) : stR true p = notsB p := by
  rw [st_is (SizeOf.sizeOf p) p (Nat.le_refl _) d true h]
  unfold notsB
  cases isNotB p with
  | true => rfl
  | false => simp
/-! Names -/
/-- Each name is new, or empty: said with the names ahead of it. -/
def onceF : List (List UInt8) → List (List UInt8) → Bool
  | _, [] => true
  | pre, s :: r => (s.isEmpty || !pre.contains s) && onceF (pre ++ [s]) r
theorem onceF_is : ∀ (L pre : List (List UInt8)), onceF pre L = true ↔ (onceL L = true ∧ ∀ s ∈ L, s.isEmpty = false → s ∉ pre)
  | [], pre => by simp [onceF, onceL]
  | s :: r, pre => by
    rw [onceF, onceL, Bool.and_eq_true, Bool.and_eq_true, onceF_is r (pre ++ [s])]
    constructor
    · rintro ⟨h1, h2, h3⟩
      refine ⟨⟨?_, h2⟩, fun t ht he => ?_⟩
      · cases he : s.isEmpty with
        | true => rfl
        | false =>
          have : s ∉ r := fun hm => h3 s hm he (List.mem_append_right _ List.mem_cons_self)
          simpa using this
      · rcases List.mem_cons.1 ht with rfl | ht
        · rw [he] at h1
          simpa using h1
        · exact fun hm => h3 t ht he (List.mem_append_left _ hm)
    · rintro ⟨⟨h1, h2⟩, h3⟩
      refine ⟨?_, h2, fun t ht he hm => ?_⟩
      · cases he : s.isEmpty with
        | true => rfl
        | false => simpa using h3 s List.mem_cons_self he
      · rcases List.mem_append.1 hm with hm | hm
        · exact h3 t (List.mem_cons_of_mem _ ht) he hm
        · rw [List.mem_singleton] at hm
          subst hm
          rw [he] at h1
          simp at h1
          exact h1 ht
theorem once_is (L : List (List UInt8)) : onceF [] L = onceL L := by
  rw [Bool.eq_iff_iff, onceF_is]
  simp
/-- The number of the first of these; -1 if there is none. -/
def atF (s : List UInt8) : List (List UInt8) → Nat → Int
  | [], _ => -1
  | x :: r, i => if x = s then (i : Int) else atF s r (i + 1)
theorem atF_in (s : List UInt8) : ∀ (L : List (List UInt8)) (i : Nat), if s ∈ L then atF s L i = findN s L i ∧ 0 ≤ atF s L i else atF s L i = -1
  | [], i => by simp [atF]
  | x :: L, i => by
    have ih := atF_in s L (i + 1)
    unfold atF findN
    by_cases hx : x = s
    · rw [if_pos hx, if_pos hx, if_pos (by rw [hx]; exact List.mem_cons_self)]
      exact ⟨rfl, by omega⟩
    · rw [if_neg hx, if_neg hx]
      by_cases hs : s ∈ L
      · rw [if_pos hs] at ih
        rw [if_pos (List.mem_cons_of_mem _ hs)]
        exact ih
      · rw [if_neg hs] at ih
        rw [if_neg (fun hm => (List.mem_cons.1 hm).elim (fun e => hx e.symm) hs)]
        exact ih
theorem at_neg (s : List UInt8) (L : List (List UInt8)) : (atF s L 0 < 0) ↔ ¬ s ∈ L := by
  have h := atF_in s L 0
  by_cases hs : s ∈ L
  · rw [if_pos hs] at h
    constructor
    · intro h2; omega
    · intro h2; exact absurd hs h2
  · rw [if_neg hs] at h
    constructor
    · intro _; exact hs
    · intro _; omega
theorem firsts_has : ∀ (L seen : List (List UInt8)) (s : List UInt8), s ∈ L → s ∈ seen ∨ s ∈ firsts seen L
  | x :: L, seen, s, h => by
    rw [firsts]
    rcases List.mem_cons.1 h with rfl | h
    · split
      · rename_i hc
        exact .inl (by simpa using hc)
      · exact .inr List.mem_cons_self
    · split
      · exact firsts_has L seen s h
      · rcases firsts_has L (seen ++ [x]) s h with h2 | h2
        · rcases List.mem_append.1 h2 with h2 | h2
          · exact .inl h2
          · rw [List.mem_singleton] at h2
            rw [h2]
            exact .inr List.mem_cons_self
        · exact .inr (List.mem_cons_of_mem _ h2)
theorem firsts_add (x : List UInt8) : ∀ (l seen : List (List UInt8)), firsts seen (l ++ [x]) = firsts seen l ++ (if x ∈ seen ∨ x ∈ l then [] else [x])
  | [], seen => by
    rw [List.nil_append, firsts, firsts, firsts]
    by_cases h : x ∈ seen
    · rw [if_pos (by simpa using h), if_pos (.inl h)]; rfl
    · rw [if_neg (by simpa using h), if_neg (by simpa using h)]; rfl
  | y :: l, seen => by
    rw [List.cons_append, firsts, firsts]
    by_cases h : seen.contains y = true
    · rw [if_pos h, if_pos h, firsts_add x l seen]
      congr 1
      have hy : y ∈ seen := by simpa using h
      by_cases hx : x ∈ seen ∨ x ∈ l
      · rw [if_pos hx, if_pos (hx.imp id (List.mem_cons_of_mem _))]
      · rw [if_neg hx, if_neg]
        rintro (e | e)
        · exact hx (.inl e)
        · rcases List.mem_cons.1 e with rfl | e
          · exact hx (.inl hy)
          · exact hx (.inr e)
    · rw [if_neg h, if_neg h, firsts_add x l (seen ++ [y]), List.cons_append]
      congr 2
      by_cases hx : x ∈ seen ∨ x ∈ y :: l
      · rw [if_pos hx, if_pos]
        rcases hx with e | e
        · exact .inl (List.mem_append_left _ e)
        · rcases List.mem_cons.1 e with rfl | e
          · exact .inl (List.mem_append_right _ List.mem_cons_self)
          · exact .inr e
      · rw [if_neg hx, if_neg]
        rintro (e | e)
        · rcases List.mem_append.1 e with e | e
          · exact hx (.inl e)
          · exact hx (.inr (by rw [List.mem_singleton.1 e]; exact List.mem_cons_self))
        · exact hx (.inr (List.mem_cons_of_mem _ e))
theorem firsts_sub : ∀ (L seen : List (List UInt8)), ∀ s ∈ firsts seen L, s ∈ L
  | [], _, s, h => by cases h
  | x :: L, seen, s, h => by
    rw [firsts] at h
    split at h
    · exact List.mem_cons_of_mem _ (firsts_sub L seen s h)
    · rcases List.mem_cons.1 h with rfl | h
      · exact List.mem_cons_self
      · exact List.mem_cons_of_mem _ (firsts_sub L (seen ++ [x]) s h)
/-- The names that are used stand on atoms: said of each once. -/
theorem known_is (q : Qu) : (firsts [] (useL q)).all (fun s => (namesN q.p).contains s) = knownB q := by
  unfold knownB
  rw [Bool.eq_iff_iff, List.all_eq_true, List.all_eq_true]
  constructor
  · intro h s hs
    rcases firsts_has (useL q) [] s hs with h2 | h2
    · cases h2
    · exact h s h2
  · intro h s hs
    exact h s (firsts_sub _ _ s hs)
/-- What the document's own Check says, error by error. -/
def refE (q : Qu) : Int :=
  if checkB q = false then 3
  else if fullR q = true then 6
  else if 6 < depthN q.p then 22
  else if rangeR q = false then 2
  else if stR true q.p = false then 9
  else if onceF [] (leafNames q.p) = false then 8
  else if bareB q.p = false ∨ (firsts [] (useL q)).all (fun s => (namesN q.p).contains s) = false then 12
  else 0
theorem ref_is (q : Qu) : refE q = wfE q := by
  unfold refE wfE
  cases hc : checkB q with
  | false => rfl
  | true =>
    have hs : soundN 1 q.p = true := by
      unfold checkB at hc
      simp only [Bool.and_eq_true] at hc
      exact hc.1.1.1
    rw [full_is hs, range_is hs, nots_is hs, once_is, known_is]
end Go.Proofs.YtdoioaeppepndaaGreatDoor.W10
namespace Go.Proofs.YtdoioaeppepndaaGreatDoor
open Go.RowKit
open A8 W10
attribute [local go_sem] Oper.semAt_some

theorem infoNode10 : (Tryz.prog.info? 31).map (fun i => (i.zero, i.size, i.bytes)) = some (some (.agg #[.int .i64 0, .int .i64 0, .int .i64 0, .int .i64 0, .bool false, .int .u64 0, .slice none 0 0, .string ⟨#[]⟩, .slice none 0 0]), 9, 112) := by kernel_rfl
theorem sl_form10 {W : World} {sz n : Nat} {v : Value} {us : List Value} (h : Sl W sz n v us) : ∃ A m c, v = .slice A m c := by
  obtain ⟨_, _, A, cap, rfl, _⟩ := h
  exact ⟨A, n, cap, rfl⟩
theorem row_one10 {w : World} {T : Tr} (h : TrW w T) : ∀ u ∈ (subsT T).flatMap Tr.row, u.oneCell' = true := by
  intro u hu
  obtain ⟨t, ht, h1⟩ := List.mem_flatMap.1 hu
  have h2 := h t ht
  obtain ⟨k, mn, mx, ⟨⟨kd, bd, bn, cs, nm⟩, sc⟩, sk, ks⟩ := t
  obtain ⟨-, ⟨-, h3⟩, h4⟩ := h2
  obtain ⟨_, _, A, c, hsc, _⟩ := h3
  obtain ⟨_, _, B, e, hsk, _⟩ := h4
  simp only at hsc
  subst hsc
  subst hsk
  simp only [Tr.row, List.mem_cons, List.not_mem_nil, or_false] at h1
  rcases h1 with rfl | rfl | rfl | rfl | rfl | rfl | rfl | rfl | rfl <;> rfl
theorem lenT_kid {k mn mx : Int} {g : GA} {sk : Value} {ks : List Tr} {t : Tr} (ht : t ∈ ks) : (subsT t).length ≤ (subsT (.mk k mn mx g sk ks)).length := by
  rw [subsT, subsTL_flat, List.length_cons]
  have h : ∀ l : List Tr, t ∈ l → (subsT t).length ≤ (l.flatMap subsT).length := by
    intro l
    induction l with
    | nil => intro h; cases h
    | cons x l ih =>
      intro h
      rw [List.flatMap_cons, List.length_append]
      rcases List.mem_cons.1 h with rfl | h
      · omega
      · have := ih h; omega
  have := h ks ht
  omega
theorem lenT_take (k mn mx : Int) (g : GA) (sk : Value) (ks : List Tr) (i : Nat) : 1 + ((ks.take i).flatMap subsT).length ≤ (subsT (.mk k mn mx g sk ks)).length := by
  rw [subsT, subsTL_flat, List.length_cons]
  have h : (ks.flatMap subsT).length = ((ks.take i).flatMap subsT).length + ((ks.drop i).flatMap subsT).length := by
    rw [← List.length_append, ← List.flatMap_append, List.take_append_drop]
  omega
set_option maxRecDepth 100000 in
set_option maxHeartbeats 8000000 in
theorem rall_any (T : Tr) : ∀ (w : World), TrW w T → (subsT T).length ≤ 1000000 →
    Calls Tryz.prog 113 #[.agg T.row.toArray] w fun e w' => ∃ (A : Option Addr) (c : Nat), e = .returned (.slice A (subsT T).length c) ∧ Sl w' 9 (subsT T).length (.slice A (subsT T).length c) ((subsT T).flatMap Tr.row) ∧ Below w.heap.size w w' := by
  refine Tr.ind (P := fun T => ∀ (w : World), TrW w T → (subsT T).length ≤ 1000000 →
    Calls Tryz.prog 113 #[.agg T.row.toArray] w fun e w' => ∃ (A : Option Addr) (c : Nat), e = .returned (.slice A (subsT T).length c) ∧ Sl w' 9 (subsT T).length (.slice A (subsT T).length c) ((subsT T).flatMap Tr.row) ∧ Below w.heap.size w w') (fun k mn mx g sk ks ih => ?_) T
  intro w hT hn
  have hone := hT.one
  obtain ⟨-, ⟨-, hsc⟩, hsl⟩ := hone
  obtain ⟨⟨kd, bd, bn, cs, nm⟩, sc⟩ := g
  simp only at hsc
  obtain ⟨C1, n1, c1, rfl⟩ := sl_form10 hsc
  obtain ⟨B, e, rfl, hm, hels⟩ := sl_els (by decide) row_len hsl
  obtain ⟨i0, hi0, hz0, hz1, hz2⟩ := info_parts infoNode10
  have hone0 := row_one10 hT
  have ihk := fun t (ht : t ∈ ks) w1 (hb : Below w.heap.size w w1) => ih t ht w1 ((hT.kid ht).later hb) (by have := lenT_kid (k := k) (mn := mn) (mx := mx) (g := ⟨⟨kd, bd, bn, cs, nm⟩, .slice C1 n1 c1⟩) (sk := .slice B ks.length e) ht; omega)
  have hka : ∀ t ∈ ks, ∀ u ∈ (subsT t).flatMap Tr.row, u.oneCell' = true := fun t ht => row_one10 (hT.kid ht)
  have hle : ∀ i, 1 + ((ks.take i).flatMap subsT).length ≤ 1000000 := fun i => by
    have h1 := lenT_take k mn mx ⟨⟨kd, bd, bn, cs, nm⟩, .slice C1 n1 c1⟩ (.slice B ks.length e) ks i
    omega
  have hsub : subsT (.mk k mn mx ⟨⟨kd, bd, bn, cs, nm⟩, .slice C1 n1 c1⟩ (.slice B ks.length e) ks) = .mk k mn mx ⟨⟨kd, bd, bn, cs, nm⟩, .slice C1 n1 c1⟩ (.slice B ks.length e) ks :: ks.flatMap subsT := by rw [subsT, subsTL_flat]
  rw [hsub]
  obtain ⟨T0, hT0⟩ : ∃ T0, T0 = Tr.mk k mn mx ⟨⟨kd, bd, bn, cs, nm⟩, .slice C1 n1 c1⟩ (.slice B ks.length e) ks := ⟨_, rfl⟩
  have hr0 : T0.row = [.int .i64 k, .int .i64 mn, .int .i64 mx, .int .i64 kd, .bool bd, .int .u64 bn, .slice C1 n1 c1, .string (strOf nm), .slice B ks.length e] := by rw [hT0]; rfl
  simp only [Tr.row]
  rw [← hT0]
  obtain ⟨LL, hLL⟩ : ∃ LL, LL = T0 :: ks.flatMap subsT := ⟨_, rfl⟩
  rw [← hLL]
  have HLL := Lib.hid hLL
  clear hLL
  have HE := Lib.hid hels
  have HI := Lib.hid ihk
  have HKA := Lib.hid hka
  have HLE := Lib.hid hle
  have HR0 := Lib.hid hr0
  clear ih ihk hT hn hsc hels hsl hka hle hsub hT0 hr0 hone0
  go_enter Tryz.func113, Tryz.ntmps113
  go_upto_region 2 with fail
  refine named_wp ?_
  intro W1 hW1
  have hBx : Blk W1 w.heap.size [.int .i64 k, .int .i64 mn, .int .i64 mx, .int .i64 kd, .bool bd, .int .u64 bn, .slice C1 n1 c1, .string (strOf nm), .slice B ks.length e] := by rw [hW1]; exact (Blk.new w [.int .i64 k, .int .i64 mn, .int .i64 mx, .int .i64 kd, .bool bd, .int .u64 bn, .slice C1 n1 c1, .string (strOf nm), .slice B ks.length e] 31).alloc _
  have hb1 : Below w.heap.size w W1 := by rw [hW1]; exact b2 w _ _
  have hs1 : W1.heap.size = w.heap.size + 2 := by rw [hW1]; simp
  have ho1 : W1.ownsRow (w.heap.size + 1) 31 9 (.slice (some ⟨w.heap.size + 1, 0, none⟩) 1 1) 1 ([T0].flatMap Tr.row) := by
    have := World.ownsRow_lit (base := w.heap.size + 1) (e := 31) (size := 9) (w.alloc (.cells #[.int .i64 k, .int .i64 mn, .int .i64 mx, .int .i64 kd, .bool bd, .int .u64 bn, .slice C1 n1 c1, .string (strOf nm), .slice B ks.length e] 31)) #[.int .i64 k, .int .i64 mn, .int .i64 mx, .int .i64 kd, .bool bd, .int .u64 bn, .slice C1 n1 c1, .string (strOf nm), .slice B ks.length e] 1 (by simp) (by decide) rfl
    rw [List.flatMap_cons, List.flatMap_nil, List.append_nil, HR0.out, hW1]
    simpa using this
  have HX := Lib.hid hBx
  have HB := Lib.hid hb1
  have HS := Lib.hid hs1
  have HO1 := Lib.hid ho1
  clear hW1 hBx hb1 hs1 ho1
  go_wp2
  go_loopg [3, 4] ks.length (fun gh ov iv wr => ∃ (i : Nat) (A : Option Addr) (c : Nat) (L : List Tr), i ≤ ks.length ∧ gh = ks.length - i ∧ ov = .slice A L.length c ∧ iv = .int .i64 (i : Int) ∧ Hid (wr.ownsRow (w.heap.size + 1) 31 9 (.slice A L.length c) L.length (L.flatMap Tr.row)) ∧ Hid (Below (w.heap.size + 1) W1 wr) ∧ Hid (L = T0 :: (ks.take i).flatMap subsT))
  case atStart => exact ⟨0, _, 1, [T0], Nat.zero_le _, rfl, rfl, rfl, HO1, Lib.hid (Below.refl _ _), Lib.hid rfl⟩
  case round =>
    obtain ⟨i, A, c, L, hi, hg, rfl, rfl, hO, hb, hL⟩ := hrel
    rename World => wr
    have hBw : Below w.heap.size w wr := HB.out.trans (hb.out.mono (by omega))
    have hX := HX.out.under hb.out (by omega)
    have c8 := hX.cell 8 _ rfl
    have clt := hX.lt
    have hij : (0 : Int) ≤ (i : Int) := by omega
    have hsz : w.heap.size + 1 ≤ wr.heap.size := by have := hb.out.size; have := HS.out; omega
    by_cases hlt : i < ks.length
    · have g1 : (i : Int) < (ks.length : Int) := by omega
      obtain ⟨a, rfl, ha, E⟩ := HE.out i hlt
      have hq := HI.out ks[i] (List.getElem_mem hlt) wr hBw
      have hone := HKA.out ks[i] (List.getElem_mem hlt)
      have htk : T0 :: (ks.take (i + 1)).flatMap subsT = L ++ subsT ks[i] := by rw [hL.out, List.take_succ_eq_append_getElem hlt, List.flatMap_append, List.flatMap_cons, List.flatMap_nil, List.append_nil]; rfl
      have hle := HLE.out (i + 1)
      have hle2 : (L ++ subsT ks[i]).length ≤ 1000000 := by rw [← htk, List.length_cons]; omega
      obtain ⟨t, ht⟩ : ∃ t, t = ks[i] := ⟨_, rfl⟩
      rw [← ht] at E htk hq hone hle2
      obtain ⟨ls, hls⟩ : ∃ ls, ls = subsT t := ⟨_, rfl⟩
      rw [← hls] at hq htk hone hle2
      rw [List.length_append] at hle2
      replace E := E.later hBw
      have HTK := Lib.hid htk
      have HON := Lib.hid hone
      have HLE2 := Lib.hid hle2
      have HSZ := Lib.hid hsz
      clear ht hls htk hone hle hle2 hL hBw hX hsz
      obtain ⟨k', mn', mx', ⟨⟨kd', bd', bn', cs', nm'⟩, sc'⟩, sk', ks'⟩ := t
      simp only [Tr.row] at E hq
      have e0 := E.at0 _ rfl
      have e1 := E.at1 1 _ (by decide) rfl
      have e2 := E.at1 2 _ (by decide) rfl
      have e3 := E.at1 3 _ (by decide) rfl
      have e4 := E.at1 4 _ (by decide) rfl
      have e5 := E.at1 5 _ (by decide) rfl
      have e6 := E.at1 6 _ (by decide) rfl
      have e7 := E.at1 7 _ (by decide) rfl
      have e8 := E.at1 8 _ (by decide) rfl
      have elt := E.lt
      have hwk : IntKind.i64.wrap ((i : Int) + 1) = (i : Int) + 1 := IntWalk.i64_in _ ⟨by omega, by omega⟩
      clear E HE HI HX HB
      go_wp2_with fail
      refine hq.mono ?_
      rintro r w2 ⟨A2, cp2, rfl, hs2, hb2⟩
      have hO2 := own_later hO.out hb2
      have hb12 : Below (w.heap.size + 1) W1 w2 := hb.out.trans (hb2.mono HSZ.out)
      obtain ⟨A3, c3, w4, hrun, hown, hgrow⟩ := run_append_any (P := Tryz.prog) w2 (w.heap.size + 1) 29 29 31 i0 (.agg #[.int .i64 0, .int .i64 0, .int .i64 0, .int .i64 0, .bool false, .int .u64 0, .slice none 0 0, .string ⟨#[]⟩, .slice none 0 0]) 9 112 Tryz.underlying29 hi0 hz0 hz1 hz2 rfl (by decide) _ L.length (L.flatMap Tr.row) hO2 _ ls.length (ls.flatMap Tr.row) hs2 HON.out (by have := HLE2.out; unfold maxLen; omega) (by have := HLE2.out; omega) (by have := HSZ.out; have := hb2.size; omega) (L ++ ls).length ((L ++ ls).flatMap Tr.row) (List.length_append).symm (List.flatMap_append).symm
      have HOW := Lib.hid hown
      have HBW := Lib.hid (hb12.grown hgrow (by have := HSZ.out; have := hb2.size; omega) (fun j e => (hO2.lt j e).1))
      clear hO2 hown hgrow hs2 hb2 hb12 hq clt c8 elt e0 e1 e2 e3 e4 e5 e6 e7 e8
      go_wp2_with (at_builtin; refine wpList_append_run rfl _ _ _ rfl rfl rfl hrun ?_)
      go_roundg (ks.length - (i + 1))
      case rel => exact ⟨i + 1, A3, c3, L ++ ls, by omega, rfl, by rw [List.length_append], by go_num, HOW, HBW, Lib.hid HTK.out.symm⟩
      case measure => omega
    · have g1 : ¬ (i : Int) < (ks.length : Int) := by omega
      have htk : ks.take i = ks := List.take_of_length_le (by omega)
      have hL2 : L = LL := hL.out.trans (by rw [htk, HLL.out])
      have HBW := Lib.hid hBw
      subst hL2
      clear htk hL hBw hX HX HB HLL
      go_wp2
      go_ret
      exact ⟨A, c, rfl, Sl.of_own hO.out, HBW.out⟩
set_option maxRecDepth 100000 in
set_option maxHeartbeats 16000000 in
theorem rstands_any (T : Tr) : ∀ (top : Bool) (w : World), TrW w T →
    Calls Tryz.prog 82 #[.agg T.row.toArray, .bool top] w fun e w' => e = .returned (.bool (stR top T.nd)) ∧ Below w.heap.size w w' := by
  refine Tr.ind (P := fun T => ∀ (top : Bool) (w : World), TrW w T →
    Calls Tryz.prog 82 #[.agg T.row.toArray, .bool top] w fun e w' => e = .returned (.bool (stR top T.nd)) ∧ Below w.heap.size w w') (fun k mn mx g sk ks ih => ?_) T
  intro top w hT
  have hone := hT.one
  obtain ⟨-, ⟨-, hsc⟩, hsl⟩ := hone
  obtain ⟨⟨kd, bd, bn, cs, nm⟩, sc⟩ := g
  simp only at hsc
  obtain ⟨C1, n1, c1, rfl⟩ := sl_form10 hsc
  obtain ⟨B, e, rfl, hm, hels⟩ := sl_els (by decide) row_len hsl
  have ihk := fun t (ht : t ∈ ks) (b : Bool) w1 (hb : Below w.heap.size w w1) => ih t ht b w1 ((hT.kid ht).later hb)
  have hst : stR top (Tr.mk k mn mx ⟨⟨kd, bd, bn, cs, nm⟩, .slice C1 n1 c1⟩ (.slice B ks.length e) ks).nd = if k = 2 then !top else stRL k ks.length 0 (ks.map Tr.nd) := by rw [nd_mk, stR, List.length_map]
  rw [hst]
  clear hst
  simp only [Tr.row]
  have HE := Lib.hid hels
  have HI := Lib.hid ihk
  clear ih ihk hT hsc hels hsl
  have hBx : Blk (w.alloc (.cells #[.int .i64 k, .int .i64 mn, .int .i64 mx, .int .i64 kd, .bool bd, .int .u64 bn, .slice C1 n1 c1, .string (strOf nm), .slice B ks.length e] 31)) w.heap.size [.int .i64 k, .int .i64 mn, .int .i64 mx, .int .i64 kd, .bool bd, .int .u64 bn, .slice C1 n1 c1, .string (strOf nm), .slice B ks.length e] := Blk.new w [.int .i64 k, .int .i64 mn, .int .i64 mx, .int .i64 kd, .bool bd, .int .u64 bn, .slice C1 n1 c1, .string (strOf nm), .slice B ks.length e] 31
  have HX := Lib.hid hBx
  have HB := Lib.hid (b1 w (.cells #[.int .i64 k, .int .i64 mn, .int .i64 mx, .int .i64 kd, .bool bd, .int .u64 bn, .slice C1 n1 c1, .string (strOf nm), .slice B ks.length e] 31))
  have x0 := hBx.cell 0 _ rfl
  have x8 := hBx.cell 8 _ rfl
  have xlt := hBx.lt
  clear hBx
  by_cases hk : k = 2
  · subst hk
    go_enter Tryz.func82, Tryz.ntmps82
    go_wp2
    go_ret
    exact ⟨by first | rfl | (rw [if_pos rfl]), HB.out⟩
  · have hk2 : (k == 2) = false := by simpa using hk
    rw [if_neg hk]
    obtain ⟨m, hm1⟩ : ∃ m : Int, m = (ks.length : Int) - 1 := ⟨_, rfl⟩
    have hwm : IntKind.i64.wrap ((ks.length : Int) - 1) = m := (IntWalk.i64_in _ ⟨by omega, by omega⟩).trans hm1.symm
    obtain ⟨S, hS⟩ : ∃ S, S = stRL k ks.length 0 (ks.map Tr.nd) := ⟨_, rfl⟩
    rw [← hS]
    obtain ⟨k3, hk3⟩ : ∃ k3 : Bool, k3 = !decide (k = 3) := ⟨_, rfl⟩
    have hk3n : (k != 3) = k3 := by rw [hk3]; cases h : decide (k = 3) <;> simp_all
    have hk3d : (!decide (k = 3)) = k3 := hk3.symm
    have HM := Lib.hid hm1
    have HSS := Lib.hid hS
    have HK3 := Lib.hid hk3
    clear hm1 hS hk3 hk
    go_enter Tryz.func82, Tryz.ntmps82
    go_upto_region 4 with fail
    refine named_wp ?_
    intro W1 hW1
    rw [← hW1] at HX HB
    clear hW1 x0 x8 xlt
    have HBk := Lib.hid (Below.refl W1.heap.size W1)
    go_wp2
    go_loopg [6] ks.length (fun gh iv wr => ∃ (i : Nat), i ≤ ks.length ∧ gh = ks.length - i ∧ iv = .int .i64 (i : Int) ∧ Hid (Below W1.heap.size W1 wr) ∧ Hid (S = stRL k ks.length i ((ks.drop i).map Tr.nd)))
    case atStart => exact ⟨0, Nat.zero_le _, rfl, rfl, HBk, HSS⟩
    case round =>
      obtain ⟨i, hi, hg, rfl, hb, hS⟩ := hrel
      rename World => wr
      have hX := HX.out.later hb.out
      have y0 := hX.cell 0 _ rfl
      have y8 := hX.cell 8 _ rfl
      have ylt := hX.lt
      have hij : (0 : Int) ≤ (i : Int) := by omega
      have HBw := Lib.hid (bstep HB.out hb.out)
      by_cases hlt : i < ks.length
      · have g1 : (i : Int) < (ks.length : Int) := by omega
        have hwk : IntKind.i64.wrap ((i : Int) + 1) = (i : Int) + 1 := IntWalk.i64_in _ ⟨by omega, by omega⟩
        obtain ⟨a, rfl, ha, E⟩ := HE.out i hlt
        have hq := fun (w1 : World) (hb1 : Below w.heap.size w w1) => HI.out ks[i] (List.getElem_mem hlt) k3 w1 hb1
        obtain ⟨t, ht⟩ : ∃ t, t = ks[i] := ⟨_, rfl⟩
        rw [← ht] at E hq
        have hS2 : S = (!(isNotB t.nd && (k3 || decide (i = 0) || decide (i + 1 = ks.length))) && stR k3 t.nd && stRL k ks.length (i + 1) ((ks.drop (i + 1)).map Tr.nd)) := by rw [hS.out, List.drop_eq_getElem_cons hlt, List.map_cons, stRL, ← ht, HK3.out]
        replace E := E.later HBw.out
        obtain ⟨b, hbb⟩ : ∃ b, b = stR k3 t.nd := ⟨_, rfl⟩
        rw [← hbb] at hq hS2
        have HBB := Lib.hid hbb
        clear ht hS hbb
        obtain ⟨k', mn', mx', ⟨⟨kd', bd', bn', cs', nm'⟩, sc'⟩, sk', ks'⟩ := t
        simp only [Tr.row] at E hq
        have E0 := Lib.hid E
        have e0 := E.at0 _ rfl
        have elt := E.lt
        clear E
        have hnk : isNotB (Tr.mk k' mn' mx' ⟨⟨kd', bd', bn', cs', nm'⟩, sc'⟩ sk' ks').nd = decide (k' = 2) := rfl
        rw [hnk] at hS2
        clear hnk
        obtain ⟨bad, hbad⟩ : ∃ bad, bad = (decide (k' = 2) && (k3 || decide (i = 0) || decide (i + 1 = ks.length))) := ⟨_, rfl⟩
        rw [← hbad] at hS2
        have HS2 := Lib.hid hS2
        have HBAD := Lib.hid hbad
        clear hS2 hbad
        go_upto_region 7 with fail
        go_cut [43] (fun v wx => v = .bool bad ∧ wx = wr)
        case first =>
          by_cases hk' : k' = 2
          · have hkb : (k' == 2) = true := by simpa using hk'
            cases k3 with
            | true =>
              have hbt : bad = true := by rw [HBAD.out, decide_eq_true hk']; rfl
              clear HI hq
              subst hbt
              go_wp2_with fail
              go_meet
              case rel => exact ⟨rfl, rfl⟩
            | false =>
              by_cases h0 : i = 0
              · have hib : ((i : Int) == 0) = true := by rw [h0]; rfl
                have hbt : bad = true := by rw [HBAD.out, decide_eq_true hk', decide_eq_true h0]; rfl
                clear HI hq h0
                subst hbt
                go_wp2_with fail
                go_meet
                case rel => exact ⟨rfl, rfl⟩
              · have hib : ((i : Int) == 0) = false := by rw [beq_eq_false_iff_ne]; omega
                by_cases hl : i + 1 = ks.length
                · have hil : ((i : Int) == m) = true := by rw [beq_iff_eq, HM.out]; omega
                  have hbt : bad = true := by rw [HBAD.out, decide_eq_true hk', decide_eq_true hl, decide_eq_false h0]; rfl
                  clear HI hq h0 hl
                  subst hbt
                  go_wp2_with fail
                  go_meet
                  case rel => exact ⟨rfl, rfl⟩
                · have hil : ((i : Int) == m) = false := by rw [beq_eq_false_iff_ne, HM.out]; omega
                  have hbt : bad = false := by rw [HBAD.out, decide_eq_false hl, decide_eq_false h0]; simp
                  clear HI hq h0 hl
                  subst hbt
                  go_wp2_with fail
                  go_meet
                  case rel => exact ⟨rfl, rfl⟩
          · have hkb : (k' == 2) = false := by simpa using hk'
            have hbt : bad = false := by rw [HBAD.out, decide_eq_false hk']; rfl
            clear HI hq
            subst hbt
            go_wp2_with fail
            go_meet
            case rel => exact ⟨rfl, rfl⟩
        case rest =>
        obtain ⟨rfl, rfl⟩ := hcut
        cases bad with
        | true =>
          have hSf : S = false := by rw [HS2.out]; rfl
          subst hSf
          clear HI hq
          go_wp2
          go_ret
          exact ⟨rfl, HBw.out⟩
        | false =>
          go_upto_region 9 with fail
          have e1 := E0.out.at1 1 _ (by decide) rfl
          have e2 := E0.out.at1 2 _ (by decide) rfl
          have e3 := E0.out.at1 3 _ (by decide) rfl
          have e4 := E0.out.at1 4 _ (by decide) rfl
          have e5 := E0.out.at1 5 _ (by decide) rfl
          have e6 := E0.out.at1 6 _ (by decide) rfl
          have e7 := E0.out.at1 7 _ (by decide) rfl
          have e8 := E0.out.at1 8 _ (by decide) rfl
          rename World => wr
          go_cut [53] (fun v wx => v = .bool (!b) ∧ Hid (Below wr.heap.size wr wx))
          case first =>
            go_region_with (go_at_call 82; refine (hq _ (by first | exact HBw.out | exact bstep HBw.out (Below.refl _ _).drew)).mono ?_; rintro r w2 ⟨rfl, hb2⟩; have hb3 : Below wr.heap.size wr w2 := (by first | exact hb2 | exact bstep (Below.refl _ _).drew hb2))
            all_goals (go_wp2_with fail; go_meet; (case rel => exact ⟨rfl, Lib.hid (by first | exact hb3 | exact hb3.drew)⟩))
          case rest =>
          obtain ⟨rfl, hb4⟩ := hcut
          clear hq e0 elt y0 y8 ylt e1 e2 e3 e4 e5 e6 e7 e8
          cases b with
          | false =>
            have hSf : S = false := by rw [HS2.out]; rfl
            subst hSf
            go_wp2
            go_ret
            exact ⟨rfl, bstep HBw.out hb4.out⟩
          | true =>
            have HBn := Lib.hid (bstep hb.out hb4.out)
            go_wp2
            go_roundg (ks.length - (i + 1))
            case rel => exact ⟨i + 1, by omega, rfl, by go_num, HBn, Lib.hid (by rw [HS2.out]; rfl)⟩
            case measure => omega
      · have g1 : ¬ (i : Int) < (ks.length : Int) := by omega
        have hSt : S = true := by rw [hS.out, List.drop_of_length_le (by omega)]; rfl
        subst hSt
        go_wp2
        go_ret
        exact ⟨rfl, HBw.out⟩
end Go.Proofs.YtdoioaeppepndaaGreatDoor
namespace Go.Proofs.YtdoioaeppepndaaGreatDoor
open Go.RowKit
open A8 W10
attribute [local go_sem] Oper.semAt_some

theorem strOf_inj10 {a b : List UInt8} (h : strOf a = strOf b) : a = b := by
  have := congrArg ByteArray.data h
  simpa [strOf] using this
set_option maxRecDepth 100000 in
set_option maxHeartbeats 16000000 in
theorem rat_any (v : Value) (L : List (List UInt8)) (s : List UInt8) (w : World) (hv : Slc w v ((L.map strOf).map Value.string)) :
    Calls Tryz.prog 88 #[v, .string (strOf s)] w fun e w' => e = .returned (.int .i64 (atF s L 0)) ∧ w' = w := by
  obtain ⟨A, cap, rfl, hm, hn, hc⟩ := hv
  have hll : ((L.map strOf).map Value.string).length = L.length := by rw [List.length_map, List.length_map]
  rw [hll] at hm ⊢
  have HC := Lib.hid hc
  have HLL := Lib.hid hll
  have hm2 : L.length ≤ 9223372036854775807 := by unfold maxLen at hm; omega
  clear hc hll hm hn
  obtain ⟨I, hI⟩ : ∃ I, I = atF s L 0 := ⟨_, rfl⟩
  rw [← hI]
  have HI : Hid (I = atF s (L.drop 0) 0) := Lib.hid hI
  clear hI
  obtain ⟨sb, hsb⟩ : ∃ sb, sb = strOf s := ⟨_, rfl⟩
  rw [← hsb]
  have HSB := Lib.hid hsb
  clear hsb
  go_enter Tryz.func88, Tryz.ntmps88
  go_wp2
  go_loopg [5] L.length (fun gh iv wr => ∃ (i : Nat), i ≤ L.length ∧ gh = L.length - i ∧ iv = .int .i64 (i : Int) ∧ Hid (I = atF s (L.drop i) i) ∧ wr = w)
  case atStart => exact ⟨0, Nat.zero_le _, rfl, rfl, HI, rfl⟩
  case round =>
    obtain ⟨i, hi, hg, rfl, hS, rfl⟩ := hrel
    have hij : (0 : Int) ≤ (i : Int) := by omega
    by_cases hlt : i < L.length
    · have g1 : (i : Int) < (L.length : Int) := by omega
      have hwk : IntKind.i64.wrap ((i : Int) + 1) = (i : Int) + 1 := IntWalk.i64_in _ ⟨by omega, by omega⟩
      obtain ⟨a, rfl, halt, hcell⟩ := HC.out i (by rw [HLL.out]; exact hlt)
      rw [List.getElem_map, List.getElem_map] at hcell
      have hS2 : I = if L[i] = s then (i : Int) else atF s (L.drop (i + 1)) (i + 1) := by rw [hS.out, List.drop_eq_getElem_cons hlt, atF]
      obtain ⟨x, hx⟩ : ∃ x, x = L[i] := ⟨_, rfl⟩
      rw [← hx] at hcell hS2
      obtain ⟨xb, hxb⟩ : ∃ xb, xb = strOf x := ⟨_, rfl⟩
      rw [← hxb] at hcell
      by_cases he : x = s
      · have hxs : xb = sb := by rw [hxb, HSB.out, he]
        rw [if_pos he] at hS2
        subst hxs
        subst hS2
        clear hx hxb he hS
        go_wp2
        go_ret
        exact ⟨rfl, rfl⟩
      · have hxs : xb ≠ sb := by rw [hxb, HSB.out]; exact fun h => he (strOf_inj10 h)
        have b1 : (xb.toList == sb.toList) = false := str_ne hxs
        rw [if_neg he] at hS2
        have HS2 := Lib.hid hS2
        clear hS2 hS hx hxb he
        go_wp2
        go_roundg (L.length - (i + 1))
        case rel => exact ⟨i + 1, by omega, rfl, by go_num, HS2, rfl⟩
        case measure => omega
    · have g1 : ¬ (i : Int) < (L.length : Int) := by omega
      have hS2 : I = -1 := by rw [hS.out, List.drop_of_length_le (by omega)]; rfl
      subst hS2
      clear hS
      go_wp2
      go_ret
      exact ⟨rfl, rfl⟩
set_option maxRecDepth 100000 in
set_option maxHeartbeats 16000000 in
theorem rfull_any (q : GQ) (w : World) (hq : QW w q) (hlen : (subsT q.t).length ≤ 999999) :
    Calls Tryz.prog 78 #[.agg q.row.toArray] w fun e w' => e = .returned (.bool (fullR q.qu)) ∧ Below w.heap.size w w' := by
  have hall := fun (w1 : World) (hb : Below w.heap.size w w1) => rall_any q.t w1 (hq.tr.later hb) (by omega)
  obtain ⟨T, wi, sh, hv, se, em⟩ := q
  have hsh := hq.hv
  have hse := hq.em
  have hT := hq.tr
  have hwi := hq.wi
  simp only at hall hsh hse hT hwi hlen
  obtain ⟨L, hL⟩ : ∃ L, L = subsT T := ⟨_, rfl⟩
  rw [← hL] at hall hlen
  have hdata : fullR (GQ.qu ⟨T, wi, sh, hv, se, em⟩) = ((L.any fun t => wideB t.nd) || decide (12 < (L.filter fun t => singB t.nd).length) || decide (4 < hv.length) || decide (4 < em.length)) := by unfold fullR GQ.qu; simp only; rw [← subsT_nd, ← hL, List.any_map, List.filter_map, List.length_map]; rfl
  obtain ⟨RES, hres⟩ : ∃ RES, RES = ((L.any fun t => wideB t.nd) || decide (12 < (L.filter fun t => singB t.nd).length) || decide (4 < hv.length) || decide (4 < em.length)) := ⟨_, rfl⟩
  rw [hdata, ← hres]
  have HRES := Lib.hid hres
  clear hdata hres
  have hTW : ∀ t ∈ L, OneT w t := fun t ht => hT t (hL ▸ ht)
  have hone := hT.one
  obtain ⟨k, mn, mx, ⟨⟨kd, bd, bn, cs, nm⟩, sc⟩, sk, ks⟩ := T
  obtain ⟨-, ⟨-, hsc⟩, hsl⟩ := hone
  obtain ⟨C1, n1, c1, rfl⟩ := sl_form10 hsc
  obtain ⟨B1, m1, e1, rfl⟩ := sl_form10 hsl
  obtain ⟨H, ch, rfl, -, -⟩ := sl_get (by decide) hsh
  obtain ⟨M, ce, rfl, -, -⟩ := sl_get (by decide) hse
  have HTW := Lib.hid hTW
  clear hsc hsl hsh hse hT hq hTW hL
  simp only [GQ.row, Tr.row, List.cons_append, List.nil_append] at hall ⊢
  go_enter Tryz.func78, Tryz.ntmps78
  go_upto_region 2 with fail
  refine named_wp ?_
  intro W1 hW1
  have hX : Blk W1 w.heap.size [.int .i64 k, .int .i64 mn, .int .i64 mx, .int .i64 kd, .bool bd, .int .u64 bn, .slice C1 n1 c1, .string (strOf nm), .slice B1 m1 e1, .int .u64 wi, .slice H hv.length ch, .slice M em.length ce] := by rw [hW1]; exact Blk.new w [.int .i64 k, .int .i64 mn, .int .i64 mx, .int .i64 kd, .bool bd, .int .u64 bn, .slice C1 n1 c1, .string (strOf nm), .slice B1 m1 e1, .int .u64 wi, .slice H hv.length ch, .slice M em.length ce] 35
  have hb1 : Below w.heap.size w W1 := by rw [hW1]; exact b1 _ _
  clear hW1
  have x0 := hX.cell 0 _ rfl
  have x1 := hX.cell 1 _ rfl
  have x2 := hX.cell 2 _ rfl
  have x3 := hX.cell 3 _ rfl
  have x4 := hX.cell 4 _ rfl
  have x5 := hX.cell 5 _ rfl
  have x6 := hX.cell 6 _ rfl
  have x7 := hX.cell 7 _ rfl
  have x8 := hX.cell 8 _ rfl
  have x9 := hX.cell 9 _ rfl
  have x10 := hX.cell 10 _ rfl
  have x11 := hX.cell 11 _ rfl
  have xlt := hX.lt
  go_wp2_with fail
  refine (hall W1 hb1).mono ?_
  rintro r w2 ⟨A, c, rfl, hs2, hb2⟩
  clear hall xlt x0 x1 x2 x3 x4 x5 x6 x7 x8 x9 x10 x11
  have hX2 := hX.later hb2
  have hb12 := bstep hb1 hb2
  obtain ⟨A', c', hA, -, hels⟩ := sl_els (by decide) row_len hs2
  injection hA with hA1 hA2 hA3
  subst hA1
  subst hA3
  have HE := Lib.hid hels
  have HX := Lib.hid hX2
  have HB := Lib.hid hb12
  have HLEN := Lib.hid hlen
  clear hels hX2 hX hb1 hb2 hb12 hs2 hA2
  have y10 := HX.out.cell 10 _ rfl
  have y11 := HX.out.cell 11 _ rfl
  have ylt := HX.out.lt
  go_wp2
  go_loopg [3, 5] L.length (fun gh cv iv wr => ∃ (i cn : Nat), i ≤ L.length ∧ gh = L.length - i ∧ cv = .int .i64 (cn : Int) ∧ iv = .int .i64 (i : Int) ∧ cn ≤ i ∧ Hid (cn = ((L.take i).filter fun t => singB t.nd).length) ∧ Hid ((L.take i).any (fun t => wideB t.nd) = false) ∧ wr = w2)
  case atStart => exact ⟨0, 0, Nat.zero_le _, rfl, rfl, rfl, Nat.le_refl _, Lib.hid rfl, Lib.hid rfl, rfl⟩
  case round =>
    obtain ⟨i, cn, hi, hg, rfl, rfl, hci, hcn, hwd, rfl⟩ := hrel
    rename World => w2
    have hij : (0 : Int) ≤ (i : Int) := by omega
    have hL6 : L.length ≤ 1000000 := by have := HLEN.out; omega
    by_cases hlt : i < L.length
    · have g1 : (i : Int) < (L.length : Int) := by omega
      have hwk : IntKind.i64.wrap ((i : Int) + 1) = (i : Int) + 1 := IntWalk.i64_in _ ⟨by omega, by omega⟩
      have hwc : IntKind.i64.wrap ((cn : Int) + 1) = (cn : Int) + 1 := IntWalk.i64_in _ ⟨by omega, by omega⟩
      obtain ⟨a, rfl, halt, E⟩ := HE.out i hlt
      have hone := HTW.out L[i] (List.getElem_mem hlt)
      obtain ⟨t, ht⟩ : ∃ t, t = L[i] := ⟨_, rfl⟩
      rw [← ht] at E hone
      have htk : L.take (i + 1) = L.take i ++ [t] := by rw [List.take_succ_eq_append_getElem hlt, ← ht]
      have hcn2 : ((L.take (i + 1)).filter fun t => singB t.nd).length = cn + (if singB t.nd = true then 1 else 0) := by rw [htk, List.filter_append, List.length_append, ← hcn.out, List.filter_cons]; split <;> rfl
      have hwd2 : (L.take (i + 1)).any (fun t => wideB t.nd) = wideB t.nd := by rw [htk, List.any_append, hwd.out]; simp
      have hwd3 : wideB t.nd = true → L.any (fun t => wideB t.nd) = true := fun h => List.any_eq_true.2 ⟨t, by rw [ht]; exact List.getElem_mem hlt, h⟩
      obtain ⟨k', mn', mx', ⟨⟨kd', bd', bn', cs', nm'⟩, sc'⟩, sk', ks'⟩ := t
      obtain ⟨-, ⟨-, hsc⟩, hsl⟩ := hone
      simp only at hsc
      obtain ⟨C2, cc2, rfl, -, -⟩ := sl_get (by decide) hsc
      obtain ⟨B2, cb2, rfl, -, -⟩ := sl_get (by decide) hsl
      simp only [Tr.row] at E
      have e0 := E.at0 _ rfl
      have e6 := E.at1 6 _ (by decide) rfl
      have e8 := E.at1 8 _ (by decide) rfl
      have elt := E.lt
      have hsg : singB (Tr.mk k' mn' mx' ⟨⟨kd', bd', bn', cs', nm'⟩, .slice C2 cs'.length cc2⟩ (.slice B2 ks'.length cb2) ks').nd = decide (k' = 1 ∨ k' = 2) := by rw [nd_mk]; rfl
      have hwb : wideB (Tr.mk k' mn' mx' ⟨⟨kd', bd', bn', cs', nm'⟩, .slice C2 cs'.length cc2⟩ (.slice B2 ks'.length cb2) ks').nd = (decide (8 < ks'.length) || decide (4 < cs'.length)) := by rw [nd_mk]; show (decide (8 < (ks'.map Tr.nd).length) || decide (4 < cs'.length)) = _; rw [List.length_map]
      rw [hsg] at hcn2
      rw [hwb] at hwd2 hwd3
      obtain ⟨sg, hsg2⟩ : ∃ sg, sg = decide (k' = 1 ∨ k' = 2) := ⟨_, rfl⟩
      rw [← hsg2] at hcn2
      have HSG := Lib.hid hsg2
      have HCN2 := Lib.hid hcn2
      have HWD2 := Lib.hid hwd2
      have HWD3 := Lib.hid hwd3
      clear hsg hwb hcn2 hwd2 hwd3 hsc hsl E ht htk hcn hwd hsg2
      go_upto_region 6 with fail
      go_cut [28] (fun v wx => v = .bool sg ∧ wx = w2)
      case first =>
        by_cases h1 : k' = 1
        · have hb1 : (k' == 1) = true := by simpa using h1
          have hsv : sg = true := by rw [HSG.out, decide_eq_true (.inl h1)]
          subst hsv
          go_wp2_with fail
          go_meet
          case rel => exact ⟨rfl, rfl⟩
        · have hb1 : (k' == 1) = false := by simpa using h1
          by_cases h2 : k' = 2
          · have hb2 : (k' == 2) = true := by simpa using h2
            have hsv : sg = true := by rw [HSG.out, decide_eq_true (.inr h2)]
            subst hsv
            go_wp2_with fail
            go_meet
            case rel => exact ⟨rfl, rfl⟩
          · have hb2 : (k' == 2) = false := by simpa using h2
            have hsv : sg = false := by rw [HSG.out, decide_eq_false (by simp [h1, h2])]
            subst hsv
            go_wp2_with fail
            go_meet
            case rel => exact ⟨rfl, rfl⟩
      case rest =>
      obtain ⟨rfl, hwx⟩ := hcut
      subst hwx
      rename World => w2
      clear e0 HSG
      cases sg with
      | true =>
        have HCC : Hid (cn + 1 = ((L.take (i + 1)).filter fun t => singB t.nd).length) := Lib.hid (by rw [HCN2.out]; rfl)
        by_cases h8 : 8 < ks'.length
        · have h8i : (8 : Int) < (ks'.length : Int) := by omega
          have hF := HWD3.out (by rw [decide_eq_true h8]; rfl)
          have hR : RES = true := by rw [HRES.out, hF]; simp
          subst hR
          clear HE HTW hF
          go_wp2
          go_ret
          exact ⟨rfl, HB.out⟩
        · have h8i : ¬ (8 : Int) < (ks'.length : Int) := by omega
          by_cases h4 : 4 < cs'.length
          · have h4i : (4 : Int) < (cs'.length : Int) := by omega
            have hF := HWD3.out (by rw [decide_eq_true h4, Bool.or_true])
            have hR : RES = true := by rw [HRES.out, hF]; simp
            subst hR
            clear HE HTW hF
            go_wp2
            go_ret
            exact ⟨rfl, HB.out⟩
          · have h4i : ¬ (4 : Int) < (cs'.length : Int) := by omega
            have HWN : Hid ((L.take (i + 1)).any (fun t => wideB t.nd) = false) := Lib.hid (by rw [HWD2.out, decide_eq_false h8, decide_eq_false h4]; rfl)
            clear h8 h4 HWD2 HWD3 HCN2
            go_wp2
            go_roundg (L.length - (i + 1))
            case rel => exact ⟨i + 1, _, by omega, rfl, by go_num, by go_num, by omega, HCC, HWN, rfl⟩
            case measure => omega
      | false =>
        have HCC : Hid (cn = ((L.take (i + 1)).filter fun t => singB t.nd).length) := Lib.hid (by rw [HCN2.out]; rfl)
        by_cases h8 : 8 < ks'.length
        · have h8i : (8 : Int) < (ks'.length : Int) := by omega
          have hF := HWD3.out (by rw [decide_eq_true h8]; rfl)
          have hR : RES = true := by rw [HRES.out, hF]; simp
          subst hR
          clear HE HTW hF
          go_wp2
          go_ret
          exact ⟨rfl, HB.out⟩
        · have h8i : ¬ (8 : Int) < (ks'.length : Int) := by omega
          by_cases h4 : 4 < cs'.length
          · have h4i : (4 : Int) < (cs'.length : Int) := by omega
            have hF := HWD3.out (by rw [decide_eq_true h4, Bool.or_true])
            have hR : RES = true := by rw [HRES.out, hF]; simp
            subst hR
            clear HE HTW hF
            go_wp2
            go_ret
            exact ⟨rfl, HB.out⟩
          · have h4i : ¬ (4 : Int) < (cs'.length : Int) := by omega
            have HWN : Hid ((L.take (i + 1)).any (fun t => wideB t.nd) = false) := Lib.hid (by rw [HWD2.out, decide_eq_false h8, decide_eq_false h4]; rfl)
            clear h8 h4 HWD2 HWD3 HCN2
            go_wp2
            go_roundg (L.length - (i + 1))
            case rel => exact ⟨i + 1, _, by omega, rfl, rfl, by go_num, by omega, HCC, HWN, rfl⟩
            case measure => omega
    · have g1 : ¬ (i : Int) < (L.length : Int) := by omega
      have htk : L.take i = L := List.take_of_length_le (by omega)
      have hw2 := hwd.out
      have hc2 := hcn.out
      rw [htk] at hw2 hc2
      have hres := HRES.out
      rw [hw2, ← hc2] at hres
      clear hw2 hc2 htk hwd hcn HE HTW HRES
      by_cases h12 : 12 < cn
      · have h12i : (12 : Int) < (cn : Int) := by omega
        have hR : RES = true := by rw [hres, decide_eq_true h12]; simp
        subst hR
        clear hres
        go_wp2
        go_ret
        exact ⟨rfl, HB.out⟩
      · have h12i : ¬ (12 : Int) < (cn : Int) := by omega
        rw [decide_eq_false h12] at hres
        by_cases hh4 : 4 < hv.length
        · have hh4i : (4 : Int) < (hv.length : Int) := by omega
          have hR : RES = true := by rw [hres, decide_eq_true hh4]; simp
          subst hR
          clear hres
          go_wp2
          go_ret
          exact ⟨rfl, HB.out⟩
        · have hh4i : ¬ (4 : Int) < (hv.length : Int) := by omega
          have hR : RES = decide (4 < em.length) := by rw [hres, decide_eq_false hh4]; simp
          clear hres
          have he4 : decide ((4 : Int) < (em.length : Int)) = decide (4 < em.length) := by rw [decide_eq_decide]; omega
          rw [← hR] at he4
          clear hR
          go_wp2
          go_ret
          exact ⟨by first | rfl | (show Ending.returned (.bool (decide ((4 : Int) < (em.length : Int)))) = _; rw [he4]), HB.out⟩
set_option maxRecDepth 100000 in
set_option maxHeartbeats 16000000 in
theorem rranges_any (q : GQ) (w : World) (hq : QW w q) (hlen : (subsT q.t).length ≤ 999999) :
    Calls Tryz.prog 81 #[.agg q.row.toArray] w fun e w' => e = .returned (.bool (rangeR q.qu)) ∧ Below w.heap.size w w' := by
  have hall := fun (w1 : World) (hb : Below w.heap.size w w1) => rall_any q.t w1 (hq.tr.later hb) (by omega)
  obtain ⟨T, wi, sh, hv, se, em⟩ := q
  have hsh := hq.hv
  have hse := hq.em
  have hT := hq.tr
  have hwi := hq.wi
  simp only at hall hsh hse hT hwi hlen
  obtain ⟨L, hL⟩ : ∃ L, L = subsT T := ⟨_, rfl⟩
  rw [← hL] at hall hlen
  have hdata : rangeR (GQ.qu ⟨T, wi, sh, hv, se, em⟩) = ((L.all fun t => timesB t.nd) && decide (wi ≤ 10000)) := by unfold rangeR GQ.qu; simp only; rw [← subsT_nd, ← hL, List.all_map]; rfl
  obtain ⟨RES, hres⟩ : ∃ RES, RES = ((L.all fun t => timesB t.nd) && decide (wi ≤ 10000)) := ⟨_, rfl⟩
  rw [hdata, ← hres]
  have HRES := Lib.hid hres
  clear hdata hres
  have hTW : ∀ t ∈ L, OneT w t := fun t ht => hT t (hL ▸ ht)
  have hone := hT.one
  obtain ⟨k, mn, mx, ⟨⟨kd, bd, bn, cs, nm⟩, sc⟩, sk, ks⟩ := T
  obtain ⟨-, ⟨-, hsc⟩, hsl⟩ := hone
  obtain ⟨C1, n1, c1, rfl⟩ := sl_form10 hsc
  obtain ⟨B1, m1, e1, rfl⟩ := sl_form10 hsl
  obtain ⟨H, ch, rfl, -, -⟩ := sl_get (by decide) hsh
  obtain ⟨M, ce, rfl, -, -⟩ := sl_get (by decide) hse
  have HTW := Lib.hid hTW
  clear hsc hsl hsh hse hT hq hTW hL
  simp only [GQ.row, Tr.row, List.cons_append, List.nil_append] at hall ⊢
  go_enter Tryz.func81, Tryz.ntmps81
  go_upto_region 1 with fail
  refine named_wp ?_
  intro W1 hW1
  have hX : Blk W1 w.heap.size [.int .i64 k, .int .i64 mn, .int .i64 mx, .int .i64 kd, .bool bd, .int .u64 bn, .slice C1 n1 c1, .string (strOf nm), .slice B1 m1 e1, .int .u64 wi, .slice H hv.length ch, .slice M em.length ce] := by rw [hW1]; exact Blk.new w [.int .i64 k, .int .i64 mn, .int .i64 mx, .int .i64 kd, .bool bd, .int .u64 bn, .slice C1 n1 c1, .string (strOf nm), .slice B1 m1 e1, .int .u64 wi, .slice H hv.length ch, .slice M em.length ce] 35
  have hb1 : Below w.heap.size w W1 := by rw [hW1]; exact b1 _ _
  clear hW1
  have x0 := hX.cell 0 _ rfl
  have x1 := hX.cell 1 _ rfl
  have x2 := hX.cell 2 _ rfl
  have x3 := hX.cell 3 _ rfl
  have x4 := hX.cell 4 _ rfl
  have x5 := hX.cell 5 _ rfl
  have x6 := hX.cell 6 _ rfl
  have x7 := hX.cell 7 _ rfl
  have x8 := hX.cell 8 _ rfl
  have x9 := hX.cell 9 _ rfl
  have x10 := hX.cell 10 _ rfl
  have x11 := hX.cell 11 _ rfl
  have xlt := hX.lt
  go_wp2_with fail
  refine (hall W1 hb1).mono ?_
  rintro r w2 ⟨A, c, rfl, hs2, hb2⟩
  clear hall xlt x0 x1 x2 x3 x4 x5 x6 x7 x8 x9 x10 x11
  have hX2 := hX.later hb2
  have hb12 := bstep hb1 hb2
  obtain ⟨A', c', hA, -, hels⟩ := sl_els (by decide) row_len hs2
  injection hA with hA1 hA2 hA3
  subst hA1
  subst hA3
  have HE := Lib.hid hels
  have HX := Lib.hid hX2
  have HB := Lib.hid hb12
  have HLEN := Lib.hid hlen
  clear hels hX2 hX hb1 hb2 hb12 hs2 hA2
  go_wp2
  go_loopg [4] L.length (fun gh iv wr => ∃ (i : Nat), i ≤ L.length ∧ gh = L.length - i ∧ iv = .int .i64 (i : Int) ∧ Hid ((L.take i).all (fun t => timesB t.nd) = true) ∧ Hid (Below w2.heap.size w2 wr))
  case atStart => exact ⟨0, Nat.zero_le _, rfl, rfl, Lib.hid rfl, Lib.hid (Below.refl _ _)⟩
  case round =>
    obtain ⟨i, hi, hg, rfl, hwd, hbw⟩ := hrel
    rename World => wr
    have y9 := (HX.out.later hbw.out).cell 9 _ rfl
    have ylt := (HX.out.later hbw.out).lt
    have hij : (0 : Int) ≤ (i : Int) := by omega
    have hL6 : L.length ≤ 1000000 := by have := HLEN.out; omega
    by_cases hlt : i < L.length
    · have g1 : (i : Int) < (L.length : Int) := by omega
      have hwk : IntKind.i64.wrap ((i : Int) + 1) = (i : Int) + 1 := IntWalk.i64_in _ ⟨by omega, by omega⟩
      obtain ⟨a, rfl, halt, E⟩ := HE.out i hlt
      have hone := HTW.out L[i] (List.getElem_mem hlt)
      obtain ⟨t, ht⟩ : ∃ t, t = L[i] := ⟨_, rfl⟩
      rw [← ht] at E hone
      have htk : (L.take (i + 1)).all (fun t => timesB t.nd) = timesB t.nd := by rw [List.take_succ_eq_append_getElem hlt, List.all_append, hwd.out, ← ht]; simp
      have hbad : timesB t.nd = false → (L.all fun t => timesB t.nd) = false := fun h => List.all_eq_false.2 ⟨t, by rw [ht]; exact List.getElem_mem hlt, by rw [h]; decide⟩
      obtain ⟨k', mn', mx', ⟨⟨kd', bd', bn', cs', nm'⟩, sc'⟩, sk', ks'⟩ := t
      replace E := E.later hbw.out
      simp only [Tr.row] at E
      have e0 := E.at0 _ rfl
      have e1 := E.at1 1 _ (by decide) rfl
      have e2 := E.at1 2 _ (by decide) rfl
      have elt := E.lt
      obtain ⟨b, hb⟩ : ∃ b, b = timesB (Tr.mk k' mn' mx' ⟨⟨kd', bd', bn', cs', nm'⟩, sc'⟩ sk' ks').nd := ⟨_, rfl⟩
      rw [← hb] at htk hbad
      have hb2 : b = (!decide (k' = 1) || (decide (1 ≤ mn') && decide (mn' ≤ mx') && decide (mx' ≤ 6))) := by rw [hb, nd_mk]; rfl
      have HTK := Lib.hid htk
      have HBAD := Lib.hid hbad
      have HB2 := Lib.hid hb2
      clear htk hbad hb hb2 hone E ht hwd
      go_upto_region 5 with fail
      go_cut [48] (fun v wx => v = .bool (!b) ∧ Hid (Below w2.heap.size w2 wx))
      case first =>
        by_cases h1 : k' = 1
        · have hb1 : (k' == 1) = true := by simpa using h1
          by_cases h2 : mn' < 1
          · have hl1 : decide (1 ≤ mn') = false := decide_eq_false (by omega)
            have hbv : b = false := by rw [HB2.out]; rw [decide_eq_true h1, hl1]; rfl
            subst hbv
            go_wp2
            go_quiet (fail)
            go_wp2
            go_meet
            case rel => exact ⟨by first | rfl | (show Value.bool (decide (mn' < 1) || decide (mx' < mn') || decide (6 < mx')) = _; rw [decide_eq_false (p := mn' < 1) (by omega), decide_eq_false (p := mx' < mn') (by omega), decide_eq_false (p := 6 < mx') (by omega)]; rfl), Lib.hid (below_drewN hbw.out _)⟩
          · by_cases h3 : mx' < mn'
            · have hl1 : decide (mn' ≤ mx') = false := decide_eq_false (by omega)
              have hbv : b = false := by rw [HB2.out]; rw [decide_eq_true h1, hl1]; simp
              subst hbv
              go_wp2
              go_quiet (fail)
              go_wp2
              go_meet
              case rel => exact ⟨by first | rfl | (show Value.bool (decide (mn' < 1) || decide (mx' < mn') || decide (6 < mx')) = _; rw [decide_eq_false (p := mn' < 1) (by omega), decide_eq_false (p := mx' < mn') (by omega), decide_eq_false (p := 6 < mx') (by omega)]; rfl), Lib.hid (below_drewN hbw.out _)⟩
            · by_cases h4 : 6 < mx'
              · have hl1 : decide (mx' ≤ 6) = false := decide_eq_false (by omega)
                have hbv : b = false := by rw [HB2.out]; rw [decide_eq_true h1, hl1]; simp
                subst hbv
                go_wp2
                go_quiet (fail)
                go_wp2
                go_meet
                case rel => exact ⟨by first | rfl | (show Value.bool (decide (mn' < 1) || decide (mx' < mn') || decide (6 < mx')) = _; rw [decide_eq_false (p := mn' < 1) (by omega), decide_eq_false (p := mx' < mn') (by omega), decide_eq_false (p := 6 < mx') (by omega)]; rfl), Lib.hid (below_drewN hbw.out _)⟩
              · have hl1 : decide (mx' ≤ 6) = true := decide_eq_true (by omega)
                have hl2 : decide (mn' ≤ mx') = true := decide_eq_true (by omega)
                have hl3 : decide (1 ≤ mn') = true := decide_eq_true (by omega)
                have hbv : b = true := by rw [HB2.out]; rw [hl1, hl2, hl3]; simp
                subst hbv
                go_wp2
                go_quiet (fail)
                go_wp2
                go_meet
                case rel => exact ⟨by first | rfl | (show Value.bool (decide (mn' < 1) || decide (mx' < mn') || decide (6 < mx')) = _; rw [decide_eq_false (p := mn' < 1) (by omega), decide_eq_false (p := mx' < mn') (by omega), decide_eq_false (p := 6 < mx') (by omega)]; rfl), Lib.hid (below_drewN hbw.out _)⟩
        · have hb1 : (k' == 1) = false := by simpa using h1
          have hbv : b = true := by rw [HB2.out]; rw [decide_eq_false h1]; rfl
          subst hbv
          go_wp2
          go_quiet (fail)
          go_wp2
          go_meet
          case rel => exact ⟨by first | rfl | (show Value.bool (decide (mn' < 1) || decide (mx' < mn') || decide (6 < mx')) = _; rw [decide_eq_false (p := mn' < 1) (by omega), decide_eq_false (p := mx' < mn') (by omega), decide_eq_false (p := 6 < mx') (by omega)]; rfl), Lib.hid (below_drewN hbw.out _)⟩
      case rest =>
      obtain ⟨rfl, hbx⟩ := hcut
      clear e0 e1 e2 elt
      cases b with
      | false =>
        have hR : RES = false := by rw [HRES.out, HBAD.out rfl]; rfl
        subst hR
        clear HE HTW
        go_wp2
        go_ret
        exact ⟨rfl, bstep HB.out hbx.out⟩
      | true =>
        go_wp2
        go_roundg (L.length - (i + 1))
        case rel => exact ⟨i + 1, by omega, rfl, by go_num, HTK, hbx⟩
        case measure => omega
    · have g1 : ¬ (i : Int) < (L.length : Int) := by omega
      have htk : L.take i = L := List.take_of_length_le (by omega)
      have hw2 := hwd.out
      rw [htk] at hw2
      have hR : RES = decide (wi ≤ 10000) := by rw [HRES.out, hw2]; rfl
      subst hR
      clear hw2 htk hwd HE HTW
      go_wp2
      go_ret
      exact ⟨rfl, bstep HB.out hbw.out⟩
end Go.Proofs.YtdoioaeppepndaaGreatDoor
namespace Go.Proofs.YtdoioaeppepndaaGreatDoor
open Go.RowKit
open A8 W10
attribute [local go_sem] Oper.semAt_some

theorem infoStr10c : (Tryz.prog.info? 9).map (fun i => (i.zero, i.size, i.bytes)) = some (some (.string ⟨#[]⟩), 1, 16) := by kernel_rfl
theorem firsts_len10 : ∀ (L seen : List (List UInt8)), (firsts seen L).length ≤ L.length
  | [], _ => Nat.le_refl _
  | x :: L, seen => by
    rw [firsts]
    split
    · exact Nat.le_succ_of_le (firsts_len10 L seen)
    · exact Nat.succ_le_succ (firsts_len10 L (seen ++ [x]))
set_option maxRecDepth 100000 in
set_option maxHeartbeats 16000000 in
theorem ruses_any (q : GQ) (w : World) (hq : QW w q) (hlh : q.hv.length ≤ 1000) (hle : q.em.length ≤ 1000) :
    Calls Tryz.prog 86 #[.agg q.row.toArray] w fun e w' => ∃ v, e = .returned v ∧ w'.ownsRow w.heap.size 9 1 v (firsts [] (useL q.qu)).length ((firsts [] (useL q.qu)).map fun s => .string (strOf s)) ∧ Below w.heap.size w w' := by
  obtain ⟨T, wi, sh, hv, se, em⟩ := q
  have hsh := hq.hv
  have hse := hq.em
  have hone := hq.tr.one
  simp only at hsh hse hone hlh hle
  obtain ⟨k, mn, mx, ⟨⟨kd, bd, bn, cs, nm⟩, sc⟩, sk, ks⟩ := T
  obtain ⟨-, ⟨-, hsc⟩, hsl⟩ := hone
  obtain ⟨C1, n1, c1, rfl⟩ := sl_form10 hsc
  obtain ⟨B1, m1, e1, rfl⟩ := sl_form10 hsl
  obtain ⟨H, ch, rfl, -, hels⟩ := sl_els (by decide) hvC_len hsh
  obtain ⟨M, ce, rfl, -, gels⟩ := sl_els (by decide) agC_len hse
  obtain ⟨hn, hhn⟩ : ∃ hn, hn = hv.map (fun h => h.ag.nm) := ⟨_, rfl⟩
  obtain ⟨en, hen⟩ : ∃ en, en = em.map (fun a => a.nm) := ⟨_, rfl⟩
  have hus : useL (GQ.qu ⟨.mk k mn mx ⟨⟨kd, bd, bn, cs, nm⟩, .slice C1 n1 c1⟩ (.slice B1 m1 e1) ks, wi, .slice H hv.length ch, hv, .slice M em.length ce, em⟩) = hn ++ en := by rw [hhn, hen]; rfl
  rw [hus]
  obtain ⟨U, hU⟩ : ∃ U, U = firsts [] (hn ++ en) := ⟨_, rfl⟩
  rw [← hU]
  have HU := Lib.hid hU
  have HE1 := Lib.hid hels
  have HE2 := Lib.hid gels
  have HN1 := Lib.hid hhn
  have HN2 := Lib.hid hen
  clear hus hU hels gels hhn hen hsc hsl hsh hse hq
  obtain ⟨i0, hi0, hz0, hz1, hz2⟩ := info_parts infoStr10c
  simp only [GQ.row, Tr.row, List.cons_append, List.nil_append]
  go_enter Tryz.func86, Tryz.ntmps86
  go_upto_region 2 with fail
  refine named_wp ?_
  intro W1 hW1
  have hX : Blk W1 w.heap.size [.int .i64 k, .int .i64 mn, .int .i64 mx, .int .i64 kd, .bool bd, .int .u64 bn, .slice C1 n1 c1, .string (strOf nm), .slice B1 m1 e1, .int .u64 wi, .slice H hv.length ch, .slice M em.length ce] := by rw [hW1]; exact Blk.new w [.int .i64 k, .int .i64 mn, .int .i64 mx, .int .i64 kd, .bool bd, .int .u64 bn, .slice C1 n1 c1, .string (strOf nm), .slice B1 m1 e1, .int .u64 wi, .slice H hv.length ch, .slice M em.length ce] 35
  have hb1 : Below w.heap.size w W1 := by rw [hW1]; exact b1 _ _
  clear hW1
  have HX := Lib.hid hX
  have HB := Lib.hid hb1
  clear hX hb1
  go_wp2
  go_loopg [3, 4] hv.length (fun gh ov iv wr => ∃ (i nn : Nat) (A : Option Addr) (c : Nat), i ≤ hv.length ∧ gh = hv.length - i ∧ ov = .slice A nn c ∧ iv = .int .i64 (i : Int) ∧ Hid (wr.ownsRow W1.heap.size 9 1 (.slice A nn c) nn ((firsts [] ((hn).take i)).map fun s => .string (strOf s))) ∧ Hid (Below W1.heap.size W1 wr) ∧ Hid (nn = (firsts [] ((hn).take i)).length))
  case atStart => exact ⟨0, 0, none, 0, Nat.zero_le _, rfl, rfl, rfl, Lib.hid (World.ownsRow_nil _ _ _ _), Lib.hid (Below.refl _ _), Lib.hid rfl⟩
  case round =>
    obtain ⟨i, nn, A, c, hi, hg, rfl, rfl, hO, hb, hnn⟩ := hrel
    rename World => wr
    have hij : (0 : Int) ≤ (i : Int) := by omega
    have y10 := (HX.out.later hb.out).cell 10 _ rfl
    have ylt := (HX.out.later hb.out).lt
    by_cases hlt : i < hv.length
    · have g1 : (i : Int) < (hv.length : Int) := by omega
      have hwk : IntKind.i64.wrap ((i : Int) + 1) = (i : Int) + 1 := IntWalk.i64_in _ ⟨by omega, by omega⟩
      obtain ⟨a, rfl, halt, E⟩ := HE1.out i hlt
      replace E := E.later (bstep HB.out hb.out)
      obtain ⟨s, hs⟩ : ∃ s, s = hv[i].ag.nm := ⟨_, rfl⟩
      have hE1 : wr.cell? ⟨(a.add (i * 4)).block, (a.add (i * 4)).off + 1, none⟩ = some (.string (strOf s)) := by rw [hs]; exact E.at1 1 _ (by decide) rfl
      have elt := E.lt
      have hni : (hn).take (i + 1) = (hn).take i ++ [s] := by
        have h1 : i < (hn).length := by rw [HN1.out, List.length_map]; exact hlt
        rw [List.take_succ_eq_append_getElem h1]
        congr 2
        rw [hs]
        simp [HN1.out]
      obtain ⟨P, hP⟩ : ∃ P, P = (hn).take i := ⟨_, rfl⟩
      rw [← hP] at hO hnn hni
      obtain ⟨F, hF⟩ : ∃ F, F = firsts [] P := ⟨_, rfl⟩
      rw [← hF] at hO hnn
      have hadd := firsts_add s P []
      rw [← hF] at hadd
      have hlen : nn ≤ P.length := by have := firsts_len10 P []; rw [hnn.out, hF]; exact this
      have hPl : P.length ≤ 100000 := by rw [hP]; rw [List.length_take, HN1.out, List.length_map]; omega
      have hsl : Slc wr (.slice A nn c) ((F.map strOf).map Value.string) := by
        have h1 : (F.map strOf).map Value.string = F.map fun s => .string (strOf s) := by rw [List.map_map]; rfl
        rw [h1]; exact Slc.of_own hO.out
      have hat := fun (w1 : World) (hb1 : Below wr.heap.size wr w1) => rat_any (.slice A nn c) F s w1 (hsl.below hb1)
      obtain ⟨I, hI⟩ : ∃ I, I = atF s F 0 := ⟨_, rfl⟩
      rw [← hI] at hat
      have hneg := at_neg s F
      rw [← hI] at hneg
      have hmem : s ∈ F ↔ s ∈ P := by rw [hF]; exact ⟨fun h => firsts_sub P [] s h, fun h => (firsts_has P [] s h).elim (fun e => by cases e) id⟩
      have HNI := Lib.hid hni
      have HLN := Lib.hid (And.intro hlen hPl)
      have HWK := Lib.hid (And.intro hi hlt)
      clear hni hlen hPl hP hF hsl E hs hI
      by_cases hin : s ∈ P
      · have hI0 : ¬ I < 0 := fun h => (hneg.1 h) (hmem.2 hin)
        rw [if_pos (.inr hin), List.append_nil] at hadd
        have HADD := Lib.hid hadd
        clear hneg hmem hin hadd
        go_wp2_with fail
        refine (hat _ (Below.refl _ _)).mono ?_
        rintro r _ ⟨rfl, rfl⟩
        go_wp2
        go_roundg (hv.length - (i + 1))
        case rel => exact ⟨i + 1, nn, A, c, by omega, rfl, rfl, by go_num, Lib.hid (by rw [HNI.out, HADD.out]; exact hO.out), hb, Lib.hid (by rw [HNI.out, HADD.out]; exact hnn.out)⟩
        case measure => omega
      · have hI0 : I < 0 := hneg.2 (fun h => hin (hmem.1 h))
        rw [if_neg (fun h => h.elim (fun e => (by cases e)) hin)] at hadd
        have HADD := Lib.hid hadd
        clear hneg hmem hin hadd
        go_wp2_with fail
        refine (hat _ (Below.refl _ _)).mono ?_
        rintro r _ ⟨rfl, rfl⟩
        rename World => wr
        obtain ⟨A3, c3, w4, hrun, hown, hgrow⟩ := run_append_any (P := Tryz.prog) (wr.alloc (.cells #[.string (strOf s)] 9)) W1.heap.size 69 69 9 i0 (.string ⟨#[]⟩) 1 16 Tryz.underlying69 hi0 hz0 hz1 hz2 rfl (by decide) _ nn (F.map fun s => .string (strOf s)) (own_later hO.out (b1 _ _)) _ 1 [.string (strOf s)] (Sl.lit (Blk.is (us := [.string (strOf s)]) 9 rfl) 1 1 rfl (by decide)) (fun u hu => by rw [List.mem_singleton.1 hu]; rfl) (by have := HLN.out; unfold maxLen; omega) (by have := HLN.out; omega) (bstep hb.out (b1 _ _)).size (nn + 1) ((F ++ [s]).map fun s => .string (strOf s)) rfl (by rw [List.map_append]; rfl)
        have HOW := Lib.hid hown
        have HBW := Lib.hid ((bstep hb.out (b1 _ _)).grown hgrow (bstep hb.out (b1 _ _)).size (fun j e => (hO.out.lt j e).1))
        have HNN := Lib.hid hnn.out
        clear hown hgrow hO hb hnn hat
        go_wp2_with (at_builtin; refine wpList_append_run rfl _ _ _ rfl rfl rfl hrun ?_)
        go_roundg (hv.length - (i + 1))
        case rel => exact ⟨i + 1, nn + 1, A3, c3, by omega, rfl, rfl, by go_num, Lib.hid (by rw [HNI.out, HADD.out]; exact HOW.out), HBW, Lib.hid (by rw [HNI.out, HADD.out, List.length_append, ← HNN.out]; rfl)⟩
        case measure => omega
    · have g1 : ¬ (i : Int) < (hv.length : Int) := by omega
      have htk : (hn).take i = hn := List.take_of_length_le (by rw [HN1.out, List.length_map]; omega)
      rw [htk] at hO hnn
      go_upto_region 7 with fail
      have HO1 := Lib.hid hO.out
      have HB1 := Lib.hid hb.out
      have HNN1 := Lib.hid hnn.out
      clear hO hb hnn htk hi hg hlt y10 ylt hij
      obtain ⟨nn1, hnn1⟩ : ∃ n, n = nn := ⟨_, rfl⟩
      obtain ⟨A1, hA1⟩ : ∃ x, x = A := ⟨_, rfl⟩
      obtain ⟨c9, hc9⟩ : ∃ x, x = c := ⟨_, rfl⟩
      rw [← hnn1, ← hA1, ← hc9] at HO1 ⊢
      rw [← hnn1] at HNN1
      clear hnn1 hA1 hc9
      go_wp2
      go_loopg [3, 5] em.length (fun gh ov iv wr => ∃ (i nn : Nat) (A : Option Addr) (c : Nat), i ≤ em.length ∧ gh = em.length - i ∧ ov = .slice A nn c ∧ iv = .int .i64 (i : Int) ∧ Hid (wr.ownsRow W1.heap.size 9 1 (.slice A nn c) nn ((firsts [] (hn ++ (en).take i)).map fun s => .string (strOf s))) ∧ Hid (Below W1.heap.size W1 wr) ∧ Hid (nn = (firsts [] (hn ++ (en).take i)).length))
      case atStart => exact ⟨0, nn1, A1, c9, Nat.zero_le _, rfl, rfl, rfl, Lib.hid (by rw [List.take_zero, List.append_nil]; exact HO1.out), HB1, Lib.hid (by rw [List.take_zero, List.append_nil]; exact HNN1.out)⟩
      case round =>
        obtain ⟨i, nn, A, c, hi, hg, rfl, rfl, hO, hb, hnn⟩ := hrel
        rename World => wr
        have hij : (0 : Int) ≤ (i : Int) := by omega
        have y11 := (HX.out.later hb.out).cell 11 _ rfl
        have ylt := (HX.out.later hb.out).lt
        by_cases hlt : i < em.length
        · have g1 : (i : Int) < (em.length : Int) := by omega
          have hwk : IntKind.i64.wrap ((i : Int) + 1) = (i : Int) + 1 := IntWalk.i64_in _ ⟨by omega, by omega⟩
          obtain ⟨a, rfl, halt, E⟩ := HE2.out i hlt
          replace E := E.later (bstep HB.out hb.out)
          obtain ⟨s, hs⟩ : ∃ s, s = em[i].nm := ⟨_, rfl⟩
          have hE1 : wr.cell? ⟨(a.add (i * 2)).block, (a.add (i * 2)).off + 1, none⟩ = some (.string (strOf s)) := by rw [hs]; exact E.at1 1 _ (by decide) rfl
          have elt := E.lt
          have hni : hn ++ (en).take (i + 1) = hn ++ (en).take i ++ [s] := by
            have h1 : i < (en).length := by rw [HN2.out, List.length_map]; exact hlt
            rw [List.take_succ_eq_append_getElem h1, List.append_assoc]
            congr 3
            rw [hs]
            simp [HN2.out]
          obtain ⟨P, hP⟩ : ∃ P, P = hn ++ (en).take i := ⟨_, rfl⟩
          rw [← hP] at hO hnn hni
          obtain ⟨F, hF⟩ : ∃ F, F = firsts [] P := ⟨_, rfl⟩
          rw [← hF] at hO hnn
          have hadd := firsts_add s P []
          rw [← hF] at hadd
          have hlen : nn ≤ P.length := by have := firsts_len10 P []; rw [hnn.out, hF]; exact this
          have hPl : P.length ≤ 100000 := by rw [hP]; rw [List.length_append, List.length_take, HN1.out, HN2.out, List.length_map, List.length_map]; omega
          have hsl : Slc wr (.slice A nn c) ((F.map strOf).map Value.string) := by
            have h1 : (F.map strOf).map Value.string = F.map fun s => .string (strOf s) := by rw [List.map_map]; rfl
            rw [h1]; exact Slc.of_own hO.out
          have hat := fun (w1 : World) (hb1 : Below wr.heap.size wr w1) => rat_any (.slice A nn c) F s w1 (hsl.below hb1)
          obtain ⟨I, hI⟩ : ∃ I, I = atF s F 0 := ⟨_, rfl⟩
          rw [← hI] at hat
          have hneg := at_neg s F
          rw [← hI] at hneg
          have hmem : s ∈ F ↔ s ∈ P := by rw [hF]; exact ⟨fun h => firsts_sub P [] s h, fun h => (firsts_has P [] s h).elim (fun e => by cases e) id⟩
          have HNI := Lib.hid hni
          have HLN := Lib.hid (And.intro hlen hPl)
          have HWK := Lib.hid (And.intro hi hlt)
          clear hni hlen hPl hP hF hsl E hs hI
          by_cases hin : s ∈ P
          · have hI0 : ¬ I < 0 := fun h => (hneg.1 h) (hmem.2 hin)
            rw [if_pos (.inr hin), List.append_nil] at hadd
            have HADD := Lib.hid hadd
            clear hneg hmem hin hadd
            go_wp2_with fail
            refine (hat _ (Below.refl _ _)).mono ?_
            rintro r _ ⟨rfl, rfl⟩
            go_wp2
            go_roundg (em.length - (i + 1))
            case rel => exact ⟨i + 1, nn, A, c, by omega, rfl, rfl, by go_num, Lib.hid (by rw [HNI.out, HADD.out]; exact hO.out), hb, Lib.hid (by rw [HNI.out, HADD.out]; exact hnn.out)⟩
            case measure => omega
          · have hI0 : I < 0 := hneg.2 (fun h => hin (hmem.1 h))
            rw [if_neg (fun h => h.elim (fun e => (by cases e)) hin)] at hadd
            have HADD := Lib.hid hadd
            clear hneg hmem hin hadd
            go_wp2_with fail
            refine (hat _ (Below.refl _ _)).mono ?_
            rintro r _ ⟨rfl, rfl⟩
            rename World => wr
            obtain ⟨A3, c3, w4, hrun, hown, hgrow⟩ := run_append_any (P := Tryz.prog) (wr.alloc (.cells #[.string (strOf s)] 9)) W1.heap.size 69 69 9 i0 (.string ⟨#[]⟩) 1 16 Tryz.underlying69 hi0 hz0 hz1 hz2 rfl (by decide) _ nn (F.map fun s => .string (strOf s)) (own_later hO.out (b1 _ _)) _ 1 [.string (strOf s)] (Sl.lit (Blk.is (us := [.string (strOf s)]) 9 rfl) 1 1 rfl (by decide)) (fun u hu => by rw [List.mem_singleton.1 hu]; rfl) (by have := HLN.out; unfold maxLen; omega) (by have := HLN.out; omega) (bstep hb.out (b1 _ _)).size (nn + 1) ((F ++ [s]).map fun s => .string (strOf s)) rfl (by rw [List.map_append]; rfl)
            have HOW := Lib.hid hown
            have HBW := Lib.hid ((bstep hb.out (b1 _ _)).grown hgrow (bstep hb.out (b1 _ _)).size (fun j e => (hO.out.lt j e).1))
            have HNN := Lib.hid hnn.out
            clear hown hgrow hO hb hnn hat
            go_wp2_with (at_builtin; refine wpList_append_run rfl _ _ _ rfl rfl rfl hrun ?_)
            go_roundg (em.length - (i + 1))
            case rel => exact ⟨i + 1, nn + 1, A3, c3, by omega, rfl, rfl, by go_num, Lib.hid (by rw [HNI.out, HADD.out]; exact HOW.out), HBW, Lib.hid (by rw [HNI.out, HADD.out, List.length_append, ← HNN.out]; rfl)⟩
            case measure => omega
        · have g1 : ¬ (i : Int) < (em.length : Int) := by omega
          have htk : (en).take i = en := List.take_of_length_le (by rw [HN2.out, List.length_map]; omega)
          rw [htk] at hO hnn
          have hUF : U = firsts [] (hn ++ en) := HU.out
          rw [← hUF] at hO hnn
          have hnu := hnn.out
          have HBW := Lib.hid (bstep HB.out hb.out)
          have HOO := Lib.hid hO.out
          clear hUF htk hO hb hnn HE1 HE2 HO1 HB1 HNN1 HX
          have HNU := Lib.hid hnu
          clear hnu
          go_wp2
          go_ret
          exact ⟨_, rfl, by rw [← HNU.out]; exact own_mono HOO.out HB.out.size, HBW.out⟩
end Go.Proofs.YtdoioaeppepndaaGreatDoor
