/- Texts of nodes and queries: the same text, the same query. Nothing here speaks of the program. -/
import Derived.Test.YtfibmdbplfghcaaGreatDoorAstTm
import Derived.Test.YtfibmdbplfghcaaGreatDoorAstZ
namespace Go.Proofs.YtfibmdbplfghcaaGreatDoor.A8
open Go.Proofs.YtfibmdbplfghcaaGreatDoor.Tk7 Go.Proofs.YtfibmdbplfghcaaGreatDoor.Lb

/-- Sound, and with labels of 64 bits. -/
def GoodN (n : Nd) : Prop := soundN 1 n = true ∧ ∀ t ∈ subsN n, 0 ≤ t.atom.bn ∧ t.atom.bn < 18446744073709551616
theorem GoodN.kid {k mn mx : Int} {a : At} {ks : List Nd} (h : GoodN (.mk k mn mx a ks)) {t : Nd} (ht : t ∈ ks) : GoodN t := by
  refine ⟨sound_kid h.1 t ht, fun u hu => h.2 u ?_⟩
  rw [subsN, subsL_flat]
  exact List.mem_cons_of_mem _ (List.mem_flatMap.2 ⟨t, ht, hu⟩)
theorem GoodN.one {k mn mx : Int} {a : At} {ks : List Nd} (h : GoodN (.mk k mn mx a ks)) : nodeB k mn mx a ks.length = true ∧ 0 ≤ a.bn ∧ a.bn < 18446744073709551616 := by
  have h1 := h.1
  rw [soundN] at h1
  simp only [Bool.and_eq_true] at h1
  exact ⟨h1.1.2, h.2 (.mk k mn mx a ks) (by rw [subsN]; exact List.mem_cons_self)⟩
theorem zero_is {a : At} (h : zeroB a = true) : a = ⟨0, false, 0, [], []⟩ := by
  obtain ⟨kd, bd, bn, cs, nm⟩ := a
  unfold zeroB at h
  simp only [Bool.and_eq_true, decide_eq_true_eq, Bool.not_eq_true', List.isEmpty_iff] at h
  obtain ⟨⟨⟨⟨rfl, rfl⟩, rfl⟩, rfl⟩, rfl⟩ := h
  rfl
/-- The four kinds of sound nodes. -/
theorem GoodN.cases {k mn mx : Int} {a : At} {ks : List Nd} (h : GoodN (.mk k mn mx a ks)) :
    (k = 1 ∧ ks = [] ∧ atomB a = true ∧ (0 ≤ mn ∧ mn ≤ 99) ∧ (0 ≤ mx ∧ mx ≤ 99)) ∨ (k = 2 ∧ ks = [] ∧ atomB a = true ∧ mn = 0 ∧ mx = 0) ∨ ((k = 3 ∨ k = 4) ∧ mn = 0 ∧ mx = 0 ∧ a = ⟨0, false, 0, [], []⟩ ∧ 2 ≤ ks.length) := by
  have h1 := h.one.1
  unfold nodeB at h1
  split at h1
  · simp only [Bool.and_eq_true, decide_eq_true_eq] at h1
    exact .inl ⟨by assumption, List.eq_nil_of_length_eq_zero h1.2, h1.1.1.1, h1.1.1.2, h1.1.2⟩
  · split at h1
    · simp only [Bool.and_eq_true, decide_eq_true_eq] at h1
      exact .inr (.inl ⟨by assumption, List.eq_nil_of_length_eq_zero h1.2, h1.1.1, h1.1.2.1, h1.1.2.2⟩)
    · split at h1
      · simp only [Bool.and_eq_true, decide_eq_true_eq] at h1
        exact .inr (.inr ⟨by assumption, h1.1.2.1, h1.1.2.2, zero_is h1.1.1, h1.2⟩)
      · cases h1
def U8 (n : Nd) : List UInt8 := wrapT 3 n.kind (textN n)
def V8 (n : Nd) : List UInt8 := wrapT 4 n.kind (textN n)
def units (n : Nd) : List Nd := if n.kind = 3 then n.kids else [n]
def items (n : Nd) : List Nd := if n.kind = 4 then n.kids else [n]
theorem units_ne {n : Nd} (h : GoodN n) : units n ≠ [] := by
  obtain ⟨k, mn, mx, a, ks⟩ := n
  unfold units
  split
  · rename_i hk
    change k = 3 at hk
    rcases h.cases with ⟨h1, _⟩ | ⟨h1, _⟩ | ⟨_, _, _, _, h1⟩
    · omega
    · omega
    · intro e
      change ks = [] at e
      rw [e] at h1
      exact absurd h1 (by decide)
  · simp
theorem items_ne {n : Nd} (h : GoodN n) : items n ≠ [] := by
  obtain ⟨k, mn, mx, a, ks⟩ := n
  unfold items
  split
  · rename_i hk
    change k = 4 at hk
    rcases h.cases with ⟨h1, _⟩ | ⟨h1, _⟩ | ⟨_, _, _, _, h1⟩
    · omega
    · omega
    · intro e
      change ks = [] at e
      rw [e] at h1
      exact absurd h1 (by decide)
  · simp
theorem seq_is {n : Nd} (h : GoodN n) {j : Int} (hj : j = 3 ∨ j = 4) (hk : n.kind = j) : n = .mk j 0 0 ⟨0, false, 0, [], []⟩ n.kids ∧ 2 ≤ n.kids.length := by
  obtain ⟨k, mn, mx, a, ks⟩ := n
  change k = j at hk
  subst hk
  rcases h.cases with ⟨h1, _⟩ | ⟨h1, _⟩ | ⟨_, rfl, rfl, rfl, h1⟩
  · omega
  · omega
  · exact ⟨rfl, h1⟩
theorem pick_inj {j : Int} (hj : j = 3 ∨ j = 4) {n m : Nd} (hn : GoodN n) (hm : GoodN m) (h : (if n.kind = j then n.kids else [n]) = if m.kind = j then m.kids else [m]) : n = m := by
  split at h
  · rename_i h1
    obtain ⟨e1, l1⟩ := seq_is hn hj h1
    split at h
    · rename_i h2
      obtain ⟨e2, _⟩ := seq_is hm hj h2
      rw [e1, e2, h]
    · rw [h] at l1
      exact absurd l1 (by simp)
  · split at h
    · rename_i h2
      obtain ⟨_, l2⟩ := seq_is hm hj h2
      rw [← h] at l2
      exact absurd l2 (by simp)
    · exact (List.cons.inj h).1
theorem V_units (n : Nd) : V8 n = sepL [32, 59, 32] ((units n).map U8) := by
  obtain ⟨k, mn, mx, a, ks⟩ := n
  show wrapT 4 k _ = _
  unfold units
  by_cases h3 : k = 3
  · subst h3
    show wrapT 4 3 _ = sepL [32, 59, 32] (ks.map U8)
    rw [wrapT, if_neg (by decide), textN, if_neg (by decide), if_neg (by decide), if_pos rfl, textL_map]
    rfl
  · show _ = sepL [32, 59, 32] ((if k = 3 then ks else [_]).map U8)
    rw [if_neg h3]
    show _ = wrapT 3 k _
    unfold wrapT
    by_cases h4 : k = 4
    · rw [if_pos (.inl h4), if_pos (.inl h4)]
    · rw [if_neg (by omega), if_neg (by omega)]
theorem T_items (n : Nd) : textN n = sepL [32, 124, 32] ((items n).map V8) := by
  obtain ⟨k, mn, mx, a, ks⟩ := n
  unfold items
  by_cases h4 : k = 4
  · subst h4
    show _ = sepL [32, 124, 32] (ks.map V8)
    rw [textN, if_neg (by decide), if_neg (by decide), if_neg (by decide), if_pos rfl, textL_map]
    rfl
  · show _ = sepL [32, 124, 32] ((if k = 4 then ks else [_]).map V8)
    rw [if_neg h4]
    show _ = wrapT 4 k _
    unfold wrapT
    rw [if_neg (by omega)]
def FU (r : List UInt8) : Prop := Hd [32, 41] r
def FS (r : List UInt8) : Prop := FU r ∧ ∀ t, r ≠ [32, 59, 32] ++ t
def FA (r : List UInt8) : Prop := FS r ∧ ∀ t, r ≠ [32, 124, 32] ++ t
theorem FU_sep (c : UInt8) (r : List UInt8) : FU ([32, c, 32] ++ r) := Hd.cons (by simp)
theorem FS_sep (r : List UInt8) : FS ([32, 124, 32] ++ r) := ⟨Hd.cons (by simp), fun t e => by simp at e⟩
theorem FA_par (r : List UInt8) : FA (41 :: r) := ⟨⟨Hd.cons (by simp), fun t e => by simp at e⟩, fun t e => by simp at e⟩
theorem FA_nil : FA [] := ⟨⟨Hd.nil _, fun t e => by simp at e⟩, fun t e => by simp at e⟩
theorem FA_with (r : List UInt8) : FA (32 :: 119 :: r) := ⟨⟨Hd.cons (by simp), fun t e => by simp at e⟩, fun t e => by simp at e⟩
/-- What the text of a node without kids begins with. -/
theorem one_head {k mn mx : Int} {a : At} {ks : List Nd} (h : GoodN (.mk k mn mx a ks)) (hk : k = 1 ∨ k = 2) : ∃ b t, textN (.mk k mn mx a ks) = b :: t ∧ ((k = 1 ∧ 65 ≤ b.toNat ∧ b.toNat ≤ 90) ∨ (k = 2 ∧ b = 110)) := by
  rcases hk with rfl | rfl
  · rw [textN, if_pos rfl]
    refine ⟨_, _, rfl, .inl ⟨rfl, ?_⟩⟩
    rcases h.cases with ⟨_, _, ha, _⟩ | ⟨e, _⟩ | ⟨e, _⟩
    · unfold atomB at ha
      simp only [Bool.and_eq_true, decide_eq_true_eq] at ha
      have := ha.1.1.1
      rw [UInt8.toNat_ofNat']
      omega
    · exact absurd e (by decide)
    · exact absurd e (by decide)
  · rw [textN, if_neg (by decide), if_pos rfl]
    exact ⟨_, _, rfl, .inr ⟨rfl, rfl⟩⟩
theorem times_tells {mn mx mn' mx' : Int} {r s : List UInt8} (hr : FU r) (hs : FU s) (h : timesT mn mx ++ r = timesT mn' mx' ++ s) : mn = mn' ∧ mx = mx' ∧ r = s := by
  unfold timesT at h
  have no : ∀ (A u : List UInt8), FU u → u ≠ 123 :: A := fun A u hu e => absurd (hu 123 A e) (by decide)
  split at h
  · rename_i h1
    split at h
    · rename_i h2
      exact ⟨by omega, by omega, h⟩
    · exact absurd (by simpa using h) (no _ r hr)
  · split at h
    · exact absurd (by simpa using h.symm) (no _ s hs)
    · simp only [List.append_assoc] at h
      have h3 : Lib.itoa mn ++ (44 :: (Lib.itoa mx ++ 125 :: r)) = Lib.itoa mn' ++ (44 :: (Lib.itoa mx' ++ 125 :: s)) := by simpa using h
      have st : ∀ (c : UInt8) (u : List UInt8), isDg c = false → Stp isDg (c :: u) := fun c u hc b t e => by obtain ⟨rfl, _⟩ := List.cons.inj e; exact hc
      obtain ⟨e1, h4⟩ := itoa_tells _ _ _ _ (st 44 _ (by decide)) (st 44 _ (by decide)) h3
      obtain ⟨e2, h5⟩ := itoa_tells _ _ _ _ (st 125 _ (by decide)) (st 125 _ (by decide)) (List.cons.inj h4).2
      exact ⟨e1, e2, (List.cons.inj h5).2⟩
theorem times_head {mn mx : Int} {r : List UInt8} (hr : FU r) : Hd [123, 32, 41] (timesT mn mx ++ r) := by
  unfold timesT
  split
  · exact hr.mono (by simp +contextual)
  · exact Hd.cons (by simp)
/-- Nodes without kids. -/
theorem one_tells {k mn mx k' mn' mx' : Int} {a a' : At} {ks ks' : List Nd} (h : GoodN (.mk k mn mx a ks)) (h' : GoodN (.mk k' mn' mx' a' ks')) (hk : k = 1 ∨ k = 2) (hk' : k' = 1 ∨ k' = 2) : Tells textN FU (.mk k mn mx a ks) (.mk k' mn' mx' a' ks') := fun r s hr hs e => by
  obtain ⟨b, t, e1, hb⟩ := one_head h hk
  obtain ⟨b', t', e2, hb'⟩ := one_head h' hk'
  have eb : b = b' := by
    rw [e1, e2] at e
    exact (List.cons.inj e).1
  subst eb
  have big : ∀ x : UInt8, 65 ≤ x.toNat → x.toNat ≤ 90 → x ≠ 110 := fun x h1 h2 e => by subst e; exact absurd h2 (by decide)
  have kk : k = k' := by
    rcases hb with ⟨h1, h2, h3⟩ | ⟨h1, h2⟩ <;> rcases hb' with ⟨h4, h5, h6⟩ | ⟨h4, h5⟩
    · omega
    · exact absurd h5 (big b h2 h3)
    · exact absurd h2 (big b h5 h6)
    · omega
  subst kk
  have o1 := h.one.2
  have o2 := h'.one.2
  rcases hk with rfl | rfl
  · rcases h.cases with ⟨_, rfl, ha, _⟩ | ⟨e, _⟩ | ⟨e, _⟩
    · rcases h'.cases with ⟨_, rfl, ha', _⟩ | ⟨e, _⟩ | ⟨e, _⟩
      · rw [textN, if_pos rfl, textN, if_pos rfl, List.append_assoc, List.append_assoc] at e
        obtain ⟨rfl, e3⟩ := atom_tells ha ha' o1 o2 _ _ (times_head hr) (times_head hs) e
        obtain ⟨rfl, rfl, e4⟩ := times_tells hr hs e3
        exact ⟨rfl, e4⟩
      · exact absurd e (by decide)
      · exact absurd e (by decide)
    · exact absurd e (by decide)
    · exact absurd e (by decide)
  · rcases h.cases with ⟨e, _⟩ | ⟨_, rfl, ha, rfl, rfl⟩ | ⟨e, _⟩
    · exact absurd e (by decide)
    · rcases h'.cases with ⟨e, _⟩ | ⟨_, rfl, ha', rfl, rfl⟩ | ⟨e, _⟩
      · exact absurd e (by decide)
      · rw [textN, if_neg (by decide), if_pos rfl, textN, if_neg (by decide), if_pos rfl, List.append_assoc, List.append_assoc] at e
        have e3 := List.append_cancel_left e
        obtain ⟨rfl, e4⟩ := atom_tells ha ha' o1 o2 _ _ (hr.mono (by simp +contextual)) (hs.mono (by simp +contextual)) e3
        exact ⟨rfl, e4⟩
      · exact absurd e (by decide)
    · exact absurd e (by decide)
theorem kind_any {n : Nd} (h : GoodN n) : (n.kind = 1 ∨ n.kind = 2) ∨ (n.kind = 3 ∨ n.kind = 4) := by
  obtain ⟨k, mn, mx, a, ks⟩ := n
  rcases h.cases with ⟨h1, _⟩ | ⟨h1, _⟩ | ⟨h1, _⟩
  · exact .inl (.inl h1)
  · exact .inl (.inr h1)
  · exact .inr h1
theorem U_one {n : Nd} (h : n.kind = 1 ∨ n.kind = 2) : U8 n = textN n := by unfold U8 wrapT; rw [if_neg (by omega)]
theorem U_par {n : Nd} (h : n.kind = 3 ∨ n.kind = 4) : U8 n = [40] ++ textN n ++ [41] := by unfold U8 wrapT; rw [if_pos (by omega)]
theorem head_not {n : Nd} (h : GoodN n) (hk : n.kind = 1 ∨ n.kind = 2) (A r : List UInt8) : textN n ++ r ≠ 40 :: A := by
  obtain ⟨k, mn, mx, a, ks⟩ := n
  obtain ⟨b, t, e, hb⟩ := one_head h hk
  rw [e]
  intro e2
  obtain ⟨rfl, _⟩ := List.cons.inj e2
  rcases hb with ⟨_, h1, _⟩ | ⟨_, h1⟩
  · exact absurd h1 (by decide)
  · exact absurd h1 (by decide)
/-- Of a unit, out of the whole text. -/
theorem U_of {n : Nd} (hn : GoodN n) (hR : (n.kind = 3 ∨ n.kind = 4) → ∀ m, GoodN m → Tells textN FA n m) : ∀ m, GoodN m → Tells U8 FU n m := fun m hm r s hr hs e => by
  rcases kind_any hn with k1 | k1
  · rcases kind_any hm with k2 | k2
    · rw [U_one k1, U_one k2] at e
      obtain ⟨k, mn, mx, a, ks⟩ := n
      obtain ⟨k', mn', mx', a', ks'⟩ := m
      exact one_tells hn hm k1 k2 r s hr hs e
    · rw [U_one k1, U_par k2] at e
      exact absurd (by simpa using e) (head_not hn k1 _ r)
  · rcases kind_any hm with k2 | k2
    · rw [U_par k1, U_one k2] at e
      exact absurd (by simpa using e.symm) (head_not hm k2 _ s)
    · rw [U_par k1, U_par k2] at e
      have e2 : textN n ++ 41 :: r = textN m ++ 41 :: s := by simpa using e
      obtain ⟨e3, e4⟩ := hR k1 m hm _ _ (FA_par r) (FA_par s) e2
      exact ⟨e3, (List.cons.inj e4).2⟩
theorem good_units {n : Nd} (h : GoodN n) : ∀ t ∈ units n, GoodN t := by
  intro t ht
  unfold units at ht
  split at ht
  · obtain ⟨k, mn, mx, a, ks⟩ := n
    exact h.kid ht
  · rw [List.mem_singleton.1 ht]; exact h
theorem good_items {n : Nd} (h : GoodN n) : ∀ t ∈ items n, GoodN t := by
  intro t ht
  unfold items at ht
  split at ht
  · obtain ⟨k, mn, mx, a, ks⟩ := n
    exact h.kid ht
  · rw [List.mem_singleton.1 ht]; exact h
theorem V_of {n : Nd} (hn : GoodN n) (hU : ∀ t ∈ units n, ∀ m, GoodN m → Tells U8 FU t m) : ∀ m, GoodN m → Tells V8 FS n m := fun m hm r s hr hs e => by
  rw [V_units, V_units] at e
  obtain ⟨e2, e3⟩ := sep_tells (FU_sep 59) (fun r (h : FS r) => h) _ _ (units_ne hn) (units_ne hm) (fun x hx y hy => hU x hx y (good_units hm y hy)) r s hr hs e
  exact ⟨pick_inj (.inl rfl) hn hm e2, e3⟩
theorem T_of {n : Nd} (hn : GoodN n) (hV : ∀ t ∈ items n, ∀ m, GoodN m → Tells V8 FS t m) : ∀ m, GoodN m → Tells textN FA n m := fun m hm r s hr hs e => by
  rw [T_items, T_items m] at e
  obtain ⟨e2, e3⟩ := sep_tells FS_sep (fun r (h : FA r) => h) _ _ (items_ne hn) (items_ne hm) (fun x hx y hy => hV x hx y (good_items hm y hy)) r s hr hs e
  exact ⟨pick_inj (.inr rfl) hn hm e2, e3⟩
theorem node_tells (n : Nd) : GoodN n → (∀ m, GoodN m → Tells U8 FU n m) ∧ (∀ m, GoodN m → Tells V8 FS n m) ∧ (∀ m, GoodN m → Tells textN FA n m) := by
  refine Nd.ind (P := fun n => GoodN n → (∀ m, GoodN m → Tells U8 FU n m) ∧ (∀ m, GoodN m → Tells V8 FS n m) ∧ (∀ m, GoodN m → Tells textN FA n m)) (fun k mn mx a ks ih => ?_) n
  intro hn
  rcases kind_any hn with k1 | k1
  · change k = 1 ∨ k = 2 at k1
    have u3 : units (.mk k mn mx a ks) = [.mk k mn mx a ks] := if_neg (show ¬ k = 3 by omega)
    have i4 : items (.mk k mn mx a ks) = [.mk k mn mx a ks] := if_neg (show ¬ k = 4 by omega)
    have hU := U_of hn (fun h => by change k = 3 ∨ k = 4 at h; omega)
    have hV := V_of hn (fun t ht => by rw [u3] at ht; rw [List.mem_singleton.1 ht]; exact hU)
    exact ⟨hU, hV, T_of hn (fun t ht => by rw [i4] at ht; rw [List.mem_singleton.1 ht]; exact hV)⟩
  · rcases k1 with k1 | k1
    · change k = 3 at k1
      have u3 : units (.mk k mn mx a ks) = ks := if_pos k1
      have i4 : items (.mk k mn mx a ks) = [.mk k mn mx a ks] := if_neg (show ¬ k = 4 by omega)
      have hV := V_of hn (fun t ht => by rw [u3] at ht; exact (ih t ht (hn.kid ht)).1)
      have hT := T_of hn (fun t ht => by rw [i4] at ht; rw [List.mem_singleton.1 ht]; exact hV)
      exact ⟨U_of hn (fun _ => hT), hV, hT⟩
    · change k = 4 at k1
      have u3 : units (.mk k mn mx a ks) = [.mk k mn mx a ks] := if_neg (show ¬ k = 3 by omega)
      have i4 : items (.mk k mn mx a ks) = ks := if_pos k1
      have hT := T_of hn (fun t ht => by rw [i4] at ht; exact (ih t ht (hn.kid ht)).2.1)
      have hU := U_of hn (fun _ => hT)
      exact ⟨hU, V_of hn (fun t ht => by rw [u3] at ht; rw [List.mem_singleton.1 ht]; exact hU), hT⟩

/-! Queries -/
theorem funs_no : ∀ i : Fin 7, (40 : UInt8) ∉ funsA.getD i.val [] := by decide +kernel
theorem funs_inj : ∀ i j : Fin 7, 1 ≤ i.val → 1 ≤ j.val → funsA.getD i.val [] = funsA.getD j.val [] → i = j := by decide +kernel
theorem aggB_iff {a : Ag} : aggB a = true ↔ (1 ≤ a.fn ∧ a.fn ≤ 6) ∧ nameB a.nm = true := by simp [aggB]
theorem agg_tells {a b : Ag} (ha : aggB a = true) (hb : aggB b = true) (F : List UInt8 → Prop) : Tells aggT F a b := fun r s _ _ h => by
  obtain ⟨⟨a1, a2⟩, an⟩ := aggB_iff.1 ha
  obtain ⟨⟨b1, b2⟩, bn⟩ := aggB_iff.1 hb
  obtain ⟨fn, nm⟩ := a
  obtain ⟨fn', nm'⟩ := b
  simp only at a1 a2 an b1 b2 bn
  unfold aggT at h
  have h1 : funsA.getD fn.toNat [] ++ 40 :: (nm ++ 41 :: r) = funsA.getD fn'.toNat [] ++ 40 :: (nm' ++ 41 :: s) := by simpa using h
  obtain ⟨h2, h3⟩ := cut_same (funs_no ⟨fn.toNat, by omega⟩) (funs_no ⟨fn'.toNat, by omega⟩) h1
  have no : ∀ n, nameB n = true → (41 : UInt8) ∉ n := fun n hn hm => absurd (nameB_all hn 41 hm) (by decide)
  obtain ⟨rfl, h5⟩ := cut_same (no _ an) (no _ bn) h3
  have h6 := congrArg Fin.val (funs_inj ⟨fn.toNat, by omega⟩ ⟨fn'.toNat, by omega⟩ (by show 1 ≤ fn.toNat; omega) (by show 1 ≤ fn'.toNat; omega) h2)
  have h7 : fn.toNat = fn'.toNat := h6
  have h8 : fn = fn' := by omega
  subst h8
  exact ⟨rfl, h5⟩
theorem have_tells {a b : Hv} (ha : haveB a = true) (hb : haveB b = true) : Tells haveT (Stp isDg) a b := fun r s hr hs h => by
  unfold haveB at ha hb
  rw [Bool.and_eq_true] at ha hb
  obtain ⟨ag, cn⟩ := a
  obtain ⟨ag', cn'⟩ := b
  unfold haveT at h
  simp only [List.append_assoc] at h
  obtain ⟨e1, e2⟩ := agg_tells ha.1 hb.1 (fun _ => True) _ _ trivial trivial h
  obtain ⟨e3, e4⟩ := cond_tells ha.2 hb.2 r s hr hs (List.append_cancel_left e2)
  simp only at e1 e3
  exact ⟨by rw [e1, e3], e4⟩
def GoodQ (q : Qu) : Prop := checkB q = true ∧ GoodN q.p ∧ 0 ≤ q.wi
theorem checkB_iff {q : Qu} : checkB q = true ↔ ((soundN 1 q.p = true ∧ q.wi ≤ 99999) ∧ q.hv.all haveB = true) ∧ q.em.all aggB = true := by simp [checkB]
theorem query_tells {p q : Qu} (hp : GoodQ p) (hq : GoodQ q) (h : queryT p = queryT q) : p = q := by
  obtain ⟨cp, gp, w0⟩ := hp
  obtain ⟨cq, gq, w1⟩ := hq
  obtain ⟨⟨-, hvp⟩, emp⟩ := checkB_iff.1 cp
  obtain ⟨⟨-, hvq⟩, emq⟩ := checkB_iff.1 cq
  obtain ⟨pp, wp, hv, em⟩ := p
  obtain ⟨pq, wq, hv', em'⟩ := q
  simp only at gp gq w0 w1 hvp hvq emp emq
  unfold queryT at h
  simp only [List.append_assoc] at h
  obtain ⟨rfl, h1⟩ := (node_tells pp gp).2.2 pq gq _ _ (FA_with _) (FA_with _) h
  replace h1 := (List.append_right_inj [32, 119, 105, 116, 104, 105, 110, 32]).1 h1
  have e32 : ∀ l : List Ag, Hd [32] (listT [32, 101, 109, 105, 116, 32] (l.map aggT) [44, 32] []) := fun l => by
    unfold listT
    split
    · exact Hd.nil _
    · exact Hd.cons (by simp)
  have v32 : ∀ (l : List Hv) (u : List UInt8), Hd [32] u → Hd [32] (listT [32, 104, 97, 118, 105, 110, 103, 32] (l.map haveT) [32, 97, 110, 100, 32] [] ++ u) := fun l u hu => by
    unfold listT
    split
    · exact hu
    · exact Hd.cons (by simp)
  have st : ∀ u, Hd [32] u → Stp isDg u := fun u hu => hu.stp (by decide)
  obtain ⟨rfl, h2⟩ := itoa_tells _ _ _ _ (st _ (v32 _ _ (e32 _))) (st _ (v32 _ _ (e32 _))) h1
  have ev : ∀ (l : List Ag) (A : List UInt8), listT [32, 101, 109, 105, 116, 32] (l.map aggT) [44, 32] [] ≠ 32 :: 104 :: A ∧ ∀ t, listT [32, 101, 109, 105, 116, 32] (l.map aggT) [44, 32] [] ≠ [32, 97, 110, 100, 32] ++ t := fun l A => by
    unfold listT
    split
    · exact ⟨by simp, fun t => by simp⟩
    · exact ⟨by simp, fun t => by simp⟩
  have h3 : hv = hv' ∧ listT [32, 101, 109, 105, 116, 32] (em.map aggT) [44, 32] [] = listT [32, 101, 109, 105, 116, 32] (em'.map aggT) [44, 32] [] := by
    cases hv with
    | nil =>
      cases hv' with
      | nil => exact ⟨rfl, h2⟩
      | cons y ys => exact absurd h2 (ev em _).1
    | cons x xs =>
      cases hv' with
      | nil => exact absurd h2.symm (ev em' _).1
      | cons y ys =>
        have h4 : sepL [32, 97, 110, 100, 32] ((x :: xs).map haveT) ++ listT [32, 101, 109, 105, 116, 32] (em.map aggT) [44, 32] [] = sepL [32, 97, 110, 100, 32] ((y :: ys).map haveT) ++ listT [32, 101, 109, 105, 116, 32] (em'.map aggT) [44, 32] [] := by
          have e : ∀ (z : Hv) (zs : List Hv), listT [32, 104, 97, 118, 105, 110, 103, 32] ((z :: zs).map haveT) [32, 97, 110, 100, 32] [] = [32, 104, 97, 118, 105, 110, 103, 32] ++ sepL [32, 97, 110, 100, 32] ((z :: zs).map haveT) := fun z zs => by
            unfold listT
            rw [if_neg (by simp), List.append_nil]
          rw [e, e, List.append_assoc, List.append_assoc] at h2
          exact List.append_cancel_left h2
        exact sep_tells (F := Stp isDg) (G := fun r => Hd [32] r ∧ ∀ t, r ≠ [32, 97, 110, 100, 32] ++ t) (sep := [32, 97, 110, 100, 32]) (fun r => stp_cons (c := 32) (u := [97, 110, 100, 32] ++ r) (by decide)) (fun r hr => ⟨st r hr.1, hr.2⟩) _ _ (by simp) (by simp) (fun u hu v hv => have_tells (List.all_eq_true.1 hvp u hu) (List.all_eq_true.1 hvq v hv)) _ _ ⟨e32 _, (ev em []).2⟩ ⟨e32 _, (ev em' []).2⟩ h4
  obtain ⟨rfl, h5⟩ := h3
  have h6 : em = em' := by
    cases em with
    | nil =>
      cases em' with
      | nil => rfl
      | cons y ys => cases h5
    | cons x xs =>
      cases em' with
      | nil => cases h5
      | cons y ys =>
        have e : ∀ (z : Ag) (zs : List Ag), listT [32, 101, 109, 105, 116, 32] ((z :: zs).map aggT) [44, 32] [] = [32, 101, 109, 105, 116, 32] ++ sepL [44, 32] ((z :: zs).map aggT) := fun z zs => by
          unfold listT
          rw [if_neg (by simp), List.append_nil]
        rw [e, e] at h5
        have h7 := List.append_cancel_left h5
        exact (sep_tells (F := fun _ => True) (G := fun r => r = []) (sep := [44, 32]) (fun _ => trivial) (fun r hr => ⟨trivial, fun t e => (by rw [hr] at e; cases e)⟩) _ _ (by simp) (by simp) (fun u hu v hv => agg_tells (List.all_eq_true.1 emp u hu) (List.all_eq_true.1 emq v hv) _) [] [] rfl rfl (by rw [h7])).1
  rw [h6]

/-! Letters -/
def cntL (l : List UInt8) : Nat := (l.filter largeB).length
theorem cnt_app (a b : List UInt8) : cntL (a ++ b) = cntL a + cntL b := by unfold cntL; rw [List.filter_append, List.length_append]
theorem cnt_none {l : List UInt8} (h : ∀ b ∈ l, largeB b = false) : cntL l = 0 := by
  unfold cntL
  rw [List.filter_eq_nil_iff.2 fun b hb => by rw [h b hb]; decide]
  rfl
theorem cnt_sep {sep : List UInt8} (hs : cntL sep = 0) : ∀ l : List (List UInt8), cntL (sepL sep l) = (l.map cntL).sum
  | [] => rfl
  | [x] => by simp [sepL]
  | x :: y :: l => by
    rw [sepL, cnt_app, cnt_app, hs, cnt_sep hs (y :: l)]
    simp
theorem cnt_sep0 {sep : List UInt8} (hs : cntL sep = 0) (l : List (List UInt8)) (h : ∀ x ∈ l, cntL x = 0) : cntL (sepL sep l) = 0 := by
  rw [cnt_sep hs]
  induction l with
  | nil => rfl
  | cons x xs ih => rw [List.map_cons, List.sum_cons, h x (by simp), ih (fun y hy => h y (List.mem_cons_of_mem _ hy))]
theorem dg_not {b : UInt8} (h : isDg b = true) : largeB b = false := by
  unfold isDg at h
  unfold largeB
  simp only [Bool.and_eq_true, decide_eq_true_eq] at h
  rw [decide_eq_false (by omega), Bool.false_and]
theorem small_not {b : UInt8} (h : smallB b = true) : largeB b = false := by
  unfold smallB at h
  unfold largeB
  simp only [Bool.and_eq_true, decide_eq_true_eq] at h
  rw [decide_eq_false (show ¬ b.toNat ≤ 90 by omega), Bool.and_false]
theorem cnt_dec (u : Nat) : cntL (Lib.decDigits u) = 0 := cnt_none fun b hb => dg_not ((dec_facts u).1 b hb)
theorem cnt_itoa (v : Int) : cntL (Lib.itoa v) = 0 := by
  rw [itoa_form]
  split
  · show cntL ([45] ++ Lib.decDigits v.natAbs) = 0
    rw [cnt_app, cnt_dec]
    rfl
  · exact cnt_dec _
theorem cnt_name {s : List UInt8} (h : ∀ b ∈ s, smallB b = true) : cntL s = 0 := cnt_none fun b hb => small_not (h b hb)
theorem cnt_ops : ∀ i : Fin 7, cntL (opsA.getD i.val []) = 0 := by decide +kernel
theorem cnt_funs : ∀ i : Fin 7, cntL (funsA.getD i.val []) = 0 := by decide +kernel
theorem cnt_cond {c : Cn} (h : condB c = true) : cntL (condT c) = 0 := by
  obtain ⟨h1, h2⟩ := condB_iff.1 h
  unfold condT
  rw [cnt_app, cnt_itoa]
  exact cnt_ops ⟨c.op.toNat, by omega⟩
theorem cnt_label (x : Int) : cntL (labelT x) = 0 := by
  unfold labelT
  rw [cnt_app, cnt_app, join_sep, cnt_sep0 (by decide) _ (fun y hy => by obtain ⟨u, _, rfl⟩ := List.mem_map.1 hy; exact cnt_dec u)]
  decide
theorem cnt_atom {a : At} (h : atomB a = true) : cntL (atomT a) = 1 := by
  have hn := cnm_all h
  unfold atomB at h
  simp only [Bool.and_eq_true, Bool.or_eq_true, decide_eq_true_eq] at h
  obtain ⟨⟨⟨⟨k0, k1⟩, -⟩, hcs⟩, -⟩ := h
  unfold atomT
  rw [cnt_app, cnt_app, cnt_app]
  have h1 : cntL [UInt8.ofNat (65 + a.kd.toNat)] = 1 := by
    have : largeB (UInt8.ofNat (65 + a.kd.toNat)) = true := by
      unfold largeB
      rw [UInt8.toNat_ofNat', Bool.and_eq_true, decide_eq_true_eq, decide_eq_true_eq]
      omega
    unfold cntL
    rw [List.filter_cons_of_pos this]
    rfl
  have h2 : cntL (if a.bd = true then 64 :: labelT a.bn else []) = 0 := by
    split
    · show cntL ([64] ++ labelT a.bn) = 0
      rw [cnt_app, cnt_label]
      rfl
    · rfl
  have h3 : cntL (listT [91] (a.cs.map condT) [44] [93]) = 0 := by
    unfold listT
    split
    · rfl
    · rw [cnt_app, cnt_app, cnt_sep0 (by decide) _ (fun y hy => by obtain ⟨u, hu, rfl⟩ := List.mem_map.1 hy; exact cnt_cond (List.all_eq_true.1 hcs u hu))]
      decide
  have h4 : cntL (if a.nm.isEmpty = true then [] else 58 :: a.nm) = 0 := by
    split
    · rfl
    · show cntL ([58] ++ a.nm) = 0
      rw [cnt_app, cnt_name hn]
      rfl
  rw [h1, h2, h3, h4]
theorem cnt_times (mn mx : Int) : cntL (timesT mn mx) = 0 := by
  unfold timesT
  split
  · rfl
  · rw [cnt_app, cnt_app, cnt_app, cnt_app, cnt_itoa, cnt_itoa]
    decide
theorem cnt_wrap (k kk : Int) (t : List UInt8) : cntL (wrapT k kk t) = cntL t := by
  unfold wrapT
  split
  · rw [cnt_app, cnt_app]
    show 0 + cntL t + 0 = cntL t
    omega
  · rfl
theorem cnt_node (n : Nd) : GoodN n → cntL (textN n) = (leavesN n).length := by
  refine Nd.ind (P := fun n => GoodN n → cntL (textN n) = (leavesN n).length) (fun k mn mx a ks ih => ?_) n
  intro h
  have hL : 2 ≤ ks.length → ∀ (j : Int) (sep : List UInt8), cntL sep = 0 → cntL (sepL sep (textL j ks)) = (leavesN (.mk k mn mx a ks)).length := fun h2 j sep hs => by
    have hne : ks ≠ [] := fun e => by rw [e] at h2; exact absurd h2 (by decide)
    rw [leaves_flat _ _ _ _ _ hne, cnt_sep hs, textL_map, List.map_map]
    have : ∀ l : List Nd, (∀ t ∈ l, cntL (textN t) = (leavesN t).length) → (l.map (cntL ∘ fun n => wrapT j n.kind (textN n))).sum = (l.flatMap leavesN).length := fun l hl => by
      induction l with
      | nil => rfl
      | cons x xs ihx =>
        rw [List.map_cons, List.sum_cons, List.flatMap_cons, List.length_append, ihx (fun t ht => hl t (List.mem_cons_of_mem _ ht))]
        show cntL (wrapT _ _ _) + _ = _
        rw [cnt_wrap, hl x (by simp)]
    exact this ks (fun t ht => ih t ht (h.kid ht))
  rcases h.cases with ⟨rfl, rfl, ha, _⟩ | ⟨rfl, rfl, ha, _⟩ | ⟨h34, _, _, _, h2⟩
  · rw [textN, if_pos rfl, cnt_app, cnt_atom ha, cnt_times, leaves_one]
    rfl
  · rw [textN, if_neg (by decide), if_pos rfl, cnt_app, cnt_atom ha, leaves_one]
    show cntL [110, 111, 116, 32] + 1 = 1
    decide
  · rcases h34 with rfl | rfl
    · rw [textN, if_neg (by decide), if_neg (by decide), if_pos rfl]
      exact hL h2 3 _ (by decide)
    · rw [textN, if_neg (by decide), if_neg (by decide), if_neg (by decide), if_pos rfl]
      exact hL h2 4 _ (by decide)
theorem cnt_agg {a : Ag} (h : aggB a = true) : cntL (aggT a) = 0 := by
  obtain ⟨⟨h1, h2⟩, h3⟩ := aggB_iff.1 h
  unfold aggT
  rw [cnt_app, cnt_app, cnt_app, cnt_name (nameB_all h3)]
  have := cnt_funs ⟨a.fn.toNat, by omega⟩
  simp only at this
  rw [this]
  decide
theorem cnt_query {q : Qu} (h : GoodQ q) : cntL (queryT q) = (leavesN q.p).length := by
  obtain ⟨cq, gq, w0⟩ := h
  obtain ⟨⟨-, hv⟩, em⟩ := checkB_iff.1 cq
  unfold queryT
  rw [cnt_app, cnt_app, cnt_app, cnt_app, cnt_node _ gq, cnt_itoa]
  have h1 : cntL (listT [32, 104, 97, 118, 105, 110, 103, 32] (q.hv.map haveT) [32, 97, 110, 100, 32] []) = 0 := by
    unfold listT
    split
    · rfl
    · rw [cnt_app, cnt_app, cnt_sep0 (by decide) _ (fun y hy => by
        obtain ⟨u, hu, rfl⟩ := List.mem_map.1 hy
        have hb := List.all_eq_true.1 hv u hu
        unfold haveB at hb
        rw [Bool.and_eq_true] at hb
        unfold haveT
        rw [cnt_app, cnt_app, cnt_agg hb.1, cnt_cond hb.2]
        decide)]
      decide
  have h2 : cntL (listT [32, 101, 109, 105, 116, 32] (q.em.map aggT) [44, 32] []) = 0 := by
    unfold listT
    split
    · rfl
    · rw [cnt_app, cnt_app, cnt_sep0 (by decide) _ (fun y hy => by
        obtain ⟨u, hu, rfl⟩ := List.mem_map.1 hy
        exact cnt_agg (List.all_eq_true.1 em u hu))]
      decide
  rw [h1, h2]
  show (leavesN q.p).length + cntL [32, 119, 105, 116, 104, 105, 110, 32] + 0 + 0 + 0 = _
  have : cntL [32, 119, 105, 116, 104, 105, 110, 32] = 0 := by decide
  omega
end Go.Proofs.YtfibmdbplfghcaaGreatDoor.A8
