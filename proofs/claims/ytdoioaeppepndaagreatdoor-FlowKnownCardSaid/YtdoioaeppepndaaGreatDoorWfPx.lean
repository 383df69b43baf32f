/- Patterns made of numbers, and their parts: mathematics. -/
import Derived.Test.YtdoioaeppepndaaGreatDoorKitQs
import Derived.Test.YtdoioaeppepndaaGreatDoorWfSpec
namespace Go.Proofs.YtdoioaeppepndaaGreatDoor.W10
open A8 Kq

/-! Every Single just once -/
mutual
def oneN : Nd → Nd
  | .mk k mn mx a ks => .mk k (if k = 1 then 1 else mn) (if k = 1 then 1 else mx) a (oneL ks)
def oneL : List Nd → List Nd
  | [] => []
  | n :: ns => oneN n :: oneL ns
end
theorem oneL_map (ks : List Nd) : oneL ks = ks.map oneN := by
  induction ks with
  | nil => rfl
  | cons n ns ih => rw [oneL, ih, List.map_cons]
theorem one_kind (n : Nd) : (oneN n).kind = n.kind := by cases n; rfl
theorem one_not (n : Nd) : isNotB (oneN n) = isNotB n := by unfold isNotB; rw [one_kind]

/-! Names -/
/-- Names of places from p to q, none twice. -/
def NmR (p q : Nat) (L : List (List UInt8)) : Prop := onceL L = true ∧ ∀ s ∈ L, s.isEmpty = false → ∃ j, p ≤ j ∧ j < q ∧ s = [UInt8.ofNat (112 + j)]
theorem onceL_app : ∀ (L M : List (List UInt8)), onceL L = true → onceL M = true → (∀ s ∈ L, s.isEmpty = false → s ∉ M) → onceL (L ++ M) = true
  | [], M, _, h, _ => h
  | s :: L, M, h1, h2, h3 => by
    rw [onceL, Bool.and_eq_true] at h1
    rw [List.cons_append, onceL, Bool.and_eq_true]
    refine ⟨?_, onceL_app L M h1.2 h2 fun t ht => h3 t (List.mem_cons_of_mem _ ht)⟩
    rw [Bool.or_eq_true] at h1 ⊢
    rcases h1.1 with h | h
    · exact .inl h
    · cases he : s.isEmpty with
      | true => exact .inl rfl
      | false =>
        refine .inr ?_
        have h4 := h3 s List.mem_cons_self he
        rw [Bool.not_eq_true', List.contains_eq_mem, decide_eq_false_iff_not] at h ⊢
        rw [List.mem_append]
        rintro (h5 | h5)
        · exact h h5
        · exact h4 h5
theorem place_inj (i j : Nat) (hi : i < 11) (hj : j < 11) (h : UInt8.ofNat (112 + i) = UInt8.ofNat (112 + j)) : i = j := by
  have h2 := congrArg UInt8.toNat h
  rw [UInt8.toNat_ofNat', UInt8.toNat_ofNat'] at h2
  omega
theorem NmR.app {p q r : Nat} {L M : List (List UInt8)} (h : NmR p q L) (k : NmR q r M) (hpq : p ≤ q) (hqr : q ≤ r) (hr : r ≤ 11) : NmR p r (L ++ M) := by
  refine ⟨onceL_app L M h.1 k.1 fun s hs he hm => ?_, fun s hs he => ?_⟩
  · obtain ⟨i, h1, h2, h3⟩ := h.2 s hs he
    obtain ⟨j, k1, k2, k3⟩ := k.2 s hm he
    rw [h3] at k3
    injection k3 with k3
    have := place_inj i j (by omega) (by omega) k3
    omega
  · rcases List.mem_append.1 hs with hs | hs
    · obtain ⟨i, h1, h2, h3⟩ := h.2 s hs he
      exact ⟨i, h1, by omega, h3⟩
    · obtain ⟨i, h1, h2, h3⟩ := k.2 s hs he
      exact ⟨i, by omega, h2, h3⟩
theorem NmR.nil (p q : Nat) : NmR p q [] := ⟨rfl, fun s hs => by cases hs⟩
theorem NmR.one (k p : Nat) : NmR p (p + 1) [(kA k p).nm] := by
  refine ⟨by simp [onceL], fun s hs he => ?_⟩
  rw [List.mem_singleton] at hs
  subst hs
  unfold kA at he ⊢
  simp only at he ⊢
  split at he
  · rename_i h
    rw [if_pos h]
    exact ⟨p, by omega, by omega, rfl⟩
  · cases he
theorem NmR.bare (p : Nat) : NmR p p [[]] := ⟨rfl, fun s hs he => by rw [List.mem_singleton] at hs; subst hs; cases he⟩

/-! The kids of a pattern -/
inductive KF : Nd → Nat → Nat → Prop
  | leaf (mn mx : Int) (k p : Nat) (h1 : 1 ≤ mn) (h2 : mn ≤ mx) (h3 : mx ≤ 6) : KF (.mk 1 mn mx (kA k p) []) p (p + 1)
  | alt (mn mx mn' mx' : Int) (k k' p : Nat) (h1 : 1 ≤ mn) (h2 : mn ≤ mx) (h3 : mx ≤ 6) (g1 : 1 ≤ mn') (g2 : mn' ≤ mx') (g3 : mx' ≤ 6) : KF (.mk 4 0 0 noA [.mk 1 mn mx (kA k p) [], .mk 1 mn' mx' (kA k' (p + 1)) []]) p (p + 2)
  | no (k p : Nat) : KF (.mk 2 0 0 (bareA (kA k 0)) []) p p
inductive KL : List Nd → Nat → Nat → Prop
  | nil (p : Nat) : KL [] p p
  | cons {n : Nd} {ns : List Nd} {p q r : Nat} (h : KF n p q) (k : KL ns q r) : KL (n :: ns) p r
theorem KF.le {n : Nd} {p q : Nat} (h : KF n p q) : p ≤ q := by cases h <;> omega
theorem KL.le {ns : List Nd} {p q : Nat} (h : KL ns p q) : p ≤ q := by
  induction h with
  | nil p => exact Nat.le_refl _
  | cons h k ih => exact Nat.le_trans h.le ih
theorem KL.app {a b : List Nd} {p q r : Nat} (h : KL a p q) (k : KL b q r) : KL (a ++ b) p r := by
  induction h with
  | nil p => exact k
  | cons h _ ih => exact .cons h (ih k)
theorem KF.one {n : Nd} {p q : Nat} (h : KF n p q) : KF (oneN n) p q := by
  cases h with
  | leaf mn mx k p h1 h2 h3 => exact .leaf 1 1 k p (by omega) (by omega) (by omega)
  | alt mn mx mn' mx' k k' p => exact .alt 1 1 1 1 k k' p (by omega) (by omega) (by omega) (by omega) (by omega) (by omega)
  | no k p => exact .no k p
theorem KL.one {ns : List Nd} {p q : Nat} (h : KL ns p q) : KL (oneL ns) p q := by
  induction h with
  | nil p => exact .nil p
  | cons h _ ih => exact .cons h.one ih
/-- How many leaves. -/
def lvN (n : Nd) : Nat := ((subsN n).filter leafB).length
def lvL (ns : List Nd) : Nat := ((subsL ns).filter leafB).length
theorem lvL_cons (n : Nd) (ns : List Nd) : lvL (n :: ns) = lvN n + lvL ns := by unfold lvL lvN; rw [subsL, List.filter_append, List.length_append]
theorem lvL_app (a b : List Nd) : lvL (a ++ b) = lvL a + lvL b := by
  induction a with
  | nil => simp [lvL, subsL]
  | cons n ns ih => rw [List.cons_append, lvL_cons, lvL_cons, ih]; omega
/-- What holds of each kid by itself. -/
structure KE (n : Nd) : Prop where
  so : ∀ d, d ≤ 90 → soundN d n = true
  times : (leavesN n).all timesB = true
  wide : (subsN n).any wideB = false
  lv : 1 ≤ lvN n
  dep : depthN n ≤ 2
  st : (subsN n).all standsN = true
  bare : bareB n = true
theorem nodeB_1 {mn mx : Int} {a : At} (ha : atomB a = true) (h1 : 1 ≤ mn) (h2 : mn ≤ mx) (h3 : mx ≤ 6) : nodeB 1 mn mx a 0 = true := by
  unfold nodeB
  rw [if_pos rfl]
  simp only [ha, Bool.true_and, Bool.and_eq_true, decide_eq_true_eq, and_true]
  refine ⟨⟨by omega, by omega⟩, by omega, by omega⟩
theorem sound_1 {mn mx : Int} {a : At} (ha : atomB a = true) (h1 : 1 ≤ mn) (h2 : mn ≤ mx) (h3 : mx ≤ 6) (d : Nat) (hd : d ≤ 100) : soundN d (.mk 1 mn mx a []) = true := by
  rw [soundN, soundL, List.length_nil, nodeB_1 ha h1 h2 h3]
  simp
  omega
theorem times_1 {mn mx : Int} {a : At} {ks : List Nd} (h1 : 1 ≤ mn) (h2 : mn ≤ mx) (h3 : mx ≤ 6) : timesB (.mk 1 mn mx a ks) = true := by
  unfold timesB
  simp [h1, h2, h3]
theorem wide_1 {k mn mx : Int} {a : At} (h : a.cs.length ≤ 1) : wideB (.mk k mn mx a []) = false := by
  unfold wideB
  have h1 : ¬ 4 < a.cs.length := by omega
  rw [show (Nd.mk k mn mx a []).atom = a from rfl, decide_eq_false h1]
  rfl
theorem stands_nil (k mn mx : Int) (a : At) : standsN (.mk k mn mx a []) = true := rfl
theorem subs_1 (k mn mx : Int) (a : At) : subsN (.mk k mn mx a []) = [.mk k mn mx a []] := by rw [subsN, subsL]
theorem subs_2 (k mn mx : Int) (a : At) (x y : Nd) : subsN (.mk k mn mx a [x, y]) = .mk k mn mx a [x, y] :: (subsN x ++ subsN y) := by rw [subsN, subsL, subsL, subsL, List.append_nil]
theorem leaves_1 (k mn mx : Int) (a : At) : leavesN (.mk k mn mx a []) = [.mk k mn mx a []] := by unfold leavesN; rw [subs_1]; rfl
theorem lvN_1 (k mn mx : Int) (a : At) : lvN (.mk k mn mx a []) = 1 := by unfold lvN; rw [subs_1]; rfl
theorem dep_1 (k mn mx : Int) (a : At) : depthN (.mk k mn mx a []) = 1 := rfl
theorem notB_1 (mn mx : Int) (a : At) (ks : List Nd) : isNotB (.mk 1 mn mx a ks) = false := rfl
theorem leafE {mn mx : Int} {k p : Nat} (hp : p ≤ 10) (h1 : 1 ≤ mn) (h2 : mn ≤ mx) (h3 : mx ≤ 6) : KE (.mk 1 mn mx (kA k p) []) := by
  have hc := (kA_sm k p).2.2.1
  refine ⟨fun d hd => sound_1 (kA_b k p hp) h1 h2 h3 d (by omega), ?_, ?_, ?_, ?_, ?_, ?_⟩
  · rw [leaves_1]; simp [times_1 h1 h2 h3]
  · rw [subs_1]; simp [wide_1 hc]
  · rw [lvN_1]; omega
  · rw [dep_1]; omega
  · rw [subs_1]; simp [stands_nil]
  · unfold bareB; rw [leaves_1]; simp [notB_1]
theorem bare_b (k : Nat) : atomB (bareA (kA k 0)) = true := by
  have hb := kA_b k 0 (by omega)
  unfold atomB at hb ⊢
  simp only [Bool.and_eq_true] at hb
  simp only [bareA, Bool.and_eq_true]
  exact ⟨⟨⟨hb.1.1.1, hb.1.1.2⟩, hb.1.2⟩, rfl⟩
theorem sound_2 {a : At} (ha : atomB a = true) (d : Nat) (hd : d ≤ 100) : soundN d (.mk 2 0 0 a []) = true := by
  rw [soundN, soundL, List.length_nil]
  unfold nodeB
  simp [ha]
  omega
theorem notE {a : At} (ha : atomB a = true) (hc : a.cs.length ≤ 1) (hn : a.nm = []) : KE (.mk 2 0 0 a []) := by
  refine ⟨fun d hd => sound_2 ha d (by omega), ?_, ?_, ?_, ?_, ?_, ?_⟩
  · rw [leaves_1]; rfl
  · rw [subs_1]; simp [wide_1 hc]
  · rw [lvN_1]; omega
  · rw [dep_1]; omega
  · rw [subs_1]; simp [stands_nil]
  · unfold bareB; rw [leaves_1]; simp [hasNm, Nd.atom, hn]
theorem KF.e {n : Nd} {p q : Nat} (h : KF n p q) (hq : q ≤ 11) : KE n := by
  cases h with
  | leaf mn mx k p h1 h2 h3 => exact leafE (by omega) h1 h2 h3
  | no k p => exact notE (bare_b k) (kA_sm k 0).2.2.1 rfl
  | alt mn mx mn' mx' k k' p h1 h2 h3 g1 g2 g3 =>
    have a := leafE (k := k) (p := p) (by omega) h1 h2 h3
    have b := leafE (k := k') (p := p + 1) (by omega) g1 g2 g3
    refine ⟨fun d hd => ?_, ?_, ?_, ?_, ?_, ?_, ?_⟩
    · have a1 := sound_1 (kA_b k p (by omega)) h1 h2 h3 (d + 1) (by omega)
      have b1 := sound_1 (kA_b k' (p + 1) (by omega)) g1 g2 g3 (d + 1) (by omega)
      rw [soundN, soundL, soundL, soundL, a1, b1]
      unfold nodeB
      simp [zeroB, noA]
      omega
    · unfold leavesN
      rw [subs_2, subs_1, subs_1]
      simp [Nd.kids, times_1 h1 h2 h3, times_1 g1 g2 g3]
    · rw [subs_2, subs_1, subs_1]
      simp [wide_1 (kA_sm k p).2.2.1, wide_1 (kA_sm k' (p + 1)).2.2.1]
      simp [wideB, Nd.kids, Nd.atom, noA]
    · unfold lvN
      rw [subs_2, subs_1, subs_1]
      exact Nat.le_add_left 1 1
    · simp [depthN, depthL]
    · rw [subs_2, subs_1, subs_1]
      simp [stands_nil]
      simp [standsN, standL, notB_1, List.range_succ]
    · unfold bareB leavesN
      rw [subs_2, subs_1, subs_1]
      simp [Nd.kids, notB_1]
theorem KF.names {n : Nd} {p q : Nat} (h : KF n p q) (hq : q ≤ 11) : NmR p q (leafNames n) := by
  cases h with
  | leaf mn mx k p h1 h2 h3 => unfold leafNames; rw [leaves_1]; exact NmR.one k p
  | no k p => unfold leafNames; rw [leaves_1]; exact NmR.bare p
  | alt mn mx mn' mx' k k' p h1 h2 h3 g1 g2 g3 =>
    have := (NmR.one k p).app (NmR.one k' (p + 1)) (by omega) (by omega) hq
    unfold leafNames leavesN
    rw [subs_2, subs_1, subs_1]
    exact this
/-- The leaves of kids. -/
theorem KL.names {ns : List Nd} {p q : Nat} (h : KL ns p q) (hq : q ≤ 11) : NmR p q (((subsL ns).filter fun t => t.kids.isEmpty).map fun n => n.atom.nm) := by
  induction h with
  | nil p => exact NmR.nil p p
  | cons h k ih =>
    have h1 := h.names (Nat.le_trans k.le hq)
    rw [subsL, List.filter_append, List.map_append]
    exact h1.app (ih hq) h.le k.le hq
theorem KL.e {ns : List Nd} {p q : Nat} (h : KL ns p q) (hq : q ≤ 11) : ∀ n ∈ ns, KE n := by
  induction h with
  | nil p => intro n hn; cases hn
  | cons h k ih =>
    intro n hn
    rcases List.mem_cons.1 hn with rfl | hn
    · exact h.e (Nat.le_trans k.le hq)
    · exact ih hq n hn
theorem depL_le : ∀ (ns : List Nd), (∀ n ∈ ns, depthN n ≤ 2) → depthL ns ≤ 2
  | [], _ => Nat.zero_le _
  | n :: ns, h => by rw [depthL]; exact Nat.max_le.2 ⟨h n List.mem_cons_self, depL_le ns fun x hx => h x (List.mem_cons_of_mem _ hx)⟩
/-- A node of kids: what Check finds of it. -/
structure Root (k : Int) (ns : List Nd) : Prop where
  k : k = 3 ∨ k = 4
  e : ∀ n ∈ ns, KE n
  lo : 2 ≤ ns.length
  hi : ns.length ≤ 8
  lv : lvL ns ≤ 12
theorem Root.check {k : Int} {ns : List Nd} (h : Root k ns) : checkB (plainQ (.mk k 0 0 noA ns)) = true := by
  unfold checkB plainQ
  have hs : soundN 1 (.mk k 0 0 noA ns) = true := by
    rw [soundN, soundL_all]
    have h1 : ns.all (soundN (1 + 1)) = true := List.all_eq_true.2 fun n hn => (h.e n hn).so 2 (by omega)
    have h2 := h.lo
    rw [h1]
    unfold nodeB
    rcases h.k with rfl | rfl <;> (simp [zeroB, noA]; omega)
  simp [hs]
theorem any_subs {ns : List Nd} (h : ∀ n ∈ ns, (subsN n).any wideB = false) : (subsL ns).any wideB = false := by
  induction ns with
  | nil => rfl
  | cons n ns ih => rw [subsL, List.any_append, h n List.mem_cons_self, ih fun x hx => h x (List.mem_cons_of_mem _ hx)]; rfl
theorem all_subs {ns : List Nd} {f : Nd → Bool} (h : ∀ n ∈ ns, (subsN n).all f = true) : (subsL ns).all f = true := by
  induction ns with
  | nil => rfl
  | cons n ns ih => rw [subsL, List.all_append, h n List.mem_cons_self, ih fun x hx => h x (List.mem_cons_of_mem _ hx)]; rfl
theorem all_leaves {ns : List Nd} {f : Nd → Bool} (h : ∀ n ∈ ns, (leavesN n).all f = true) : ((subsL ns).filter fun t => t.kids.isEmpty).all f = true := by
  induction ns with
  | nil => rfl
  | cons n ns ih => rw [subsL, List.filter_append, List.all_append, ih fun x hx => h x (List.mem_cons_of_mem _ hx), Bool.and_true]; exact h n List.mem_cons_self
theorem Root.ne {k : Int} {ns : List Nd} (h : Root k ns) : ns.isEmpty = false := by
  have := h.lo
  cases ns with
  | nil => simp at this
  | cons a b => rfl
theorem Root.leaves {k : Int} {ns : List Nd} (h : Root k ns) : leavesN (.mk k 0 0 noA ns) = (subsL ns).filter fun t => t.kids.isEmpty := by
  unfold leavesN
  rw [subsN, List.filter_cons_of_neg]
  show ¬ ns.isEmpty = true
  rw [h.ne]
  decide
theorem Root.full {k : Int} {ns : List Nd} (h : Root k ns) : fullB (plainQ (.mk k 0 0 noA ns)) = false := by
  have h1 := any_subs fun n hn => (h.e n hn).wide
  have h2 : ((subsN (.mk k 0 0 noA ns)).filter leafB).length ≤ 12 := by
    rw [subsN, List.filter_cons_of_neg]
    · exact h.lv
    · show ¬ ns.isEmpty = true
      rw [h.ne]
      decide
  have h3 : (subsN (.mk k 0 0 noA ns)).any wideB = false := by
    rw [subsN, List.any_cons, h1]
    have h8 : ¬ 8 < ns.length := by have := h.hi; omega
    unfold wideB
    rw [decide_eq_false (p := 8 < (Nd.mk k 0 0 noA ns).kids.length) h8]
    rfl
  unfold fullB roomL plainQ
  simp only [List.length_nil, h3]
  simp
  exact h2
theorem Root.depth {k : Int} {ns : List Nd} (h : Root k ns) : ¬ 6 < depthN (plainQ (.mk k 0 0 noA ns)).p := by
  have := depL_le ns fun n hn => (h.e n hn).dep
  show ¬ 6 < depthN (.mk k 0 0 noA ns)
  rw [depthN]
  omega
theorem Root.range {k : Int} {ns : List Nd} (h : Root k ns) : rangeB (plainQ (.mk k 0 0 noA ns)) = true := by
  unfold rangeB plainQ
  simp only
  rw [h.leaves, all_leaves fun n hn => (h.e n hn).times]
  rfl
theorem Root.notK {k : Int} {ns : List Nd} (h : Root k ns) : isNotB (.mk k 0 0 noA ns) = false := by rcases h.k with rfl | rfl <;> rfl
theorem Root.nots {k : Int} {ns : List Nd} (h : Root k ns) : notsB (.mk k 0 0 noA ns) = (List.range ns.length).all (standL k ns) := by
  unfold notsB
  rw [h.notK, subsN, List.all_cons, all_subs fun n hn => (h.e n hn).st]
  simp [standsN]
/-- A Not that stands wrong. -/
theorem Root.nine {k : Int} {ns : List Nd} (h : Root k ns) (hs : (List.range ns.length).all (standL k ns) = false) : wfE (plainQ (.mk k 0 0 noA ns)) = 9 := by
  unfold wfE
  rw [if_neg (by rw [h.check]; decide), if_neg (by rw [h.full]; decide), if_neg h.depth, if_neg (by rw [h.range]; decide), if_pos]
  show notsB (.mk k 0 0 noA ns) = false
  rw [h.nots, hs]
theorem Root.zero {k : Int} {ns : List Nd} (h : Root k ns) (hs : (List.range ns.length).all (standL k ns) = true) {p q : Nat} (hn : NmR p q (((subsL ns).filter fun t => t.kids.isEmpty).map fun n => n.atom.nm)) : wfE (plainQ (.mk k 0 0 noA ns)) = 0 := by
  have hb : bareB (.mk k 0 0 noA ns) = true := by
    unfold bareB
    rw [h.leaves]
    exact all_leaves fun n hn => (h.e n hn).bare
  unfold wfE
  rw [if_neg (by rw [h.check]; decide), if_neg (by rw [h.full]; decide), if_neg h.depth, if_neg (by rw [h.range]; decide), if_neg, if_neg, if_neg]
  · rintro (h1 | h1)
    · rw [show (plainQ (.mk k 0 0 noA ns)).p = .mk k 0 0 noA ns from rfl, hb] at h1
      cases h1
    · cases h1
  · show ¬ onceL (leafNames (.mk k 0 0 noA ns)) = false
    unfold leafNames
    rw [h.leaves, hn.1]
    decide
  · show ¬ notsB (.mk k 0 0 noA ns) = false
    rw [h.nots, hs]
    decide
end Go.Proofs.YtdoioaeppepndaaGreatDoor.W10
namespace Go.Proofs.YtdoioaeppepndaaGreatDoor.W10
open A8 Kq

mutual
theorem subs_one : ∀ n : Nd, subsN (oneN n) = (subsN n).map oneN
  | .mk k mn mx a ks => by rw [oneN, subsN, subsN, List.map_cons, subsL_one ks, oneN]
theorem subsL_one : ∀ ns : List Nd, subsL (oneL ns) = (subsL ns).map oneN
  | [] => rfl
  | n :: ns => by rw [oneL, subsL, subsL, List.map_append, subs_one n, subsL_one ns]
end
theorem leafB_one (n : Nd) : leafB (oneN n) = leafB n := by
  cases n with
  | mk k mn mx a ks =>
    show (oneL ks).isEmpty = ks.isEmpty
    cases ks <;> rfl
theorem filter_one (l : List Nd) : ((l.map oneN).filter leafB).length = (l.filter leafB).length := by
  rw [List.filter_map, List.length_map]
  congr 1
  apply List.filter_congr
  intro x _
  exact leafB_one x
theorem lvL_one (ns : List Nd) : lvL (oneL ns) = lvL ns := by unfold lvL; rw [subsL_one, filter_one]
theorem otherB_one (l : List Nd) : otherB (l.map oneN) = otherB l := by
  unfold otherB
  rw [List.any_map]
  congr 1
  funext x
  show (!isNotB (oneN x)) = _
  rw [one_not]
theorem standL_one (k : Int) (ns : List Nd) (i : Nat) : standL k (oneL ns) i = standL k ns i := by
  rw [oneL_map]
  unfold standL
  rw [List.getElem?_map]
  cases ns[i]? with
  | none => rfl
  | some n => simp only [Option.map_some]; rw [one_not, ← List.map_take, ← List.map_drop, otherB_one, otherB_one]
theorem oneL_len (ns : List Nd) : (oneL ns).length = ns.length := by rw [oneL_map, List.length_map]

/-- A pattern made of numbers. -/
inductive PatOk : Nd → Prop
  | leaf (mn mx : Int) (k p : Nat) (h1 : 1 ≤ mn) (h2 : mn ≤ mx) (h3 : mx ≤ 6) (hp : p ≤ 10) : PatOk (.mk 1 mn mx (kA k p) [])
  | kids {k : Int} {ns : List Nd} {p q : Nat} (r : Root k ns) (hl : KL ns p q) (hq : q ≤ 11) (hs : (List.range ns.length).all (standL k ns) = true) : PatOk (.mk k 0 0 noA ns)
theorem checkB_plain {P : Nd} (h : soundN 1 P = true) : checkB (plainQ P) = true := by unfold checkB plainQ; simp [h]
theorem full_1 {k mn mx : Int} {a : At} (h : a.cs.length ≤ 1) : fullB (plainQ (.mk k mn mx a [])) = false := by
  unfold fullB roomL plainQ
  simp only [subs_1, List.any_cons, List.any_nil, wide_1 h, List.length_nil]
  rfl
theorem leaf_zero {mn mx : Int} {k p : Nat} (h1 : 1 ≤ mn) (h2 : mn ≤ mx) (h3 : mx ≤ 6) (hp : p ≤ 10) : wfE (plainQ (.mk 1 mn mx (kA k p) [])) = 0 := by
  have e := leafE (k := k) hp h1 h2 h3
  unfold wfE
  rw [if_neg (by rw [checkB_plain (e.so 1 (by omega))]; decide), if_neg (by rw [full_1 (kA_sm k p).2.2.1]; decide), if_neg (by show ¬ 6 < depthN (.mk 1 mn mx (kA k p) []); rw [dep_1]; omega), if_neg, if_neg, if_neg, if_neg]
  · rintro (h | h)
    · rw [show (plainQ (.mk 1 mn mx (kA k p) [])).p = .mk 1 mn mx (kA k p) [] from rfl, e.bare] at h
      cases h
    · cases h
  · show ¬ onceL (leafNames (.mk 1 mn mx (kA k p) [])) = false
    unfold leafNames
    rw [leaves_1]
    have h1 : onceL (List.map (fun n => n.atom.nm) [Nd.mk 1 mn mx (kA k p) []]) = true := (NmR.one k p).1
    rw [h1]
    decide
  · show ¬ notsB (.mk 1 mn mx (kA k p) []) = false
    unfold notsB
    rw [e.st, notB_1]
    decide
  · show ¬ (decide ((0 : Int) ≤ 10000) && (leavesN (.mk 1 mn mx (kA k p) [])).all timesB) = false
    rw [e.times]
    decide
theorem not_nine {a : At} (ha : atomB a = true) (hc : a.cs.length ≤ 1) : wfE (plainQ (.mk 2 0 0 a [])) = 9 := by
  unfold wfE
  rw [if_neg (by rw [checkB_plain (sound_2 ha 1 (by omega))]; decide), if_neg (by rw [full_1 hc]; decide), if_neg (by show ¬ 6 < depthN (.mk 2 0 0 a []); rw [dep_1]; omega), if_neg, if_pos]
  · rfl
  · show ¬ (decide ((0 : Int) ≤ 10000) && (leavesN (.mk 2 0 0 a [])).all timesB) = false
    rw [leaves_1]
    simp [timesB]
theorem PatOk.zero {P : Nd} (h : PatOk P) : wfE (plainQ P) = 0 := by
  cases h with
  | leaf mn mx k p h1 h2 h3 hp => exact leaf_zero h1 h2 h3 hp
  | kids r hl hq hs => exact r.zero hs (hl.names hq)
theorem PatOk.one {P : Nd} (h : PatOk P) : PatOk (oneN P) := by
  cases h with
  | leaf mn mx k p h1 h2 h3 hp => exact .leaf 1 1 k p (by omega) (by omega) (by omega) hp
  | @kids k ns p q r hl hq hs =>
    have h1 : oneN (.mk k 0 0 noA ns) = .mk k 0 0 noA (oneL ns) := by
      rw [oneN]
      have : ¬ k = 1 := by rcases r.k with rfl | rfl <;> decide
      rw [if_neg this]
    rw [h1]
    refine .kids (p := p) (q := q) ⟨r.k, hl.one.e hq, by rw [oneL_len]; exact r.lo, by rw [oneL_len]; exact r.hi, by rw [lvL_one]; exact r.lv⟩ hl.one hq ?_
    rw [oneL_len, ← hs]
    congr 1
    funext i
    exact standL_one k ns i
theorem PatOk.single {P : Nd} (h : PatOk P) (hk : P.kids = []) : P.kind = 1 := by
  cases h with
  | leaf mn mx k p h1 h2 h3 hp => rfl
  | @kids k ns p q r hl hq hs =>
    have h1 := r.lo
    have h2 : ns = [] := hk
    rw [h2] at h1
    simp at h1
theorem KL.mem {ns : List Nd} {p q : Nat} (h : KL ns p q) {n : Nd} (hn : n ∈ ns) : ∃ a b, KF n a b ∧ b ≤ q := by
  induction h with
  | nil p => cases hn
  | cons h k ih =>
    rcases List.mem_cons.1 hn with rfl | hn
    · exact ⟨_, _, h, k.le⟩
    · exact ih hn
theorem KF.zero {n : Nd} {p q : Nat} (h : KF n p q) (hq : q ≤ 11) : (isNotB n = true → wfE (plainQ n) = 9) ∧ (isNotB n = false → wfE (plainQ n) = 0) := by
  cases h with
  | leaf mn mx k p h1 h2 h3 => exact ⟨fun h => (by rw [notB_1] at h; cases h), fun _ => leaf_zero h1 h2 h3 (by omega)⟩
  | no k p => exact ⟨fun _ => not_nine (bare_b k) (kA_sm k 0).2.2.1, fun h => (by cases h)⟩
  | alt mn mx mn' mx' k k' p h1 h2 h3 g1 g2 g3 =>
    refine ⟨fun h => (by cases h), fun _ => PatOk.zero (.kids (p := p) (q := p + 2) ⟨.inr rfl, ?_, by simp, by simp, ?_⟩ (.cons (.leaf mn mx k p h1 h2 h3) (.cons (.leaf mn' mx' k' (p + 1) g1 g2 g3) (.nil _))) hq ?_)⟩
    · intro n hn
      simp only [List.mem_cons, List.not_mem_nil, or_false] at hn
      rcases hn with rfl | rfl
      · exact leafE (by omega) h1 h2 h3
      · exact leafE (by omega) g1 g2 g3
    · rw [lvL_cons, lvL_cons, lvN_1, lvN_1]
      show 1 + (1 + 0) ≤ 12
      omega
    · simp [standL, notB_1, List.range_succ]
theorem PatOk.kid {P : Nd} (h : PatOk P) {n : Nd} (hn : n ∈ P.kids) : (isNotB n = true → wfE (plainQ n) = 9) ∧ (isNotB n = false → wfE (plainQ n) = 0) := by
  cases h with
  | leaf mn mx k p h1 h2 h3 hp => cases hn
  | kids r hl hq hs =>
    obtain ⟨a, b, hf, hb⟩ := hl.mem hn
    exact hf.zero (Nat.le_trans hb hq)

/-! A Not in the place of a kid -/
def notN : Nd := .mk 2 0 0 noA []
theorem notN_e : KE notN := notE (by decide) (by decide) rfl
theorem lvL_set : ∀ (ns : List Nd) (i : Nat), (∀ n ∈ ns, 1 ≤ lvN n) → lvL (ns.set i notN) ≤ lvL ns
  | [], i, _ => by rw [List.set_nil]; exact Nat.le_refl _
  | n :: ns, 0, h => by
    rw [List.set_cons_zero, lvL_cons, lvL_cons]
    have := h n List.mem_cons_self
    have h2 : lvN notN = 1 := lvN_1 _ _ _ _
    omega
  | n :: ns, i + 1, h => by
    rw [List.set_cons_succ, lvL_cons, lvL_cons]
    have := lvL_set ns i fun x hx => h x (List.mem_cons_of_mem _ hx)
    omega
theorem Root.set {k : Int} {ns : List Nd} (r : Root k ns) (i : Nat) : Root k (ns.set i notN) := by
  refine ⟨r.k, fun n hn => ?_, by rw [List.length_set]; exact r.lo, by rw [List.length_set]; exact r.hi, Nat.le_trans (lvL_set ns i fun n hn => (r.e n hn).lv) r.lv⟩
  rcases List.mem_or_eq_of_mem_set hn with h | h
  · exact r.e n h
  · rw [h]; exact notN_e
theorem stand_bad {k : Int} {ns : List Nd} {i : Nat} (hi : i < ns.length) (he : i = 0 ∨ i + 1 = ns.length) : (List.range (ns.set i notN).length).all (standL k (ns.set i notN)) = false := by
  rw [List.all_eq_false]
  refine ⟨i, by rw [List.mem_range, List.length_set]; exact hi, ?_⟩
  unfold standL
  rw [List.getElem?_set_self hi]
  have hn : isNotB notN = true := rfl
  simp only [hn]
  rcases he with rfl | he
  · simp [otherB]
  · have hd : (ns.set i notN).drop (i + 1) = [] := List.drop_of_length_le (by rw [List.length_set]; omega)
    rw [hd]
    simp [otherB]
theorem PatOk.bad {k mn mx : Int} {a : At} {ns : List Nd} (h : PatOk (.mk k mn mx a ns)) {i : Nat} (hi : i < ns.length) (he : i = 0 ∨ i + 1 = ns.length) : wfE (plainQ (.mk k mn mx a (ns.set i notN))) = 9 := by
  cases h with
  | leaf mn mx k p h1 h2 h3 hp => cases hi
  | kids r hl hq hs => exact (r.set i).nine (stand_bad hi he)

/-! The patterns made of numbers -/
theorem kMn_kMx (k : Nat) : 1 ≤ kMn k ∧ kMn k ≤ kMx k ∧ kMx k ≤ 6 := by
  unfold kMn kMx
  split <;> omega
theorem kLeaf_kf (k p : Nat) : KF (kLeaf k p) p (p + 1) := by
  obtain ⟨h1, h2, h3⟩ := kMn_kMx k
  exact .leaf _ _ k p h1 h2 h3
theorem kAlt_kf (k k' p : Nat) : KF (.mk 4 0 0 noA [kLeaf k p, kLeaf k' (p + 1)]) p (p + 2) := by
  obtain ⟨h1, h2, h3⟩ := kMn_kMx k
  obtain ⟨g1, g2, g3⟩ := kMn_kMx k'
  exact .alt _ _ _ _ k k' p h1 h2 h3 g1 g2 g3
theorem kGuard_kl (i k p : Nat) : KL (kGuard i k) p p := by
  unfold kGuard
  split
  · exact .cons (.no _ p) (.nil p)
  · exact .nil p
theorem kGuard_lv (i k : Nat) : lvL (kGuard i k) ≤ 1 := by
  unfold kGuard
  split
  · rw [lvL_cons, lvN_1]; exact Nat.le_refl 1
  · exact Nat.zero_le _
def Fst (ns : List Nd) : Prop := ∃ a r, ns = a :: r ∧ isNotB a = false
def Lst (ns : List Nd) : Prop := ∃ r b, ns = r ++ [b] ∧ isNotB b = false
structure KI (len m : Nat) (s : KS) : Prop where
  kl : KL s.kids 0 s.place
  lv : lvL s.kids ≤ 3 * m
  hd : s.kids = [] ∨ (Fst s.kids ∧ Lst s.kids)
  ne : s.kids = [] → m = 0 ∨ len = 0
theorem KI.step {len m : Nat} {s : KS} (h : KI len m s) (k : Nat) (hm : m < len) {n : Nd} {q : Nat} (hn : KF n s.place q) (h1 : isNotB n = false) (h2 : lvN n ≤ 2) (nms : List (List UInt8)) : KI len (m + 1) ⟨s.kids ++ kGuard m k ++ [n], nms, q⟩ := by
  refine ⟨(h.kl.app (kGuard_kl m k _)).app (.cons hn (.nil q)), ?_, .inr ⟨?_, _, n, rfl, h1⟩, fun e => ?_⟩
  · have := h.lv
    have := kGuard_lv m k
    show lvL (s.kids ++ kGuard m k ++ [n]) ≤ _
    rw [lvL_app, lvL_app, lvL_cons]
    have h0 : lvL [] = 0 := rfl
    omega
  · show Fst (s.kids ++ kGuard m k ++ [n])
    rcases h.hd with he | ⟨⟨a, r, ha, hb⟩, _⟩
    · have h0 : m = 0 := by rcases h.ne he with h | h <;> omega
      subst h0
      have hg : kGuard 0 k = [] := by unfold kGuard; rw [if_neg (by omega)]
      rw [he, hg]
      exact ⟨n, [], rfl, h1⟩
    · rw [ha]
      exact ⟨a, _, rfl, hb⟩
  · have e' : s.kids ++ kGuard m k ++ [n] = [] := e
    simp at e'
theorem kLoop_ki (l : List Int) : ∀ m, KI l.length m (kLoop l m)
  | 0 => ⟨.nil 0, Nat.le_refl 0, .inl rfl, fun _ => .inl rfl⟩
  | m + 1 => by
    have ih := kLoop_ki l m
    rw [kLoop]
    split
    · rename_i hm
      unfold kStep
      split
      · refine ih.step _ hm (kAlt_kf _ _ _) rfl ?_ _
        unfold lvN
        rw [subs_2, kLeaf, kLeaf, subs_1, subs_1]
        exact Nat.le_refl 2
      · refine ih.step _ hm (kLeaf_kf _ _) rfl ?_ _
        rw [kLeaf, lvN_1]
        omega
    · exact ⟨ih.kl, by have := ih.lv; omega, ih.hd, fun e => .inr (by rcases ih.ne e with h | h <;> omega)⟩
theorem stands_ends {ns : List Nd} (h1 : Fst ns) (h2 : Lst ns) : (List.range ns.length).all (standL 3 ns) = true := by
  rw [List.all_eq_true]
  intro i hi
  rw [List.mem_range] at hi
  unfold standL
  rw [List.getElem?_eq_getElem hi]
  simp only
  cases hn : isNotB ns[i] with
  | false => rfl
  | true =>
    obtain ⟨a, r, ha, hna⟩ := h1
    obtain ⟨r2, b, hb, hnb⟩ := h2
    have i0 : i ≠ 0 := by
      rintro rfl
      simp only [ha, List.getElem_cons_zero] at hn
      rw [hna] at hn
      cases hn
    have i1 : i < r2.length := by
      have hl : ns.length = r2.length + 1 := by rw [hb]; simp
      rcases Nat.lt_or_ge i r2.length with h | h
      · exact h
      · have : i = r2.length := by omega
        subst this
        simp only [hb] at hn
        rw [List.getElem_append_right (Nat.le_refl _)] at hn
        simp only [Nat.sub_self, List.getElem_cons_zero] at hn
        rw [hnb] at hn
        cases hn
    have o1 : otherB (ns.take i) = true := by
      unfold otherB
      rw [List.any_eq_true]
      refine ⟨a, ?_, by rw [hna]; rfl⟩
      rw [ha]
      obtain ⟨j, rfl⟩ : ∃ j, i = j + 1 := ⟨i - 1, by omega⟩
      rw [List.take_succ_cons]
      exact List.mem_cons_self
    have o2 : otherB (ns.drop (i + 1)) = true := by
      unfold otherB
      rw [List.any_eq_true]
      refine ⟨b, ?_, by rw [hnb]; rfl⟩
      rw [hb, List.drop_append_of_le_length (by omega)]
      simp
    rw [o1, o2]
    rfl
theorem kit_pat (l : List Int) : PatOk (kitQ l).p := by
  have h := kLoop_ki l 4
  have ho := kLoop_ok l 4 (Nat.le_refl _)
  show PatOk (kPat (kLoop l 4).kids)
  generalize kLoop l 4 = s at h ho ⊢
  obtain ⟨ks, ns, pl⟩ := s
  obtain ⟨h1, h2, h3, h4⟩ := h
  have hp : pl ≤ 8 := ho.pl
  have hlen : ks.length ≤ 8 := ho.len
  simp only at h1 h2 h3 h4 ⊢
  unfold kPat
  cases ks with
  | nil =>
    obtain ⟨g1, g2, g3⟩ := kMn_kMx 0
    exact .leaf _ _ 0 0 g1 g2 g3 (by omega)
  | cons a ks =>
    rcases h3 with h3 | ⟨h3, h5⟩
    · cases h3
    cases ks with
    | nil =>
      obtain ⟨a', r, ha, hna⟩ := h3
      injection ha with ha _
      subst ha
      cases h1 with
      | cons hf hk =>
        cases hk with
        | nil =>
          cases hf with
          | leaf mn mx k p g1 g2 g3 => exact .leaf _ _ _ _ g1 g2 g3 (by omega)
          | no k p => cases hna
          | alt mn mx mn' mx' k k' p g1 g2 g3 f1 f2 f3 =>
            refine .kids (p := 0) (q := 0 + 2) ⟨.inr rfl, ?_, by simp, by simp, ?_⟩ (.cons (.leaf mn mx k 0 g1 g2 g3) (.cons (.leaf mn' mx' k' (0 + 1) f1 f2 f3) (.nil _))) (by omega) ?_
            · intro n hn
              simp only [List.mem_cons, List.not_mem_nil, or_false] at hn
              rcases hn with rfl | rfl
              · exact leafE (by omega) g1 g2 g3
              · exact leafE (by omega) f1 f2 f3
            · rw [lvL_cons, lvL_cons, lvN_1, lvN_1]
              show 1 + (1 + 0) ≤ 12
              omega
            · simp [standL, notB_1, List.range_succ]
    | cons b ks =>
      exact .kids ⟨.inl rfl, h1.e (by omega), by simp, hlen, by omega⟩ h1 (by omega) (stands_ends h3 h5)
end Go.Proofs.YtdoioaeppepndaaGreatDoor.W10
namespace Go.Proofs.YtdoioaeppepndaaGreatDoor.W10
open A8 Kq

mutual
theorem nodes_len : ∀ n : Nd, nodesN n = (subsN n).length
  | .mk k mn mx a ks => by rw [nodesN, subsN, List.length_cons, nodesL_len ks]; omega
theorem nodesL_len : ∀ ns : List Nd, nodesL ns = (subsL ns).length
  | [] => rfl
  | n :: ns => by rw [nodesL, subsL, List.length_append, nodes_len n, nodesL_len ns]
end
def lenN (n : Nd) : Nat := (subsN n).length
theorem len_one (n : Nd) : lenN (oneN n) = lenN n := by unfold lenN; rw [subs_one, List.length_map]
theorem kid_in : ∀ {ks : List Nd} {n t : Nd}, n ∈ ks → t ∈ subsN n → t ∈ subsL ks
  | n :: ns, m, t, h, ht => by
    rw [subsL, List.mem_append]
    rcases List.mem_cons.1 h with rfl | h
    · exact .inl ht
    · exact .inr (kid_in h ht)
theorem len_kidL : ∀ {ks : List Nd} {n : Nd}, n ∈ ks → lenN n ≤ (subsL ks).length
  | m :: ns, n, h => by
    rw [subsL, List.length_append]
    rcases List.mem_cons.1 h with rfl | h
    · exact Nat.le_add_right _ _
    · exact Nat.le_trans (len_kidL h) (Nat.le_add_left _ _)
theorem len_kid {k mn mx : Int} {a : At} {ks : List Nd} {n : Nd} (h : n ∈ ks) : lenN n ≤ lenN (.mk k mn mx a ks) := by
  have := len_kidL h
  unfold lenN at this ⊢
  rw [subsN, List.length_cons]
  omega
theorem len_pos (n : Nd) : 1 ≤ lenN n := by cases n; unfold lenN; rw [subsN, List.length_cons]; omega
theorem len_setL : ∀ (ks : List Nd) (i : Nat), (subsL (ks.set i notN)).length ≤ (subsL ks).length
  | [], i => by rw [List.set_nil]; exact Nat.le_refl _
  | n :: ns, 0 => by
    rw [List.set_cons_zero, subsL, subsL, List.length_append, List.length_append]
    have h1 := len_pos n
    have h2 : (subsN notN).length = 1 := rfl
    unfold lenN at h1
    omega
  | n :: ns, i + 1 => by
    rw [List.set_cons_succ, subsL, subsL, List.length_append, List.length_append]
    have := len_setL ns i
    omega
theorem len_set (k mn mx : Int) (a : At) (ks : List Nd) (i : Nat) : lenN (.mk k mn mx a (ks.set i notN)) ≤ lenN (.mk k mn mx a ks) := by
  have := len_setL ks i
  unfold lenN
  rw [subsN, subsN, List.length_cons, List.length_cons]
  omega
theorem PatOk.wide {P : Nd} (h : PatOk P) : (subsN P).any wideB = false := by
  cases h with
  | leaf mn mx k p h1 h2 h3 hp => exact (leafE (k := k) hp h1 h2 h3).wide
  | @kids k ns p q r hl hq hs =>
    rw [subsN, List.any_cons, any_subs fun n hn => (r.e n hn).wide]
    have h8 : ¬ 8 < ns.length := by have := r.hi; omega
    unfold wideB
    rw [decide_eq_false (p := 8 < (Nd.mk k 0 0 noA ns).kids.length) h8]
    rfl
/-- Small lists in each part. -/
theorem PatOk.small {P : Nd} (h : PatOk P) : ∀ t ∈ subsN P, t.atom.cs.length ≤ 1000 ∧ t.kids.length ≤ 1000 := by
  intro t ht
  have h1 := List.any_eq_false.1 h.wide t ht
  unfold wideB at h1
  simp only [Bool.or_eq_true, decide_eq_true_eq, not_or] at h1
  omega
theorem kit_len (l : List Int) : lenN (kitQ l).p ≤ 25 := by
  have := (kitQ_ok l).few
  rw [nodes_len] at this
  exact this
theorem kind_not (n : Nd) : isNotB n = decide (n.kind = 2) := rfl
end Go.Proofs.YtdoioaeppepndaaGreatDoor.W10
namespace Go.Proofs.YtdoioaeppepndaaGreatDoor.W10
open A8 Kq

/-- What a query is that has no error. -/
structure WfIs (q : Qu) : Prop where
  check : checkB q = true
  full : fullB q = false
  dep : ¬ 6 < depthN q.p
  range : rangeB q = true
  nots : notsB q.p = true
  once : onceL (leafNames q.p) = true
  bare : bareB q.p = true
  known : knownB q = true
theorem WfIs.zero {q : Qu} (h : WfIs q) : wfE q = 0 := by
  unfold wfE
  rw [if_neg (by rw [h.check]; decide), if_neg (by rw [h.full]; decide), if_neg h.dep, if_neg (by rw [h.range]; decide), if_neg (by rw [h.nots]; decide), if_neg (by rw [h.once]; decide), if_neg]
  rw [h.bare, h.known]
  decide
theorem wf_is {q : Qu} (h : wfE q = 0) : WfIs q := by
  unfold wfE at h
  split at h
  · cases h
  · rename_i h1
    split at h
    · cases h
    · rename_i h2
      split at h
      · cases h
      · rename_i h3
        split at h
        · cases h
        · rename_i h4
          split at h
          · cases h
          · rename_i h5
            split at h
            · cases h
            · rename_i h6
              split at h
              · cases h
              · rename_i h7
                rw [not_or] at h7
                exact ⟨by simpa using h1, by simpa using h2, h3, by simpa using h4, by simpa using h5, by simpa using h6, by simpa using h7.1, by simpa using h7.2⟩
/-- A query whose pattern is well-formed. -/
theorem wf_of {q : Qu} (hp : wfE (plainQ q.p) = 0) (hc : checkB q = true) (hh : q.hv.length ≤ 4) (he : q.em.length ≤ 4) (hw : q.wi ≤ 10000) (hn : ∀ s ∈ useL q, s ∈ namesN q.p) : wfE q = 0 := by
  have h := wf_is hp
  have h2 := h.full
  have h3 := h.range
  refine WfIs.zero ⟨hc, ?_, h.dep, ?_, h.nots, h.once, h.bare, ?_⟩
  · unfold fullB plainQ at h2
    simp only [List.length_nil, Bool.or_eq_false_iff] at h2
    unfold fullB
    rw [decide_eq_false (p := 4 < q.hv.length) (by omega), decide_eq_false (p := 4 < q.em.length) (by omega), h2.2]
    rfl
  · unfold rangeB plainQ at h3
    simp only [Bool.and_eq_true] at h3
    unfold rangeB
    rw [decide_eq_true hw, h3.2]
    rfl
  · unfold knownB
    rw [List.all_eq_true]
    intro s hs
    simpa using hn s hs

/-! The names of the patterns made of numbers -/
def nmsOf (ns : List Nd) : List (List UInt8) := (((subsL ns).filter fun t => t.kids.isEmpty).filter isNmd).map fun n => n.atom.nm
theorem subsL_app (a b : List Nd) : subsL (a ++ b) = subsL a ++ subsL b := by
  induction a with
  | nil => rfl
  | cons n ns ih => rw [List.cons_append, subsL, subsL, ih, List.append_assoc]
theorem nmsOf_app (a b : List Nd) : nmsOf (a ++ b) = nmsOf a ++ nmsOf b := by unfold nmsOf; rw [subsL_app, List.filter_append, List.filter_append, List.map_append]
theorem leaf_nms (k p : Nat) (L : List Nd) : (((kLeaf k p :: L).filter isNmd).map fun n => n.atom.nm) = nmL (kA k p) ++ (L.filter isNmd).map fun n => n.atom.nm := by
  unfold nmL
  cases h : (kA k p).nm.isEmpty with
  | true =>
    rw [List.filter_cons_of_neg]
    · rfl
    · show ¬ (!false && !(kA k p).nm.isEmpty) = true
      rw [h]
      decide
  | false =>
    rw [List.filter_cons_of_pos]
    · rfl
    · show (!false && !(kA k p).nm.isEmpty) = true
      rw [h]
      rfl
theorem nms_leaf (k p : Nat) : nmsOf [kLeaf k p] = nmL (kA k p) := by
  have h := leaf_nms k p []
  unfold nmsOf
  rw [subsL, subsL, List.append_nil, kLeaf, subs_1]
  simpa [Nd.kids, kLeaf] using h
theorem nms_alt (k k' p p' : Nat) : nmsOf [.mk 4 0 0 noA [kLeaf k p, kLeaf k' p']] = nmL (kA k p) ++ nmL (kA k' p') := by
  have h := leaf_nms k p [kLeaf k' p']
  rw [leaf_nms k' p' []] at h
  unfold nmsOf
  rw [subsL, subsL, List.append_nil, subs_2, kLeaf, kLeaf, subs_1, subs_1]
  simpa [Nd.kids, kLeaf] using h
theorem nms_guard (i k : Nat) : nmsOf (kGuard i k) = [] := by
  unfold kGuard
  split
  · unfold nmsOf
    rw [subsL, subsL, List.append_nil, subs_1]
    rfl
  · rfl
theorem kLoop_nms (l : List Int) : ∀ m, nmsOf (kLoop l m).kids = (kLoop l m).names
  | 0 => rfl
  | m + 1 => by
    have ih := kLoop_nms l m
    rw [kLoop]
    split
    · unfold kStep
      split
      · simp only
        rw [nmsOf_app, nmsOf_app, ih, nms_guard, List.append_nil, nms_alt, List.append_assoc]
      · simp only
        rw [nmsOf_app, nmsOf_app, ih, nms_guard, List.append_nil, nms_leaf]
    · exact ih
theorem kPat_nms (ks : List Nd) (h : ks ≠ []) : namesN (kPat ks) = nmsOf ks := by
  unfold kPat
  cases ks with
  | nil => exact absurd rfl h
  | cons a ks =>
    cases ks with
    | nil =>
      unfold namesN nmsOf leavesN
      rw [subsL, subsL, List.append_nil]
    | cons b ks =>
      simp only
      unfold namesN nmsOf leavesN
      rw [subsN, List.filter_cons_of_neg]
      show ¬ (a :: b :: ks).isEmpty = true
      simp
theorem kAg_in {names : List (List UInt8)} (h0 : names ≠ []) (k : Nat) : (kAg names k).nm ∈ names := by
  have hl : 0 < names.length := List.length_pos_iff.2 h0
  exact getD_mem (Nat.mod_lt _ hl)
theorem kTail_in (l : List Int) {names : List (List UInt8)} (h0 : names ≠ []) : ∀ m, (∀ h ∈ (kTail l names m).1, h.ag.nm ∈ names) ∧ (∀ a ∈ (kTail l names m).2, a.nm ∈ names)
  | 0 => ⟨fun h hh => (by cases hh), fun a ha => (by cases ha)⟩
  | m + 1 => by
    obtain ⟨i1, i2⟩ := kTail_in l h0 m
    have hk := kAg_in h0 (kNum l (5 + m))
    rw [kTail]
    split
    · split
      · refine ⟨fun h hh => ?_, i2⟩
        rcases List.mem_append.1 hh with hh | hh
        · exact i1 h hh
        · rw [List.mem_singleton.1 hh]; exact hk
      · refine ⟨i1, fun a ha => ?_⟩
        rcases List.mem_append.1 ha with ha | ha
        · exact i2 a ha
        · rw [List.mem_singleton.1 ha]; exact hk
    · exact ⟨i1, i2⟩
theorem kit_use (l : List Int) : ∀ s ∈ useL (kitQ l), s ∈ namesN (kitQ l).p := by
  intro s hs
  have hn := kLoop_nms l 4
  unfold useL kitQ at hs
  simp only at hs
  show s ∈ namesN (kPat (kLoop l 4).kids)
  cases he : (kLoop l 4).names.isEmpty with
  | true =>
    rw [he, if_pos rfl] at hs
    simp at hs
  | false =>
    have h0 : (kLoop l 4).names ≠ [] := by
      intro e
      rw [e] at he
      cases he
    have hks : (kLoop l 4).kids ≠ [] := by
      intro e
      rw [e] at hn
      exact h0 hn.symm
    rw [kPat_nms _ hks, hn]
    rw [he, if_neg (by decide)] at hs
    obtain ⟨i1, i2⟩ := kTail_in l h0 3
    rcases List.mem_append.1 hs with hs | hs
    · obtain ⟨h, hh, rfl⟩ := List.mem_map.1 hs
      exact i1 h hh
    · obtain ⟨a, ha, rfl⟩ := List.mem_map.1 hs
      exact i2 a ha
theorem kit_wf (l : List Int) : wfE (kitQ l) = 0 := by
  have h := kitQ_ok l
  exact wf_of (kit_pat l).zero h.check (by have := h.hl; omega) (by have := h.el; omega) (by have := h.wi.2; omega) (kit_use l)
/-- Without conditions, with fewer aggregates, and a lower window. -/
def lessQ (q : Qu) (wi : Int) (m : Nat) : Qu := ⟨q.p, wi, [], q.em.take m⟩
theorem less_use (q : Qu) (wi : Int) (m : Nat) : ∀ s ∈ useL (lessQ q wi m), s ∈ useL q := by
  intro s hs
  unfold useL lessQ at hs
  simp only [List.map_nil, List.nil_append] at hs
  obtain ⟨a, ha, rfl⟩ := List.mem_map.1 hs
  exact List.mem_append_right _ (List.mem_map_of_mem (List.mem_of_mem_take ha))
theorem less_wf (l : List Int) (wi : Int) (m : Nat) (hw : wi ≤ (kitQ l).wi) : wfE (lessQ (kitQ l) wi m) = 0 := by
  have h := kitQ_ok l
  refine wf_of (kit_pat l).zero ?_ (Nat.zero_le _) ?_ ?_ fun s hs => kit_use l s (less_use _ _ _ s hs)
  · have hc := h.check
    unfold checkB at hc ⊢
    simp only [Bool.and_eq_true, decide_eq_true_eq, List.all_eq_true] at hc
    unfold lessQ
    simp only [Bool.and_eq_true, decide_eq_true_eq, List.all_eq_true]
    exact ⟨⟨⟨hc.1.1.1, by have := h.wi.2; omega⟩, fun x hx => (by cases hx)⟩, fun a ha => hc.2 a (List.mem_of_mem_take ha)⟩
  · have := h.el
    show ((kitQ l).em.take m).length ≤ 4
    rw [List.length_take]
    omega
  · have := h.wi.2
    show wi ≤ 10000
    omega
theorem firsts_in : ∀ (L seen : List (List UInt8)), ∀ s ∈ firsts seen L, s ∈ L
  | [], _, s, h => by cases h
  | x :: L, seen, s, h => by
    rw [firsts] at h
    split at h
    · exact List.mem_cons_of_mem _ (firsts_in L seen s h)
    · rcases List.mem_cons.1 h with rfl | h
      · exact List.mem_cons_self
      · exact List.mem_cons_of_mem _ (firsts_in L (seen ++ [x]) s h)
theorem firsts_len : ∀ (L seen : List (List UInt8)), (firsts seen L).length ≤ L.length
  | [], _ => Nat.le_refl _
  | x :: L, seen => by
    rw [firsts]
    split
    · exact Nat.le_succ_of_le (firsts_len L seen)
    · exact Nat.succ_le_succ (firsts_len L (seen ++ [x]))
theorem names_zero {q : Qu} (h : wfE q = 0) : namesL q = namesN q.p := by unfold namesL; rw [if_pos h]
theorem uses_zero {q : Qu} (h : wfE q = 0) : usesL q = firsts [] (useL q) := by unfold usesL; rw [if_pos h]
theorem named_zero {q : Qu} (h : wfE q = 0) {s : List UInt8} (hs : s ∈ namesN q.p) : namedE q s = 0 ∧ namedI q s = findN s (leafNames q.p) 0 := by
  have h1 : namedE q s = 0 := by
    unfold namedE
    rw [if_pos h, if_pos (by simpa using hs)]
  exact ⟨h1, by unfold namedI; rw [if_pos h1]⟩
theorem findN_in (s : List UInt8) : ∀ (L : List (List UInt8)) (i : Nat), 0 ≤ findN s L i ∧ findN s L i ≤ i + L.length
  | [], i => by unfold findN; simp
  | x :: L, i => by
    have := findN_in s L (i + 1)
    unfold findN
    split
    · simp only [List.length_cons]; omega
    · simp only [List.length_cons]; omega
/-- The query's text: printed, or too long. -/
theorem print_kit (l : List Int) : (printE (kitQ l) = 4 ∨ (printE (kitQ l) = 0 ∧ (printS (kitQ l)).length ≤ 400)) := by
  have hc := (kitQ_ok l).check
  unfold printE printS
  rw [if_pos hc]
  by_cases h : (queryT (kitQ l)).length ≤ 400
  · rw [if_pos h, if_pos ⟨hc, h⟩]
    exact .inr ⟨rfl, h⟩
  · rw [if_neg h]
    exact .inl rfl
theorem use_short (l : List Int) : ∀ s ∈ useL (kitQ l), s.length ≤ 1 := by
  intro s hs
  have h := kitQ_ok l
  rcases List.mem_append.1 hs with hs | hs
  · obtain ⟨x, hx, rfl⟩ := List.mem_map.1 hs
    exact (h.hv x hx).2.2
  · obtain ⟨x, hx, rfl⟩ := List.mem_map.1 hs
    exact (h.em x hx).2
theorem use_few (l : List Int) : (useL (kitQ l)).length ≤ 6 := by
  have h := kitQ_ok l
  have h1 := h.hl
  have h2 := h.el
  unfold useL
  rw [List.length_append, List.length_map, List.length_map]
  omega
end Go.Proofs.YtdoioaeppepndaaGreatDoor.W10
