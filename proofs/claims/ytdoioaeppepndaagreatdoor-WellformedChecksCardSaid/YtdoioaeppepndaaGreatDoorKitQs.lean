/- The kit's queries made of numbers, as data: they are sound, and small. Nothing here speaks of the program. -/
import Derived.Test.YtdoioaeppepndaaGreatDoorAstSm
namespace Go.Proofs.YtdoioaeppepndaaGreatDoor.Kq
open Go.Proofs.YtdoioaeppepndaaGreatDoor.A8 Go.Proofs.YtdoioaeppepndaaGreatDoor.Tk7

def noA : At := ⟨0, false, 0, [], []⟩
/-- The atom, the leaf of a number and a place. -/
def kA (k p : Nat) : At :=
  ⟨((k % 3 : Nat) : Int), decide (k / 3 % 3 = 1), if k / 3 % 3 = 1 then ((k / 9 % 4 : Nat) : Int) else 0,
   if k / 36 % 3 = 1 then [⟨1 + ((k / 108 % 6 : Nat) : Int), ((k / 648 % 5 : Nat) : Int) - 2⟩] else [],
   if k / 3240 % 2 = 1 then [UInt8.ofNat (112 + p)] else []⟩
def kMn (k : Nat) : Int := if k / 6480 % 5 = 1 then 1 + ((k / 32400 % 2 : Nat) : Int) else 1
def kMx (k : Nat) : Int := if k / 6480 % 5 = 1 then 2 + ((k / 64800 % 2 : Nat) : Int) else 1
def kLeaf (k p : Nat) : Nd := .mk 1 (kMn k) (kMx k) (kA k p) []
/-- What stands between the rounds. -/
structure KS where
  kids : List Nd
  names : List (List UInt8)
  place : Nat
def nmL (a : At) : List (List UInt8) := if a.nm.isEmpty = true then [] else [a.nm]
def bareA (a : At) : At := ⟨a.kd, a.bd, a.bn, a.cs, []⟩
def kGuard (i k : Nat) : List Nd := if 0 < i ∧ k / 7 % 4 = 1 then [.mk 2 0 0 (bareA (kA (k / 28) 0)) []] else []
def kStep (i k : Nat) (s : KS) : KS :=
  if k % 7 = 1 then ⟨s.kids ++ kGuard i k ++ [.mk 4 0 0 noA [kLeaf k s.place, kLeaf (k / 5) (s.place + 1)]], s.names ++ nmL (kA k s.place) ++ nmL (kA (k / 5) (s.place + 1)), s.place + 2⟩
  else ⟨s.kids ++ kGuard i k ++ [kLeaf k s.place], s.names ++ nmL (kA k s.place), s.place + 1⟩
def kNum (l : List Int) (i : Nat) : Nat := (l.getD i 0 % 1073741824).toNat
def kLoop (l : List Int) : Nat → KS
  | 0 => ⟨[], [], 0⟩
  | i + 1 => if i < l.length then kStep i (kNum l i) (kLoop l i) else kLoop l i
def kPat (ns : List Nd) : Nd :=
  match ns with
  | [] => kLeaf 0 0
  | [n] => n
  | _ => .mk 3 0 0 noA ns
def kAg (names : List (List UInt8)) (k : Nat) : Ag := ⟨1 + ((k % 6 : Nat) : Int), names.getD (k / 6 % names.length) []⟩
def kCn (k : Nat) : Cn := ⟨1 + ((k / 180 % 6 : Nat) : Int), ((k / 1080 % 7 : Nat) : Int) - 3⟩
def kTail (l : List Int) (names : List (List UInt8)) : Nat → List Hv × List Ag
  | 0 => ([], [])
  | j + 1 =>
    let x := kTail l names j
    let k := kNum l (5 + j)
    if 5 + j < l.length then (if k / 60 % 3 = 0 then (x.1 ++ [⟨kAg names k, kCn k⟩], x.2) else (x.1, x.2 ++ [kAg names k])) else x
def kitQ (l : List Int) : Qu :=
  let s := kLoop l 4
  let x := if s.names.isEmpty = true then ([], []) else kTail l s.names 3
  ⟨kPat s.kids, l.getD 4 0 % 8, x.1, x.2⟩

/-! What these are -/
/-- A node's own parts are small. -/
def Sm (n : Nd) : Prop := (0 ≤ n.atom.bn ∧ n.atom.bn < 4) ∧ (∀ c ∈ n.atom.cs, okC c) ∧ n.atom.cs.length ≤ 1 ∧ n.atom.nm.length ≤ 1 ∧ (match n with | .mk k mn mx _ _ => okV k ∧ okV mn ∧ okV mx)
structure Kid (n : Nd) : Prop where
  so : ∀ d, d ≤ 100 → soundN d n = true
  sm : ∀ t ∈ subsN n, Sm t
  few : nodesN n ≤ 3
def nmOk (s : List UInt8) : Prop := nameB s = true ∧ s.length = 1
theorem name_of (p : Nat) (hp : p ≤ 10) : nmOk [UInt8.ofNat (112 + p)] := by
  have : ∀ p : Fin 11, nameB [UInt8.ofNat (112 + p.val)] = true := by decide +kernel
  exact ⟨this ⟨p, by omega⟩, rfl⟩
theorem small_okV {x : Int} (h : -1000 ≤ x ∧ x ≤ 1000) : okV x := by unfold okV; omega
theorem kA_b (k p : Nat) (hp : p ≤ 10) : atomB (kA k p) = true := by
  unfold atomB kA
  simp only [Bool.and_eq_true, Bool.or_eq_true, decide_eq_true_eq, List.isEmpty_iff]
  refine ⟨⟨⟨⟨by omega, by omega⟩, ?_⟩, ?_⟩, ?_⟩
  · split
    · rename_i h; exact .inl h
    · exact .inr rfl
  · split
    · simp only [List.all_cons, List.all_nil, condB, Bool.and_true, Bool.and_eq_true, decide_eq_true_eq]
      omega
    · rfl
  · split
    · exact .inr (name_of p hp).1
    · exact .inl rfl
theorem kA_sm (k p : Nat) : (0 ≤ (kA k p).bn ∧ (kA k p).bn < 4) ∧ (∀ c ∈ (kA k p).cs, okC c) ∧ (kA k p).cs.length ≤ 1 ∧ (kA k p).nm.length ≤ 1 := by
  unfold kA
  refine ⟨?_, ?_, ?_, ?_⟩
  · simp only
    split <;> omega
  · simp only
    split
    · intro c hc
      rw [List.mem_singleton] at hc
      subst hc
      exact ⟨small_okV (by show _ ≤ 1 + _ ∧ 1 + _ ≤ _; omega), small_okV (by show _ ≤ _ - 2 ∧ _ - 2 ≤ _; omega)⟩
    · intro c hc
      cases hc
  · simp only
    split <;> simp
  · simp only
    split <;> simp
theorem kMn_in (k : Nat) : 0 ≤ kMn k ∧ kMn k ≤ 3 := by unfold kMn; split <;> omega
theorem kMx_in (k : Nat) : 0 ≤ kMx k ∧ kMx k ≤ 3 := by unfold kMx; split <;> omega
theorem kLeaf_kid (k p : Nat) (hp : p ≤ 10) : Kid (kLeaf k p) := by
  have h1 := kA_b k p hp
  have h2 := kMn_in k
  have h3 := kMx_in k
  refine ⟨fun d hd => ?_, fun t ht => ?_, by simp [kLeaf, nodesN, nodesL]⟩
  · unfold kLeaf
    rw [soundN, soundL]
    unfold nodeB
    simp [h1]
    omega
  · unfold kLeaf at ht
    rw [subsN, subsL, List.mem_singleton] at ht
    subst ht
    obtain ⟨a1, a2, a3, a4⟩ := kA_sm k p
    exact ⟨a1, a2, a3, a4, by unfold okV; omega, small_okV (by omega), small_okV (by omega)⟩
theorem sm_none (k : Int) (hk : okV k) (ks : List Nd) : Sm (.mk k 0 0 noA ks) :=
  ⟨⟨Int.le_refl 0, by show (0 : Int) < 4; omega⟩, (fun c hc => by cases hc), Nat.zero_le _, Nat.zero_le _, hk, small_okV (by decide), small_okV (by decide)⟩
theorem kAlt_kid (k p k2 p2 : Nat) (hp : p ≤ 10) (hp2 : p2 ≤ 10) : (∀ d, d ≤ 99 → soundN d (.mk 4 0 0 noA [kLeaf k p, kLeaf k2 p2]) = true) ∧ (∀ t ∈ subsN (.mk 4 0 0 noA [kLeaf k p, kLeaf k2 p2]), Sm t) ∧ nodesN (.mk 4 0 0 noA [kLeaf k p, kLeaf k2 p2]) ≤ 3 := by
  have h1 := kLeaf_kid k p hp
  have h2 := kLeaf_kid k2 p2 hp2
  refine ⟨fun d hd => ?_, fun t ht => ?_, by simp [nodesN, nodesL, kLeaf]⟩
  · rw [soundN, soundL, soundL, soundL, h1.so (d + 1) (by omega), h2.so (d + 1) (by omega)]
    unfold nodeB
    simp [zeroB, noA]
    omega
  · rw [subsN, subsL, subsL, subsL] at ht
    simp only [List.append_nil, List.mem_cons, List.mem_append] at ht
    rcases ht with rfl | ht | ht
    · exact sm_none 4 (by unfold okV; omega) _
    · exact h1.sm t ht
    · exact h2.sm t ht
theorem kGuard_kid {i k : Nat} {n : Nd} (h : n ∈ kGuard i k) : (∀ d, d ≤ 99 → soundN d n = true) ∧ (∀ t ∈ subsN n, Sm t) ∧ nodesN n ≤ 3 := by
  unfold kGuard at h
  split at h
  · rw [List.mem_singleton] at h
    subst h
    obtain ⟨a1, a2, a3, a4⟩ := kA_sm (k / 28) 0
    have hb := kA_b (k / 28) 0 (by omega)
    have hb2 : atomB (bareA (kA (k / 28) 0)) = true := by
      unfold atomB at hb ⊢
      simp only [Bool.and_eq_true] at hb
      simp only [bareA, Bool.and_eq_true]
      exact ⟨⟨⟨hb.1.1.1, hb.1.1.2⟩, hb.1.2⟩, rfl⟩
    refine ⟨fun d hd => ?_, fun t ht => ?_, by simp [nodesN, nodesL]⟩
    · rw [soundN, soundL]
      unfold nodeB
      simp [hb2]
      omega
    · rw [subsN, subsL, List.mem_singleton] at ht
      subst ht
      exact ⟨a1, a2, a3, by simp [Nd.atom, bareA], by unfold okV; omega, small_okV (by decide), small_okV (by decide)⟩
  · cases h
structure KSok (s : KS) (m : Nat) : Prop where
  so : ∀ n ∈ s.kids, ∀ d, d ≤ 99 → soundN d n = true
  sm : ∀ n ∈ s.kids, ∀ t ∈ subsN n, Sm t
  few : ∀ n ∈ s.kids, nodesN n ≤ 3
  len : s.kids.length ≤ 2 * m
  nm : ∀ x ∈ s.names, nmOk x
  nms : s.names.length ≤ 2 * m
  pl : s.place ≤ 2 * m
theorem nmL_ok {k p : Nat} (hp : p ≤ 10) {x : List UInt8} (h : x ∈ nmL (kA k p)) : nmOk x := by
  unfold nmL kA at h
  simp only at h
  by_cases hk : k / 3240 % 2 = 1
  · rw [if_pos hk] at h
    have h1 : x ∈ [[UInt8.ofNat (112 + p)]] := h
    rw [List.mem_singleton] at h1
    subst h1
    exact name_of p hp
  · rw [if_neg hk] at h
    cases h
theorem nmL_len (a : At) : (nmL a).length ≤ 1 := by unfold nmL; split <;> simp
theorem kGuard_len (i k : Nat) : (kGuard i k).length ≤ 1 := by unfold kGuard; split <;> simp
theorem kStep_ok {s : KS} {m : Nat} (h : KSok s m) (hm : m ≤ 3) (i k : Nat) : KSok (kStep i k s) (m + 1) := by
  have hg := kGuard_len i k
  have hp := h.pl
  have n1 := nmL_len (kA k s.place)
  have n2 := nmL_len (kA (k / 5) (s.place + 1))
  have hl := h.len
  have hn := h.nms
  unfold kStep
  split
  · have hx := kAlt_kid k s.place (k / 5) (s.place + 1) (by omega) (by omega)
    refine ⟨fun n hn => ?_, fun n hn => ?_, fun n hn => ?_, ?_, fun x hx => ?_, ?_, ?_⟩
    · simp only [List.mem_append, List.mem_singleton] at hn
      rcases hn with (hn | hn) | rfl
      · exact h.so n hn
      · exact (kGuard_kid hn).1
      · exact hx.1
    · simp only [List.mem_append, List.mem_singleton] at hn
      rcases hn with (hn | hn) | rfl
      · exact h.sm n hn
      · exact (kGuard_kid hn).2.1
      · exact hx.2.1
    · simp only [List.mem_append, List.mem_singleton] at hn
      rcases hn with (hn | hn) | rfl
      · exact h.few n hn
      · exact (kGuard_kid hn).2.2
      · exact hx.2.2
    · simp only [List.length_append, List.length_cons, List.length_nil]
      omega
    · simp only [List.mem_append] at hx
      rcases hx with (hx | hx) | hx
      · exact h.nm x hx
      · exact nmL_ok (by omega) hx
      · exact nmL_ok (by omega) hx
    · simp only [List.length_append]
      omega
    · show s.place + 2 ≤ _
      omega
  · have hx := kLeaf_kid k s.place (by omega)
    refine ⟨fun n hn => ?_, fun n hn => ?_, fun n hn => ?_, ?_, fun x hx => ?_, ?_, ?_⟩
    · simp only [List.mem_append, List.mem_singleton] at hn
      rcases hn with (hn | hn) | rfl
      · exact h.so n hn
      · exact (kGuard_kid hn).1
      · exact fun d hd => hx.so d (by omega)
    · simp only [List.mem_append, List.mem_singleton] at hn
      rcases hn with (hn | hn) | rfl
      · exact h.sm n hn
      · exact (kGuard_kid hn).2.1
      · exact hx.sm
    · simp only [List.mem_append, List.mem_singleton] at hn
      rcases hn with (hn | hn) | rfl
      · exact h.few n hn
      · exact (kGuard_kid hn).2.2
      · exact hx.few
    · simp only [List.length_append, List.length_cons, List.length_nil]
      omega
    · simp only [List.mem_append] at hx
      rcases hx with hx | hx
      · exact h.nm x hx
      · exact nmL_ok (by omega) hx
    · simp only [List.length_append]
      omega
    · show s.place + 1 ≤ _
      omega
theorem kLoop_ok (l : List Int) : ∀ m, m ≤ 4 → KSok (kLoop l m) m
  | 0, _ => ⟨(fun n h => by cases h), (fun n h => by cases h), (fun n h => by cases h), Nat.le_refl _, (fun n h => by cases h), Nat.le_refl _, Nat.le_refl _⟩
  | m + 1, hm => by
    have ih := kLoop_ok l m (by omega)
    rw [kLoop]
    split
    · exact kStep_ok ih (by omega) _ _
    · exact ⟨ih.so, ih.sm, ih.few, by have := ih.len; omega, ih.nm, by have := ih.nms; omega, by have := ih.pl; omega⟩
theorem nodesL_le : ∀ (ks : List Nd), (∀ n ∈ ks, nodesN n ≤ 3) → nodesL ks ≤ 3 * ks.length
  | [], _ => Nat.zero_le _
  | n :: ns, h => by
    rw [nodesL, List.length_cons]
    have h1 := h n List.mem_cons_self
    have h2 := nodesL_le ns fun x hx => h x (List.mem_cons_of_mem _ hx)
    omega
theorem subsL_mem : ∀ {ks : List Nd} {t : Nd}, t ∈ subsL ks → ∃ n ∈ ks, t ∈ subsN n
  | n :: ns, t, h => by
    rw [subsL, List.mem_append] at h
    rcases h with h | h
    · exact ⟨n, List.mem_cons_self, h⟩
    · obtain ⟨m, hm, ht⟩ := subsL_mem h
      exact ⟨m, List.mem_cons_of_mem _ hm, ht⟩
theorem kPat_ok {s : KS} (h : KSok s 4) : (∀ d, d ≤ 90 → soundN d (kPat s.kids) = true) ∧ (∀ t ∈ subsN (kPat s.kids), Sm t) ∧ nodesN (kPat s.kids) ≤ 25 := by
  obtain ⟨ks, ns, pl⟩ := s
  unfold kPat
  cases ks with
  | nil =>
    have hx := kLeaf_kid 0 0 (by omega)
    exact ⟨fun d hd => hx.so d (by omega), hx.sm, Nat.le_trans hx.few (by omega)⟩
  | cons a ks =>
    cases ks with
    | nil => exact ⟨fun d hd => h.so a List.mem_cons_self d (by omega), h.sm a List.mem_cons_self, Nat.le_trans (h.few a List.mem_cons_self) (by omega)⟩
    | cons b ks =>
      simp only
      refine ⟨fun d hd => ?_, fun t ht => ?_, ?_⟩
      · rw [soundN, soundL_all]
        simp only [Bool.and_eq_true, decide_eq_true_eq, List.all_eq_true]
        refine ⟨⟨by omega, ?_⟩, fun n hn => h.so n hn (d + 1) (by omega)⟩
        unfold nodeB
        simp [zeroB, noA]
      · rw [subsN, List.mem_cons] at ht
        rcases ht with rfl | ht
        · exact sm_none 3 (by unfold okV; omega) _
        · obtain ⟨n, hn, ht⟩ := subsL_mem ht
          exact h.sm n hn t ht
      · rw [nodesN]
        have h1 := nodesL_le _ h.few
        have h2 := h.len
        simp only at h1 h2
        omega
theorem getD_mem {l : List (List UInt8)} {i : Nat} (h : i < l.length) : l.getD i [] ∈ l := by
  rw [List.getD_eq_getElem?_getD, List.getElem?_eq_getElem h]
  exact List.getElem_mem h
structure KTok (x : List Hv × List Ag) (m : Nat) : Prop where
  hv : ∀ h ∈ x.1, haveB h = true ∧ okC h.cn ∧ okV h.ag.fn ∧ h.ag.nm.length ≤ 1
  em : ∀ a ∈ x.2, aggB a = true ∧ okV a.fn ∧ a.nm.length ≤ 1
  hl : x.1.length ≤ m
  el : x.2.length ≤ m
theorem kAg_ok {names : List (List UInt8)} (hn : ∀ x ∈ names, nmOk x) (h0 : names ≠ []) (k : Nat) : aggB (kAg names k) = true ∧ okV (kAg names k).fn ∧ (kAg names k).nm.length ≤ 1 := by
  have hl : 0 < names.length := List.length_pos_iff.2 h0
  have hm := hn _ (getD_mem (l := names) (i := k / 6 % names.length) (Nat.mod_lt _ hl))
  refine ⟨?_, small_okV ?_, ?_⟩
  · unfold aggB
    simp only [Bool.and_eq_true, decide_eq_true_eq]
    exact ⟨by unfold kAg; simp only; omega, hm.1⟩
  · unfold kAg
    simp only
    omega
  · exact Nat.le_of_eq hm.2
theorem kTail_ok (l : List Int) {names : List (List UInt8)} (hn : ∀ x ∈ names, nmOk x) (h0 : names ≠ []) : ∀ m, KTok (kTail l names m) m
  | 0 => ⟨(fun h hh => by cases hh), (fun h hh => by cases hh), Nat.le_refl _, Nat.le_refl _⟩
  | m + 1 => by
    have ih := kTail_ok l hn h0 m
    have ha := kAg_ok hn h0 (kNum l (5 + m))
    have i1 := ih.hl
    have i2 := ih.el
    rw [kTail]
    split
    · split
      · refine ⟨fun h hh => ?_, ih.em, by simp only [List.length_append, List.length_cons, List.length_nil]; omega, Nat.le_succ_of_le i2⟩
        simp only [List.mem_append, List.mem_singleton] at hh
        rcases hh with hh | rfl
        · exact ih.hv h hh
        · refine ⟨?_, ⟨small_okV ?_, small_okV ?_⟩, ha.2⟩
          · unfold haveB condB kCn
            simp only [ha.1, Bool.true_and, Bool.and_eq_true, decide_eq_true_eq]
            omega
          · unfold kCn; simp only; omega
          · unfold kCn; simp only; omega
      · refine ⟨ih.hv, fun a hh => ?_, Nat.le_succ_of_le i1, by simp only [List.length_append, List.length_cons, List.length_nil]; omega⟩
        simp only [List.mem_append, List.mem_singleton] at hh
        rcases hh with hh | rfl
        · exact ih.em a hh
        · exact ha
    · exact ⟨ih.hv, ih.em, by omega, by omega⟩
/-- The query made of numbers: sound, and small. -/
structure KQok (q : Qu) : Prop where
  check : checkB q = true
  sm : ∀ t ∈ subsN q.p, Sm t
  few : nodesN q.p ≤ 25
  wi : 0 ≤ q.wi ∧ q.wi < 8
  hv : ∀ h ∈ q.hv, okC h.cn ∧ okV h.ag.fn ∧ h.ag.nm.length ≤ 1
  em : ∀ a ∈ q.em, okV a.fn ∧ a.nm.length ≤ 1
  hl : q.hv.length ≤ 3
  el : q.em.length ≤ 3
theorem kitQ_ok (l : List Int) : KQok (kitQ l) := by
  have hs := kLoop_ok l 4 (Nat.le_refl _)
  obtain ⟨p1, p2, p3⟩ := kPat_ok hs
  have ht : KTok (if (kLoop l 4).names.isEmpty = true then ([], []) else kTail l (kLoop l 4).names 3) 3 := by
    split
    · exact ⟨(fun h hh => by cases hh), (fun h hh => by cases hh), Nat.zero_le _, Nat.zero_le _⟩
    · rename_i h
      exact kTail_ok l hs.nm (fun e => h (by rw [e]; rfl)) 3
  have hw : 0 ≤ l.getD 4 0 % 8 ∧ l.getD 4 0 % 8 < 8 := by omega
  refine ⟨?_, p2, p3, hw, fun h hh => (ht.hv h hh).2, fun a ha => (ht.em a ha).2, ht.hl, ht.el⟩
  unfold checkB kitQ
  simp only [Bool.and_eq_true, decide_eq_true_eq, List.all_eq_true]
  exact ⟨⟨⟨p1 1 (by omega), by omega⟩, fun h hh => (ht.hv h hh).1⟩, fun a ha => (ht.em a ha).1⟩
end Go.Proofs.YtdoioaeppepndaaGreatDoor.Kq
