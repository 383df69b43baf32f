/- How long texts of small queries are. Nothing here speaks of the program. -/
import Derived.Test.YtfibmdbplfghcaaGreatDoorAstTn
import Derived.Test.YtfibmdbplfghcaaGreatDoorAstMem
import Derived.Test.YtfibmdbplfghcaaGreatDoorAstY
namespace Go.Proofs.YtfibmdbplfghcaaGreatDoor.A8
open Go.Proofs.YtfibmdbplfghcaaGreatDoor.Tk7 Go.Proofs.YtfibmdbplfghcaaGreatDoor.Lb

theorem decK (k : Nat) : ∀ u, u < 10 ^ (k + 1) → (Lib.decDigits u).length ≤ k + 1 := by
  induction k with
  | zero => intro u h; rw [Lib.decDigits_one (by omega)]; simp
  | succ k ih =>
    intro u h
    by_cases h1 : u < 10
    · rw [Lib.decDigits_one h1]; simp
    · rw [Lib.decDigits, dif_neg h1, List.length_append]
      have h2 : 10 ^ (k + 1 + 1) = 10 ^ (k + 1) * 10 := Nat.pow_succ _ _
      have := ih (u / 10) (by omega)
      simp only [List.length_cons, List.length_nil]
      omega
theorem itoaK (v : Int) (h0 : -9223372036854775808 ≤ v) (h1 : v < 18446744073709551616) : (Lib.itoa v).length ≤ 21 := by
  rw [itoa_form]
  split
  · have := decK 19 v.natAbs (by omega)
    simp only [List.length_cons]
    omega
  · have := decK 19 v.toNat (by omega)
    omega
theorem sepK (sep : List UInt8) (K : Nat) : ∀ l : List (List UInt8), (∀ x ∈ l, x.length ≤ K) → (sepL sep l).length ≤ (K + sep.length) * l.length
  | [], _ => Nat.zero_le _
  | [x], h => by
    have := h x (by simp)
    show x.length ≤ _
    simp
    omega
  | x :: z :: l, h => by
    have h1 := h x (by simp)
    have h2 := sepK sep K (z :: l) (fun y hy => h y (List.mem_cons_of_mem _ hy))
    rw [sepL, List.length_append, List.length_append]
    rw [List.length_cons (a := x), Nat.mul_succ]
    omega
theorem opsK (k : Nat) : (opsA.getD k []).length ≤ 10 := by
  by_cases h : k < 7
  · have : ∀ i : Fin 7, (opsA.getD i.val []).length ≤ 10 := by decide +kernel
    exact this ⟨k, h⟩
  · unfold List.getD
    rw [List.getElem?_eq_none (by show 7 ≤ k; omega)]
    exact Nat.zero_le _
theorem funsK (k : Nat) : (funsA.getD k []).length ≤ 10 := by
  by_cases h : k < 7
  · have : ∀ i : Fin 7, (funsA.getD i.val []).length ≤ 10 := by decide +kernel
    exact this ⟨k, h⟩
  · unfold List.getD
    rw [List.getElem?_eq_none (by show 7 ≤ k; omega)]
    exact Nat.zero_le _
theorem condK {c : Cn} (h : okV c.va) : (condT c).length ≤ 31 := by
  unfold condT
  rw [List.length_append]
  have := opsK c.op.toNat
  have := itoaK c.va h.1 (by have := h.2; omega)
  omega
theorem labelK (x : Int) : (labelT x).length ≤ 194 := by
  unfold labelT
  rw [join_sep, List.length_append, List.length_append]
  have h1 := sepK [44] 2 ((cats x.toNat).map Lib.decDigits) (fun y hy => by
    obtain ⟨u, hu, rfl⟩ := List.mem_map.1 hy
    exact decK 1 u (by have := cats_lt hu; omega))
  have h2 := cats_le x.toNat
  rw [List.length_map] at h1
  have h3 : (2 + [44].length) * (cats x.toNat).length ≤ 3 * 64 := Nat.mul_le_mul_left 3 h2
  simp only [List.length_cons, List.length_nil] at h1 h3 ⊢
  omega
theorem atomK {a : At} (hc : a.cs.length ≤ 20) (hn : a.nm.length ≤ 30) (hv : ∀ c ∈ a.cs, okV c.va) : (atomT a).length ≤ 900 := by
  unfold atomT
  rw [List.length_append, List.length_append, List.length_append]
  have h1 : (if a.bd = true then 64 :: labelT a.bn else []).length ≤ 195 := by
    split
    · have := labelK a.bn
      simp only [List.length_cons]
      omega
    · exact Nat.zero_le _
  have h2 : (listT [91] (a.cs.map condT) [44] [93]).length ≤ 642 := by
    unfold listT
    split
    · exact Nat.zero_le _
    · rw [List.length_append, List.length_append]
      have h3 := sepK [44] 31 (a.cs.map condT) (fun y hy => by
        obtain ⟨u, hu, rfl⟩ := List.mem_map.1 hy
        exact condK (hv u hu))
      rw [List.length_map] at h3
      have h4 : (31 + [44].length) * a.cs.length ≤ 32 * 20 := Nat.mul_le_mul_left 32 hc
      simp only [List.length_cons, List.length_nil] at h3 h4 ⊢
      omega
  have h5 : (if a.nm.isEmpty = true then [] else 58 :: a.nm).length ≤ 31 := by
    split
    · exact Nat.zero_le _
    · simp only [List.length_cons]
      omega
  simp only [List.length_cons, List.length_nil]
  omega
theorem timesK {mn mx : Int} (h1 : okV mn) (h2 : okV mx) : (timesT mn mx).length ≤ 45 := by
  unfold timesT
  split
  · exact Nat.zero_le _
  · have := itoaK mn h1.1 (by have := h1.2; omega)
    have := itoaK mx h2.1 (by have := h2.2; omega)
    simp only [List.length_append, List.length_cons, List.length_nil]
    omega
def Nd.mn : Nd → Int | .mk _ m _ _ _ => m
def Nd.mx : Nd → Int | .mk _ _ m _ _ => m
/-- Small: few conditions, short names, numbers of 64 bits. -/
def SmallN (n : Nd) : Prop := ∀ t ∈ subsN n, (t.atom.cs.length ≤ 20 ∧ t.atom.nm.length ≤ 30) ∧ (∀ c ∈ t.atom.cs, okV c.va) ∧ okV t.mn ∧ okV t.mx
theorem SmallN.kid {k mn mx : Int} {a : At} {ks : List Nd} (h : SmallN (.mk k mn mx a ks)) {t : Nd} (ht : t ∈ ks) : SmallN t := fun u hu => by
  refine h u ?_
  rw [subsN, subsL_flat]
  exact List.mem_cons_of_mem _ (List.mem_flatMap.2 ⟨t, ht, hu⟩)
theorem textK (n : Nd) : SmallN n → (textN n).length + 5 ≤ 1000 * nodesN n := by
  refine Nd.ind (P := fun n => SmallN n → (textN n).length + 5 ≤ 1000 * nodesN n) (fun k mn mx a ks ih => ?_) n
  intro h
  obtain ⟨⟨h1, h2⟩, h3, h4, h5⟩ := h (.mk k mn mx a ks) (by rw [subsN]; exact List.mem_cons_self)
  have hA : (atomT a).length ≤ 900 := atomK h1 h2 h3
  have hT : (timesT mn mx).length ≤ 45 := timesK h4 h5
  have hS : ∀ (j : Int) (sep : List UInt8), sep.length = 3 → (sepL sep (textL j ks)).length ≤ 1000 * nodesL ks := fun j sep hs => by
    rw [textL_map]
    have : ∀ l : List Nd, (∀ t ∈ l, (textN t).length + 5 ≤ 1000 * nodesN t) → (sepL sep (l.map fun n => wrapT j n.kind (textN n))).length ≤ 1000 * nodesL l := fun l => by
      have hw : ∀ t : Nd, (wrapT j t.kind (textN t)).length ≤ (textN t).length + 2 := fun t => by
        unfold wrapT
        split
        · simp only [List.length_append, List.length_cons, List.length_nil]
          omega
        · omega
      induction l with
      | nil => intro _; exact Nat.zero_le _
      | cons x xs ihx =>
        intro hl
        have e1 := hl x (by simp)
        have e2 := hw x
        have e3 := ihx (fun t ht => hl t (List.mem_cons_of_mem _ ht))
        cases xs with
        | nil =>
          show (wrapT j x.kind (textN x)).length ≤ _
          rw [nodesL, nodesL]
          omega
        | cons y ys =>
          rw [nodesL]
          simp only [List.map_cons, sepL, List.length_append] at e3 ⊢
          omega
    exact this ks (fun t ht => ih t ht (h.kid ht))
  rw [nodesN]
  rw [textN]
  split
  · rw [List.length_append]
    omega
  · split
    · rw [List.length_append]
      simp only [List.length_cons, List.length_nil]
      omega
    · split
      · have := hS k [32, 59, 32] rfl
        omega
      · split
        · have := hS k [32, 124, 32] rfl
          omega
        · simp only [List.length_nil]
          omega
theorem aggK {a : Ag} (h : a.nm.length ≤ 30) : (aggT a).length ≤ 42 := by
  unfold aggT
  have := funsK a.fn.toNat
  simp only [List.length_append, List.length_cons, List.length_nil]
  omega
theorem haveK {x : Hv} (h : x.ag.nm.length ≤ 30) (hv : okV x.cn.va) : (haveT x).length ≤ 75 := by
  unfold haveT
  have := aggK h
  have := condK hv
  simp only [List.length_append, List.length_cons, List.length_nil]
  omega
theorem listK {bef btw : List UInt8} {l : List (List UInt8)} {K : Nat} (h : ∀ x ∈ l, x.length ≤ K) (hl : l.length ≤ 20) (hb : bef.length ≤ 10) (hw : btw.length ≤ 10) : (listT bef l btw []).length ≤ 10 + (K + 10) * 20 := by
  unfold listT
  split
  · exact Nat.zero_le _
  · have h1 := sepK btw K l h
    have h2 : (K + btw.length) * l.length ≤ (K + 10) * 20 := Nat.mul_le_mul (by omega) hl
    simp only [List.length_append, List.length_nil]
    omega
theorem queryK {q : Qu} (hs : SmallN q.p) (hn : nodesN q.p ≤ 250) (hw : 0 ≤ q.wi ∧ q.wi < 18446744073709551616) (hh : q.hv.length ≤ 20) (he : q.em.length ≤ 20) (h1 : ∀ x ∈ q.hv, x.ag.nm.length ≤ 30 ∧ okV x.cn.va) (h2 : ∀ x ∈ q.em, x.nm.length ≤ 30) : (queryT q).length ≤ 300000 := by
  have a1 := textK q.p hs
  have a2 := itoaK q.wi (by omega) hw.2
  have a3 := listK (bef := [32, 104, 97, 118, 105, 110, 103, 32]) (btw := [32, 97, 110, 100, 32]) (l := q.hv.map haveT) (K := 75) (fun y hy => by
    obtain ⟨u, hu, rfl⟩ := List.mem_map.1 hy
    exact haveK (h1 u hu).1 (h1 u hu).2) (by rw [List.length_map]; exact hh) (by decide) (by decide)
  have a4 := listK (bef := [32, 101, 109, 105, 116, 32]) (btw := [44, 32]) (l := q.em.map aggT) (K := 42) (fun y hy => by
    obtain ⟨u, hu, rfl⟩ := List.mem_map.1 hy
    exact aggK (h2 u hu)) (by rw [List.length_map]; exact he) (by decide) (by decide)
  unfold queryT
  simp only [List.length_append, List.length_cons, List.length_nil] at a3 a4 ⊢
  omega
/-! Of trees in memory -/
theorem small_of {w : World} {T : Tr} (hT : TrW w T) {left : Int} (h0 : 0 ≤ left) (h : 0 ≤ fewN left 1 T.nd) : SmallN T.nd ∧ (nodesN T.nd : Int) ≤ left := by
  have hf := few_subs T.nd left 1 h0 h
  have hf0 := (fewN_le T.nd left 1 h0).2
  refine ⟨fun t ht => ?_, by omega⟩
  refine ⟨hf.1 t ht, ?_⟩
  rw [← subsT_nd] at ht
  obtain ⟨u, hu, rfl⟩ := List.mem_map.1 ht
  have h1 := hT u hu
  obtain ⟨k, mn, mx, g, sk, ks⟩ := u
  obtain ⟨⟨-, h2, h3⟩, ⟨h4, -⟩, -⟩ := h1
  rw [nd_mk]
  exact ⟨fun c hc => (h4.cs c hc).2, h2, h3⟩
theorem light_small {w : World} {q : GQ} (hq : QW w q) (h : lightB q.qu = true) : ((queryT q.qu).length ≤ 300000 ∧ (textN q.t.nd).length ≤ 300000) ∧ (subsT q.t).length ≤ 250 ∧ ∀ t ∈ subsT q.t, t.nd.atom.cs.length ≤ 20 := by
  have hl : lightB q.qu = (decide (q.hv.length ≤ 20) && decide (q.em.length ≤ 20) && decide (0 ≤ fewN 250 1 q.t.nd) && q.hv.all (fun h => decide (h.ag.nm.length ≤ 30)) && q.em.all (fun a => decide (a.nm.length ≤ 30))) := rfl
  rw [hl] at h
  simp only [Bool.and_eq_true, decide_eq_true_eq, List.all_eq_true] at h
  obtain ⟨⟨⟨⟨h1, h2⟩, h3⟩, h4⟩, h5⟩ := h
  obtain ⟨s1, s2⟩ := small_of hq.tr (by omega) h3
  have s3 := textK _ s1
  have s4 := few_tr q.t 250 (by omega) h3
  exact ⟨⟨queryK (q := q.qu) s1 (by show nodesN q.t.nd ≤ 250; omega) hq.wi h1 h2 (fun x hx => ⟨h4 x hx, (hq.okh x hx).1.2⟩) h5, by omega⟩, s4.1, fun t ht => (s4.2 t ht).1⟩
theorem light_good {w : World} {q : GQ} (hq : QW w q) (hs : soundN 1 q.t.nd = true) : GoodN q.t.nd := by
  refine ⟨hs, fun t ht => ?_⟩
  rw [← subsT_nd] at ht
  obtain ⟨u, hu, rfl⟩ := List.mem_map.1 ht
  have h1 := hq.tr u hu
  obtain ⟨k, mn, mx, g, sk, ks⟩ := u
  obtain ⟨-, ⟨h4, -⟩, -⟩ := h1
  rw [nd_mk]
  exact h4.bn
end Go.Proofs.YtfibmdbplfghcaaGreatDoor.A8
