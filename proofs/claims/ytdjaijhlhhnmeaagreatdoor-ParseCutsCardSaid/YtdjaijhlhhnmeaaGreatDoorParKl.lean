/- How long the texts of the kit's queries are; that they can be written and read. Nothing here speaks of the program. -/
import Derived.Test.YtdjaijhlhhnmeaaGreatDoorKitQs
import Derived.Test.YtdjaijhlhhnmeaaGreatDoorPMt
namespace Go.Proofs.YtdjaijhlhhnmeaaGreatDoor.Kq
open Go.Proofs.YtdjaijhlhhnmeaaGreatDoor.A8 Go.Proofs.YtdjaijhlhhnmeaaGreatDoor.Tk7 Go.Proofs.YtdjaijhlhhnmeaaGreatDoor.Lb Go.Proofs.YtdjaijhlhhnmeaaGreatDoor.P9

theorem itoa_form (v : Int) : Lib.itoa v = if v < 0 then 45 :: Lib.decDigits v.natAbs else Lib.decDigits v.toNat := rfl
theorem decK (k : Nat) : ∀ u, u < 10 ^ (k + 1) → (Lib.decDigits u).length ≤ k + 1 := by
  induction k with
  | zero => intro u h; rw [Lib.decDigits_one (by omega)]; simp
  | succ k ih =>
    intro u h
    by_cases h1 : u < 10
    · rw [Lib.decDigits_one h1]; simp
    · rw [Lib.decDigits, dif_neg h1, List.length_append]
      have h2 : 10 ^ (k + 1 + 1) = 10 ^ (k + 1) * 10 := Nat.pow_succ _ _
      have := ih (u / 10) (by omega)
      simp only [List.length_cons, List.length_nil]
      omega
theorem itoaK (v : Int) (h0 : -9223372036854775808 ≤ v) (h1 : v < 18446744073709551616) : (Lib.itoa v).length ≤ 21 := by
  rw [itoa_form]
  split
  · have := decK 19 v.natAbs (by omega)
    simp only [List.length_cons]
    omega
  · have := decK 19 v.toNat (by omega)
    omega
theorem sepK (sep : List UInt8) (K : Nat) : ∀ l : List (List UInt8), (∀ x ∈ l, x.length ≤ K) → (sepL sep l).length ≤ (K + sep.length) * l.length
  | [], _ => Nat.zero_le _
  | [x], h => by
    have := h x (by simp)
    show x.length ≤ _
    simp
    omega
  | x :: z :: l, h => by
    have h1 := h x (by simp)
    have h2 := sepK sep K (z :: l) (fun y hy => h y (List.mem_cons_of_mem _ hy))
    rw [sepL, List.length_append, List.length_append]
    rw [List.length_cons (a := x), Nat.mul_succ]
    omega
theorem opsK (k : Nat) : (opsA.getD k []).length ≤ 10 := by
  by_cases h : k < 7
  · have : ∀ i : Fin 7, (opsA.getD i.val []).length ≤ 10 := by decide +kernel
    exact this ⟨k, h⟩
  · unfold List.getD
    rw [List.getElem?_eq_none (by show 7 ≤ k; omega)]
    exact Nat.zero_le _
theorem funsK (k : Nat) : (funsA.getD k []).length ≤ 10 := by
  by_cases h : k < 7
  · have : ∀ i : Fin 7, (funsA.getD i.val []).length ≤ 10 := by decide +kernel
    exact this ⟨k, h⟩
  · unfold List.getD
    rw [List.getElem?_eq_none (by show 7 ≤ k; omega)]
    exact Nat.zero_le _
theorem condK {c : Cn} (h : okV c.va) : (condT c).length ≤ 31 := by
  unfold condT
  rw [List.length_append]
  have := opsK c.op.toNat
  have := itoaK c.va h.1 (by have := h.2; omega)
  omega
theorem labelK {x : Int} (h : 0 ≤ x ∧ x < 4) : (labelT x).length ≤ 194 := by
  have : ∀ n : Fin 4, (labelT ((n.val : Nat) : Int)).length ≤ 194 := by decide +kernel
  have h2 := this ⟨x.toNat, by omega⟩
  simp only at h2
  rwa [show ((x.toNat : Nat) : Int) = x by omega] at h2
theorem atomK {a : At} (hb : 0 ≤ a.bn ∧ a.bn < 4) (hc : a.cs.length ≤ 20) (hn : a.nm.length ≤ 30) (hv : ∀ c ∈ a.cs, okV c.va) : (atomT a).length ≤ 900 := by
  unfold atomT
  rw [List.length_append, List.length_append, List.length_append]
  have h1 : (if a.bd = true then 64 :: labelT a.bn else []).length ≤ 195 := by
    split
    · have := labelK hb
      simp only [List.length_cons]
      omega
    · exact Nat.zero_le _
  have h2 : (listT [91] (a.cs.map condT) [44] [93]).length ≤ 642 := by
    unfold listT
    split
    · exact Nat.zero_le _
    · rw [List.length_append, List.length_append]
      have h3 := sepK [44] 31 (a.cs.map condT) (fun y hy => by
        obtain ⟨u, hu, rfl⟩ := List.mem_map.1 hy
        exact condK (hv u hu))
      rw [List.length_map] at h3
      have h4 : (31 + [44].length) * a.cs.length ≤ 32 * 20 := Nat.mul_le_mul_left 32 hc
      simp only [List.length_cons, List.length_nil] at h3 h4 ⊢
      omega
  have h5 : (if a.nm.isEmpty = true then [] else 58 :: a.nm).length ≤ 31 := by
    split
    · exact Nat.zero_le _
    · simp only [List.length_cons]
      omega
  simp only [List.length_cons, List.length_nil]
  omega
theorem timesK {mn mx : Int} (h1 : okV mn) (h2 : okV mx) : (timesT mn mx).length ≤ 45 := by
  unfold timesT
  split
  · exact Nat.zero_le _
  · have := itoaK mn h1.1 (by have := h1.2; omega)
    have := itoaK mx h2.1 (by have := h2.2; omega)
    simp only [List.length_append, List.length_cons, List.length_nil]
    omega
def ndMn : Nd → Int | .mk _ m _ _ _ => m
def ndMx : Nd → Int | .mk _ _ m _ _ => m
/-- Small: few conditions, short names, numbers of 64 bits. -/
def SmallN (n : Nd) : Prop := ∀ t ∈ subsN n, (t.atom.cs.length ≤ 20 ∧ t.atom.nm.length ≤ 30) ∧ (0 ≤ t.atom.bn ∧ t.atom.bn < 4) ∧ (∀ c ∈ t.atom.cs, okV c.va) ∧ okV (ndMn t) ∧ okV (ndMx t)
theorem SmallN.kid {k mn mx : Int} {a : At} {ks : List Nd} (h : SmallN (.mk k mn mx a ks)) {t : Nd} (ht : t ∈ ks) : SmallN t := fun u hu => by
  refine h u ?_
  rw [subsN, subsL_flat]
  exact List.mem_cons_of_mem _ (List.mem_flatMap.2 ⟨t, ht, hu⟩)
theorem textK (n : Nd) : SmallN n → (textN n).length + 5 ≤ 1000 * nodesN n := by
  refine Nd.ind (P := fun n => SmallN n → (textN n).length + 5 ≤ 1000 * nodesN n) (fun k mn mx a ks ih => ?_) n
  intro h
  obtain ⟨⟨h1, h2⟩, h0, h3, h4, h5⟩ := h (.mk k mn mx a ks) (by rw [subsN]; exact List.mem_cons_self)
  have hA : (atomT a).length ≤ 900 := atomK h0 h1 h2 h3
  have hT : (timesT mn mx).length ≤ 45 := timesK h4 h5
  have hS : ∀ (j : Int) (sep : List UInt8), sep.length = 3 → (sepL sep (textL j ks)).length ≤ 1000 * nodesL ks := fun j sep hs => by
    rw [textL_map]
    have : ∀ l : List Nd, (∀ t ∈ l, (textN t).length + 5 ≤ 1000 * nodesN t) → (sepL sep (l.map fun n => wrapT j n.kind (textN n))).length ≤ 1000 * nodesL l := fun l => by
      have hw : ∀ t : Nd, (wrapT j t.kind (textN t)).length ≤ (textN t).length + 2 := fun t => by
        unfold wrapT
        split
        · simp only [List.length_append, List.length_cons, List.length_nil]
          omega
        · omega
      induction l with
      | nil => intro _; exact Nat.zero_le _
      | cons x xs ihx =>
        intro hl
        have e1 := hl x (by simp)
        have e2 := hw x
        have e3 := ihx (fun t ht => hl t (List.mem_cons_of_mem _ ht))
        cases xs with
        | nil =>
          show (wrapT j x.kind (textN x)).length ≤ _
          rw [nodesL, nodesL]
          omega
        | cons y ys =>
          rw [nodesL]
          simp only [List.map_cons, sepL, List.length_append] at e3 ⊢
          omega
    exact this ks (fun t ht => ih t ht (h.kid ht))
  rw [nodesN]
  rw [textN]
  split
  · rw [List.length_append]
    omega
  · split
    · rw [List.length_append]
      simp only [List.length_cons, List.length_nil]
      omega
    · split
      · have := hS k [32, 59, 32] rfl
        omega
      · split
        · have := hS k [32, 124, 32] rfl
          omega
        · simp only [List.length_nil]
          omega
theorem aggK {a : Ag} (h : a.nm.length ≤ 30) : (aggT a).length ≤ 42 := by
  unfold aggT
  have := funsK a.fn.toNat
  simp only [List.length_append, List.length_cons, List.length_nil]
  omega
theorem haveK {x : Hv} (h : x.ag.nm.length ≤ 30) (hv : okV x.cn.va) : (haveT x).length ≤ 75 := by
  unfold haveT
  have := aggK h
  have := condK hv
  simp only [List.length_append, List.length_cons, List.length_nil]
  omega
theorem listK {bef btw : List UInt8} {l : List (List UInt8)} {K : Nat} (h : ∀ x ∈ l, x.length ≤ K) (hl : l.length ≤ 20) (hb : bef.length ≤ 10) (hw : btw.length ≤ 10) : (listT bef l btw []).length ≤ 10 + (K + 10) * 20 := by
  unfold listT
  split
  · exact Nat.zero_le _
  · have h1 := sepK btw K l h
    have h2 : (K + btw.length) * l.length ≤ (K + 10) * 20 := Nat.mul_le_mul (by omega) hl
    simp only [List.length_append, List.length_nil]
    omega
theorem queryK {q : Qu} (hs : SmallN q.p) (hn : nodesN q.p ≤ 250) (hw : 0 ≤ q.wi ∧ q.wi < 18446744073709551616) (hh : q.hv.length ≤ 20) (he : q.em.length ≤ 20) (h1 : ∀ x ∈ q.hv, x.ag.nm.length ≤ 30 ∧ okV x.cn.va) (h2 : ∀ x ∈ q.em, x.nm.length ≤ 30) : (queryT q).length ≤ 300000 := by
  have a1 := textK q.p hs
  have a2 := itoaK q.wi (by omega) hw.2
  have a3 := listK (bef := [32, 104, 97, 118, 105, 110, 103, 32]) (btw := [32, 97, 110, 100, 32]) (l := q.hv.map haveT) (K := 75) (fun y hy => by
    obtain ⟨u, hu, rfl⟩ := List.mem_map.1 hy
    exact haveK (h1 u hu).1 (h1 u hu).2) (by rw [List.length_map]; exact hh) (by decide) (by decide)
  have a4 := listK (bef := [32, 101, 109, 105, 116, 32]) (btw := [44, 32]) (l := q.em.map aggT) (K := 42) (fun y hy => by
    obtain ⟨u, hu, rfl⟩ := List.mem_map.1 hy
    exact aggK (h2 u hu)) (by rw [List.length_map]; exact he) (by decide) (by decide)
  unfold queryT
  simp only [List.length_append, List.length_cons, List.length_nil] at a3 a4 ⊢
  omega

theorem subs_one (n : Nd) : n ∈ subsN n := by
  cases n
  rw [subsN]
  exact List.mem_cons_self
theorem kq_small {q : Qu} (h : KQok q) : SmallN q.p := fun t ht => by
  obtain ⟨h1, h2, h3, h4, h5⟩ := h.sm t ht
  obtain ⟨k, mn, mx, a, ks⟩ := t
  exact ⟨⟨by simp only [Nd.atom] at h3 ⊢; omega, by simp only [Nd.atom] at h4 ⊢; omega⟩, h1, fun c hc => (h2 c hc).2, h5.2.1, h5.2.2⟩
/-- The texts of the kit's queries are not long, and the queries are as reading wants them. -/
theorem kq_len {q : Qu} (h : KQok q) : (queryT q).length ≤ 1000000 ∧ (textN q.p).length ≤ 1000000 := by
  have h1 := textK q.p (kq_small h)
  have h2 := h.few
  have h3 := queryK (q := q) (kq_small h) (by omega) ⟨h.wi.1, by have := h.wi.2; omega⟩ (by have := h.hl; omega) (by have := h.el; omega) (fun x hx => ⟨by have := (h.hv x hx).2.2; omega, (h.hv x hx).1.2⟩) (fun x hx => by have := (h.em x hx).2; omega)
  omega
theorem kq_ok {q : Qu} (h : KQok q) : OkQ q := by
  refine ⟨fun t ht => ?_, h.wi.1, fun x hx => (h.hv x hx).1⟩
  obtain ⟨h1, h2, -⟩ := h.sm t ht
  exact ⟨⟨h1.1, by have := h1.2; omega⟩, h2⟩
theorem text_le (q : Qu) : (textN q.p).length ≤ (queryT q).length := by
  unfold queryT
  simp only [List.length_append]
  omega
theorem text_head (q : Qu) : ∃ Y, queryT q = textN q.p ++ Y := by
  unfold queryT
  simp only [List.append_assoc]
  exact ⟨_, rfl⟩
end Go.Proofs.YtdjaijhlhhnmeaaGreatDoor.Kq
