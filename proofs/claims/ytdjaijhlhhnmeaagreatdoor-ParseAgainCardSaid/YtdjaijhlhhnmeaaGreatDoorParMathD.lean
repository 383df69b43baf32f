/- Texts of queries are parsed as these; faults lie in the text; what is parsed is sound. Nothing here speaks of the program. -/
import Derived.Test.YtdjaijhlhhnmeaaGreatDoorParMathC
namespace Go.Proofs.YtdjaijhlhhnmeaaGreatDoor.P9
open Go.Proofs.YtdjaijhlhhnmeaaGreatDoor.Tk7 Go.Proofs.YtdjaijhlhhnmeaaGreatDoor.A8

theorem laid_at : ∀ (ts : List T) (l : List UInt8) (k : Nat), Laid l k ts → ∀ t ∈ ts, t.2.2 + t.2.1.length ≤ k + l.length := by
  intro ts
  induction ts with
  | nil => intro l k _ t h; cases h
  | cons x ts ih =>
    rintro l k ⟨g, e, rfl, _, h0, h, h2⟩ t ht
    rcases List.mem_cons.1 ht with rfl | ht
    · simp only [List.length_append]
      omega
    · have := ih _ _ h2 t ht
      simp only [List.length_append]
      omega
theorem aggB_facts {a : Ag} (h : aggB a = true) : (1 ≤ a.fn ∧ a.fn ≤ 6) ∧ nameB a.nm = true := by
  unfold aggB at h
  simp only [Bool.and_eq_true, decide_eq_true_eq] at h
  exact h
theorem reads_agg {W : Prop} (e : Nat) {a : Ag} (h : aggB a = true) : Reads W (fun _ => aggP e) (aggT a) a (fun _ => True) := by
  obtain ⟨h1, h2⟩ := aggB_facts h
  obtain ⟨fn, nm⟩ := a
  simp only at h1 h2
  unfold aggT
  rw [List.append_assoc, List.append_assoc]
  have r4 := reads_map (W := W) (fun _ => (⟨fn, nm⟩ : Ag)) (sign_want (W := W) e (b := 41) (by decide) (by decide))
  have r3 := reads_then (W := W) (q := fun _ (n : List UInt8) r => andThen (wantP e [41] r) fun _ r => .ok ((⟨fn, n⟩ : Ag), r)) (G := fun _ => True) (reads_name e h2) r4 (fun r _ => nx_cons (p := smallB) (c := 41) (u := r) (by decide))
  have r2 := reads_then (W := W) (q := fun _ _ r => andThen (nameP e r) fun n r => andThen (wantP e [41] r) fun _ r => .ok ((⟨fn, n⟩ : Ag), r)) (G := fun _ => True) (sign_want (W := W) e (b := 40) (by decide) (by decide)) r3 (fun _ _ => trivial)
  exact reads_then (W := W) (q := fun _ (f : Int) r => andThen (wantP e [40] r) fun _ r => andThen (nameP e r) fun n r => andThen (wantP e [41] r) fun _ r => .ok ((⟨f, n⟩ : Ag), r)) (G := fun _ => True) (reads_fun e h1.1 h1.2) r2 (fun r _ => nx_cons (p := smallB) (c := 40) (by decide))
theorem reads_have {W : Prop} (e : Nat) {h : Hv} (hh : haveB h = true) (ho : okC h.cn) : Reads W (fun _ => haveP e) (haveT h) h (Nx digB) := by
  unfold haveB at hh
  rw [Bool.and_eq_true] at hh
  obtain ⟨ag, cn⟩ := h
  unfold haveT
  rw [List.append_assoc]
  exact reads_then (W := W) (q := fun _ (a : Ag) r => andThen (condP e r) fun c r => .ok ((⟨a, c⟩ : Hv), r)) (G := Nx digB) (reads_agg e hh.1) (reads_map (fun c => (⟨ag, c⟩ : Hv)) (reads_blank (by decide) (reads_cond e hh.2 ho))) (fun _ _ => trivial)
/-- What may follow a query: nothing, or a semicolon. -/
def Fq (r : List UInt8) : Prop := r = [] ∨ ∃ t, r = 59 :: t
theorem fq_nb {r : List UInt8} {l : List UInt8} (h : Fq r) (hl : (59 : UInt8) ∉ l) : Nb l r := by
  rcases h with rfl | ⟨t, rfl⟩
  · exact nb_nil l
  · exact nb_cons (by decide) hl
theorem fq_nx {r : List UInt8} {p : UInt8 → Bool} (h : Fq r) (hp : p 59 = false) : Nx p r := by
  rcases h with rfl | ⟨t, rfl⟩
  · exact nx_nil p
  · exact nx_cons hp
theorem word_sep {W : Prop} {x sb pre : List UInt8} {c : UInt8} {s : List UInt8} (hx : x = c :: s) (hs : ∀ b ∈ x, smallB b = true) (hpre : ∀ b ∈ pre, blankB b = true) (hsb : sb = pre ++ (x ++ [32])) (hw : W → x ≠ withinA) : ∀ y k ts, toksG y (k + sb.length) = .ok ts → ∃ t, toksG (sb ++ y) k = .ok (t :: ts) ∧ t.2.1 = c :: s ∧ (W → t.2.1 ≠ withinA) := fun y k ts h =>
  ⟨(1, x, k + pre.length), by
    subst hsb
    have e1 := toks_blank hpre (x ++ (32 :: y)) k
    have e2 := toks_fit (fits_word (r := 32 :: y) hs (by rw [hx]; simp) (nx_cons (by decide))) (k + pre.length)
    have e3 := toks_blank (g := [32]) (fun c hc => by rw [List.mem_singleton.1 hc]; decide) y (k + pre.length + x.length)
    have e4 : toksG ((pre ++ (x ++ [32])) ++ y) k = glue (1, x, k + pre.length) (toksG y (k + pre.length + x.length + 1)) := by
      rw [show (pre ++ (x ++ [32])) ++ y = pre ++ (x ++ (32 :: y)) by simp]
      exact e1.trans (e2.trans (congrArg _ e3))
    rw [e4, show k + pre.length + x.length + 1 = k + (pre ++ (x ++ [32])).length by simp only [List.length_append, List.length_cons, List.length_nil]; omega, h]
    rfl, hx, fun w => hw w⟩
theorem reads_haves {W : Prop} (e : Nat) {hs : List Hv} (h : ∀ x ∈ hs, haveB x = true ∧ okC x.cn) : Reads W (fun _ => havesP e) (listT [32, 104, 97, 118, 105, 110, 103, 32] (hs.map haveT) [32, 97, 110, 100, 32] []) hs (fun r => Nb [97, 104] r ∧ Nx digB r) := by
  cases hs with
  | nil => exact reads_pass (c := 104) (s := [97, 118, 105, 110, 103]) (p := fun _ l => listP andA (haveP e) l) (q := fun _ l => .ok ([], l)) (fun r hr => hr.1.mono (by decide)) (reads_ret [] _)
  | cons x hs =>
    have hl := reads_list (W := W) (p := fun _ => haveP e) (c := 97) (s := [110, 100]) (sb := [32, 97, 110, 100, 32]) (g := haveT) (F := Nx digB) (G := fun r => Nb [97, 104] r ∧ Nx digB r) (word_sep (x := andA) (pre := [32]) rfl (by decide) (by decide) rfl (fun _ => by decide)) (fun r => nx_cons (c := 32) (by decide)) (fun r hr => ⟨hr.2, hr.1.mono (by decide)⟩) (x :: hs) (by simp) (fun a ha => reads_have e (h a ha).1 (h a ha).2)
    unfold listT
    rw [if_neg (by simp)]
    have ee : ([32, 104, 97, 118, 105, 110, 103, 32] : List UInt8) ++ sepL [32, 97, 110, 100, 32] ((x :: hs).map haveT) ++ [] = 32 :: (havingA ++ (32 :: sepL [32, 97, 110, 100, 32] ((x :: hs).map haveT))) := by simp [havingA]
    rw [ee]
    exact reads_blank (by decide) (reads_see (x := havingA) (kd := 1) (p := fun _ l => listP andA (haveP e) l) (q := fun _ l => .ok ([], l)) (fun r _ => fits_word (by decide) (by decide) (nx_cons (by decide))) (fun _ => by decide) (reads_blank (by decide) hl))
theorem reads_emits {W : Prop} (e : Nat) {es : List Ag} (h : ∀ x ∈ es, aggB x = true) : Reads W (fun _ => emitsP e) (listT [32, 101, 109, 105, 116, 32] (es.map aggT) [44, 32] []) es (fun r => Nb [44, 101] r) := by
  cases es with
  | nil => exact reads_pass (c := 101) (s := [109, 105, 116]) (p := fun _ l => listP [44] (aggP e) l) (q := fun _ l => .ok ([], l)) (fun r hr => hr.mono (by decide)) (reads_ret [] _)
  | cons x es =>
    have hsep : ∀ y k ts, toksG y (k + [44, 32].length) = .ok ts → ∃ t, toksG ([44, 32] ++ y) k = .ok (t :: ts) ∧ t.2.1 = 44 :: [] ∧ (W → t.2.1 ≠ withinA) := fun y k ts h0 =>
      ⟨(4, [44], k), by
        have e2 := toks_fit (fits_sign (b := 44) (r := 32 :: y) (by decide) (.inl (by decide))) k
        have e3 := toks_blank (g := [32]) (fun c hc => by rw [List.mem_singleton.1 hc]; decide) y (k + 1)
        have e4 : toksG ([44, 32] ++ y) k = glue (4, [44], k) (toksG y (k + 1 + 1)) := e2.trans (congrArg _ e3)
        rw [e4, show k + 1 + 1 = k + [44, 32].length from rfl, h0]
        rfl, rfl, fun _ h => by
        have := congrArg List.length h
        simp [withinA] at this⟩
    have hl := reads_list (W := W) (p := fun _ => aggP e) (c := 44) (s := []) (sb := [44, 32]) (g := aggT) (F := fun _ => True) (G := fun r => Nb [44, 101] r) hsep (fun _ => trivial) (fun r hr => ⟨trivial, hr.mono (by decide)⟩) (x :: es) (by simp) (fun a ha => reads_agg e (h a ha))
    unfold listT
    rw [if_neg (by simp)]
    have ee : ([32, 101, 109, 105, 116, 32] : List UInt8) ++ sepL [44, 32] ((x :: es).map aggT) ++ [] = 32 :: (emitA ++ (32 :: sepL [44, 32] ((x :: es).map aggT))) := by simp [emitA]
    rw [ee]
    exact reads_blank (by decide) (reads_see (x := emitA) (kd := 1) (p := fun _ l => listP [44] (aggP e) l) (q := fun _ l => .ok ([], l)) (fun r _ => fits_word (by decide) (by decide) (nx_cons (by decide))) (fun _ => by decide) (reads_blank (by decide) hl))
/-- A query of which all numbers can be written. -/
structure OkQ (q : Qu) : Prop where
  p : OkT9 q.p
  wi : 0 ≤ q.wi
  hv : ∀ h ∈ q.hv, okC h.cn
theorem checkB_facts {q : Qu} (h : checkB q = true) : soundN 1 q.p = true ∧ q.wi ≤ 99999 ∧ (∀ x ∈ q.hv, haveB x = true) ∧ ∀ x ∈ q.em, aggB x = true := by
  unfold checkB at h
  simp only [Bool.and_eq_true, decide_eq_true_eq] at h
  exact ⟨h.1.1.1, h.1.1.2, List.all_eq_true.1 h.1.2, List.all_eq_true.1 h.2⟩
theorem reads_within (e : Nat) : Reads False (fun _ => wantP e withinA) withinA () (Nx smallB) := reads_want (kd := 1) e (fun r hr => fits_word (by decide) (by decide) hr) (fun h => h.elim)
theorem reads_query (e : Nat) {q : Qu} (h : checkB q = true) (ho : OkQ q) : Reads False (fun f => queryP e (f + 1)) (queryT q) q Fq := by
  obtain ⟨h1, h2, h3, h4⟩ := checkB_facts h
  obtain ⟨p, wi, hs, es⟩ := q
  obtain ⟨o1, o2, o3⟩ := ho
  simp only at h1 h2 h3 h4 o1 o2 o3
  have hp := (node_reads e p 1 h1 o1).2.2
  unfold queryT
  simp only
  have ee : textN p ++ [32, 119, 105, 116, 104, 105, 110, 32] ++ Lib.itoa wi ++ listT [32, 104, 97, 118, 105, 110, 103, 32] (hs.map haveT) [32, 97, 110, 100, 32] [] ++ listT [32, 101, 109, 105, 116, 32] (es.map aggT) [44, 32] [] =
      textN p ++ ((32 :: withinA) ++ ((32 :: Lib.itoa wi) ++ (listT [32, 104, 97, 118, 105, 110, 103, 32] (hs.map haveT) [32, 97, 110, 100, 32] [] ++ listT [32, 101, 109, 105, 116, 32] (es.map aggT) [44, 32] []))) := by
    simp [withinA]
  rw [ee]
  have emit_nb : ∀ (l : List UInt8) (r : List UInt8), (101 : UInt8) ∉ l → (59 : UInt8) ∉ l → Fq r → Nb l (listT [32, 101, 109, 105, 116, 32] (es.map aggT) [44, 32] [] ++ r) := fun l r hl hl2 hr => by
    unfold listT
    split
    · exact fq_nb hr hl2
    · exact (nb_blank (by decide)).2 (nb_cons (by decide) hl)
  have emit_nx : ∀ (r : List UInt8), Fq r → Nx digB (listT [32, 101, 109, 105, 116, 32] (es.map aggT) [44, 32] [] ++ r) := fun r hr => by
    unfold listT
    split
    · exact fq_nx hr (by decide)
    · exact nx_cons (by decide)
  have r5 := reads_map (W := False) (fun zs => (⟨p, wi, hs, zs⟩ : Qu)) (reads_emits e (es := es) h4)
  have r4 := reads_then (W := False) (q := fun _ (hs : List Hv) r => andThen (emitsP e r) fun zs r => .ok ((⟨p, wi, hs, zs⟩ : Qu), r)) (G := Fq) (reads_haves e (hs := hs) fun x hx => ⟨h3 x hx, o3 x hx⟩) (r5.mono fun r hr => fq_nb hr (by decide)) (fun r hr => ⟨emit_nb _ r (by decide) (by decide) hr, emit_nx r hr⟩)
  have r3 := reads_then (W := False) (q := fun _ (w : Int) r => andThen (havesP e r) fun hs r => andThen (emitsP e r) fun zs r => .ok ((⟨p, w, hs, zs⟩ : Qu), r)) (G := Fq) (reads_blank (b := 32) (by decide) (reads_num e (lo := 0) (hi := 99999) (v := wi) (Sm.okI_iff.2 (by omega)) o2 h2)) r4 (fun r hr => by
    rw [List.append_assoc]
    unfold listT
    split
    · exact emit_nx r hr
    · exact nx_cons (by decide))
  have r2 := reads_then (W := False) (q := fun _ _ r => andThen (numP e 0 99999 r) fun w r => andThen (havesP e r) fun hs r => andThen (emitsP e r) fun zs r => .ok ((⟨p, w, hs, zs⟩ : Qu), r)) (G := Fq) (reads_blank (b := 32) (by decide) (reads_within e)) r3 (fun r hr => nx_cons (c := 32) (by decide))
  exact reads_then (W := False) (q := fun _ (n : Nd) r => andThen (wantP e withinA r) fun _ r => andThen (numP e 0 99999 r) fun w r => andThen (havesP e r) fun hs r => andThen (emitsP e r) fun zs r => .ok ((⟨n, w, hs, zs⟩ : Qu), r)) (G := Fq) (hp.weak (fun h => h.elim)) r2 (fun r hr => (⟨(nb_blank (by decide)).2 (nb_cons (b := 119) (by decide) (by decide)), nx_cons (c := 32) (by decide)⟩ : Fp _))
/-- A query is parsed from its text. -/
theorem parse_query {q : Qu} (h : checkB q = true) (ho : OkQ q) (hl : (queryT q).length ≤ 400) : parseP (queryT q) = .ok q := by
  obtain ⟨us, h1, h2, _⟩ := reads_query (queryT q).length h ho [] 0 [] (.inl rfl) (toks_nil _)
  rw [List.append_nil, List.append_nil] at h1
  have h3 := h2 us.length (by simp)
  rw [List.append_nil] at h3
  have h4 : queryP (queryT q).length (us.length + 1) us = .ok (q, []) := h3
  unfold parseP wholeP toksP
  rw [if_neg (by omega), h1]
  simp only
  rw [h4]
  rfl
/-- So is a pattern, also in parentheses. -/
theorem pattern_text {n : Nd} {d : Nat} (h : soundN d n = true) (ho : OkT9 n) (hl : (textN n).length ≤ 400) : patternP (textN n) = .ok n := by
  obtain ⟨us, h1, h2, _⟩ := (node_reads (textN n).length n d h ho).2.2 [] 0 [] ⟨nb_nil _, nx_nil _⟩ (toks_nil _)
  rw [List.append_nil, List.append_nil] at h1
  have h3 := h2 us.length (by simp)
  rw [List.append_nil] at h3
  unfold patternP wholeP toksP
  rw [if_neg (by omega), h1]
  simp only
  have h4 : patP (textN n).length (us.length + 1) us = .ok (n, []) := h3
  rw [h4]
  rfl
theorem pattern_parens {n : Nd} {d : Nat} (h : soundN d n = true) (ho : OkT9 n) (hl : (textN n).length ≤ 390) : patternP ([40, 32, 40] ++ textN n ++ [41, 10, 41]) = .ok n := by
  have hr := (node_reads ([40, 32, 40] ++ textN n ++ [41, 10, 41]).length n d h ho).2.2
  have r1 := pat_one _ (seq_one _ (paren_item _ hr))
  have r2 : Reads True (patF ([40, 32, 40] ++ textN n ++ [41, 10, 41]).length) (32 :: ([40] ++ textN n ++ [41])) n Fp := reads_blank (by decide) r1
  have r3 : Reads True (patF ([40, 32, 40] ++ textN n ++ [41, 10, 41]).length) ((32 :: ([40] ++ textN n ++ [41])) ++ [10]) n Fp := fun r k ts hr ht => by
    have hb := toks_blank (g := [10]) (fun c hc => by rw [List.mem_singleton.1 hc]; decide) r (k + (32 :: ([40] ++ textN n ++ [41])).length)
    obtain ⟨us, g1, g2, g3⟩ := r2 ([10] ++ r) k ts ⟨(nb_blank (by decide)).2 hr.1, nx_cons (c := 10) (by decide)⟩ (by rw [hb]; rw [List.length_append, ← Nat.add_assoc] at ht; exact ht)
    exact ⟨us, by rw [List.append_assoc]; exact g1, g2, g3⟩
  have r4 := pat_one _ (seq_one _ (paren_item _ r3))
  have ee : [40] ++ ((32 :: ([40] ++ textN n ++ [41])) ++ [10]) ++ [41] = [40, 32, 40] ++ textN n ++ [41, 10, 41] := by simp
  rw [ee] at r4
  obtain ⟨us, h1, h2, _⟩ := r4 [] 0 [] ⟨nb_nil _, nx_nil _⟩ (toks_nil _)
  rw [List.append_nil, List.append_nil] at h1
  have h3 := h2 us.length (by simp)
  rw [List.append_nil] at h3
  unfold patternP wholeP toksP
  rw [if_neg (by simp only [List.length_append, List.length_cons, List.length_nil]; omega), h1]
  simp only
  have h4 : patP ([40, 32, 40] ++ textN n ++ [41, 10, 41]).length (us.length + 1) us = .ok (n, []) := h3
  rw [h4]
  rfl
/-- Behind a query's text a semicolon is refused. -/
theorem parse_semicolon {q : Qu} (h : checkB q = true) (ho : OkQ q) (s : List UInt8) : ∃ y, parseP (queryT q ++ 59 :: 32 :: s) = .error y := by
  unfold parseP wholeP
  cases ht : toksP (queryT q ++ 59 :: 32 :: s) with
  | error y => exact ⟨y, rfl⟩
  | ok ts =>
    simp only
    unfold toksP at ht
    split at ht
    · cases ht
    · have hs : toksG (59 :: 32 :: s) (0 + (queryT q).length) = glue (4, [59], 0 + (queryT q).length) (toksG (32 :: s) (0 + (queryT q).length + 1)) := toks_fit (fits_sign (b := 59) (r := 32 :: s) (by decide) (.inl (by decide))) _
      have hb : toksG (32 :: s) (0 + (queryT q).length + 1) = toksG s (0 + (queryT q).length + 1 + 1) := toks_blank (g := [32]) (fun c hc => by rw [List.mem_singleton.1 hc]; decide) s _
      cases hts : toksG s (0 + (queryT q).length + 1 + 1) with
      | error y =>
        exfalso
        have h1 := toks_both _ (queryT q ++ [59]) s 0 (Nat.le_refl _)
        rw [List.append_assoc] at h1
        have h2 : toksG (queryT q ++ 59 :: 32 :: s) 0 = both (toksG (queryT q ++ [59]) 0) (toksG s (0 + (queryT q ++ [59]).length + 1)) := h1
        have hn : 0 + (queryT q ++ [59]).length + 1 = 0 + (queryT q).length + 1 + 1 := by
          rw [List.length_append]
          rfl
        rw [hn, hts, ht] at h2
        cases ha : toksG (queryT q ++ [59]) 0 with
        | error z => rw [ha] at h2; cases h2
        | ok z => rw [ha] at h2; cases h2
      | ok vs =>
        rw [hb, hts] at hs
        obtain ⟨us, h1, h2, _⟩ := reads_query (queryT q ++ 59 :: 32 :: s).length h ho (59 :: 32 :: s) 0 _ (.inr ⟨32 :: s, rfl⟩) hs
        rw [h1] at ht
        cases ht
        have h3 := h2 _ (Nat.le_refl _)
        have h4 : queryP (queryT q ++ 59 :: 32 :: s).length ((us ++ (4, [59], 0 + (queryT q).length) :: vs).length + 1) (us ++ (4, [59], 0 + (queryT q).length) :: vs) = .ok (q, (4, [59], 0 + (queryT q).length) :: vs) := h3
        exact ⟨wrongP (queryT q ++ 59 :: 32 :: s).length ((4, [59], 0 + (queryT q).length) :: vs), by
          show overP _ (queryP _ ((us ++ (4, [59], 0 + (queryT q).length) :: vs).length + 1) _) = _
          rw [h4]
          rfl⟩
end Go.Proofs.YtdjaijhlhhnmeaaGreatDoor.P9
