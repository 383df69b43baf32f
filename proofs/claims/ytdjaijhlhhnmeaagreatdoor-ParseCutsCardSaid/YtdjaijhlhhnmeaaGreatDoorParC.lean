/- Walks: words and signs in maps, and what one of them means. -/
import Derived.Test.YtdjaijhlhhnmeaaGreatDoorParB
import Derived.Maps.OwnSet
import Derived.Maps.OwnOps
namespace Go.Proofs.YtdjaijhlhhnmeaaGreatDoor
open Go.RowKit
open A8 Tk7 P9
open Go.Maps (Keyed)

/-- A map from texts to their places from i on. -/
def tabD (D : DataW Unit) : Nat → List (List UInt8) → DataW Unit
  | _, [] => D
  | i, c :: cs => tabD (D.put (.string c) (.lit (.int .i64 (i : Int)))) (i + 1) cs
theorem tab_isMap : ∀ (cs : List (List UInt8)) (D : DataW Unit) (i : Nat), Maps.IsMap D → Maps.IsMap (tabD D i cs)
  | [], _, _, h => h
  | _ :: cs, _, i, h => tab_isMap cs _ (i + 1) (h.put _ _)
theorem tab_has : ∀ (cs : List (List UInt8)) (D : DataW Unit) (i : Nat) (l : List UInt8), Maps.IsMap D → Maps.has (tabD D i cs) (.string l) = (decide (l ∈ cs) || Maps.has D (.string l))
  | [], _, _, _, _ => by simp [tabD]
  | c :: cs, D, i, l, h => by
    rw [tabD, tab_has cs _ (i + 1) l (h.put _ _)]
    by_cases e : l = c
    · subst e
      rw [Maps.has_put_same h (by trivial)]
      simp
    · rw [Maps.has_put_other (fun he => e (by injection he))]
      simp [e]
theorem tab_at : ∀ (cs : List (List UInt8)) (D : DataW Unit) (i : Nat) (l : List UInt8) (z : DataW Unit), Maps.IsMap D → cs.Nodup → (tabD D i cs).atKey (.string l) z = if l ∈ cs then .lit (.int .i64 ((i + cs.idxOf l : Nat) : Int)) else D.atKey (.string l) z
  | [], _, _, _, _, _, _ => by simp [tabD]
  | c :: cs, D, i, l, z, h, hn => by
    rw [List.nodup_cons] at hn
    rw [tabD, tab_at cs _ (i + 1) l z (h.put _ _) hn.2]
    by_cases e : l = c
    · subst e
      rw [if_neg hn.1, Maps.atKey_put_same h (by trivial), if_pos (by simp)]
      simp
    · rw [Maps.atKey_put_other (fun he => e (by injection he))]
      by_cases h2 : l ∈ cs
      · have h3 : (c :: cs).idxOf l = cs.idxOf l + 1 := by
          rw [List.idxOf_cons]
          have : (c == l) = false := by rw [beq_eq_false_iff_ne]; exact fun he => e he.symm
          rw [this]
          rfl
        rw [if_pos h2, if_pos (List.mem_cons_of_mem _ h2), h3]
        congr 3
        omega
      · rw [if_neg h2, if_neg (by simp [e, h2])]
theorem strK : Tryz.prog.underlying 9 = some .string := Tryz.underlying9
theorem mapLaw : Keyed Tryz.prog 9 := Maps.string_keyed strK
theorem zeroInt (w : World) : (zeroValue 3).run Tryz.prog w = .ok (.int .i64 0) w := by kernel_rfl
/-- A map's literal: an entry more. -/
theorem wpList_insert_own {H : Type} {P : Program} (w : World) {ops : Array Oper} {rest : List Oper} {o : Oper} {a : Act} {Q : Exit → Act → World → Prop}
    (hg : o.guard = none) (m x v : Operand) (t : TypeId) (hop : o.op = Op.insert t m x v)
    (k e : TypeId) (K : Keyed P k) (ht : P.underlying t = some (.map k e)) (R : Value → Option (DataW H × List MemPlace)) (b n : Nat) (D : DataW H)
    (hm : a.eval m = .map (some b)) (hown : w.ownsMap P k R b n D) (hn : n < maxLen) (key val : Value) (kl : Lit) (hx : a.eval x = key) (hv : a.eval v = val) (hkey : keyOf P k key = some kl)
    (d : DataW H) (ps : List MemPlace) (hval : R val = some (d, ps))
    (hK : ∀ w', w'.ownsMap P k R b (n + 1) (D.put kl d) → w.grownBy w' (some b) → wpList P ops Q rest (a.put o.dst undef) w') :
    wpList P ops Q (o :: rest) a w := by
  refine wpList_plain hg fun K' hK' => ?_
  obtain ⟨w', hrun, r1, r2⟩ := hown.update K ht hn hkey hval
  unfold Oper.wp
  simp [execOp, hop, hm, hx, hv, hrun, Result.andThen]
  exact hK' _ _ (hK w' r1 r2)
theorem keyS (s : ByteArray) (hl : s.size ≤ 1000000) : keyOf Tryz.prog 9 (.string s) = some (.string s.data.toList) := WideMaps.keyOf_string_mk strK (by unfold maxLen; omega)
theorem elI (a : Int) (h : (Lit.int .i64 a).wf = true) : plainElem (H := Unit) Tryz.prog 3 (.int .i64 a) = some (.lit (.int .i64 a), []) := plainElem_int Tryz.underlying3 h
theorem below_map {w W W' : World} {B : Nat} (hb : Below w.heap.size w W) (hB : w.heap.size ≤ B) (hg : W.grownBy W' (some B)) : Below w.heap.size w W' :=
  hb.grown hg hb.size fun k e => by cases e; exact hB
set_option maxRecDepth 100000 in
theorem functions_any (w : World) : Calls Tryz.prog 130 #[] w fun e w' => e = .returned (.map (some w.heap.size)) ∧ Below w.heap.size w w' ∧ w'.ownsMap Tryz.prog 9 (plainElem Tryz.prog 3) w.heap.size 6 (tabD (.map []) 1 funsA.tail) := by
  have hmm := @run_makeMap Tryz.prog
  have hown := World.ownsMap_made w Tryz.prog 9 (plainElem (H := Unit) Tryz.prog 3)
  have hb := b1 w (.map #[] 0)
  go_enter Tryz.func130, Tryz.ntmps130
  go_wp2_with (refine wpList_insert_own _ rfl _ _ _ 162 rfl 9 3 mapLaw Tryz.underlying162 _ _ _ _ rfl hown (by decide) _ _ _ rfl rfl (keyS _ (by decide)) _ [] (elI _ (by rfl)) ?_; intro w1 hown1 hg1; replace hb := below_map hb (Nat.le_refl _) hg1; replace hown := hown1; clear hown1 hg1)
  go_ret
  exact ⟨rfl, hb, hown⟩
set_option maxRecDepth 100000 in
theorem comparisons_any (w : World) : Calls Tryz.prog 150 #[] w fun e w' => e = .returned (.map (some w.heap.size)) ∧ Below w.heap.size w w' ∧ w'.ownsMap Tryz.prog 9 (plainElem Tryz.prog 3) w.heap.size 6 (tabD (.map []) 1 opsA.tail) := by
  have hmm := @run_makeMap Tryz.prog
  have hown := World.ownsMap_made w Tryz.prog 9 (plainElem (H := Unit) Tryz.prog 3)
  have hb := b1 w (.map #[] 0)
  go_enter Tryz.func150, Tryz.ntmps150
  go_wp2_with (refine wpList_insert_own _ rfl _ _ _ 162 rfl 9 3 mapLaw Tryz.underlying162 _ _ _ _ rfl hown (by decide) _ _ _ rfl rfl (keyS _ (by decide)) _ [] (elI _ (by rfl)) ?_; intro w1 hown1 hg1; replace hb := below_map hb (Nat.le_refl _) hg1; replace hown := hown1; clear hown1 hg1)
  go_ret
  exact ⟨rfl, hb, hown⟩
theorem owns_later {w w' : World} {B n : Nat} {D : DataW Unit} (h : w.ownsMap Tryz.prog 9 (plainElem Tryz.prog 3) B n D) (hb : Below w.heap.size w w') : w'.ownsMap Tryz.prog 9 (plainElem Tryz.prog 3) B n D := by
  obtain ⟨es, clock, h1, h2⟩ := h
  exact ⟨es, clock, (hb.block B (Array.getElem?_eq_some_iff.1 h1).1).trans h1, h2⟩
theorem owns_grown {w w' : World} {B n b : Nat} {D : DataW Unit} (h : w.ownsMap Tryz.prog 9 (plainElem Tryz.prog 3) B n D) (hb : w.grownBy w' (some b)) (hne : B ≠ b) : w'.ownsMap Tryz.prog 9 (plainElem Tryz.prog 3) B n D := by
  obtain ⟨es, clock, h1, h2⟩ := h
  exact ⟨es, clock, (hb.block B (Array.getElem?_eq_some_iff.1 h1).1 (fun e => hne (by injection e))).trans h1, h2⟩
set_option maxRecDepth 100000 in
theorem oneOf_no (b B n : Nat) (D : DataW Unit) (kd : Int) (S : ByteArray) (at_ : Int) (y : F) (hS : S.size ≤ 1000000) (hhas : Maps.has D (.string S.data.toList) = false) (w : World)
    (hM : w.ownsMap Tryz.prog 9 (plainElem Tryz.prog 3) B n D)
    (hH : Calls Tryz.prog 128 #[.pointer (some ⟨b, 0, none⟩)] w fun e' w'' => e' = .returned (.agg #[.int .i64 kd, .string S, .int .i64 at_]) ∧ Below w.heap.size w w'')
    (hR : ∀ w', Below w.heap.size w w' → Calls Tryz.prog 124 #[.pointer (some ⟨b, 0, none⟩)] w' fun e' w'' => e' = .panicked [stopV y] ∧ Below w'.heap.size w' w'') :
    Calls Tryz.prog 129 #[.pointer (some ⟨b, 0, none⟩), .map (some B)] w fun e' w' => e' = .panicked [stopV y] ∧ Below w.heap.size w w' := by
  have hF := tk_field1 kd S at_
  go_enter Tryz.func129, Tryz.ntmps129
  go_wp2_with (first | (go_at_call 128; refine hH.mono ?_; rintro e' w1 ⟨rfl, hb1⟩; have hown := owns_later hM hb1) | (at_lookup; refine wpList_lookup_own_ok_int _ rfl _ _ 162 rfl 9 3 .i64 mapLaw Tryz.underlying162 Tryz.underlying3 (zeroInt _) B n D rfl hown _ _ rfl (keyS S hS) ?_; intro c hat hwc; rw [hhas]) | (go_at_call 124; refine (hR _ hb1).mono ?_; rintro e' w2 ⟨rfl, hb2⟩))
  exact ⟨rfl, rfl, bstep hb1 hb2⟩
set_option maxRecDepth 100000 in
theorem oneOf_yes (A : Option Addr) (ln cap m e b : Nat) (hn : m < ln) (hl : ln ≤ 100000) (B n : Nat) (D : DataW Unit) (kd : Int) (S : ByteArray) (at_ V : Int) (hS : S.size ≤ 1000000) (hhas : Maps.has D (.string S.data.toList) = true) (hV : ∀ c : Int, D.atKey (.string S.data.toList) (.lit (.int .i64 0)) = .lit (.int .i64 c) → c = V) (w : World)
    (h : Blk w b [.slice A ln cap, .int .i64 (m : Int), .int .i64 (e : Int)])
    (hM : w.ownsMap Tryz.prog 9 (plainElem Tryz.prog 3) B n D)
    (hH : Calls Tryz.prog 128 #[.pointer (some ⟨b, 0, none⟩)] w fun e' w'' => e' = .returned (.agg #[.int .i64 kd, .string S, .int .i64 at_]) ∧ Below w.heap.size w w'') :
    Calls Tryz.prog 129 #[.pointer (some ⟨b, 0, none⟩), .map (some B)] w fun e' w' => e' = .returned (.int .i64 V) ∧ w.grownBy w' (some b) ∧ Blk w' b [.slice A ln cap, .int .i64 ((m + 1 : Nat) : Int), .int .i64 (e : Int)] := by
  have hF := tk_field1 kd S at_
  obtain ⟨g4, g5⟩ := wrap_next hn hl
  go_enter Tryz.func129, Tryz.ntmps129
  go_wp2_with (first | (go_at_call 128; refine hH.mono ?_; rintro e' w1 ⟨rfl, hb1⟩; have hown := owns_later hM hb1; have hB := h.later hb1; have c1 := hB.cell 1 _ rfl; have f1 := hB.fr 1 _ rfl) | (at_lookup; refine wpList_lookup_own_ok_int _ rfl _ _ 162 rfl 9 3 .i64 mapLaw Tryz.underlying162 Tryz.underlying3 (zeroInt _) B n D rfl hown _ _ rfl (keyS S hS) ?_; intro c hat hwc; rw [hhas]; obtain rfl := hV c hat; clear hat hwc))
  refine named_post fun V' hV' => ?_
  obtain ⟨hO, hBV⟩ := cur_step hB hV'
  clear hV' c1 f1
  go_ret
  exact ⟨rfl, grown_trans (grown_of b hb1) (only_grown9 hO), hBV⟩
theorem oneOf_any {w : World} {b : Nat} {g : G9} {l : List T} (cs : List (List UInt8)) (hc : cs.Nodup) (he : [] ∉ cs) (B n : Nat) (h : At9 w b g l) (hM : w.ownsMap Tryz.prog 9 (plainElem Tryz.prog 3) B n (tabD (.map []) 1 cs)) :
    Calls Tryz.prog 129 #[.pointer (some ⟨b, 0, none⟩), .map (some B)] w (Out9 w b g (oneP ([] :: cs) g.e l) IsN) := by
  have hH := here_any h
  have hR := fun w' (hb : Below w.heap.size w w') => refuse_any (h.later hb)
  have hhas := tab_has cs (.map []) 1 (hereT g l).2.1 Maps.isMap_empty
  have hat := tab_at cs (.map []) 1 (hereT g l).2.1 (.lit (.int .i64 0)) Maps.isMap_empty hc
  have hdat : (strOf (hereT g l).2.1).data.toList = (hereT g l).2.1 := by simp [strOf]
  obtain ⟨A, cap, m, hv, hn, hl, hB, hm, h0, h1⟩ := h.parts
  have h9 : Maps.has (.map [] : DataW Unit) (.string (hereT g l).2.1) = false := rfl
  rw [h9, Bool.or_false] at hhas
  have hsz : (strOf (hereT g l).2.1).size ≤ 1000000 := by
    rw [strOf_size]
    cases l with
    | nil => exact Nat.zero_le _
    | cons t r =>
      have := h.ok.len t (h1 t r rfl).2.2.1
      show t.2.1.length ≤ _
      omega
  by_cases hin : (hereT g l).2.1 ∈ cs
  · replace hat := hat.trans (if_pos hin)
    cases l with
    | nil => exact absurd hin he
    | cons t r =>
      obtain ⟨i1, i2, i3, a, rfl, i4, i5⟩ := h1 t r rfl
      obtain ⟨kd, tx, at_⟩ := t
      simp only [hereT] at hH hhas hat hdat hin hsz
      have hne : tx ≠ [] := fun e => he (by rw [e] at hin; exact hin)
      have hidx : ([] :: cs : List (List UInt8)).idxOf tx = cs.idxOf tx + 1 := by
        rw [List.idxOf_cons]
        have : (([] : List UInt8) == tx) = false := by rw [beq_eq_false_iff_ne]; exact fun e => hne e.symm
        rw [this]
        rfl
      have hlt : cs.idxOf tx < cs.length := List.idxOf_lt_length_iff.2 hin
      have ho : oneP ([] :: cs) g.e ((kd, tx, at_) :: r) = .ok (((cs.idxOf tx + 1 : Nat) : Int), r) := by
        simp only [oneP]
        rw [hidx, if_pos (by simp; omega)]
      rw [ho]
      have hln := h.ok.n
      refine (oneOf_yes _ g.ts.length cap m g.e b i1 (by omega) B n _ (kd : Int) (strOf tx) (at_ : Int) ((cs.idxOf tx + 1 : Nat) : Int) hsz (by rw [hdat, hhas]; exact decide_eq_true hin) (fun c hc' => ?_) w hB hM hH).mono fun e w' hx => ?_
      · rw [hdat, hat] at hc'
        injection hc' with hc'
        injection hc' with _ hc'
        rw [← hc']
        congr 1
        omega
      · rw [hx.1]
        exact out_ok hx.2.1 rfl (at9_next h hv i1 i2 hx.2.1 hx.2.2)
  · have ho : oneP ([] :: cs) g.e l = .error (wrongP g.e l) := by
      cases l with
      | nil => rfl
      | cons t r =>
        simp only [oneP]
        rw [if_neg]
        intro hx
        by_cases hne : t.2.1 = []
        · have := hx.1
          rw [hne] at this
          simp at this
        · have hidx : ([] :: cs : List (List UInt8)).idxOf t.2.1 = cs.idxOf t.2.1 + 1 := by
            rw [List.idxOf_cons]
            have : (([] : List UInt8) == t.2.1) = false := by rw [beq_eq_false_iff_ne]; exact fun e => hne e.symm
            rw [this]
            rfl
          have h2 := hx.2
          rw [hidx, List.length_cons] at h2
          exact hin (List.idxOf_lt_length_iff.1 (show cs.idxOf t.2.1 < cs.length by omega))
    rw [ho]
    refine (oneOf_no b B n _ _ _ _ (wrongP g.e l) hsz (by rw [hdat, hhas]; exact decide_eq_false hin) w hM hH hR).mono fun e w' hx => ?_
    rw [hx.1]
    exact out_err (grown_of b hx.2)
end Go.Proofs.YtdjaijhlhhnmeaaGreatDoor
