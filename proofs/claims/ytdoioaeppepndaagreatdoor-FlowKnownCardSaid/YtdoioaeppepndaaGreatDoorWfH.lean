/- Walk: whether one of these nodes is not negated; slices of a slice. -/
import Derived.Test.YtdoioaeppepndaaGreatDoorWfG
import Derived.Deep.LoopGhost
namespace Go.Proofs.YtdoioaeppepndaaGreatDoor
open Go.RowKit Go.Shelf
open A8 W10
attribute [local go_sem] Oper.semAt_some

def othT (l : List Tr) : Bool := l.any fun t => !isNotB t.nd
theorem othT_app (a b : List Tr) : othT (a ++ b) = (othT a || othT b) := List.any_append
theorem othT_one (t : Tr) : othT [t] = !isNotB t.nd := by simp [othT]
theorem flat_take {α : Type} {f : α → List Value} {sz : Nat} (hf : ∀ x, (f x).length = sz) (l : List α) (i : Nat) : (l.take i).flatMap f = (l.flatMap f).take (i * sz) := by
  induction l generalizing i with
  | nil => simp
  | cons x l ih =>
    cases i with
    | zero => simp
    | succ i =>
      have h1 : (f x).take (i * sz + sz) = f x := List.take_of_length_le (by rw [hf]; omega)
      have h2 : i * sz + sz - sz = i * sz := by omega
      rw [List.take_succ_cons, List.flatMap_cons, List.flatMap_cons, ih i, List.take_append, hf, Nat.succ_mul, h1, h2]
theorem flat_drop {α : Type} {f : α → List Value} {sz : Nat} (hf : ∀ x, (f x).length = sz) (l : List α) (i : Nat) : (l.drop i).flatMap f = (l.flatMap f).drop (i * sz) := by
  induction l generalizing i with
  | nil => simp
  | cons x l ih =>
    cases i with
    | zero => simp
    | succ i =>
      have h1 : (f x).drop (i * sz + sz) = [] := List.drop_of_length_le (by rw [hf]; omega)
      have h2 : i * sz + sz - sz = i * sz := by omega
      rw [List.drop_succ_cons, List.flatMap_cons, ih i, List.drop_append, hf, Nat.succ_mul, h1, h2, List.nil_append]
/-- s[:i] -/
theorem sl_take {w : World} {sz n i cap : Nat} {A : Option Addr} {us : List Value} (h : Sl w sz n (.slice A n cap) us) (hi : i ≤ n) : Sl w sz i (.slice A i cap) (us.take (i * sz)) := by
  obtain ⟨h1, h2, A', cap', h3, h4, h5, h6⟩ := h
  cases h3
  refine ⟨?_, by omega, A, cap, rfl, by omega, h5, fun j u hu => h6 j u ?_⟩
  · rw [List.length_take, h1]
    have := Nat.mul_le_mul_right sz hi
    omega
  · rw [List.getElem?_take] at hu
    split at hu
    · exact hu
    · cases hu
/-- s[i:] -/
theorem sl_drop {w : World} {sz n i cap : Nat} {a : Addr} {us : List Value} (h : Sl w sz n (.slice (some a) n cap) us) (hi : i ≤ n) : Sl w sz (n - i) (.slice (some (a.add (i * sz))) (n - i) (cap - i)) (us.drop (i * sz)) := by
  obtain ⟨h1, h2, A', cap', h3, h4, h5, h6⟩ := h
  cases h3
  refine ⟨?_, by omega, _, _, rfl, by omega, (fun h => by cases h), fun j u hu => ?_⟩
  · rw [List.length_drop, h1, Nat.sub_mul]
  · rw [List.getElem?_drop] at hu
    obtain ⟨a', ha, hb, hc⟩ := h6 _ u hu
    cases ha
    exact ⟨_, rfl, by rw [add_block]; exact hb, by rw [Go.Deep.add_add]; exact hc⟩
theorem sl_none {w : World} {sz : Nat} {A : Option Addr} {cap : Nat} (h : A = none → cap = 0) : Sl w sz 0 (.slice A 0 cap) [] := ⟨by simp, by unfold maxLen; omega, A, cap, rfl, by omega, h, fun i u h => by simp at h⟩
set_option maxRecDepth 100000 in
set_option maxHeartbeats 4000000 in
theorem hasOther_any (ts : List Tr) (v : Value) (w : World) (ho : ∀ t ∈ ts, OneT w t) (h : Sl w 9 ts.length v (ts.flatMap Tr.row)) :
    Calls Tryz.prog 132 #[v] w fun e w' => e = .returned (.bool (othT ts)) ∧ Below w.heap.size w w' := by
  obtain ⟨A, cap, rfl, hlen, hels⟩ := sl_els (by decide) row_len h
  have hin := fun (t : Tr) (w : World) => isNot_any t w
  have HE := Lib.hid hels
  have HO := Lib.hid ho
  obtain ⟨R, hR⟩ : ∃ R, R = othT ts := ⟨_, rfl⟩
  rw [← hR]
  have HR := Lib.hid hR
  clear h hels ho hR
  go_enter Tryz.func132, Tryz.ntmps132
  go_wp2
  go_loopw [7] (fun v wr => ∃ i : Nat, i ≤ ts.length ∧ v = .int .i64 (i : Int) ∧ Below w.heap.size w wr ∧ othT (ts.take i) = false) (fun v _ => ts.length - (intOf v).toNat)
  case atStart => exact ⟨0, Nat.zero_le _, rfl, Below.refl _ _, rfl⟩
  case round =>
    obtain ⟨i, hi, rfl, hb, hno⟩ := hrel
    by_cases hlt : i < ts.length
    · obtain ⟨a, rfl, ha, E⟩ := HE.out i hlt
      replace E := E.later hb
      have hone := HO.out ts[i] (List.getElem_mem hlt)
      have h1 : (i : Int) < (ts.length : Int) := by omega
      have hwk : IntKind.i64.wrap ((i : Int) + 1) = (i : Int) + 1 := IntWalk.i64_in _ ⟨by omega, by omega⟩
      have hsn : othT (ts.take (i + 1)) = !isNotB ts[i].nd := by rw [take_snoc ts i hlt, othT_app, hno, othT_one]; rfl
      have hyes : othT (ts.take (i + 1)) = true → R = true := fun h => by
        rw [HR.out, ← List.take_append_drop (i + 1) ts, othT_app, h]
        rfl
      obtain ⟨t, ht⟩ : ∃ t, t = ts[i] := ⟨_, rfl⟩
      rw [← ht] at E hone hsn
      replace hin := hin t
      clear ht
      obtain ⟨k, mn, mx, ⟨⟨kd, bd, bn, cs, nm⟩, sc⟩, sk, ks⟩ := t
      obtain ⟨-, ⟨-, g1⟩, g2⟩ := hone
      simp only at g1
      obtain ⟨A5, c5, rfl, -, -⟩ := sl_get (by decide) g1
      obtain ⟨A6, c6, rfl, -, -⟩ := sl_get (by decide) g2
      simp only [Tr.row] at E hin
      have e0 := E.at0 _ rfl
      have e1 := E.at1 1 _ (by decide) rfl
      have e2 := E.at1 2 _ (by decide) rfl
      have e3 := E.at1 3 _ (by decide) rfl
      have e4 := E.at1 4 _ (by decide) rfl
      have e5 := E.at1 5 _ (by decide) rfl
      have e6 := E.at1 6 _ (by decide) rfl
      have e7 := E.at1 7 _ (by decide) rfl
      have e8 := E.at1 8 _ (by decide) rfl
      obtain ⟨q, hq⟩ : ∃ q, q = isNotB (Tr.nd (.mk k mn mx ⟨⟨kd, bd, bn, cs, nm⟩, .slice A5 cs.length c5⟩ (.slice A6 ks.length c6) ks)) := ⟨_, rfl⟩
      rw [← hq] at hsn hin
      have HS := Lib.hid hsn
      have HY := Lib.hid hyes
      have HB := Lib.hid hb
      clear g1 g2 E hsn hyes hb hno hq HO HE
      cases q with
      | true =>
        go_wp2_with (go_at_call 118; refine (hin _).mono ?_; rintro e w2 ⟨rfl, hb2⟩)
        go_roundw
        case rel => exact ⟨i + 1, by omega, by rfl, bstep HB.out ((b1 _ _).trans (hb2.mono (by simp))), by rw [HS.out]; rfl⟩
        case measure => simp [intOf]; omega
      | false =>
        have HT := Lib.hid (HY.out (by rw [HS.out]; rfl))
        clear HY
        go_wp2_with (go_at_call 118; refine (hin _).mono ?_; rintro e w2 ⟨rfl, hb2⟩)
        go_ret
        exact ⟨by rw [HT.out]; rfl, bstep HB.out ((b1 _ _).trans (hb2.mono (by simp)))⟩
    · have h1 : ¬ (i : Int) < (ts.length : Int) := by omega
      have hall : ts.take i = ts := by rw [List.take_of_length_le (by omega)]
      rw [hall] at hno
      have HN := Lib.hid hno
      clear HE HO hall hno
      go_wp2
      go_ret
      exact ⟨by rw [HR.out, HN.out]; rfl, hb⟩
end Go.Proofs.YtdoioaeppepndaaGreatDoor
