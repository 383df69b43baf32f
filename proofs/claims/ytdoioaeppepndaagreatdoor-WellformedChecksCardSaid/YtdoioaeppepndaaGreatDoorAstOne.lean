/- Package ast: lists, atoms. -/
import Derived.Test.YtdoioaeppepndaaGreatDoorProg
import Derived.Test.YtdoioaeppepndaaGreatDoorAstSm
import Derived.Outline
import Derived.Deep.LoopGhost
import Derived.BigQuiet
import Derived.Handy
import Derived.Deep.RegionWith
import Derived.Test.YtdoioaeppepndaaGreatDoorTokTwo
namespace Go.Proofs.YtdoioaeppepndaaGreatDoor
open Go.RowKit
open A8
theorem strOf_inj {a b : List UInt8} (h : strOf a = strOf b) : a = b := by
  have := congrArg (fun s : ByteArray => s.data.toList) h
  simpa [strOf] using this
set_option maxRecDepth 100000 in
set_option maxHeartbeats 2000000 in
theorem equalCond_0 (x0 : Int) (x1 : Int) (y0 : Int) (y1 : Int) (h : ¬ x0 = y0) (w : World) :
    Calls Tryz.prog 156 #[.agg #[.int .i64 x0, .int .i64 x1], .agg #[.int .i64 y0, .int .i64 y1]] w fun e w' => e = .returned (.bool false) ∧ Below w.heap.size w w' := by
  have hb : (x0 == y0) = false := by rw [beq_eq_false_iff_ne]; exact h
  go_enter Tryz.func156, Tryz.ntmps156
  go_wp2
  go_ret
  exact ⟨rfl, b2 _ _ _⟩
set_option maxRecDepth 100000 in
set_option maxHeartbeats 2000000 in
theorem equalCond_1 (x0 : Int) (x1 : Int) (y1 : Int) (h : ¬ x1 = y1) (w : World) :
    Calls Tryz.prog 156 #[.agg #[.int .i64 x0, .int .i64 x1], .agg #[.int .i64 x0, .int .i64 y1]] w fun e w' => e = .returned (.bool false) ∧ Below w.heap.size w w' := by
  have hb : (x1 == y1) = false := by rw [beq_eq_false_iff_ne]; exact h
  go_enter Tryz.func156, Tryz.ntmps156
  go_wp2
  go_ret
  exact ⟨rfl, b2 _ _ _⟩
set_option maxRecDepth 100000 in
set_option maxHeartbeats 2000000 in
theorem equalCond_2 (x0 : Int) (x1 : Int)   (w : World) :
    Calls Tryz.prog 156 #[.agg #[.int .i64 x0, .int .i64 x1], .agg #[.int .i64 x0, .int .i64 x1]] w fun e w' => e = .returned (.bool true) ∧ Below w.heap.size w w' := by
  go_enter Tryz.func156, Tryz.ntmps156
  go_wp2
  go_ret
  exact ⟨rfl, b2 _ _ _⟩
theorem equalCond_any (x y : Cn) (w : World) :
    Calls Tryz.prog 156 #[.agg (cnC x).toArray, .agg (cnC y).toArray] w fun e w' => e = .returned (.bool (decide (x = y))) ∧ Below w.heap.size w w' := by
  obtain ⟨a, b⟩ := x
  obtain ⟨c, d⟩ := y
  simp only [Cn.mk.injEq]
  by_cases h1 : a = c
  · subst h1
    by_cases h2 : b = d
    · subst h2
      simp only [and_self, decide_true]
      exact equalCond_2 a b w
    · simp only [h2, and_false, decide_false]
      exact equalCond_1 a b d h2 w
  · simp only [h1, false_and, decide_false]
    exact equalCond_0 a b c d h1 w
end Go.Proofs.YtdoioaeppepndaaGreatDoor
namespace Go.Proofs.YtdoioaeppepndaaGreatDoor
open Go.RowKit
open A8

theorem isFrom_any (a n b : Int) (w : World) : Calls Tryz.prog 145 #[.int .i64 a, .int .i64 n, .int .i64 b] w fun e w' => e = .returned (.bool (decide (a ≤ n) && decide (n ≤ b))) ∧ w = w' := by
  by_cases h1 : a ≤ n
  · by_cases h2 : n ≤ b
    · go_enter Tryz.func145, Tryz.ntmps145
      go_wp2
      go_ret
      exact ⟨ret_bool (by simp [h1, h2]), rfl⟩
    · go_enter Tryz.func145, Tryz.ntmps145
      go_wp2
      go_ret
      exact ⟨ret_bool (by simp [h2]), rfl⟩
  · go_enter Tryz.func145, Tryz.ntmps145
    go_wp2
    go_ret
    exact ⟨ret_bool (by rw [decide_eq_false (p := a ≤ n) (by omega)]; rfl), rfl⟩
theorem isCond_any (c : Cn) (w : World) : Calls Tryz.prog 142 #[.agg (cnC c).toArray] w fun e w' => e = .returned (.bool (condB c)) ∧ Below w.heap.size w w' := by
  obtain ⟨op, va⟩ := c
  have hq := fun w => isFrom_any 1 op 6 w
  unfold condB cnC
  simp only
  obtain ⟨q, hqq⟩ : ∃ q, q = (decide (1 ≤ op) && decide (op ≤ 6)) := ⟨_, rfl⟩
  rw [← hqq] at hq ⊢
  clear hqq
  go_enter Tryz.func142, Tryz.ntmps142
  go_wp2_with (go_at_call 145; refine (hq _).mono ?_; rintro e w2 ⟨rfl, rfl⟩)
  go_ret
  exact ⟨rfl, b1 _ _⟩
set_option maxRecDepth 100000 in
set_option maxHeartbeats 2000000 in
theorem areAllCond1_any (x : Cn) (b : Nat) (w : World) (hB : Blk w b [.func (.func 142) #[] #[]]) :
    Calls Tryz.prog 159 #[.agg (cnC x).toArray, .pointer (some ⟨b, 0, none⟩)] w fun e w' => e = .returned (.bool (!condB x)) ∧ Below w.heap.size w w' := by
  have hq := fun w => isCond_any x w
  obtain ⟨q, hqq⟩ : ∃ q, q = condB x := ⟨_, rfl⟩
  rw [← hqq] at hq ⊢
  have hB2 := hB.alloc (.cells (cnC x).toArray 94)
  have c0 := hB2.cell 0 _ rfl
  simp only [cnC] at hq c0 ⊢


  clear hqq hB hB2
  go_enter Tryz.func159, Tryz.ntmps159
  go_wp2_with (go_at_call 142; refine (hq _).mono ?_; rintro e w2 ⟨rfl, hb2⟩)
  go_ret
  exact ⟨rfl, bstep (b1 _ _) hb2⟩
set_option maxRecDepth 100000 in
set_option maxHeartbeats 4000000 in
theorem indexFuncCond_any (v : Value) (l : List Cn) (b : Nat) (w : World) (hv : Sl w 2 l.length v (l.flatMap cnC)) (hB : Blk w b [.func (.func 142) #[] #[]]) :
    Calls Tryz.prog 165 #[v, .func (.func 159) #[] #[.pointer (some ⟨b, 0, none⟩)]] w fun e w' => ∃ j : Int, e = .returned (.int .i64 j) ∧ decide (0 ≤ j) = !l.all condB ∧ Below w.heap.size w w' := by
  obtain ⟨A, cap, rfl, hm, hc⟩ := sl_els (by decide) cnC_len hv
  have HC := Lib.hid hc
  have HB := Lib.hid hB

  clear hc hv hB
  go_enter Tryz.func165, Tryz.ntmps165
  go_wp2
  go_loopg [5, 8] l.length (fun g tv iv wr => ∃ k : Nat, k ≤ l.length ∧ g = l.length - k ∧ iv = .int .i64 (k : Int) ∧ Hid (Below w.heap.size w wr) ∧ Hid (l.all condB = (l.drop k).all condB))
  case atStart => exact ⟨0, Nat.zero_le _, rfl, rfl, Lib.hid (Below.refl _ _), Lib.hid rfl⟩
  case round =>
    obtain ⟨k, hk, hg, rfl, hb, hS⟩ := hrel
    by_cases hlt : k < l.length
    · obtain ⟨a, rfl, ha, E⟩ := HC.out k hlt
      have hst : (l.drop k).all condB = (condB l[k] && (l.drop (k + 1)).all condB) := by
        rw [List.drop_eq_getElem_cons hlt, List.all_cons]
      rw [hst] at hS
      have hq := fun w hB  => areAllCond1_any l[k] b w  hB
      obtain ⟨x, hx⟩ : ∃ x, x = l[k] := ⟨_, rfl⟩
      rw [← hx] at E hS hq
      obtain ⟨q, hqq⟩ : ∃ q, q = condB x := ⟨_, rfl⟩
      rw [← hqq] at hS hq
      replace E := E.same (SameB.of hb.out)
      have hBr := HB.out.later hb.out

      clear hx hqq hst HC
      have c0 := E.at0 _ rfl
      have c1 := E.at1 1 _ (by decide) rfl
      simp only [cnC] at hq
      have h1 : (k : Int) < (l.length : Int) := by omega
      have hwk : IntKind.i64.wrap ((k : Int) + 1) = (k : Int) + 1 := IntWalk.i64_in _ ⟨by omega, by omega⟩
      clear E
      cases q with
      | true =>
        have HS2 := Lib.hid (show l.all condB = (l.drop (k + 1)).all condB by rw [hS.out, Bool.true_and])
        clear hS
        go_wp2_with (go_at_call 159; refine (hq _ hBr).mono ?_; rintro e w2 ⟨rfl, hb2⟩)
        go_roundg (l.length - (k + 1))
        case rel => exact ⟨k + 1, by omega, rfl, by go_num, Lib.hid (bstep hb.out hb2), HS2⟩
        case measure => omega
      | false =>
        have HS2 := Lib.hid (show decide (0 ≤ (k : Int)) = !l.all condB by rw [hS.out, Bool.false_and, Bool.not_false, decide_eq_true_iff]; omega)
        clear hS
        go_wp2_with (go_at_call 159; refine (hq _ hBr).mono ?_; rintro e w2 ⟨rfl, hb2⟩)
        go_ret
        exact ⟨_, rfl, HS2.out, bstep hb.out hb2⟩
    · have e1 := Lib.hid (show decide (0 ≤ (-1 : Int)) = !l.all condB by rw [hS.out, List.drop_eq_nil_of_le (by omega)]; rfl)
      have hi : ¬ (k : Int) < (l.length : Int) := by omega
      clear HC hS
      go_wp2
      go_ret
      exact ⟨_, rfl, e1.out, hb.out⟩
set_option maxRecDepth 100000 in
set_option maxHeartbeats 2000000 in
theorem containsFuncCond_any (v : Value) (l : List Cn) (b : Nat) (w : World) (hv : Sl w 2 l.length v (l.flatMap cnC)) (hB : Blk w b [.func (.func 142) #[] #[]]) :
    Calls Tryz.prog 158 #[v, .func (.func 159) #[] #[.pointer (some ⟨b, 0, none⟩)]] w fun e w' => e = .returned (.bool (!l.all condB)) ∧ Below w.heap.size w w' := by
  have hq := indexFuncCond_any v l b w  hv hB
  clear hv hB
  obtain ⟨q, hqq⟩ : ∃ q, q = l.all condB := ⟨_, rfl⟩
  rw [← hqq] at hq ⊢
  clear hqq
  go_enter Tryz.func158, Tryz.ntmps158
  go_wp2_with (go_at_call 165; refine hq.mono ?_; rintro e w2 ⟨j, rfl, hj, hb2⟩)
  go_ret
  exact ⟨rfl, hb2⟩
set_option maxRecDepth 100000 in
set_option maxHeartbeats 2000000 in
theorem areAllCond_any (v : Value) (l : List Cn) (w : World) (hv : Sl w 2 l.length v (l.flatMap cnC)) :
    Calls Tryz.prog 154 #[v, .func (.func 142) #[] #[]] w fun e w' => e = .returned (.bool (l.all condB)) ∧ Below w.heap.size w w' := by
  obtain ⟨W, hW⟩ : ∃ W, W = w.alloc (.cells #[.func (.func 142) #[] #[]] 153) := ⟨_, rfl⟩
  have hb1 := b1 w (.cells #[.func (.func 142) #[] #[]] 153)
  have hB := Blk.new w [.func (.func 142) #[] #[]] 153
  rw [← hW] at hb1
  have hB2 : Blk W w.heap.size [.func (.func 142) #[] #[]] := hW ▸ hB
  have hq := containsFuncCond_any v l w.heap.size W  (hv.later hb1) hB2
  obtain ⟨q, hqq⟩ : ∃ q, q = l.all condB := ⟨_, rfl⟩
  rw [← hqq] at hq ⊢
  clear hqq hv hB hB2
  go_enter Tryz.func154, Tryz.ntmps154
  go_wp2_with fail
  rw [← hW]
  go_wp2_with (go_at_call 158; refine hq.mono ?_; rintro e w2 ⟨rfl, hb2⟩)
  go_ret
  exact ⟨rfl, bstep hb1 hb2⟩
end Go.Proofs.YtdoioaeppepndaaGreatDoor
namespace Go.Proofs.YtdoioaeppepndaaGreatDoor
open Go.RowKit
open A8

set_option maxRecDepth 100000 in
set_option maxHeartbeats 4000000 in
theorem sameListCond_any (u v : Value) (xs ys : List Cn) (w : World) (hu : Sl w 2 xs.length u (xs.flatMap cnC)) (hv : Sl w 2 ys.length v (ys.flatMap cnC)) :
    Calls Tryz.prog 155 #[u, v, .func (.func 156) #[] #[]] w fun e w' => e = .returned (.bool (decide (xs = ys))) ∧ Below w.heap.size w w' := by
  obtain ⟨A, cap, rfl, hm, hc⟩ := sl_els (by decide) cnC_len hu
  obtain ⟨A', cap', rfl, hm', hc'⟩ := sl_els (by decide) cnC_len hv
  have HC := Lib.hid hc
  have HC' := Lib.hid hc'
  clear hc hc' hu hv
  by_cases hlen : xs.length = ys.length
  · have hne : ((xs.length : Int) != (ys.length : Int)) = false := by simp [hlen]
    have HL := Lib.hid hlen
    clear hlen
    go_enter Tryz.func155, Tryz.ntmps155
    go_wp2
    go_loopg [15] xs.length (fun g iv wr => ∃ k : Nat, k ≤ xs.length ∧ g = xs.length - k ∧ iv = .int .i64 (k : Int) ∧ Hid (Below w.heap.size w wr) ∧ Hid (decide (xs = ys) = decide (xs.drop k = ys.drop k)))
    case atStart => exact ⟨0, Nat.zero_le _, rfl, rfl, Lib.hid (Below.refl _ _), Lib.hid rfl⟩
    case round =>
      obtain ⟨k, hk, hg, rfl, hB, hS⟩ := hrel
      by_cases hlt : k < xs.length
      · have hlt2 : k < ys.length := by rw [← HL.out]; exact hlt
        obtain ⟨a, rfl, ha, E⟩ := HC.out k hlt
        obtain ⟨a', rfl, ha', E'⟩ := HC'.out k hlt2
        have hst : decide (xs.drop k = ys.drop k) = (decide (xs[k] = ys[k]) && decide (xs.drop (k + 1) = ys.drop (k + 1))) := by
          rw [List.drop_eq_getElem_cons hlt, List.drop_eq_getElem_cons hlt2]
          simp only [List.cons.injEq, Bool.decide_and]
        have hq := fun w => equalCond_any xs[k] ys[k] w
        obtain ⟨x, hx⟩ : ∃ x, x = xs[k] := ⟨_, rfl⟩
        obtain ⟨y, hy⟩ : ∃ y, y = ys[k] := ⟨_, rfl⟩
        rw [← hx] at E hst hq
        rw [← hy] at E' hst hq
        obtain ⟨q, hqq⟩ : ∃ q, q = decide (x = y) := ⟨_, rfl⟩
        rw [← hqq] at hst hq
        rw [hst] at hS
        replace E := (E.same (SameB.of hB.out)).later (Below.refl _ _).drew
        replace E' := (E'.same (SameB.of hB.out)).later (Below.refl _ _).drew
        clear hx hy hqq hst
        have c0 := E.at0 _ rfl
        have d0 := E'.at0 _ rfl
        have c1 := E.at1 1 _ (by decide) rfl
        have d1 := E'.at1 1 _ (by decide) rfl
        simp only [cnC] at hq
        have h1 : (k : Int) < (xs.length : Int) := by omega
        have h2 : (k : Int) < (ys.length : Int) := by omega
        have hwk : IntKind.i64.wrap ((k : Int) + 1) = (k : Int) + 1 := IntWalk.i64_in _ ⟨by omega, by omega⟩
        clear E E' HC HC'
        have HB2 := fun (w2 : World) (hb2 : Below wr.drew.heap.size wr.drew w2) => bstep hB.out.drew hb2
        cases q with
        | true =>
          have HS2 := Lib.hid (show decide (xs = ys) = decide (xs.drop (k + 1) = ys.drop (k + 1)) by rw [hS.out, Bool.true_and])
          clear hS
          go_wp2
          go_region_with (go_at_call 156; refine (hq _).mono ?_; rintro e w2 ⟨rfl, hb2⟩)
          all_goals
            go_wp2
            go_roundg (xs.length - (k + 1))
            case rel => exact ⟨k + 1, by omega, rfl, by go_num, Lib.hid (HB2 _ hb2), HS2⟩
            case measure => omega
        | false =>
          have HS2 := Lib.hid (show decide (xs = ys) = false by rw [hS.out, Bool.false_and])
          clear hS
          go_wp2
          go_region_with (go_at_call 156; refine (hq _).mono ?_; rintro e w2 ⟨rfl, hb2⟩)
          all_goals
            go_wp2
            go_ret
            exact ⟨by rw [HS2.out]; rfl, HB2 _ hb2⟩
      · have e1 := Lib.hid (show decide (xs = ys) = true by rw [hS.out, List.drop_eq_nil_of_le (by omega), List.drop_eq_nil_of_le (by have := HL.out; omega)]; rfl)
        have hi : ¬ (k : Int) < (xs.length : Int) := by omega
        clear HC HC' hS
        go_wp2
        go_ret
        exact ⟨by rw [e1.out]; rfl, hB.out⟩
  · have hne : ((xs.length : Int) != (ys.length : Int)) = true := by simp; omega
    have e1 := Lib.hid (show decide (xs = ys) = false by rw [decide_eq_false_iff_not]; exact fun e => hlen (by rw [e]))
    go_enter Tryz.func155, Tryz.ntmps155
    go_wp2
    go_ret
    exact ⟨by rw [e1.out]; rfl, Below.refl _ _⟩
end Go.Proofs.YtdoioaeppepndaaGreatDoor
namespace Go.Proofs.YtdoioaeppepndaaGreatDoor
open Go.RowKit
open A8 Tk7

theorem wordB_is (l : List UInt8) : wordB (strOf l) = wordsA.contains l := by
  unfold wordB
  have h : ∀ L : List (List UInt8), (L.any fun c => decide (strOf l = strOf c)) = L.contains l := fun L => by
    induction L with
    | nil => rfl
    | cons c L ih =>
      rw [List.any_cons, ih, List.contains_cons]
      congr 1
      by_cases e : l = c
      · subst e; simp
      · have : ¬ strOf l = strOf c := fun h => e (strOf_inj h)
        simp [e, this]
  exact h wordsL
theorem take_all (p : UInt8 → Bool) : ∀ r : List UInt8, r.all p = true → r.takeWhile p = r
  | [], _ => rfl
  | b :: r, h => by
    rw [List.all_cons, Bool.and_eq_true] at h
    rw [List.takeWhile_cons, if_pos h.1, take_all p r h.2]
theorem tok_word (l : List UInt8) : isTok 1 l = (decide (1 ≤ l.length) && l.all smallB) := by
  cases l with
  | nil => rfl
  | cons b r =>
    have h : isTok 1 (b :: r) = true ↔ (b :: r).all smallB = true := by
      rw [isTok_iff]
      constructor
      · rintro ⟨h1, -⟩
        simp only [begG] at h1
        split at h1
        · rename_i hb
          have h2 : (r.takeWhile smallB).length = r.length := by
            have := congrArg Prod.snd h1
            simpa using this
          have h3 : r.takeWhile smallB = r := List.IsPrefix.eq_of_length (List.takeWhile_prefix _) h2
          rw [List.all_cons, hb, Bool.true_and]
          have := List.all_takeWhile (p := smallB) (l := r)
          rw [h3] at this
          exact this
        · split at h1
          · cases h1
          · split at h1
            · have := congrArg Prod.fst h1
              simp at this
            · have := congrArg Prod.fst h1
              simp at this
      · intro h1
        rw [List.all_cons, Bool.and_eq_true] at h1
        refine ⟨?_, by simp⟩
        have h3 : r.takeWhile smallB = r := take_all smallB r h1.2
        simp only [begG, h1.1, if_true, h3, List.length_cons]
    simp only [List.length_cons, Nat.le_add_left, decide_true, Bool.true_and]
    cases h2 : (b :: r).all smallB with
    | true => exact h.2 h2
    | false =>
      cases h3 : isTok 1 (b :: r) with
      | true => rw [h.1 h3] at h2; cases h2
      | false => rfl
theorem check_word (l : List UInt8) : checkI (1, l, 0) = if (decide (1 ≤ l.length) && l.all smallB) = true then 0 else 3 := by
  have h : checkI (1, l, 0) = if isTok 1 l = false then 3 else 0 := rfl
  rw [h, tok_word]
  cases (decide (1 ≤ l.length) && l.all smallB) <;> rfl
set_option maxRecDepth 100000 in
set_option maxHeartbeats 2000000 in
theorem name_any (l : List UInt8) (w : World) (hG : SG w) :
    Calls Tryz.prog 146 #[.string (strOf l)] w fun e w' => e = .returned (.bool (nameB l)) ∧ Below w.heap.size w w' := by
  have hw := fun w => word_any (strOf l) w
  have hc := fun w (h8 : l.length ≤ 8) => check_any 1 l 0 (by unfold maxLen; omega) w
  rw [wordB_is] at hw
  rw [check_word] at hc
  have hn : nameB l = (decide (1 ≤ l.length) && decide (l.length ≤ 8) && l.all smallB && !wordsA.contains l) := rfl
  have hsz : (strOf l).size = l.length := strOf_size l
  obtain ⟨p, hp⟩ : ∃ p, p = wordsA.contains l := ⟨_, rfl⟩
  obtain ⟨q, hq⟩ : ∃ q, q = decide (1 ≤ l.length) := ⟨_, rfl⟩
  obtain ⟨r, hr⟩ : ∃ r, r = l.all smallB := ⟨_, rfl⟩
  rw [← hp] at hw
  rw [← hq, ← hr] at hc
  rw [hn, ← hp, ← hq, ← hr]
  obtain ⟨s, hs⟩ : ∃ s, s = strOf l := ⟨_, rfl⟩
  rw [← hs] at hw hc hsz ⊢
  clear hp hq hr hn hs
  by_cases h8 : l.length ≤ 8
  · rw [decide_eq_true h8]
    have h8' : (l.length : Int) ≤ 8 := by omega
    cases p with
    | true =>
      clear hc
      go_enter Tryz.func146, Tryz.ntmps146
      go_wp2_with (go_at_call 152; refine (hw _).mono ?_; rintro e w' ⟨rfl, rfl⟩)
      go_ret
      exact ⟨ret_bool (by cases q <;> cases r <;> rfl), Below.refl _ _⟩
    | false =>
      cases hqr : (q && r) with
      | true =>
        rw [hqr, if_pos rfl] at hc
        have hqq : (q && true && r && !false) = true := by rw [Bool.and_true, hqr]; rfl
        rw [hqq]
        clear hqq hqr
        go_enter Tryz.func146, Tryz.ntmps146
        go_wp2_with (first | (go_at_call 152; refine (hw _).mono ?_; rintro e w' ⟨rfl, rfl⟩) | (go_at_call 153; refine (hc _ h8 hG).mono ?_; rintro e w' ⟨rfl, hb⟩))
        go_ret
        exact ⟨rfl, hb⟩
      | false =>
        rw [hqr, if_neg (by decide)] at hc
        have hqq : (q && true && r && !false) = false := by rw [Bool.and_true, hqr]; rfl
        rw [hqq]
        clear hqq hqr
        go_enter Tryz.func146, Tryz.ntmps146
        go_wp2_with (first | (go_at_call 152; refine (hw _).mono ?_; rintro e w' ⟨rfl, rfl⟩) | (go_at_call 153; refine (hc _ h8 hG).mono ?_; rintro e w' ⟨rfl, hb⟩))
        go_ret
        exact ⟨rfl, hb⟩
  · rw [decide_eq_false h8, Bool.and_false]
    have h8' : ¬ (l.length : Int) ≤ 8 := by omega
    clear hc hw
    go_enter Tryz.func146, Tryz.ntmps146
    go_wp2
    go_ret
    exact ⟨rfl, Below.refl _ _⟩
set_option maxRecDepth 100000 in
set_option maxHeartbeats 2000000 in
theorem isAgg_any (a : Ag) (w : World) (hG : SG w) : Calls Tryz.prog 131 #[.agg (agC a).toArray] w fun e w' => e = .returned (.bool (aggB a)) ∧ Below w.heap.size w w' := by
  obtain ⟨fn, nm⟩ := a
  have hq := fun w => isFrom_any 1 fn 6 w
  have hn := fun w hG => name_any nm w hG
  have hG2 := hG.later (b1 w (.cells (agC ⟨fn, nm⟩).toArray 92))
  unfold aggB
  simp only [agC] at hG2 ⊢
  obtain ⟨q, hqq⟩ : ∃ q, q = (decide (1 ≤ fn) && decide (fn ≤ 6)) := ⟨_, rfl⟩
  obtain ⟨r, hr⟩ : ∃ r, r = nameB nm := ⟨_, rfl⟩
  rw [← hqq] at hq ⊢
  rw [← hr] at hn ⊢
  clear hqq hr
  cases q with
  | true =>
    go_enter Tryz.func131, Tryz.ntmps131
    go_wp2_with (first | (go_at_call 145; refine (hq _).mono ?_; rintro e w2 ⟨rfl, rfl⟩) | (go_at_call 146; refine (hn _ hG2).mono ?_; rintro e w2 ⟨rfl, hb⟩))
    go_ret
    exact ⟨rfl, bstep (b1 _ _) hb⟩
  | false =>
    go_enter Tryz.func131, Tryz.ntmps131
    go_wp2_with (go_at_call 145; refine (hq _).mono ?_; rintro e w2 ⟨rfl, rfl⟩)
    go_ret
    exact ⟨rfl, b1 _ _⟩
set_option maxRecDepth 100000 in
set_option maxHeartbeats 2000000 in
theorem isHave_any (h : Hv) (w : World) (hG : SG w) : Calls Tryz.prog 129 #[.agg (hvC h).toArray] w fun e w' => e = .returned (.bool (haveB h)) ∧ Below w.heap.size w w' := by
  obtain ⟨⟨fn, nm⟩, ⟨op, va⟩⟩ := h
  have hq := fun w hG => isAgg_any ⟨fn, nm⟩ w hG
  have hc := fun w => isCond_any ⟨op, va⟩ w
  have hG2 := hG.later (b1 w (.cells (hvC ⟨⟨fn, nm⟩, ⟨op, va⟩⟩).toArray 96))
  have hbx : ∀ w1, Below (w.alloc (.cells (hvC ⟨⟨fn, nm⟩, ⟨op, va⟩⟩).toArray 96)).heap.size (w.alloc (.cells (hvC ⟨⟨fn, nm⟩, ⟨op, va⟩⟩).toArray 96)) w1 → Blk w1 w.heap.size (hvC ⟨⟨fn, nm⟩, ⟨op, va⟩⟩) := fun w1 hb => (Blk.new _ _ _).later hb
  unfold haveB
  simp only [hvC, agC, cnC] at hG2 hq hc hbx ⊢
  obtain ⟨q, hqq⟩ : ∃ q, q = aggB ⟨fn, nm⟩ := ⟨_, rfl⟩
  obtain ⟨r, hr⟩ : ∃ r, r = condB ⟨op, va⟩ := ⟨_, rfl⟩
  rw [← hqq] at hq ⊢
  rw [← hr] at hc ⊢
  clear hqq hr
  cases q with
  | true =>
    go_enter Tryz.func129, Tryz.ntmps129
    go_wp2_with (first | (go_at_call 131; refine (hq _ hG2).mono ?_; rintro e w2 ⟨rfl, hb⟩; have c2 := (hbx _ hb).cell 2 _ rfl; have c3 := (hbx _ hb).cell 3 _ rfl) | (go_at_call 142; refine (hc _).mono ?_; rintro e w3 ⟨rfl, hb3⟩))
    go_ret
    exact ⟨rfl, bstep (bstep (b1 _ _) hb) hb3⟩
  | false =>
    go_enter Tryz.func129, Tryz.ntmps129
    go_wp2_with (go_at_call 131; refine (hq _ hG2).mono ?_; rintro e w2 ⟨rfl, hb⟩)
    go_ret
    exact ⟨rfl, bstep (b1 _ _) hb⟩
/-- The zero value of an atom. -/
def ga0 : GA := ⟨⟨0, false, 0, [], []⟩, .slice none 0 0⟩
theorem one0 (w : World) : OneA w ga0 := ⟨⟨by unfold okV; decide, by decide, (fun c h => by cases h), by unfold maxLen; decide⟩, Sl.nil w 2⟩
theorem zero_is (a : At) : decide (a = ga0.a) = zeroB a := by
  obtain ⟨kd, bd, bn, cs, nm⟩ := a
  unfold ga0 zeroB
  simp only [At.mk.injEq]
  by_cases h1 : kd = 0 <;> cases bd <;> by_cases h2 : bn = 0 <;> cases cs <;> cases nm <;> simp [h1, h2]
end Go.Proofs.YtdoioaeppepndaaGreatDoor
namespace Go.Proofs.YtdoioaeppepndaaGreatDoor
open Go.RowKit
open A8 Tk7

theorem isEmpty_is (l : List UInt8) : (strOf l).toList.isEmpty = l.isEmpty := by rw [strOf_toL]

set_option maxRecDepth 100000 in
set_option maxHeartbeats 2000000 in
theorem sameAtom_0 (xk : Int) (xb : Bool) (xn : Int) (xs : ByteArray) (yk : Int) (yb : Bool) (yn : Int) (ys : ByteArray) (A B : Option Addr) (n m c e : Nat) (sx sy : Value) (hsx : sx = .slice A n c) (hsy : sy = .slice B m e) (h : ¬ xk = yk) (w : World) :
    Calls Tryz.prog 149 #[.agg #[.int .i64 xk, .bool xb, .int .u64 xn, sx, .string xs], .agg #[.int .i64 yk, .bool yb, .int .u64 yn, sy, .string ys]] w fun e w' => e = .returned (.bool false) ∧ Below w.heap.size w w' := by
  subst hsx hsy
  have hb : (xk == yk) = false := by rw [beq_eq_false_iff_ne]; exact h
  go_enter Tryz.func149, Tryz.ntmps149
  go_wp2
  go_ret
  exact ⟨rfl, b2 _ _ _⟩

set_option maxRecDepth 100000 in
set_option maxHeartbeats 2000000 in
theorem sameAtom_1 (xk : Int) (xb : Bool) (xn : Int) (xs : ByteArray) (yb : Bool) (yn : Int) (ys : ByteArray) (A B : Option Addr) (n m c e : Nat) (sx sy : Value) (hsx : sx = .slice A n c) (hsy : sy = .slice B m e) (h : ¬ xb = yb) (w : World) :
    Calls Tryz.prog 149 #[.agg #[.int .i64 xk, .bool xb, .int .u64 xn, sx, .string xs], .agg #[.int .i64 xk, .bool yb, .int .u64 yn, sy, .string ys]] w fun e w' => e = .returned (.bool false) ∧ Below w.heap.size w w' := by
  subst hsx hsy
  have hb : (xb == yb) = false := by rw [beq_eq_false_iff_ne]; exact h
  go_enter Tryz.func149, Tryz.ntmps149
  go_wp2
  go_ret
  exact ⟨rfl, b2 _ _ _⟩

set_option maxRecDepth 100000 in
set_option maxHeartbeats 2000000 in
theorem sameAtom_2 (xk : Int) (xb : Bool) (xn : Int) (xs : ByteArray) (yn : Int) (ys : ByteArray) (A B : Option Addr) (n m c e : Nat) (sx sy : Value) (hsx : sx = .slice A n c) (hsy : sy = .slice B m e) (h : ¬ xn = yn) (w : World) :
    Calls Tryz.prog 149 #[.agg #[.int .i64 xk, .bool xb, .int .u64 xn, sx, .string xs], .agg #[.int .i64 xk, .bool xb, .int .u64 yn, sy, .string ys]] w fun e w' => e = .returned (.bool false) ∧ Below w.heap.size w w' := by
  subst hsx hsy
  have hb : (xn == yn) = false := by rw [beq_eq_false_iff_ne]; exact h
  go_enter Tryz.func149, Tryz.ntmps149
  go_wp2
  go_ret
  exact ⟨rfl, b2 _ _ _⟩

set_option maxRecDepth 100000 in
set_option maxHeartbeats 2000000 in
theorem sameAtom_3 (xk : Int) (xb : Bool) (xn : Int) (xs : ByteArray) (ys : ByteArray) (A B : Option Addr) (n m c e : Nat) (sx sy : Value) (hsx : sx = .slice A n c) (hsy : sy = .slice B m e) (h : ¬ xs = ys) (w : World) :
    Calls Tryz.prog 149 #[.agg #[.int .i64 xk, .bool xb, .int .u64 xn, sx, .string xs], .agg #[.int .i64 xk, .bool xb, .int .u64 xn, sy, .string ys]] w fun e w' => e = .returned (.bool false) ∧ Below w.heap.size w w' := by
  subst hsx hsy
  have hb : (xs.toList == ys.toList) = false := str_ne h
  have hb2 : ¬ xs.toList = ys.toList := by rw [beq_eq_false_iff_ne] at hb; exact hb
  go_enter Tryz.func149, Tryz.ntmps149
  go_wp2
  go_ret
  exact ⟨rfl, b2 _ _ _⟩

set_option maxRecDepth 100000 in
set_option maxHeartbeats 2000000 in
theorem sameAtom_4 (xk : Int) (xb : Bool) (xn : Int) (xs : ByteArray)  (A B : Option Addr) (n m c e : Nat) (sx sy : Value) (hsx : sx = .slice A n c) (hsy : sy = .slice B m e) (w : World) (q : Bool)
    (hq : ∀ w', Below w.heap.size w w' → Calls Tryz.prog 155 #[sx, sy, .func (.func 156) #[] #[]] w' fun e w'' => e = .returned (.bool q) ∧ Below w'.heap.size w' w'') :
    Calls Tryz.prog 149 #[.agg #[.int .i64 xk, .bool xb, .int .u64 xn, sx, .string xs], .agg #[.int .i64 xk, .bool xb, .int .u64 xn, sy, .string xs]] w fun e w' => e = .returned (.bool q) ∧ Below w.heap.size w w' := by
  subst hsx hsy
  go_enter Tryz.func149, Tryz.ntmps149
  go_wp2_with (go_at_call 155; refine (hq _ (b2 _ _ _)).mono ?_; rintro e w' ⟨rfl, hb⟩)
  go_ret
  exact ⟨rfl, bstep (b2 _ _ _) hb⟩

theorem sameAtom_any (g h : GA) (w : World) (hg : OneA w g) (hh : OneA w h) :
    Calls Tryz.prog 149 #[.agg (gaC g).toArray, .agg (gaC h).toArray] w fun e w' => e = .returned (.bool (decide (g.a = h.a))) ∧ Below w.heap.size w w' := by
  obtain ⟨⟨kd, bd, bn, cs, nm⟩, sc⟩ := g
  obtain ⟨⟨kd', bd', bn', cs', nm'⟩, sc'⟩ := h
  obtain ⟨-, h1⟩ := hg
  obtain ⟨-, h2⟩ := hh
  simp only at h1 h2
  have hq := fun w' (hb : Below w.heap.size w w') => sameListCond_any sc sc' cs cs' w' (h1.later hb) (h2.later hb)
  obtain ⟨A, c, hA, -, -⟩ := sl_get (by decide) h1
  obtain ⟨B, e, hB, -, -⟩ := sl_get (by decide) h2
  simp only [gaC, At.mk.injEq]
  by_cases e1 : kd = kd'
  · subst e1
    by_cases e2 : bd = bd'
    · subst e2
      by_cases e3 : bn = bn'
      · subst e3
        by_cases e5 : nm = nm'
        · subst e5
          simp only [true_and, and_true]
          exact sameAtom_4 kd bd bn (strOf nm) A B _ _ c e sc sc' hA hB w _ hq
        · simp only [e5, and_false, decide_false]
          exact sameAtom_3 kd bd bn (strOf nm) (strOf nm') A B _ _ c e sc sc' hA hB (fun h => e5 (strOf_inj h)) w
      · simp only [e3, false_and, and_false, decide_false]
        exact sameAtom_2 kd bd bn (strOf nm) bn' (strOf nm') A B _ _ c e sc sc' hA hB e3 w
    · simp only [e2, false_and, and_false, decide_false]
      exact sameAtom_1 kd bd bn (strOf nm) bd' bn' (strOf nm') A B _ _ c e sc sc' hA hB e2 w
  · simp only [e1, false_and, decide_false]
    exact sameAtom_0 kd bd bn (strOf nm) kd' bd' bn' (strOf nm') A B _ _ c e sc sc' hA hB e1 w

set_option maxRecDepth 100000 in
set_option maxHeartbeats 2000000 in
theorem isAtom_f (k n : Int) (A : Option Addr) (m c : Nat) (s : ByteArray) (b : Bool) (w : World)
    (h1 : ∀ w, Calls Tryz.prog 145 #[.int .i64 0, .int .i64 k, .int .i64 25] w fun e w' => e = .returned (.bool false) ∧ w = w') :
    Calls Tryz.prog 148 #[.agg #[.int .i64 k, .bool b, .int .u64 n, .slice A m c, .string s]] w fun e w' => e = .returned (.bool false) ∧ Below w.heap.size w w' := by
  go_enter Tryz.func148, Tryz.ntmps148
  go_wp2_with (first | (go_at_call 145; refine (h1 _).mono ?_; rintro e w2 ⟨rfl, rfl⟩))
  go_ret
  exact ⟨rfl, b1 _ _⟩

set_option maxRecDepth 100000 in
set_option maxHeartbeats 2000000 in
theorem isAtom_n (k n : Int) (A : Option Addr) (m c : Nat) (s : ByteArray) (_q3 : Bool) (hz : ¬ n = 0) (w : World)
    (h1 : ∀ w, Calls Tryz.prog 145 #[.int .i64 0, .int .i64 k, .int .i64 25] w fun e w' => e = .returned (.bool true) ∧ w = w') :
    Calls Tryz.prog 148 #[.agg #[.int .i64 k, .bool false, .int .u64 n, .slice A m c, .string s]] w fun e w' => e = .returned (.bool false) ∧ Below w.heap.size w w' := by
  have hzb : (n == 0) = false := by rw [beq_eq_false_iff_ne]; exact hz
  go_enter Tryz.func148, Tryz.ntmps148
  go_wp2_with (first | (go_at_call 145; refine (h1 _).mono ?_; rintro e w2 ⟨rfl, rfl⟩))
  go_ret
  exact ⟨rfl, b1 _ _⟩

set_option maxRecDepth 100000 in
set_option maxHeartbeats 2000000 in
theorem isAtom_tf (k n : Int) (A : Option Addr) (m c : Nat) (s : ByteArray) (_q3 : Bool) (w : World)
    (h1 : ∀ w, Calls Tryz.prog 145 #[.int .i64 0, .int .i64 k, .int .i64 25] w fun e w' => e = .returned (.bool true) ∧ w = w')
    (h2 : ∀ w', Below w.heap.size w w' → Calls Tryz.prog 154 #[.slice A m c, .func (.func 142) #[] #[]] w' fun e w'' => e = .returned (.bool false) ∧ Below w'.heap.size w' w'') :
    Calls Tryz.prog 148 #[.agg #[.int .i64 k, .bool true, .int .u64 n, .slice A m c, .string s]] w fun e w' => e = .returned (.bool false) ∧ Below w.heap.size w w' := by
  go_enter Tryz.func148, Tryz.ntmps148
  go_wp2_with (first | (go_at_call 145; refine (h1 _).mono ?_; rintro e w2 ⟨rfl, rfl⟩) | (go_at_call 154; refine (h2 _ (b1 _ _)).mono ?_; rintro e w3 ⟨rfl, hb3⟩))
  go_ret
  exact ⟨rfl, bstep (b1 _ _) hb3⟩

set_option maxRecDepth 100000 in
set_option maxHeartbeats 2000000 in
theorem isAtom_te (k n : Int) (A : Option Addr) (m c : Nat) (s : ByteArray) (_q3 : Bool) (w : World)
    (h1 : ∀ w, Calls Tryz.prog 145 #[.int .i64 0, .int .i64 k, .int .i64 25] w fun e w' => e = .returned (.bool true) ∧ w = w')
    (h2 : ∀ w', Below w.heap.size w w' → Calls Tryz.prog 154 #[.slice A m c, .func (.func 142) #[] #[]] w' fun e w'' => e = .returned (.bool true) ∧ Below w'.heap.size w' w'')
    (he : s.toList.isEmpty = true) :
    Calls Tryz.prog 148 #[.agg #[.int .i64 k, .bool true, .int .u64 n, .slice A m c, .string s]] w fun e w' => e = .returned (.bool true) ∧ Below w.heap.size w w' := by
  have hbx : ∀ w1, Below (w.alloc (.cells #[.int .i64 k, .bool true, .int .u64 n, .slice A m c, .string s] 28)).heap.size (w.alloc (.cells #[.int .i64 k, .bool true, .int .u64 n, .slice A m c, .string s] 28)) w1 → Blk w1 w.heap.size [.int .i64 k, .bool true, .int .u64 n, .slice A m c, .string s] := fun w1 hb => (Blk.new w [.int .i64 k, .bool true, .int .u64 n, .slice A m c, .string s] 28).later hb
  go_enter Tryz.func148, Tryz.ntmps148
  go_wp2_with (first | (go_at_call 145; refine (h1 _).mono ?_; rintro e w2 ⟨rfl, rfl⟩) | (go_at_call 154; refine (h2 _ (b1 _ _)).mono ?_; rintro e w3 ⟨rfl, hb3⟩; have c4 := (hbx _ hb3).cell 4 _ rfl))
  go_ret
  exact ⟨rfl, bstep (b1 _ _) hb3⟩

set_option maxRecDepth 100000 in
set_option maxHeartbeats 2000000 in
theorem isAtom_tm (k n : Int) (A : Option Addr) (m c : Nat) (s : ByteArray) (q3 : Bool) (w : World)
    (h1 : ∀ w, Calls Tryz.prog 145 #[.int .i64 0, .int .i64 k, .int .i64 25] w fun e w' => e = .returned (.bool true) ∧ w = w')
    (h2 : ∀ w', Below w.heap.size w w' → Calls Tryz.prog 154 #[.slice A m c, .func (.func 142) #[] #[]] w' fun e w'' => e = .returned (.bool true) ∧ Below w'.heap.size w' w'')
    (he : s.toList.isEmpty = false)
    (h3 : ∀ w', Below w.heap.size w w' → Calls Tryz.prog 146 #[.string s] w' fun e w'' => e = .returned (.bool q3) ∧ Below w'.heap.size w' w'') :
    Calls Tryz.prog 148 #[.agg #[.int .i64 k, .bool true, .int .u64 n, .slice A m c, .string s]] w fun e w' => e = .returned (.bool q3) ∧ Below w.heap.size w w' := by
  have hbx : ∀ w1, Below (w.alloc (.cells #[.int .i64 k, .bool true, .int .u64 n, .slice A m c, .string s] 28)).heap.size (w.alloc (.cells #[.int .i64 k, .bool true, .int .u64 n, .slice A m c, .string s] 28)) w1 → Blk w1 w.heap.size [.int .i64 k, .bool true, .int .u64 n, .slice A m c, .string s] := fun w1 hb => (Blk.new w [.int .i64 k, .bool true, .int .u64 n, .slice A m c, .string s] 28).later hb
  go_enter Tryz.func148, Tryz.ntmps148
  go_wp2_with (first | (go_at_call 145; refine (h1 _).mono ?_; rintro e w2 ⟨rfl, rfl⟩) | (go_at_call 154; refine (h2 _ (b1 _ _)).mono ?_; rintro e w3 ⟨rfl, hb3⟩; have c4 := (hbx _ hb3).cell 4 _ rfl) | (go_at_call 146; refine (h3 _ (bstep (b1 _ _) hb3)).mono ?_; rintro e w4 ⟨rfl, hb4⟩))
  go_ret
  exact ⟨rfl, bstep (bstep (b1 _ _) hb3) hb4⟩

set_option maxRecDepth 100000 in
set_option maxHeartbeats 2000000 in
theorem isAtom_zf (k _n : Int) (A : Option Addr) (m c : Nat) (s : ByteArray) (_q3 : Bool) (w : World)
    (h1 : ∀ w, Calls Tryz.prog 145 #[.int .i64 0, .int .i64 k, .int .i64 25] w fun e w' => e = .returned (.bool true) ∧ w = w')
    (h2 : ∀ w', Below w.heap.size w w' → Calls Tryz.prog 154 #[.slice A m c, .func (.func 142) #[] #[]] w' fun e w'' => e = .returned (.bool false) ∧ Below w'.heap.size w' w'') :
    Calls Tryz.prog 148 #[.agg #[.int .i64 k, .bool false, .int .u64 0, .slice A m c, .string s]] w fun e w' => e = .returned (.bool false) ∧ Below w.heap.size w w' := by
  go_enter Tryz.func148, Tryz.ntmps148
  go_wp2_with (first | (go_at_call 145; refine (h1 _).mono ?_; rintro e w2 ⟨rfl, rfl⟩) | (go_at_call 154; refine (h2 _ (b1 _ _)).mono ?_; rintro e w3 ⟨rfl, hb3⟩))
  go_ret
  exact ⟨rfl, bstep (b1 _ _) hb3⟩

set_option maxRecDepth 100000 in
set_option maxHeartbeats 2000000 in
theorem isAtom_ze (k _n : Int) (A : Option Addr) (m c : Nat) (s : ByteArray) (_q3 : Bool) (w : World)
    (h1 : ∀ w, Calls Tryz.prog 145 #[.int .i64 0, .int .i64 k, .int .i64 25] w fun e w' => e = .returned (.bool true) ∧ w = w')
    (h2 : ∀ w', Below w.heap.size w w' → Calls Tryz.prog 154 #[.slice A m c, .func (.func 142) #[] #[]] w' fun e w'' => e = .returned (.bool true) ∧ Below w'.heap.size w' w'')
    (he : s.toList.isEmpty = true) :
    Calls Tryz.prog 148 #[.agg #[.int .i64 k, .bool false, .int .u64 0, .slice A m c, .string s]] w fun e w' => e = .returned (.bool true) ∧ Below w.heap.size w w' := by
  have hbx : ∀ w1, Below (w.alloc (.cells #[.int .i64 k, .bool false, .int .u64 0, .slice A m c, .string s] 28)).heap.size (w.alloc (.cells #[.int .i64 k, .bool false, .int .u64 0, .slice A m c, .string s] 28)) w1 → Blk w1 w.heap.size [.int .i64 k, .bool false, .int .u64 0, .slice A m c, .string s] := fun w1 hb => (Blk.new w [.int .i64 k, .bool false, .int .u64 0, .slice A m c, .string s] 28).later hb
  go_enter Tryz.func148, Tryz.ntmps148
  go_wp2_with (first | (go_at_call 145; refine (h1 _).mono ?_; rintro e w2 ⟨rfl, rfl⟩) | (go_at_call 154; refine (h2 _ (b1 _ _)).mono ?_; rintro e w3 ⟨rfl, hb3⟩; have c4 := (hbx _ hb3).cell 4 _ rfl))
  go_ret
  exact ⟨rfl, bstep (b1 _ _) hb3⟩

set_option maxRecDepth 100000 in
set_option maxHeartbeats 2000000 in
theorem isAtom_zm (k _n : Int) (A : Option Addr) (m c : Nat) (s : ByteArray) (q3 : Bool) (w : World)
    (h1 : ∀ w, Calls Tryz.prog 145 #[.int .i64 0, .int .i64 k, .int .i64 25] w fun e w' => e = .returned (.bool true) ∧ w = w')
    (h2 : ∀ w', Below w.heap.size w w' → Calls Tryz.prog 154 #[.slice A m c, .func (.func 142) #[] #[]] w' fun e w'' => e = .returned (.bool true) ∧ Below w'.heap.size w' w'')
    (he : s.toList.isEmpty = false)
    (h3 : ∀ w', Below w.heap.size w w' → Calls Tryz.prog 146 #[.string s] w' fun e w'' => e = .returned (.bool q3) ∧ Below w'.heap.size w' w'') :
    Calls Tryz.prog 148 #[.agg #[.int .i64 k, .bool false, .int .u64 0, .slice A m c, .string s]] w fun e w' => e = .returned (.bool q3) ∧ Below w.heap.size w w' := by
  have hbx : ∀ w1, Below (w.alloc (.cells #[.int .i64 k, .bool false, .int .u64 0, .slice A m c, .string s] 28)).heap.size (w.alloc (.cells #[.int .i64 k, .bool false, .int .u64 0, .slice A m c, .string s] 28)) w1 → Blk w1 w.heap.size [.int .i64 k, .bool false, .int .u64 0, .slice A m c, .string s] := fun w1 hb => (Blk.new w [.int .i64 k, .bool false, .int .u64 0, .slice A m c, .string s] 28).later hb
  go_enter Tryz.func148, Tryz.ntmps148
  go_wp2_with (first | (go_at_call 145; refine (h1 _).mono ?_; rintro e w2 ⟨rfl, rfl⟩) | (go_at_call 154; refine (h2 _ (b1 _ _)).mono ?_; rintro e w3 ⟨rfl, hb3⟩; have c4 := (hbx _ hb3).cell 4 _ rfl) | (go_at_call 146; refine (h3 _ (bstep (b1 _ _) hb3)).mono ?_; rintro e w4 ⟨rfl, hb4⟩))
  go_ret
  exact ⟨rfl, bstep (bstep (b1 _ _) hb3) hb4⟩

theorem isAtom_any (g : GA) (w : World) (hg : OneA w g) (hG : SG w) :
    Calls Tryz.prog 148 #[.agg (gaC g).toArray] w fun e w' => e = .returned (.bool (atomB g.a)) ∧ Below w.heap.size w w' := by
  obtain ⟨⟨kd, bd, bn, cs, nm⟩, sc⟩ := g
  obtain ⟨-, h1⟩ := hg
  simp only at h1
  have hq1 := fun w => isFrom_any 0 kd 25 w
  have hq2 := fun w' (hb : Below w.heap.size w w') => areAllCond_any sc cs w' (h1.later hb)
  have hq3 := fun w' (hb : Below w.heap.size w w') => name_any nm w' (hG.later hb)
  obtain ⟨A, c, rfl, -, -⟩ := sl_get (by decide) h1
  simp only [gaC, atomB]
  have he := isEmpty_is nm
  cases e1 : (decide (0 ≤ kd) && decide (kd ≤ 25)) with
  | false =>
    rw [e1] at hq1
    simp only [Bool.false_and]
    exact isAtom_f kd bn A _ c (strOf nm) bd w hq1
  | true =>
    rw [e1] at hq1
    cases bd with
    | true =>
      cases e2 : cs.all condB with
      | false =>
        rw [e2] at hq2
        simp only [Bool.true_or, Bool.and_false, Bool.false_and]
        exact isAtom_tf kd bn A _ c (strOf nm) true w hq1 hq2
      | true =>
        rw [e2] at hq2
        cases e3 : nm.isEmpty with
        | true =>
          rw [e3] at he
          simp only [Bool.true_or, Bool.and_true]
          exact isAtom_te kd bn A _ c (strOf nm) true w hq1 hq2 he
        | false =>
          rw [e3] at he
          simp only [Bool.true_or, Bool.and_true, Bool.true_and, Bool.false_or]
          exact isAtom_tm kd bn A _ c (strOf nm) _ w hq1 hq2 he hq3
    | false =>
      by_cases e4 : bn = 0
      · subst e4
        cases e2 : cs.all condB with
        | false =>
          rw [e2] at hq2
          simp only [decide_true, Bool.or_true, Bool.and_false, Bool.false_and]
          exact isAtom_zf kd 0 A _ c (strOf nm) true w hq1 hq2
        | true =>
          rw [e2] at hq2
          cases e3 : nm.isEmpty with
          | true =>
            rw [e3] at he
            simp only [decide_true, Bool.or_true, Bool.true_or, Bool.and_true]
            exact isAtom_ze kd 0 A _ c (strOf nm) true w hq1 hq2 he
          | false =>
            rw [e3] at he
            simp only [decide_true, Bool.or_true, Bool.and_true, Bool.true_and, Bool.false_or]
            exact isAtom_zm kd 0 A _ c (strOf nm) _ w hq1 hq2 he hq3
      · simp only [e4, decide_false, Bool.or_false, Bool.and_false, Bool.false_and]
        exact isAtom_n kd bn A _ c (strOf nm) true e4 w hq1

end Go.Proofs.YtdoioaeppepndaaGreatDoor
namespace Go.Proofs.YtdoioaeppepndaaGreatDoor
open Go.RowKit
open A8

set_option maxRecDepth 100000 in
set_option maxHeartbeats 2000000 in
theorem areAllAgg1_any (x : Ag) (b : Nat) (w : World) (hG : SG w) (hB : Blk w b [.func (.func 131) #[] #[]]) :
    Calls Tryz.prog 144 #[.agg (agC x).toArray, .pointer (some ⟨b, 0, none⟩)] w fun e w' => e = .returned (.bool (!aggB x)) ∧ Below w.heap.size w w' := by
  have hq := fun w => isAgg_any x w
  obtain ⟨q, hqq⟩ : ∃ q, q = aggB x := ⟨_, rfl⟩
  rw [← hqq] at hq ⊢
  have hB2 := hB.alloc (.cells (agC x).toArray 92)
  have c0 := hB2.cell 0 _ rfl
  simp only [agC] at hq c0 ⊢
  have hG2 := hG.later (b1 w (.cells (agC x).toArray 92))
  simp only [agC] at hG2
  clear hqq hB hB2
  go_enter Tryz.func144, Tryz.ntmps144
  go_wp2_with (go_at_call 131; refine (hq _ hG2).mono ?_; rintro e w2 ⟨rfl, hb2⟩)
  go_ret
  exact ⟨rfl, bstep (b1 _ _) hb2⟩
set_option maxRecDepth 100000 in
set_option maxHeartbeats 4000000 in
theorem indexFuncAgg_any (v : Value) (l : List Ag) (b : Nat) (w : World) (hG : SG w) (hv : Sl w 2 l.length v (l.flatMap agC)) (hB : Blk w b [.func (.func 131) #[] #[]]) :
    Calls Tryz.prog 151 #[v, .func (.func 144) #[] #[.pointer (some ⟨b, 0, none⟩)]] w fun e w' => ∃ j : Int, e = .returned (.int .i64 j) ∧ decide (0 ≤ j) = !l.all aggB ∧ Below w.heap.size w w' := by
  obtain ⟨A, cap, rfl, hm, hc⟩ := sl_els (by decide) agC_len hv
  have HC := Lib.hid hc
  have HB := Lib.hid hB
  have HG := Lib.hid hG
  clear hc hv hB hG
  go_enter Tryz.func151, Tryz.ntmps151
  go_wp2
  go_loopg [5, 8] l.length (fun g tv iv wr => ∃ k : Nat, k ≤ l.length ∧ g = l.length - k ∧ iv = .int .i64 (k : Int) ∧ Hid (Below w.heap.size w wr) ∧ Hid (l.all aggB = (l.drop k).all aggB))
  case atStart => exact ⟨0, Nat.zero_le _, rfl, rfl, Lib.hid (Below.refl _ _), Lib.hid rfl⟩
  case round =>
    obtain ⟨k, hk, hg, rfl, hb, hS⟩ := hrel
    by_cases hlt : k < l.length
    · obtain ⟨a, rfl, ha, E⟩ := HC.out k hlt
      have hst : (l.drop k).all aggB = (aggB l[k] && (l.drop (k + 1)).all aggB) := by
        rw [List.drop_eq_getElem_cons hlt, List.all_cons]
      rw [hst] at hS
      have hq := fun w hB hG => areAllAgg1_any l[k] b w hG hB
      obtain ⟨x, hx⟩ : ∃ x, x = l[k] := ⟨_, rfl⟩
      rw [← hx] at E hS hq
      obtain ⟨q, hqq⟩ : ∃ q, q = aggB x := ⟨_, rfl⟩
      rw [← hqq] at hS hq
      replace E := E.same (SameB.of hb.out)
      have hBr := HB.out.later hb.out
      have hGr := HG.out.later hb.out
      clear hx hqq hst HC
      have c0 := E.at0 _ rfl
      have c1 := E.at1 1 _ (by decide) rfl
      simp only [agC] at hq
      have h1 : (k : Int) < (l.length : Int) := by omega
      have hwk : IntKind.i64.wrap ((k : Int) + 1) = (k : Int) + 1 := IntWalk.i64_in _ ⟨by omega, by omega⟩
      clear E
      cases q with
      | true =>
        have HS2 := Lib.hid (show l.all aggB = (l.drop (k + 1)).all aggB by rw [hS.out, Bool.true_and])
        clear hS
        go_wp2_with (go_at_call 144; refine (hq _ hBr hGr).mono ?_; rintro e w2 ⟨rfl, hb2⟩)
        go_roundg (l.length - (k + 1))
        case rel => exact ⟨k + 1, by omega, rfl, by go_num, Lib.hid (bstep hb.out hb2), HS2⟩
        case measure => omega
      | false =>
        have HS2 := Lib.hid (show decide (0 ≤ (k : Int)) = !l.all aggB by rw [hS.out, Bool.false_and, Bool.not_false, decide_eq_true_iff]; omega)
        clear hS
        go_wp2_with (go_at_call 144; refine (hq _ hBr hGr).mono ?_; rintro e w2 ⟨rfl, hb2⟩)
        go_ret
        exact ⟨_, rfl, HS2.out, bstep hb.out hb2⟩
    · have e1 := Lib.hid (show decide (0 ≤ (-1 : Int)) = !l.all aggB by rw [hS.out, List.drop_eq_nil_of_le (by omega)]; rfl)
      have hi : ¬ (k : Int) < (l.length : Int) := by omega
      clear HC hS
      go_wp2
      go_ret
      exact ⟨_, rfl, e1.out, hb.out⟩
set_option maxRecDepth 100000 in
set_option maxHeartbeats 2000000 in
theorem containsFuncAgg_any (v : Value) (l : List Ag) (b : Nat) (w : World) (hG : SG w) (hv : Sl w 2 l.length v (l.flatMap agC)) (hB : Blk w b [.func (.func 131) #[] #[]]) :
    Calls Tryz.prog 143 #[v, .func (.func 144) #[] #[.pointer (some ⟨b, 0, none⟩)]] w fun e w' => e = .returned (.bool (!l.all aggB)) ∧ Below w.heap.size w w' := by
  have hq := indexFuncAgg_any v l b w hG hv hB
  clear hv hB
  obtain ⟨q, hqq⟩ : ∃ q, q = l.all aggB := ⟨_, rfl⟩
  rw [← hqq] at hq ⊢
  clear hqq
  go_enter Tryz.func143, Tryz.ntmps143
  go_wp2_with (go_at_call 151; refine hq.mono ?_; rintro e w2 ⟨j, rfl, hj, hb2⟩)
  go_ret
  exact ⟨rfl, hb2⟩
set_option maxRecDepth 100000 in
set_option maxHeartbeats 2000000 in
theorem areAllAgg_any (v : Value) (l : List Ag) (w : World) (hG : SG w) (hv : Sl w 2 l.length v (l.flatMap agC)) :
    Calls Tryz.prog 130 #[v, .func (.func 131) #[] #[]] w fun e w' => e = .returned (.bool (l.all aggB)) ∧ Below w.heap.size w w' := by
  obtain ⟨W, hW⟩ : ∃ W, W = w.alloc (.cells #[.func (.func 131) #[] #[]] 152) := ⟨_, rfl⟩
  have hb1 := b1 w (.cells #[.func (.func 131) #[] #[]] 152)
  have hB := Blk.new w [.func (.func 131) #[] #[]] 152
  rw [← hW] at hb1
  have hB2 : Blk W w.heap.size [.func (.func 131) #[] #[]] := hW ▸ hB
  have hq := containsFuncAgg_any v l w.heap.size W (hG.later hb1) (hv.later hb1) hB2
  obtain ⟨q, hqq⟩ : ∃ q, q = l.all aggB := ⟨_, rfl⟩
  rw [← hqq] at hq ⊢
  clear hqq hv hB hB2
  go_enter Tryz.func130, Tryz.ntmps130
  go_wp2_with fail
  rw [← hW]
  go_wp2_with (go_at_call 143; refine hq.mono ?_; rintro e w2 ⟨rfl, hb2⟩)
  go_ret
  exact ⟨rfl, bstep hb1 hb2⟩
set_option maxRecDepth 100000 in
set_option maxHeartbeats 2000000 in
theorem areAllHave1_any (x : Hv) (b : Nat) (w : World) (hG : SG w) (hB : Blk w b [.func (.func 129) #[] #[]]) :
    Calls Tryz.prog 141 #[.agg (hvC x).toArray, .pointer (some ⟨b, 0, none⟩)] w fun e w' => e = .returned (.bool (!haveB x)) ∧ Below w.heap.size w w' := by
  have hq := fun w => isHave_any x w
  obtain ⟨q, hqq⟩ : ∃ q, q = haveB x := ⟨_, rfl⟩
  rw [← hqq] at hq ⊢
  have hB2 := hB.alloc (.cells (hvC x).toArray 96)
  have c0 := hB2.cell 0 _ rfl
  simp only [hvC] at hq c0 ⊢
  have hG2 := hG.later (b1 w (.cells (hvC x).toArray 96))
  simp only [hvC] at hG2
  clear hqq hB hB2
  go_enter Tryz.func141, Tryz.ntmps141
  go_wp2_with (go_at_call 129; refine (hq _ hG2).mono ?_; rintro e w2 ⟨rfl, hb2⟩)
  go_ret
  exact ⟨rfl, bstep (b1 _ _) hb2⟩
set_option maxRecDepth 100000 in
set_option maxHeartbeats 4000000 in
theorem indexFuncHave_any (v : Value) (l : List Hv) (b : Nat) (w : World) (hG : SG w) (hv : Sl w 4 l.length v (l.flatMap hvC)) (hB : Blk w b [.func (.func 129) #[] #[]]) :
    Calls Tryz.prog 150 #[v, .func (.func 141) #[] #[.pointer (some ⟨b, 0, none⟩)]] w fun e w' => ∃ j : Int, e = .returned (.int .i64 j) ∧ decide (0 ≤ j) = !l.all haveB ∧ Below w.heap.size w w' := by
  obtain ⟨A, cap, rfl, hm, hc⟩ := sl_els (by decide) hvC_len hv
  have HC := Lib.hid hc
  have HB := Lib.hid hB
  have HG := Lib.hid hG
  clear hc hv hB hG
  go_enter Tryz.func150, Tryz.ntmps150
  go_wp2
  go_loopg [5, 8] l.length (fun g tv iv wr => ∃ k : Nat, k ≤ l.length ∧ g = l.length - k ∧ iv = .int .i64 (k : Int) ∧ Hid (Below w.heap.size w wr) ∧ Hid (l.all haveB = (l.drop k).all haveB))
  case atStart => exact ⟨0, Nat.zero_le _, rfl, rfl, Lib.hid (Below.refl _ _), Lib.hid rfl⟩
  case round =>
    obtain ⟨k, hk, hg, rfl, hb, hS⟩ := hrel
    by_cases hlt : k < l.length
    · obtain ⟨a, rfl, ha, E⟩ := HC.out k hlt
      have hst : (l.drop k).all haveB = (haveB l[k] && (l.drop (k + 1)).all haveB) := by
        rw [List.drop_eq_getElem_cons hlt, List.all_cons]
      rw [hst] at hS
      have hq := fun w hB hG => areAllHave1_any l[k] b w hG hB
      obtain ⟨x, hx⟩ : ∃ x, x = l[k] := ⟨_, rfl⟩
      rw [← hx] at E hS hq
      obtain ⟨q, hqq⟩ : ∃ q, q = haveB x := ⟨_, rfl⟩
      rw [← hqq] at hS hq
      replace E := E.same (SameB.of hb.out)
      have hBr := HB.out.later hb.out
      have hGr := HG.out.later hb.out
      clear hx hqq hst HC
      have c0 := E.at0 _ rfl
      have c1 := E.at1 1 _ (by decide) rfl
      have c2 := E.at1 2 _ (by decide) rfl
      have c3 := E.at1 3 _ (by decide) rfl
      simp only [hvC] at hq
      have h1 : (k : Int) < (l.length : Int) := by omega
      have hwk : IntKind.i64.wrap ((k : Int) + 1) = (k : Int) + 1 := IntWalk.i64_in _ ⟨by omega, by omega⟩
      clear E
      cases q with
      | true =>
        have HS2 := Lib.hid (show l.all haveB = (l.drop (k + 1)).all haveB by rw [hS.out, Bool.true_and])
        clear hS
        go_wp2_with (go_at_call 141; refine (hq _ hBr hGr).mono ?_; rintro e w2 ⟨rfl, hb2⟩)
        go_roundg (l.length - (k + 1))
        case rel => exact ⟨k + 1, by omega, rfl, by go_num, Lib.hid (bstep hb.out hb2), HS2⟩
        case measure => omega
      | false =>
        have HS2 := Lib.hid (show decide (0 ≤ (k : Int)) = !l.all haveB by rw [hS.out, Bool.false_and, Bool.not_false, decide_eq_true_iff]; omega)
        clear hS
        go_wp2_with (go_at_call 141; refine (hq _ hBr hGr).mono ?_; rintro e w2 ⟨rfl, hb2⟩)
        go_ret
        exact ⟨_, rfl, HS2.out, bstep hb.out hb2⟩
    · have e1 := Lib.hid (show decide (0 ≤ (-1 : Int)) = !l.all haveB by rw [hS.out, List.drop_eq_nil_of_le (by omega)]; rfl)
      have hi : ¬ (k : Int) < (l.length : Int) := by omega
      clear HC hS
      go_wp2
      go_ret
      exact ⟨_, rfl, e1.out, hb.out⟩
set_option maxRecDepth 100000 in
set_option maxHeartbeats 2000000 in
theorem containsFuncHave_any (v : Value) (l : List Hv) (b : Nat) (w : World) (hG : SG w) (hv : Sl w 4 l.length v (l.flatMap hvC)) (hB : Blk w b [.func (.func 129) #[] #[]]) :
    Calls Tryz.prog 140 #[v, .func (.func 141) #[] #[.pointer (some ⟨b, 0, none⟩)]] w fun e w' => e = .returned (.bool (!l.all haveB)) ∧ Below w.heap.size w w' := by
  have hq := indexFuncHave_any v l b w hG hv hB
  clear hv hB
  obtain ⟨q, hqq⟩ : ∃ q, q = l.all haveB := ⟨_, rfl⟩
  rw [← hqq] at hq ⊢
  clear hqq
  go_enter Tryz.func140, Tryz.ntmps140
  go_wp2_with (go_at_call 150; refine hq.mono ?_; rintro e w2 ⟨j, rfl, hj, hb2⟩)
  go_ret
  exact ⟨rfl, hb2⟩
set_option maxRecDepth 100000 in
set_option maxHeartbeats 2000000 in
theorem areAllHave_any (v : Value) (l : List Hv) (w : World) (hG : SG w) (hv : Sl w 4 l.length v (l.flatMap hvC)) :
    Calls Tryz.prog 128 #[v, .func (.func 129) #[] #[]] w fun e w' => e = .returned (.bool (l.all haveB)) ∧ Below w.heap.size w w' := by
  obtain ⟨W, hW⟩ : ∃ W, W = w.alloc (.cells #[.func (.func 129) #[] #[]] 169) := ⟨_, rfl⟩
  have hb1 := b1 w (.cells #[.func (.func 129) #[] #[]] 169)
  have hB := Blk.new w [.func (.func 129) #[] #[]] 169
  rw [← hW] at hb1
  have hB2 : Blk W w.heap.size [.func (.func 129) #[] #[]] := hW ▸ hB
  have hq := containsFuncHave_any v l w.heap.size W (hG.later hb1) (hv.later hb1) hB2
  obtain ⟨q, hqq⟩ : ∃ q, q = l.all haveB := ⟨_, rfl⟩
  rw [← hqq] at hq ⊢
  clear hqq hv hB hB2
  go_enter Tryz.func128, Tryz.ntmps128
  go_wp2_with fail
  rw [← hW]
  go_wp2_with (go_at_call 140; refine hq.mono ?_; rintro e w2 ⟨rfl, hb2⟩)
  go_ret
  exact ⟨rfl, bstep hb1 hb2⟩
end Go.Proofs.YtdoioaeppepndaaGreatDoor
