/- Walks: the document's own functions of families that make no slices. -/
import Derived.Test.YtlembnpplnbagaaLatSpec
import Derived.Test.YtlembnpplnbagaaBlk
import Derived.Test.YtlembnpplnbagaaProg
import Derived.Outline
import Derived.IntWalk
import Derived.Deep.QuietTactic
namespace Go.Proofs.Ytlembnpplnbagaa.Lt
open Go.RowKit

theorem bit_hi {a i : Nat} (ha : a < 18446744073709551616) (hi : 64 ≤ i) : a.testBit i = false :=
  Nat.testBit_lt_two_pow (Nat.lt_of_lt_of_le ha (Nat.pow_le_pow_right (n := 2) (i := 64) (by decide) hi))
theorem comp_bit {b i : Nat} (hb : b < 18446744073709551616) : (18446744073709551615 - b).testBit i = (decide (i < 64) && !b.testBit i) := by
  have h := Nat.testBit_two_pow_sub_succ (n := 64) (x := b) hb i
  rw [show 2 ^ 64 - (b + 1) = 18446744073709551615 - b by omega] at h
  exact h
theorem or_lt {a b : Nat} (ha : a < 18446744073709551616) (hb : b < 18446744073709551616) : a ||| b < 18446744073709551616 := Nat.or_lt_two_pow (n := 64) ha hb
theorem and_lt {a b : Nat} (ha : a < 18446744073709551616) : a &&& b < 18446744073709551616 := Nat.lt_of_le_of_lt Nat.and_le_left ha
theorem dif_zero {a b : Nat} (ha : a < 18446744073709551616) (hb : b < 18446744073709551616) : (a &&& (18446744073709551615 - b)) = 0 ↔ leB a b = true := by
  rw [leB_iff]
  constructor
  · intro h i hi
    have h1 := congrArg (fun x => Nat.testBit x i) h
    simp only [Nat.testBit_and, comp_bit hb, hi, Nat.zero_testBit, Bool.true_and] at h1
    by_cases h64 : i < 64
    · simpa [h64] using h1
    · rw [bit_hi ha (by omega)] at hi; cases hi
  · intro h
    apply Nat.eq_of_testBit_eq
    intro i
    rw [Nat.testBit_and, comp_bit hb, Nat.zero_testBit]
    cases h1 : a.testBit i
    · rfl
    · rw [h i h1]; simp
/-- The values of a family. -/
def lv (l : List Nat) : List Value := l.map fun (x : Nat) => .int .u64 (x : Int)
theorem lv_length (l : List Nat) : (lv l).length = l.length := by simp [lv]
def U64 (l : List Nat) : Prop := ∀ x ∈ l, x < 18446744073709551616
theorem nats {w : World} {v : Value} {l : List Nat} (h : Slc w v (lv l)) :
    ∃ (A : Option Addr) (cap : Nat), v = .slice A l.length cap ∧ l.length ≤ 9223372036854775807 ∧ ∀ (i : Nat) (h : i < l.length), ∃ a, A = some a ∧ a.block < w.heap.size ∧ w.cell? (a.add i) = some (.int .u64 (l[i] : Int)) := by
  have hm := h.len
  obtain ⟨A, cap, rfl, _, _, hc⟩ := h
  simp only [lv, List.length_map, List.getElem_map] at hm hc ⊢
  exact ⟨A, cap, rfl, hm, hc⟩
theorem add0 (a : Addr) : a.add 0 = a := by
  unfold Addr.add
  split <;> simp_all
theorem jn_lt {l : List Nat} (h : U64 l) : jn l < 18446744073709551616 := by
  have : ∀ (l : List Nat) (a : Nat), U64 l → a < 18446744073709551616 → l.foldl (· ||| ·) a < 18446744073709551616 := by
    intro l
    induction l with
    | nil => intro a _ ha; exact ha
    | cons x l ih => intro a hl ha; rw [List.foldl_cons]; exact ih _ (fun y hy => hl y (by simp [hy])) (or_lt ha (hl x (by simp)))
  exact this l 0 h (by decide)
theorem mt_lt {l : List Nat} (h : U64 l) : mt l < 18446744073709551616 := by
  have : ∀ (l : List Nat) (a : Nat), a < 18446744073709551616 → l.foldl (· &&& ·) a < 18446744073709551616 := by
    intro l
    induction l with
    | nil => intro a ha; exact ha
    | cons x l ih => intro a ha; rw [List.foldl_cons]; exact ih _ (and_lt ha)
  cases l with
  | nil => decide
  | cons x l => exact this l x (h x (by simp))
theorem U64.take {l : List Nat} (h : U64 l) (k : Nat) : U64 (l.take k) := fun x hx => h x (List.mem_of_mem_take hx)

theorem atMost_any (a b : Nat) (ha : a < 18446744073709551616) (hb : b < 18446744073709551616) (w : World) :
    Calls Try.prog 26 #[.int .u64 (a : Int), .int .u64 (b : Int)] w fun e w' => e = .returned (.bool (leB a b)) ∧ w = w' := by
  have h1 := u64_andNot_nat a b ha hb
  have h2 : (((a &&& (18446744073709551615 - b) : Nat) : Int) == 0) = leB a b := by
    cases h : leB a b
    · rw [beq_eq_false_iff_ne]
      intro e
      have := (dif_zero ha hb).1 (by omega)
      rw [h] at this
      cases this
    · rw [beq_iff_eq, (dif_zero ha hb).2 h]
      rfl
  obtain ⟨d, hd⟩ : ∃ d : Int, d = ((a &&& (18446744073709551615 - b) : Nat) : Int) := ⟨_, rfl⟩
  rw [← hd] at h1 h2
  rw [← h2]
  clear hd h2
  go_enter Try.func26, Try.ntmps26
  go_wp2
  go_ret
  exact ⟨by rfl, rfl⟩
def famE (n : Nat) : Int := if 64 < n then 6 else 0
theorem family_any {w : World} {v : Value} {l : List Nat} (h : Slc w v (lv l)) :
    Calls Try.prog 23 #[v] w fun e w' => e = .returned (.int .i64 (famE l.length)) ∧ w = w' := by
  obtain ⟨A, cap, rfl, hm, hc⟩ := nats h
  clear h hc
  unfold famE
  by_cases hl : 64 < l.length
  · rw [if_pos hl]
    have c1 : (64 : Int) < (l.length : Int) := by omega
    go_enter Try.func23, Try.ntmps23
    go_wp2
    go_ret
    exact ⟨rfl, rfl⟩
  · rw [if_neg hl]
    have c1 : ¬ (64 : Int) < (l.length : Int) := by omega
    go_enter Try.func23, Try.ntmps23
    go_wp2
    go_ret
    exact ⟨rfl, rfl⟩
theorem family_is {w : World} {v : Value} {l : List Nat} {c : Int} (h : Slc w v (lv l)) (hc : famE l.length = c) :
    Calls Try.prog 23 #[v] w fun e w' => e = .returned (.int .i64 c) ∧ w = w' := hc ▸ family_any h
def joinR (l : List Nat) : Nat × Int := if 64 < l.length then (0, 6) else (jn l, 0)
theorem refJoin_any {w : World} {v : Value} {l : List Nat} (h : Slc w v (lv l)) (hu : U64 l) :
    Calls Try.prog 9 #[v] w fun e w' => e = .returned (.tuple #[.int .u64 ((joinR l).1 : Int), .int .i64 (joinR l).2]) ∧ w = w' := by
  unfold joinR
  by_cases hl : 64 < l.length
  · rw [if_pos hl]
    have hF := family_is h (c := 6) (by unfold famE; rw [if_pos hl])
    obtain ⟨A, cap, rfl, hm, hc⟩ := nats h
    clear h hc hl
    go_enter Try.func9, Try.ntmps9
    go_wp2_with fail
    refine hF.mono ?_
    rintro e w' ⟨rfl, rfl⟩
    go_wp2
    go_returns
    exact ⟨rfl, rfl⟩
  · rw [if_neg hl]
    have hF := family_is h (c := 0) (by unfold famE; rw [if_neg hl])
    obtain ⟨A, cap, rfl, hm, hc⟩ := nats h
    clear h hl
    go_enter Try.func9, Try.ntmps9
    go_wp2_with fail
    refine hF.mono ?_
    rintro e w' ⟨rfl, rfl⟩
    go_wp2
    go_loop [5, 6] (fun t i => ∃ k : Nat, k ≤ l.length ∧ i = .int .i64 (k : Int) ∧ t = .int .u64 (jn (l.take k) : Int)) (fun _ i => l.length - (intOf i).toNat)
    case atStart => exact ⟨0, Nat.zero_le _, rfl, rfl⟩
    case round =>
      obtain ⟨k, hk, rfl, rfl⟩ := hrel
      by_cases hlt : k < l.length
      · obtain ⟨a, rfl, _, hcell⟩ := hc k hlt
        clear hc
        have hj := u64_or_nat (jn (l.take k)) l[k] (jn_lt (hu.take k)) (hu _ (List.getElem_mem hlt))
        have hn := Lib.hid (show jn (l.take (k + 1)) = jn (l.take k) ||| l[k] by rw [take_snoc l k hlt, jn_snoc])
        go_wp2
        go_round
        case rel => exact ⟨k + 1, by omega, by go_num, by rw [hn.out]⟩
        case measure => simp [intOf]; omega
      · rw [List.take_of_length_le (by omega)]
        go_wp2
        go_returns
        exact ⟨rfl, rfl⟩
def meetR (l : List Nat) : Nat × Int := if 64 < l.length then (0, 6) else if l.length = 0 then (0, 7) else (mt l, 0)
theorem refMeet_any {w : World} {v : Value} {l : List Nat} (h : Slc w v (lv l)) (hu : U64 l) :
    Calls Try.prog 11 #[v] w fun e w' => e = .returned (.tuple #[.int .u64 ((meetR l).1 : Int), .int .i64 (meetR l).2]) ∧ w = w' := by
  unfold meetR
  by_cases hl : 64 < l.length
  · rw [if_pos hl]
    have hF := family_is h (c := 6) (by unfold famE; rw [if_pos hl])
    obtain ⟨A, cap, rfl, hm, hc⟩ := nats h
    clear h hc hl
    go_enter Try.func11, Try.ntmps11
    go_wp2_with fail
    refine hF.mono ?_
    rintro e w' ⟨rfl, rfl⟩
    go_wp2
    go_returns
    exact ⟨rfl, rfl⟩
  · rw [if_neg hl]
    have hF := family_is h (c := 0) (by unfold famE; rw [if_neg hl])
    obtain ⟨A, cap, rfl, hm, hc⟩ := nats h
    clear h hl
    by_cases h0 : l.length = 0
    · rw [if_pos h0]
      have c1 : (l.length : Int) = 0 := by omega
      clear hc h0
      go_enter Try.func11, Try.ntmps11
      go_wp2_with fail
      refine hF.mono ?_
      rintro e w' ⟨rfl, rfl⟩
      go_wp2
      go_returns
      exact ⟨rfl, rfl⟩
    · rw [if_neg h0]
      have c1 : ¬ (l.length : Int) = 0 := by omega
      have c2 : (0 : Int) < (l.length : Int) := by omega
      have hpos : 0 < l.length := by omega
      obtain ⟨a, rfl, _, hcell0⟩ := hc 0 hpos
      rw [add0] at hcell0
      have HT1 := Lib.hid (show mt (l.take 1) = l[0] by rw [take_snoc l 0 hpos, List.take_zero, List.nil_append]; exact rfl)
      go_enter Try.func11, Try.ntmps11
      go_wp2_with fail
      refine hF.mono ?_
      rintro e w' ⟨rfl, rfl⟩
      go_wp2
      go_loop [5, 6] (fun t i => ∃ k : Nat, 1 ≤ k ∧ k ≤ l.length ∧ i = .int .i64 (k : Int) ∧ t = .int .u64 (mt (l.take k) : Int)) (fun _ i => l.length - (intOf i).toNat)
      case atStart => exact ⟨1, Nat.le_refl _, hpos, rfl, by rw [HT1.out]⟩
      case round =>
        obtain ⟨k, hk1, hk, rfl, rfl⟩ := hrel
        by_cases hlt : k < l.length
        · obtain ⟨a', e', _, hcell⟩ := hc k hlt
          obtain rfl := Option.some.inj e'
          clear hc
          have hj := u64_and_nat (mt (l.take k)) l[k] (mt_lt (hu.take k)) (hu _ (List.getElem_mem hlt))
          have hn := Lib.hid (show mt (l.take (k + 1)) = mt (l.take k) &&& l[k] by rw [take_snoc l k hlt, mt_snoc (List.ne_nil_of_length_pos (by rw [List.length_take]; omega))])
          go_wp2
          go_round
          case rel => exact ⟨k + 1, by omega, by omega, by go_num, by rw [hn.out]⟩
          case measure => simp [intOf]; omega
        · rw [List.take_of_length_le (by omega)]
          go_wp2
          go_returns
          exact ⟨rfl, rfl⟩
theorem all_of {l : List Nat} {p : Nat → Bool} {i : Nat} (h : i < l.length) (hb : p l[i] = false) : l.all p = false := List.all_eq_false.2 ⟨l[i], List.getElem_mem h, by simp [hb]⟩
/-- An operation of a quiet region that its guard leaves out. -/
theorem wpQuiet_skip {P : Program} {ops : Array Oper} {C : World → Prop} {Q : Act → Prop} {a : Act} {o : Oper} {rest : List Oper} (hw : Region.wanted o (yielded ops a.tmps) = false)
    (h : wpQuiet P ops C Q rest (a.put o.dst undef)) : wpQuiet P ops C Q (o :: rest) a := by
  unfold wpQuiet
  rw [hw]
  exact h
/-- The join of the first labels, as few as are needed. -/
def cov (x : Nat) : Nat → List Nat → Nat
  | out, [] => out
  | out, y :: l => if leB x out = true then out else cov x (out ||| y) l
theorem cov_stop {x out : Nat} {l : List Nat} (h : leB x out = true) : cov x out l = out := by
  cases l with
  | nil => rfl
  | cons y l => unfold cov; rw [if_pos h]
theorem cov_step {x out y : Nat} {l : List Nat} (h : leB x out = false) : cov x out (y :: l) = cov x (out ||| y) l := by
  show (if leB x out = true then out else cov x (out ||| y) l) = _
  rw [if_neg (by rw [h]; decide)]
def coverR (l : List Nat) (x : Nat) : Nat × Int := if 64 < l.length then (0, 6) else if leB x (cov x 0 l) = true then (cov x 0 l, 0) else (0, 13)
theorem cov_lt {x : Nat} : ∀ {l : List Nat} {a : Nat}, U64 l → a < 18446744073709551616 → cov x a l < 18446744073709551616 := by
  intro l
  induction l with
  | nil => intro a _ ha; exact ha
  | cons y l ih =>
    intro a hl ha
    unfold cov
    split
    · exact ha
    · exact ih (fun z hz => hl z (by simp [hz])) (or_lt ha (hl y (by simp)))
set_option maxHeartbeats 1000000 in
theorem refCover_any {w : World} {v : Value} {l : List Nat} (x : Nat) (h : Slc w v (lv l)) (hu : U64 l) (hx : x < 18446744073709551616) :
    Calls Try.prog 13 #[v, .int .u64 (x : Int)] w fun e w' => e = .returned (.tuple #[.int .u64 ((coverR l x).1 : Int), .int .i64 (coverR l x).2]) ∧ w = w' := by
  obtain ⟨X, hX⟩ : ∃ X : Value, X = .tuple #[.int .u64 ((coverR l x).1 : Int), .int .i64 (coverR l x).2] := ⟨_, rfl⟩
  rw [← hX]
  unfold coverR at hX
  by_cases hl : 64 < l.length
  · rw [if_pos hl] at hX
    subst hX
    have hF := family_is h (c := 6) (by unfold famE; rw [if_pos hl])
    obtain ⟨A, cap, rfl, hm, hc⟩ := nats h
    clear h hc hl
    go_enter Try.func13, Try.ntmps13
    go_wp2_with fail
    refine hF.mono ?_
    rintro e w' ⟨rfl, rfl⟩
    go_wp2
    go_returns
    exact ⟨rfl, rfl⟩
  · rw [if_neg hl] at hX
    have hF := family_is h (c := 0) (by unfold famE; rw [if_neg hl])
    obtain ⟨A, cap, rfl, hm, hc⟩ := nats h
    clear h hl
    obtain ⟨R, hR⟩ : ∃ R, R = cov x 0 l := ⟨_, rfl⟩
    have hRlt : R < 18446744073709551616 := hR ▸ cov_lt hu (by decide)
    have HR := Lib.hid hR
    rw [← hR] at hX
    have HX := Lib.hid hX
    clear hR hX
    have hAR := fun w => atMost_any x R hx hRlt w
    go_enter Try.func13, Try.ntmps13
    go_wp2_with fail
    refine hF.mono ?_
    rintro e w' ⟨rfl, rfl⟩
    go_wp2
    go_loop [7, 8] (fun t i => ∃ k o : Nat, k ≤ l.length ∧ i = .int .i64 (k : Int) ∧ t = .int .u64 (o : Int) ∧ o < 18446744073709551616 ∧ R = cov x o (l.drop k)) (fun _ i => l.length - (intOf i).toNat)
    case atStart => exact ⟨0, 0, Nat.zero_le _, rfl, rfl, by decide, by rw [HR.out]; rfl⟩
    case round =>
      obtain ⟨k, o, hk, rfl, rfl, ho, hro⟩ := hrel
      have HO := Lib.hid hro
      clear hro
      have hA := fun w => atMost_any x o hx ho w
      by_cases hlt : k < l.length
      · obtain ⟨a, rfl, _, hcell⟩ := hc k hlt
        clear hc
        have hd := Lib.hid (show l.drop k = l[k] :: l.drop (k + 1) from List.drop_eq_getElem_cons hlt)
        cases hb : leB x o
        · rw [hb] at hA
          have hj := u64_or_nat o l[k] ho (hu _ (List.getElem_mem hlt))
          have hjl := or_lt ho (hu _ (List.getElem_mem hlt))
          have hn := Lib.hid (show R = cov x (o ||| l[k]) (l.drop (k + 1)) by rw [HO.out, hd.out, cov_step hb])
          clear hAR
          go_wp2_with (go_at_call 26; refine (hA _).mono ?_; rintro e w' ⟨rfl, rfl⟩)
          go_round
          case rel => exact ⟨k + 1, o ||| l[k], by omega, by go_num, by rfl, hjl, hn.out⟩
          case measure => simp [intOf]; omega
        · have hRo : R = o := by rw [HO.out, cov_stop hb]
          subst hRo
          rw [hb] at hA
          clear hAR
          go_wp2_with (go_at_call 26; refine (hA _).mono ?_; rintro e w' ⟨rfl, rfl⟩)
          go_returns
          exact ⟨by rw [HX.out, if_pos hb]; rfl, rfl⟩
      · have hRo : R = o := by rw [HO.out, List.drop_of_length_le (by omega)]; rfl
        subst hRo
        clear hAR
        cases hb : leB x R
        · rw [hb] at hA
          go_wp2_with (go_at_call 26; refine (hA _).mono ?_; rintro e w' ⟨rfl, rfl⟩)
          go_returns
          exact ⟨by rw [HX.out, if_neg (by rw [hb]; decide)]; rfl, rfl⟩
        · rw [hb] at hA
          go_wp2_with (go_at_call 26; refine (hA _).mono ?_; rintro e w' ⟨rfl, rfl⟩)
          go_returns
          exact ⟨by rw [HX.out, if_pos hb]; rfl, rfl⟩
end Go.Proofs.Ytlembnpplnbagaa.Lt
