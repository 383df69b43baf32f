/- What queries read: mathematics. -/
import Derived.Test.YtdoioaeppepndaaGreatDoorLabSm
import Derived.Test.YtdoioaeppepndaaGreatDoorWfSpec
namespace Go.Proofs.YtdoioaeppepndaaGreatDoor.Lb
open Go

/-- What a number of 64 bits is: its bits. -/
theorem bit_ext {a b : Nat} (h : ∀ i, a.testBit i = b.testBit i) : a = b := Nat.eq_of_testBit_eq h
theorem testBit_hi {a i : Nat} (ha : a < 18446744073709551616) (hi : 64 ≤ i) : a.testBit i = false :=
  Nat.testBit_lt_two_pow (Nat.lt_of_lt_of_le ha (Nat.pow_le_pow_right (n := 2) (i := 64) (by decide) hi))
theorem or_lt {a b : Nat} (ha : a < 18446744073709551616) (hb : b < 18446744073709551616) : a ||| b < 18446744073709551616 := Nat.or_lt_two_pow (n := 64) ha hb
theorem and_lt {a b : Nat} (ha : a < 18446744073709551616) : a &&& b < 18446744073709551616 := Nat.lt_of_le_of_lt Nat.and_le_left ha
theorem comp_bit {b i : Nat} (hb : b < 18446744073709551616) : (18446744073709551615 - b).testBit i = (decide (i < 64) && !b.testBit i) := by
  have h := Nat.testBit_two_pow_sub_succ (n := 64) (x := b) hb i
  rw [show 2 ^ 64 - (b + 1) = 18446744073709551615 - b by omega] at h
  exact h
theorem diff_bit {a b i : Nat} (ha : a < 18446744073709551616) (hb : b < 18446744073709551616) : (a &&& (18446744073709551615 - b)).testBit i = (a.testBit i && !b.testBit i) := by
  rw [Nat.testBit_and, comp_bit hb]
  by_cases h : i < 64
  · simp [h]
  · rw [testBit_hi ha (by omega)]; simp

def dif (a b : Nat) : Nat := a &&& (18446744073709551615 - b)
theorem dif_lt {a b : Nat} (ha : a < 18446744073709551616) : dif a b < 18446744073709551616 := and_lt ha
theorem dif_bit {a b : Nat} (ha : a < 18446744073709551616) (hb : b < 18446744073709551616) (i : Nat) : (dif a b).testBit i = (a.testBit i && !b.testBit i) := diff_bit ha hb
def sub (a b : Nat) : Prop := ∀ i, a.testBit i = true → b.testBit i = true
theorem sub_iff {a b : Nat} (ha : a < 18446744073709551616) (hb : b < 18446744073709551616) : sub a b ↔ dif a b = 0 := by
  constructor
  · intro h
    apply bit_ext
    intro i
    rw [dif_bit ha hb, Nat.zero_testBit]
    cases h1 : a.testBit i
    · rfl
    · rw [h i h1]; rfl
  · intro h i hi
    have := congrArg (fun x => Nat.testBit x i) h
    simp only [dif_bit ha hb, hi, Nat.zero_testBit] at this
    simpa using this

theorem belowI_nat {a b : Nat} (ha : a < 18446744073709551616) (hb : b < 18446744073709551616) : (belowI (a : Int) (b : Int) = true) ↔ sub a b := by
  unfold belowI
  rw [andNot_nat a b ha hb, sub_iff ha hb]
  unfold dif
  simp
theorem joinI_two {a b : Nat} (ha : a < 18446744073709551616) (hb : b < 18446744073709551616) : joinI [(a : Int), (b : Int)] = ((a ||| b : Nat) : Int) := by
  show bits .or .u64 (bits .or .u64 ((0 : Nat) : Int) (a : Int)) (b : Int) = _
  rw [or_nat 0 a (by decide) ha, Nat.zero_or, or_nat a b ha hb]
theorem joinI_three {a b c : Nat} (ha : a < 18446744073709551616) (hb : b < 18446744073709551616) (hc : c < 18446744073709551616) : joinI [(a : Int), (b : Int), (c : Int)] = ((a ||| b ||| c : Nat) : Int) := by
  show bits .or .u64 (bits .or .u64 (bits .or .u64 ((0 : Nat) : Int) (a : Int)) (b : Int)) (c : Int) = _
  rw [or_nat 0 a (by decide) ha, Nat.zero_or, or_nat a b ha hb, or_nat _ c (or_lt ha hb) hc]
theorem joinI_four {a b c d : Nat} (ha : a < 18446744073709551616) (hb : b < 18446744073709551616) (hc : c < 18446744073709551616) (hd : d < 18446744073709551616) : joinI [(a : Int), (b : Int), (c : Int), (d : Int)] = ((a ||| b ||| c ||| d : Nat) : Int) := by
  show bits .or .u64 (bits .or .u64 (bits .or .u64 (bits .or .u64 ((0 : Nat) : Int) (a : Int)) (b : Int)) (c : Int)) (d : Int) = _
  rw [or_nat 0 a (by decide) ha, Nat.zero_or, or_nat a b ha hb, or_nat _ c (or_lt ha hb) hc, or_nat _ d (or_lt (or_lt ha hb) hc) hd]
theorem all_and {a : Nat} (ha : a < 18446744073709551616) : 18446744073709551615 &&& a = a := by
  apply bit_ext
  intro i
  rw [Nat.testBit_and, show (18446744073709551615 : Nat) = 18446744073709551615 - 0 from rfl, comp_bit (by decide)]
  by_cases h : i < 64
  · simp [h]
  · rw [testBit_hi ha (by omega)]; simp
theorem meetI_two {a b : Nat} (ha : a < 18446744073709551616) (hb : b < 18446744073709551616) : meetI [(a : Int), (b : Int)] = ((a &&& b : Nat) : Int) := by
  show bits .and .u64 (bits .and .u64 ((18446744073709551615 : Nat) : Int) (a : Int)) (b : Int) = _
  rw [and_nat _ a (by decide) ha, all_and ha, and_nat a b ha hb]
theorem meetI_three {a b c : Nat} (ha : a < 18446744073709551616) (hb : b < 18446744073709551616) (hc : c < 18446744073709551616) : meetI [(a : Int), (b : Int), (c : Int)] = ((a &&& b &&& c : Nat) : Int) := by
  show bits .and .u64 (bits .and .u64 (bits .and .u64 ((18446744073709551615 : Nat) : Int) (a : Int)) (b : Int)) (c : Int) = _
  rw [and_nat _ a (by decide) ha, all_and ha, and_nat a b ha hb, and_nat _ c (and_lt ha) hc]
theorem meetI_four {a b c d : Nat} (ha : a < 18446744073709551616) (hb : b < 18446744073709551616) (hc : c < 18446744073709551616) (hd : d < 18446744073709551616) : meetI [(a : Int), (b : Int), (c : Int), (d : Int)] = ((a &&& b &&& c &&& d : Nat) : Int) := by
  show bits .and .u64 (bits .and .u64 (bits .and .u64 (bits .and .u64 ((18446744073709551615 : Nat) : Int) (a : Int)) (b : Int)) (c : Int)) (d : Int) = _
  rw [and_nat _ a (by decide) ha, all_and ha, and_nat a b ha hb, and_nat _ c (and_lt ha) hc, and_nat _ d (and_lt (and_lt ha)) hd]
end Go.Proofs.YtdoioaeppepndaaGreatDoor.Lb
namespace Go.Proofs.YtdoioaeppepndaaGreatDoor.F11
open A8 W10 Lb

/-- The label that an atom reads. -/
def atR (c : Int) (a : A8.At) : Int := if a.bd = true then a.bn else c
/-- The atoms of a well-formed query. -/
def atsQ (q : Qu) : List A8.At := if wfE q = 0 then (leavesN q.p).map Nd.atom else []
def flR (q : Qu) (c : Int) : Int := joinI ((atsQ q).map (atR c))
/-- The clearance that is told with what is read. -/
def flT (q : Qu) (c : Int) : Int := if wfE q = 0 then c else 0
def flC (q : Qu) (c : Int) : Int := if wfE q = 0 then (if belowI (flR q c) c = true then 0 else 13) else wfE q
def openB (a : A8.At) : Bool := !a.bd
def flO (q : Qu) : Bool := (atsQ q).any openB
def meetB (l c : Int) (a : A8.At) : Bool := belowI l (atR c a)
def flS (q : Qu) (l c : Int) : Bool := (atsQ q).any (meetB l c)
theorem flR_bad {q : Qu} (h : wfE q ≠ 0) (c : Int) : flR q c = 0 := by unfold flR atsQ; rw [if_neg h]; rfl
theorem flT_bad {q : Qu} (h : wfE q ≠ 0) (c : Int) : flT q c = 0 := by unfold flT; rw [if_neg h]
theorem flT_ok {q : Qu} (h : wfE q = 0) (c : Int) : flT q c = c := by unfold flT; rw [if_pos h]
theorem ats_bad {q : Qu} (h : wfE q ≠ 0) : atsQ q = [] := by unfold atsQ; rw [if_neg h]
theorem ats_ok {q : Qu} (h : wfE q = 0) : atsQ q = (leavesN q.p).map Nd.atom := by unfold atsQ; rw [if_pos h]
/-- The number of the first for which this holds; -1 for none. -/
def findI {α : Type} (f : α → Bool) : List α → Int
  | [] => -1
  | x :: r => if f x = true then 0 else if 0 ≤ findI f r then findI f r + 1 else -1
theorem any_take_snoc {α : Type} (f : α → Bool) (l : List α) (k : Nat) (h : k < l.length) (h0 : (l.take k).any f = false) : (l.take (k + 1)).any f = f l[k] := by
  rw [List.take_succ_eq_append_getElem h, List.any_append, h0, Bool.false_or, List.any_cons, List.any_nil, Bool.or_false]
theorem any_of_get {α : Type} (f : α → Bool) (l : List α) (k : Nat) (h : k < l.length) (h0 : f l[k] = true) : l.any f = true := List.any_eq_true.2 ⟨_, List.getElem_mem h, h0⟩
end Go.Proofs.YtdoioaeppepndaaGreatDoor.F11
namespace Go.Proofs.YtdoioaeppepndaaGreatDoor.F11
open A8 W10 Lb

/-- All Bounds are numbers of 64 bits. -/
def BnOk (L : List A8.At) : Prop := ∀ a ∈ L, 0 ≤ a.bn ∧ a.bn < 18446744073709551616
def natR (c : Nat) (a : A8.At) : Nat := if a.bd = true then a.bn.toNat else c
def jn (L : List A8.At) (c : Nat) : Nat := L.foldl (fun x a => x ||| natR c a) 0
theorem natR_lt {L : List A8.At} (h : BnOk L) {c : Nat} (hc : c < 18446744073709551616) {a : A8.At} (ha : a ∈ L) : natR c a < 18446744073709551616 := by
  have := h a ha
  unfold natR
  split
  · omega
  · exact hc
theorem atR_nat {L : List A8.At} (h : BnOk L) (c : Nat) {a : A8.At} (ha : a ∈ L) : atR (c : Int) a = ((natR c a : Nat) : Int) := by
  have := h a ha
  unfold atR natR
  split
  · omega
  · rfl
theorem fold_nat {L : List A8.At} (h : BnOk L) {c : Nat} (hc : c < 18446744073709551616) : ∀ (M : List A8.At), (∀ a ∈ M, a ∈ L) → ∀ x : Nat, x < 18446744073709551616 →
    (M.map (atR (c : Int))).foldl (fun a y => bits .or .u64 a y) (x : Int) = ((M.foldl (fun y a => y ||| natR c a) x : Nat) : Int) ∧ M.foldl (fun y a => y ||| natR c a) x < 18446744073709551616
  | [], _, x, hx => ⟨rfl, hx⟩
  | a :: M, hM, x, hx => by
    have ha := hM a List.mem_cons_self
    have h1 := natR_lt h hc ha
    rw [List.map_cons, List.foldl_cons, List.foldl_cons, atR_nat h c ha, or_nat x _ hx h1]
    exact fold_nat h hc M (fun b hb => hM b (List.mem_cons_of_mem _ hb)) _ (or_lt hx h1)
theorem jn_nat {L : List A8.At} (h : BnOk L) {c : Nat} (hc : c < 18446744073709551616) : joinI (L.map (atR (c : Int))) = ((jn L c : Nat) : Int) ∧ jn L c < 18446744073709551616 :=
  fold_nat h hc L (fun _ ha => ha) 0 (by decide)
theorem fold_bit (c i : Nat) : ∀ (M : List A8.At) (x : Nat), (M.foldl (fun y a => y ||| natR c a) x).testBit i = (x.testBit i || M.any fun a => (natR c a).testBit i)
  | [], x => by simp
  | a :: M, x => by
    rw [List.foldl_cons, fold_bit c i M, Nat.testBit_or, List.any_cons, Bool.or_assoc]
theorem jn_bit (L : List A8.At) (c i : Nat) : (jn L c).testBit i = L.any fun a => (natR c a).testBit i := by
  unfold jn
  rw [fold_bit]
  simp
theorem jn_or_bit (L : List A8.At) (c i : Nat) : (jn L c).testBit i = ((jn L 0).testBit i || (L.any openB && c.testBit i)) := by
  rw [jn_bit, jn_bit]
  induction L with
  | nil => rfl
  | cons a L ih =>
    simp only [List.any_cons, ih]
    unfold natR openB
    cases a.bd <;> simp <;> cases c.testBit i <;> simp [Bool.or_assoc]
theorem jn_open {L : List A8.At} (h : L.any openB = true) (c : Nat) : jn L c = jn L 0 ||| c := by
  apply bit_ext
  intro i
  rw [jn_or_bit, h, Nat.testBit_or, Bool.true_and]
theorem jn_shut {L : List A8.At} (h : L.any openB = false) (c : Nat) : jn L c = jn L 0 := by
  apply bit_ext
  intro i
  rw [jn_or_bit, h, Bool.false_and, Bool.or_false]
theorem jn_sub (L : List A8.At) (c : Nat) : sub (jn L c) c ↔ sub (jn L 0) c := by
  constructor
  · intro h i hi
    exact h i (by rw [jn_or_bit, hi, Bool.true_or])
  · intro h i hi
    rw [jn_or_bit] at hi
    cases h0 : (jn L 0).testBit i with
    | true => exact h i h0
    | false =>
      rw [h0, Bool.false_or, Bool.and_eq_true] at hi
      exact hi.2
theorem bool_iff {a b : Bool} (h : a = true ↔ b = true) : a = b := by cases a <;> cases b <;> simp_all
/-- What a query reads at a clearance, by what it reads at the least one. -/
theorem flR_nat {q : Qu} (h : BnOk (atsQ q)) {c : Nat} (hc : c < 18446744073709551616) : flR q (c : Int) = ((jn (atsQ q) c : Nat) : Int) ∧ jn (atsQ q) c < 18446744073709551616 := jn_nat h hc
theorem flR_lim {q : Qu} (h : BnOk (atsQ q)) {c : Int} (h0 : 0 ≤ c) (hc : c < 18446744073709551616) : 0 ≤ flR q c ∧ flR q c < 18446744073709551616 := by
  obtain ⟨n, rfl⟩ := Int.eq_ofNat_of_zero_le h0
  obtain ⟨h1, h2⟩ := flR_nat h (c := n) (by omega)
  rw [h1]
  omega
theorem allowed_least {q : Qu} (h : BnOk (atsQ q)) {c : Int} (h0 : 0 ≤ c) (hc : c < 18446744073709551616) : belowI (flR q c) c = belowI (flR q 0) c := by
  obtain ⟨n, rfl⟩ := Int.eq_ofNat_of_zero_le h0
  obtain ⟨h1, h2⟩ := flR_nat h (c := n) (by omega)
  obtain ⟨h3, h4⟩ := flR_nat h (c := 0) (by decide)
  rw [h1, show (0 : Int) = ((0 : Nat) : Int) from rfl, h3]
  exact bool_iff ((belowI_nat h2 (by omega)).trans ((jn_sub _ n).trans (belowI_nat h4 (by omega)).symm))
theorem read_least {q : Qu} (h : BnOk (atsQ q)) {c : Int} (h0 : 0 ≤ c) (hc : c < 18446744073709551616) : flR q c = if flO q = true then bits .or .u64 (flR q 0) c else flR q 0 := by
  obtain ⟨n, rfl⟩ := Int.eq_ofNat_of_zero_le h0
  obtain ⟨h1, h2⟩ := flR_nat h (c := n) (by omega)
  obtain ⟨h3, h4⟩ := flR_nat h (c := 0) (by decide)
  rw [h1, show (0 : Int) = ((0 : Nat) : Int) from rfl, h3, or_nat _ _ h4 (by omega)]
  unfold flO
  cases ho : (atsQ q).any openB with
  | true => rw [if_pos rfl, jn_open ho]
  | false => rw [if_neg (by simp), jn_shut ho]
theorem or_lim {a b : Int} (ha : 0 ≤ a ∧ a < 18446744073709551616) (hb : 0 ≤ b ∧ b < 18446744073709551616) : 0 ≤ bits .or .u64 a b ∧ bits .or .u64 a b < 18446744073709551616 := by
  obtain ⟨n, rfl⟩ := Int.eq_ofNat_of_zero_le ha.1
  obtain ⟨m, rfl⟩ := Int.eq_ofNat_of_zero_le hb.1
  rw [or_nat _ _ (by omega) (by omega)]
  have := or_lt (a := n) (b := m) (by omega) (by omega)
  omega
theorem below_or {a b : Int} (ha : 0 ≤ a ∧ a < 18446744073709551616) (hb : 0 ≤ b ∧ b < 18446744073709551616) : belowI a (bits .or .u64 a b) = true := by
  obtain ⟨n, rfl⟩ := Int.eq_ofNat_of_zero_le ha.1
  obtain ⟨m, rfl⟩ := Int.eq_ofNat_of_zero_le hb.1
  rw [or_nat _ _ (by omega) (by omega), belowI_nat (by omega) (or_lt (by omega) (by omega))]
  intro i hi
  rw [Nat.testBit_or, hi, Bool.true_or]
end Go.Proofs.YtdoioaeppepndaaGreatDoor.F11
