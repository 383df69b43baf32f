/- Labels as sets of bits. -/
import Derived.Laws.BitsAllLaws
import Derived.Lib.TrailingZeros
namespace Go.Proofs.YtdoioaeppepndaaGreatDoor.Lb
open Go

def joinI (l : List Int) : Int := l.foldl (fun a x => bits .or .u64 a x) 0
def meetI (l : List Int) : Int := l.foldl (fun a x => bits .and .u64 a x) 18446744073709551615
theorem joinI_snoc (l : List Int) (x : Int) : joinI (l ++ [x]) = bits .or .u64 (joinI l) x := by simp [joinI]
theorem meetI_snoc (l : List Int) (x : Int) : meetI (l ++ [x]) = bits .and .u64 (meetI l) x := by simp [meetI]
theorem joinI_nil : joinI [] = 0 := rfl
theorem meetI_nil : meetI [] = 18446744073709551615 := rfl

def belowI (a b : Int) : Bool := bits .andNot .u64 a b == 0
def hasI (l c : Int) : Bool := bits .and .u64 (l / 2 ^ c.toNat) 1 == 1
def isCat (c : Int) : Bool := decide (0 ≤ c) && decide (c ≤ 63)
def bitOf (c : Int) : Int := 2 ^ c.toNat % 18446744073709551616
def orAll (cs : List Int) : Int := cs.foldl (fun a c => bits .or .u64 a (bitOf c)) 0
theorem orAll_snoc (cs : List Int) (c : Int) : orAll (cs ++ [c]) = bits .or .u64 (orAll cs) (bitOf c) := by simp [orAll]
/-- The label with these categories, and 0; or 0 and ErrRange. -/
def ofI (cs : List Int) : Int × Int := if cs.all isCat then (orAll cs, 0) else (0, 2)

def upto64 : List Int := (List.range 64).map fun (k : Nat) => (k : Int)
def catsI (l : Int) : List Int := upto64.filter (hasI l)
/-- The categories below k. -/
def preCats (l : Int) (k : Nat) : List Int := ((List.range k).map fun (j : Nat) => (j : Int)).filter (hasI l)
theorem preCats_all (l : Int) : preCats l 64 = catsI l := rfl
theorem preCats_yes {l : Int} {k : Nat} (h : hasI l k = true) : preCats l (k + 1) = preCats l k ++ [(k : Int)] := by
  simp [preCats, List.range_succ, List.filter_append, h]
theorem preCats_no {l : Int} {k : Nat} (h : hasI l k = false) : preCats l (k + 1) = preCats l k := by
  simp [preCats, List.range_succ, List.filter_append, h]
theorem preCats_le (l : Int) (k : Nat) : (preCats l k).length ≤ k := by
  have := List.length_filter_le (hasI l) ((List.range k).map fun (j : Nat) => (j : Int))
  simpa [preCats] using this
theorem catsI_le (l : Int) : (catsI l).length ≤ 64 := preCats_le l 64
def leastI (l : Int) : Int × Int := match catsI l with | [] => (0, 2) | c :: _ => (c, 0)
def refBelowI (a b : Int) : Bool := upto64.all fun c => !(hasI a c && !hasI b c)

/-- Byte number j of the eight bytes of a label, from the front. -/
def byteI (l : Int) (s : Nat) : UInt8 := UInt8.ofNat (l / 2 ^ s % 256).toNat
theorem byteI_val (l : Int) (s : Nat) : ((byteI l s).toNat : Int) = l / 2 ^ s % 256 := by
  rw [byteI, UInt8.toNat_ofNat']
  have h1 := Int.emod_nonneg (l / 2 ^ s) (b := 256) (by decide)
  have h2 := Int.emod_lt_of_pos (l / 2 ^ s) (b := 256) (by decide)
  omega
def preBytes (l : Int) (k : Nat) : List UInt8 := (List.range k).map fun j => byteI l (8 * (7 - j))
def bytesI (l : Int) : List UInt8 := preBytes l 8
theorem preBytes_succ (l : Int) (k : Nat) : preBytes l (k + 1) = preBytes l k ++ [byteI l (8 * (7 - k))] := by
  simp [preBytes, List.range_succ]
theorem preBytes_length (l : Int) (k : Nat) : (preBytes l k).length = k := by simp [preBytes]

/-- The number whose bytes these are, most significant first. -/
def fold8 (s : List UInt8) : Int := s.foldl (fun a b => bits .or .u64 (IntKind.u64.wrap (a * 256)) (IntKind.u64.wrap (b.toNat : Int))) 0
theorem fold8_snoc (s : List UInt8) (b : UInt8) : fold8 (s ++ [b]) = bits .or .u64 (IntKind.u64.wrap (fold8 s * 256)) (IntKind.u64.wrap (b.toNat : Int)) := by simp [fold8]
def of8I (s : List UInt8) : Int × Int := if s.length = 8 then (fold8 s, 0) else (0, 3)

/-- The byte of a text at an offset; 0 behind its end. -/
def bt (s : ByteArray) (i : Nat) : Int := if h : i < s.size then ((s[i]'h).toNat : Int) else 0
theorem bt_in {s : ByteArray} {i : Nat} (h : i < s.size) : bt s i = ((s[i]'h).toNat : Int) := by unfold bt; rw [dif_pos h]
theorem bt_out {s : ByteArray} {i : Nat} (h : ¬ i < s.size) : bt s i = 0 := by unfold bt; rw [dif_neg h]
theorem bt_lo (s : ByteArray) (i : Nat) : 0 ≤ bt s i := by unfold bt; split <;> omega
theorem bt_hi (s : ByteArray) (i : Nat) : bt s i ≤ 255 := by
  unfold bt
  split
  · have := (s[i]'(by assumption)).toNat_lt; omega
  · omega
def isDig (x : Int) : Bool := decide (48 ≤ x) && decide (x ≤ 57)
theorem isDig_iff {x : Int} : isDig x = true ↔ 48 ≤ x ∧ x ≤ 57 := by simp [isDig]
/-- The digits that stand at an offset. -/
def digs (s : ByteArray) (at_ : Nat) : List UInt8 := (s.data.toList.drop at_).takeWhile fun b => isDig (b.toNat : Int)
def decOf (ds : List UInt8) : Nat := ds.foldl (fun a d => 10 * a + (d.toNat - 48)) 0
theorem decOf_snoc (ds : List UInt8) (d : UInt8) : decOf (ds ++ [d]) = 10 * decOf ds + (d.toNat - 48) := by simp [decOf]

theorem takeWhile_get {α : Type} (p : α → Bool) (l : List α) (j : Nat) (h : j < (l.takeWhile p).length) : ∃ h' : j < l.length, (l.takeWhile p)[j] = l[j] ∧ p l[j] = true := by
  induction l generalizing j with
  | nil => simp at h
  | cons x r ih =>
    by_cases hx : p x
    · simp only [List.takeWhile_cons, hx, if_true] at h ⊢
      cases j with
      | zero => exact ⟨by simp, rfl, hx⟩
      | succ j =>
        obtain ⟨h1, h2, h3⟩ := ih j (by simpa using h)
        exact ⟨by simpa using h1, by simpa using h2, by simpa using h3⟩
    · simp [hx] at h
theorem takeWhile_end {α : Type} (p : α → Bool) (l : List α) (h : (l.takeWhile p).length < l.length) : p (l[(l.takeWhile p).length]'h) = false := by
  induction l with
  | nil => simp at h
  | cons x r ih =>
    by_cases hx : p x
    · simp only [List.takeWhile_cons, hx, if_true, List.length_cons] at h ⊢
      simpa using ih (by omega)
    · simp [hx]

theorem digs_in {s : ByteArray} {at_ j : Nat} (h : j < (digs s at_).length) : ∃ h' : at_ + j < s.size, (digs s at_)[j] = s[at_ + j]'h' ∧ isDig (bt s (at_ + j)) = true := by
  obtain ⟨h1, h2, h3⟩ := takeWhile_get _ _ j h
  have h1' : at_ + j < s.size := by simp at h1; omega
  refine ⟨h1', ?_, ?_⟩
  · have : (digs s at_)[j] = (s.data.toList.drop at_)[j] := h2
    rw [this]
    simp [ByteArray.getElem_eq_getElem_data]
  · rw [bt_in h1']
    simpa [ByteArray.getElem_eq_getElem_data] using h3
theorem digs_end (s : ByteArray) (at_ : Nat) : isDig (bt s (at_ + (digs s at_).length)) = false := by
  by_cases h : at_ + (digs s at_).length < s.size
  · have h' : ((s.data.toList.drop at_).takeWhile fun b => isDig (b.toNat : Int)).length < (s.data.toList.drop at_).length := by
      have : (digs s at_).length = ((s.data.toList.drop at_).takeWhile fun b => isDig (b.toNat : Int)).length := rfl
      rw [← this]; simp; omega
    have := takeWhile_end _ _ h'
    rw [bt_in h]
    simpa [digs, ByteArray.getElem_eq_getElem_data] using this
  · rw [bt_out h]; rfl
theorem digs_size (s : ByteArray) (at_ : Nat) (h : 0 < (digs s at_).length) : at_ + (digs s at_).length ≤ s.size := by
  obtain ⟨h1, _⟩ := digs_in (s := s) (at_ := at_) (j := (digs s at_).length - 1) (by omega)
  omega

/-- What is read as a category: the category, the offset behind it, the fault and its offset. -/
def numI (s : ByteArray) (at_ : Nat) : Int × Int × Int × Int :=
  if (digs s at_).length = 0 then (0, 0, 3, at_)
  else if bt s at_ = 48 ∧ 1 < (digs s at_).length then (0, 0, 3, at_ + 1)
  else if 63 < decOf (digs s at_) then (0, 0, 2, at_)
  else (decOf (digs s at_), at_ + (digs s at_).length, 0, 0)

def readGo (s : ByteArray) : Nat → Nat → Nat → Int → Int × Int × Int × Int
  | 0, _, _, _ => (0, 0, 3, 0)
  | fuel + 1, at_, least, l =>
    if (numI s at_).2.2.1 ≠ 0 then (0, 0, (numI s at_).2.2.1, (numI s at_).2.2.2)
    else if decOf (digs s at_) < least then (0, 0, 9, at_)
    else if bt s (at_ + (digs s at_).length) = 125 then (bits .or .u64 l (bitOf (decOf (digs s at_))), at_ + (digs s at_).length + 1, 0, 0)
    else if bt s (at_ + (digs s at_).length) = 44 then readGo s fuel (at_ + (digs s at_).length + 1) (decOf (digs s at_) + 1) (bits .or .u64 l (bitOf (decOf (digs s at_))))
    else (0, 0, 3, at_ + (digs s at_).length)

/-- The label with whose text s begins, the length of the text; or the fault and its offset. -/
def readI (s : ByteArray) : Int × Int × Int × Int :=
  if bt s 0 ≠ 123 then (0, 0, 3, 0)
  else if bt s 1 = 125 then (0, 2, 0, 0)
  else readGo s (s.size + 1) 1 0 0
def parseI (s : ByteArray) : Int × Int × Int :=
  if (readI s).2.2.1 ≠ 0 then (0, (readI s).2.2.1, (readI s).2.2.2)
  else if (readI s).2.1 < s.size then (0, 4, (readI s).2.1)
  else ((readI s).1, 0, 0)

end Go.Proofs.YtdoioaeppepndaaGreatDoor.Lb
namespace Go.Proofs.YtdoioaeppepndaaGreatDoor.Lb
open Go



theorem or_nat (a b : Nat) (ha : a < 18446744073709551616) (hb : b < 18446744073709551616) : bits .or .u64 (a : Int) (b : Int) = ((a ||| b : Nat) : Int) := u64_or_nat a b ha hb
theorem and_nat (a b : Nat) (ha : a < 18446744073709551616) (hb : b < 18446744073709551616) : bits .and .u64 (a : Int) (b : Int) = ((a &&& b : Nat) : Int) := u64_and_nat a b ha hb
theorem andNot_nat (a b : Nat) (ha : a < 18446744073709551616) (hb : b < 18446744073709551616) : bits .andNot .u64 (a : Int) (b : Int) = ((a &&& (18446744073709551615 - b) : Nat) : Int) := u64_andNot_nat a b ha hb

theorem hasI_nat (n c : Nat) (hn : n < 18446744073709551616) : hasI (n : Int) (c : Int) = n.testBit c := by
  unfold hasI
  have e : ((n : Int) / 2 ^ (c : Int).toNat) = ((n / 2 ^ c : Nat) : Int) := by
    rw [Int.toNat_natCast]; simp
  rw [e, show (1 : Int) = ((1 : Nat) : Int) from rfl, and_nat _ _ (Nat.lt_of_le_of_lt (Nat.div_le_self _ _) hn) (by decide), Nat.and_one_is_mod, Nat.testBit_eq_decide_div_mod_eq]
  by_cases h : n / 2 ^ c % 2 = 1
  · simp [h]
  · have h0 : n / 2 ^ c % 2 = 0 := by omega
    simp [h0]

/-- The bits of a number, ascending. -/
def cats (n : Nat) : List Nat := (List.range 64).filter n.testBit
theorem catsI_nat (n : Nat) (hn : n < 18446744073709551616) : catsI (n : Int) = (cats n).map fun (k : Nat) => (k : Int) := by
  unfold catsI cats upto64
  rw [List.filter_map]
  congr 1
  apply List.filter_congr
  intro k _
  exact hasI_nat n k hn

theorem filter_first {p q : Nat → Bool} {k : Nat} (hp : p k = true) (hq : q k = false) (hlt : ∀ i, i < k → p i = false ∧ q i = false) (hgt : ∀ i, k < i → p i = q i) (n : Nat) :
    (List.range n).filter p = if k < n then k :: (List.range n).filter q else [] := by
  induction n with
  | zero => simp
  | succ n ih =>
    rw [List.range_succ, List.filter_append, List.filter_append, ih]
    rcases Nat.lt_trichotomy n k with h | h | h
    · rw [if_neg (by omega), if_neg (by omega)]
      simp [(hlt n h).1]
    · subst h
      rw [if_neg (by omega), if_pos (by omega)]
      have : (List.range n).filter q = [] := by
        rw [List.filter_eq_nil_iff]
        intro i hi
        rw [(hlt i (by simpa using hi)).2]
        simp
      simp [hp, hq, this]
    · rw [if_pos h, if_pos (by omega)]
      have e : [n].filter p = [n].filter q := List.filter_congr fun i hi => by rw [List.mem_singleton.1 hi]; exact hgt n h
      rw [e]; rfl

theorem cats_step (r : Nat) (h0 : r ≠ 0) (hr : r < 18446744073709551616) : cats r = Lib.ctz 64 r :: cats (r &&& (r - 1)) ∧ Lib.ctz 64 r < 64 := by
  have hctz : Lib.ctz 64 r = Lib.ctzFrom 64 r := by unfold Lib.ctz; rw [if_neg h0]
  obtain ⟨m, hm, hk⟩ := Lib.ctzFrom_spec 64 r (by omega) hr
  rw [hctz]
  obtain ⟨k, hkk⟩ : ∃ k, k = Lib.ctzFrom 64 r := ⟨_, rfl⟩
  rw [← hkk] at hm hk ⊢
  have hpos : 0 < 2 ^ k := Nat.pow_pos (by decide)
  have e1 : r = 2 ^ k * (2 * m + 1) + 0 := by omega
  have e2 : r - 1 = 2 ^ k * (2 * m) + (2 ^ k - 1) := by
    rw [hm, Nat.mul_add, Nat.mul_one]; omega
  have t1 : ∀ j, r.testBit j = if j < k then false else (2 * m + 1).testBit (j - k) := fun j => by
    rw [e1, Nat.testBit_two_pow_mul_add _ (by omega)]; simp
  have t2 : ∀ j, (r - 1).testBit j = if j < k then true else (2 * m).testBit (j - k) := fun j => by
    rw [e2, Nat.testBit_two_pow_mul_add _ (by omega)]
    split
    · rw [Nat.testBit_two_pow_sub_one]; simp; omega
    · rfl
  refine ⟨?_, hk⟩
  unfold cats
  rw [filter_first (p := r.testBit) (q := (r &&& (r - 1)).testBit) (k := k), if_pos hk]
  · rw [t1, if_neg (by omega), Nat.sub_self]; simp
  · rw [Nat.testBit_and, t1, t2, if_neg (by omega), if_neg (by omega), Nat.sub_self]; simp
  · intro i hi
    rw [Nat.testBit_and, t1, if_pos hi]; simp
  · intro i hi
    rw [Nat.testBit_and, t1, t2, if_neg (by omega), if_neg (by omega)]
    obtain ⟨j, hj⟩ : ∃ j, i - k = j + 1 := ⟨i - k - 1, by omega⟩
    rw [hj, Nat.testBit_succ, Nat.testBit_succ]
    have a1 : (2 * m + 1) / 2 = m := by omega
    have a2 : (2 * m) / 2 = m := by omega
    rw [a1, a2]; simp
theorem cats_zero : cats 0 = [] := by decide
theorem cats_nil {n : Nat} (hn : n < 18446744073709551616) (h : cats n = []) : n = 0 := by
  by_cases h0 : n = 0
  · exact h0
  · rw [(cats_step n h0 hn).1] at h; cases h
theorem cats_le (n : Nat) : (cats n).length ≤ 64 := by
  have := List.length_filter_le n.testBit (List.range 64)
  simpa [cats] using this
theorem and_pred_lt (r : Nat) (hr : r < 18446744073709551616) : (r &&& (r - 1)) < 18446744073709551616 := Nat.lt_of_le_of_lt Nat.and_le_left hr
theorem cats_lt {n c : Nat} (h : c ∈ cats n) : c < 64 := by
  have := List.mem_filter.1 h
  simpa using this.1
end Go.Proofs.YtdoioaeppepndaaGreatDoor.Lb
