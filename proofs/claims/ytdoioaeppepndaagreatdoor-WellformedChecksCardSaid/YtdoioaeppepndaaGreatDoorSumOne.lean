/- Numbers and their texts. -/
import Derived.Test.YtdoioaeppepndaaGreatDoorWords
import Derived.Laws.BitsAllLaws
import Derived.IntWalk
import Derived.Lib.ItoaNum
import Derived.Lib.ParseIntBTie
import Derived.Lib.ParseIntBCases
namespace Go.Proofs.YtdoioaeppepndaaGreatDoor.Sm
open Go Go.RowKit

/-- n is a number of 64 bits. -/
def okI (n : Int) : Bool := decide (-9223372036854775808 ≤ n) && decide (n ≤ 9223372036854775807)
theorem okI_iff {n : Int} : okI n = true ↔ -9223372036854775808 ≤ n ∧ n ≤ 9223372036854775807 := by simp [okI]
theorem okI_not {n : Int} : okI n = false ↔ ¬ (-9223372036854775808 ≤ n ∧ n ≤ 9223372036854775807) := by
  rw [← okI_iff]; simp
/-- The number, or 0; the error beside it. -/
def numI (n : Int) : Int := if okI n = true then n else 0
def errI (n : Int) : Int := if okI n = true then 0 else 16
theorem numI_ok {n : Int} (h : okI n = true) : numI n = n := by unfold numI; rw [if_pos h]
theorem errI_ok {n : Int} (h : okI n = true) : errI n = 0 := by unfold errI; rw [if_pos h]
theorem numI_no {n : Int} (h : okI n = false) : numI n = 0 := by unfold numI; rw [if_neg (by rw [h]; decide)]
theorem errI_no {n : Int} (h : okI n = false) : errI n = 16 := by unfold errI; rw [if_neg (by rw [h]; decide)]

/-- n is below 0. -/
def neg (n : Int) : Bool := decide (n < 0)
theorem neg_iff {n : Int} : neg n = true ↔ n < 0 := by simp [neg]
theorem wrap_bv (v : BitVec 64) : IntKind.i64.wrap (v.toNat : Int) = v.toInt := by
  rw [IntKind.wrap_i64, BitVec.toInt_eq_toNat_cond]
  have := v.isLt
  split <;> omega
theorem ofInt_neg {a : Int} (h : okI a = true) : (BitVec.ofInt 64 a).msb = neg a := by
  rw [BitVec.msb_eq_toInt, BitVec.toInt_ofInt, neg]
  have := okI_iff.1 h
  have e : Int.bmod a (2 ^ 64) = a := by
    rw [Int.bmod_def]
    simp
    omega
  rw [e]
theorem xor_neg {a b : Int} (ha : okI a = true) (hb : okI b = true) : neg (bits .xor .i64 a b) = (neg a ^^ neg b) := by
  show decide (IntKind.i64.wrap _ < 0) = _
  show decide (IntKind.i64.wrap ((BitVec.ofInt 64 a ^^^ BitVec.ofInt 64 b).toNat : Int) < 0) = _
  rw [wrap_bv, ← BitVec.msb_eq_toInt, BitVec.msb_xor, ofInt_neg ha, ofInt_neg hb]
theorem and_neg {a b : Int} (ha : okI a = true) (hb : okI b = true) : neg (bits .and .i64 a b) = (neg a && neg b) := by
  show decide (IntKind.i64.wrap ((BitVec.ofInt 64 a &&& BitVec.ofInt 64 b).toNat : Int) < 0) = _
  rw [wrap_bv, ← BitVec.msb_eq_toInt, BitVec.msb_and, ofInt_neg ha, ofInt_neg hb]
theorem bits_ok (op : BinOp) (a b : Int) : okI (bits op .i64 a b) = true := by
  unfold bits
  simp only
  generalize (match op with | .and => _ | .or => _ | .xor => _ | _ => _ : BitVec _) = v
  rw [okI_iff, IntKind.wrap_i64]
  omega
theorem wrap_ok (n : Int) : okI (IntKind.i64.wrap n) = true := by rw [okI_iff, IntKind.wrap_i64]; omega
/-- The highest bit of a number. -/
def sgn (n : Int) : Int := if neg n = true then 1 else 0
theorem sgn_of {n : Int} (h : okI n = true) : IntKind.u64.wrap n / 9223372036854775808 = sgn n := by
  have := okI_iff.1 h
  rw [IntKind.wrap_u64]
  unfold sgn
  split
  · rename_i h1; have := neg_iff.1 h1; omega
  · rename_i h1; have : ¬ n < 0 := fun h => h1 (neg_iff.2 h)
    omega
/-- A sum of 64 bits: whether it has run over. -/
theorem add_over {a b s : Int} (ha : okI a = true) (hb : okI b = true) (hs : okI s = true) (he : ∃ k : Int, s = a + b + 18446744073709551616 * k) :
    okI (a + b) = !((neg a ^^ neg s) && (neg b ^^ neg s)) ∧ (okI (a + b) = true → s = a + b) := by
  obtain ⟨k, hk⟩ := he
  have h1 := okI_iff.1 ha
  have h2 := okI_iff.1 hb
  have h3 := okI_iff.1 hs
  constructor
  · cases e : okI (a + b)
    · have := okI_not.1 e
      unfold neg
      have hh : (a < 0 ∧ b < 0 ∧ ¬ s < 0) ∨ (¬ a < 0 ∧ ¬ b < 0 ∧ s < 0) := by omega
      rcases hh with ⟨p, q, r⟩ | ⟨p, q, r⟩ <;> simp [p, q, r]
    · have := okI_iff.1 e
      unfold neg
      have hh : (a < 0 ∧ s < 0) ∨ (b < 0 ∧ s < 0) ∨ (¬ a < 0 ∧ ¬ s < 0) ∨ (¬ b < 0 ∧ ¬ s < 0) := by omega
      rcases hh with ⟨p, q⟩ | ⟨p, q⟩ | ⟨p, q⟩ | ⟨p, q⟩ <;> simp [p, q]
  · intro e
    have := okI_iff.1 e
    omega
theorem sub_over {a b s : Int} (ha : okI a = true) (hb : okI b = true) (hs : okI s = true) (he : ∃ k : Int, s = a - b + 18446744073709551616 * k) :
    okI (a - b) = !((neg a ^^ neg b) && (neg a ^^ neg s)) ∧ (okI (a - b) = true → s = a - b) := by
  obtain ⟨k, hk⟩ := he
  have h1 := okI_iff.1 ha
  have h2 := okI_iff.1 hb
  have h3 := okI_iff.1 hs
  constructor
  · cases e : okI (a - b)
    · have := okI_not.1 e
      unfold neg
      have hh : (a < 0 ∧ ¬ b < 0 ∧ ¬ s < 0) ∨ (¬ a < 0 ∧ b < 0 ∧ s < 0) := by omega
      rcases hh with ⟨p, q, r⟩ | ⟨p, q, r⟩ <;> simp [p, q, r]
    · have := okI_iff.1 e
      unfold neg
      have hh : (a < 0 ∧ b < 0) ∨ (¬ a < 0 ∧ ¬ b < 0) ∨ (a < 0 ∧ s < 0) ∨ (¬ a < 0 ∧ ¬ s < 0) := by omega
      rcases hh with ⟨p, q⟩ | ⟨p, q⟩ | ⟨p, q⟩ | ⟨p, q⟩ <;> simp [p, q]
  · intro e
    have := okI_iff.1 e
    omega

/-- The running sums of a list, from n on, and the error at their end. -/
def runGo : Int → List Int → List Int × Int
  | _, [] => ([], 0)
  | n, x :: l => if okI (n + x) = true then ((n + x) :: (runGo (n + x) l).1, (runGo (n + x) l).2) else ([], 16)
def runI (l : List Int) : List Int := (runGo 0 l).1
def runE (l : List Int) : Int := (runGo 0 l).2
end Go.Proofs.YtdoioaeppepndaaGreatDoor.Sm
namespace Go.Proofs.YtdoioaeppepndaaGreatDoor.Sm
open Go Go.RowKit

def isD (b : UInt8) : Bool := decide (48 ≤ b.toNat) && decide (b.toNat ≤ 57)
theorem isD_iff {b : UInt8} : isD b = true ↔ 48 ≤ b.toNat ∧ b.toNat ≤ 57 := by simp [isD]
theorem digit_val (d : Nat) (h : d < 10) : (UInt8.ofNat (48 + d)).toNat = 48 + d := by
  rw [UInt8.toNat_ofNat']
  omega
/-- The number that digits spell, behind a. -/
def decN (a : Nat) (ds : List UInt8) : Nat := ds.foldl (fun a d => 10 * a + (d.toNat - 48)) a
theorem decN_snoc (a : Nat) (ds : List UInt8) (d : UInt8) : decN a (ds ++ [d]) = 10 * decN a ds + (d.toNat - 48) := by unfold decN; rw [List.foldl_append]; rfl
theorem decN_cons (a : Nat) (d : UInt8) (ds : List UInt8) : decN a (d :: ds) = decN (10 * a + (d.toNat - 48)) ds := by unfold decN; rw [List.foldl_cons]
theorem decN_ge (ds : List UInt8) : ∀ a, a ≤ decN a ds := by
  induction ds with
  | nil => intro a; exact Nat.le_refl _
  | cons d ds ih => intro a; rw [decN_cons]; exact Nat.le_trans (by omega) (ih _)
theorem dec_one {u : Nat} (h : u < 10) : Lib.decDigits u = [UInt8.ofNat (48 + u)] := Lib.decDigits_one h
theorem dec_more {u : Nat} (h : ¬ u < 10) : Lib.decDigits u = Lib.decDigits (u / 10) ++ [UInt8.ofNat (48 + u % 10)] := by
  rw [Lib.decDigits, dif_neg h]
theorem dec_all (u : Nat) : ∀ b ∈ Lib.decDigits u, isD b = true := by
  induction u using Nat.strongRecOn with
  | ind u ih =>
    by_cases h : u < 10
    · rw [dec_one h]
      intro b hb
      obtain rfl := List.mem_singleton.1 hb
      exact isD_iff.2 (by rw [digit_val u h]; omega)
    · rw [dec_more h]
      intro b hb
      rcases List.mem_append.1 hb with hb | hb
      · exact ih (u / 10) (by omega) b hb
      · obtain rfl := List.mem_singleton.1 hb
        exact isD_iff.2 (by rw [digit_val _ (by omega)]; omega)
theorem dec_val (u : Nat) : decN 0 (Lib.decDigits u) = u := by
  induction u using Nat.strongRecOn with
  | ind u ih =>
    by_cases h : u < 10
    · rw [dec_one h]
      show 10 * 0 + ((UInt8.ofNat (48 + u)).toNat - 48) = u
      rw [digit_val u h]
      omega
    · rw [dec_more h, decN_snoc, ih (u / 10) (by omega), digit_val _ (by omega)]
      omega
theorem dec_ne (u : Nat) : Lib.decDigits u ≠ [] := by
  by_cases h : u < 10
  · rw [dec_one h]; simp
  · rw [dec_more h]; simp
/-- A number's first digit is 0 for 0 alone. -/
theorem dec_head (u : Nat) (h : 1 ≤ u) : ∃ d ds, Lib.decDigits u = d :: ds ∧ 49 ≤ d.toNat := by
  induction u using Nat.strongRecOn with
  | ind u ih =>
    by_cases h1 : u < 10
    · exact ⟨_, [], dec_one h1, by rw [digit_val u h1]; omega⟩
    · obtain ⟨d, ds, e, hd⟩ := ih (u / 10) (by omega) (by omega)
      exact ⟨d, ds ++ [UInt8.ofNat (48 + u % 10)], by rw [dec_more h1, e]; rfl, hd⟩
theorem dec_of (ds : List UInt8) : ∀ (a : Nat), 1 ≤ a → (∀ b ∈ ds, isD b = true) → Lib.decDigits (decN a ds) = Lib.decDigits a ++ ds := by
  induction ds with
  | nil => intro a _ _; simp [decN]
  | cons d ds ih =>
    intro a ha hd
    have hb := isD_iff.1 (hd d (by simp))
    rw [decN_cons, ih _ (by omega) (fun b hb => hd b (by simp [hb]))]
    have e : Lib.decDigits (10 * a + (d.toNat - 48)) = Lib.decDigits a ++ [d] := by
      rw [dec_more (by omega)]
      have e1 : (10 * a + (d.toNat - 48)) / 10 = a := by omega
      have e2 : UInt8.ofNat (48 + (10 * a + (d.toNat - 48)) % 10) = d := by
        apply UInt8.toNat_inj.1
        rw [digit_val _ (by omega)]
        omega
      rw [e1, e2]
    rw [e]
    simp
theorem dec_back (d : UInt8) (ds : List UInt8) (hd : ∀ b ∈ d :: ds, isD b = true) (h0 : d.toNat = 48 → ds = []) : Lib.decDigits (decN 0 (d :: ds)) = d :: ds := by
  have hb := isD_iff.1 (hd d (by simp))
  by_cases h : d.toNat = 48
  · obtain rfl := h0 h
    have : decN 0 [d] = 0 := by show 10 * 0 + (d.toNat - 48) = 0; omega
    rw [this, dec_one (by decide)]
    congr 1
    apply UInt8.toNat_inj.1
    rw [h]
    rfl
  · rw [decN_cons, dec_of ds _ (by omega) (fun b hb => hd b (by simp [hb])), dec_one (by omega)]
    have e2 : UInt8.ofNat (48 + (10 * 0 + (d.toNat - 48))) = d := by
      apply UInt8.toNat_inj.1
      rw [digit_val _ (by omega)]
      omega
    rw [e2]
    rfl
theorem itoa_pos {v : Int} (h : 0 ≤ v) : Lib.itoa v = Lib.decDigits v.toNat := by unfold Lib.itoa; rw [if_neg (by omega)]
theorem itoa_neg {v : Int} (h : v < 0) : Lib.itoa v = 45 :: Lib.decDigits v.natAbs := by unfold Lib.itoa; rw [if_pos h]

/-- Digits without needless zeros, at least one. -/
def digB : List UInt8 → Bool
  | [] => false
  | d :: ds => (d :: ds).all isD && (d.toNat != 48 || ds.isEmpty)
theorem digB_cons {d : UInt8} {ds : List UInt8} : digB (d :: ds) = true ↔ (∀ b ∈ d :: ds, isD b = true) ∧ (d.toNat = 48 → ds = []) := by
  unfold digB
  rw [Bool.and_eq_true, List.all_eq_true, Bool.or_eq_true, bne_iff_ne, List.isEmpty_iff]
  refine and_congr_right fun _ => ⟨fun h e => h.elim (fun h => absurd e h) id, fun h => ?_⟩
  by_cases e : d.toNat = 48
  · exact .inr (h e)
  · exact .inl e
theorem digB_all {l : List UInt8} (h : digB l = true) : ∀ b ∈ l, isD b = true := by
  cases l with
  | nil => cases h
  | cons d ds => exact (digB_cons.1 h).1
theorem digB_ne {l : List UInt8} (h : digB l = true) : l ≠ [] := by
  rintro rfl
  cases h
theorem digB_dec (u : Nat) : digB (Lib.decDigits u) = true := by
  rcases Nat.eq_zero_or_pos u with h | h
  · subst h; rw [dec_one (by decide)]; decide
  · obtain ⟨d, ds, e, hd⟩ := dec_head u h
    have ha := dec_all u
    rw [e] at ha ⊢
    exact digB_cons.2 ⟨ha, fun h => by omega⟩
theorem digB_back {l : List UInt8} (h : digB l = true) : Lib.decDigits (decN 0 l) = l := by
  cases l with
  | nil => cases h
  | cons d ds => exact dec_back d ds (digB_cons.1 h).1 (digB_cons.1 h).2
theorem digB_zero {l : List UInt8} (h : digB l = true) : l = [48] ↔ decN 0 l = 0 := by
  constructor
  · rintro rfl; rfl
  · intro h0
    have := digB_back h
    rw [h0, dec_one (by decide)] at this
    rw [← this]; rfl
theorem digB_first {l : List UInt8} (h : digB l = true) : ∃ d ds, l = d :: ds ∧ isD d = true := by
  cases l with
  | nil => cases h
  | cons d ds => exact ⟨d, ds, rfl, (digB_cons.1 h).1 d (by simp)⟩

/-- What Nat answers. -/
def natN (l : List UInt8) (most : Nat) : Nat := if digB l = true ∧ decN 0 l ≤ most then decN 0 l else 0
def natE (l : List UInt8) (most : Nat) : Int := if digB l = true then (if decN 0 l ≤ most then 0 else 2) else 3
/-- What Int answers: whether - stands first, the digits, the number, the error. -/
def minB (l : List UInt8) : Bool := l.head? == some 45
def restL (l : List UInt8) : List UInt8 := if minB l = true then l.tail else l
def formB (l : List UInt8) : Bool := digB (restL l) && !(minB l && (restL l == [48]))
def valV (l : List UInt8) : Int := if minB l = true then -(decN 0 (restL l) : Int) else (decN 0 (restL l) : Int)
def intN (l : List UInt8) : Int := if formB l = true then numI (valV l) else 0
def intE (l : List UInt8) : Int := if formB l = true then (if okI (valV l) = true then 0 else 2) else 3
theorem form_split {l : List UInt8} (h : formB l = true) : digB (restL l) = true ∧ (minB l = true → decN 0 (restL l) ≠ 0) := by
  unfold formB at h
  rw [Bool.and_eq_true] at h
  refine ⟨h.1, fun hm h0 => ?_⟩
  have := (digB_zero h.1).2 h0
  rw [hm, this] at h
  exact absurd h.2 (by decide)
theorem min_cons {l : List UInt8} (h : minB l = true) : l = 45 :: restL l := by
  unfold restL
  rw [if_pos h]
  cases l with
  | nil => cases h
  | cons d ds =>
    have : d = 45 := by simpa [minB] using h
    rw [this]; rfl
theorem not_min {l : List UInt8} (h : minB l = false) : restL l = l := by unfold restL; rw [if_neg (by rw [h]; decide)]
theorem digit_no_min {l : List UInt8} (h : digB l = true) : minB l = false := by
  obtain ⟨d, ds, rfl, hd⟩ := digB_first h
  have := isD_iff.1 hd
  cases e : minB (d :: ds)
  · rfl
  · have : d = 45 := by simpa [minB] using e
    subst this
    exact absurd hd (by decide)
/-- The text of a number is read as this number. -/
theorem int_itoa (v : Int) (h : okI v = true) : intN (Lib.itoa v) = v ∧ intE (Lib.itoa v) = 0 := by
  have key : formB (Lib.itoa v) = true ∧ valV (Lib.itoa v) = v := by
    by_cases h0 : 0 ≤ v
    · rw [itoa_pos h0]
      have hd := digB_dec v.toNat
      have hm := digit_no_min hd
      have hr := not_min hm
      constructor
      · unfold formB; rw [hr, hd, hm]; rfl
      · unfold valV; rw [hr, hm, dec_val]; show ((v.toNat : Nat) : Int) = v; omega
    · rw [itoa_neg (by omega)]
      have hd := digB_dec v.natAbs
      have hm : minB (45 :: Lib.decDigits v.natAbs) = true := by simp [minB]
      have hr : restL (45 :: Lib.decDigits v.natAbs) = Lib.decDigits v.natAbs := by unfold restL; rw [if_pos hm]; rfl
      constructor
      · unfold formB
        rw [hr, hd, hm]
        have : Lib.decDigits v.natAbs ≠ [48] := fun e => by
          have := (digB_zero hd).1 e
          rw [dec_val] at this
          omega
        simp [this]
      · unfold valV; rw [hr, hm, dec_val]; show -((v.natAbs : Nat) : Int) = v; omega
  unfold intN intE
  rw [if_pos key.1, if_pos key.1, key.2, if_pos h, numI_ok h]
  exact ⟨rfl, rfl⟩
/-- What is read is the text of what it is read as. -/
theorem int_back {l : List UInt8} (h : intE l = 0) : Lib.itoa (intN l) = l := by
  unfold intE at h
  cases hf : formB l
  · rw [if_neg (by rw [hf]; decide)] at h; exact absurd h (by decide)
  · rw [if_pos hf] at h
    cases ho : okI (valV l)
    · rw [if_neg (by rw [ho]; decide)] at h; exact absurd h (by decide)
    · unfold intN
      rw [if_pos hf, numI_ok ho]
      obtain ⟨hd, h0⟩ := form_split hf
      unfold valV
      cases hm : minB l
      · rw [if_neg (by decide), itoa_pos (by omega), Int.toNat_natCast, digB_back hd, not_min hm]
      · have h1 := h0 hm
        rw [if_pos rfl, itoa_neg (by omega)]
        have e : (-(decN 0 (restL l) : Int)).natAbs = decN 0 (restL l) := by omega
        rw [e, digB_back hd, ← min_cons hm]

/-- What the library's readers give at digits. -/
theorem parseM_dig (ds : List UInt8) : ∀ a, (∀ b ∈ ds, isD b = true) → a ≤ 18446744073709551615 → Lib.parseUintM 18446744073709551615 a ds = if decN a ds ≤ 18446744073709551615 then .ok (decN a ds) else .range := by
  induction ds with
  | nil => intro a _ h; rw [if_pos (by exact h)]; rfl
  | cons d ds ih =>
    intro a hd ha
    have hb := isD_iff.1 (hd d (by simp))
    have h1 := decN_ge ds (10 * a + (d.toNat - 48))
    rw [decN_cons]
    unfold Lib.parseUintM
    rw [if_pos hb]
    by_cases h2 : 1844674407370955162 ≤ a
    · rw [if_pos h2, if_neg (by omega)]
    · rw [if_neg h2]
      by_cases h3 : 18446744073709551615 < a * 10 + (d.toNat - 48)
      · rw [if_pos h3, if_neg (by omega)]
      · rw [if_neg h3, Nat.mul_comm a 10]
        exact ih _ (fun b hb => hd b (by simp [hb])) (by omega)
theorem parseU_dig {l : List UInt8} (h : digB l = true) : Lib.parseUintB 64 l = if decN 0 l ≤ 18446744073709551615 then .ok (decN 0 l) else .range := by
  unfold Lib.parseUintB
  rw [if_neg (digB_ne h)]
  exact parseM_dig l 0 (digB_all h) (by decide)
theorem parseI_form {l : List UInt8} (h : formB l = true) : Lib.parseIntB 64 l = if okI (valV l) = true then .ok (valV l) else .range := by
  obtain ⟨hd, h0⟩ := form_split h
  have hp := parseU_dig hd
  unfold valV
  cases hm : minB l
  · rw [not_min hm] at hd hp ⊢
    simp only [Bool.false_eq_true, ↓reduceIte]
    obtain ⟨d, ds, e, hb⟩ := digB_first hd
    have hb := isD_iff.1 hb
    subst e
    unfold Lib.parseIntB
    simp only
    rw [if_neg (by omega), hp]
    generalize decN 0 (d :: ds) = n
    by_cases h1 : n ≤ 18446744073709551615
    · rw [if_pos h1]
      simp only
      by_cases h2 : 9223372036854775808 ≤ n
      · rw [if_pos ⟨by omega, h2⟩, if_neg (by rw [okI_iff]; omega)]
      · rw [if_neg (fun h => h2 h.2), if_neg (by omega), if_neg (by omega), if_pos (by rw [okI_iff]; omega)]
    · rw [if_neg h1]
      simp only
      rw [if_neg (by rw [okI_iff]; omega)]
  · have hl := min_cons hm
    simp only [↓reduceIte]
    generalize restL l = ds at *
    subst hl
    unfold Lib.parseIntB
    simp only
    rw [if_pos (.inr (by decide)), hp]
    generalize decN 0 ds = n at *
    by_cases h1 : n ≤ 18446744073709551615
    · rw [if_pos h1]
      simp only
      rw [if_neg (fun h => h.1 (by decide))]
      by_cases h2 : 9223372036854775808 < n
      · rw [if_pos ⟨by decide, h2⟩, if_neg (by rw [okI_iff]; omega)]
      · rw [if_neg (fun h => h2 h.2), if_pos (by decide), if_pos (by rw [okI_iff]; omega)]
    · rw [if_neg h1]
      simp only
      rw [if_neg (by rw [okI_iff]; omega)]
end Go.Proofs.YtdoioaeppepndaaGreatDoor.Sm
