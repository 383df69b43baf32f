/- Decimal digits, as lists of bytes: which number they spell; numbers of rows' words. Nothing here speaks of the program. -/
import Derived.Test.YtkmkhegekonbmaaDoorRowMath
import Derived.Lib.ItoaNum
namespace Go.Proofs.YtkmkhegekonbmaaDoor.Rw6
open Go Go.RowKit

def isD (b : UInt8) : Bool := decide (48 ≤ b.toNat) && decide (b.toNat ≤ 57)
theorem isD_iff {b : UInt8} : isD b = true ↔ 48 ≤ b.toNat ∧ b.toNat ≤ 57 := by simp [isD]
theorem digit_val (d : Nat) (h : d < 10) : (UInt8.ofNat (48 + d)).toNat = 48 + d := by
  rw [UInt8.toNat_ofNat']
  omega
/-- The number that digits spell, behind a. -/
def decN (a : Nat) (ds : List UInt8) : Nat := ds.foldl (fun a d => 10 * a + (d.toNat - 48)) a
theorem decN_snoc (a : Nat) (ds : List UInt8) (d : UInt8) : decN a (ds ++ [d]) = 10 * decN a ds + (d.toNat - 48) := by unfold decN; rw [List.foldl_append]; rfl
theorem decN_cons (a : Nat) (d : UInt8) (ds : List UInt8) : decN a (d :: ds) = decN (10 * a + (d.toNat - 48)) ds := by unfold decN; rw [List.foldl_cons]
theorem decN_ge (ds : List UInt8) : ∀ a, a ≤ decN a ds := by
  induction ds with
  | nil => intro a; exact Nat.le_refl _
  | cons d ds ih => intro a; rw [decN_cons]; exact Nat.le_trans (by omega) (ih _)
theorem dec_one {u : Nat} (h : u < 10) : Lib.decDigits u = [UInt8.ofNat (48 + u)] := Lib.decDigits_one h
theorem dec_more {u : Nat} (h : ¬ u < 10) : Lib.decDigits u = Lib.decDigits (u / 10) ++ [UInt8.ofNat (48 + u % 10)] := by
  rw [Lib.decDigits, dif_neg h]
theorem dec_all (u : Nat) : ∀ b ∈ Lib.decDigits u, isD b = true := by
  induction u using Nat.strongRecOn with
  | ind u ih =>
    by_cases h : u < 10
    · rw [dec_one h]
      intro b hb
      obtain rfl := List.mem_singleton.1 hb
      exact isD_iff.2 (by rw [digit_val u h]; omega)
    · rw [dec_more h]
      intro b hb
      rcases List.mem_append.1 hb with hb | hb
      · exact ih (u / 10) (by omega) b hb
      · obtain rfl := List.mem_singleton.1 hb
        exact isD_iff.2 (by rw [digit_val _ (by omega)]; omega)
theorem dec_val (u : Nat) : decN 0 (Lib.decDigits u) = u := by
  induction u using Nat.strongRecOn with
  | ind u ih =>
    by_cases h : u < 10
    · rw [dec_one h]
      show 10 * 0 + ((UInt8.ofNat (48 + u)).toNat - 48) = u
      rw [digit_val u h]
      omega
    · rw [dec_more h, decN_snoc, ih (u / 10) (by omega), digit_val _ (by omega)]
      omega
theorem dec_ne (u : Nat) : Lib.decDigits u ≠ [] := by
  by_cases h : u < 10
  · rw [dec_one h]; simp
  · rw [dec_more h]; simp
/-- A number's first digit is 0 for 0 alone. -/
theorem dec_head (u : Nat) (h : 1 ≤ u) : ∃ d ds, Lib.decDigits u = d :: ds ∧ 49 ≤ d.toNat := by
  induction u using Nat.strongRecOn with
  | ind u ih =>
    by_cases h1 : u < 10
    · exact ⟨_, [], dec_one h1, by rw [digit_val u h1]; omega⟩
    · obtain ⟨d, ds, e, hd⟩ := ih (u / 10) (by omega) (by omega)
      exact ⟨d, ds ++ [UInt8.ofNat (48 + u % 10)], by rw [dec_more h1, e]; rfl, hd⟩
theorem dec_of (ds : List UInt8) : ∀ (a : Nat), 1 ≤ a → (∀ b ∈ ds, isD b = true) → Lib.decDigits (decN a ds) = Lib.decDigits a ++ ds := by
  induction ds with
  | nil => intro a _ _; simp [decN]
  | cons d ds ih =>
    intro a ha hd
    have hb := isD_iff.1 (hd d (by simp))
    rw [decN_cons, ih _ (by omega) (fun b hb => hd b (by simp [hb]))]
    have e : Lib.decDigits (10 * a + (d.toNat - 48)) = Lib.decDigits a ++ [d] := by
      rw [dec_more (by omega)]
      have e1 : (10 * a + (d.toNat - 48)) / 10 = a := by omega
      have e2 : UInt8.ofNat (48 + (10 * a + (d.toNat - 48)) % 10) = d := by
        apply UInt8.toNat_inj.1
        rw [digit_val _ (by omega)]
        omega
      rw [e1, e2]
    rw [e]
    simp
theorem dec_back (d : UInt8) (ds : List UInt8) (hd : ∀ b ∈ d :: ds, isD b = true) (h0 : d.toNat = 48 → ds = []) : Lib.decDigits (decN 0 (d :: ds)) = d :: ds := by
  have hb := isD_iff.1 (hd d (by simp))
  by_cases h : d.toNat = 48
  · obtain rfl := h0 h
    have : decN 0 [d] = 0 := by show 10 * 0 + (d.toNat - 48) = 0; omega
    rw [this, dec_one (by decide)]
    congr 1
    apply UInt8.toNat_inj.1
    rw [h]
    rfl
  · rw [decN_cons, dec_of ds _ (by omega) (fun b hb => hd b (by simp [hb])), dec_one (by omega)]
    have e2 : UInt8.ofNat (48 + (10 * 0 + (d.toNat - 48))) = d := by
      apply UInt8.toNat_inj.1
      rw [digit_val _ (by omega)]
      omega
    rw [e2]
    rfl
theorem itoa_pos {v : Int} (h : 0 ≤ v) : Lib.itoa v = Lib.decDigits v.toNat := by unfold Lib.itoa; rw [if_neg (by omega)]
theorem itoa_neg {v : Int} (h : v < 0) : Lib.itoa v = 45 :: Lib.decDigits v.natAbs := by unfold Lib.itoa; rw [if_pos h]

/-- Digits without needless zeros, at least one. -/
def digB : List UInt8 → Bool
  | [] => false
  | d :: ds => (d :: ds).all isD && (d.toNat != 48 || ds.isEmpty)
theorem digB_cons {d : UInt8} {ds : List UInt8} : digB (d :: ds) = true ↔ (∀ b ∈ d :: ds, isD b = true) ∧ (d.toNat = 48 → ds = []) := by
  unfold digB
  rw [Bool.and_eq_true, List.all_eq_true, Bool.or_eq_true, bne_iff_ne, List.isEmpty_iff]
  refine and_congr_right fun _ => ⟨fun h e => h.elim (fun h => absurd e h) id, fun h => ?_⟩
  by_cases e : d.toNat = 48
  · exact .inr (h e)
  · exact .inl e
theorem digB_all {l : List UInt8} (h : digB l = true) : ∀ b ∈ l, isD b = true := by
  cases l with
  | nil => cases h
  | cons d ds => exact (digB_cons.1 h).1
theorem digB_ne {l : List UInt8} (h : digB l = true) : l ≠ [] := by
  rintro rfl
  cases h
theorem digB_dec (u : Nat) : digB (Lib.decDigits u) = true := by
  rcases Nat.eq_zero_or_pos u with h | h
  · subst h; rw [dec_one (by decide)]; decide
  · obtain ⟨d, ds, e, hd⟩ := dec_head u h
    have ha := dec_all u
    rw [e] at ha ⊢
    exact digB_cons.2 ⟨ha, fun h => by omega⟩
theorem digB_back {l : List UInt8} (h : digB l = true) : Lib.decDigits (decN 0 l) = l := by
  cases l with
  | nil => cases h
  | cons d ds => exact dec_back d ds (digB_cons.1 h).1 (digB_cons.1 h).2
theorem digB_zero {l : List UInt8} (h : digB l = true) : l = [48] ↔ decN 0 l = 0 := by
  constructor
  · rintro rfl; rfl
  · intro h0
    have := digB_back h
    rw [h0, dec_one (by decide)] at this
    rw [← this]; rfl
theorem digB_first {l : List UInt8} (h : digB l = true) : ∃ d ds, l = d :: ds ∧ isD d = true := by
  cases l with
  | nil => cases h
  | cons d ds => exact ⟨d, ds, rfl, (digB_cons.1 h).1 d (by simp)⟩

theorem dec_len (k : Nat) : ∀ u, u < 10 ^ (k + 1) → (Lib.decDigits u).length ≤ k + 1 := by
  induction k with
  | zero => intro u h; rw [dec_one (by omega)]; simp
  | succ k ih =>
    intro u h
    by_cases h1 : u < 10
    · rw [dec_one h1]; simp
    · rw [dec_more h1, List.length_append]
      have h2 : 10 ^ (k + 1 + 1) = 10 ^ (k + 1) * 10 := Nat.pow_succ _ _
      have := ih (u / 10) (by omega)
      simp only [List.length_cons, List.length_nil]
      omega

/-- A word's text as a number: 1 to 20 digits. -/
def numB (l : List UInt8) : Bool := digB l && decide (l.length ≤ 20)
theorem numB_iff {l : List UInt8} : numB l = true ↔ digB l = true ∧ l.length ≤ 20 := by unfold numB; rw [Bool.and_eq_true, decide_eq_true_iff]
theorem numB_dec {u : Nat} (h : u < 10 ^ 20) : numB (Lib.decDigits u) = true := numB_iff.2 ⟨digB_dec u, dec_len 19 u h⟩
def top : Nat := 18446744073709551615
/-- What Number answers: the number, and the error. -/
def numG (q : Bool) (l : List UInt8) (lo hi : Nat) : Nat × Int :=
  if q = true ∨ numB l = false then (0, 3)
  else if top < decN 0 l ∨ decN 0 l < lo ∨ hi < decN 0 l then (0, 2) else (decN 0 l, 0)
/-- Whether - stands first; what stands behind it. -/
def minB (l : List UInt8) : Bool := l.head? == some 45
def restL (l : List UInt8) : List UInt8 := if minB l = true then l.tail else l
/-- What Signed answers. -/
def sgnG (q : Bool) (l : List UInt8) : Int × Int :=
  if q = true ∨ numB (restL l) = false ∨ (minB l = true ∧ restL l = [48]) then (0, 3)
  else if 9223372036854775808 < decN 0 (restL l) ∨ (decN 0 (restL l) = 9223372036854775808 ∧ minB l = false) then (0, 2)
  else (if minB l = true then -(decN 0 (restL l) : Int) else (decN 0 (restL l) : Int), 0)
theorem digit_no_min {l : List UInt8} (h : digB l = true) : minB l = false := by
  obtain ⟨d, ds, rfl, hd⟩ := digB_first h
  have := isD_iff.1 hd
  cases e : minB (d :: ds)
  · rfl
  · have : d = 45 := by simpa [minB] using e
    subst this
    exact absurd hd (by decide)
theorem not_min {l : List UInt8} (h : minB l = false) : restL l = l := by unfold restL; rw [if_neg (by rw [h]; decide)]
/-- Each number is read from its digits (P6.9). -/
theorem numG_dec {u : Nat} (h : u ≤ top) : numG false (Lib.decDigits u) 0 top = (u, 0) := by
  unfold numG
  rw [dec_val, numB_dec (show u < 10 ^ 20 by unfold top at h; omega), if_neg (by decide), if_neg (by omega)]
theorem numG_minus (t : List UInt8) (lo hi : Nat) : numG false (45 :: t) lo hi = (0, 3) := by
  unfold numG
  rw [if_pos]
  right
  cases h : numB (45 :: t) with
  | false => rfl
  | true =>
    have := digB_all (numB_iff.1 h).1 45 (by simp)
    exact absurd this (by decide)
theorem sgnG_itoa (v : Int) (h1 : -9223372036854775808 ≤ v) (h2 : v ≤ 9223372036854775807) : sgnG false (Lib.itoa v) = (v, 0) := by
  by_cases h0 : 0 ≤ v
  · rw [itoa_pos h0]
    have hm := digit_no_min (digB_dec v.toNat)
    unfold sgnG
    rw [not_min hm, hm, dec_val, numB_dec (by omega), if_neg (by rintro (h | h | h) <;> revert h <;> simp), if_neg (by omega), if_neg (by decide)]
    rw [Int.toNat_of_nonneg h0]
  · rw [itoa_neg (by omega)]
    have hm : minB (45 :: Lib.decDigits v.natAbs) = true := by simp [minB]
    have hr : restL (45 :: Lib.decDigits v.natAbs) = Lib.decDigits v.natAbs := by unfold restL; rw [if_pos hm]; rfl
    have hz : Lib.decDigits v.natAbs ≠ [48] := fun e => by
      have := (digB_zero (digB_dec _)).1 e
      rw [dec_val] at this
      omega
    unfold sgnG
    rw [hr, hm, dec_val, numB_dec (show v.natAbs < 10 ^ 20 by omega), if_neg (fun h => h.elim (by decide) fun h => h.elim (by decide) fun h => hz h.2), if_neg (fun h => h.elim (by omega) fun h => absurd h.2 (by decide)), if_pos rfl]
    congr 1
    omega

/-- Reading digit by digit, in numbers of 64 bits: what is held, and whether it was too much. -/
theorem step_much {N d : Nat} (hd : d ≤ 9) : (top - d) / 10 < N ↔ top < 10 * N + d := by unfold top; omega
theorem decN_take (l : List UInt8) (k : Nat) (h : k < l.length) : decN 0 (l.take (k + 1)) = 10 * decN 0 (l.take k) + ((l[k]).toNat - 48) := by
  rw [List.take_succ_eq_append_getElem h, decN_snoc]
theorem decN_mono (l : List UInt8) (k : Nat) : decN 0 (l.take k) ≤ decN 0 l := by
  have h := List.take_append_drop k l
  have h2 : decN 0 l = decN (decN 0 (l.take k)) (l.drop k) := by
    unfold decN
    rw [← List.foldl_append, h]
  rw [h2]
  exact decN_ge _ _

/-- Digits that are put in front one by one spell the number. -/
theorem dec_front {u : Nat} (h : 1 ≤ u) (t : List UInt8) : Lib.decDigits u ++ t = (if u / 10 = 0 then [] else Lib.decDigits (u / 10)) ++ UInt8.ofNat (48 + u % 10) :: t := by
  by_cases h1 : u < 10
  · have : u / 10 = 0 := by omega
    rw [if_pos this, dec_one h1, Nat.mod_eq_of_lt h1]; rfl
  · have : u / 10 ≠ 0 := by omega
    rw [if_neg this, dec_more h1, List.append_assoc]; rfl
end Go.Proofs.YtkmkhegekonbmaaDoor.Rw6
