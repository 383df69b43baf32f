/- How many bits a word has: the steps of math/bits.OnesCount64, said of natural numbers. -/
import Derived.Test.YtnlioeheogkkiaaDoorLabelMath
namespace Go.Proofs.YtnlioeheogkkiaaDoor.Lb
open Go

/-- The number with these bytes, the lowest first. -/
def val8 : List Nat → Nat
  | [] => 0
  | c :: cs => c + 256 * val8 cs
def rep8 (m : Nat) (cs : List Nat) : Nat := val8 (cs.map fun _ => m)

theorem and_byte (a m u v : Nat) (ha : a < 256) (hm : m < 256) : (a + 256 * u) &&& (m + 256 * v) = (a &&& m) + 256 * (u &&& v) := by
  have h1 : ∀ (x y i : Nat), x < 256 → (x + 256 * y).testBit i = if i < 8 then x.testBit i else y.testBit (i - 8) := fun x y i hx => by
    rw [show x + 256 * y = 2 ^ 8 * y + x by omega, Nat.testBit_two_pow_mul_add _ (by omega)]
  apply Nat.eq_of_testBit_eq
  intro i
  rw [Nat.testBit_and, h1 _ _ _ ha, h1 _ _ _ hm, h1 _ _ _ (Nat.lt_of_le_of_lt Nat.and_le_left ha)]
  split <;> simp

def g1 (c : Nat) : Nat := (c / 2 &&& 85) + (c &&& 85)
def g2 (c : Nat) : Nat := (c / 4 &&& 51) + (c &&& 51)
def g3 (c : Nat) : Nat := (c / 16 + c) &&& 15
def pop8 (c : Nat) : Nat := ((List.range 8).filter c.testBit).length

theorem fin1 : ∀ c < 256, ∀ b < 2, (c / 2 + 128 * b) &&& 85 = c / 2 &&& 85 := by decide +kernel
theorem fin2 : ∀ c < 256, ∀ b < 4, (c / 4 + 64 * b) &&& 51 = c / 4 &&& 51 := by decide +kernel
theorem fin3 : ∀ c < 69, ∀ b < 5, (c / 16 + 16 * b + c) &&& 15 = (c / 16 + c) &&& 15 := by decide +kernel
theorem fin4 : ∀ c < 256, g1 c < 256 ∧ g2 (g1 c) < 69 ∧ g2 (g1 c) % 16 < 5 ∧ g3 (g2 (g1 c)) = pop8 c ∧ pop8 c < 9 := by decide +kernel

theorem step1 (cs : List Nat) (h : ∀ c ∈ cs, c < 256) : (val8 cs / 2 &&& rep8 85 cs) + (val8 cs &&& rep8 85 cs) = val8 (cs.map g1) := by
  induction cs with
  | nil => rfl
  | cons c cs ih =>
    have hc : c < 256 := h c (by simp)
    have hi := ih fun x hx => h x (by simp [hx])
    have e1 : val8 (c :: cs) / 2 = (c / 2 + 128 * (val8 cs % 2)) + 256 * (val8 cs / 2) := by simp only [val8]; omega
    have e2 : rep8 85 (c :: cs) = 85 + 256 * rep8 85 cs := rfl
    rw [e1, e2, and_byte _ _ _ _ (by omega) (by decide), fin1 c hc _ (Nat.mod_lt _ (by decide))]
    simp only [val8, List.map_cons]
    rw [and_byte _ _ _ _ hc (by decide), ← hi]
    simp only [g1]
    omega
theorem step2 (cs : List Nat) (h : ∀ c ∈ cs, c < 256) : (val8 cs / 4 &&& rep8 51 cs) + (val8 cs &&& rep8 51 cs) = val8 (cs.map g2) := by
  induction cs with
  | nil => rfl
  | cons c cs ih =>
    have hc : c < 256 := h c (by simp)
    have hi := ih fun x hx => h x (by simp [hx])
    have e1 : val8 (c :: cs) / 4 = (c / 4 + 64 * (val8 cs % 4)) + 256 * (val8 cs / 4) := by simp only [val8]; omega
    have e2 : rep8 51 (c :: cs) = 51 + 256 * rep8 51 cs := rfl
    rw [e1, e2, and_byte _ _ _ _ (by omega) (by decide), fin2 c hc _ (Nat.mod_lt _ (by decide))]
    simp only [val8, List.map_cons]
    rw [and_byte _ _ _ _ hc (by decide), ← hi]
    simp only [g2]
    omega
theorem val8_mod (cs : List Nat) (h : ∀ c ∈ cs, c % 16 < 5) : val8 cs % 16 < 5 := by
  cases cs with
  | nil => decide
  | cons c cs => have := h c (by simp); simp only [val8]; omega
theorem step3 (cs : List Nat) (h : ∀ c ∈ cs, c < 69 ∧ c % 16 < 5) : ((val8 cs / 16 + val8 cs) &&& rep8 15 cs) = val8 (cs.map g3) := by
  induction cs with
  | nil => rfl
  | cons c cs ih =>
    have hc := h c (by simp)
    have hi := ih fun x hx => h x (by simp [hx])
    have hm := val8_mod cs fun x hx => (h x (by simp [hx])).2
    have e1 : val8 (c :: cs) / 16 + val8 (c :: cs) = (c / 16 + 16 * (val8 cs % 16) + c) + 256 * (val8 cs / 16 + val8 cs) := by simp only [val8]; omega
    have e2 : rep8 15 (c :: cs) = 15 + 256 * rep8 15 cs := rfl
    rw [e1, e2, and_byte _ _ _ _ (by omega) (by decide), fin3 c hc.1 _ hm, hi]
    rfl

def bytes8 (n : Nat) : List Nat := [n % 256, n / 256 % 256, n / 65536 % 256, n / 16777216 % 256, n / 4294967296 % 256, n / 1099511627776 % 256, n / 281474976710656 % 256, n / 72057594037927936 % 256]
theorem val8_bytes8 (n : Nat) (hn : n < 18446744073709551616) : val8 (bytes8 n) = n := by simp only [val8, bytes8]; omega
theorem bytes8_lt (n : Nat) : ∀ c ∈ bytes8 n, c < 256 := by
  intro c hc
  simp only [bytes8, List.mem_cons, List.not_mem_nil, or_false] at hc
  omega

theorem count_val8 (cs : List Nat) (h : ∀ c ∈ cs, c < 256) : ((List.range (8 * cs.length)).filter (val8 cs).testBit).length = (cs.map pop8).sum := by
  induction cs with
  | nil => rfl
  | cons c cs ih =>
    have hc : c < 256 := h c (by simp)
    have hi := ih fun x hx => h x (by simp [hx])
    have h1 : ∀ i : Nat, (val8 (c :: cs)).testBit i = if i < 8 then c.testBit i else (val8 cs).testBit (i - 8) := fun i => by
      rw [show val8 (c :: cs) = 2 ^ 8 * val8 cs + c by simp only [val8]; omega, Nat.testBit_two_pow_mul_add _ (by omega)]
    rw [show 8 * (c :: cs).length = 8 + 8 * cs.length by simp; omega, List.range_add, List.filter_append, List.length_append, List.filter_map, List.length_map, List.map_cons, List.sum_cons, ← hi]
    congr 1
    · unfold pop8
      congr 1
      apply List.filter_congr
      intro i hi
      rw [h1, if_pos (by simpa using hi)]
    · congr 1
      apply List.filter_congr
      intro i _
      rw [Function.comp_apply, h1, if_neg (by omega), Nat.add_sub_cancel_left]

/-- What the steps of OnesCount64 make of a word. -/
def y1 (n : Nat) : Nat := (n / 2 &&& 6148914691236517205) + (n &&& 6148914691236517205)
def y2 (n : Nat) : Nat := (n / 4 &&& 3689348814741910323) + (n &&& 3689348814741910323)
def y3 (n : Nat) : Nat := (n / 16 + n) &&& 1085102592571150095
theorem rep_85 (n : Nat) : rep8 85 (bytes8 n) = 6148914691236517205 := by simp only [rep8, bytes8, List.map_cons, List.map_nil, val8]
theorem rep_51 (n : Nat) : rep8 51 ((bytes8 n).map g1) = 3689348814741910323 := by simp only [rep8, bytes8, List.map_cons, List.map_nil, val8]
theorem rep_15 (n : Nat) : rep8 15 (((bytes8 n).map g1).map g2) = 1085102592571150095 := by simp only [rep8, bytes8, List.map_cons, List.map_nil, val8]
theorem y321 (n : Nat) (hn : n < 18446744073709551616) : y3 (y2 (y1 n)) = val8 ((bytes8 n).map pop8) := by
  have a1 : y1 n = val8 ((bytes8 n).map g1) := by
    rw [← step1 _ (bytes8_lt n), val8_bytes8 n hn, rep_85]; exact y1.eq_1 n
  have b1 : ∀ c ∈ (bytes8 n).map g1, c < 256 := by
    intro c hc
    obtain ⟨d, hd, rfl⟩ := List.mem_map.1 hc
    exact (fin4 d (bytes8_lt n d hd)).1
  have a2 : y2 (y1 n) = val8 (((bytes8 n).map g1).map g2) := by
    rw [← step2 _ b1, ← a1, rep_51]; exact y2.eq_1 _
  have b2 : ∀ c ∈ ((bytes8 n).map g1).map g2, c < 69 ∧ c % 16 < 5 := by
    intro c hc
    obtain ⟨d', hd', rfl⟩ := List.mem_map.1 hc
    obtain ⟨d, hd, rfl⟩ := List.mem_map.1 hd'
    exact ⟨(fin4 d (bytes8_lt n d hd)).2.1, (fin4 d (bytes8_lt n d hd)).2.2.1⟩
  have a3 : y3 (y2 (y1 n)) = val8 ((((bytes8 n).map g1).map g2).map g3) := by
    rw [← step3 _ b2, ← a2, rep_15]; exact y3.eq_1 _
  rw [a3, List.map_map, List.map_map]
  congr 1
  apply List.map_congr_left
  intro c hc
  exact (fin4 c (bytes8_lt n c hc)).2.2.2.1

def y4 (n : Nat) : Nat := n + n / 256
def y5 (n : Nat) : Nat := n + n / 65536
def y6 (n : Nat) : Nat := n + n / 4294967296
theorem val8_div (c : Nat) (cs : List Nat) (h : c < 256) : val8 (c :: cs) / 256 = val8 cs := by simp only [val8]; omega
theorem y4_val (a b c d e f g h : Nat) (ha : a < 9) : y4 (val8 [a, b, c, d, e, f, g, h]) = val8 [a + b, b + c, c + d, d + e, e + f, f + g, g + h, h] := by
  unfold y4; rw [val8_div _ _ (by omega)]; simp only [val8]; omega
theorem y5_val (a b c d e f g h : Nat) (ha : a < 99) (hb : b < 99) : y5 (val8 [a, b, c, d, e, f, g, h]) = val8 [a + c, b + d, c + e, d + f, e + g, f + h, g, h] := by
  unfold y5; rw [show 65536 = 256 * 256 from rfl, ← Nat.div_div_eq_div_mul, val8_div _ _ (by omega), val8_div _ _ (by omega)]; simp only [val8]; omega
theorem y6_val (a b c d e f g h : Nat) (ha : a < 99) (hb : b < 99) (hc : c < 99) (hd : d < 99) : y6 (val8 [a, b, c, d, e, f, g, h]) = val8 [a + e, b + f, c + g, d + h, e, f, g, h] := by
  unfold y6; rw [show 4294967296 = 256 * 256 * 256 * 256 from rfl, ← Nat.div_div_eq_div_mul, ← Nat.div_div_eq_div_mul, ← Nat.div_div_eq_div_mul, val8_div _ _ (by omega), val8_div _ _ (by omega), val8_div _ _ (by omega), val8_div _ _ (by omega)]; simp only [val8]; omega
theorem val8_mod128 (c : Nat) (cs : List Nat) (h : c < 128) : val8 (c :: cs) % 128 = c := by simp only [val8]; omega
theorem sum_fields (a b c d e f g h : Nat) (ha : a < 9) (hb : b < 9) (hc : c < 9) (hd : d < 9) (he : e < 9) (hf : f < 9) (hg : g < 9) (hh : h < 9) :
    y6 (y5 (y4 (val8 [a, b, c, d, e, f, g, h]))) % 128 = [a, b, c, d, e, f, g, h].sum := by
  rw [y4_val _ _ _ _ _ _ _ _ ha, y5_val _ _ _ _ _ _ _ _ (by omega) (by omega), y6_val _ _ _ _ _ _ _ _ (by omega) (by omega) (by omega) (by omega), val8_mod128 _ _ (by omega)]
  simp only [List.sum_cons, List.sum_nil]
  omega

theorem ones_nat (n : Nat) (hn : n < 18446744073709551616) : y6 (y5 (y4 (y3 (y2 (y1 n))))) % 128 = (cats n).length := by
  have hp : ∀ k : Nat, pop8 (k % 256) < 9 := fun k => (fin4 (k % 256) (Nat.mod_lt _ (by decide))).2.2.2.2
  have hc := count_val8 (bytes8 n) (bytes8_lt n)
  rw [val8_bytes8 n hn] at hc
  have hc' : (cats n).length = ((bytes8 n).map pop8).sum := hc
  rw [hc', y321 n hn]
  exact sum_fields _ _ _ _ _ _ _ _ (hp _) (hp _) (hp _) (hp _) (hp _) (hp _) (hp _) (hp _)
end Go.Proofs.YtnlioeheogkkiaaDoor.Lb
