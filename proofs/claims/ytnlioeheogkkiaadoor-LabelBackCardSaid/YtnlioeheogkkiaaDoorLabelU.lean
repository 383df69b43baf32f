/- What was written is read: bytes and lists of a label. -/
import Derived.Test.YtnlioeheogkkiaaDoorLabelMath
namespace Go.Proofs.YtnlioeheogkkiaaDoor.Lb
open Go

theorem or_byte (x b : Nat) (hb : b < 256) : x * 256 ||| b = x * 256 + b := by
  rw [show x * 256 = 2 ^ 8 * x by omega]
  exact (Nat.two_pow_add_eq_or_of_lt (by omega) x).symm

theorem fold8_pre (n : Nat) (hn : n < 18446744073709551616) (k : Nat) (hk : k ≤ 8) : fold8 (preBytes (n : Int) k) = ((n / 2 ^ (8 * (8 - k)) : Nat) : Int) := by
  induction k with
  | zero =>
    rw [show preBytes (n : Int) 0 = [] from rfl]
    have : n / 2 ^ (8 * (8 - 0)) = 0 := Nat.div_eq_of_lt (by simpa using hn)
    rw [this]; rfl
  | succ k ih =>
    rw [preBytes_succ, fold8_snoc, ih (by omega)]
    have hb := byteI_val (n : Int) (8 * (7 - k))
    have e1 : ((n : Int) / 2 ^ (8 * (7 - k)) % 256) = ((n / 2 ^ (8 * (7 - k)) % 256 : Nat) : Int) := by simp
    rw [e1] at hb
    have hx : 2 ^ (8 * (8 - k)) = 2 ^ (8 * (7 - k)) * 256 := by
      rw [show 8 * (8 - k) = 8 * (7 - k) + 8 by omega, Nat.pow_add]
    have e2 : n / 2 ^ (8 * (8 - k)) = n / 2 ^ (8 * (7 - k)) / 256 := by rw [hx, Nat.div_div_eq_div_mul]
    have e3 : 8 * (8 - (k + 1)) = 8 * (7 - k) := by omega
    rw [e2, e3, hb]
    obtain ⟨y, hy⟩ : ∃ y, y = n / 2 ^ (8 * (7 - k)) := ⟨_, rfl⟩
    have hle : y ≤ n := hy ▸ Nat.div_le_self _ _
    rw [← hy]
    have w1 : IntKind.u64.wrap (((y / 256 : Nat) : Int) * 256) = ((y / 256 * 256 : Nat) : Int) := by rw [IntKind.wrap_u64]; omega
    have w2 : IntKind.u64.wrap ((y % 256 : Nat) : Int) = ((y % 256 : Nat) : Int) := by rw [IntKind.wrap_u64]; omega
    rw [w1, w2, or_nat _ _ (by omega) (by omega), or_byte _ _ (by omega)]
    congr 1
    omega
theorem of8_bytes (n : Nat) (hn : n < 18446744073709551616) : of8I (bytesI (n : Int)) = ((n : Int), 0) := by
  unfold of8I bytesI
  rw [if_pos (preBytes_length _ _), fold8_pre n hn 8 (by decide)]
  simp

/-- The label of a list of categories, bit by bit. -/
def orN (zs : List Nat) : Nat := zs.foldl (fun a k => a ||| 2 ^ k) 0
theorem orN_snoc (zs : List Nat) (k : Nat) : orN (zs ++ [k]) = orN zs ||| 2 ^ k := by simp [orN]
theorem orN_foldl (zs : List Nat) (a i : Nat) : (zs.foldl (fun a k => a ||| 2 ^ k) a).testBit i = (a.testBit i || decide (i ∈ zs)) := by
  induction zs generalizing a with
  | nil => simp
  | cons z zs ih =>
    rw [List.foldl_cons, ih, Nat.testBit_or, Nat.testBit_two_pow]
    cases a.testBit i <;> simp [List.mem_cons, eq_comm]
theorem orN_bit (zs : List Nat) (i : Nat) : (orN zs).testBit i = decide (i ∈ zs) := by
  unfold orN; rw [orN_foldl]; simp
theorem orN_cats (n : Nat) (hn : n < 18446744073709551616) : orN (cats n) = n := by
  apply Nat.eq_of_testBit_eq
  intro i
  rw [orN_bit]
  unfold cats
  by_cases hi : i < 64
  · cases h : n.testBit i <;> simp [hi, h]
  · have : n.testBit i = false := Nat.testBit_lt_two_pow (Nat.lt_of_lt_of_le hn (by rw [show (18446744073709551616 : Nat) = 2 ^ 64 by decide]; exact Nat.pow_le_pow_right (by decide) (by omega)))
    rw [this]; simp [hi]
theorem bitOf_nat (k : Nat) (hk : k < 64) : bitOf (k : Int) = ((2 ^ k : Nat) : Int) := by
  unfold bitOf
  have h : 2 ^ k < 2 ^ 64 := Nat.pow_lt_pow_right (by decide) hk
  rw [show (18446744073709551616 : Int) = ((2 ^ 64 : Nat) : Int) by decide, Int.toNat_natCast, show ((2 : Int) ^ k) = ((2 ^ k : Nat) : Int) by simp, ← Int.natCast_emod, Nat.mod_eq_of_lt h]
theorem orN_lt (zs : List Nat) (h : ∀ k ∈ zs, k < 64) : orN zs < 18446744073709551616 := by
  rw [show (18446744073709551616 : Nat) = 2 ^ 64 by decide]
  apply Nat.lt_pow_two_of_testBit
  intro i hi
  rw [orN_bit, decide_eq_false_iff_not]
  intro hm
  have := h i hm
  omega
theorem orAll_nat (zs : List Nat) (h : ∀ k ∈ zs, k < 64) : ∀ a : Nat, a < 18446744073709551616 → (zs.map fun (k : Nat) => (k : Int)).foldl (fun a c => bits .or .u64 a (bitOf c)) (a : Int) = ((zs.foldl (fun a k => a ||| 2 ^ k) a : Nat) : Int) := by
  induction zs with
  | nil => intro a _; rfl
  | cons z zs ih =>
    intro a ha
    have hz := h z (by simp)
    have h2 : 2 ^ z < 18446744073709551616 := by
      rw [show (18446744073709551616 : Nat) = 2 ^ 64 by decide]; exact Nat.pow_lt_pow_right (by decide) hz
    rw [List.map_cons, List.foldl_cons, List.foldl_cons, bitOf_nat z hz, or_nat _ _ ha h2]
    exact ih (fun k hk => h k (by simp [hk])) _ (by
      rw [show (18446744073709551616 : Nat) = 2 ^ 64 by decide] at ha h2 ⊢
      exact Nat.or_lt_two_pow ha h2)
theorem of_cats (n : Nat) (hn : n < 18446744073709551616) : ofI (catsI (n : Int)) = ((n : Int), 0) := by
  have hk : ∀ k ∈ cats n, k < 64 := fun k hk => by simpa using (List.mem_filter.1 hk).1
  rw [catsI_nat n hn]
  unfold ofI
  rw [if_pos]
  · have := orAll_nat (cats n) hk 0 (by decide)
    unfold orAll
    rw [show (0 : Int) = ((0 : Nat) : Int) from rfl, this]
    have h2 : (cats n).foldl (fun a k => a ||| 2 ^ k) 0 = n := orN_cats n hn
    rw [h2]
  · rw [List.all_eq_true]
    intro c hc
    obtain ⟨k, hk', rfl⟩ := List.mem_map.1 hc
    have := hk k hk'
    simp [isCat]; omega
end Go.Proofs.YtnlioeheogkkiaaDoor.Lb
