/- Walk: the size of the statements, a number made of a number; one number written and handed over. -/
import Derived.Test.YtgcgoiaadigmfaaKitMod
import Derived.Test.YtgcgoiaadigmfaaWireNum
import Derived.Test.YtgcgoiaadigmfaaWireS
namespace Go.Proofs.Ytgcgoiaadigmfaa
open Go.RowKit
open Wr

/-- A size made of a number. -/
def szI (k : Int) : Nat := 2 ^ (k % 4).toNat
theorem szI_cases (k : Int) : k % 4 = 0 ∧ szI k = 1 ∨ k % 4 = 1 ∧ szI k = 2 ∨ k % 4 = 2 ∧ szI k = 4 ∨ k % 4 = 3 ∧ szI k = 8 := by
  unfold szI
  have : k % 4 = 0 ∨ k % 4 = 1 ∨ k % 4 = 2 ∨ k % 4 = 3 := by omega
  rcases this with h | h | h | h <;> rw [h] <;> simp
theorem mask1 (n : Nat) (hn : n < 18446744073709551616) : bits .and .u64 (n : Int) 255 = ((n % 256 ^ 1 : Nat) : Int) := by
  have h := u64_and_nat n 255 hn (by decide)
  rw [nat_mask8] at h
  exact h
theorem mask2 (n : Nat) (hn : n < 18446744073709551616) : bits .and .u64 (n : Int) 65535 = ((n % 256 ^ 2 : Nat) : Int) := by
  have h := u64_and_nat n 65535 hn (by decide)
  rw [show n &&& 65535 = n % 65536 from Nat.and_two_pow_sub_one_eq_mod n 16] at h
  exact h
theorem mask4 (n : Nat) (hn : n < 18446744073709551616) : bits .and .u64 (n : Int) 4294967295 = ((n % 256 ^ 4 : Nat) : Int) := by
  have h := u64_and_nat n 4294967295 hn (by decide)
  rw [show n &&& 4294967295 = n % 4294967296 from Nat.and_two_pow_sub_one_eq_mod n 32] at h
  exact h
theorem tup2 {a b c d : Value} (h1 : a = c) (h2 : b = d) : Ending.returned (.tuple #[a, b]) = .returned (.tuple #[c, d]) := by rw [h1, h2]
theorem size_any (k : Int) (n : Nat) (hn : n < 18446744073709551616) (w : World) :
    Calls Try.prog 43 #[.int .i64 k, .int .u64 n] w fun e w' => e = .returned (.tuple #[.int .i64 (szI k), .int .u64 ((n % 256 ^ szI k : Nat) : Int)]) ∧ w = w' := by
  rcases szI_cases k with ⟨hk, hs⟩ | ⟨hk, hs⟩ | ⟨hk, hs⟩ | ⟨hk, hs⟩
  all_goals
    rw [hs]
    clear hs
    have HK := Lib.hid hk
    clear hk
    go_enter Try.func43, Try.ntmps43
    go_wp2_with (go_at_call 72; refine (mod_any k 4 _ (by decide) (by decide)).mono ?_; rintro e w' ⟨rfl, rfl⟩; rw [HK.out])
  · go_ret2
    exact ⟨tup2 rfl (by rw [← mask1 n hn]; rfl), rfl⟩
  · go_ret2
    exact ⟨tup2 rfl (by rw [← mask2 n hn]; rfl), rfl⟩
  · go_ret2
    exact ⟨tup2 rfl (by rw [← mask4 n hn]; rfl), rfl⟩
  · go_ret2
    exact ⟨tup2 rfl (by rw [show n % 256 ^ 8 = n from Nat.mod_eq_of_lt (by omega)]; rfl), rfl⟩

theorem append_empty (s : ByteArray) : (⟨#[]⟩ : ByteArray) ++ s = s := by
  apply ByteArray.ext
  rw [ByteArray.data_append]
  simp
theorem flat_one (l : List UInt8) : flat [strOf l] = l := by simp [flat, strOf]
/-- A number that fits is written behind nothing. -/
theorem putW_new (m k x : Nat) (hm : m ≤ 20000) (hk : isSz k = true) (hkm : k ≤ m) (hx : x < 256 ^ k) : putW ⟨⟨#[]⟩, m, 0⟩ k x = ⟨strOf (digI x k), m, 0⟩ := by
  have ho : Wt.opened ⟨⟨#[]⟩, m, 0⟩ = ⟨0, m, 0, 0, ⟨#[]⟩⟩ := by
    unfold Wt.opened
    rw [if_pos (wsoundI.2 ⟨by show (0 : Int) ≤ m; omega, by show (m : Int) ≤ 20000; omega, by show (0 : Int) ≤ m; omega, by decide, by decide⟩)]
    rfl
  unfold putW
  rw [Int.toNat_natCast, if_pos ⟨hk, by rw [fits_nat]; exact decide_eq_true (Nat.mod_eq_of_lt hx)⟩, ho]
  have ht : total [strOf (digI x k)] = k := by simp [total, strOf_size, digI_length]
  unfold Sp.add
  rw [if_neg (fun h => h rfl), if_neg (by rw [ht]; simp; omega), flat_one, append_empty]
  rfl
theorem doneW_ok (s : ByteArray) (m : Nat) (hm : m ≤ 20000) (hs : s.size ≤ m) : doneW ⟨s, m, 0⟩ = (s, 0) := by
  have ho : Wt.opened ⟨s, m, 0⟩ = ⟨s.size, m, 0, 0, s⟩ := by
    unfold Wt.opened
    rw [if_pos (wsoundI.2 ⟨by show (0 : Int) ≤ m; omega, by show (m : Int) ≤ 20000; omega, by show (s.size : Int) ≤ m; omega, by decide, by decide⟩)]
    rfl
  unfold doneW
  rw [ho]
  rfl
end Go.Proofs.Ytgcgoiaadigmfaa
