/- Walk: math/bits.OnesCount64, Count. -/
import Derived.Test.YtnlioeheogkkiaaDoorLabelA
import Derived.Test.YtnlioeheogkkiaaDoorOnes
namespace Go.Proofs.YtnlioeheogkkiaaDoor
open Go.RowKit
open Lb
def s1 (x : Int) : Int := IntKind.u64.wrap (bits .and .u64 (x / 2) 6148914691236517205 + bits .and .u64 x 6148914691236517205)
def s2 (x : Int) : Int := IntKind.u64.wrap (bits .and .u64 (x / 4) 3689348814741910323 + bits .and .u64 x 3689348814741910323)
def s3 (x : Int) : Int := bits .and .u64 (IntKind.u64.wrap (x / 16 + x)) 1085102592571150095
def s4 (x : Int) : Int := IntKind.u64.wrap (x + x / 256)
def s5 (x : Int) : Int := IntKind.u64.wrap (x + x / 65536)
def s6 (x : Int) : Int := IntKind.u64.wrap (x + x / 4294967296)
def s7 (x : Int) : Int := bits .and .i64 (wrap64 x) 127
theorem wraps64 (n : Int) (h0 : 0 ≤ n) (h1 : n < 18446744073709551616) : IntKind.u64.wrap n = n := by rw [IntKind.wrap_u64]; omega
theorem nat_and_le (a m : Nat) : a &&& m ≤ m := Nat.and_le_right
theorem s1_nat (n : Nat) (hn : n < 18446744073709551616) : s1 (n : Int) = (y1 n : Int) := by
  have h1 := nat_and_le (n / 2) 6148914691236517205
  have h2 := nat_and_le n 6148914691236517205
  unfold s1 y1
  rw [show ((n : Int) / 2) = ((n / 2 : Nat) : Int) from rfl, show (6148914691236517205 : Int) = ((6148914691236517205 : Nat) : Int) from rfl, and_nat _ _ (by omega) (by omega), and_nat _ _ (by omega) (by omega)]
  exact wraps64 _ (by omega) (by omega)
theorem y1_le (n : Nat) : y1 n ≤ 12297829382473034410 := by
  have h1 := nat_and_le (n / 2) 6148914691236517205
  have h2 := nat_and_le n 6148914691236517205
  unfold y1; omega
theorem s2_nat (n : Nat) (hn : n < 18446744073709551616) : s2 (n : Int) = (y2 n : Int) := by
  have h1 := nat_and_le (n / 4) 3689348814741910323
  have h2 := nat_and_le n 3689348814741910323
  unfold s2 y2
  rw [show ((n : Int) / 4) = ((n / 4 : Nat) : Int) from rfl, show (3689348814741910323 : Int) = ((3689348814741910323 : Nat) : Int) from rfl, and_nat _ _ (by omega) (by omega), and_nat _ _ (by omega) (by omega)]
  exact wraps64 _ (by omega) (by omega)
theorem y2_le (n : Nat) : y2 n ≤ 7378697629483820646 := by
  have h1 := nat_and_le (n / 4) 3689348814741910323
  have h2 := nat_and_le n 3689348814741910323
  unfold y2; omega
theorem s3_nat (n : Nat) (hn : n ≤ 7378697629483820646) : s3 (n : Int) = (y3 n : Int) := by
  unfold s3 y3
  rw [wraps64 _ (by omega) (by omega), show ((n : Int) / 16 + (n : Int)) = ((n / 16 + n : Nat) : Int) from rfl, show (1085102592571150095 : Int) = ((1085102592571150095 : Nat) : Int) from rfl, and_nat _ _ (by omega) (by omega)]
theorem y3_le (n : Nat) : y3 n ≤ 1085102592571150095 := nat_and_le _ _
theorem s4_nat (n : Nat) (hn : n ≤ 1085102592571150095) : s4 (n : Int) = (y4 n : Int) ∧ y4 n ≤ 1185102592571150095 := by
  unfold s4 y4
  exact ⟨wraps64 _ (by omega) (by omega), by omega⟩
theorem s5_nat (n : Nat) (hn : n ≤ 1185102592571150095) : s5 (n : Int) = (y5 n : Int) ∧ y5 n ≤ 1285102592571150095 := by
  unfold s5 y5
  exact ⟨wraps64 _ (by omega) (by omega), by omega⟩
theorem s6_nat (n : Nat) (hn : n ≤ 1285102592571150095) : s6 (n : Int) = (y6 n : Int) ∧ y6 n ≤ 1385102592571150095 := by
  unfold s6 y6
  exact ⟨wraps64 _ (by omega) (by omega), by omega⟩
theorem s7_nat (n : Nat) (hn : n ≤ 1385102592571150095) : s7 (n : Int) = ((n % 128 : Nat) : Int) := by
  unfold s7
  rw [show wrap64 (n : Int) = (n : Int) by unfold wrap64; omega]
  show IntKind.i64.wrap ((BitVec.ofInt 64 (n : Int) &&& BitVec.ofInt 64 ((127 : Nat) : Int)).toNat : Int) = _
  rw [BitVec.toNat_and, ofInt_u64 n (by omega), ofInt_u64 127 (by omega), show (127 : Nat) = 2 ^ 7 - 1 from rfl, Nat.and_two_pow_sub_one_eq_mod]
  have e : ((n % 2 ^ 7 : Nat) : Int) % 2 ^ 64 = ((n % 2 ^ 7 : Nat) : Int) := Int.emod_eq_of_lt (by omega) (by omega)
  simp only [IntKind.wrap, IntKind.bits, IntKind.signed, e]
  rw [if_neg]
  simp
  omega
theorem s_nat (n : Nat) (hn : n < 18446744073709551616) : s7 (s6 (s5 (s4 (s3 (s2 (s1 (n : Int))))))) = ((cats n).length : Int) := by
  have h1 := y1_le n
  have h2 := y2_le (y1 n)
  have h3 := y3_le (y2 (y1 n))
  have h4 := s4_nat _ h3
  have h5 := s5_nat _ h4.2
  have h6 := s6_nat _ h5.2
  rw [s1_nat n hn, s2_nat _ (by omega), s3_nat _ h2, h4.1, h5.1, h6.1, s7_nat _ h6.2, ones_nat n hn]
theorem ones_any (n : Int) (w : World) :
    Calls Tryd.prog 48 #[.int .u64 n] w fun e w' => e = .returned (.int .i64 (s7 (s6 (s5 (s4 (s3 (s2 (s1 n)))))))) ∧ w = w' := by
  go_enter Tryd.func48, Tryd.ntmps48
  go_wp2
  go_ret
  exact ⟨rfl, rfl⟩
/-- Count. -/
theorem count_any (n : Nat) (w : World) (hn : n < 18446744073709551616) :
    Calls Tryd.prog 21 #[.int .u64 (n : Int)] w fun e w' => e = .returned (.int .i64 ((cats n).length : Int)) ∧ w = w' := by
  rw [← s_nat n hn]
  have hs := Lib.hid (s_nat n hn)
  obtain ⟨k, hk⟩ : ∃ k, k = s7 (s6 (s5 (s4 (s3 (s2 (s1 (n : Int))))))) := ⟨_, rfl⟩
  rw [← hk] at hs ⊢
  have Hk := Lib.hid hk
  clear hk
  go_enter Tryd.func21, Tryd.ntmps21
  go_wp2_with (go_at_call 48; refine (ones_any _ _).mono ?_; rintro e w' ⟨rfl, rfl⟩; rw [← Hk.out])
  go_ret
  exact ⟨rfl, rfl⟩
end Go.Proofs.YtnlioeheogkkiaaDoor
