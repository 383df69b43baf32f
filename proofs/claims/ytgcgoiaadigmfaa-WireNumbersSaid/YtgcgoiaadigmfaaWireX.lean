/- Walk: WireNumbers. -/
import Derived.Test.YtgcgoiaadigmfaaWireSize
import Derived.Test.YtgcgoiaadigmfaaWireV
namespace Go.Proofs.Ytgcgoiaadigmfaa
open Go.RowKit
open Wr

theorem put8 (k x : Nat) (hk : isSz k = true) (hx : x < 256 ^ k) (w : World) :
    Calls Try.prog 29 #[.agg #[.string ⟨#[]⟩, .int .i64 8, .int .i64 0], .int .i64 k, .int .u64 (x : Int)] w fun e w' => e = .returned (.agg #[.string (strOf (digI x k)), .int .i64 8, .int .i64 0]) ∧ Below w.heap.size w w' := by
  have h := put_any ⟨⟨#[]⟩, 8, 0⟩ k x w
  have hk8 : k ≤ 8 := by have := isSz_iff.1 hk; omega
  rw [show putW ⟨⟨#[]⟩, 8, 0⟩ k x = ⟨strOf (digI x k), 8, 0⟩ from putW_new 8 k x (by decide) hk hk8 hx] at h
  exact h
theorem done8 (s : ByteArray) (hs : s.size ≤ 8) (w : World) :
    Calls Try.prog 37 #[.agg #[.string s, .int .i64 8, .int .i64 0]] w fun e w' => e = .returned (.tuple #[.string s, .int .i64 0]) ∧ Below w.heap.size w w' := by
  have h := done_any ⟨s, 8, 0⟩ w
  rw [show doneW ⟨s, 8, 0⟩ = (s, 0) from doneW_ok s 8 (by decide) hs] at h
  exact h

/-- The first j bytes of a number, in their places. -/
def pS (x n j : Nat) : Nat := numOf ((digI x n).take j) * 256 ^ (n - j)
theorem pS_lt (x n j : Nat) (hj : j ≤ n) (hn : n ≤ 8) : pS x n j < 18446744073709551616 := by
  unfold pS
  have h1 := numOf_lt ((digI x n).take j)
  rw [List.length_take, digI_length, Nat.min_eq_left hj] at h1
  have h2 : numOf ((digI x n).take j) * 256 ^ (n - j) < 256 ^ j * 256 ^ (n - j) := Nat.mul_lt_mul_of_pos_right h1 (Nat.pow_pos (by decide))
  rw [← Nat.pow_add, show j + (n - j) = n by omega] at h2
  have h3 := pow_le hn
  have e : (256 : Nat) ^ 8 = 18446744073709551616 := rfl
  omega
theorem pS_succ (x n j : Nat) (hj : j < n) (b : UInt8) (hb : (digI x n)[j]? = some b) : pS x n (j + 1) = pS x n j + b.toNat * 256 ^ (n - 1 - j) := by
  unfold pS
  obtain ⟨h1, h2⟩ := List.getElem?_eq_some_iff.1 hb
  rw [take_snoc _ j h1, h2, numOf_snoc, Nat.add_mul, show n - (j + 1) = n - 1 - j by omega, show n - j = (n - 1 - j) + 1 by omega, Nat.pow_succ]
  congr 1
  rw [Nat.mul_comm 256, Nat.mul_assoc, Nat.mul_comm 256]
theorem pS_all (x n : Nat) (hx : x < 256 ^ n) : pS x n n = x := by
  unfold pS
  rw [List.take_of_length_le (by rw [digI_length]; exact Nat.le_refl _), numOf_digI, Nat.mod_eq_of_lt hx, Nat.sub_self]
  simp
set_option maxHeartbeats 2000000 in
theorem numbers_any (a b : Nat) (k : Int) (w : World) (ha : a < 18446744073709551616) (hb : b < 18446744073709551616) :
    Calls Try.prog 8 #[.int .u64 (a : Int), .int .u64 (b : Int), .int .i64 k] w fun e w' => e = .returned (.bool true) ∧ Below w.heap.size w w' := by
  obtain ⟨n, hn⟩ : ∃ n, n = szI k := ⟨_, rfl⟩
  obtain ⟨x, hxd⟩ : ∃ x, x = a % 256 ^ szI k := ⟨_, rfl⟩
  obtain ⟨y, hyd⟩ : ∃ y, y = b % 256 ^ szI k := ⟨_, rfl⟩
  have hn8 : n = 1 ∨ n = 2 ∨ n = 4 ∨ n = 8 := by rw [hn]; rcases szI_cases k with h | h | h | h <;> omega
  have hz : isSz n = true := isSz_iff.2 (by omega)
  have hx : x < 256 ^ n := by rw [hxd, ← hn]; exact Nat.mod_lt _ (Nat.pow_pos (by decide))
  have hy : y < 256 ^ n := by rw [hyd, ← hn]; exact Nat.mod_lt _ (Nat.pow_pos (by decide))
  obtain ⟨sx, hsd⟩ : ∃ s, s = strOf (digI x n) := ⟨_, rfl⟩
  obtain ⟨sy, htd⟩ : ∃ s, s = strOf (digI y n) := ⟨_, rfl⟩
  have hsx : sx.size = n := by rw [hsd, strOf_size, digI_length]
  have hsy : sy.size = n := by rw [htd, strOf_size, digI_length]
  have hS1 := fun w => size_any k a ha w
  have hS2 := fun w => size_any k b hb w
  rw [← hn] at hS1 hS2 hxd hyd
  rw [← hxd] at hS1
  rw [← hyd] at hS2
  have hP1 := fun w => put8 n x hz hx w
  have hP2 := fun w => put8 n y hz hy w
  rw [← hsd] at hP1
  rw [← htd] at hP2
  have hD1 := fun w => done8 sx (by omega) w
  have hD2 := fun w => done8 sy (by omega) w
  have hbx : ((sx.size : Int) != (n : Int)) = false := by simp [hsx]
  have hby : ((sy.size : Int) != (n : Int)) = false := by simp [hsy]
  have HSD := Lib.hid hsd
  have HTD := Lib.hid htd
  have HSX := Lib.hid hsx
  have hn1 : 1 ≤ n := by omega
  have hn2 : n ≤ 8 := by omega
  clear hn hxd hyd hsd htd hsx hsy hz hn8
  go_enter Try.func8, Try.ntmps8
  go_wp2_with fail
  refine named fun W1 hW => ?_
  have hB : Below w.heap.size w W1 := by rw [hW]; exact (Below.refl _ _)
  clear hW
  refine (known_any _).mono ?_
  rintro e w2 ⟨rfl, hb⟩
  replace hB := bstep hB hb
  clear hb
  go_wp2_with fail
  refine (hS1 _).mono ?_
  rintro e w' ⟨rfl, rfl⟩
  go_wp2_with fail
  refine (hS2 _).mono ?_
  rintro e w' ⟨rfl, rfl⟩
  go_wp2_with fail
  refine (k_make8 _).mono ?_
  rintro e w3 ⟨rfl, hb⟩
  replace hB := bstep hB hb
  clear hb
  go_wp2_with fail
  refine (hP1 _).mono ?_
  rintro e w4 ⟨rfl, hb⟩
  replace hB := bstep hB hb
  clear hb
  go_wp2_with fail
  refine (hD1 _).mono ?_
  rintro e w5 ⟨rfl, hb⟩
  replace hB := bstep hB hb
  clear hb
  go_wp2_with fail
  refine (k_make8 _).mono ?_
  rintro e w6 ⟨rfl, hb⟩
  replace hB := bstep hB hb
  clear hb
  go_wp2_with fail
  refine (hP2 _).mono ?_
  rintro e w7 ⟨rfl, hb⟩
  replace hB := bstep hB hb
  clear hb
  go_wp2_with fail
  refine (hD2 _).mono ?_
  rintro e w8 ⟨rfl, hb⟩
  replace hB := bstep hB hb
  clear hb
  go_wp2
  go_loop [16, 17] (fun t i => ∃ j : Nat, j ≤ n ∧ i = .int .i64 j ∧ t = .int .u64 ((pS x n j : Nat) : Int)) (fun _ i => n - (intOf i).toNat)
  case atStart => exact ⟨0, by omega, rfl, by rw [show pS x n 0 = 0 by simp [pS, numOf]]; rfl⟩
  case round =>
    obtain ⟨j, hj, rfl, rfl⟩ := hrel
    by_cases hlt : j < n
    · have hjs : j < sx.size := by rw [HSX.out]; exact hlt
      have hb2 := sx[j].toNat_lt
      have hps := pS_lt x n j hj hn2
      have hget : (digI x n)[j]? = some sx[j] := by
        have h1 : sx.data.toList = digI x n := by rw [HSD.out]; rfl
        rw [← h1, List.getElem?_eq_getElem (by simpa using hjs)]
        rfl
      have hnew := Lib.hid (show IntKind.u64.wrap (((pS x n j : Nat) : Int) + IntKind.u64.wrap ((sx[j].toNat : Int) * 2 ^ (8 * (n - 1 - j)))) = ((pS x n (j + 1) : Nat) : Int) by
        have h1 := pS_succ x n j hlt sx[j] hget
        have h2 := pS_lt x n (j + 1) (by omega) hn2
        have e : (sx[j].toNat : Int) * 2 ^ (8 * (n - 1 - j)) = ((sx[j].toNat * 256 ^ (n - 1 - j) : Nat) : Int) := by
          rw [Int.pow_mul]; simp
        rw [e, IntKind.wrap_u64, IntKind.wrap_u64]
        omega)
      clear hget
      go_wp2
      go_round
      case rel => exact ⟨j + 1, by omega, by go_num, by rw [hnew.out]⟩
      case measure => simp [intOf]; omega
    · obtain rfl : j = n := by omega
      rw [pS_all x j hx]
      have h1 : sx.toList = digI x j := by rw [ByteArray.toList_eq, HSD.out]; rfl
      have h2 : sy.toList = digI y j := by rw [ByteArray.toList_eq, HTD.out]; rfl
      have hl := less_digI j x y hx hy
      have he := eq_digI j x y hx hy
      rw [← h1, ← h2] at hl he
      clear h1 h2
      rcases Nat.lt_trichotomy x y with hc | hc | hc
      · have hl2 : Op.bytesLess sx.toList sy.toList = true := by rw [hl]; simpa using hc
        have he2 : (sx.toList == sy.toList) = false := by rw [he]; simp; omega
        have hne : ((x : Int) == (y : Int)) = false := by simp; omega
        have hll : (x : Int) < (y : Int) := by omega
        clear hl he
        go_wp2
        go_ret
        exact ⟨by first | rfl | simp, hB⟩
      · have hl2 : Op.bytesLess sx.toList sy.toList = false := by rw [hl]; simp; omega
        have he2 : (sx.toList == sy.toList) = true := by rw [he]; simpa using hc
        subst hc
        clear hl he
        go_wp2
        go_ret
        exact ⟨by first | rfl | simp, hB⟩
      · have hl2 : Op.bytesLess sx.toList sy.toList = false := by rw [hl]; simp; omega
        have he2 : (sx.toList == sy.toList) = false := by rw [he]; simp; omega
        have hne : ((x : Int) == (y : Int)) = false := by simp; omega
        have hll : ¬ (x : Int) < (y : Int) := by omega
        clear hl he
        go_wp2
        go_ret
        exact ⟨by first | rfl | simp, hB⟩
end Go.Proofs.Ytgcgoiaadigmfaa
