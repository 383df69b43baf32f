/- Walks: numbers and their bytes. -/
import Derived.Test.YtgcgoiaadigmfaaWireA
import Derived.Test.YtgcgoiaadigmfaaWireMath
import Derived.IntWalk
namespace Go.Proofs.Ytgcgoiaadigmfaa
open Go.RowKit
open Wr

theorem wrapb (b : UInt8) : IntKind.u64.wrap (b.toNat : Int) = (b.toNat : Int) := by have := b.toNat_lt; rw [IntKind.wrap_u64]; omega
theorem wrapbI (b : UInt8) : IntKind.i64.wrap (b.toNat : Int) = (b.toNat : Int) := by have := b.toNat_lt; rw [IntKind.wrap_i64]; omega
theorem numU_any (s : ByteArray) (w : World) (hs : s.size ≤ 8) :
    Calls Try.prog 75 #[.string s] w fun e w' => e = .returned (.int .u64 (numOf s.data.toList)) ∧ w = w' := by
  go_enter Try.func75, Try.ntmps75
  go_wp2
  go_loop [3, 7] (fun t i => ∃ k : Nat, k ≤ s.size ∧ i = .int .i64 k ∧ t = .int .u64 (numOf (s.data.toList.take k))) (fun _ i => s.size - (intOf i).toNat)
  case atStart => exact ⟨0, by omega, rfl, rfl⟩
  case round =>
    obtain ⟨k, hk, rfl, rfl⟩ := hrel
    by_cases hlt : k < s.size
    · have hn := Lib.hid (show (numOf (s.data.toList.take (k + 1)) : Int) = bits .or .u64 (IntKind.u64.wrap ((numOf (s.data.toList.take k) : Int) * 256)) (IntKind.u64.wrap (s[k].toNat : Int)) by
        rw [bytes_take s k hlt, numOf_snoc, wrapb, stepU _ _ (numOf_take_lt _ k 7 (by omega)) s[k].toNat_lt])
      go_wp2
      go_round
      case rel => exact ⟨k + 1, by omega, by go_num, by rw [hn.out]⟩
      case measure => simp [intOf]; omega
    · go_wp2
      go_ret
      exact ⟨by rw [List.take_of_length_le (by rw [bytes_size]; omega)]; rfl, rfl⟩
theorem numI64_any (s : ByteArray) (w : World) (hs : s.size ≤ 8) :
    Calls Try.prog 76 #[.string s] w fun e w' => e = .returned (.int .i64 (IntKind.i64.wrap (numOf s.data.toList))) ∧ w = w' := by
  go_enter Try.func76, Try.ntmps76
  go_wp2
  go_loop [3, 7] (fun t i => ∃ k : Nat, k ≤ s.size ∧ i = .int .i64 k ∧ t = .int .i64 (IntKind.i64.wrap (numOf (s.data.toList.take k)))) (fun _ i => s.size - (intOf i).toNat)
  case atStart => exact ⟨0, by omega, rfl, rfl⟩
  case round =>
    obtain ⟨k, hk, rfl, rfl⟩ := hrel
    by_cases hlt : k < s.size
    · have hw := numOf_take_lt s.data.toList k 7 (by omega)
      have hn := Lib.hid (show IntKind.i64.wrap (numOf (s.data.toList.take (k + 1)) : Int) = bits .or .i64 (IntKind.i64.wrap ((numOf (s.data.toList.take k) : Int) * 256)) (IntKind.i64.wrap (s[k].toNat : Int)) by
        rw [bytes_take s k hlt, numOf_snoc, wrapbI, stepI _ _ hw s[k].toNat_lt])
      have he : IntKind.i64.wrap (numOf (s.data.toList.take k) : Int) = (numOf (s.data.toList.take k) : Int) := by rw [IntKind.wrap_i64]; omega
      rw [he]
      clear hw he
      go_wp2
      go_round
      case rel => exact ⟨k + 1, by omega, by go_num, by rw [hn.out, IntWalk.i64_left, IntWalk.i64_left]⟩
      case measure => simp [intOf]; omega
    · go_wp2
      go_ret
      exact ⟨by rw [List.take_of_length_le (by rw [bytes_size]; omega)]; rfl, rfl⟩
theorem numInt_any (s : ByteArray) (w : World) (hs : s.size ≤ 8) :
    Calls Try.prog 81 #[.string s] w fun e w' => e = .returned (.int .i64 (IntKind.i64.wrap (numOf s.data.toList))) ∧ w = w' := by
  go_enter Try.func81, Try.ntmps81
  go_wp2
  go_loop [3, 7] (fun t i => ∃ k : Nat, k ≤ s.size ∧ i = .int .i64 k ∧ t = .int .i64 (IntKind.i64.wrap (numOf (s.data.toList.take k)))) (fun _ i => s.size - (intOf i).toNat)
  case atStart => exact ⟨0, by omega, rfl, rfl⟩
  case round =>
    obtain ⟨k, hk, rfl, rfl⟩ := hrel
    by_cases hlt : k < s.size
    · have hw := numOf_take_lt s.data.toList k 7 (by omega)
      have hn := Lib.hid (show IntKind.i64.wrap (numOf (s.data.toList.take (k + 1)) : Int) = bits .or .i64 (IntKind.i64.wrap ((numOf (s.data.toList.take k) : Int) * 256)) (IntKind.i64.wrap (s[k].toNat : Int)) by
        rw [bytes_take s k hlt, numOf_snoc, wrapbI, stepI _ _ hw s[k].toNat_lt])
      have he : IntKind.i64.wrap (numOf (s.data.toList.take k) : Int) = (numOf (s.data.toList.take k) : Int) := by rw [IntKind.wrap_i64]; omega
      rw [he]
      clear hw he
      go_wp2
      go_round
      case rel => exact ⟨k + 1, by omega, by go_num, by rw [hn.out, IntWalk.i64_left, IntWalk.i64_left]⟩
      case measure => simp [intOf]; omega
    · go_wp2
      go_ret
      exact ⟨by rw [List.take_of_length_le (by rw [bytes_size]; omega)]; rfl, rfl⟩
theorem isSize_any (n : Int) (w : World) :
    Calls Try.prog 63 #[.int .i64 n] w fun e w' => e = .returned (.bool (isSz n)) ∧ w = w' := by
  cases h1 : n == 1 <;> cases h2 : n == 2 <;> cases h3 : n == 4 <;> cases h4 : n == 8
  all_goals
    go_enter Try.func63, Try.ntmps63
    go_wp2
    go_ret
    exact ⟨ret_bool (by unfold isSz; simp at h1 h2 h3 h4; first | (simp [h1, h2, h3, h4]; done) | (subst_vars; simp; done) | (subst_vars; rfl) | skip), rfl⟩
theorem isSize_is {n : Int} {b : Bool} (h : isSz n = b) (w : World) :
    Calls Try.prog 63 #[.int .i64 n] w fun e w' => e = .returned (.bool b) ∧ w = w' := h ▸ isSize_any n w
theorem fits_any (n size : Int) (w : World) (hs : 0 ≤ size) (hs' : size ≤ 8) :
    Calls Try.prog 64 #[.int .u64 n, .int .i64 size] w fun e w' => e = .returned (.bool (n / 2 ^ (8 * size).toNat == 0)) ∧ w = w' := by
  go_enter Try.func64, Try.ntmps64
  go_wp2
  go_ret
  exact ⟨ret_bool (by simp), rfl⟩
end Go.Proofs.Ytgcgoiaadigmfaa
