/- Walks: cuts of numbers, the program's and the reference's. -/
import Derived.Test.YtlembnpplnbagaaDoorSumA
namespace Go.Proofs.YtlembnpplnbagaaDoor
open Go.RowKit Go.Shelf
open Sm

def inB (bits : Int) : Bool := decide (1 ≤ bits) && decide (bits ≤ 64)
def cutN (n bits : Int) : Int := if inB bits = true then cutI n (64 - bits).toNat else 0
def cutS (n bits : Int) : Bool := if inB bits = true then cutI n (64 - bits).toNat == n else false
def cutE (bits : Int) : Int := if inB bits = true then 0 else 2
theorem inB_iff {bits : Int} : inB bits = true ↔ 1 ≤ bits ∧ bits ≤ 64 := by simp [inB]
theorem cut_any (n bits : Int) (w : World) : Calls Tryd.prog 19 #[.int .i64 n, .int .i64 bits] w fun e w' => e = .returned (.tuple #[.int .i64 (cutN n bits), .bool (cutS n bits), .int .i64 (cutE bits)]) ∧ w = w' := by
  by_cases h : inB bits = true
  · obtain ⟨h1, h2⟩ := inB_iff.1 h
    unfold cutN cutS cutE
    rw [if_pos h, if_pos h, if_pos h]
    obtain ⟨k, hk⟩ : ∃ k : Nat, k = (64 - bits).toNat := ⟨_, rfl⟩
    rw [← hk]
    obtain rfl : bits = 64 - (k : Int) := by omega
    have HKK := Lib.hid (show 64 - (64 - k) = k by omega)
    have HC := Lib.hid (show wrap64 (n * 2 ^ k) / 2 ^ k = cutI n k by unfold cutI; rw [IntWalk.i64_left])
    have hk' : k ≤ 63 := by omega
    clear h hk
    go_enter Tryd.func19, Tryd.ntmps19
    go_wp2
    go_ret3
    refine ⟨?_, rfl⟩
    show Ending.returned (.tuple #[.int .i64 (wrap64 (n * 2 ^ (64 - (64 - k))) / 2 ^ (64 - (64 - k))), .bool (wrap64 (n * 2 ^ (64 - (64 - k))) / 2 ^ (64 - (64 - k)) == n), .int .i64 0]) = _
    rw [HKK.out, HC.out]
  · have hn : ¬ (1 ≤ bits ∧ bits ≤ 64) := fun e => h (inB_iff.2 e)
    unfold cutN cutS cutE
    rw [if_neg h, if_neg h, if_neg h]
    clear h
    by_cases h1 : bits < 1
    · clear hn
      go_enter Tryd.func19, Tryd.ntmps19
      go_wp2
      go_ret3
      exact ⟨rfl, rfl⟩
    · have h2 : 64 < bits := by omega
      clear hn
      go_enter Tryd.func19, Tryd.ntmps19
      go_wp2
      go_ret3
      exact ⟨rfl, rfl⟩
theorem refCut_any (n bits : Int) (w : World) : Calls Tryd.prog 20 #[.int .i64 n, .int .i64 bits] w fun e w' => e = .returned (.tuple #[.int .i64 (cutN n bits), .bool (cutS n bits), .int .i64 (cutE bits)]) ∧ w = w' := by
  by_cases h : inB bits = true
  · obtain ⟨h1, h2⟩ := inB_iff.1 h
    unfold cutN cutS cutE
    rw [if_pos h, if_pos h, if_pos h]
    obtain ⟨k, hk⟩ : ∃ k : Nat, k = (64 - bits).toNat := ⟨_, rfl⟩
    rw [← hk]
    obtain rfl : bits = 64 - (k : Int) := by omega
    have HKK := Lib.hid (show 64 - (64 - k) = k by omega)
    have hu : IntKind.u64.wrap (64 - (64 - (k : Int))) = (k : Int) := by rw [IntWalk.u64_in _ ⟨by omega, by omega⟩]; omega
    have hu2 : IntKind.u64.wrap (k : Int) = (k : Int) := IntWalk.u64_in _ ⟨by omega, by omega⟩
    have hc := cut_u n k
    rw [IntWalk.i64_left] at hc
    obtain ⟨ux, hux⟩ : ∃ x, x = IntKind.u64.wrap n := ⟨_, rfl⟩
    obtain ⟨uy, huy⟩ : ∃ x, x = IntKind.u64.wrap (ux * 2 ^ k) := ⟨_, rfl⟩
    rw [← hux, ← huy] at hc
    have hc2 : wrap64 uy / 2 ^ k = cutI n k := by unfold cutI; rw [hc]
    have hk' : k ≤ 63 := by omega
    replace hux := hux.symm
    replace huy := huy.symm
    clear h hk hc
    go_enter Tryd.func20, Tryd.ntmps20
    go_wp2
    go_ret3
    exact ⟨rfl, rfl⟩
  · have hn : ¬ (1 ≤ bits ∧ bits ≤ 64) := fun e => h (inB_iff.2 e)
    unfold cutN cutS cutE
    rw [if_neg h, if_neg h, if_neg h]
    clear h
    by_cases h1 : bits < 1
    · clear hn
      go_enter Tryd.func20, Tryd.ntmps20
      go_wp2
      go_ret3
      exact ⟨rfl, rfl⟩
    · have h2 : 64 < bits := by omega
      clear hn
      go_enter Tryd.func20, Tryd.ntmps20
      go_wp2
      go_ret3
      exact ⟨rfl, rfl⟩
end Go.Proofs.YtlembnpplnbagaaDoor
