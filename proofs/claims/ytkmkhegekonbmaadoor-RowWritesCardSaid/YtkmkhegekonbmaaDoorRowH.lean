/- Walks: the reference's two digits of a byte. -/
import Derived.Test.YtkmkhegekonbmaaDoorRowG
namespace Go.Proofs.YtkmkhegekonbmaaDoor
open Go.RowKit
open Rw6

def hexS : ByteArray := ⟨#[48, 49, 50, 51, 52, 53, 54, 55, 56, 57, 97, 98, 99, 100, 101, 102]⟩
theorem hex_cut (k : Nat) (h : k < 16) : hexS.extract k (k + 1) = strOf [hexD k] := by
  have : ∀ i : Fin 16, hexS.extract i.val (i.val + 1) = strOf [hexD i.val] := by decide +kernel
  exact this ⟨k, h⟩
theorem strOf_app (a b : List UInt8) : strOf (a ++ b) = strOf a ++ strOf b := by
  apply ByteArray.ext
  simp [strOf]
def twoG (b : UInt8) : List UInt8 := [hexD (b.toNat / 16), hexD (b.toNat % 16)]
set_option maxRecDepth 100000 in
set_option maxHeartbeats 2000000 in
theorem refTwo_any (b : UInt8) (w : World) :
    Calls Tryd.prog 41 #[.int .u8 (b.toNat : Int)] w fun e w' => e = .returned (.string (strOf (twoG b))) ∧ ∃ m, w' = w.drewN m := by
  have hb := UInt8.toNat_lt b
  have hsum : ∀ w, (Op.stringOp .add (hexS.extract (b.toNat / 16) (b.toNat / 16 + 1)) (hexS.extract (b.toNat % 16) (b.toNat % 16 + 1))).run Tryd.prog w = .ok (.string (strOf (twoG b))) w := fun w => by
    rw [hex_cut _ (by omega), hex_cut _ (by omega)]
    have e : strOf (twoG b) = strOf [hexD (b.toNat / 16)] ++ strOf [hexD (b.toNat % 16)] := by rw [← strOf_app]; rfl
    rw [e]
    exact run_string_add_sum w _ _ (by rw [strOf_size, strOf_size]; show 1 + 1 ≤ _; omega)
  obtain ⟨h, hh⟩ : ∃ h : Nat, h = b.toNat / 16 := ⟨_, rfl⟩
  obtain ⟨l, hl⟩ : ∃ l : Nat, l = b.toNat % 16 := ⟨_, rfl⟩
  obtain ⟨R, hR⟩ : ∃ D, D = strOf (twoG b) := ⟨_, rfl⟩
  obtain ⟨c, hc⟩ : ∃ c : Int, c = (b.toNat : Int) := ⟨_, rfl⟩
  rw [← hh, ← hl, ← hR] at hsum
  rw [← hR, ← hc]
  have hT : hexS.size = 16 := rfl
  have c1 : c / 16 = (h : Int) := by omega
  have c2 : c % 16 = (l : Int) := by omega
  have c3 : IntKind.u8.wrap (h : Int) = (h : Int) := IntWalk.u8_in _ ⟨by omega, by omega⟩
  have c4 : IntKind.u8.wrap (l : Int) = (l : Int) := IntWalk.u8_in _ ⟨by omega, by omega⟩
  have c5 : IntKind.u8.wrap ((h : Int) + 1) = (h : Int) + 1 := IntWalk.u8_in _ ⟨by omega, by omega⟩
  have c6 : IntKind.u8.wrap ((l : Int) + 1) = (l : Int) + 1 := IntWalk.u8_in _ ⟨by omega, by omega⟩
  have d1 : (0 : Int) ≤ (h : Int) := by omega
  have d2 : (h : Int) ≤ (h : Int) + 1 := by omega
  have d3 : (h : Int) + 1 ≤ 16 := by omega
  have d4 : ((h : Int) + 1).toNat = h + 1 := by omega
  have d5 : (0 : Int) ≤ (l : Int) := by omega
  have d6 : (l : Int) ≤ (l : Int) + 1 := by omega
  have d7 : (l : Int) + 1 ≤ 16 := by omega
  have d8 : ((l : Int) + 1).toNat = l + 1 := by omega
  unfold hexS at hsum hT
  clear hh hl hR hc hb
  go_enter Tryd.func41, Tryd.ntmps41
  go_wp2_with fail
  go_quiet (fail)
  go_wp2
  go_ret
  exact ⟨rfl, _, rfl⟩
end Go.Proofs.YtkmkhegekonbmaaDoor
