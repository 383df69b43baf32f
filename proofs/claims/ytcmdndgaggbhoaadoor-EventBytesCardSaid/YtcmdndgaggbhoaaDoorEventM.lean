/- What is written and read of an event, of readers and writers as data. Nothing here speaks of the program. -/
import Derived.Test.YtcmdndgaggbhoaaDoorWireAll2
import Derived.Test.YtcmdndgaggbhoaaDoorEventSpec
namespace Go.Proofs.YtcmdndgaggbhoaaDoor.Ev
open Go.RowKit
open Wr

/-- What is written behind what a writer with room for M bytes holds. -/
theorem openM (A : List UInt8) (M : Nat) (h : A.length ≤ M) (hM : M ≤ 20000) : Wt.opened ⟨strOf A, M, 0⟩ = ⟨A.length, M, 0, 0, strOf A⟩ := by
  have := open_err M hM (strOf A) (by rw [strOf_size]; exact h) 0 (by decide) (by decide)
  rw [strOf_size] at this
  exact this
theorem putM (A : List UInt8) (M k x : Nat) (hk : isSz k = true) (hx : x < 256 ^ k) (h : A.length + k ≤ M) (hM : M ≤ 20000) : putW ⟨strOf A, M, 0⟩ k x = ⟨strOf (A ++ digI x k), M, 0⟩ := by
  unfold putW
  rw [Int.toNat_natCast, if_pos ⟨hk, by rw [fits_nat]; exact decide_eq_true (Nat.mod_eq_of_lt hx)⟩, openM A M (by omega) hM]
  have ht : total [strOf (digI x k)] = k := by simp [total, strOf_size, digI_length]
  unfold Sp.add
  rw [if_neg (fun h => h rfl), if_neg (by rw [ht]; show ¬ (M : Int) - A.length < _; omega), flat_one, strOf_append]
  rfl
/-- The bytes of an event whose value is m as a number without a sign. -/
def evB (l k m : Int) : List UInt8 := digI l 8 ++ digI k 1 ++ digI m 8
theorem evB_length (l k m : Int) : (evB l k m).length = 17 := by simp [evB, digI_length]
theorem wrote_nat {l k m : Nat} (h1 : l < 18446744073709551616) (hk : k < 256) (hm1 : m < 18446744073709551616) :
    doneW (putW (putW (putW (makeW 17) 8 l) 1 k) 8 m) = (strOf (evB l k m), 0) := by
  have e0 : makeW 17 = ⟨strOf [], 17, 0⟩ := makeW_ok 17 (by decide)
  have e1 := putM [] 17 8 l (by decide) h1 (by decide) (by decide)
  have e2 := putM ([] ++ digI l 8) 17 1 k (by decide) hk (by simp [digI_length]) (by decide)
  have e3 := putM ([] ++ digI l 8 ++ digI k 1) 17 8 m (by decide) hm1 (by simp [digI_length]) (by decide)
  rw [e0]
  rw [show ((17 : Nat) : Int) = 17 from rfl, show ((8 : Nat) : Int) = 8 from rfl] at e1
  rw [show ((17 : Nat) : Int) = 17 from rfl, show ((1 : Nat) : Int) = 1 from rfl] at e2
  rw [show ((17 : Nat) : Int) = 17 from rfl, show ((8 : Nat) : Int) = 8 from rfl] at e3
  rw [e1, e2, e3]
  have e4 := doneW_ok (strOf ([] ++ digI l 8 ++ digI k 1 ++ digI m 8)) 17 (by decide) (by simp [strOf_size, digI_length])
  exact e4
def bytesE (l k m : Int) : ByteArray × Int := if isKindB k = true then (strOf (evB l k m), 0) else (⟨#[]⟩, 11)
end Go.Proofs.YtcmdndgaggbhoaaDoor.Ev
