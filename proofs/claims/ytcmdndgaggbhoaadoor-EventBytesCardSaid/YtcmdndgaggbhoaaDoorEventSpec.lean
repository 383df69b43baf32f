/- What package event answers, as plain functions on numbers. Nothing here speaks of the program. -/
import Derived.Test.YtcmdndgaggbhoaaDoorCommon
namespace Go.Proofs.YtcmdndgaggbhoaaDoor.Ev
open Go.RowKit

def isKindB (k : Int) : Bool := decide (0 ≤ k) && decide (k < 26)
theorem isKindB_iff {k : Int} : isKindB k = true ↔ 0 ≤ k ∧ k < 26 := by simp [isKindB]
def isCountB (n : Int) : Bool := decide (0 < n) && decide (n ≤ 1099511627776)
theorem isCountB_iff {n : Int} : isCountB n = true ↔ 0 < n ∧ n ≤ 1099511627776 := by simp [isCountB]
def checkI (k : Int) : Int := if isKindB k = true then 0 else 11
def checkIdI (n : Int) : Int := if isCountB n = true then 0 else 2
/-- Sound, of a stored event with this number, Order, Tick and kind. -/
def soundI (n o t k : Int) : Int :=
  if isCountB n = true then (if isKindB k = true then (if isCountB o = true ∧ t ≤ 1099511627776 then 0 else 2) else 11) else 2
/-- An event, an Id, a stored event. -/
def ev (l k v : Int) : Value := .agg #[.int .u64 l, .int .i64 k, .int .i64 v]
def idv (l n : Int) : Value := .agg #[.int .u64 l, .int .u64 n]
def stv (l n o t k v : Int) : Value := .agg #[.int .u64 l, .int .u64 n, .int .u64 o, .int .u64 t, .int .i64 k, .int .i64 v]
def letterS (k : Int) : ByteArray := if isKindB k = true then ⟨#[UInt8.ofNat (65 + k.toNat)]⟩ else ⟨#[]⟩
def cmpI (a m b n : Int) : Int := if a = b ∧ m = n then 0 else if a < b ∨ a = b ∧ m < n then -1 else 1
end Go.Proofs.YtcmdndgaggbhoaaDoor.Ev
