/- Numbers of 64 bits: what sums, products and cuts of them are, and when they are none. Nothing here speaks of the program. -/
import Derived.Test.YtmdlndmibodimaaDoorWords
import Derived.Laws.BitsAllLaws
import Derived.IntWalk
namespace Go.Proofs.YtmdlndmibodimaaDoor.Sm
open Go Go.RowKit

/-- n is a number of 64 bits. -/
def okI (n : Int) : Bool := decide (-9223372036854775808 ≤ n) && decide (n ≤ 9223372036854775807)
theorem okI_iff {n : Int} : okI n = true ↔ -9223372036854775808 ≤ n ∧ n ≤ 9223372036854775807 := by simp [okI]
theorem okI_not {n : Int} : okI n = false ↔ ¬ (-9223372036854775808 ≤ n ∧ n ≤ 9223372036854775807) := by
  rw [← okI_iff]; simp
/-- The number, or 0; the error beside it. -/
def numI (n : Int) : Int := if okI n = true then n else 0
def errI (n : Int) : Int := if okI n = true then 0 else 16
theorem numI_ok {n : Int} (h : okI n = true) : numI n = n := by unfold numI; rw [if_pos h]
theorem errI_ok {n : Int} (h : okI n = true) : errI n = 0 := by unfold errI; rw [if_pos h]
theorem numI_no {n : Int} (h : okI n = false) : numI n = 0 := by unfold numI; rw [if_neg (by rw [h]; decide)]
theorem errI_no {n : Int} (h : okI n = false) : errI n = 16 := by unfold errI; rw [if_neg (by rw [h]; decide)]

/-- n is below 0. -/
def neg (n : Int) : Bool := decide (n < 0)
theorem neg_iff {n : Int} : neg n = true ↔ n < 0 := by simp [neg]
theorem wrap_bv (v : BitVec 64) : IntKind.i64.wrap (v.toNat : Int) = v.toInt := by
  rw [IntKind.wrap_i64, BitVec.toInt_eq_toNat_cond]
  have := v.isLt
  split <;> omega
theorem ofInt_neg {a : Int} (h : okI a = true) : (BitVec.ofInt 64 a).msb = neg a := by
  rw [BitVec.msb_eq_toInt, BitVec.toInt_ofInt, neg]
  have := okI_iff.1 h
  have e : Int.bmod a (2 ^ 64) = a := by
    rw [Int.bmod_def]
    simp
    omega
  rw [e]
theorem xor_neg {a b : Int} (ha : okI a = true) (hb : okI b = true) : neg (bits .xor .i64 a b) = (neg a ^^ neg b) := by
  show decide (IntKind.i64.wrap _ < 0) = _
  show decide (IntKind.i64.wrap ((BitVec.ofInt 64 a ^^^ BitVec.ofInt 64 b).toNat : Int) < 0) = _
  rw [wrap_bv, ← BitVec.msb_eq_toInt, BitVec.msb_xor, ofInt_neg ha, ofInt_neg hb]
theorem and_neg {a b : Int} (ha : okI a = true) (hb : okI b = true) : neg (bits .and .i64 a b) = (neg a && neg b) := by
  show decide (IntKind.i64.wrap ((BitVec.ofInt 64 a &&& BitVec.ofInt 64 b).toNat : Int) < 0) = _
  rw [wrap_bv, ← BitVec.msb_eq_toInt, BitVec.msb_and, ofInt_neg ha, ofInt_neg hb]
theorem bits_ok (op : BinOp) (a b : Int) : okI (bits op .i64 a b) = true := by
  unfold bits
  simp only
  generalize (match op with | .and => _ | .or => _ | .xor => _ | _ => _ : BitVec _) = v
  rw [okI_iff, IntKind.wrap_i64]
  omega
theorem wrap_ok (n : Int) : okI (IntKind.i64.wrap n) = true := by rw [okI_iff, IntKind.wrap_i64]; omega
/-- The highest bit of a number. -/
def sgn (n : Int) : Int := if neg n = true then 1 else 0
theorem sgn_of {n : Int} (h : okI n = true) : IntKind.u64.wrap n / 9223372036854775808 = sgn n := by
  have := okI_iff.1 h
  rw [IntKind.wrap_u64]
  unfold sgn
  split
  · rename_i h1; have := neg_iff.1 h1; omega
  · rename_i h1; have : ¬ n < 0 := fun h => h1 (neg_iff.2 h)
    omega
/-- A sum of 64 bits: whether it has run over. -/
theorem add_over {a b s : Int} (ha : okI a = true) (hb : okI b = true) (hs : okI s = true) (he : ∃ k : Int, s = a + b + 18446744073709551616 * k) :
    okI (a + b) = !((neg a ^^ neg s) && (neg b ^^ neg s)) ∧ (okI (a + b) = true → s = a + b) := by
  obtain ⟨k, hk⟩ := he
  have h1 := okI_iff.1 ha
  have h2 := okI_iff.1 hb
  have h3 := okI_iff.1 hs
  constructor
  · cases e : okI (a + b)
    · have := okI_not.1 e
      unfold neg
      have hh : (a < 0 ∧ b < 0 ∧ ¬ s < 0) ∨ (¬ a < 0 ∧ ¬ b < 0 ∧ s < 0) := by omega
      rcases hh with ⟨p, q, r⟩ | ⟨p, q, r⟩ <;> simp [p, q, r]
    · have := okI_iff.1 e
      unfold neg
      have hh : (a < 0 ∧ s < 0) ∨ (b < 0 ∧ s < 0) ∨ (¬ a < 0 ∧ ¬ s < 0) ∨ (¬ b < 0 ∧ ¬ s < 0) := by omega
      rcases hh with ⟨p, q⟩ | ⟨p, q⟩ | ⟨p, q⟩ | ⟨p, q⟩ <;> simp [p, q]
  · intro e
    have := okI_iff.1 e
    omega
theorem sub_over {a b s : Int} (ha : okI a = true) (hb : okI b = true) (hs : okI s = true) (he : ∃ k : Int, s = a - b + 18446744073709551616 * k) :
    okI (a - b) = !((neg a ^^ neg b) && (neg a ^^ neg s)) ∧ (okI (a - b) = true → s = a - b) := by
  obtain ⟨k, hk⟩ := he
  have h1 := okI_iff.1 ha
  have h2 := okI_iff.1 hb
  have h3 := okI_iff.1 hs
  constructor
  · cases e : okI (a - b)
    · have := okI_not.1 e
      unfold neg
      have hh : (a < 0 ∧ ¬ b < 0 ∧ ¬ s < 0) ∨ (¬ a < 0 ∧ b < 0 ∧ s < 0) := by omega
      rcases hh with ⟨p, q, r⟩ | ⟨p, q, r⟩ <;> simp [p, q, r]
    · have := okI_iff.1 e
      unfold neg
      have hh : (a < 0 ∧ b < 0) ∨ (¬ a < 0 ∧ ¬ b < 0) ∨ (a < 0 ∧ s < 0) ∨ (¬ a < 0 ∧ ¬ s < 0) := by omega
      rcases hh with ⟨p, q⟩ | ⟨p, q⟩ | ⟨p, q⟩ | ⟨p, q⟩ <;> simp [p, q]
  · intro e
    have := okI_iff.1 e
    omega

/-- The running sums of a list, from n on, and the error at their end. -/
def runGo : Int → List Int → List Int × Int
  | _, [] => ([], 0)
  | n, x :: l => if okI (n + x) = true then ((n + x) :: (runGo (n + x) l).1, (runGo (n + x) l).2) else ([], 16)
def runI (l : List Int) : List Int := (runGo 0 l).1
def runE (l : List Int) : Int := (runGo 0 l).2
end Go.Proofs.YtmdlndmibodimaaDoor.Sm
