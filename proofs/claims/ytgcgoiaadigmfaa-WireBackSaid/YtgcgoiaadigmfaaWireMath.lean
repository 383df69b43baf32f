/- Numbers and their bytes, big-endian: plain mathematics on lists of bytes. Nothing here speaks of the program. -/
import Derived.Laws.BitsAllLaws
import Derived.Test.YtgcgoiaadigmfaaWireSpec
namespace Go.Proofs.Ytgcgoiaadigmfaa.Wr
open Go

/-- The number that these bytes stand for. -/
def numOf (l : List UInt8) : Nat := l.foldl (fun n b => 256 * n + b.toNat) 0
theorem numOf_snoc (l : List UInt8) (b : UInt8) : numOf (l ++ [b]) = 256 * numOf l + b.toNat := by simp [numOf]
theorem foldl_start (l : List UInt8) (n : Nat) : l.foldl (fun n (b : UInt8) => 256 * n + b.toNat) n = n * 256 ^ l.length + numOf l := by
  induction l generalizing n with
  | nil => simp [numOf]
  | cons b r ih =>
    simp only [List.foldl_cons, numOf, List.length_cons]
    rw [ih, ih (256 * 0 + b.toNat), Nat.pow_succ, Nat.add_mul, Nat.mul_zero, Nat.zero_add]
    have h1 : 256 * n * 256 ^ r.length = n * (256 ^ r.length * 256) := by rw [Nat.mul_comm 256 n, Nat.mul_assoc, Nat.mul_comm 256]
    omega
theorem numOf_cons (b : UInt8) (l : List UInt8) : numOf (b :: l) = b.toNat * 256 ^ l.length + numOf l := by
  simp only [numOf, List.foldl_cons]
  rw [foldl_start]
  simp [numOf]
theorem numOf_lt (l : List UInt8) : numOf l < 256 ^ l.length := by
  induction l with
  | nil => simp [numOf]
  | cons b r ih =>
    rw [numOf_cons, List.length_cons, Nat.pow_succ]
    have hb := b.toNat_lt
    have h1 : b.toNat * 256 ^ r.length ≤ 255 * 256 ^ r.length := Nat.mul_le_mul_right _ (by omega)
    have h2 : 256 ^ r.length * 256 = 255 * 256 ^ r.length + 256 ^ r.length := by omega
    omega
theorem pow_le {a b : Nat} (h : a ≤ b) : 256 ^ a ≤ 256 ^ b := Nat.pow_le_pow_right (by decide) h
theorem numOf_take_lt (l : List UInt8) (k j : Nat) (h : k ≤ j) : numOf (l.take k) < 256 ^ j :=
  Nat.lt_of_lt_of_le (numOf_lt _) (pow_le (by simp; omega))

/-- One byte more, behind: in words. -/
theorem stepU (n b : Nat) (hn : n < 72057594037927936) (hb : b < 256) : bits .or .u64 (IntKind.u64.wrap ((n : Int) * 256)) (b : Int) = ((256 * n + b : Nat) : Int) := by
  have h1 : IntKind.u64.wrap ((n : Int) * 256) = ((n * 256 : Nat) : Int) := by rw [IntKind.wrap_u64]; omega
  rw [h1, u64_or_nat _ _ (by omega) (by omega), nat_join 8 _ _ (by omega) (by omega)]
  congr 1
  omega
theorem ofInt_wrap64 (n : Int) : BitVec.ofInt 64 (IntKind.i64.wrap n) = BitVec.ofInt 64 n := by
  apply BitVec.eq_of_toNat_eq
  simp only [BitVec.toNat_ofInt, IntKind.wrap_i64]
  omega
theorem stepI (n b : Nat) (hn : n < 72057594037927936) (hb : b < 256) : bits .or .i64 (IntKind.i64.wrap ((n : Int) * 256)) (b : Int) = IntKind.i64.wrap ((256 * n + b : Nat) : Int) := by
  show IntKind.i64.wrap ((BitVec.ofInt 64 (IntKind.i64.wrap ((n : Int) * 256)) ||| BitVec.ofInt 64 (b : Int)).toNat : Int) = _
  rw [ofInt_wrap64, BitVec.toNat_or, show ((n : Int) * 256) = ((n * 256 : Nat) : Int) by omega, ofInt_u64 _ (by omega), ofInt_u64 _ (by omega), nat_join 8 _ _ (by omega) (by omega)]
  congr 2
  omega

/-- The last k bytes of a number. -/
def byteAt (n : Int) (k : Nat) : UInt8 := UInt8.ofNat (n / 256 ^ k % 256).toNat
theorem byteAt_val (n : Int) (k : Nat) : ((byteAt n k).toNat : Int) = n / 256 ^ k % 256 := by
  rw [byteAt, UInt8.toNat_ofNat']
  have h1 := Int.emod_nonneg (n / 256 ^ k) (b := 256) (by decide)
  have h2 := Int.emod_lt_of_pos (n / 256 ^ k) (b := 256) (by decide)
  omega
def digI (n : Int) : Nat → List UInt8
  | 0 => []
  | k + 1 => byteAt n k :: digI n k
theorem digI_length (n : Int) (k : Nat) : (digI n k).length = k := by
  induction k with
  | zero => rfl
  | succ k ih => simp [digI, ih]
theorem digI_succ (n : Int) (k : Nat) : digI n (k + 1) = byteAt n k :: digI n k := rfl
theorem numOf_digI (n k : Nat) : numOf (digI n k) = n % 256 ^ k := by
  induction k with
  | zero => simp [digI, numOf]; omega
  | succ k ih =>
    rw [digI_succ, numOf_cons, ih, digI_length, Nat.pow_succ, Nat.mod_mul, Nat.add_comm, Nat.mul_comm (byteAt n k).toNat]
    congr 2
    have h := byteAt_val n k
    have e : ((n : Int) / 256 ^ k % 256) = ((n / 256 ^ k % 256 : Nat) : Int) := by simp
    rw [e] at h
    omega
theorem digI_numOf (l : List UInt8) : digI (numOf l) l.length = l := by
  induction l with
  | nil => rfl
  | cons b r ih =>
    rw [List.length_cons, digI_succ]
    have hlt := numOf_lt r
    have hpos : 0 < 256 ^ r.length := Nat.pow_pos (by decide)
    have hq : numOf (b :: r) / 256 ^ r.length = b.toNat := by
      rw [numOf_cons, Nat.mul_comm, Nat.mul_add_div hpos, Nat.div_eq_of_lt hlt]; rfl
    have h1 : byteAt (numOf (b :: r)) r.length = b := by
      apply UInt8.toNat_inj.1
      have h := byteAt_val (numOf (b :: r)) r.length
      have e : ((numOf (b :: r) : Int) / 256 ^ r.length % 256) = ((numOf (b :: r) / 256 ^ r.length % 256 : Nat) : Int) := by simp
      rw [e, hq] at h
      have := b.toNat_lt
      omega
    have h2 : ∀ k, k ≤ r.length → digI (numOf (b :: r)) k = digI (numOf r) k := by
      intro k
      induction k with
      | zero => intro _; rfl
      | succ k ihk =>
        intro hk
        rw [digI_succ, digI_succ, ihk (by omega)]
        congr 1
        apply UInt8.toNat_inj.1
        have ha := byteAt_val (numOf (b :: r)) k
        have hb := byteAt_val (numOf r) k
        have e1 : ((numOf (b :: r) : Int) / 256 ^ k % 256) = ((numOf (b :: r) / 256 ^ k % 256 : Nat) : Int) := by simp
        have e2 : ((numOf r : Int) / 256 ^ k % 256) = ((numOf r / 256 ^ k % 256 : Nat) : Int) := by simp
        rw [e1] at ha
        rw [e2] at hb
        have hsplit : 256 ^ r.length = 256 ^ k * (256 * 256 ^ (r.length - k - 1)) := by
          rw [← Nat.pow_succ', ← Nat.pow_add]; congr 1; omega
        have : numOf (b :: r) / 256 ^ k % 256 = numOf r / 256 ^ k % 256 := by
          rw [numOf_cons, hsplit, show b.toNat * (256 ^ k * (256 * 256 ^ (r.length - k - 1))) = 256 ^ k * (256 * (b.toNat * 256 ^ (r.length - k - 1))) by
            rw [Nat.mul_left_comm, Nat.mul_left_comm b.toNat 256]]
          rw [Nat.mul_add_div (Nat.pow_pos (by decide)), Nat.mul_add_mod]
        omega
    rw [h1, h2 _ (Nat.le_refl _), ih]

/-- A field of n bytes is read as a number. -/
def Sp.field (x : Sp) (n : Int) : Sp × Nat := if isSz n then ((x.take n).1, numOf (x.take n).2.data.toList) else (x.failAt 2 x.u, 0)
def Sp.sized (x : Sp) (most : Int) : Sp × ByteArray :=
  if within most 65535 then
    if most < (x.field 2).2 then ((x.field 2).1.refuse 4 x.u, ⟨#[]⟩) else (x.field 2).1.take (x.field 2).2
  else (x.failAt 2 x.u, ⟨#[]⟩)
theorem field2 (x : Sp) : x.field 2 = ((x.take 2).1, numOf (x.take 2).2.data.toList) := rfl
theorem field2_lt {x : Sp} (h : x.Ok) : (x.field 2).2 < 65536 := by
  rw [field2]
  have h1 := take_size h (n := 2) (by decide)
  have h2 := numOf_lt (x.take 2).2.data.toList
  have h3 : (x.take 2).2.data.toList.length ≤ 2 := by rw [bytes_size]; omega
  have := pow_le h3
  have e : (256 : Nat) ^ 2 = 65536 := rfl
  show numOf (x.take 2).2.data.toList < 65536
  omega
end Go.Proofs.Ytgcgoiaadigmfaa.Wr
