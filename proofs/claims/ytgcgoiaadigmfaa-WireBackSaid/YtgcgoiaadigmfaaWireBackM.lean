/- What WireBack says, of readers and writers as data. -/
import Derived.Test.YtgcgoiaadigmfaaWireM
import Derived.Test.YtgcgoiaadigmfaaWireN
import Derived.Test.YtgcgoiaadigmfaaWireT
import Derived.Test.YtgcgoiaadigmfaaWireSize
import Derived.Test.YtgcgoiaadigmfaaWireWholeM
namespace Go.Proofs.Ytgcgoiaadigmfaa
open Go.RowKit
open Wr
namespace Wr
/-- Pieces, one behind the other. -/
def cat (g : Nat → List UInt8) (j : Nat) : List UInt8 := (List.range j).flatMap g
theorem cat_succ (g : Nat → List UInt8) (j : Nat) : cat g (j + 1) = cat g j ++ g j := by simp [cat, List.range_succ]
theorem cat_le (g : Nat → List UInt8) {j n : Nat} (h : j ≤ n) : ∃ r, cat g n = cat g j ++ r := by
  induction n with
  | zero => exact ⟨[], by rw [show j = 0 by omega]; simp⟩
  | succ n ih =>
    by_cases hj : j = n + 1
    · exact ⟨[], by rw [hj]; simp⟩
    · obtain ⟨r, hr⟩ := ih (by omega)
      exact ⟨r ++ g n, by rw [cat_succ, hr, List.append_assoc]⟩
theorem cat_len (g : Nat → List UInt8) (c : Nat) (hg : ∀ i, (g i).length ≤ c) (j : Nat) : (cat g j).length ≤ c * j := by
  induction j with
  | zero => simp [cat]
  | succ j ih => rw [cat_succ, List.length_append, Nat.mul_succ]; have := hg j; omega

/-- What is written behind what a writer with room holds. -/
theorem open_w (A : List UInt8) (h : A.length ≤ 20000) : Wt.opened ⟨strOf A, 20000, 0⟩ = ⟨A.length, 20000, 0, 0, strOf A⟩ := by
  have := open_err 20000 (by decide) (strOf A) (by rw [strOf_size]; exact h) 0 (by decide) (by decide)
  rw [strOf_size] at this
  exact this
theorem add_w (A : List UInt8) (l : List ByteArray) (h : A.length + total l ≤ 20000) : addW ⟨strOf A, 20000, 0⟩ l = ⟨strOf (A ++ flat l), 20000, 0⟩ := by
  unfold addW
  rw [open_w A (by omega)]
  unfold Sp.add
  rw [if_neg (fun h => h rfl), if_neg (by show ¬ (20000 : Int) - A.length < _; omega), strOf_append]
  rfl
theorem total_one (l : List UInt8) : total [strOf l] = l.length := by simp [total, strOf_size]
theorem put_w (A : List UInt8) (k x : Nat) (hk : isSz k = true) (hx : x < 256 ^ k) (h : A.length + k ≤ 20000) : putW ⟨strOf A, 20000, 0⟩ k x = ⟨strOf (A ++ digI x k), 20000, 0⟩ := by
  have h1 := add_w A [strOf (digI x k)] (by rw [total_one, digI_length]; exact h)
  rw [flat_one] at h1
  unfold putW
  rw [Int.toNat_natCast, if_pos ⟨hk, by rw [fits_nat]; exact decide_eq_true (Nat.mod_eq_of_lt hx)⟩]
  exact h1
theorem putInt_w (A : List UInt8) (n : Int) (h : A.length + 8 ≤ 20000) : putInt64W ⟨strOf A, 20000, 0⟩ n = ⟨strOf (A ++ digI n 8), 20000, 0⟩ := by
  have h1 := add_w A [strOf (digI n 8)] (by rw [total_one, digI_length]; exact h)
  rw [flat_one] at h1
  exact h1
theorem putSized_w (A : List UInt8) (s : ByteArray) (hs : s.size ≤ 65535) (h : A.length + (2 + s.size) ≤ 20000) : putSizedW ⟨strOf A, 20000, 0⟩ s = ⟨strOf (A ++ (digI s.size 2 ++ s.data.toList)), 20000, 0⟩ := by
  have h1 := add_w A [strOf (digI s.size 2), s] (by simp [total, strOf_size, digI_length]; omega)
  unfold putSizedW
  rw [if_neg (by omega)]
  rw [show flat [strOf (digI s.size 2), s] = digI s.size 2 ++ s.data.toList by simp [flat, strOf]] at h1
  exact h1
theorem add2_w (A : List UInt8) (s : ByteArray) (h : A.length + s.size ≤ 20000) : addW ⟨strOf A, 20000, 0⟩ [⟨#[]⟩, s] = ⟨strOf (A ++ s.data.toList), 20000, 0⟩ := by
  have h1 := add_w A [⟨#[]⟩, s] (by show _ + (0 + (s.size + 0)) ≤ _; omega)
  rw [show flat [⟨#[]⟩, s] = s.data.toList by simp [flat]] at h1
  exact h1

/-- A reader without a fault behind the bytes A. -/
theorem open_r (S : ByteArray) (a : Nat) (h : a ≤ S.size) : Rd.opened ⟨S, a, 0, 0⟩ = ⟨a, S.size, 0, 0, S⟩ := by
  unfold Rd.opened
  rw [if_pos (soundI.2 ⟨by omega, by omega, .inl ⟨rfl, rfl⟩⟩)]
  rfl
theorem extract_mid (A D B : List UInt8) : (strOf (A ++ (D ++ B))).extract A.length (A.length + D.length) = strOf D := by
  apply ByteArray.ext
  rw [ByteArray.data_extract]
  apply Array.toList_inj.1
  rw [Array.toList_extract]
  show ((A ++ (D ++ B)).toArray.toList.extract A.length (A.length + D.length)) = D.toArray.toList
  simp only [List.extract_eq_take_drop]
  rw [show A.length + D.length - A.length = D.length by omega]
  simp
theorem take_r (A D B : List UInt8) : (Sp.take ⟨A.length, (strOf (A ++ (D ++ B))).size, 0, 0, strOf (A ++ (D ++ B))⟩ D.length) = (⟨(A.length + D.length : Nat), (strOf (A ++ (D ++ B))).size, 0, 0, strOf (A ++ (D ++ B))⟩, strOf D) := by
  have hs : (strOf (A ++ (D ++ B))).size = A.length + (D.length + B.length) := by rw [strOf_size, List.length_append, List.length_append]
  unfold Sp.take Sp.claim
  rw [if_neg (fun h => h rfl), if_neg (by simp only [hs]; omega)]
  simp only [if_true]
  have e := extract_mid A D B
  rw [show ((A.length : Int)).toNat = A.length by omega, show ((A.length : Int) + (D.length : Int)).toNat = A.length + D.length by omega, e]
  rfl
theorem uint_r (A D B : List UInt8) (hD : isSz D.length = true) : uintR ⟨strOf (A ++ (D ++ B)), A.length, 0, 0⟩ D.length = (⟨strOf (A ++ (D ++ B)), (A.length + D.length : Nat), 0, 0⟩, numOf D) := by
  unfold uintR
  rw [open_r _ _ (by rw [strOf_size, List.length_append]; omega)]
  unfold Sp.field
  rw [if_pos hD, take_r]
  rfl
theorem int64_r (A D B : List UInt8) (hD : D.length = 8) : int64R ⟨strOf (A ++ (D ++ B)), A.length, 0, 0⟩ = (⟨strOf (A ++ (D ++ B)), (A.length + 8 : Nat), 0, 0⟩, IntKind.i64.wrap (numOf D)) := by
  have h := take_r A D B
  rw [hD] at h
  unfold int64R
  rw [open_r _ _ (by rw [strOf_size, List.length_append]; omega)]
  unfold Sp.field
  have h8 : Sp.take ⟨A.length, (strOf (A ++ (D ++ B))).size, 0, 0, strOf (A ++ (D ++ B))⟩ 8 = _ := h
  rw [if_pos (by decide), h8]
  rfl
theorem bytes_r (A D B : List UInt8) : bytesR ⟨strOf (A ++ (D ++ B)), A.length, 0, 0⟩ D.length = (⟨strOf (A ++ (D ++ B)), (A.length + D.length : Nat), 0, 0⟩, strOf D) := by
  unfold bytesR
  rw [open_r _ _ (by rw [strOf_size, List.length_append]; omega), if_neg (by omega), take_r]
  rfl
theorem sized_r (A : List UInt8) (D B : List UInt8) (most : Int) (hm : (D.length : Int) ≤ most) (hm2 : most ≤ 65535) :
    sizedR ⟨strOf (A ++ (digI D.length 2 ++ (D ++ B))), A.length, 0, 0⟩ most = (⟨strOf (A ++ (digI D.length 2 ++ (D ++ B))), (A.length + 2 + D.length : Nat), 0, 0⟩, strOf D) := by
  have h1 := take_r A (digI D.length 2) (D ++ B)
  rw [digI_length] at h1
  have h2 := take_r (A ++ digI D.length 2) D B
  rw [List.append_assoc, List.length_append, digI_length] at h2
  have hf : Sp.field ⟨A.length, (strOf (A ++ (digI D.length 2 ++ (D ++ B)))).size, 0, 0, strOf (A ++ (digI D.length 2 ++ (D ++ B)))⟩ 2 = (⟨(A.length + 2 : Nat), (strOf (A ++ (digI D.length 2 ++ (D ++ B)))).size, 0, 0, strOf (A ++ (digI D.length 2 ++ (D ++ B)))⟩, D.length) := by
    rw [field2]
    rw [show (2 : Int) = ((2 : Nat) : Int) from rfl, h1]
    have h3 : numOf (digI (D.length : Nat) 2) = D.length := by rw [numOf_digI]; exact Nat.mod_eq_of_lt (by omega)
    exact Prod.ext rfl h3
  unfold sizedR
  rw [open_r _ _ (by rw [strOf_size, List.length_append]; omega)]
  unfold Sp.sized
  rw [if_pos (by simp [within]; omega), hf, if_neg (by show ¬ most < (D.length : Int); omega), h2]
  rfl
end Wr
end Go.Proofs.Ytgcgoiaadigmfaa
