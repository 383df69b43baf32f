/- Events and Ids read back, of texts and bytes as lists. Nothing here speaks of the program. -/
import Derived.Test.YtcmdndgaggbhoaaGreatDoorEventS
import Derived.Test.YtcmdndgaggbhoaaGreatDoorEventJ
namespace Go.Proofs.YtcmdndgaggbhoaaGreatDoor.Ev
open Go.RowKit
open Lb Wr

/-- A value as a number without a sign. -/
def unsg (v : Int) : Nat := (v % 18446744073709551616).toNat
theorem unsg_lt (v : Int) : unsg v < 18446744073709551616 := by unfold unsg; omega
theorem unsg_wrap (v : Int) : IntKind.u64.wrap v = (unsg v : Int) := by rw [IntKind.wrap_u64]; unfold unsg; omega
theorem wrap_unsg {v : Int} (hv0 : -9223372036854775808 ≤ v) (hv1 : v ≤ 9223372036854775807) : IntKind.i64.wrap (unsg v : Int) = v := by rw [IntKind.wrap_i64]; unfold unsg; omega
theorem unsg_of (n : Nat) (h : n < 18446744073709551616) : unsg (IntKind.i64.wrap (n : Int)) = n := by rw [IntKind.wrap_i64]; unfold unsg; omega
theorem wrap_bounds (n : Int) : -9223372036854775808 ≤ IntKind.i64.wrap n ∧ IntKind.i64.wrap n ≤ 9223372036854775807 := by rw [IntKind.wrap_i64]; omega
theorem extract_mid2 (A D B : List UInt8) : ((strOf (A ++ D ++ B)).extract A.length (A.length + D.length)).data.toList = D := by
  have := extract_mid A D B
  rw [← List.append_assoc] at this
  rw [this]
  simp [strOf]
theorem strOf_same (s : ByteArray) : strOf s.data.toList = s := by apply ByteArray.ext; simp [strOf]
/-- Bytes are read back. -/
theorem parse_bytes {l k : Nat} {v : Int} (hl : l < 18446744073709551616) (hk : k < 26) (hv0 : -9223372036854775808 ≤ v) (hv1 : v ≤ 9223372036854775807) :
    parseC (strOf (evB l k (unsg v))) = pv l k v 0 0 := by
  have hs : (strOf (evB l k (unsg v))).size = 17 := by rw [strOf_size, evB_length]
  have p8 : 256 ^ 8 = 18446744073709551616 := by decide
  have p1 : 256 ^ 1 = 256 := by decide
  have e1 : numOf ((strOf (evB l k (unsg v))).extract 0 8).data.toList = l := by
    have := extract_mid2 [] (digI l 8) (digI k 1 ++ digI (unsg v) 8)
    rw [digI_length] at this
    simp only [List.nil_append, List.length_nil, Nat.zero_add] at this
    unfold evB
    rw [List.append_assoc, this, numOf_digI, p8]
    exact Nat.mod_eq_of_lt hl
  have e2 : by8 (strOf (evB l k (unsg v))) = k := by
    unfold by8
    have := extract_mid2 (digI l 8) (digI k 1) (digI (unsg v) 8)
    rw [digI_length, digI_length] at this
    unfold evB
    rw [this, numOf_digI, p1]
    exact Nat.mod_eq_of_lt (by omega)
  have e3 : numOf ((strOf (evB l k (unsg v))).extract 9 17).data.toList = unsg v := by
    have := extract_mid2 (digI l 8 ++ digI k 1) (digI (unsg v) 8) []
    rw [List.length_append, digI_length, digI_length, digI_length, List.append_nil] at this
    unfold evB
    rw [this, numOf_digI, p8]
    exact Nat.mod_eq_of_lt (unsg_lt v)
  unfold parseC
  rw [hs, if_neg (by decide), if_neg (by decide), e2, if_neg (by omega), if_neg (by decide), if_neg (by decide), e1, e3, wrap_unsg hv0 hv1]
theorem extract_len (s : ByteArray) (a b : Nat) (h : b ≤ s.size) : (s.extract a b).data.toList.length = b - a := by
  rw [bytes_size, ByteArray.size_extract]
  omega
/-- What is read has these bytes. -/
theorem parse_cases (s : ByteArray) : (∃ (l k : Nat) (v : Int), l < 18446744073709551616 ∧ k < 26 ∧ parseC s = pv l k v 0 0 ∧ strOf (evB l k (unsg v)) = s) ∨ ∃ e a : Int, e ≠ 0 ∧ parseC s = pv 0 0 0 e a := by
  unfold parseC
  split
  · exact .inr ⟨_, _, by decide, rfl⟩
  · split
    · exact .inr ⟨_, _, by decide, rfl⟩
    · split
      · exact .inr ⟨_, _, by decide, rfl⟩
      · split
        · exact .inr ⟨_, _, by decide, rfl⟩
        · split
          · exact .inr ⟨_, _, by decide, rfl⟩
          · rename_i h1 h2 h3 h4 h5
            have hs : s.size = 17 := by omega
            have p8 : 256 ^ 8 = 18446744073709551616 := by decide
            have l1 := extract_len s 0 8 (by omega)
            have l2 := extract_len s 8 9 (by omega)
            have l3 := extract_len s 9 17 (by omega)
            have n1 := numOf_lt (s.extract 0 8).data.toList
            have n3 := numOf_lt (s.extract 9 17).data.toList
            rw [l1] at n1
            rw [l3] at n3
            rw [show 8 - 0 = 8 from rfl, p8] at n1
            rw [show 17 - 9 = 8 from rfl, p8] at n3
            refine .inl ⟨_, _, _, n1, by omega, rfl, ?_⟩
            rw [unsg_of _ n3]
            unfold evB by8
            have d1 := digI_numOf (s.extract 0 8).data.toList
            have d2 := digI_numOf (s.extract 8 9).data.toList
            have d3 := digI_numOf (s.extract 9 17).data.toList
            rw [l1] at d1
            rw [l2] at d2
            rw [l3] at d3
            rw [show 8 - 0 = 8 from rfl] at d1
            rw [show 9 - 8 = 1 from rfl] at d2
            rw [show 17 - 9 = 8 from rfl] at d3
            rw [d1, d2, d3, ← strOf_append, ← strOf_append, strOf_same, strOf_same, strOf_same, extract_join s 8 9 (by decide), extract_join s 9 17 (by decide), ← hs]
            exact extract_all s
/-- Texts of events are read back. -/
theorem evT_parts (l k : Nat) (v : Int) (hk : k < 26) : cutA (evT l k v) 32 = [UInt8.ofNat (65 + k)] ∧ cutR (evT l k v) 32 = textOf (cats l) ++ 32 :: Lib.itoa v := by
  have e : evT l k v = [UInt8.ofNat (65 + k)] ++ 32 :: (textOf (cats l) ++ 32 :: Lib.itoa v) := by
    unfold evT
    simp
  rw [e]
  refine cutA_of (fun h => ?_)
  have := List.mem_singleton.1 h
  have := congrArg UInt8.toNat this
  rw [UInt8.toNat_ofNat'] at this
  have h32 : (32 : UInt8).toNat = 32 := rfl
  omega
theorem read_text' {l k : Nat} {v : Int} (hl : l < 18446744073709551616) (hk : k < 26) (hv0 : -9223372036854775808 ≤ v) (hv1 : v ≤ 9223372036854775807) :
    rL (strOf (evT l k v)) = l ∧ rK (strOf (evT l k v)) = k ∧ rV (strOf (evT l k v)) = v := by
  obtain ⟨h1, h2⟩ := evT_parts l k v hk
  obtain ⟨h3, h4⟩ := cutA_of (A := textOf (cats l)) (R := Lib.itoa v) (text_no (cats l) 32 (.inl rfl))
  unfold rL rK rV
  rw [strOf_data, h1, h2, h3, h4, parse_text l hl, valI_itoa v hv0 hv1]
  have hk2 := kindI_letL hk
  unfold letL at hk2
  rw [hk2]
  exact ⟨by simp, rfl, rfl⟩
theorem readV_text {l k : Nat} {v : Int} (hl : l < 18446744073709551616) (hk : k < 26) (hv0 : -9223372036854775808 ≤ v) (hv1 : v ≤ 9223372036854775807) :
    readV (strOf (evT l k v)) = .tuple #[ev l k v, .int .i64 0] := by
  obtain ⟨h1, h2, h3⟩ := read_text' hl hk hv0 hv1
  unfold readV
  rw [h1, h2, h3, if_pos rfl]
theorem readV_cases (s : ByteArray) : (∃ (l : Nat) (k v : Int), l < 18446744073709551616 ∧ isKindB k = true ∧ (-9223372036854775808 ≤ v ∧ v ≤ 9223372036854775807) ∧ readV s = .tuple #[ev l k v, .int .i64 0] ∧ strOf (evT l k v) = s) ∨ readV s = .tuple #[ev 0 0 0, .int .i64 3] := by
  unfold readV
  split
  · rename_i h
    exact .inl ⟨_, _, _, (rL_is s).2, rK_is s, valI_bounds _, rfl, h⟩
  · exact .inr rfl
theorem readIdV_cases (s : ByteArray) : (∃ l n : Nat, l < 18446744073709551616 ∧ n < 18446744073709551616 ∧ isCountB (n : Int) = true ∧ readIdV s = .tuple #[idv l n, .int .i64 0] ∧ strOf (idT l n) = s) ∨ readIdV s = .tuple #[idv 0 0, .int .i64 3] := by
  unfold readIdV
  split
  · rename_i h
    exact .inl ⟨_, _, (iL_is s).2, (iN_is s).2, h.1, rfl, h.2⟩
  · exact .inr rfl
theorem readIdV_text {l n : Nat} (hl : l < 18446744073709551616) (hn : isCountB (n : Int) = true) : readIdV (strOf (idT l n)) = .tuple #[idv l n, .int .i64 0] := by
  have hn2 := isCountB_iff.1 hn
  have e : idT l n = textOf (cats l) ++ 35 :: Lib.decDigits n := by unfold idT; simp
  obtain ⟨h3, h4⟩ := cutA_of (A := textOf (cats l)) (R := Lib.decDigits n) (c := 35) (text_no (cats l) 35 (.inr rfl))
  have h1 : iL (strOf (idT l n)) = l := by unfold iL; rw [strOf_data, e, h3, parse_text l hl]; simp
  have h2 : iN (strOf (idT l n)) = n := by unfold iN; rw [strOf_data, e, h4, valU_dec n (by omega)]; simp
  unfold readIdV
  rw [h1, h2, if_pos ⟨hn, rfl⟩]
end Go.Proofs.YtcmdndgaggbhoaaGreatDoor.Ev
