/- When a text is that of an event, or of an Id, told by its parts. Nothing here speaks of the program. -/
import Derived.Test.YtcmdndgaggbhoaaGreatDoorEventV
namespace Go.Proofs.YtcmdndgaggbhoaaGreatDoor.Ev
open Go.RowKit
open Lb Wr

theorem strOf_eta (s : ByteArray) (l : List UInt8) : s = strOf l ↔ s.data.toList = l := by
  constructor
  · intro h; rw [h, strOf_data]
  · intro h; rw [← h, strOf_same]
/-- The parts of the text of an event. -/
theorem evT_all {s : ByteArray} {l k : Nat} {v : Int} (hk : k < 26) (h : s = strOf (evT l k v)) :
    32 ∈ s.data.toList ∧ strOf (cutA s.data.toList 32) = letL k ∧ 32 ∈ cutR s.data.toList 32 ∧ cutA (cutR s.data.toList 32) 32 = textOf (cats l) ∧ cutR (cutR s.data.toList 32) 32 = Lib.itoa v := by
  rw [strOf_eta] at h
  obtain ⟨h1, h2⟩ := evT_parts l k v hk
  obtain ⟨h3, h4⟩ := cutA_of (A := textOf (cats l)) (R := Lib.itoa v) (text_no (cats l) 32 (.inl rfl))
  rw [h, h1, h2, h3, h4]
  exact ⟨by unfold evT; simp, rfl, by simp, rfl, rfl⟩
theorem readV_not {s : ByteArray} (h : ∀ (l k : Nat) (v : Int), l < 18446744073709551616 → k < 26 → (-9223372036854775808 ≤ v ∧ v ≤ 9223372036854775807) → s ≠ strOf (evT l k v)) : readV s = .tuple #[ev 0 0 0, .int .i64 3] := by
  rcases readV_cases s with ⟨l, k, v, hl, hk, hv, _, e⟩ | e
  · obtain ⟨k0, k1⟩ := isKindB_iff.1 hk
    obtain ⟨j, rfl⟩ := Int.eq_ofNat_of_zero_le k0
    exact absurd e.symm (h l j v hl (by omega) hv)
  · exact e
theorem readV_kind {s : ByteArray} (h : (kindI (strOf (cutA s.data.toList 32))).2 ≠ 0) : readV s = .tuple #[ev 0 0 0, .int .i64 3] :=
  readV_not fun l k v _ hk _ e => h (by rw [(evT_all hk e).2.1, kindI_letL hk])
theorem readV_blank {s : ByteArray} (h : 32 ∉ s.data.toList) : readV s = .tuple #[ev 0 0 0, .int .i64 3] :=
  readV_not fun _ _ _ _ hk _ e => h (evT_all hk e).1
theorem readV_label {s : ByteArray} (h : (parseI (strOf (cutA (cutR s.data.toList 32) 32))).2.1 ≠ 0) : readV s = .tuple #[ev 0 0 0, .int .i64 3] :=
  readV_not fun l k v hl hk _ e => h (by rw [(evT_all hk e).2.2.2.1, parse_text l hl])
theorem readV_blank2 {s : ByteArray} (h : 32 ∉ cutR s.data.toList 32) : readV s = .tuple #[ev 0 0 0, .int .i64 3] :=
  readV_not fun _ _ _ _ hk _ e => h (evT_all hk e).2.2.1
theorem readV_value {s : ByteArray} (h : ∀ v : Int, -9223372036854775808 ≤ v → v ≤ 9223372036854775807 → cutR (cutR s.data.toList 32) 32 ≠ Lib.itoa v) : readV s = .tuple #[ev 0 0 0, .int .i64 3] :=
  readV_not fun _ _ v _ hk hv e => h v hv.1 hv.2 (evT_all hk e).2.2.2.2
theorem readV_yes {s : ByteArray} {k : Nat} {v : Int} (hk : k < 26) (h1 : 32 ∈ s.data.toList) (h2 : strOf (cutA s.data.toList 32) = letL k) (h3 : 32 ∈ cutR s.data.toList 32)
    (h4 : (parseI (strOf (cutA (cutR s.data.toList 32) 32))).2.1 = 0) (h5 : cutR (cutR s.data.toList 32) 32 = Lib.itoa v) (hv0 : -9223372036854775808 ≤ v) (hv1 : v ≤ 9223372036854775807) :
    readV s = .tuple #[ev (rL s) k v, .int .i64 0] := by
  obtain ⟨l, hl, hl2, e⟩ := parse_back _ h4
  have hl3 : rL s = l := by unfold rL; rw [hl2]; simp
  have e2 := strOf_inj e
  have hs : s = strOf (evT l k v) := by
    rw [strOf_eta, (index_some h1).2, (index_some h3).2, ← e2, h5]
    have : cutA s.data.toList 32 = [UInt8.ofNat (65 + k)] := strOf_inj h2
    rw [this]
    unfold evT
    simp
  rw [hl3, hs]
  exact readV_text hl hk hv0 hv1
/-- The parts of the text of an Id. -/
theorem idT_all {s : ByteArray} {l n : Nat} (h : s = strOf (idT l n)) : 35 ∈ s.data.toList ∧ cutA s.data.toList 35 = textOf (cats l) ∧ cutR s.data.toList 35 = Lib.decDigits n := by
  rw [strOf_eta] at h
  have e : idT l n = textOf (cats l) ++ 35 :: Lib.decDigits n := by unfold idT; simp
  obtain ⟨h3, h4⟩ := cutA_of (A := textOf (cats l)) (R := Lib.decDigits n) (text_no (cats l) 35 (.inr rfl))
  rw [h, e, h3, h4]
  exact ⟨by simp, rfl, rfl⟩
theorem readIdV_not {s : ByteArray} (h : ∀ l n : Nat, l < 18446744073709551616 → n < 18446744073709551616 → isCountB (n : Int) = true → s ≠ strOf (idT l n)) : readIdV s = .tuple #[idv 0 0, .int .i64 3] := by
  rcases readIdV_cases s with ⟨l, n, hl, hn, hc, _, e⟩ | e
  · exact absurd e.symm (h l n hl hn hc)
  · exact e
theorem readIdV_label {s : ByteArray} (h : (parseI (strOf (cutA s.data.toList 35))).2.1 ≠ 0) : readIdV s = .tuple #[idv 0 0, .int .i64 3] :=
  readIdV_not fun l n hl _ _ e => h (by rw [(idT_all e).2.1, parse_text l hl])
theorem readIdV_mark {s : ByteArray} (h : 35 ∉ s.data.toList) : readIdV s = .tuple #[idv 0 0, .int .i64 3] :=
  readIdV_not fun _ _ _ _ _ e => h (idT_all e).1
theorem readIdV_value {s : ByteArray} (h : ∀ n : Nat, n < 18446744073709551616 → isCountB (n : Int) = true → cutR s.data.toList 35 ≠ Lib.decDigits n) : readIdV s = .tuple #[idv 0 0, .int .i64 3] :=
  readIdV_not fun _ n _ hn hc e => h n hn hc (idT_all e).2.2
theorem readIdV_yes {s : ByteArray} {n : Nat} (h1 : 35 ∈ s.data.toList) (h4 : (parseI (strOf (cutA s.data.toList 35))).2.1 = 0) (h5 : cutR s.data.toList 35 = Lib.decDigits n) (hc : isCountB (n : Int) = true) :
    readIdV s = .tuple #[idv (iL s) n, .int .i64 0] := by
  obtain ⟨l, hl, hl2, e⟩ := parse_back _ h4
  have hl3 : iL s = l := by unfold iL; rw [hl2]; simp
  have e2 := strOf_inj e
  have hs : s = strOf (idT l n) := by
    rw [strOf_eta, (index_some h1).2, ← e2, h5]
    unfold idT
    simp
  rw [hl3, hs]
  exact readIdV_text hl hc
/-- Lists of digits that write no number below 2^64. -/
theorem dec_len {u : Nat} (hu : u < 18446744073709551616) : (Lib.decDigits u).length ≤ 20 := by
  have := dec_size u hu
  rwa [strOf_len] at this
theorem dec_not_digit {ds : List UInt8} {j : Nat} {b : UInt8} (h : ds[j]? = some b) (hb : isD b = false) (u : Nat) : ds ≠ Lib.decDigits u := fun e => by
  have := dec_all u b (by rw [← e]; exact List.mem_of_getElem? h)
  rw [hb] at this
  cases this
theorem dec_not_long {ds : List UInt8} (h : 20 < ds.length) {u : Nat} (hu : u < 18446744073709551616) : ds ≠ Lib.decDigits u := fun e => by
  have := dec_len hu
  rw [← e] at this
  omega
theorem decN_append (a b : List UInt8) (x : Nat) : decN x (a ++ b) = decN (decN x a) b := by unfold decN; rw [List.foldl_append]
theorem dec_not_great {ds : List UInt8} {k : Nat} (h : 18446744073709551616 ≤ decN 0 (ds.take k)) {u : Nat} (hu : u < 18446744073709551616) : ds ≠ Lib.decDigits u := fun e => by
  have h1 := dec_val u
  rw [← e, ← List.take_append_drop k ds, decN_append] at h1
  have := decN_ge (ds.drop k) (decN 0 (ds.take k))
  omega
end Go.Proofs.YtcmdndgaggbhoaaGreatDoor.Ev
