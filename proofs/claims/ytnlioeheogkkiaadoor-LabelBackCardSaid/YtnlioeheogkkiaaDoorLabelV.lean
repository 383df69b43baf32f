/- What was written is read: the text of a label. -/
import Derived.Test.YtnlioeheogkkiaaDoorLabelU
import Derived.Test.YtnlioeheogkkiaaDoorLabelS
namespace Go.Proofs.YtnlioeheogkkiaaDoor.Lb
open Go

def dd (z : Nat) : List UInt8 := if z < 10 then [UInt8.ofNat (48 + z)] else [UInt8.ofNat (48 + z / 10), UInt8.ofNat (48 + z % 10)]
theorem dd_eq (z : Nat) (h : z < 64) : Lib.decDigits z = dd z := by
  unfold dd
  by_cases h1 : z < 10
  · rw [if_pos h1, Lib.decDigits_one h1]
  · rw [if_neg h1, Lib.decDigits_two h1 (by omega)]
theorem dd_facts : ∀ z < 64, (dd z).all (fun b => isDig (b.toNat : Int)) = true ∧ decOf (dd z) = z ∧ (dd z).length ≠ 0 ∧ (((dd z).headD 0).toNat = 48 → (dd z).length = 1) := by decide +kernel

theorem bt_drop {s : ByteArray} {i : Nat} {c : UInt8} {r : List UInt8} (h : s.data.toList.drop i = c :: r) : bt s i = (c.toNat : Int) ∧ i < s.size ∧ s.data.toList.drop (i + 1) = r := by
  have hlt : i < s.data.toList.length := by
    apply Classical.byContradiction
    intro hn
    rw [List.drop_eq_nil_of_le (by omega)] at h
    cases h
  rw [List.drop_eq_getElem_cons hlt] at h
  injection h with h1 h2
  have hs : i < s.size := by
    have e : s.data.toList.length = s.size := by rw [Array.length_toList]; rfl
    omega
  refine ⟨?_, hs, h2⟩
  rw [bt_in hs]
  rw [← h1]
  rfl
theorem drop_more {α : Type} {l a b : List α} {i : Nat} (h : l.drop i = a ++ b) : l.drop (i + a.length) = b := by
  rw [← List.drop_drop, h]; simp

/-- A category's digits, and a byte behind them that is none. -/
theorem num_text {s : ByteArray} {i z : Nat} {c : UInt8} {r : List UInt8} (hz : z < 64) (hc : isDig (c.toNat : Int) = false) (h : s.data.toList.drop i = Lib.decDigits z ++ c :: r) :
    digs s i = Lib.decDigits z ∧ decOf (digs s i) = z ∧ (numI s i).2.2.1 = 0 ∧ bt s (i + (digs s i).length) = (c.toNat : Int) ∧ s.data.toList.drop (i + (digs s i).length + 1) = r := by
  rw [dd_eq z hz] at h ⊢
  obtain ⟨f1, f2, f3, f4⟩ := dd_facts z hz
  have hd : digs s i = dd z := by
    unfold digs
    rw [h, List.takeWhile_append_of_pos (fun b hb => (List.all_eq_true.1 f1) b hb), List.takeWhile_cons, hc]
    simp
  have h2 := drop_more h
  obtain ⟨g1, g2, g3⟩ := bt_drop h2
  rw [hd]
  refine ⟨rfl, f2, ?_, g1, g3⟩
  unfold numI
  rw [hd, f2, if_neg f3, if_neg, if_neg (by omega)]
  intro ⟨h48, hlen⟩
  obtain ⟨x, y, hx⟩ : ∃ x y, dd z = x :: y := by
    cases hdd : dd z with
    | nil => rw [hdd] at f3; simp at f3
    | cons x y => exact ⟨x, y, rfl⟩
  rw [hx, List.cons_append] at h
  have := (bt_drop h).1
  rw [hx] at f4 hlen
  have : (x.toNat : Int) = 48 := by omega
  have := f4 (by simpa using (by omega : x.toNat = 48))
  omega

/-- Read, from the first digit of an ascending list of categories. -/
theorem go_text (s : ByteArray) (tail : List UInt8) (zs : List Nat) : ∀ (z i least l fuel : Nat), (∀ k ∈ z :: zs, k < 64) → (z :: zs).Pairwise (· < ·) → least ≤ z → zs.length < fuel → l < 18446744073709551616 →
    s.data.toList.drop i = Lib.join ((z :: zs).map Lib.decDigits) [44] ++ [125] ++ tail →
    readGo s fuel i least (l : Int) = ((((z :: zs).foldl (fun a k => a ||| 2 ^ k) l : Nat) : Int), ((i + (Lib.join ((z :: zs).map Lib.decDigits) [44]).length + 1 : Nat) : Int), 0, 0) := by
  induction zs with
  | nil =>
    intro z i least l fuel hk hp hle hf hl h
    have hz := hk z (by simp)
    obtain ⟨f, rfl⟩ : ∃ f, fuel = f + 1 := ⟨fuel - 1, by omega⟩
    simp only [List.map_cons, List.map_nil, Lib.join_one, List.append_assoc, List.singleton_append] at h ⊢
    obtain ⟨h1, h2, h3, h4, _⟩ := num_text hz (by decide) h
    unfold readGo
    rw [h2, h3, h4, if_neg (by simp), if_neg (by omega), if_pos (by decide), bitOf_nat z hz, or_nat _ _ hl (by
      rw [show (18446744073709551616 : Nat) = 2 ^ 64 by decide]; exact Nat.pow_lt_pow_right (by decide) hz), h1]
    simp
  | cons y zs ih =>
    intro z i least l fuel hk hp hle hf hl h
    have hz := hk z (by simp)
    obtain ⟨f, rfl⟩ : ∃ f, fuel = f + 1 := ⟨fuel - 1, by simp at hf; omega⟩
    have hj : Lib.join ((z :: y :: zs).map Lib.decDigits) [44] = Lib.decDigits z ++ 44 :: Lib.join ((y :: zs).map Lib.decDigits) [44] := by
      simp only [List.map_cons]
      rw [Lib.join_cons, Lib.join_cons]
      simp [Lib.joinTail]
    rw [hj] at h ⊢
    have h' : s.data.toList.drop i = Lib.decDigits z ++ 44 :: (Lib.join ((y :: zs).map Lib.decDigits) [44] ++ [125] ++ tail) := by rw [h]; simp
    obtain ⟨h1, h2, h3, h4, h5⟩ := num_text hz (by decide) h'
    have hb : 2 ^ z < 18446744073709551616 := by
      rw [show (18446744073709551616 : Nat) = 2 ^ 64 by decide]; exact Nat.pow_lt_pow_right (by decide) hz
    have hzy : z < y := (List.pairwise_cons.1 hp).1 y (by simp)
    have := ih y (i + (digs s i).length + 1) (z + 1) (l ||| 2 ^ z) f (fun k hk' => hk k (by simp at hk' ⊢; exact .inr hk')) (List.pairwise_cons.1 hp).2 (by omega) (by simp at hf; omega) (by
      rw [show (18446744073709551616 : Nat) = 2 ^ 64 by decide] at hl hb ⊢
      exact Nat.or_lt_two_pow hl hb) h5
    unfold readGo
    rw [h2, h3, h4, if_neg (by simp), if_neg (by omega), if_neg (by decide), if_pos (by decide), bitOf_nat z hz, or_nat _ _ hl hb, this, h1]
    simp only [List.foldl_cons, List.length_append, List.length_cons]
    congr 2
    omega
end Go.Proofs.YtnlioeheogkkiaaDoor.Lb
