/- Decimal digits and the texts of events, as lists of bytes: which texts are alike. Nothing here speaks of the program. -/
import Derived.Test.YtcmdndgaggbhoaaGreatDoorEventK
import Derived.Test.YtcmdndgaggbhoaaGreatDoorEventM
namespace Go.Proofs.YtcmdndgaggbhoaaGreatDoor.Ev
open Go.RowKit
open Lb Wr

def isD (b : UInt8) : Bool := decide (48 ≤ b.toNat) && decide (b.toNat ≤ 57)
theorem isD_iff {b : UInt8} : isD b = true ↔ 48 ≤ b.toNat ∧ b.toNat ≤ 57 := by simp [isD]
theorem digit_val (d : Nat) (h : d < 10) : (UInt8.ofNat (48 + d)).toNat = 48 + d := by
  rw [UInt8.toNat_ofNat']
  omega
/-- The number that digits spell, behind a. -/
def decN (a : Nat) (ds : List UInt8) : Nat := ds.foldl (fun a d => 10 * a + (d.toNat - 48)) a
theorem decN_snoc (a : Nat) (ds : List UInt8) (d : UInt8) : decN a (ds ++ [d]) = 10 * decN a ds + (d.toNat - 48) := by unfold decN; rw [List.foldl_append]; rfl
theorem decN_cons (a : Nat) (d : UInt8) (ds : List UInt8) : decN a (d :: ds) = decN (10 * a + (d.toNat - 48)) ds := by unfold decN; rw [List.foldl_cons]
theorem decN_ge (ds : List UInt8) : ∀ a, a ≤ decN a ds := by
  induction ds with
  | nil => intro a; exact Nat.le_refl _
  | cons d ds ih => intro a; rw [decN_cons]; exact Nat.le_trans (by omega) (ih _)
theorem dec_one {u : Nat} (h : u < 10) : Lib.decDigits u = [UInt8.ofNat (48 + u)] := Lib.decDigits_one h
theorem dec_more {u : Nat} (h : ¬ u < 10) : Lib.decDigits u = Lib.decDigits (u / 10) ++ [UInt8.ofNat (48 + u % 10)] := by
  rw [Lib.decDigits, dif_neg h]
theorem dec_all (u : Nat) : ∀ b ∈ Lib.decDigits u, isD b = true := by
  induction u using Nat.strongRecOn with
  | ind u ih =>
    by_cases h : u < 10
    · rw [dec_one h]
      intro b hb
      obtain rfl := List.mem_singleton.1 hb
      exact isD_iff.2 (by rw [digit_val u h]; omega)
    · rw [dec_more h]
      intro b hb
      rcases List.mem_append.1 hb with hb | hb
      · exact ih (u / 10) (by omega) b hb
      · obtain rfl := List.mem_singleton.1 hb
        exact isD_iff.2 (by rw [digit_val _ (by omega)]; omega)
theorem dec_val (u : Nat) : decN 0 (Lib.decDigits u) = u := by
  induction u using Nat.strongRecOn with
  | ind u ih =>
    by_cases h : u < 10
    · rw [dec_one h]
      show 10 * 0 + ((UInt8.ofNat (48 + u)).toNat - 48) = u
      rw [digit_val u h]
      omega
    · rw [dec_more h, decN_snoc, ih (u / 10) (by omega), digit_val _ (by omega)]
      omega
theorem dec_inj {u v : Nat} (h : Lib.decDigits u = Lib.decDigits v) : u = v := by rw [← dec_val u, ← dec_val v, h]
theorem dec_ne (u : Nat) : Lib.decDigits u ≠ [] := by
  by_cases h : u < 10
  · rw [dec_one h]; simp
  · rw [dec_more h]; simp
/-- A number's first digit is 0 for 0 alone. -/
theorem dec_head (u : Nat) (h : 1 ≤ u) : ∃ d ds, Lib.decDigits u = d :: ds ∧ 49 ≤ d.toNat := by
  induction u using Nat.strongRecOn with
  | ind u ih =>
    by_cases h1 : u < 10
    · exact ⟨_, [], dec_one h1, by rw [digit_val u h1]; omega⟩
    · obtain ⟨d, ds, e, hd⟩ := ih (u / 10) (by omega) (by omega)
      exact ⟨d, ds ++ [UInt8.ofNat (48 + u % 10)], by rw [dec_more h1, e]; rfl, hd⟩
/-- The digits of the number that digits spell are these, unless the first one is a needless 0. -/
theorem dec_of (ds : List UInt8) : ∀ (a : Nat), 1 ≤ a → (∀ b ∈ ds, isD b = true) → Lib.decDigits (decN a ds) = Lib.decDigits a ++ ds := by
  induction ds with
  | nil => intro a _ _; simp [decN]
  | cons d ds ih =>
    intro a ha hd
    have hb := isD_iff.1 (hd d (by simp))
    rw [decN_cons, ih _ (by omega) (fun b hb => hd b (by simp [hb]))]
    have e : Lib.decDigits (10 * a + (d.toNat - 48)) = Lib.decDigits a ++ [d] := by
      rw [dec_more (by omega)]
      have e1 : (10 * a + (d.toNat - 48)) / 10 = a := by omega
      have e2 : UInt8.ofNat (48 + (10 * a + (d.toNat - 48)) % 10) = d := by
        apply UInt8.toNat_inj.1
        rw [digit_val _ (by omega)]
        omega
      rw [e1, e2]
    rw [e]
    simp
theorem dec_back (d : UInt8) (ds : List UInt8) (hd : ∀ b ∈ d :: ds, isD b = true) (h0 : d.toNat = 48 → ds = []) : Lib.decDigits (decN 0 (d :: ds)) = d :: ds := by
  have hb := isD_iff.1 (hd d (by simp))
  by_cases h : d.toNat = 48
  · obtain rfl := h0 h
    have : decN 0 [d] = 0 := by show 10 * 0 + (d.toNat - 48) = 0; omega
    rw [this, dec_one (by decide)]
    congr 1
    apply UInt8.toNat_inj.1
    rw [h]
    rfl
  · rw [decN_cons, dec_of ds _ (by omega) (fun b hb => hd b (by simp [hb])), dec_one (by omega)]
    have e2 : UInt8.ofNat (48 + (10 * 0 + (d.toNat - 48))) = d := by
      apply UInt8.toNat_inj.1
      rw [digit_val _ (by omega)]
      omega
    rw [e2]
    rfl
theorem itoa_pos {v : Int} (h : 0 ≤ v) : Lib.itoa v = Lib.decDigits v.toNat := by unfold Lib.itoa; rw [if_neg (by omega)]
theorem itoa_neg {v : Int} (h : v < 0) : Lib.itoa v = 45 :: Lib.decDigits v.natAbs := by unfold Lib.itoa; rw [if_pos h]
theorem dec_cons (u : Nat) : ∃ d ds, Lib.decDigits u = d :: ds ∧ isD d = true := by
  cases e : Lib.decDigits u with
  | nil => exact absurd e (dec_ne u)
  | cons d ds => exact ⟨d, ds, rfl, dec_all u d (by rw [e]; simp)⟩
theorem itoa_inj {v x : Int} (h : Lib.itoa v = Lib.itoa x) : v = x := by
  by_cases h1 : 0 ≤ v
  · rw [itoa_pos h1] at h
    by_cases h2 : 0 ≤ x
    · rw [itoa_pos h2] at h
      have := dec_inj h
      omega
    · rw [itoa_neg (by omega)] at h
      obtain ⟨d, ds, e, hd⟩ := dec_cons v.toNat
      rw [e] at h
      obtain ⟨rfl, _⟩ := List.cons.inj h
      exact absurd hd (by decide)
  · rw [itoa_neg (by omega)] at h
    by_cases h2 : 0 ≤ x
    · rw [itoa_pos h2] at h
      obtain ⟨d, ds, e, hd⟩ := dec_cons x.toNat
      rw [e] at h
      obtain ⟨rfl, _⟩ := List.cons.inj h
      exact absurd hd (by decide)
    · rw [itoa_neg (by omega)] at h
      have := dec_inj (List.cons.inj h).2
      omega
/-- What stands in the text of a label: no blank, no #. -/
theorem mem_joinTail {sep : List UInt8} {r : List (List UInt8)} {b : UInt8} (h : b ∈ Lib.joinTail sep r) : b ∈ sep ∨ ∃ x ∈ r, b ∈ x := by
  unfold Lib.joinTail at h
  rw [List.mem_flatten] at h
  obtain ⟨l, hl, hb⟩ := h
  obtain ⟨x, hx, rfl⟩ := List.mem_map.1 hl
  rcases List.mem_append.1 hb with h1 | h1
  · exact .inl h1
  · exact .inr ⟨x, hx, h1⟩
theorem text_mem {zs : List Nat} {b : UInt8} (h : b ∈ textOf zs) : b.toNat = 123 ∨ b.toNat = 125 ∨ b.toNat = 44 ∨ isD b = true := by
  unfold textOf at h
  rcases List.mem_append.1 h with h | h
  · rcases List.mem_append.1 h with h | h
    · obtain rfl := List.mem_singleton.1 h; exact .inl rfl
    · cases zs with
      | nil => rw [List.map_nil, Lib.join_nil] at h; cases h
      | cons z r =>
        rw [List.map_cons, Lib.join_cons] at h
        rcases List.mem_append.1 h with h | h
        · exact .inr (.inr (.inr (dec_all _ _ h)))
        · rcases mem_joinTail h with h | ⟨x, hx, h⟩
          · obtain rfl := List.mem_singleton.1 h; exact .inr (.inr (.inl rfl))
          · obtain ⟨y, _, rfl⟩ := List.mem_map.1 hx
            exact .inr (.inr (.inr (dec_all _ _ h)))
  · obtain rfl := List.mem_singleton.1 h; exact .inr (.inl rfl)
theorem text_no (zs : List Nat) (c : UInt8) (h1 : c = 32 ∨ c = 35) : c ∉ textOf zs := fun h => by
  rcases text_mem h with e | e | e | e
  · rcases h1 with rfl | rfl <;> exact absurd e (by decide)
  · rcases h1 with rfl | rfl <;> exact absurd e (by decide)
  · rcases h1 with rfl | rfl <;> exact absurd e (by decide)
  · rcases h1 with rfl | rfl <;> exact absurd e (by decide)
/-- What stands ahead of the first c, and what behind it, is told by the whole. -/
theorem cut_same {c : UInt8} : ∀ {A B R S : List UInt8}, c ∉ A → c ∉ B → A ++ c :: R = B ++ c :: S → A = B ∧ R = S
  | [], [], R, S, _, _, h => ⟨rfl, (List.cons.inj h).2⟩
  | [], b :: B, R, S, _, hb, h => absurd (List.cons.inj h).1 (fun e => hb (by rw [e]; simp))
  | a :: A, [], R, S, ha, _, h => absurd (List.cons.inj h).1 (fun e => ha (by rw [e]; simp))
  | a :: A, b :: B, R, S, ha, hb, h => by
    obtain ⟨e, h'⟩ := List.cons.inj h
    obtain ⟨h1, h2⟩ := cut_same (fun m => ha (by simp [m])) (fun m => hb (by simp [m])) h'
    exact ⟨by rw [e, h1], h2⟩
theorem strOf_inj {a b : List UInt8} (h : strOf a = strOf b) : a = b := by
  have := congrArg (fun s => s.data.toList) h
  simpa [strOf] using this
theorem textOf_inj {a b : Nat} (ha : a < 18446744073709551616) (hb : b < 18446744073709551616) (h : textOf (cats a) = textOf (cats b)) : a = b := by
  have h1 := parse_text a ha
  rw [h, parse_text b hb] at h1
  have := congrArg Prod.fst h1
  simp only at this
  omega
theorem evT_inj {l m : Nat} {k j v x : Int} (hl : l < 18446744073709551616) (hm : m < 18446744073709551616) (hk : isKindB k = true) (hj : isKindB j = true) (h : evT l k v = evT m j x) : (l : Int) = m ∧ k = j ∧ v = x := by
  obtain ⟨k0, k1⟩ := isKindB_iff.1 hk
  obtain ⟨j0, j1⟩ := isKindB_iff.1 hj
  unfold evT at h
  simp only [List.append_assoc, List.singleton_append] at h
  obtain ⟨h1, h2⟩ := List.cons.inj h
  have e1 := congrArg UInt8.toNat h1
  rw [UInt8.toNat_ofNat', UInt8.toNat_ofNat'] at e1
  obtain ⟨h3, h4⟩ := cut_same (text_no _ 32 (.inl rfl)) (text_no _ 32 (.inl rfl)) (List.cons.inj h2).2
  exact ⟨by rw [textOf_inj hl hm h3], by omega, itoa_inj h4⟩
theorem evB_inj {l m k j v x : Nat} (hl : l < 18446744073709551616) (hm : m < 18446744073709551616) (hk : k < 256) (hj : j < 256) (hv : v < 18446744073709551616) (hx : x < 18446744073709551616) (h : evB l k v = evB m j x) : l = m ∧ k = j ∧ v = x := by
  unfold evB at h
  obtain ⟨h1, h2⟩ := List.append_inj h (by simp [digI_length])
  obtain ⟨h3, h4⟩ := List.append_inj h1 (by simp [digI_length])
  have e1 := congrArg numOf h3
  have e2 := congrArg numOf h4
  have e3 := congrArg numOf h2
  rw [numOf_digI, numOf_digI] at e1 e2 e3
  have p8 : 256 ^ 8 = 18446744073709551616 := by decide
  have p1 : 256 ^ 1 = 256 := by decide
  rw [p8] at e1 e3
  rw [p1] at e2
  omega
end Go.Proofs.YtcmdndgaggbhoaaGreatDoor.Ev
