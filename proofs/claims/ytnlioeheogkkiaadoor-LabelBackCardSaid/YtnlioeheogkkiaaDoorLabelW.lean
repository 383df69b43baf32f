/- What was written is read: whole texts; what is read was written. -/
import Derived.Test.YtnlioeheogkkiaaDoorLabelV
namespace Go.Proofs.YtnlioeheogkkiaaDoor.Lb
open Go

theorem cats_pair (n : Nat) : (cats n).Pairwise (· < ·) := List.Pairwise.filter _ List.pairwise_lt_range
theorem data_app (l : List UInt8) (t : ByteArray) : (strOf l ++ t).data.toList = l ++ t.data.toList := by simp [strOf]
theorem size_len (s : ByteArray) : s.data.toList.length = s.size := by rw [Array.length_toList]; rfl

theorem read_text (a : Nat) (ha : a < 18446744073709551616) (t : ByteArray) :
    readI (strOf (textOf (cats a)) ++ t) = ((a : Int), ((textOf (cats a)).length : Int), 0, 0) := by
  have hp := cats_pair a
  have hk : ∀ k ∈ cats a, k < 64 := fun k hk => by simpa using (List.mem_filter.1 hk).1
  have ho := orN_cats a ha
  obtain ⟨zs, hz⟩ : ∃ zs, zs = cats a := ⟨_, rfl⟩
  rw [← hz] at hp hk ho ⊢
  have hd := data_app (textOf zs) t
  obtain ⟨S, hS⟩ : ∃ S, S = strOf (textOf zs) ++ t := ⟨_, rfl⟩
  rw [← hS] at hd ⊢
  have h0 : S.data.toList.drop 0 = 123 :: (Lib.join (zs.map Lib.decDigits) [44] ++ [125] ++ t.data.toList) := by rw [List.drop_zero, hd]; simp [textOf]
  obtain ⟨b0, _, h1⟩ := bt_drop h0
  rw [Nat.zero_add] at h1
  unfold readI
  rw [b0, if_neg (by decide)]
  cases zs with
  | nil =>
    have h1' : S.data.toList.drop 1 = 125 :: t.data.toList := by rw [h1]; rfl
    rw [(bt_drop h1').1, if_pos (by decide)]
    have : a = 0 := ho.symm
    subst this
    rfl
  | cons z zs =>
    have hz64 := hk z (by simp)
    obtain ⟨f1, f2, f3, f4⟩ := dd_facts z hz64
    obtain ⟨x, y, hxy⟩ : ∃ x y, dd z = x :: y := by
      cases hdd : dd z with
      | nil => rw [hdd] at f3; simp at f3
      | cons x y => exact ⟨x, y, rfl⟩
    have hx : isDig (x.toNat : Int) = true := by rw [hxy] at f1; simp at f1; exact f1.1
    have h1' : ∃ r, S.data.toList.drop 1 = x :: r := by
      rw [h1, List.map_cons, Lib.join_cons, dd_eq z hz64, hxy]
      exact ⟨_, rfl⟩
    obtain ⟨r, hr⟩ := h1'
    have hx2 := isDig_iff.1 hx
    rw [(bt_drop hr).1, if_neg (by omega)]
    have hlen : zs.length < S.size + 1 := by
      have e := size_len S
      rw [hd] at e
      have := Lib.join_length (Lib.decDigits z) (zs.map Lib.decDigits) [44]
      simp [textOf] at e this
      omega
    have hg := go_text S t.data.toList zs z 1 0 0 (S.size + 1) hk hp (by omega) hlen (by decide) h1
    rw [show ((0 : Nat) : Int) = 0 from rfl] at hg
    rw [hg]
    have ho' : (z :: zs).foldl (fun a k => a ||| 2 ^ k) 0 = a := ho
    rw [ho']
    simp [textOf]
    omega

theorem parse_text (a : Nat) (ha : a < 18446744073709551616) : parseI (strOf (textOf (cats a))) = ((a : Int), 0, 0) := by
  have h := read_text a ha ByteArray.empty
  rw [ByteArray.append_empty] at h
  unfold parseI
  rw [h]
  have e : ((textOf (cats a)).length : Int) = ((strOf (textOf (cats a))).size : Int) := by
    rw [← size_len]; simp [strOf]
  rw [if_neg (by simp), if_neg (by rw [e]; simp)]

theorem foldl_ge (ds : List UInt8) : ∀ a : Nat, a ≤ ds.foldl (fun a d => 10 * a + (d.toNat - 48)) a := by
  induction ds with
  | nil => intro a; exact Nat.le_refl _
  | cons d ds ih => intro a; rw [List.foldl_cons]; exact Nat.le_trans (by omega) (ih _)

theorem num_back {s : ByteArray} {i : Nat} (h : (numI s i).2.2.1 = 0) : decOf (digs s i) < 64 ∧ Lib.decDigits (decOf (digs s i)) = digs s i := by
  unfold numI at h
  split at h
  · simp at h
  · rename_i h0
    split at h
    · simp at h
    · rename_i h1
      split at h
      · simp at h
      · rename_i h2
        have hall : ∀ b ∈ digs s i, isDig (b.toNat : Int) = true := fun b hb => by
          unfold digs at hb
          exact List.all_eq_true.1 List.all_takeWhile b hb
        have hpre : s.data.toList.drop i = digs s i ++ (s.data.toList.drop i).dropWhile (fun b => isDig (b.toNat : Int)) := by
          unfold digs; exact List.takeWhile_append_dropWhile.symm
        obtain ⟨ds, hds⟩ : ∃ ds, ds = digs s i := ⟨_, rfl⟩
        rw [← hds] at h0 h1 h2 hall hpre ⊢
        refine ⟨by omega, ?_⟩
        match ds, h0, h1, h2, hall, hpre with
        | [], h0, _, _, _, _ => simp at h0
        | [d], _, _, h2, hall, _ =>
          have hd := isDig_iff.1 (hall d (by simp))
          have e : decOf [d] = d.toNat - 48 := by simp [decOf]
          rw [e, Lib.decDigits_one (by omega)]
          congr 1
          apply UInt8.toNat_inj.1
          rw [UInt8.toNat_ofNat']
          omega
        | [d, e], _, h1, h2, hall, hpre =>
          have hd := isDig_iff.1 (hall d (by simp))
          have he := isDig_iff.1 (hall e (by simp))
          have hb := (bt_drop hpre).1
          have hne : d.toNat ≠ 48 := fun hh => h1 ⟨by rw [hb]; omega, by simp⟩
          have ee : decOf [d, e] = 10 * (d.toNat - 48) + (e.toNat - 48) := by simp [decOf]
          rw [ee] at h2 ⊢
          rw [Lib.decDigits_two (by omega) (by omega)]
          congr 1
          · apply UInt8.toNat_inj.1
            rw [UInt8.toNat_ofNat']
            omega
          · congr 1
            apply UInt8.toNat_inj.1
            rw [UInt8.toNat_ofNat']
            omega
        | d :: e :: f :: r, _, h1, h2, hall, hpre =>
          exfalso
          have hd := isDig_iff.1 (hall d (by simp))
          have hb := (bt_drop hpre).1
          have hne : d.toNat ≠ 48 := fun hh => h1 ⟨by rw [hb]; omega, by simp⟩
          have := foldl_ge r (10 * (10 * (10 * 0 + (d.toNat - 48)) + (e.toNat - 48)) + (f.toNat - 48))
          have ee : decOf (d :: e :: f :: r) = r.foldl (fun a d => 10 * a + (d.toNat - 48)) (10 * (10 * (10 * 0 + (d.toNat - 48)) + (e.toNat - 48)) + (f.toNat - 48)) := rfl
          omega
end Go.Proofs.YtnlioeheogkkiaaDoor.Lb
