/- What is read was written. -/
import Derived.Test.YtnlioeheogkkiaaDoorLabelW
namespace Go.Proofs.YtnlioeheogkkiaaDoor.Lb
open Go

theorem sorted_ext : ∀ (xs ys : List Nat), xs.Pairwise (· < ·) → ys.Pairwise (· < ·) → (∀ i, i ∈ xs ↔ i ∈ ys) → xs = ys
  | [], [], _, _, _ => rfl
  | [], y :: ys, _, _, h => by have := (h y).2 (by simp); cases this
  | x :: xs, [], _, _, h => by have := (h x).1 (by simp); cases this
  | x :: xs, y :: ys, hx, hy, h => by
    rw [List.pairwise_cons] at hx hy
    have h1 := (h x).1 (by simp)
    have h2 := (h y).2 (by simp)
    have e : x = y := by
      rcases List.mem_cons.1 h1 with h1 | h1
      · exact h1
      · rcases List.mem_cons.1 h2 with h2 | h2
        · exact h2.symm
        · have := hx.1 y h2
          have := hy.1 x h1
          omega
    subst e
    congr 1
    refine sorted_ext xs ys hx.2 hy.2 fun i => ⟨fun hi => ?_, fun hi => ?_⟩
    · rcases List.mem_cons.1 ((h i).1 (List.mem_cons_of_mem _ hi)) with h3 | h3
      · have := hx.1 i hi; omega
      · exact h3
    · rcases List.mem_cons.1 ((h i).2 (List.mem_cons_of_mem _ hi)) with h3 | h3
      · have := hy.1 i hi; omega
      · exact h3
theorem cats_orN (zs : List Nat) (hp : zs.Pairwise (· < ·)) (hk : ∀ k ∈ zs, k < 64) : cats (orN zs) = zs := by
  refine sorted_ext _ _ (cats_pair _) hp fun i => ?_
  unfold cats
  rw [List.mem_filter, orN_bit, decide_eq_true_iff, List.mem_range]
  exact ⟨fun h => h.2, fun h => ⟨hk i h, h⟩⟩

theorem bt_pos {s : ByteArray} {i : Nat} {c : Int} (h : bt s i = c) (hc : c ≠ 0) : ∃ b : UInt8, (b.toNat : Int) = c ∧ s.data.toList.drop i = b :: s.data.toList.drop (i + 1) := by
  have hlt : i < s.size := by
    apply Classical.byContradiction
    intro hn
    rw [bt_out hn] at h
    exact hc h.symm
  have hl : i < s.data.toList.length := by rw [size_len]; exact hlt
  refine ⟨s.data.toList[i], ?_, List.drop_eq_getElem_cons hl⟩
  rw [← h, bt_in hlt]
  rfl

theorem go_back (s : ByteArray) : ∀ (fuel i least l : Nat), l < 18446744073709551616 → (readGo s fuel i least (l : Int)).2.2.1 = 0 →
    ∃ (z : Nat) (zs : List Nat) (rest : List UInt8), (z :: zs).Pairwise (· < ·) ∧ least ≤ z ∧ (∀ k ∈ z :: zs, k < 64) ∧
      s.data.toList.drop i = Lib.join ((z :: zs).map Lib.decDigits) [44] ++ [125] ++ rest ∧
      (readGo s fuel i least (l : Int)).1 = (((z :: zs).foldl (fun a k => a ||| 2 ^ k) l : Nat) : Int) ∧
      (readGo s fuel i least (l : Int)).2.1 = ((i + (Lib.join ((z :: zs).map Lib.decDigits) [44]).length + 1 : Nat) : Int) := by
  intro fuel
  induction fuel with
  | zero => intro i least l _ h; simp [readGo] at h
  | succ f ih =>
    intro i least l hl h
    unfold readGo at h ⊢
    split at h
    · rename_i h0; exact absurd h h0
    · rename_i h0
      have h0' : (numI s i).2.2.1 = 0 := by simpa using h0
      obtain ⟨hz, hdec⟩ := num_back h0'
      rw [if_neg h0]
      obtain ⟨z, hze⟩ : ∃ z, z = decOf (digs s i) := ⟨_, rfl⟩
      rw [← hze] at hz hdec h ⊢
      have hpre : s.data.toList.drop i = digs s i ++ s.data.toList.drop (i + (digs s i).length) := by
        have e : s.data.toList.drop i = digs s i ++ (s.data.toList.drop i).dropWhile (fun b => isDig (b.toNat : Int)) := by
          unfold digs; exact List.takeWhile_append_dropWhile.symm
        rw [drop_more e, ← e]
      have hb : 2 ^ z < 18446744073709551616 := by
        rw [show (18446744073709551616 : Nat) = 2 ^ 64 by decide]; exact Nat.pow_lt_pow_right (by decide) hz
      split at h
      · simp at h
      · rename_i h1
        rw [if_neg h1]
        split at h
        · rename_i h2
          rw [if_pos h2]
          obtain ⟨b, hb1, hb2⟩ := bt_pos h2 (by decide)
          have hb' : b = 125 := UInt8.toNat_inj.1 (by have : ((125 : UInt8).toNat) = 125 := rfl; omega)
          subst hb'
          refine ⟨z, [], s.data.toList.drop (i + (digs s i).length + 1), by simp, by omega, (fun k hk => by simp at hk; omega), ?_, ?_, ?_⟩
          · rw [hpre, hb2]; simp [Lib.join_one, hdec]
          · rw [bitOf_nat z hz, or_nat _ _ hl hb]; rfl
          · simp [Lib.join_one, hdec]
        · rename_i h2
          rw [if_neg h2]
          split at h
          · rename_i h3
            rw [if_pos h3]
            obtain ⟨b, hb1, hb2⟩ := bt_pos h3 (by decide)
            have hb' : b = 44 := UInt8.toNat_inj.1 (by have : ((44 : UInt8).toNat) = 44 := rfl; omega)
            subst hb'
            have hlt : l ||| 2 ^ z < 18446744073709551616 := by
              rw [show (18446744073709551616 : Nat) = 2 ^ 64 by decide] at hl hb ⊢
              exact Nat.or_lt_two_pow hl hb
            rw [bitOf_nat z hz, or_nat _ _ hl hb] at h ⊢
            obtain ⟨y, ys, rest, hp, hle, hk, hd, he1, he2⟩ := ih _ _ _ hlt h
            have hj : Lib.join ((z :: y :: ys).map Lib.decDigits) [44] = Lib.decDigits z ++ 44 :: Lib.join ((y :: ys).map Lib.decDigits) [44] := by
              simp only [List.map_cons]
              rw [Lib.join_cons, Lib.join_cons]
              simp [Lib.joinTail]
            refine ⟨z, y :: ys, rest, ?_, by omega, ?_, ?_, ?_, ?_⟩
            · rw [List.pairwise_cons]
              refine ⟨fun k hk' => ?_, hp⟩
              rcases List.mem_cons.1 hk' with rfl | hk'
              · omega
              · have := (List.pairwise_cons.1 hp).1 k hk'; omega
            · intro k hk'
              rcases List.mem_cons.1 hk' with rfl | hk'
              · exact hz
              · exact hk k hk'
            · rw [hpre, hb2, hd, hj, hdec]; simp
            · rw [he1]; rfl
            · rw [he2, hj, hdec]
              simp only [List.length_append, List.length_cons]
              omega
          · simp at h

theorem parse_back (s : ByteArray) (h : (parseI s).2.1 = 0) : ∃ n : Nat, n < 18446744073709551616 ∧ (parseI s).1 = (n : Int) ∧ strOf (textOf (cats n)) = s := by
  unfold parseI at h ⊢
  split at h
  · rename_i h0; exact absurd h h0
  · rename_i h0
    rw [if_neg h0]
    have h0' : (readI s).2.2.1 = 0 := by simpa using h0
    split at h
    · simp at h
    · rename_i h1
      rw [if_neg h1]
      unfold readI at h0' h1 ⊢
      split at h0'
      · simp at h0'
      · rename_i h2
        rw [if_neg h2] at h1 ⊢
        obtain ⟨b, hb1, hb2⟩ := bt_pos (Classical.not_not.1 h2) (by decide)
        have hb' : b = 123 := UInt8.toNat_inj.1 (by have : ((123 : UInt8).toNat) = 123 := rfl; omega)
        subst hb'
        rw [List.drop_zero, Nat.zero_add] at hb2
        have hsz := size_len s
        split at h0'
        · rename_i h3
          rw [if_pos h3] at h1 ⊢
          obtain ⟨c, hc1, hc2⟩ := bt_pos h3 (by decide)
          have hc' : c = 125 := UInt8.toNat_inj.1 (by have : ((125 : UInt8).toNat) = 125 := rfl; omega)
          subst hc'
          rw [hc2] at hb2
          have hnil : s.data.toList.drop 2 = [] := by
            apply List.drop_eq_nil_of_le
            simp at h1
            omega
          rw [show 1 + 1 = 2 from rfl, hnil] at hb2
          refine ⟨0, by decide, rfl, ?_⟩
          apply ByteArray.ext
          apply Array.toList_inj.1
          rw [hb2]
          rfl
        · rename_i h3
          rw [if_neg h3] at h1 ⊢
          obtain ⟨z, zs, rest, hp, _, hk, hd, he1, he2⟩ := go_back s (s.size + 1) 1 0 0 (by decide) h0'
          rw [show ((0 : Nat) : Int) = 0 from rfl] at he1 he2
          rw [he2] at h1
          rw [he1]
          refine ⟨orN (z :: zs), orN_lt _ hk, rfl, ?_⟩
          rw [cats_orN _ hp hk]
          rw [hd] at hb2
          have hlen := congrArg List.length hb2
          have hr : rest = [] := by
            apply List.eq_nil_of_length_eq_zero
            simp only [List.length_cons, List.length_append, List.length_nil] at hlen
            omega
          subst hr
          apply ByteArray.ext
          apply Array.toList_inj.1
          rw [hb2]
          simp [strOf, textOf]
end Go.Proofs.YtnlioeheogkkiaaDoor.Lb
