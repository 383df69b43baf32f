/- Walk: the program's check of a token. -/
import Derived.Test.YtmdlndmibodimaaDoorTokK
namespace Go.Proofs.YtmdlndmibodimaaDoor
open Go.RowKit
open Tk7

/-- The error of a token. -/
def checkI (x : TK) : Int := if x.1 < 1 ∨ 4 < x.1 then 11 else if isTok x.1.toNat x.2.1 = false then 3 else if x.2.2 < 0 then 2 else 0
theorem next_tok {k : Nat} {l : List UInt8} (h : isTok k l = true) : nextX l (0 : Int) = ⟨k, l, 0, l.length, 0, 0⟩ := by
  have hn := nextX_nat (l := l) (k := 0) (Nat.zero_le _)
  rw [List.drop_zero] at hn
  refine hn.trans ?_
  cases l with
  | nil => simp [isTok] at h
  | cons b r =>
    have h1 := isTok_front h
    have h2 := (isTok_iff.1 h).1
    unfold nextG
    rw [List.dropWhile_cons, if_neg (by rw [h1]; decide)]
    simp only
    rw [h2]
    simp only
    rw [if_neg (by simp), Nat.sub_self]
    simp
theorem next_tok_only {k : Nat} {l : List UInt8} (hk : k ≠ 0) (h1 : (nextX l (0 : Int)).kd = k) (h2 : (nextX l (0 : Int)).tx = l) (h3 : (nextX l (0 : Int)).at_ = 0) : isTok k l = true := by
  have hn := nextX_nat (l := l) (k := 0) (Nat.zero_le _)
  rw [List.drop_zero] at hn
  have hn' : nextX l (0 : Int) = _ := hn
  rw [hn'] at h1 h2 h3
  unfold nextG at h1 h2 h3
  have hd := drop_len l
  cases hl : l.dropWhile blankB with
  | nil =>
    rw [hl] at h1
    exact absurd h1.symm hk
  | cons b r =>
    rw [hl] at h1 h2 h3 hd
    simp only at h1 h2 h3
    by_cases hz : (begG (b :: r)).2 = 0
    · rw [if_pos hz] at h1
      exact absurd h1.symm hk
    · rw [if_neg hz] at h1 h2 h3
      simp only at h1 h2 h3
      have hle := begG_le (b :: r)
      have hll : (b :: r).length = l.length := by omega
      have hbr : b :: r = l := by
        obtain ⟨g, hg1, _, hg3⟩ := dropWhile_split l
        rw [hl] at hg1 hg3
        have : g = [] := List.eq_nil_of_length_eq_zero (by omega)
        rw [this, List.nil_append] at hg1
        exact hg1.symm
      rw [hbr] at h1 h2 h3 hz hle
      rw [isTok_iff]
      refine ⟨?_, fun e => by rw [e] at hbr; cases hbr⟩
      have h4 := congrArg List.length h2
      rw [Nat.zero_add, Nat.sub_self, List.drop_zero, List.length_take] at h4
      have h5 : (begG l).2 = l.length := by omega
      rw [← h1, ← h5]
set_option maxRecDepth 100000 in
set_option maxHeartbeats 4000000 in
theorem check_any (K : Int) (l : List UInt8) (a : Int) (hl : l.length ≤ maxLen) (w : World) (hG : SG w) :
    Calls Tryd.prog 26 #[.agg #[.int .i64 K, .string (strOf l), .int .i64 a]] w fun e w' => e = .returned (.int .i64 (checkI (K, l, a))) ∧ Below w.heap.size w w' := by
  have hc : checkI (K, l, a) = if K < 1 ∨ 4 < K then 11 else if isTok K.toNat l = false then 3 else if a < 0 then 2 else 0 := rfl
  by_cases hk1 : K < 1
  · rw [hc, if_pos (Or.inl hk1)]
    clear hc
    go_enter Tryd.func26, Tryd.ntmps26
    go_wp2
    go_ret
    exact ⟨rfl, below1 _ _⟩
  · by_cases hk2 : 4 < K
    · rw [hc, if_pos (Or.inr hk2)]
      clear hc
      go_enter Tryd.func26, Tryd.ntmps26
      go_wp2
      go_ret
      exact ⟨rfl, below1 _ _⟩
    · rw [hc, if_neg (by omega)]
      have hN := fun w hG => next_any (strOf l) 0 (by rw [strOf_size]; exact hl) w hG
      unfold NextP at hN
      rw [strOf_dat] at hN
      obtain ⟨k, hk⟩ : ∃ k : Nat, k = K.toNat := ⟨_, rfl⟩
      have hKk : K = (k : Int) := by omega
      have hk0 : k ≠ 0 := by omega
      have hG1 := hG.later (below1 w (.cells #[.int .i64 K, .string (strOf l), .int .i64 a] 30))
      rw [← hk]
      clear hc hk
      subst hKk
      cases ht : isTok k l with
      | true =>
        rw [if_neg (by decide)]
        have hX := next_tok ht
        rw [hX] at hN
        have hN2 : ∀ w, SG w → Calls Tryd.prog 12 #[.string (strOf l), .int .i64 0] w fun e w' => e = .returned (.tuple #[.agg #[.int .i64 (k : Int), .string (strOf l), .int .i64 0], .int .i64 (l.length : Int), .agg #[.int .i64 0, .int .i64 0]]) ∧ Below w.heap.size w w' := hN
        clear hN ht hX
        obtain ⟨S, hS⟩ : ∃ S, S = strOf l := ⟨_, rfl⟩
        rw [← hS] at hN2 hG1 ⊢
        clear hS
        have hbx : ∀ w2 : World, Below (w.alloc (.cells #[.int .i64 (k : Int), .string S, .int .i64 a] 30)).heap.size (w.alloc (.cells #[.int .i64 (k : Int), .string S, .int .i64 a] 30)) w2 → Blk w2 w.heap.size [.int .i64 (k : Int), .string S, .int .i64 a] := fun w2 hb => (Blk.is _ rfl).later hb
        by_cases ha : a < 0
        · rw [if_pos ha]
          go_enter Tryd.func26, Tryd.ntmps26
          go_wp2_with (go_at_call 12; refine (hN2 _ hG1).mono ?_; rintro e w2 ⟨rfl, hb2⟩; have hq := hbx w2 hb2; have c0 := hq.cell 0 _ rfl; have c1 := hq.cell 1 _ rfl; have c2 := hq.cell 2 _ rfl; have hql := hq.lt)
          go_ret
          exact ⟨rfl, bstep (bstep (below1 _ _) hb2) (below2 _ _ _)⟩
        · rw [if_neg ha]
          go_enter Tryd.func26, Tryd.ntmps26
          go_wp2_with (go_at_call 12; refine (hN2 _ hG1).mono ?_; rintro e w2 ⟨rfl, hb2⟩; have hq := hbx w2 hb2; have c0 := hq.cell 0 _ rfl; have c1 := hq.cell 1 _ rfl; have c2 := hq.cell 2 _ rfl; have hql := hq.lt)
          go_ret
          exact ⟨rfl, bstep (bstep (below1 _ _) hb2) (below2 _ _ _)⟩
      | false =>
        rw [if_pos rfl]
        obtain ⟨X, hX⟩ : ∃ X, X = nextX l (0 : Int) := ⟨_, rfl⟩
        have hno : ¬ (X.kd = k ∧ X.tx = l ∧ X.at_ = 0) := fun h => by
          rw [hX] at h
          rw [next_tok_only hk0 h.1 h.2.1 h.2.2] at ht
          cases ht
        rw [← hX] at hN
        obtain ⟨kd, tx, at_, nx, er, ea⟩ := X
        simp only at hno
        have hN2 : ∀ w, SG w → Calls Tryd.prog 12 #[.string (strOf l), .int .i64 0] w fun e w' => e = .returned (.tuple #[.agg #[.int .i64 (kd : Int), .string (strOf tx), .int .i64 (at_ : Int)], .int .i64 (nx : Int), .agg #[.int .i64 er, .int .i64 (ea : Int)]]) ∧ Below w.heap.size w w' := hN
        clear hN hX ht
        have h3 : (kd ≠ k) ∨ (kd = k ∧ tx ≠ l) ∨ (kd = k ∧ tx = l ∧ at_ ≠ 0) := by
          by_cases h1 : kd = k
          · by_cases h2 : tx = l
            · exact .inr (.inr ⟨h1, h2, fun h => hno ⟨h1, h2, h⟩⟩)
            · exact .inr (.inl ⟨h1, h2⟩)
          · exact .inl h1
        have hbx : ∀ w2 : World, Below (w.alloc (.cells #[.int .i64 (k : Int), .string (strOf l), .int .i64 a] 30)).heap.size (w.alloc (.cells #[.int .i64 (k : Int), .string (strOf l), .int .i64 a] 30)) w2 → Blk w2 w.heap.size [.int .i64 (k : Int), .string (strOf l), .int .i64 a] := fun w2 hb => (Blk.is _ rfl).later hb
        have hl1 : (strOf tx).toList = tx := strOf_toL tx
        have hl2 : (strOf l).toList = l := strOf_toL l
        rcases h3 with h | ⟨rfl, h⟩ | ⟨rfl, rfl, h⟩
        · have b1 : ((kd : Int) == (k : Int)) = false := by rw [beq_eq_false_iff_ne]; omega
          have n1 : ¬ (kd : Int) = (k : Int) := by omega
          have n2 : ¬ kd = k := h
          obtain ⟨S, hS⟩ : ∃ S, S = strOf l := ⟨_, rfl⟩
          obtain ⟨S2, hS2⟩ : ∃ S, S = strOf tx := ⟨_, rfl⟩
          rw [← hS] at hN2 hG1 hbx ⊢
          rw [← hS2] at hN2
          clear hS hS2 hno hl1 hl2 h
          go_enter Tryd.func26, Tryd.ntmps26
          go_wp2_with (go_at_call 12; refine (hN2 _ hG1).mono ?_; rintro e w2 ⟨rfl, hb2⟩; have hq := hbx w2 hb2; have c0 := hq.cell 0 _ rfl; have c1 := hq.cell 1 _ rfl; have c2 := hq.cell 2 _ rfl; have hql := hq.lt)
          go_ret
          exact ⟨rfl, bstep (bstep (below1 _ _) hb2) (below2 _ _ _)⟩
        · have b1 : ((strOf tx).toList == (strOf l).toList) = false := by rw [hl1, hl2, beq_eq_false_iff_ne]; exact h
          have n1 : ¬ (strOf tx).toList = (strOf l).toList := by rw [hl1, hl2]; exact h
          obtain ⟨S, hS⟩ : ∃ S, S = strOf l := ⟨_, rfl⟩
          obtain ⟨S2, hS2⟩ : ∃ S, S = strOf tx := ⟨_, rfl⟩
          rw [← hS] at hN2 hG1 hbx b1 n1 ⊢
          rw [← hS2] at hN2 b1 n1
          clear hS hS2 hno hl1 hl2 h
          go_enter Tryd.func26, Tryd.ntmps26
          go_wp2_with (go_at_call 12; refine (hN2 _ hG1).mono ?_; rintro e w2 ⟨rfl, hb2⟩; have hq := hbx w2 hb2; have c0 := hq.cell 0 _ rfl; have c1 := hq.cell 1 _ rfl; have c2 := hq.cell 2 _ rfl; have hql := hq.lt)
          go_ret
          exact ⟨rfl, bstep (bstep (below1 _ _) hb2) (below2 _ _ _)⟩
        · have b1 : ((at_ : Int) == 0) = false := by rw [beq_eq_false_iff_ne]; omega
          have n1 : ¬ (at_ : Int) = 0 := by omega
          have n2 : ¬ at_ = 0 := h
          obtain ⟨S, hS⟩ : ∃ S, S = strOf tx := ⟨_, rfl⟩
          rw [← hS] at hN2 hG1 hbx ⊢
          clear hS hno hl1 hl2 h
          go_enter Tryd.func26, Tryd.ntmps26
          go_wp2_with (go_at_call 12; refine (hN2 _ hG1).mono ?_; rintro e w2 ⟨rfl, hb2⟩; have hq := hbx w2 hb2; have c0 := hq.cell 0 _ rfl; have c1 := hq.cell 1 _ rfl; have c2 := hq.cell 2 _ rfl; have hql := hq.lt)
          go_ret
          exact ⟨rfl, bstep (bstep (below1 _ _) hb2) (below2 _ _ _)⟩
end Go.Proofs.YtmdlndmibodimaaDoor
