/- What is written of what was read is read as the same; two texts, and remarks and blanks between them: over lists of bytes. -/
import Derived.Test.YtkmkhegekonbmaaDoorRowHH
import Derived.Test.YtkmkhegekonbmaaDoorRowJJ
import Derived.Test.YtkmkhegekonbmaaDoorRowRR
namespace Go.Proofs.YtkmkhegekonbmaaDoor
open Go.RowKit
open Rw6

theorem quotG_small (l : List UInt8) : ∀ t r, quotG l = some (t, r) → t.length + r.length < l.length := by
  induction hn : l.length using Nat.strongRecOn generalizing l with
  | ind n ih =>
    intro t r h
    rw [quotG.eq_def] at h
    cases l with
    | nil => cases h
    | cons b s =>
      simp only at h
      simp only [List.length_cons] at hn
      split at h
      · cases h; simp; omega
      · split at h
        · cases s with
          | nil => cases h
          | cons c s2 =>
            simp only at h
            simp only [List.length_cons] at hn
            split at h
            · obtain ⟨t', h', he⟩ := front_some h
              have := ih s2.length (by omega) s2 rfl _ _ h'
              simp only at this he
              rw [he, List.length_cons]
              omega
            · split at h
              · cases s2 with
                | nil => cases h
                | cons x s3 =>
                  cases s3 with
                  | nil => cases h
                  | cons y s4 =>
                    simp only at h
                    simp only [List.length_cons] at hn
                    split at h
                    · obtain ⟨t', h', he⟩ := front_some h
                      have := ih s4.length (by omega) s4 rfl _ _ h'
                      simp only at this he
                      rw [he, List.length_cons]
                      omega
                    · cases h
              · cases h
        · split at h
          · obtain ⟨t', h', he⟩ := front_some h
            have := ih s.length (by omega) s rfl _ _ h'
            simp only at this he
            rw [he, List.length_cons]
            omega
          · cases h
theorem while_len (s : List UInt8) : (s.takeWhile plainB).length + (s.dropWhile plainB).length = s.length := by
  have h1 := List.takeWhile_append_dropWhile (p := plainB) (l := s)
  have h2 := congrArg List.length h1
  rw [List.length_append] at h2
  exact h2
theorem oneG_small {s : List UInt8} {w : Bool × List UInt8} {r : List UInt8} (h : oneG s = some (w, r)) : w.2.length + r.length ≤ s.length := by
  unfold oneG at h
  cases s with
  | nil => cases h
  | cons b s =>
    simp only at h
    split at h
    · split at h
      · rename_i t r2 hq
        split at h
        · cases h
          have := quotG_small _ _ _ hq
          simp only [List.length_cons]
          omega
        · cases h
      · cases h
    · split at h
      · cases h
        exact Nat.le_of_eq (while_len (b :: s))
      · cases h
theorem lineG_small (s : List UInt8) : ∀ a ws, lineG s a = .ok ws → ws.length ≤ s.length ∧ ∀ w ∈ ws, w.2.1.length ≤ s.length := by
  induction hn : s.length using Nat.strongRecOn generalizing s with
  | ind n ih =>
    intro a ws h
    cases s with
    | nil =>
      rw [lineG_nil] at h
      cases h
      exact ⟨Nat.zero_le _, fun w hw => by cases hw⟩
    | cons b r =>
      simp only [List.length_cons] at hn
      rw [lineG_cons] at h
      split at h
      · obtain ⟨h1, h2⟩ := ih r.length (by omega) r rfl _ _ h
        exact ⟨by omega, fun w hw => by have := h2 w hw; omega⟩
      · split at h
        · cases h
          exact ⟨Nat.zero_le _, fun w hw => by cases hw⟩
        · cases h1 : oneG (b :: r) with
          | none => rw [h1] at h; cases h
          | some p =>
            have hl := oneG_len (w := p.1) (r := p.2) h1
            have hs := oneG_small (w := p.1) (r := p.2) h1
            simp only [List.length_cons] at hl hs
            rw [h1] at h
            simp only at h
            cases h2 : lineG p.2 (a + ((b :: r).length - p.2.length)) with
            | error e => rw [h2] at h; cases h
            | ok ws1 =>
              rw [h2] at h
              cases h
              obtain ⟨h3, h4⟩ := ih p.2.length (by omega) p.2 rfl _ _ h2
              refine ⟨by rw [List.length_cons]; omega, fun w hw => ?_⟩
              rw [List.mem_cons] at hw
              rcases hw with hw | hw
              · subst hw; simp only; omega
              · have := h4 w hw; omega
theorem rowsG_small (ls : List (List UInt8)) : ∀ a rs, rowsG ls a = .ok rs → rs.length ≤ ls.length ∧ ∀ r ∈ rs, r.2.length ≤ 1000 ∧ ∀ w ∈ r.2, w.2.1.length ≤ 1000 := by
  induction ls with
  | nil => intro a rs h; cases h; exact ⟨Nat.le_refl _, fun r hr => by cases hr⟩
  | cons l ls ih =>
    intro a rs h
    unfold rowsG at h
    split at h
    · cases h
    · rename_i hl
      cases h1 : lineG l a with
      | error e => rw [h1] at h; cases h
      | ok ws =>
        rw [h1] at h
        simp only at h
        cases h2 : rowsG ls (a + l.length + 1) with
        | error e => rw [h2] at h; cases h
        | ok rs2 =>
          rw [h2] at h
          cases h
          obtain ⟨h3, h4⟩ := ih _ _ h2
          obtain ⟨h5, h6⟩ := lineG_small _ _ _ h1
          by_cases hw : ws = []
          · rw [if_pos hw]
            exact ⟨by rw [List.length_cons]; omega, h4⟩
          · rw [if_neg hw]
            refine ⟨by simp only [List.length_cons]; omega, fun r hr => ?_⟩
            rw [List.mem_cons] at hr
            rcases hr with hr | hr
            · subst hr
              exact ⟨by simp only; omega, fun w hw => by have := h6 w hw; omega⟩
            · exact h4 r hr
theorem linesOf_len (s : List UInt8) : (linesOf s).length ≤ s.length := by
  induction s with
  | nil => exact Nat.le_refl _
  | cons b s ih =>
    rw [List.length_cons]
    by_cases hb : b = 10
    · subst hb
      rw [linesOf_cons10, List.length_cons]; omega
    · rw [linesOf_cons hb]
      cases hs : linesOf s with
      | nil => simp
      | cons x xs => rw [hs] at ih; simp only [List.length_cons] at ih ⊢; omega
/-- What is read is small. -/
theorem readG_small {t : List UInt8} {rs : List (Nat × List W)} (h : readG t = .ok rs) : rs.length ≤ t.length ∧ ∀ r ∈ rs, r.2.length ≤ 1000 ∧ ∀ w ∈ r.2, w.2.1.length ≤ 1000 := by
  unfold readG at h
  split at h
  · cases h
  · obtain ⟨h1, h2⟩ := rowsG_small _ _ _ h
    exact ⟨Nat.le_trans h1 (linesOf_len t), h2⟩
theorem readG_okW {t : List UInt8} {rs : List (Nat × List W)} (h : readG t = .ok rs) : ∀ r ∈ rs, r.2 ≠ [] ∧ ∀ w ∈ r.2, okW w.1 w.2.1 = true := by
  unfold readG at h
  split at h
  · cases h
  · exact rowsG_okW _ _ _ h

/-- Words whose offsets are natural numbers. -/
def wOf (x : Wd) : W := (x.1, x.2.1, x.2.2.toNat)
def nOf (rs : List (Int × List Wd)) : List (Nat × List W) := rs.map fun r => (r.1.toNat, r.2.map wOf)
theorem bare_nOf (ws : List Wd) : bare (ws.map wOf) = bareI ws := by unfold bare bareI; rw [List.map_map]; rfl
theorem bareI_wd (ws : List W) : bareI (ws.map wdOf) = bare ws := by unfold bare bareI; rw [List.map_map]; rfl
theorem bares_nOf (rs : List (Int × List Wd)) : bares (nOf rs) = rs.map fun r => bareI r.2 := by
  unfold bares nOf
  rw [List.map_map]
  exact List.map_congr_left fun r _ => bare_nOf r.2
theorem bares_rsI (rs : List (Nat × List W)) : ((rsI rs).map fun r => bareI r.2) = bares rs := by
  unfold bares rsI
  rw [List.map_map]
  exact List.map_congr_left fun r _ => bareI_wd r.2
theorem joinI_row (ws : List Wd) : joinI ws = rowW (ws.map wOf) := by
  induction ws with
  | nil => rfl
  | cons x xs ih =>
    cases xs with
    | nil => simp [joinI, Lib.join, List.intercalate, rowW, wOf]
    | cons y ys =>
      have e : joinI (x :: y :: ys) = wordW x.1 x.2.1 ++ (32 :: joinI (y :: ys)) := by simp [joinI, Lib.join, List.intercalate]
      rw [e, ih]
      rfl
/-- The text of rows that can be written: it is too long, or all of it stands. -/
theorem textI_all (rs : List (Int × List Wd)) : (∀ r ∈ rs, r.2 ≠ [] ∧ ∀ x ∈ r.2, okW x.1 x.2.1 = true) → ∀ acc, acc.length ≤ 20000 →
    textI acc rs = ([], 4) ∨ (textI acc rs = (acc ++ textW (nOf rs), 0) ∧ (acc ++ textW (nOf rs)).length ≤ 20000 ∧ ∀ r ∈ rs, (rowW (r.2.map wOf)).length ≤ 1000) := by
  induction rs with
  | nil =>
    intro _ acc hacc
    right
    refine ⟨?_, ?_, fun r hr => by cases hr⟩
    · show (acc, (0 : Int)) = (acc ++ [], 0)
      rw [List.append_nil]
    · show (acc ++ []).length ≤ 20000
      rw [List.append_nil]; exact hacc
  | cons r rs ih =>
    intro h acc hacc
    obtain ⟨h1, h2⟩ := h r (by simp)
    have hl : lineI r.2 = if 1000 < (joinI r.2).length then ([], 4) else (joinI r.2, 0) := by
      unfold lineI
      rw [if_neg (fun e => h1 (List.eq_nil_of_length_eq_zero e)), if_pos (by unfold okI; rw [List.all_eq_true]; exact h2)]
    rw [textI_cons, hl]
    by_cases hj : 1000 < (joinI r.2).length
    · rw [if_pos hj]; left; rfl
    · rw [if_neg hj]
      simp only
      rw [if_neg (fun h => h rfl)]
      by_cases hb : 20000 < acc.length + (joinI r.2).length + 1
      · rw [if_pos hb]; left; rfl
      · rw [if_neg hb]
        have e : acc ++ textW (nOf (r :: rs)) = (acc ++ (joinI r.2 ++ [10])) ++ textW (nOf rs) := by
          show acc ++ ((rowW (r.2.map wOf) ++ [10]) ++ textW (nOf rs)) = _
          rw [joinI_row, ← List.append_assoc]
        rw [e]
        rcases ih (fun x hx => h x (List.mem_cons_of_mem _ hx)) (acc ++ (joinI r.2 ++ [10])) (by simp only [List.length_append, List.length_cons, List.length_nil]; omega) with h3 | ⟨h3, h4, h5⟩
        · left; exact h3
        · right
          refine ⟨h3, h4, fun x hx => ?_⟩
          rw [List.mem_cons] at hx
          rcases hx with hx | hx
          · subst hx; rw [← joinI_row]; omega
          · exact h5 x hx
/-- .. and is read as the same words. -/
theorem textI_read {rs : List (Int × List Wd)} (h : ∀ r ∈ rs, r.2 ≠ [] ∧ ∀ x ∈ r.2, okW x.1 x.2.1 = true) :
    textI [] rs = ([], 4) ∨ ∃ T rk, textI [] rs = (T, 0) ∧ readG T = .ok rk ∧ ((rsI rk).map fun r => bareI r.2) = rs.map fun r => bareI r.2 := by
  rcases textI_all rs h [] (Nat.zero_le _) with h1 | ⟨h1, h2, h3⟩
  · exact .inl h1
  · right
    rw [List.nil_append] at h1 h2
    have hr : rB (linesOf (textW (nOf rs))) = some (bares (nOf rs)) := rB_textW _ fun r hr => by
      unfold nOf at hr
      obtain ⟨x, hx, rfl⟩ := List.mem_map.1 hr
      obtain ⟨h4, h5⟩ := h x hx
      refine ⟨fun e => h4 (List.map_eq_nil_iff.1 e), fun w hw => ?_, h3 x hx⟩
      obtain ⟨y, hy, rfl⟩ := List.mem_map.1 hw
      exact h5 y hy
    obtain ⟨rk, h4, h5⟩ := readG_rB h2 hr
    exact ⟨_, rk, h1, h4, by rw [bares_rsI, h5, bares_nOf]⟩
/-- Two texts with remarks, empty lines and blanks. -/
def wideL (s t : List UInt8) : List UInt8 := [35, 32, 111, 110, 101, 10, 10, 32, 9] ++ s ++ [10, 32, 10, 35, 10] ++ t ++ [32, 35, 32, 116, 119, 111]
theorem two_read {s t : List UInt8} {rs rt : List (Nat × List W)} (hs : s.length ≤ 300) (ht : t.length ≤ 300) (h1 : readG s = .ok rs) (h2 : readG t = .ok rt) :
    (∃ r, readG (s ++ 10 :: t) = .ok r ∧ ((rsI r).map fun r => bareI r.2) = (rsI (rs ++ rt)).map fun r => bareI r.2) ∧
    (∃ r, readG (wideL s t) = .ok r ∧ ((rsI r).map fun r => bareI r.2) = (rsI (rs ++ rt)).map fun r => bareI r.2) := by
  have g1 := (readG_inv h1).2
  have g2 := (readG_inv h2).2
  have eb : bares rs ++ bares rt = bares (rs ++ rt) := by unfold bares; rw [List.map_append]
  refine ⟨?_, ?_⟩
  · obtain ⟨r, h3, h4⟩ := readG_rB (by simp only [List.length_append, List.length_cons]; omega) (rB_two g1 g2)
    exact ⟨r, h3, by rw [bares_rsI, bares_rsI, h4, eb]⟩
  · have e : wideL s t = (35 :: [32, 111, 110, 101]) ++ 10 :: ([] ++ 10 :: ((32 :: 9 :: s) ++ 10 :: ([32] ++ 10 :: ((35 :: []) ++ 10 :: (t ++ 32 :: 35 :: [32, 116, 119, 111]))))) := by
      unfold wideL
      simp [List.append_assoc]
    have k1 : rB (linesOf (t ++ 32 :: 35 :: [32, 116, 119, 111])) = some (bares rt) := rB_behind (by decide) (by simp; omega) g2
    have k2 : rB (linesOf (35 :: [])) = some [] := rB_remark (by decide) (by decide)
    have k3 : rB (linesOf [32]) = some [] := rB_blank (b := 32) (by decide) (s := []) (by decide) rfl
    have k4 : rB (linesOf (32 :: 9 :: s)) = some (bares rs) := rB_blank (by decide) (by rw [List.length_cons]; omega) (rB_blank (by decide) (by omega) g1)
    have k5 : rB (linesOf (35 :: [32, 111, 110, 101])) = some [] := rB_remark (by decide) (by decide)
    have k6 : rB (linesOf []) = some [] := rfl
    have k := rB_two k5 (rB_two k6 (rB_two k4 (rB_two k3 (rB_two k2 k1))))
    rw [← e] at k
    simp only [List.nil_append] at k
    obtain ⟨r, h3, h4⟩ := readG_rB (by unfold wideL; simp only [List.length_append, List.length_cons, List.length_nil]; omega) k
    exact ⟨r, h3, by rw [bares_rsI, bares_rsI, h4, eb]⟩
end Go.Proofs.YtkmkhegekonbmaaDoor
