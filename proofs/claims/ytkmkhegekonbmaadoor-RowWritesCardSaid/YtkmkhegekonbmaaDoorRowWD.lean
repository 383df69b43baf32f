/- Walk: the document's own text of rows. -/
import Derived.Test.YtkmkhegekonbmaaDoorRowHH
import Derived.Test.YtkmkhegekonbmaaDoorRowJ
import Derived.Deep.LoopGhost
namespace Go.Proofs.YtkmkhegekonbmaaDoor
open Go.RowKit
open Rw6

theorem joinI_two (x y : Wd) (ys : List Wd) : joinI (x :: y :: ys) = wordW x.1 x.2.1 ++ (32 :: joinI (y :: ys)) := by simp [joinI, Lib.join, List.intercalate]
theorem joinI_one (x : Wd) : joinI [x] = wordW x.1 x.2.1 := by simp [joinI, Lib.join, List.intercalate]
theorem joinI_snoc (l : List Wd) (x : Wd) (hl : l ≠ []) : joinI (l ++ [x]) = joinI l ++ 32 :: wordW x.1 x.2.1 := by
  induction l with
  | nil => exact absurd rfl hl
  | cons a l2 ih =>
    cases l2 with
    | nil => rw [List.singleton_append, joinI_two, joinI_one, joinI_one]
    | cons b bs =>
      rw [List.cons_append, List.cons_append, joinI_two, ← List.cons_append, ih (by simp), joinI_two, List.append_assoc]
      rfl
/-- What stands when q words of a row are written. -/
def RowInv (ws : List Wd) (q : Nat) (row : List UInt8) : Prop := okI (ws.take q) = true ∧ row.length ≤ q * 2500 ∧ (row = joinI (ws.take q) ∨ (1000 < row.length ∧ 1000 < (joinI (ws.take q)).length))
theorem RowInv.zero (ws : List Wd) : RowInv ws 0 [] := ⟨rfl, by simp, .inl rfl⟩
theorem RowInv.first {ws : List Wd} {row : List UInt8} (h : RowInv ws 0 row) : row = [] := List.eq_nil_of_length_eq_zero (by have := h.2.1; omega)
theorem len_two (a b : List UInt8) : ((a ++ [32]) ++ b).length = a.length + 1 + b.length := by rw [List.length_append, List.length_append]; rfl
theorem RowInv.step {ws : List Wd} {q : Nat} {row : List UInt8} (h : RowInv ws q row) (hq : q < ws.length) (hok : okW ws[q].1 ws[q].2.1 = true) (hs : ws[q].2.1.length ≤ 600) (h0 : 0 < q) (hl : row.length ≤ 1000) :
    RowInv ws (q + 1) ((row ++ [32]) ++ wordW ws[q].1 ws[q].2.1) := by
  obtain ⟨h1, h2, h3⟩ := h
  have hw := wordW_len ws[q].1 ws[q].2.1
  refine ⟨by rw [okI_take hq, h1, hok]; rfl, by rw [len_two]; omega, .inl ?_⟩
  rcases h3 with h3 | ⟨h3, _⟩
  · rw [take_snoc ws q hq, joinI_snoc _ _ (by intro e; have := congrArg List.length e; rw [List.length_take, List.length_nil] at this; omega), h3, List.append_assoc]
    rfl
  · omega
theorem RowInv.step0 {ws : List Wd} {row : List UInt8} (h : RowInv ws 0 row) (hq : 0 < ws.length) (hok : okW ws[0].1 ws[0].2.1 = true) (hs : ws[0].2.1.length ≤ 600) : RowInv ws 1 (row ++ wordW ws[0].1 ws[0].2.1) := by
  obtain rfl := h.first
  have hw := wordW_len ws[0].1 ws[0].2.1
  have ht : ws.take 1 = [ws[0]] := by have := take_snoc ws 0 hq; simpa using this
  refine ⟨by rw [okI_take hq, h.1, hok]; rfl, by simp only [List.nil_append]; omega, .inl ?_⟩
  rw [ht, joinI_one]
  rfl
theorem RowInv.long {ws : List Wd} {q : Nat} {row : List UInt8} (h : RowInv ws q row) (hq : q < ws.length) (hok : okW ws[q].1 ws[q].2.1 = true) (hl : 1000 < row.length) : 0 < q ∧ RowInv ws (q + 1) ((row ++ [32]) ++ []) := by
  have h0 : 0 < q := by
    rcases Nat.eq_zero_or_pos q with rfl | h0
    · have := h.2.1; omega
    · exact h0
  obtain ⟨h1, h2, h3⟩ := h
  refine ⟨h0, by rw [okI_take hq, h1, hok]; rfl, by rw [len_two, List.length_nil]; omega, .inr ⟨by rw [len_two, List.length_nil]; omega, ?_⟩⟩
  rw [take_snoc ws q hq, joinI_snoc _ _ (by intro e; have := congrArg List.length e; rw [List.length_take, List.length_nil] at this; omega), List.length_append]
  rcases h3 with h3 | ⟨_, h3⟩
  · rw [← h3]; omega
  · omega
theorem RowInv.done {ws : List Wd} {row : List UInt8} (h : RowInv ws ws.length row) (hn : ¬ ws.length = 0) : lineI ws = if 1000 < row.length then ([], 4) else (row, 0) := by
  obtain ⟨h1, h2, h3⟩ := h
  rw [List.take_length] at h1 h3
  unfold lineI
  rw [if_neg hn, if_pos h1]
  rcases h3 with h3 | ⟨h3, h4⟩
  · rw [h3]
  · rw [if_pos h3, if_pos h4]
theorem okW_parts (q : Bool) (t : List UInt8) : okW q t = (q || bareB t) := rfl
set_option maxRecDepth 100000 in
set_option maxHeartbeats 16000000 in
theorem refText_any (v : Value) (rs : List (Int × List Wd)) (w : World) (hv : RSl w v rs) (hl : ∀ r ∈ rs, r.2.length ≤ 30 ∧ ∀ x ∈ r.2, x.2.1.length ≤ 600) :
    Calls Tryd.prog 13 #[v] w fun e w' => e = .returned (.tuple #[.string (strOf (textI [] rs).1), .int .i64 (textI [] rs).2]) ∧ Below w.heap.size w w' := by
  obtain ⟨A, cap, rfl, hcap, hmax, _, hc⟩ := hv.at_
  have HC := Lib.hid hc
  have HL := Lib.hid hl
  have HWD := Lib.hid fun (x : Wd) (h : x.2.1.length ≤ 600) (W : World) => show Calls Tryd.prog 16 #[.agg #[.bool x.1, .string (strOf x.2.1), .int .i64 x.2.2]] W fun e w' => e = .returned (if okW x.1 x.2.1 = true then .tuple #[.string (strOf (wordW x.1 x.2.1)), .int .i64 0] else .tuple #[.string ⟨#[]⟩, .int .i64 3]) ∧ Below W.heap.size W w' by
    have h1 := refWord_any x.1 (strOf x.2.1) x.2.2 (by rw [strOf_size]; omega) W
    rw [strOf_dat, wordG_ok] at h1
    refine h1.mono ?_
    rintro e w' ⟨rfl, hb⟩
    refine ⟨?_, hb⟩
    cases okW x.1 x.2.1 <;> rfl
  have HBA := Lib.hid fun (t : List UInt8) (h : t.length ≤ 600) (W : World) => show Calls Tryd.prog 38 #[.string (strOf t)] W fun e w' => e = .returned (.bool (bareB t)) ∧ W = w' by
    have h1 := refBare_any (strOf t) (by rw [strOf_size]; omega) W
    rw [strOf_dat] at h1
    exact h1
  clear hc hv hl
  go_enter Tryd.func13, Tryd.ntmps13
  go_wp2
  go_loopg [4, 5] rs.length (fun g ov i wr => ∃ (k : Nat) (acc : List UInt8), k ≤ rs.length ∧ g = rs.length - k ∧ i = .int .i64 (k : Int) ∧ ov = .string (strOf acc) ∧ Hid (textI [] rs = textI acc (rs.drop k)) ∧ acc.length ≤ 20000 ∧ Hid (Below w.heap.size w wr))
  case atStart => exact ⟨0, [], Nat.zero_le _, rfl, rfl, rfl, Lib.hid rfl, Nat.zero_le _, Lib.hid (Below.refl _ _)⟩
  case round =>
    obtain ⟨k, acc, hk, hg, rfl, rfl, HT, hacc, HB⟩ := hrel
    by_cases hlt : k < rs.length
    · obtain ⟨a, u, rfl, hab, c0, c1, hu⟩ := HC.out k hlt
      have d1 := (HB.out.cell (p := a.add (k * 2 + 1)) (by rw [add_block]; omega)).trans c1
      have C1 := Lib.hid c1
      rw [← add_at _ _ _ (by decide)] at d1
      have hi' : (k : Int) < (rs.length : Int) := by omega
      have hT := HT.out
      rw [List.drop_eq_getElem_cons hlt, textI_cons] at hT
      have hsm := HL.out rs[k] (List.getElem_mem hlt)
      obtain ⟨r, hr⟩ : ∃ r, r = rs[k] := ⟨_, rfl⟩
      rw [← hr] at hu hT hsm
      obtain ⟨at_, ws⟩ := r
      simp only at hu hsm hT
      obtain ⟨A2, cap2, rfl, hcp2, hm2, _, he⟩ := hu.at_
      have HE := Lib.hid he
      obtain ⟨hs30, hs6⟩ := hsm
      have HS6 := Lib.hid hs6
      have HTT := Lib.hid hT
      clear c0 c1 hr hu he hT hs6 HT
      by_cases h0 : ws.length = 0
      · have h0' : (ws.length : Int) = 0 := by omega
        have hr := Lib.hid (show textI [] rs = ([], 7) from HTT.out.trans (by unfold lineI; rw [if_pos h0]; rfl))
        go_wp2
        go_ret2
        exact ⟨by rw [hr.out]; rfl, HB.out⟩
      · have h0' : ((ws.length : Int) == 0) = false := by rw [beq_eq_false_iff_ne]; omega
        have hwn : ¬ ws.length = 0 := h0
        clear h0
        go_wp2
        clear d1
        go_loopg [6, 7] ws.length (fun g2 rv j wr2 => ∃ (q : Nat) (row : List UInt8), q ≤ ws.length ∧ g2 = ws.length - q ∧ j = .int .i64 (q : Int) ∧ rv = .string (strOf row) ∧ Hid (RowInv ws q row) ∧ Hid (Below w.heap.size w wr2))
        case atStart => exact ⟨0, [], Nat.zero_le _, rfl, rfl, rfl, Lib.hid (RowInv.zero ws), HB⟩
        case round =>
          clear HB
          obtain ⟨q, row, hq, hg2, rfl, rfl, HI, HB⟩ := hrel
          have d1 := (HB.out.cell (p := a.add (k * 2 + 1)) (by rw [add_block]; omega)).trans C1.out
          rw [← add_at _ _ _ (by decide)] at d1
          have hrs := strOf_size row
          have hrb := HI.out.2.1
          by_cases hlt2 : q < ws.length
          · obtain ⟨b, rfl, hbb, e0, e1, e2⟩ := HE.out q hlt2
            replace e0 := (HB.out.cell (p := b.add (q * 3)) (by rw [add_block]; exact hbb)).trans e0
            replace e1 := (HB.out.cell (p := b.add (q * 3 + 1)) (by rw [add_block]; exact hbb)).trans e1
            replace e2 := (HB.out.cell (p := b.add (q * 3 + 2)) (by rw [add_block]; exact hbb)).trans e2
            rw [← add_at _ _ _ (by decide)] at e1 e2
            have hi2 : (q : Int) < (ws.length : Int) := by omega
            have hx6 := HS6.out ws[q] (List.getElem_mem hlt2)
            have hst := fun h => HI.out.step hlt2 h hx6
            have hst0 : q = 0 → okW ws[q].1 ws[q].2.1 = true → RowInv ws (q + 1) (row ++ wordW ws[q].1 ws[q].2.1) := fun h0 h => by
              subst h0
              exact HI.out.step0 hlt2 h hx6
            have hlg := fun h => HI.out.long hlt2 h
            have hbd : okW ws[q].1 ws[q].2.1 = false → textI [] rs = ([], 3) := fun h => HTT.out.trans (by
              have : lineI ws = ([], 3) := by unfold lineI; rw [if_neg hwn, if_neg (by rw [okI_not hlt2 h]; decide)]
              rw [this]; rfl)
            obtain ⟨x, hx⟩ : ∃ x, x = ws[q] := ⟨_, rfl⟩
            rw [← hx] at e0 e1 e2 hx6 hst hst0 hlg hbd
            clear hx
            obtain ⟨x0, x1, x2⟩ := x
            simp only at e0 e1 e2 hx6 hst hst0 hlg hbd
            have hwd := HWD.out (x0, x1, x2) hx6
            have hba := HBA.out x1 hx6
            simp only at hwd
            have hwl := wordW_len x0 x1
            have hws := strOf_size (wordW x0 x1)
            have hok := okW_parts x0 x1
            have a1 : (strOf row ++ ⟨#[32]⟩ : ByteArray) = strOf (row ++ [32]) := by rw [strOf_app]; rfl
            have s1 : (strOf (row ++ [32])).size = row.length + 1 := by rw [strOf_size]; simp
            have o1 : ¬ 9223372036854775807 < row.length + 1 := by omega
            by_cases hle : row.length ≤ 1000
            · have hle' : (row.length : Int) ≤ 1000 := by omega
              clear hlg hba hok
              obtain ⟨y, hy⟩ : ∃ y, y = okW x0 x1 := ⟨_, rfl⟩
              rw [← hy] at hwd hst hst0 hbd
              clear hy
              cases y with
              | true =>
                rw [if_pos rfl] at hwd
                have o2 : ¬ 9223372036854775807 < row.length + 1 + (wordW x0 x1).length := by omega
                have o3 : ¬ 9223372036854775807 < row.length + (wordW x0 x1).length := by omega
                have a2 : strOf (row ++ [32]) ++ strOf (wordW x0 x1) = strOf ((row ++ [32]) ++ wordW x0 x1) := (strOf_app _ _).symm
                have a3 : strOf row ++ strOf (wordW x0 x1) = strOf (row ++ wordW x0 x1) := (strOf_app _ _).symm
                by_cases hq0 : 0 < q
                · have hq0' : (0 : Int) < (q : Int) := by omega
                  have HN := Lib.hid (hst rfl hq0 hle)
                  clear hst hst0 hbd
                  go_wp2_with (first | (go_at_call 16; refine (hwd _).mono ?_; rintro e w9 ⟨rfl, hb⟩; have HB2 := Lib.hid (bstep (HB.out.alloc HB.out.size (.cells #[.bool x0, .string (strOf x1), .int .i64 x2] 31)) hb); clear hb))
                  go_roundg (ws.length - (q + 1))
                  case measure => omega
                  case rel => exact ⟨q + 1, _, by omega, rfl, by go_num, rfl, Lib.hid (by simpa using HN.out), HB2⟩
                · have hq0' : ¬ (0 : Int) < (q : Int) := by omega
                  have HN := Lib.hid (hst0 (by omega) rfl)
                  clear hst hst0 hbd
                  go_wp2_with (first | (go_at_call 16; refine (hwd _).mono ?_; rintro e w9 ⟨rfl, hb⟩; have HB2 := Lib.hid (bstep (HB.out.alloc HB.out.size (.cells #[.bool x0, .string (strOf x1), .int .i64 x2] 31)) hb); clear hb))
                  go_roundg (ws.length - (q + 1))
                  case measure => omega
                  case rel => exact ⟨q + 1, _, by omega, rfl, by go_num, rfl, HN, HB2⟩
              | false =>
                rw [if_neg (by decide)] at hwd
                have HN := Lib.hid (hbd rfl)
                clear hst hst0 hbd
                go_wp2_with (first | (go_at_call 16; refine (hwd _).mono ?_; rintro e w9 ⟨rfl, hb⟩; have HB2 := Lib.hid (bstep (HB.out.alloc HB.out.size (.cells #[.bool x0, .string (strOf x1), .int .i64 x2] 31)) hb); clear hb))
                go_ret2
                exact ⟨by rw [HN.out]; rfl, HB2.out⟩
            · have hle' : ¬ (row.length : Int) ≤ 1000 := by omega
              clear hst hst0 hwd
              have a2 : strOf (row ++ [32]) ++ (⟨#[]⟩ : ByteArray) = strOf ((row ++ [32]) ++ []) := by rw [strOf_app]; rfl
              have hq0 : okW x0 x1 = true → (0 : Int) < (q : Int) := fun h => by have := (hlg h (by omega)).1; omega
              have hnx : okW x0 x1 = true → RowInv ws (q + 1) ((row ++ [32]) ++ []) := fun h => (hlg h (by omega)).2
              clear hlg
              rw [hok] at hbd hq0 hnx
              cases x0 with
              | true =>
                have hq1 := hq0 rfl
                have HN := Lib.hid (hnx rfl)
                clear hq0 hnx hbd hba hok
                go_wp2
                go_roundg (ws.length - (q + 1))
                case measure => omega
                case rel => exact ⟨q + 1, _, by omega, rfl, by go_num, rfl, Lib.hid (by simpa using HN.out), Lib.hid (HB.out.alloc HB.out.size _)⟩
              | false =>
                obtain ⟨y, hy⟩ : ∃ y, y = bareB x1 := ⟨_, rfl⟩
                rw [← hy] at hba hbd hq0 hnx
                clear hy hok
                cases y with
                | true =>
                  have hq1 := hq0 rfl
                  have HN := Lib.hid (hnx rfl)
                  clear hq0 hnx hbd
                  go_wp2_with (go_at_call 38; refine (hba _).mono ?_; rintro e w9 ⟨rfl, rfl⟩)
                  go_roundg (ws.length - (q + 1))
                  case measure => omega
                  case rel => exact ⟨q + 1, _, by omega, rfl, by go_num, rfl, Lib.hid (by simpa using HN.out), Lib.hid (HB.out.alloc HB.out.size _)⟩
                | false =>
                  have HN := Lib.hid (hbd rfl)
                  clear hq0 hnx hbd
                  go_wp2_with (go_at_call 38; refine (hba _).mono ?_; rintro e w9 ⟨rfl, rfl⟩)
                  go_ret2
                  exact ⟨by rw [HN.out]; rfl, HB.out.alloc HB.out.size _⟩
          · obtain rfl : q = ws.length := by omega
            have hi2 : ¬ (ws.length : Int) < (ws.length : Int) := by omega
            have hL := HI.out.done hwn
            have hT := HTT.out
            rw [hL] at hT
            clear hL
            have hrb2 : row.length ≤ 75000 := by have := Nat.mul_le_mul_right 2500 hs30; omega
            by_cases hlg : 1000 < row.length
            · have hlg' : (1000 : Int) < (row.length : Int) := by omega
              have HN := Lib.hid (show textI [] rs = ([], 4) from hT.trans (by rw [if_pos hlg]; rfl))
              clear hT
              go_wp2
              go_ret2
              exact ⟨by rw [HN.out]; rfl, HB.out⟩
            · have hlg' : ¬ (1000 : Int) < (row.length : Int) := by omega
              rw [if_neg hlg] at hT
              simp only at hT
              rw [if_neg (fun h => h rfl)] at hT
              have has := strOf_size acc
              by_cases h20 : 20000 < acc.length + row.length + 1
              · have h20' : (20000 : Int) < (acc.length : Int) + (row.length : Int) + 1 := by omega
                have HN := Lib.hid (show textI [] rs = ([], 4) from hT.trans (by rw [if_pos h20]))
                clear hT
                go_wp2
                go_ret2
                exact ⟨by rw [HN.out]; rfl, HB.out⟩
              · have h20' : ¬ (20000 : Int) < (acc.length : Int) + (row.length : Int) + 1 := by omega
                rw [if_neg h20] at hT
                have HN := Lib.hid hT
                have a1 : strOf acc ++ strOf row = strOf (acc ++ row) := (strOf_app _ _).symm
                have a2 : (strOf (acc ++ row) ++ ⟨#[10]⟩ : ByteArray) = strOf (acc ++ (row ++ [10])) := by rw [← List.append_assoc, strOf_app]; rfl
                have s1 : (strOf (acc ++ row)).size = acc.length + row.length := by rw [strOf_size, List.length_append]
                have o1 : ¬ 9223372036854775807 < acc.length + row.length := by omega
                have o2 : ¬ 9223372036854775807 < acc.length + row.length + 1 := by omega
                clear hT
                go_wp2
                go_roundg (rs.length - (k + 1))
                case measure => omega
                case rel => exact ⟨k + 1, _, by omega, rfl, by go_num, rfl, HN, by simp only [List.length_append, List.length_cons, List.length_nil]; omega, HB⟩
    · obtain rfl : k = rs.length := by omega
      have hi' : ¬ (rs.length : Int) < (rs.length : Int) := by omega
      have hr := Lib.hid (show textI [] rs = (acc, 0) from HT.out.trans (by rw [List.drop_length]; rfl))
      go_wp2
      go_ret2
      exact ⟨by rw [hr.out]; rfl, HB.out⟩
end Go.Proofs.YtkmkhegekonbmaaDoor
