/- Walks: the document's own check of a token; few tokens. -/
import Derived.Test.YtmdlndmibodimaaDoorTokY
import Derived.Test.YtmdlndmibodimaaDoorTokR
import Derived.Test.YtmdlndmibodimaaDoorTokZ
namespace Go.Proofs.YtmdlndmibodimaaDoor
open Go.RowKit
open Tk7

theorem tok_self {k : Nat} {l : List UInt8} (kd : Int) (hl : l ≠ []) (hkd : (begG l).2 ≠ 0 → kd = ((begG l).1 : Int)) :
    (isTok k l = true → kd = (k : Int) ∧ l.take (begG l).2 = l) ∧ (isTok k l = false → kd = (k : Int) → l.take (begG l).2 ≠ l) := by
  have hlen : l.length ≠ 0 := fun e => hl (List.eq_nil_of_length_eq_zero e)
  constructor
  · intro h
    obtain ⟨h1, _⟩ := isTok_iff.1 h
    rw [h1] at hkd ⊢
    exact ⟨hkd hlen, List.take_length⟩
  · intro h h1 h2
    have h3 := congrArg List.length h2
    rw [List.length_take] at h3
    have h4 := begG_le l
    have h5 : (begG l).2 = l.length := by omega
    have h6 := hkd (by omega)
    have h7 : (begG l).1 = k := by omega
    have : isTok k l = true := isTok_iff.2 ⟨by rw [← h7, ← h5], hl⟩
    rw [h] at this
    cases this
set_option maxRecDepth 100000 in
set_option maxHeartbeats 4000000 in
theorem rcheck_any (K : Int) (l : List UInt8) (a : Int) (hl : l.length ≤ 1000000) (w : World) :
    Calls Tryd.prog 27 #[.agg #[.int .i64 K, .string (strOf l), .int .i64 a]] w fun e w' => e = .returned (.int .i64 (checkI (K, l, a))) ∧ Below w.heap.size w w' := by
  have hc : checkI (K, l, a) = if K < 1 ∨ 4 < K then 11 else if isTok K.toNat l = false then 3 else if a < 0 then 2 else 0 := rfl
  by_cases hk1 : K < 1
  · rw [hc, if_pos (Or.inl hk1)]
    clear hc
    go_enter Tryd.func27, Tryd.ntmps27
    go_wp2
    go_ret
    exact ⟨rfl, below1 _ _⟩
  by_cases hk2 : 4 < K
  · rw [hc, if_pos (Or.inr hk2)]
    clear hc
    go_enter Tryd.func27, Tryd.ntmps27
    go_wp2
    go_ret
    exact ⟨rfl, below1 _ _⟩
  rw [hc, if_neg (by omega)]
  clear hc
  obtain ⟨k, hk⟩ : ∃ k : Nat, k = K.toNat := ⟨_, rfl⟩
  have hKk : K = (k : Int) := by omega
  rw [← hk]
  clear hk
  subst hKk
  by_cases hn : l = []
  · subst hn
    rw [if_pos (by simp [isTok])]
    have hemp : (strOf ([] : List UInt8)).toList.isEmpty = true := by rw [strOf_toL]; rfl
    go_enter Tryd.func27, Tryd.ntmps27
    go_wp2
    go_ret
    exact ⟨rfl, below1 _ _⟩
  have h0 : 0 < l.length := List.length_pos_iff.2 hn
  have hemp : (strOf l).toList.isEmpty = false := by
    rw [strOf_toL]
    cases l with
    | nil => exact absurd rfl hn
    | cons _ _ => rfl
  have hB := fun w => rbegins_any l h0 hl w
  unfold BegP at hB
  have hts := fun kd h => tok_self (k := k) (l := l) kd hn h
  obtain ⟨b, hb⟩ : ∃ b, b = isTok k l := ⟨_, rfl⟩
  obtain ⟨T, hT⟩ : ∃ T, T = l.take (begG l).2 := ⟨_, rfl⟩
  rw [← hT] at hB hts
  rw [← hb] at hts ⊢
  have HTS := Lib.hid hts
  have hl1 : (strOf T).toList = T := strOf_toL T
  have hl2 : (strOf l).toList = l := strOf_toL l
  have hbx : ∀ w2 : World, Below (w.alloc (.cells #[.int .i64 (k : Int), .string (strOf l), .int .i64 a] 30)).heap.size (w.alloc (.cells #[.int .i64 (k : Int), .string (strOf l), .int .i64 a] 30)) w2 → Blk w2 w.heap.size [.int .i64 (k : Int), .string (strOf l), .int .i64 a] ∧ Below w.heap.size w w2 := fun w2 hb => ⟨(Blk.is _ rfl).later hb, bstep (below1 _ _) hb⟩
  clear hts hb hT
  obtain ⟨S, hS⟩ : ∃ S, S = strOf l := ⟨_, rfl⟩
  obtain ⟨S2, hS2⟩ : ∃ S, S = strOf T := ⟨_, rfl⟩
  rw [← hS] at hB hbx hl2 hemp ⊢
  rw [← hS2] at hB hl1
  have hST : T = l → S2 = S := fun e => by rw [hS, hS2, e]
  have HL1 := Lib.hid hl1
  have HL2 := Lib.hid hl2
  clear hS hS2 hl1 hl2
  obtain ⟨r, hr⟩ : ∃ r : Int, r = if b = false then 3 else if a < 0 then 2 else 0 := ⟨_, rfl⟩
  rw [← hr]
  have HR := Lib.hid hr
  clear hr
  go_enter Tryd.func27, Tryd.ntmps27
  go_upto_region 6 with (go_at_call 38; refine (hB _).mono ?_; rintro e w2 ⟨kd, rfl, hkd, hb2⟩)
  obtain ⟨hq, hB2⟩ := hbx _ hb2
  have hts := HTS.out kd hkd
  have c0 := hq.cell 0 _ rfl
  have c1 := hq.cell 1 _ rfl
  have c2 := hq.cell 2 _ rfl
  have hql := hq.lt
  clear HTS hbx hkd hq hB
  cases b with
  | true =>
    obtain ⟨rfl, h2⟩ := hts.1 rfl
    have h3 := hST h2
    subst h3
    clear hts hST h2
    by_cases ha : a < 0
    · have er := Lib.hid (show r = 2 by rw [HR.out, if_neg (by decide), if_pos ha])
      clear HR
      go_wp2
      go_ret
      exact ⟨by rw [er.out]; rfl, bstep hB2 (below1 _ _)⟩
    · have er := Lib.hid (show r = 0 by rw [HR.out, if_neg (by decide), if_neg ha])
      clear HR
      go_wp2
      go_ret
      exact ⟨by rw [er.out]; rfl, bstep hB2 (below1 _ _)⟩
  | false =>
    have er := Lib.hid (show r = 3 by rw [HR.out, if_pos rfl])
    clear HR
    by_cases h1 : kd = (k : Int)
    · have h2 := hts.2 rfl h1
      have b1 : (S2.toList == S.toList) = false := by rw [HL1.out, HL2.out, beq_eq_false_iff_ne]; exact h2
      have n1 : ¬ S2.toList = S.toList := by rw [HL1.out, HL2.out]; exact h2
      subst h1
      clear hts hST h2
      go_wp2
      go_ret
      exact ⟨by rw [er.out]; rfl, bstep hB2 (below1 _ _)⟩
    · have b1 : (kd == (k : Int)) = false := by rw [beq_eq_false_iff_ne]; exact h1
      clear hts hST
      go_wp2
      go_ret
      exact ⟨by rw [er.out]; rfl, bstep hB2 (below1 _ _)⟩
/-- At most 20 tokens of at most 60 bytes each. -/
def fewB (xs : List TK) : Bool := (xs.take 21).all (fun x => decide (x.2.1.length ≤ 60)) && decide (xs.length ≤ 20)
theorem few_true {xs : List TK} (h : fewB xs = true) : xs.length ≤ 20 ∧ ∀ x ∈ xs, x.2.1.length ≤ 60 := by
  unfold fewB at h
  rw [Bool.and_eq_true, List.all_eq_true, decide_eq_true_eq] at h
  refine ⟨h.2, fun x hx => ?_⟩
  have := h.1 x (by rw [List.take_of_length_le (by omega)]; exact hx)
  exact of_decide_eq_true this
set_option maxRecDepth 100000 in
set_option maxHeartbeats 4000000 in
theorem few_any (v : Value) (xs : List TK) (w : World) (hv : KSl w v xs) :
    Calls Tryd.prog 21 #[v] w fun e w' => e = .returned (.bool (fewB xs)) ∧ Below w.heap.size w w' := by
  obtain ⟨A, cap, rfl, hcap, hmax, _, hc⟩ := hv.at_
  have HC := Lib.hid hc
  have hF : fewB xs = ((xs.take 21).all (fun x => decide (x.2.1.length ≤ 60)) && decide (xs.length ≤ 20)) := rfl
  have HF := Lib.hid hF
  clear hc hv hF
  go_enter Tryd.func21, Tryd.ntmps21
  go_wp2
  go_loopg [3] 21 (fun g iv wr => ∃ i : Nat, i ≤ 21 ∧ i ≤ xs.length ∧ g = 21 - i ∧ iv = .int .i64 (i : Int) ∧ w = wr ∧ Hid (∀ x ∈ xs.take i, x.2.1.length ≤ 60))
  case atStart => exact ⟨0, by omega, by omega, rfl, rfl, by first | rfl | trivial, Lib.hid (fun x hx => by cases hx)⟩
  case round =>
    obtain ⟨i, hi, hil, hg, rfl, rfl, hR⟩ := hrel
    have h1b : (0 : Int) ≤ (i : Int) := by omega
    by_cases hz : i < xs.length
    · have h1 : (i : Int) < (xs.length : Int) := by omega
      by_cases h21 : i < 21
      · have h2 : (i : Int) < 21 := by omega
        obtain ⟨a, rfl, _, c0, c1, c2⟩ := HC.out i hz
        rw [← add_at _ _ _ (by decide)] at c1 c2
        obtain ⟨x, hx⟩ : ∃ x, x = xs[i] := ⟨_, rfl⟩
        rw [← hx] at c0 c1 c2
        have hwi : IntKind.i64.wrap ((i : Int) + 1) = (i : Int) + 1 := IntWalk.i64_in _ ⟨by omega, by omega⟩
        have hsx : (strOf x.2.1).size = x.2.1.length := strOf_size _
        by_cases h60 : 60 < x.2.1.length
        · have h3 : (60 : Int) < (x.2.1.length : Int) := by omega
          have e1 := Lib.hid (show fewB xs = false by
            rw [HF.out, Bool.and_eq_false_iff]
            left
            rw [List.all_eq_false]
            refine ⟨x, ?_, fun h => absurd (of_decide_eq_true h) (by omega)⟩
            rw [hx]
            have hm : (xs.take 21)[i]'(by rw [List.length_take]; omega) ∈ xs.take 21 := List.getElem_mem _
            rw [List.getElem_take] at hm
            exact hm)
          clear hx hR
          go_wp2
          go_ret
          exact ⟨by rw [e1.out]; rfl, Below.refl _ _⟩
        · have h3 : ¬ (60 : Int) < (x.2.1.length : Int) := by omega
          have hR2 := Lib.hid (show ∀ y ∈ xs.take (i + 1), y.2.1.length ≤ 60 from fun y hy => by
            rw [take_snoc _ _ hz, List.mem_append, List.mem_singleton] at hy
            rcases hy with hy | hy
            · exact hR.out y hy
            · rw [hy, ← hx]; omega)
          clear hx hR
          go_wp2
          go_roundg (21 - (i + 1))
          case rel => exact ⟨i + 1, by omega, by omega, rfl, by go_num, by first | rfl | trivial, hR2⟩
          case measure => omega
      · have h2 : ¬ (i : Int) < 21 := by omega
        have h4 : ¬ (xs.length : Int) ≤ 20 := by omega
        have e1 := Lib.hid (show fewB xs = false by rw [HF.out, Bool.and_eq_false_iff]; right; exact decide_eq_false (by omega))
        have h5 : decide ((xs.length : Int) ≤ 20) = false := decide_eq_false h4
        have h6 : decide (xs.length ≤ 20) = false := decide_eq_false (by omega)
        clear hR
        go_wp2
        go_ret
        exact ⟨by rw [e1.out]; rfl, Below.refl _ _⟩
    · have h1 : ¬ (i : Int) < (xs.length : Int) := by omega
      have hxl : xs.length ≤ 21 := by omega
      have h7 : (xs.take 21).all (fun x => decide (x.2.1.length ≤ 60)) = true := by
        rw [List.all_eq_true]
        intro x hx
        rw [List.take_of_length_le hxl] at hx
        exact decide_eq_true (hR.out x (by rw [List.take_of_length_le (by omega)]; exact hx))
      clear hR
      by_cases h20 : xs.length ≤ 20
      · have e1 := Lib.hid (show fewB xs = true by rw [HF.out, h7, decide_eq_true h20]; rfl)
        have h4 : (xs.length : Int) ≤ 20 := by omega
        have h5 : decide ((xs.length : Int) ≤ 20) = true := decide_eq_true h4
        clear h7
        go_wp2
        go_ret
        exact ⟨by rw [e1.out]; rfl, Below.refl _ _⟩
      · have e1 := Lib.hid (show fewB xs = false by rw [HF.out, decide_eq_false h20, Bool.and_false])
        have h4 : ¬ (xs.length : Int) ≤ 20 := by omega
        have h5 : decide ((xs.length : Int) ≤ 20) = false := decide_eq_false h4
        have h6 : decide (xs.length ≤ 20) = false := decide_eq_false h20
        clear h7
        go_wp2
        go_ret
        exact ⟨by rw [e1.out]; rfl, Below.refl _ _⟩
end Go.Proofs.YtmdlndmibodimaaDoor
