/- The document's own order of the signs, and its numbers; walks: words. -/
import Derived.Test.YtmdlndmibodimaaDoorTokU
namespace Go.Proofs.YtmdlndmibodimaaDoor
open Go.RowKit
open Tk7

/-- The signs in the document's own order. -/
def signsR : List (List UInt8) := [[33, 61], [60, 61], [62, 61], [59], [124], [123], [125], [44], [40], [41], [91], [93], [64], [58], [61], [60], [62]]
def findR (b : UInt8) (q : Bool) : List UInt8 := ((([33, 61], 33 == b && q) :: ([60, 61], 60 == b && q) :: ([62, 61], 62 == b && q) :: ([59], 59 == b) :: ([124], 124 == b) :: ([123], 123 == b) :: ([125], 125 == b) :: ([44], 44 == b) :: ([40], 40 == b) :: ([41], 41 == b) :: ([91], 91 == b) :: ([93], 93 == b) :: ([64], 64 == b) :: ([58], 58 == b) :: ([61], 61 == b) :: ([60], 60 == b) :: ([62], 62 == b) :: [] : List (List UInt8 × Bool)).find? (·.2)).elim [] (·.1)
theorem firstR_find (b : UInt8) (r : List UInt8) : firstS signsR (b :: r) = findR b (r.head? == some 61) := by
  unfold firstS
  rw [find_map]
  unfold signsR findR
  simp only [List.map_cons, List.map_nil, prefix1, prefix2]
theorem findR_Q : ∀ b : Fin 256, ∀ q : Bool, findR (UInt8.ofNat b.val) q = findQ (UInt8.ofNat b.val) q := by decide +kernel
theorem findR_Q' (b : UInt8) (q : Bool) : findR b q = findQ b q := by
  have := findR_Q ⟨b.toNat, b.toNat_lt⟩ q
  simpa using this
theorem firstR_sign (l : List UInt8) : firstS signsR l = l.take (signG l) := by
  cases l with
  | nil => decide
  | cons b r => rw [firstR_find, findR_Q', ← first_find, first_sign]
theorem signsR_len : ∀ (i : Nat) (c : List UInt8), signsR[i]? = some c → c.length ≤ 2 ∧ 1 ≤ c.length := by
  intro i c h
  have h1 : c ∈ signsR := List.mem_of_getElem? h
  clear h
  revert c
  decide
theorem dropR_sign {i : Nat} {c : List UInt8} (h : signsR[i]? = some c) : signsR.drop i = c :: signsR.drop (i + 1) := by
  obtain ⟨h1, h2⟩ := List.getElem?_eq_some_iff.1 h
  rw [List.drop_eq_getElem_cons h1, h2]

theorem numF_min (r : List UInt8) : (numF (45 :: r) 1 = 0 ∨ numF (45 :: r) 1 = -1) ∧ numG 45 r = 0 ∨ numF (45 :: r) 1 = ((numG 45 r : Nat) : Int) ∧ numG 45 r ≠ 0 := by
  have h1 : (45 :: r).drop 1 = r := rfl
  have h2 : numG 45 r = if rightD true (r.takeWhile digB) then (r.takeWhile digB).length + 1 else 0 := rfl
  rw [h2]
  cases r with
  | nil => exact .inl ⟨.inl (numF_none (by rw [h1]; rfl)), rfl⟩
  | cons c r =>
    cases hc : digB c with
    | false =>
      have h3 : (c :: r).takeWhile digB = [] := by rw [List.takeWhile_cons, if_neg (by rw [hc]; decide)]
      exact .inl ⟨.inl (numF_none (by rw [h1, h3]; rfl)), by rw [h3]; rfl⟩
    | true =>
      have h3 : (c :: r).takeWhile digB = c :: r.takeWhile digB := by rw [List.takeWhile_cons, if_pos hc]
      have h4 : ((45 :: c :: r).drop 1).takeWhile digB = c :: r.takeWhile digB := by rw [h1, h3]
      by_cases hz : c = 48
      · subst hz
        refine .inl ⟨.inr (numF_bad (by rw [h4]; simp) rfl (.inr rfl)), ?_⟩
        rw [h3]
        unfold rightD
        rw [if_neg]
        simp
      · refine .inr ⟨?_, ?_⟩
        · rw [numF_good (by rw [h4]; simp) (by rw [h1]; simp [hz]), h4, h3, if_pos]
          · simp; omega
          · unfold rightD; simp [hz]
        · rw [h3, if_pos]
          · simp
          · unfold rightD; simp [hz]
theorem numF_dig (b : UInt8) (r : List UInt8) (h : digB b = true) : numF (b :: r) 0 = -1 ∧ numG b r = 0 ∨ numF (b :: r) 0 = ((numG b r : Nat) : Int) ∧ numG b r ≠ 0 := by
  have hne : ¬ b = 45 := by rintro rfl; exact absurd h (by decide)
  have h2 : numG b r = if rightD false (b :: r.takeWhile digB) then (r.takeWhile digB).length + 1 else 0 := by
    unfold numG; rw [if_neg (by rw [beq_iff_eq]; exact hne)]
  rw [h2]
  have h4 : ((b :: r).drop 0).takeWhile digB = b :: r.takeWhile digB := by rw [List.drop_zero, List.takeWhile_cons, if_pos h]
  by_cases hz : b = 48
  · subst hz
    cases hd : r.takeWhile digB with
    | nil =>
      rw [hd] at h4
      refine .inr ⟨?_, by decide⟩
      rw [numF_good (by rw [h4]; simp) (by rw [h4]; simp), h4]
      decide
    | cons c d =>
      rw [hd] at h4
      refine .inl ⟨numF_bad (by rw [h4]; simp) rfl (.inl (by rw [h4]; simp)), ?_⟩
      rw [if_neg]
      unfold rightD
      simp
  · have hr : rightD false (b :: r.takeWhile digB) = true := by unfold rightD; simp [hz]
    rw [if_pos hr]
    refine .inr ⟨?_, by omega⟩
    rw [numF_good (by rw [h4]; simp) (by simp [hz]), h4]
    simp
theorem numF_not (b : UInt8) (r : List UInt8) (h : digB b = false) : numF (b :: r) 0 = 0 := by
  apply numF_none
  rw [List.drop_zero, List.takeWhile_cons, if_neg (by rw [h]; decide)]
  rfl
theorem begL_1 {l : List UInt8} (h0 : 0 < l.length) (h : smallB (l[0]'h0) = true) : begG l = (1, (l.takeWhile smallB).length) := by
  cases l with
  | nil => cases h0
  | cons b r => have h : smallB b = true := h; rw [while_true h]; exact beg_1 h
theorem begL_2 {l : List UInt8} (h0 : 0 < l.length) (h1 : smallB (l[0]'h0) = false) (h : largeB (l[0]'h0) = true) : begG l = (2, 1) := by
  cases l with
  | nil => cases h0
  | cons b r => exact beg_2 h1 h
set_option maxRecDepth 100000 in
/-- The document's own number: none, then a sign may follow; not written as said; a number. -/
theorem rnumber_any (l : List UInt8) (h0 : 0 < l.length) (hl : l.length ≤ 1000000) (h1 : smallB (l[0]'h0) = false) (h2 : largeB (l[0]'h0) = false) : ∃ n : Int, (n = 0 ∧ (begG l).2 = signG l ∧ ((begG l).2 ≠ 0 → (begG l).1 = 4) ∨ n = -1 ∧ (begG l).2 = 0 ∨ n = (((begG l).2 : Nat) : Int) ∧ (begG l).2 ≠ 0 ∧ (begG l).1 = 3) ∧
    ∀ w : World, Calls Tryd.prog 58 #[.string (strOf l)] w fun e w' => e = .returned (.int .i64 n) ∧ w = w' := by
  by_cases hm : l[0]'h0 = 45
  · refine ⟨numF l 1, ?_, fun w => rnumber_min l h0 hl hm w⟩
    cases l with
    | nil => cases h0
    | cons b r =>
      have hm : b = 45 := hm
      subst hm
      have hb : begG (45 :: r) = (3, numG 45 r) := by simp only [begG]; rw [if_neg (by decide), if_neg (by decide), if_pos (by decide)]
      have hs : signG (45 :: r) = 0 := by show (if twoB 45 && r.head? == some 61 then 2 else if oneB 45 then 1 else 0) = 0; rw [if_neg (by simp [twoB]), if_neg (by decide)]
      rw [hb, hs]
      rcases numF_min r with ⟨h3 | h3, h4⟩ | ⟨h3, h4⟩
      · exact .inl ⟨h3, h4, fun h => absurd h4 h⟩
      · exact .inr (.inl ⟨h3, h4⟩)
      · exact .inr (.inr ⟨h3, h4, rfl⟩)
  · refine ⟨numF l 0, ?_, fun w => rnumber_dig l h0 hl hm w⟩
    cases l with
    | nil => cases h0
    | cons b r =>
      have h1 : smallB b = false := h1
      have h2 : largeB b = false := h2
      have hm : ¬ b = 45 := hm
      have hmb : (b == 45) = false := by rw [beq_eq_false_iff_ne]; exact hm
      cases hd : digB b with
      | true =>
        have hb : begG (b :: r) = (3, numG b r) := by simp only [begG]; rw [if_neg (by rw [h1]; decide), if_neg (by rw [h2]; decide), if_pos (by rw [hd]; rfl)]
        rw [hb]
        rcases numF_dig b r hd with ⟨h3, h4⟩ | ⟨h3, h4⟩
        · exact .inr (.inl ⟨h3, h4⟩)
        · exact .inr (.inr ⟨h3, h4, rfl⟩)
      | false =>
        have hb : begG (b :: r) = (4, signG (b :: r)) := by simp only [begG]; rw [if_neg (by rw [h1]; decide), if_neg (by rw [h2]; decide), if_neg (by rw [hd, hmb]; decide)]
        rw [hb]
        exact .inl ⟨numF_not b r hd, rfl, fun _ => rfl⟩
/-- The words of the language. -/
def wordsL : List (List UInt8) := [[119, 105, 116, 104, 105, 110], [104, 97, 118, 105, 110, 103], [97, 110, 100], [101, 109, 105, 116], [110, 111, 116], [99, 111, 117, 110, 116], [115, 117, 109], [109, 105, 110], [109, 97, 120], [102, 105, 114, 115, 116], [108, 97, 115, 116]]
def wordB (s : ByteArray) : Bool := wordsL.any fun c => decide (s = strOf c)
set_option maxRecDepth 100000 in
theorem rwords_any (w : World) : Calls Tryd.prog 39 #[] w fun e w' => ∃ a : Addr, e = .returned (.slice (some a) 11 11) ∧ Below w.heap.size w w' ∧ a.block < w'.heap.size ∧ ∀ (i : Nat) (c : List UInt8), wordsL[i]? = some c → w'.cell? (a.add i) = some (.string (strOf c)) := by
  go_enter Tryd.func39, Tryd.ntmps39
  go_wp2
  go_ret
  refine ⟨⟨w.heap.size, 0, none⟩, rfl, below1 _ _, by simp, fun i c hc => ?_⟩
  exact blk_cells (Blk.is (us := wordsL.map fun c => .string (strOf c)) _ rfl) i _ (by rw [List.getElem?_map, hc]; rfl)
set_option maxRecDepth 100000 in
theorem rsigns_any (w : World) : Calls Tryd.prog 59 #[] w fun e w' => ∃ a : Addr, e = .returned (.slice (some a) 17 17) ∧ Below w.heap.size w w' ∧ a.block < w'.heap.size ∧ ∀ (i : Nat) (c : List UInt8), signsR[i]? = some c → w'.cell? (a.add i) = some (.string (strOf c)) := by
  go_enter Tryd.func59, Tryd.ntmps59
  go_wp2
  go_ret
  refine ⟨⟨w.heap.size, 0, none⟩, rfl, below1 _ _, by simp, fun i c hc => ?_⟩
  exact blk_cells (Blk.is (us := signsR.map fun c => .string (strOf c)) _ rfl) i _ (by rw [List.getElem?_map, hc]; rfl)
end Go.Proofs.YtmdlndmibodimaaDoor
