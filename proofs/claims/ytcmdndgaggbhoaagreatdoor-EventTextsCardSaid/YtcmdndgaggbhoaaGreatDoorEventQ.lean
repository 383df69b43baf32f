/- Walks: strings.Cut at a separator of one byte. -/
import Derived.Test.YtcmdndgaggbhoaaGreatDoorEventN
import Derived.IntWalk
namespace Go.Proofs.YtcmdndgaggbhoaaGreatDoor.Ev
open Go.RowKit Go.Shelf

/-- What stands ahead of the first c, and behind it. -/
def cutA (l : List UInt8) (c : UInt8) : List UInt8 := l.takeWhile (· != c)
def cutR (l : List UInt8) (c : UInt8) : List UInt8 := (l.dropWhile (· != c)).tail
theorem index_none {l : List UInt8} {c : UInt8} (h : c ∉ l) : Lib.indexByte l c = -1 ∧ cutA l c = l ∧ cutR l c = [] := by
  induction l with
  | nil => exact ⟨rfl, rfl, rfl⟩
  | cons b l ih =>
    have hb : b ≠ c := fun e => h (by rw [e]; simp)
    obtain ⟨h1, h2, h3⟩ := ih (fun m => h (by simp [m]))
    unfold cutA cutR at *
    refine ⟨by simp [Lib.indexByte, hb, h1], by rw [List.takeWhile_cons, if_pos (by simpa using hb), h2], by rw [List.dropWhile_cons, if_pos (by simpa using hb), h3]⟩
theorem index_some {l : List UInt8} {c : UInt8} (h : c ∈ l) : Lib.indexByte l c = (cutA l c).length ∧ l = cutA l c ++ c :: cutR l c := by
  induction l with
  | nil => cases h
  | cons b l ih =>
    by_cases hb : b = c
    · subst hb
      unfold cutA cutR
      exact ⟨by simp [Lib.indexByte], by simp⟩
    · obtain ⟨h1, h2⟩ := ih (by rcases List.mem_cons.1 h with e | e; exact absurd e.symm hb; exact e)
      have e1 : cutA (b :: l) c = b :: cutA l c := by unfold cutA; rw [List.takeWhile_cons, if_pos (by simpa using hb)]
      have e2 : cutR (b :: l) c = cutR l c := by unfold cutR; rw [List.dropWhile_cons, if_pos (by simpa using hb)]
      rw [e1, e2]
      refine ⟨?_, by rw [List.cons_append, ← h2]⟩
      have hn : ¬ ((cutA l c).length : Int) = -1 := by omega
      simp [Lib.indexByte, hb, h1, hn]
theorem cutA_no (l : List UInt8) (c : UInt8) : c ∉ cutA l c := by
  induction l with
  | nil => intro h; cases h
  | cons b l ih =>
    unfold cutA at ih ⊢
    rw [List.takeWhile_cons]
    by_cases hb : b = c
    · rw [if_neg (by simpa using hb)]; intro h; cases h
    · rw [if_pos (by simpa using hb)]
      intro h
      rcases List.mem_cons.1 h with e | e
      · exact hb e.symm
      · exact ih e
theorem cutA_of {A R : List UInt8} {c : UInt8} (h : c ∉ A) : cutA (A ++ c :: R) c = A ∧ cutR (A ++ c :: R) c = R := by
  obtain ⟨_, h2⟩ := index_some (l := A ++ c :: R) (c := c) (by simp)
  obtain ⟨h3, h4⟩ := cut_same h (cutA_no _ _) h2
  exact ⟨h3.symm, h4.symm⟩
theorem extract_take (s : ByteArray) (n : Nat) : s.extract 0 n = strOf (s.data.toList.take n) := by
  apply ByteArray.ext
  apply Array.ext'
  simp [strOf]
theorem extract_drop (s : ByteArray) (n : Nat) : s.extract n s.size = strOf (s.data.toList.drop n) := by
  apply ByteArray.ext
  apply Array.ext'
  simp [strOf]
  rw [List.take_of_length_le]
  simp
set_option maxHeartbeats 1000000 in
theorem cutLite_any (s : ByteArray) (c : UInt8) (w : World) (hs : s.size ≤ 100000) :
    Calls Tryz.prog 57 #[.string s, .string ⟨#[c]⟩] w fun e w' => e = .returned (.tuple #[.string (strOf (cutA s.data.toList c)), .string (strOf (cutR s.data.toList c)), .bool (decide (c ∈ s.data.toList))]) ∧ Below w.heap.size w w' := by
  have hI := fun w => Tryz.stringslite_Index_one s c w
  by_cases h : c ∈ s.data.toList
  · obtain ⟨h1, h2⟩ := index_some h
    have hlen := congrArg List.length h2
    rw [bytes_size, List.length_append, List.length_cons] at hlen
    rw [h1] at hI
    rw [decide_eq_true h]
    obtain ⟨A, hA⟩ : ∃ A, A = cutA s.data.toList c := ⟨_, rfl⟩
    obtain ⟨R, hR⟩ : ∃ R, R = cutR s.data.toList c := ⟨_, rfl⟩
    rw [← hA] at hI hlen h2 ⊢
    rw [← hR] at hlen h2 ⊢
    have e1 : s.extract 0 A.length = strOf A := by
      rw [extract_take, h2, List.take_left]
    have e2 : s.extract (A.length + 1) s.size = strOf R := by
      rw [extract_drop, h2, show A.length + 1 = (A ++ [c]).length by simp, show A ++ c :: R = (A ++ [c]) ++ R by simp, List.drop_left]
    rw [← e1, ← e2]
    obtain ⟨i, hi⟩ : ∃ i, i = A.length := ⟨_, rfl⟩
    rw [← hi] at hI hlen ⊢
    clear e1 e2 h1 h2 hi h hA hR
    have g0 : (0 : Int) ≤ (i : Int) := by omega
    have g1 : (i : Int) ≤ (s.size : Int) := by omega
    have g2 : (i : Int) + 1 ≤ (s.size : Int) := by omega
    have g3 : IntKind.i64.wrap ((i : Int) + 1) = (i : Int) + 1 := IntWalk.i64_in _ ⟨by omega, by omega⟩
    have g4 : (0 : Int) ≤ (i : Int) + 1 := by omega
    have g5 : ((i : Int) + 1).toNat = i + 1 := by omega
    clear hlen hs
    go_enter Tryz.func57, Tryz.ntmps57
    go_wp2_with (go_at_call 81; refine (hI _).mono ?_; rintro e w' ⟨rfl, rfl⟩)
    go_quiet (fail)
    go_wp2
    go_returns
    exact ⟨rfl, below_drewN (Below.refl _ _) _⟩
  · obtain ⟨h1, h2, h3⟩ := index_none h
    rw [h1] at hI
    rw [decide_eq_false h, h2, h3]
    have hss : strOf s.data.toList = s := by apply ByteArray.ext; simp [strOf]
    rw [hss]
    clear h1 h2 h3 hss h
    go_enter Tryz.func57, Tryz.ntmps57
    go_wp2_with (go_at_call 81; refine (hI _).mono ?_; rintro e w' ⟨rfl, rfl⟩)
    go_returns
    exact ⟨rfl, Below.refl _ _⟩
theorem cut_any (s : ByteArray) (c : UInt8) (w : World) (hs : s.size ≤ 100000) :
    Calls Tryz.prog 29 #[.string s, .string ⟨#[c]⟩] w fun e w' => e = .returned (.tuple #[.string (strOf (cutA s.data.toList c)), .string (strOf (cutR s.data.toList c)), .bool (decide (c ∈ s.data.toList))]) ∧ Below w.heap.size w w' := by
  have h := cutLite_any s c w hs
  obtain ⟨b, hb⟩ : ∃ b, b = decide (c ∈ s.data.toList) := ⟨_, rfl⟩
  rw [← hb] at h ⊢
  clear hb
  go_enter Tryz.func29, Tryz.ntmps29
  go_wp2_with fail
  refine h.mono ?_
  rintro e w1 ⟨rfl, hb1⟩
  go_wp2
  go_returns
  exact ⟨rfl, hb1⟩
end Go.Proofs.YtcmdndgaggbhoaaGreatDoor.Ev
