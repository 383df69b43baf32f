/- Walks: words, the program's and the document's own. -/
import Derived.Test.YtmdlndmibodimaaDoorTokV
namespace Go.Proofs.YtmdlndmibodimaaDoor
open Go.RowKit
open Tk7

theorem word_is {s : ByteArray} {c : List UInt8} (hc : c ∈ wordsL) (h : s = strOf c) : wordB s = true := by
  unfold wordB
  rw [List.any_eq_true]
  exact ⟨c, hc, decide_eq_true h⟩
theorem str_nel {s : ByteArray} {l : List UInt8} (h : ¬ s = strOf l) : (s.toList == l) = false := by
  have := str_ne h
  rwa [strOf_toL] at this
theorem word_not {s : ByteArray} (h : ∀ c ∈ wordsL, ¬ s = strOf c) : wordB s = false := by
  cases hb : wordB s with
  | false => rfl
  | true =>
    unfold wordB at hb
    rw [List.any_eq_true] at hb
    obtain ⟨c, hc, hd⟩ := hb
    exact absurd (of_decide_eq_true hd) (h c hc)
set_option maxRecDepth 100000 in
theorem word_0 (w : World) : Calls Tryd.prog 16 #[.string ⟨#[119, 105, 116, 104, 105, 110]⟩] w fun e w' => e = .returned (.bool true) ∧ w = w' := by
  go_enter Tryd.func16, Tryd.ntmps16
  go_wp2
  go_ret
  exact ⟨rfl, by first | rfl | trivial⟩
set_option maxRecDepth 100000 in
theorem word_1 (w : World) : Calls Tryd.prog 16 #[.string ⟨#[104, 97, 118, 105, 110, 103]⟩] w fun e w' => e = .returned (.bool true) ∧ w = w' := by
  go_enter Tryd.func16, Tryd.ntmps16
  go_wp2
  go_ret
  exact ⟨rfl, by first | rfl | trivial⟩
set_option maxRecDepth 100000 in
theorem word_2 (w : World) : Calls Tryd.prog 16 #[.string ⟨#[97, 110, 100]⟩] w fun e w' => e = .returned (.bool true) ∧ w = w' := by
  go_enter Tryd.func16, Tryd.ntmps16
  go_wp2
  go_ret
  exact ⟨rfl, by first | rfl | trivial⟩
set_option maxRecDepth 100000 in
theorem word_3 (w : World) : Calls Tryd.prog 16 #[.string ⟨#[101, 109, 105, 116]⟩] w fun e w' => e = .returned (.bool true) ∧ w = w' := by
  go_enter Tryd.func16, Tryd.ntmps16
  go_wp2
  go_ret
  exact ⟨rfl, by first | rfl | trivial⟩
set_option maxRecDepth 100000 in
theorem word_4 (w : World) : Calls Tryd.prog 16 #[.string ⟨#[110, 111, 116]⟩] w fun e w' => e = .returned (.bool true) ∧ w = w' := by
  go_enter Tryd.func16, Tryd.ntmps16
  go_wp2
  go_ret
  exact ⟨rfl, by first | rfl | trivial⟩
set_option maxRecDepth 100000 in
theorem word_5 (w : World) : Calls Tryd.prog 16 #[.string ⟨#[99, 111, 117, 110, 116]⟩] w fun e w' => e = .returned (.bool true) ∧ w = w' := by
  go_enter Tryd.func16, Tryd.ntmps16
  go_wp2
  go_ret
  exact ⟨rfl, by first | rfl | trivial⟩
set_option maxRecDepth 100000 in
theorem word_6 (w : World) : Calls Tryd.prog 16 #[.string ⟨#[115, 117, 109]⟩] w fun e w' => e = .returned (.bool true) ∧ w = w' := by
  go_enter Tryd.func16, Tryd.ntmps16
  go_wp2
  go_ret
  exact ⟨rfl, by first | rfl | trivial⟩
set_option maxRecDepth 100000 in
theorem word_7 (w : World) : Calls Tryd.prog 16 #[.string ⟨#[109, 105, 110]⟩] w fun e w' => e = .returned (.bool true) ∧ w = w' := by
  go_enter Tryd.func16, Tryd.ntmps16
  go_wp2
  go_ret
  exact ⟨rfl, by first | rfl | trivial⟩
set_option maxRecDepth 100000 in
theorem word_8 (w : World) : Calls Tryd.prog 16 #[.string ⟨#[109, 97, 120]⟩] w fun e w' => e = .returned (.bool true) ∧ w = w' := by
  go_enter Tryd.func16, Tryd.ntmps16
  go_wp2
  go_ret
  exact ⟨rfl, by first | rfl | trivial⟩
set_option maxRecDepth 100000 in
theorem word_9 (w : World) : Calls Tryd.prog 16 #[.string ⟨#[102, 105, 114, 115, 116]⟩] w fun e w' => e = .returned (.bool true) ∧ w = w' := by
  go_enter Tryd.func16, Tryd.ntmps16
  go_wp2
  go_ret
  exact ⟨rfl, by first | rfl | trivial⟩
set_option maxRecDepth 100000 in
theorem word_10 (w : World) : Calls Tryd.prog 16 #[.string ⟨#[108, 97, 115, 116]⟩] w fun e w' => e = .returned (.bool true) ∧ w = w' := by
  go_enter Tryd.func16, Tryd.ntmps16
  go_wp2
  go_ret
  exact ⟨rfl, by first | rfl | trivial⟩
set_option maxRecDepth 100000 in
theorem word_no (s : ByteArray) (h0 : (s.toList == [119, 105, 116, 104, 105, 110]) = false) (h1 : (s.toList == [104, 97, 118, 105, 110, 103]) = false) (h2 : (s.toList == [97, 110, 100]) = false) (h3 : (s.toList == [101, 109, 105, 116]) = false) (h4 : (s.toList == [110, 111, 116]) = false) (h5 : (s.toList == [99, 111, 117, 110, 116]) = false) (h6 : (s.toList == [115, 117, 109]) = false) (h7 : (s.toList == [109, 105, 110]) = false) (h8 : (s.toList == [109, 97, 120]) = false) (h9 : (s.toList == [102, 105, 114, 115, 116]) = false) (h10 : (s.toList == [108, 97, 115, 116]) = false) (w : World) : Calls Tryd.prog 16 #[.string s] w fun e w' => e = .returned (.bool false) ∧ w = w' := by
  go_enter Tryd.func16, Tryd.ntmps16
  go_wp2
  go_ret
  exact ⟨rfl, by first | rfl | trivial⟩
theorem word_any (s : ByteArray) (w : World) : Calls Tryd.prog 16 #[.string s] w fun e w' => e = .returned (.bool (wordB s)) ∧ w = w' := by
  by_cases n0 : s = ⟨#[119, 105, 116, 104, 105, 110]⟩
  · subst n0
    rw [show wordB ⟨#[119, 105, 116, 104, 105, 110]⟩ = true from word_is (c := [119, 105, 116, 104, 105, 110]) (by decide) rfl]
    exact word_0 w
  by_cases n1 : s = ⟨#[104, 97, 118, 105, 110, 103]⟩
  · subst n1
    rw [show wordB ⟨#[104, 97, 118, 105, 110, 103]⟩ = true from word_is (c := [104, 97, 118, 105, 110, 103]) (by decide) rfl]
    exact word_1 w
  by_cases n2 : s = ⟨#[97, 110, 100]⟩
  · subst n2
    rw [show wordB ⟨#[97, 110, 100]⟩ = true from word_is (c := [97, 110, 100]) (by decide) rfl]
    exact word_2 w
  by_cases n3 : s = ⟨#[101, 109, 105, 116]⟩
  · subst n3
    rw [show wordB ⟨#[101, 109, 105, 116]⟩ = true from word_is (c := [101, 109, 105, 116]) (by decide) rfl]
    exact word_3 w
  by_cases n4 : s = ⟨#[110, 111, 116]⟩
  · subst n4
    rw [show wordB ⟨#[110, 111, 116]⟩ = true from word_is (c := [110, 111, 116]) (by decide) rfl]
    exact word_4 w
  by_cases n5 : s = ⟨#[99, 111, 117, 110, 116]⟩
  · subst n5
    rw [show wordB ⟨#[99, 111, 117, 110, 116]⟩ = true from word_is (c := [99, 111, 117, 110, 116]) (by decide) rfl]
    exact word_5 w
  by_cases n6 : s = ⟨#[115, 117, 109]⟩
  · subst n6
    rw [show wordB ⟨#[115, 117, 109]⟩ = true from word_is (c := [115, 117, 109]) (by decide) rfl]
    exact word_6 w
  by_cases n7 : s = ⟨#[109, 105, 110]⟩
  · subst n7
    rw [show wordB ⟨#[109, 105, 110]⟩ = true from word_is (c := [109, 105, 110]) (by decide) rfl]
    exact word_7 w
  by_cases n8 : s = ⟨#[109, 97, 120]⟩
  · subst n8
    rw [show wordB ⟨#[109, 97, 120]⟩ = true from word_is (c := [109, 97, 120]) (by decide) rfl]
    exact word_8 w
  by_cases n9 : s = ⟨#[102, 105, 114, 115, 116]⟩
  · subst n9
    rw [show wordB ⟨#[102, 105, 114, 115, 116]⟩ = true from word_is (c := [102, 105, 114, 115, 116]) (by decide) rfl]
    exact word_9 w
  by_cases n10 : s = ⟨#[108, 97, 115, 116]⟩
  · subst n10
    rw [show wordB ⟨#[108, 97, 115, 116]⟩ = true from word_is (c := [108, 97, 115, 116]) (by decide) rfl]
    exact word_10 w
  rw [show wordB s = false from word_not (fun c hc h => by
    subst h
    simp only [wordsL, List.mem_cons, List.not_mem_nil, or_false] at hc
    rcases hc with rfl | rfl | rfl | rfl | rfl | rfl | rfl | rfl | rfl | rfl | rfl
    · exact n0 rfl
    · exact n1 rfl
    · exact n2 rfl
    · exact n3 rfl
    · exact n4 rfl
    · exact n5 rfl
    · exact n6 rfl
    · exact n7 rfl
    · exact n8 rfl
    · exact n9 rfl
    · exact n10 rfl
    )]
  exact word_no s (str_nel n0) (str_nel n1) (str_nel n2) (str_nel n3) (str_nel n4) (str_nel n5) (str_nel n6) (str_nel n7) (str_nel n8) (str_nel n9) (str_nel n10) w
set_option maxRecDepth 100000 in
set_option maxHeartbeats 4000000 in
theorem rword_any (s : ByteArray) (w : World) : Calls Tryd.prog 20 #[.string s] w fun e w' => e = .returned (.bool (wordB s)) ∧ Below w.heap.size w w' := by
  obtain ⟨r, hr⟩ : ∃ r, r = wordB s := ⟨_, rfl⟩
  have HI := Lib.hid (fun (c : List UInt8) (hc : c ∈ wordsL) (h : s = strOf c) => hr.trans (word_is hc h))
  have HN := Lib.hid (fun (h : ∀ c ∈ wordsL, ¬ s = strOf c) => hr.trans (word_not h))
  rw [← hr]
  clear hr
  go_enter Tryd.func20, Tryd.ntmps20
  go_wp2_with (go_at_call 39; refine (rwords_any _).mono ?_; rintro e W1 ⟨a, rfl, hb1, ha, hc⟩)
  have HC := Lib.hid hc
  clear hc
  go_loopg [4] 11 (fun g iv wr => ∃ i : Nat, i ≤ 11 ∧ g = 11 - i ∧ iv = .int .i64 (i : Int) ∧ W1 = wr ∧ Hid (∀ c ∈ wordsL.take i, ¬ s = strOf c))
  case atStart => exact ⟨0, by omega, rfl, rfl, by first | rfl | trivial, Lib.hid (fun c hc => by cases hc)⟩
  case round =>
    obtain ⟨i, hi, hg, rfl, rfl, hF⟩ := hrel
    by_cases hz : i = 11
    · subst hz
      have e1 := Lib.hid (HN.out hF.out)
      go_wp2
      go_ret
      exact ⟨by rw [e1.out]; rfl, hb1⟩
    · have hi11 : i < 11 := by omega
      have h1 : (i : Int) < 11 := by omega
      have h1b : (0 : Int) ≤ (i : Int) := by omega
      obtain ⟨c, hc⟩ : ∃ c, wordsL[i]? = some c := ⟨_, List.getElem?_eq_getElem hi11⟩
      have hci := HC.out i c hc
      have hwi : IntKind.i64.wrap ((i : Int) + 1) = (i : Int) + 1 := IntWalk.i64_in _ ⟨by omega, by omega⟩
      by_cases he : s = strOf c
      · have e1 := Lib.hid (HI.out c (List.mem_of_getElem? hc) he)
        subst he
        clear hc hz
        go_wp2
        go_ret
        exact ⟨by rw [e1.out]; rfl, hb1⟩
      · have hne : ((strOf c).toList == s.toList) = false := str_ne (fun e => he e.symm)
        have hF2 := Lib.hid (show ∀ c' ∈ wordsL.take (i + 1), ¬ s = strOf c' from fun c' hc' => by
          have h3 : wordsL.take (i + 1) = wordsL.take i ++ [c] := by
            rw [take_snoc _ _ (show i < wordsL.length from hi11)]
            have := (List.getElem?_eq_some_iff.1 hc).2
            rw [this]
          rw [h3, List.mem_append] at hc'
          rcases hc' with h4 | h4
          · exact hF.out c' h4
          · rw [List.mem_singleton] at h4; subst h4; exact he)
        clear hc hz he
        go_wp2
        go_roundg (11 - (i + 1))
        case rel => exact ⟨i + 1, by omega, rfl, by go_num, by first | rfl | trivial, hF2⟩
        case measure => omega
end Go.Proofs.YtmdlndmibodimaaDoor
