/- Walk: which event the document's own Parse makes of bytes. -/
import Derived.Test.YtcmdndgaggbhoaaDoorEventP
import Derived.Test.YtcmdndgaggbhoaaDoorEventJ
namespace Go.Proofs.YtcmdndgaggbhoaaDoor.Ev
open Go.RowKit
open Wr

theorem extract_len2 (s : ByteArray) (a b : Nat) (h : b ≤ s.size) : (s.extract a b).data.toList.length = b - a := by
  rw [bytes_size, ByteArray.size_extract]
  omega
theorem by8_is (s : ByteArray) (h : 8 < s.size) : by8 s = (s[8]'h).toNat := by
  have e : (s.extract 8 9).data.toList = [s[8]'h] := by
    apply List.ext_getElem
    · rw [extract_len2 s 8 9 (by omega)]; rfl
    · intro i h1 h2
      obtain rfl : i = 0 := by simpa using h2
      simp [ByteArray.getElem_eq_getElem_data]
  unfold by8
  rw [e]
  show numOf ([] ++ [s[8]]) = _
  rw [numOf_snoc]
  simp [numOf]
set_option maxRecDepth 100000 in
set_option maxHeartbeats 2000000 in
theorem refParseC_any (s : ByteArray) (w : World) (hs : s.size ≤ 9223372036854775807) :
    Calls Tryd.prog 11 #[.string s] w fun e w' => e = .returned (parseC s) ∧ Below w.heap.size w w' := by
  unfold parseC pv ev
  by_cases h8 : s.size < 8
  · rw [if_pos h8]
    have c1 : (s.size : Int) < 8 := by omega
    clear h8 hs
    go_enter Tryd.func11, Tryd.ntmps11
    go_wp2
    refine bodyPost_ret (by simp [results, Tryd.results11, go_sem]; try rfl) rfl ?_
    exact ⟨rfl, by go_grown⟩
  · rw [if_neg h8]
    have c1 : ¬ (s.size : Int) < 8 := by omega
    by_cases h9 : s.size < 9
    · rw [if_pos h9]
      have c2 : (s.size : Int) < 9 := by omega
      clear h8 hs h9
      go_enter Tryd.func11, Tryd.ntmps11
      go_wp2
      refine bodyPost_ret (by simp [results, Tryd.results11, go_sem]; try rfl) rfl ?_
      exact ⟨rfl, by go_grown⟩
    · rw [if_neg h9]
      have c2 : ¬ (s.size : Int) < 9 := by omega
      have hb := by8_is s (by omega)
      rw [hb]
      have c0 : (8 : Int) < (s.size : Int) := by omega
      have c00 : 8 < s.size := by omega
      by_cases hK : 26 ≤ (s[8]'c00).toNat
      · rw [if_pos hK]
        have c3 : (26 : Int) ≤ ((s[8]'c00).toNat : Int) := by omega
        have c3w : wrap64 ((s[8]'c00).toNat : Int) = ((s[8]'c00).toNat : Int) := IntWalk.wrap64_in _ (by have := (s[8]'c00).toNat_lt; omega)
        clear hb hs
        go_enter Tryd.func11, Tryd.ntmps11
        go_wp2
        refine bodyPost_ret (by simp [results, Tryd.results11, go_sem]; try rfl) rfl ?_
        exact ⟨rfl, by go_grown⟩
      · rw [if_neg hK]
        have c3 : ¬ (26 : Int) ≤ ((s[8]'c00).toNat : Int) := by omega
        have c3w : wrap64 ((s[8]'c00).toNat : Int) = ((s[8]'c00).toNat : Int) := IntWalk.wrap64_in _ (by have := (s[8]'c00).toNat_lt; omega)
        by_cases h17 : s.size < 17
        · rw [if_pos h17]
          have c4 : (s.size : Int) < 17 := by omega
          clear hb hs
          go_enter Tryd.func11, Tryd.ntmps11
          go_wp2
          refine bodyPost_ret (by simp [results, Tryd.results11, go_sem]; try rfl) rfl ?_
          exact ⟨rfl, by go_grown⟩
        · rw [if_neg h17]
          have c4 : ¬ (s.size : Int) < 17 := by omega
          by_cases hL : 17 < s.size
          · rw [if_pos hL]
            have c5 : (17 : Int) < (s.size : Int) := by omega
            clear hb hs
            go_enter Tryd.func11, Tryd.ntmps11
            go_wp2
            refine bodyPost_ret (by simp [results, Tryd.results11, go_sem]; try rfl) rfl ?_
            exact ⟨rfl, by go_grown⟩
          · rw [if_neg hL]
            have c5 : ¬ (17 : Int) < (s.size : Int) := by omega
            have hsz : s.size = 17 := by omega
            have hN1 := fun w => refNumber_any (s.extract 0 8) w (by rw [ByteArray.size_extract]; omega)
            have hN2 := fun w => refNumber_any (s.extract 9 s.size) w (by rw [ByteArray.size_extract]; omega)
            rw [show s.extract 9 17 = s.extract 9 s.size by rw [hsz]]
            have c3v : IntKind.i64.wrap ((s[8]'c00).toNat : Int) = ((s[8]'c00).toNat : Int) := IntWalk.i64_in _ (by have := (s[8]'c00).toNat_lt; omega)
            obtain ⟨n1, hn1⟩ : ∃ n, n = numOf (s.extract 0 8).data.toList := ⟨_, rfl⟩
            obtain ⟨n2, hn2⟩ : ∃ n, n = numOf (s.extract 9 s.size).data.toList := ⟨_, rfl⟩
            rw [← hn1] at hN1
            rw [← hn2] at hN2
            rw [← hn1, ← hn2]
            clear hn1 hn2
            have c6 : (8 : Int) ≤ (s.size : Int) := by omega
            have c7 : (9 : Int) ≤ (s.size : Int) := by omega
            clear hb hsz
            go_enter Tryd.func11, Tryd.ntmps11
            go_wp2_with fail
            go_region_with (first | (go_at_call 37; with_reducible refine (hN1 _).mono ?_; rintro e w' ⟨rfl, rfl⟩) | (go_at_call 37; with_reducible refine (hN2 _).mono ?_; rintro e w' ⟨rfl, rfl⟩))
            all_goals go_wp2
            all_goals refine bodyPost_ret (by simp [results, Tryd.results11, go_sem]; try rfl) rfl ?_
            all_goals exact ⟨by first | rfl | rw [c3v], by go_grown⟩
end Go.Proofs.YtcmdndgaggbhoaaDoor.Ev
