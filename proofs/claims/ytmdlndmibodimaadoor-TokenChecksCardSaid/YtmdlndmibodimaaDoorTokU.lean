/- Walks: the document's own numbers. -/
import Derived.Test.YtmdlndmibodimaaDoorTokK
namespace Go.Proofs.YtmdlndmibodimaaDoor
open Go.RowKit
open Tk7

/-- How many bytes the number has that begins at the offset F; 0 if there is none, -1 if it is not written as said. -/
def numF (l : List UInt8) (F : Nat) : Int :=
  if ((l.drop F).takeWhile digB).length = 0 then 0 else if (l.drop F).head? = some 48 ∧ (1 < ((l.drop F).takeWhile digB).length ∨ F = 1) then -1 else ((F + ((l.drop F).takeWhile digB).length : Nat) : Int)
theorem numF_none {l : List UInt8} {F : Nat} (h : ((l.drop F).takeWhile digB).length = 0) : numF l F = 0 := if_pos h
theorem numF_bad {l : List UInt8} {F : Nat} (h : ((l.drop F).takeWhile digB).length ≠ 0) (h1 : (l.drop F).head? = some 48) (h2 : 1 < ((l.drop F).takeWhile digB).length ∨ F = 1) : numF l F = -1 := by
  unfold numF; rw [if_neg h, if_pos ⟨h1, h2⟩]
theorem numF_good {l : List UInt8} {F : Nat} (h : ((l.drop F).takeWhile digB).length ≠ 0) (h1 : ¬ ((l.drop F).head? = some 48 ∧ (1 < ((l.drop F).takeWhile digB).length ∨ F = 1))) : numF l F = ((F + ((l.drop F).takeWhile digB).length : Nat) : Int) := by
  unfold numF; rw [if_neg h, if_neg h1]
theorem head_drop {l : List UInt8} {F : Nat} (h : F < l.length) : (l.drop F).head? = some l[F] := by rw [List.drop_eq_getElem_cons h]; rfl
theorem while_pos {l : List UInt8} {F : Nat} (h : ((l.drop F).takeWhile digB).length ≠ 0) : F < l.length := by
  have h1 := (List.takeWhile_sublist digB (l := l.drop F)).length_le
  rw [List.length_drop] at h1
  omega
set_option maxRecDepth 100000 in
set_option maxHeartbeats 4000000 in
theorem rnumber_dig (l : List UInt8) (h0 : 0 < l.length) (hl : l.length ≤ 1000000) (hF : ¬ l[0]'h0 = 45) (w : World) :
    Calls Tryd.prog 58 #[.string (strOf l)] w fun e w' => e = .returned (.int .i64 (numF l 0)) ∧ w = w' := by
  have hsz : (strOf l).size = l.length := strOf_size l
  have q0 : 0 < (strOf l).size := by omega
  have hx0 : ((strOf l)[0]'q0) = l[0]'h0 := rfl
  obtain ⟨c, hc⟩ : ∃ c : Int, ((((strOf l)[0]'q0).toNat : Nat) : Int) = c := ⟨_, rfl⟩
  have hc45 : ¬ c = 45 := by
    rw [← hc, hx0]
    exact fun e => hF ((u8_is (b := l[0]'h0) (n := 45) (by decide)).2 e)
  have g1 : (0 : Int) < (l.length : Int) := by omega
  have hcb : (c == 45) = false := by rw [beq_eq_false_iff_ne]; exact hc45
  obtain ⟨D, hD⟩ : ∃ D, D = ((l.drop 0).takeWhile digB).length := ⟨_, rfl⟩
  have HD := Lib.hid hD
  have H0 := Lib.hid (show 0 + D = 0 + ((l.drop 0).takeWhile digB).length by rw [hD])
  clear hx0 hF hD
  go_enter Tryd.func58, Tryd.ntmps58
  go_wp2
  go_loopg [3] (l.length - 0) (fun g nv wr => ∃ j : Nat, 0 ≤ j ∧ j ≤ l.length ∧ g = l.length - j ∧ nv = .int .i64 (j : Int) ∧ w = wr ∧ Hid (0 + D = j + ((l.drop j).takeWhile digB).length))
  case atStart => exact ⟨0, by omega, by omega, rfl, rfl, by first | rfl | trivial, H0⟩
  case round =>
    obtain ⟨j, hj1, hj2, hg, rfl, rfl, hR⟩ := hrel
    by_cases hz : j < l.length
    · have hdr : l.drop j = (l[j]'hz) :: l.drop (j + 1) := List.drop_eq_getElem_cons hz
      have hRd := fun w => rdigit_any (l[j]'hz) w
      obtain ⟨p, hp⟩ : ∃ p, p = digB (l[j]'hz) := ⟨_, rfl⟩
      rw [← hp] at hRd
      have qj : j < (strOf l).size := by rw [hsz]; exact hz
      have hxj : ((strOf l)[j]'qj) = l[j]'hz := rfl
      rw [← hxj] at hRd
      have k1 : (0 : Int) ≤ (j : Int) := by omega
      have k2 : (j : Int) < (l.length : Int) := by omega
      cases p with
      | true =>
        have hR2 := Lib.hid (show 0 + D = (j + 1) + ((l.drop (j + 1)).takeWhile digB).length by rw [hR.out, hdr, while_true hp.symm]; omega)
        have hw : IntKind.i64.wrap ((j : Int) + 1) = (j : Int) + 1 := IntWalk.i64_in _ ⟨by omega, by omega⟩
        clear hR hdr hp hxj
        go_wp2_with (go_at_call 68; refine (hRd _).mono ?_; rintro e w' ⟨rfl, rfl⟩)
        go_roundg (l.length - (j + 1))
        case rel => exact ⟨j + 1, by omega, by omega, rfl, by go_num, by first | rfl | trivial, hR2⟩
        case measure => omega
      | false =>
        have hJ : 0 + D = j := by rw [hR.out, hdr, while_false hp.symm]; rfl
        clear hR hdr hp hxj
        by_cases hD0 : D = 0
        · have e1 := Lib.hid (numF_none (F := 0) (l := l) (by rw [← HD.out]; exact hD0))
          have hj : j = 0 := by omega
          have n2 : ((j : Int) == 0) = true := by rw [beq_iff_eq]; omega
          clear hj hc
          go_wp2_with (go_at_call 68; refine (hRd _).mono ?_; rintro e w' ⟨rfl, rfl⟩)
          go_ret
          exact ⟨by rw [e1.out]; rfl, by first | rfl | trivial⟩
        · have hlt := while_pos (l := l) (F := 0) (by rw [← HD.out]; exact hD0)
          have q1 : 0 < (strOf l).size := by rw [hsz]; exact hlt
          have hx : ((strOf l)[0]'q1) = l[0]'hlt := rfl
          obtain ⟨x, hxx⟩ : ∃ x : Int, ((((strOf l)[0]'q1).toNat : Nat) : Int) = x := ⟨_, rfl⟩
          have h48 : (l[0]'hlt) = 48 ↔ x = 48 := by
            rw [← hxx, hx]
            exact u8_is (b := l[0]'hlt) (n := 48) (by decide)
          have n1 : ¬ j = 0 := by omega
          have n2 : ((j : Int) == 0) = false := by rw [beq_eq_false_iff_ne]; omega
          have n3 : (0 : Int) < (l.length : Int) := by omega
          by_cases hz : x = 48
          · have hzb : (x == 48) = true := by rw [beq_iff_eq]; exact hz
            by_cases hj2 : 1 < j
            · have e1 := Lib.hid (numF_bad (F := 0) (l := l) (by rw [← HD.out]; exact hD0) ((head_drop hlt).trans (congrArg some (h48.2 hz))) (.inl (by rw [← HD.out]; omega)))
              have m1 : (1 : Int) < (j : Int) := by omega
              subst hz
              clear h48 hx
              go_wp2_with (go_at_call 68; refine (hRd _).mono ?_; rintro e w' ⟨rfl, rfl⟩)
              go_ret
              exact ⟨by rw [e1.out]; rfl, by first | rfl | trivial⟩
            · have e1 := Lib.hid (numF_good (F := 0) (l := l) (by rw [← HD.out]; exact hD0) (fun h => h.2.elim (fun h => by rw [← HD.out] at h; omega) (fun h => by cases h)))
              have m1 : ¬ (1 : Int) < (j : Int) := by omega
              have hjj := Lib.hid (show ((0 + ((l.drop 0).takeWhile digB).length : Nat) : Int) = (j : Int) by rw [← HD.out, hJ])
              subst hz
              clear h48 hx
              go_wp2_with (go_at_call 68; refine (hRd _).mono ?_; rintro e w' ⟨rfl, rfl⟩)
              go_ret
              exact ⟨by rw [e1.out, hjj.out]; rfl, by first | rfl | trivial⟩
          · have e1 := Lib.hid (numF_good (F := 0) (l := l) (by rw [← HD.out]; exact hD0) (fun h => hz (h48.1 (Option.some.inj ((head_drop hlt).symm.trans h.1)))))
            have hzb : (x == 48) = false := by rw [beq_eq_false_iff_ne]; exact hz
            have hjj := Lib.hid (show ((0 + ((l.drop 0).takeWhile digB).length : Nat) : Int) = (j : Int) by rw [← HD.out, hJ])
            clear h48 hx
            go_wp2_with (go_at_call 68; refine (hRd _).mono ?_; rintro e w' ⟨rfl, rfl⟩)
            go_ret
            exact ⟨by rw [e1.out, hjj.out]; rfl, by first | rfl | trivial⟩
    · have hJ : 0 + D = j := by rw [hR.out, List.drop_eq_nil_of_le (by omega)]; rfl
      have k2 : ¬ (j : Int) < (l.length : Int) := by omega
      clear hR
      by_cases hD0 : D = 0
      · have e1 := Lib.hid (numF_none (F := 0) (l := l) (by rw [← HD.out]; exact hD0))
        have hj : j = 0 := by omega
        exact absurd h0 (by omega)
      · have hlt := while_pos (l := l) (F := 0) (by rw [← HD.out]; exact hD0)
        have q1 : 0 < (strOf l).size := by rw [hsz]; exact hlt
        have hx : ((strOf l)[0]'q1) = l[0]'hlt := rfl
        obtain ⟨x, hxx⟩ : ∃ x : Int, ((((strOf l)[0]'q1).toNat : Nat) : Int) = x := ⟨_, rfl⟩
        have h48 : (l[0]'hlt) = 48 ↔ x = 48 := by
          rw [← hxx, hx]
          exact u8_is (b := l[0]'hlt) (n := 48) (by decide)
        have n1 : ¬ j = 0 := by omega
        have n2 : ((j : Int) == 0) = false := by rw [beq_eq_false_iff_ne]; omega
        have n3 : (0 : Int) < (l.length : Int) := by omega
        by_cases hz : x = 48
        · have hzb : (x == 48) = true := by rw [beq_iff_eq]; exact hz
          by_cases hj2 : 1 < j
          · have e1 := Lib.hid (numF_bad (F := 0) (l := l) (by rw [← HD.out]; exact hD0) ((head_drop hlt).trans (congrArg some (h48.2 hz))) (.inl (by rw [← HD.out]; omega)))
            have m1 : (1 : Int) < (j : Int) := by omega
            subst hz
            clear h48 hx
            go_wp2
            go_ret
            exact ⟨by rw [e1.out]; rfl, by first | rfl | trivial⟩
          · have e1 := Lib.hid (numF_good (F := 0) (l := l) (by rw [← HD.out]; exact hD0) (fun h => h.2.elim (fun h => by rw [← HD.out] at h; omega) (fun h => by cases h)))
            have m1 : ¬ (1 : Int) < (j : Int) := by omega
            have hjj := Lib.hid (show ((0 + ((l.drop 0).takeWhile digB).length : Nat) : Int) = (j : Int) by rw [← HD.out, hJ])
            subst hz
            clear h48 hx
            go_wp2
            go_ret
            exact ⟨by rw [e1.out, hjj.out]; rfl, by first | rfl | trivial⟩
        · have e1 := Lib.hid (numF_good (F := 0) (l := l) (by rw [← HD.out]; exact hD0) (fun h => hz (h48.1 (Option.some.inj ((head_drop hlt).symm.trans h.1)))))
          have hzb : (x == 48) = false := by rw [beq_eq_false_iff_ne]; exact hz
          have hjj := Lib.hid (show ((0 + ((l.drop 0).takeWhile digB).length : Nat) : Int) = (j : Int) by rw [← HD.out, hJ])
          clear h48 hx
          go_wp2
          go_ret
          exact ⟨by rw [e1.out, hjj.out]; rfl, by first | rfl | trivial⟩
set_option maxRecDepth 100000 in
set_option maxHeartbeats 4000000 in
theorem rnumber_min (l : List UInt8) (h0 : 0 < l.length) (hl : l.length ≤ 1000000) (hF : l[0]'h0 = 45) (w : World) :
    Calls Tryd.prog 58 #[.string (strOf l)] w fun e w' => e = .returned (.int .i64 (numF l 1)) ∧ w = w' := by
  have hsz : (strOf l).size = l.length := strOf_size l
  have q0 : 0 < (strOf l).size := by omega
  have hx0 : ((strOf l)[0]'q0) = l[0]'h0 := rfl
  obtain ⟨c, hc⟩ : ∃ c : Int, ((((strOf l)[0]'q0).toNat : Nat) : Int) = c := ⟨_, rfl⟩
  have hc45 : c = 45 := by
    rw [← hc, hx0]
    exact (u8_is (b := l[0]'h0) (n := 45) (by decide)).1 hF
  have g1 : (0 : Int) < (l.length : Int) := by omega
  have hcb : (c == 45) = true := by rw [beq_iff_eq]; exact hc45
  obtain ⟨D, hD⟩ : ∃ D, D = ((l.drop 1).takeWhile digB).length := ⟨_, rfl⟩
  have HD := Lib.hid hD
  have H0 := Lib.hid (show 1 + D = 1 + ((l.drop 1).takeWhile digB).length by rw [hD])
  clear hx0 hF hD
  go_enter Tryd.func58, Tryd.ntmps58
  go_wp2
  go_loopg [3] (l.length - 1) (fun g nv wr => ∃ j : Nat, 1 ≤ j ∧ j ≤ l.length ∧ g = l.length - j ∧ nv = .int .i64 (j : Int) ∧ w = wr ∧ Hid (1 + D = j + ((l.drop j).takeWhile digB).length))
  case atStart => exact ⟨1, by omega, by omega, rfl, rfl, by first | rfl | trivial, H0⟩
  case round =>
    obtain ⟨j, hj1, hj2, hg, rfl, rfl, hR⟩ := hrel
    by_cases hz : j < l.length
    · have hdr : l.drop j = (l[j]'hz) :: l.drop (j + 1) := List.drop_eq_getElem_cons hz
      have hRd := fun w => rdigit_any (l[j]'hz) w
      obtain ⟨p, hp⟩ : ∃ p, p = digB (l[j]'hz) := ⟨_, rfl⟩
      rw [← hp] at hRd
      have qj : j < (strOf l).size := by rw [hsz]; exact hz
      have hxj : ((strOf l)[j]'qj) = l[j]'hz := rfl
      rw [← hxj] at hRd
      have k1 : (0 : Int) ≤ (j : Int) := by omega
      have k2 : (j : Int) < (l.length : Int) := by omega
      cases p with
      | true =>
        have hR2 := Lib.hid (show 1 + D = (j + 1) + ((l.drop (j + 1)).takeWhile digB).length by rw [hR.out, hdr, while_true hp.symm]; omega)
        have hw : IntKind.i64.wrap ((j : Int) + 1) = (j : Int) + 1 := IntWalk.i64_in _ ⟨by omega, by omega⟩
        clear hR hdr hp hxj
        go_wp2_with (go_at_call 68; refine (hRd _).mono ?_; rintro e w' ⟨rfl, rfl⟩)
        go_roundg (l.length - (j + 1))
        case rel => exact ⟨j + 1, by omega, by omega, rfl, by go_num, by first | rfl | trivial, hR2⟩
        case measure => omega
      | false =>
        have hJ : 1 + D = j := by rw [hR.out, hdr, while_false hp.symm]; rfl
        clear hR hdr hp hxj
        by_cases hD0 : D = 0
        · have e1 := Lib.hid (numF_none (F := 1) (l := l) (by rw [← HD.out]; exact hD0))
          have hj : j = 1 := by omega
          have n2 : ((j : Int) == 1) = true := by rw [beq_iff_eq]; omega
          clear hj
          go_wp2_with (go_at_call 68; refine (hRd _).mono ?_; rintro e w' ⟨rfl, rfl⟩)
          go_ret
          exact ⟨by rw [e1.out]; rfl, by first | rfl | trivial⟩
        · have hlt := while_pos (l := l) (F := 1) (by rw [← HD.out]; exact hD0)
          have q1 : 1 < (strOf l).size := by rw [hsz]; exact hlt
          have hx : ((strOf l)[1]'q1) = l[1]'hlt := rfl
          obtain ⟨x, hxx⟩ : ∃ x : Int, ((((strOf l)[1]'q1).toNat : Nat) : Int) = x := ⟨_, rfl⟩
          have h48 : (l[1]'hlt) = 48 ↔ x = 48 := by
            rw [← hxx, hx]
            exact u8_is (b := l[1]'hlt) (n := 48) (by decide)
          have n1 : ¬ j = 1 := by omega
          have n2 : ((j : Int) == 1) = false := by rw [beq_eq_false_iff_ne]; omega
          have n3 : (1 : Int) < (l.length : Int) := by omega
          by_cases hz : x = 48
          · have e1 := Lib.hid (numF_bad (F := 1) (l := l) (by rw [← HD.out]; exact hD0) ((head_drop hlt).trans (congrArg some (h48.2 hz))) (.inr rfl))
            have hzb : (x == 48) = true := by rw [beq_iff_eq]; exact hz
            by_cases hj2 : 2 < j
            · have m1 : (2 : Int) < (j : Int) := by omega
              subst hz
              clear h48 hx
              go_wp2_with (go_at_call 68; refine (hRd _).mono ?_; rintro e w' ⟨rfl, rfl⟩)
              go_ret
              exact ⟨by rw [e1.out]; rfl, by first | rfl | trivial⟩
            · have m1 : ¬ (2 : Int) < (j : Int) := by omega
              subst hz
              clear h48 hx
              go_wp2_with (go_at_call 68; refine (hRd _).mono ?_; rintro e w' ⟨rfl, rfl⟩)
              go_ret
              exact ⟨by rw [e1.out]; rfl, by first | rfl | trivial⟩
          · have e1 := Lib.hid (numF_good (F := 1) (l := l) (by rw [← HD.out]; exact hD0) (fun h => hz (h48.1 (Option.some.inj ((head_drop hlt).symm.trans h.1)))))
            have hzb : (x == 48) = false := by rw [beq_eq_false_iff_ne]; exact hz
            have hjj := Lib.hid (show ((1 + ((l.drop 1).takeWhile digB).length : Nat) : Int) = (j : Int) by rw [← HD.out, hJ])
            clear h48 hx
            go_wp2_with (go_at_call 68; refine (hRd _).mono ?_; rintro e w' ⟨rfl, rfl⟩)
            go_ret
            exact ⟨by rw [e1.out, hjj.out]; rfl, by first | rfl | trivial⟩
    · have hJ : 1 + D = j := by rw [hR.out, List.drop_eq_nil_of_le (by omega)]; rfl
      have k2 : ¬ (j : Int) < (l.length : Int) := by omega
      clear hR
      by_cases hD0 : D = 0
      · have e1 := Lib.hid (numF_none (F := 1) (l := l) (by rw [← HD.out]; exact hD0))
        have hj : j = 1 := by omega
        have n2 : ((j : Int) == 1) = true := by rw [beq_iff_eq]; omega
        clear hj
        go_wp2
        go_ret
        exact ⟨by rw [e1.out]; rfl, by first | rfl | trivial⟩
      · have hlt := while_pos (l := l) (F := 1) (by rw [← HD.out]; exact hD0)
        have q1 : 1 < (strOf l).size := by rw [hsz]; exact hlt
        have hx : ((strOf l)[1]'q1) = l[1]'hlt := rfl
        obtain ⟨x, hxx⟩ : ∃ x : Int, ((((strOf l)[1]'q1).toNat : Nat) : Int) = x := ⟨_, rfl⟩
        have h48 : (l[1]'hlt) = 48 ↔ x = 48 := by
          rw [← hxx, hx]
          exact u8_is (b := l[1]'hlt) (n := 48) (by decide)
        have n1 : ¬ j = 1 := by omega
        have n2 : ((j : Int) == 1) = false := by rw [beq_eq_false_iff_ne]; omega
        have n3 : (1 : Int) < (l.length : Int) := by omega
        by_cases hz : x = 48
        · have e1 := Lib.hid (numF_bad (F := 1) (l := l) (by rw [← HD.out]; exact hD0) ((head_drop hlt).trans (congrArg some (h48.2 hz))) (.inr rfl))
          have hzb : (x == 48) = true := by rw [beq_iff_eq]; exact hz
          by_cases hj2 : 2 < j
          · have m1 : (2 : Int) < (j : Int) := by omega
            subst hz
            clear h48 hx
            go_wp2
            go_ret
            exact ⟨by rw [e1.out]; rfl, by first | rfl | trivial⟩
          · have m1 : ¬ (2 : Int) < (j : Int) := by omega
            subst hz
            clear h48 hx
            go_wp2
            go_ret
            exact ⟨by rw [e1.out]; rfl, by first | rfl | trivial⟩
        · have e1 := Lib.hid (numF_good (F := 1) (l := l) (by rw [← HD.out]; exact hD0) (fun h => hz (h48.1 (Option.some.inj ((head_drop hlt).symm.trans h.1)))))
          have hzb : (x == 48) = false := by rw [beq_eq_false_iff_ne]; exact hz
          have hjj := Lib.hid (show ((1 + ((l.drop 1).takeWhile digB).length : Nat) : Int) = (j : Int) by rw [← HD.out, hJ])
          clear h48 hx
          go_wp2
          go_ret
          exact ⟨by rw [e1.out, hjj.out]; rfl, by first | rfl | trivial⟩
end Go.Proofs.YtmdlndmibodimaaDoor
