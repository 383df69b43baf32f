/- What Parse answers, in closed form. Nothing here speaks of the program. -/
import Derived.Test.YtcmdndgaggbhoaaGreatDoorEventI
import Derived.Test.YtcmdndgaggbhoaaGreatDoorEventH
namespace Go.Proofs.YtcmdndgaggbhoaaGreatDoor.Ev
open Go.RowKit
open Wr

def pv (l k v e a : Int) : Value := .tuple #[ev l k v, .agg #[.int .i64 e, .int .i64 a]]
def by8 (s : ByteArray) : Nat := numOf (s.extract 8 9).data.toList
/-- What Parse answers. -/
def parseC (s : ByteArray) : Value :=
  if s.size < 8 then pv 0 0 0 5 0
  else if s.size < 9 then pv 0 0 0 5 8
  else if 26 ≤ by8 s then pv 0 0 0 11 8
  else if s.size < 17 then pv 0 0 0 5 9
  else if 17 < s.size then pv 0 0 0 4 17
  else pv (numOf (s.extract 0 8).data.toList) (by8 s) (IntKind.i64.wrap (numOf (s.extract 9 17).data.toList)) 0 0
theorem endPair {r : Rd} {e a : Int} (h : ((endR r).e, (endR r).a) = (e, a)) (x : Int × Int × Int) :
    parseV x (endR r) = if e = 0 then pv x.1 x.2.1 x.2.2 0 0 else pv 0 0 0 e a := by
  obtain ⟨h1, h2⟩ := Prod.mk.inj h
  unfold parseV pv
  rw [h1, h2]
theorem parse_is (s : ByteArray) : parseV (evV (readR s)) (endR (evR (readR s))) = parseC s := by
  have e0 : readR s = ⟨s, 0, 0, 0⟩ := rfl
  unfold parseC
  by_cases h8 : s.size < 8
  · rw [if_pos h8]
    have a1 : uintR ⟨s, 0, 0, 0⟩ 8 = (⟨s, 0, 5, 0⟩, 0) := uintShort s 0 8 (by decide) (by omega) (by omega)
    have a2 : uintR ⟨s, 0, 5, 0⟩ 1 = (⟨s, 0, 5, 0⟩, 0) := uintBad s 0 1 5 0 (by decide) (by omega) (by decide) (by decide) (by omega)
    have a3 : uintR ⟨s, 0, 5, 0⟩ 8 = (⟨s, 0, 5, 0⟩, 0) := uintBad s 0 8 5 0 (by decide) (by omega) (by decide) (by decide) (by omega)
    have a4 : ((endR ⟨s, 0, 5, 0⟩).e, (endR ⟨s, 0, 5, 0⟩).a) = ((5 : Int), (0 : Int)) := endBad s 0 5 0 (by omega) (by decide) (by decide) (by omega)
    have hk : kindR ⟨s, 0, 5, 0⟩ = (⟨s, 0, 5, 0⟩, 0) := by
      unfold kindR
      rw [a2]
      rfl
    have he : evR (readR s) = ⟨s, 0, 5, 0⟩ := by
      unfold evR
      rw [e0, a1, hk, a3]
    rw [he, endPair a4]
    rfl
  · rw [if_neg h8]
    have a1 : uintR ⟨s, 0, 0, 0⟩ 8 = (⟨s, 8, 0, 0⟩, numOf (s.extract 0 8).data.toList) := uintOk s 0 8 (by decide) (by omega)
    by_cases h9 : s.size < 9
    · rw [if_pos h9]
      have a2 : uintR ⟨s, 8, 0, 0⟩ 1 = (⟨s, 8, 5, 8⟩, 0) := uintShort s 8 1 (by decide) (by omega) (by omega)
      have a3 : uintR ⟨s, 8, 5, 8⟩ 8 = (⟨s, 8, 5, 8⟩, 0) := uintBad s 8 8 5 8 (by decide) (by omega) (by decide) (by decide) (by omega)
      have a4 : ((endR ⟨s, 8, 5, 8⟩).e, (endR ⟨s, 8, 5, 8⟩).a) = ((5 : Int), (8 : Int)) := endBad s 8 5 8 (by omega) (by decide) (by decide) (by omega)
      have hk : kindR ⟨s, 8, 0, 0⟩ = (⟨s, 8, 5, 8⟩, 0) := by
        unfold kindR
        rw [a2]
        rfl
      have he : evR (readR s) = ⟨s, 8, 5, 8⟩ := by
        unfold evR
        rw [e0, a1, hk, a3]
      rw [he, endPair a4]
      rfl
    · rw [if_neg h9]
      have a2 : uintR ⟨s, 8, 0, 0⟩ 1 = (⟨s, 9, 0, 0⟩, by8 s) := uintOk s 8 1 (by decide) (by omega)
      by_cases hK : 26 ≤ by8 s
      · rw [if_pos hK]
        have a5 : failR ⟨s, 9, 0, 0⟩ 11 8 = ⟨s, 9, 11, 8⟩ := failOk s 9 8 (by omega) (by omega)
        have a3 : uintR ⟨s, 9, 11, 8⟩ 8 = (⟨s, 9, 11, 8⟩, 0) := uintBad s 9 8 11 8 (by decide) (by omega) (by decide) (by decide) (by omega)
        have a4 : ((endR ⟨s, 9, 11, 8⟩).e, (endR ⟨s, 9, 11, 8⟩).a) = ((11 : Int), (8 : Int)) := endBad s 9 11 8 (by omega) (by decide) (by decide) (by omega)
        have hk : (kindR ⟨s, 8, 0, 0⟩).1 = ⟨s, 9, 11, 8⟩ := by
          unfold kindR
          rw [a2]
          dsimp only
          rw [if_neg (fun h => by have := isKindB_iff.1 h; omega), a5]
        have he : evR (readR s) = ⟨s, 9, 11, 8⟩ := by
          unfold evR
          rw [e0, a1]
          dsimp only
          rw [hk, a3]
        rw [he, endPair a4]
        rfl
      · rw [if_neg hK]
        have hk : kindR ⟨s, 8, 0, 0⟩ = (⟨s, 9, 0, 0⟩, by8 s) := by
          unfold kindR
          rw [a2]
          dsimp only
          rw [if_pos (isKindB_iff.2 (by omega))]
        by_cases h17 : s.size < 17
        · rw [if_pos h17]
          have a3 : uintR ⟨s, 9, 0, 0⟩ 8 = (⟨s, 9, 5, 9⟩, 0) := uintShort s 9 8 (by decide) (by omega) (by omega)
          have a4 : ((endR ⟨s, 9, 5, 9⟩).e, (endR ⟨s, 9, 5, 9⟩).a) = ((5 : Int), (9 : Int)) := endBad s 9 5 9 (by omega) (by decide) (by decide) (by omega)
          have he : evR (readR s) = ⟨s, 9, 5, 9⟩ := by
            unfold evR
            rw [e0, a1, hk, a3]
          rw [he, endPair a4]
          rfl
        · rw [if_neg h17]
          have a3 : uintR ⟨s, 9, 0, 0⟩ 8 = (⟨s, 17, 0, 0⟩, numOf (s.extract 9 17).data.toList) := uintOk s 9 8 (by decide) (by omega)
          have a4 : ((endR ⟨s, 17, 0, 0⟩).e, (endR ⟨s, 17, 0, 0⟩).a) = if 17 < s.size then ((4 : Int), (17 : Int)) else (0, 0) := endOk s 17 (by omega)
          have he : evR (readR s) = ⟨s, 17, 0, 0⟩ := by
            unfold evR
            rw [e0, a1, hk, a3]
          by_cases hL : 17 < s.size
          · rw [if_pos hL] at a4
            rw [if_pos hL, he, endPair a4]
            rfl
          · rw [if_neg hL] at a4
            rw [if_neg hL, he, endPair a4, if_pos rfl]
            have hv : evV (readR s) = ((numOf (s.extract 0 8).data.toList : Int), (by8 s : Int), IntKind.i64.wrap (numOf (s.extract 9 17).data.toList)) := by
              unfold evV
              rw [e0, a1, hk, a3]
            rw [hv]
theorem parseC_any (s : ByteArray) (w : World) (hs : s.size ≤ 9223372036854775807) :
    Calls Tryz.prog 6 #[.string s] w fun e w' => e = .returned (parseC s) ∧ Below w.heap.size w w' :=
  (parse_any s w hs).mono fun _ _ ⟨h1, h2⟩ => ⟨by rw [h1, parse_is], h2⟩
end Go.Proofs.YtcmdndgaggbhoaaGreatDoor.Ev
