/- Walk: what every statement of the events' package asks beside: awake. -/
import Derived.Test.YtcmdndgaggbhoaaGreatDoorEventK
import Derived.Test.YtcmdndgaggbhoaaGreatDoorEventF
namespace Go.Proofs.YtcmdndgaggbhoaaGreatDoor.Ev
open Go.RowKit Go.Shelf
open Lb

def someB : ByteArray := ⟨#[0, 0, 0, 0, 0, 0, 1, 1, 2, 255, 255, 255, 255, 255, 255, 255, 254]⟩
def someT : ByteArray := ⟨#[67, 32, 123, 48, 44, 56, 125, 32, 45, 50]⟩
theorem bytesE_some : bytesE 257 2 18446744073709551614 = (someB, 0) := by decide +kernel
theorem textE_some : textE 257 2 (-2) = (someT, 0) := by
  unfold textE
  rw [if_pos (by decide)]
  have e : evT 257 2 (-2) = [67, 32, 123, 48, 44, 56, 125, 32, 45, 50] := by
    unfold evT
    rw [show cats 257 = [0, 8] by decide, show Lib.itoa (-2) = 45 :: Lib.decDigits 2 from rfl]
    simp only [textOf, List.map_cons, List.map_nil, Lib.decDigits_one (show 0 < 10 by decide), Lib.decDigits_one (show 8 < 10 by decide), Lib.decDigits_one (show 2 < 10 by decide)]
    decide
  rw [e]
  rfl
theorem bytes_some (w : World) : Calls Tryz.prog 25 #[ev 257 2 (-2)] w fun e w' => e = .returned (.tuple #[.string someB, .int .i64 0]) ∧ Below w.heap.size w w' := by
  have h := bytes_any 257 2 (-2) 18446744073709551614 (by decide) (by decide) (by decide) (by decide) (by decide) w
  rw [bytesE_some] at h
  exact h
theorem text_some (w : World) (ht : Tab2 w) : Calls Tryz.prog 17 #[ev 257 2 (-2)] w fun e w' => e = .returned (.tuple #[.string someT, .int .i64 0]) ∧ Below w.heap.size w w' := by
  have h := evText_any 257 2 (-2) (by decide) (by decide) (by decide) w ht
  rw [textE_some] at h
  exact h
theorem awake_any (w : World) (ht : Tab2 w) : Calls Tryz.prog 16 #[] w fun e w' => e = .returned (.bool true) ∧ Below w.heap.size w w' := by
  have hbB : someB.toList = [0, 0, 0, 0, 0, 0, 1, 1, 2, 255, 255, 255, 255, 255, 255, 255, 254] := by rw [ByteArray.toList_eq]; rfl
  have hbT : someT.toList = [67, 32, 123, 48, 44, 56, 125, 32, 45, 50] := by rw [ByteArray.toList_eq]; rfl
  go_enter Tryz.func16, Tryz.ntmps16
  go_wp2_with fail
  refine (some_any _).mono ?_
  rintro e w1 ⟨rfl, hb1⟩
  have ht1 := ht.below hb1
  go_wp2_with fail
  refine (bytes_some _).mono ?_
  rintro e w2 ⟨rfl, hb2⟩
  have ht2 := ht1.below hb2
  have hB2 := bstep hb1 hb2
  clear ht1 hb1 hb2 ht
  go_wp2_with fail
  refine (some_any _).mono ?_
  rintro e w3 ⟨rfl, hb3⟩
  have ht3 := ht2.below hb3
  have hB3 := bstep hB2 hb3
  clear ht2 hb3 hB2
  go_wp2_with fail
  refine (text_some _ ht3).mono ?_
  rintro e w4 ⟨rfl, hb4⟩
  have hB4 := bstep hB3 hb4
  clear ht3 hb4 hB3
  go_wp2
  go_ret
  exact ⟨rfl, hB4⟩
end Go.Proofs.YtcmdndgaggbhoaaGreatDoor.Ev
