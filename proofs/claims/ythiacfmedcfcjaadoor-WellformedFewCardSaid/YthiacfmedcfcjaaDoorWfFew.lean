/- WellformedFew, whatever the numbers. -/
import Derived.Test.YthiacfmedcfcjaaDoorWfW
namespace Go.Proofs.YthiacfmedcfcjaaDoor
open Go.RowKit
open A8 W10

theorem few_any (a d : Int) (W : World) (hG : SG W) (_ha : -9223372036854775808 ≤ a) (_ha2 : a ≤ 9223372036854775807) (_hd : -9223372036854775808 ≤ d) (_hd2 : d ≤ 9223372036854775807) :
    Calls Tryd.prog 5 #[.int .i64 a, .int .i64 d] W fun r w' => r = .returned (.bool true) ∧ Below W.heap.size W w' := by
  obtain ⟨n, hn⟩ : ∃ n : Nat, a % 14 = (n : Int) := ⟨(a % 14).toNat, by omega⟩
  obtain ⟨e, he⟩ : ∃ e : Nat, d % 9 = (e : Int) := ⟨(d % 9).toNat, by omega⟩
  have hn14 : n ≤ 13 := by omega
  have he9 : e ≤ 8 := by omega
  by_cases h0 : n = 0
  · exact fewly_one a d n e W hG hn he h0 hn14 he9
  · by_cases h7 : n ≤ 7
    · exact fewly_flat a d n e W hG hn he ⟨by omega, h7⟩ hn14 he9
    · by_cases h11 : n ≤ 11
      · exact fewly_wide a d n e W hG hn he ⟨by omega, h11⟩ hn14 he9
      · exact fewly_over a d n e W hG hn he ⟨by omega, by omega⟩ hn14 he9
end Go.Proofs.YthiacfmedcfcjaaDoor
