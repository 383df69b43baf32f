/- Walk: Short of the kit. -/
import Derived.Test.YtgcgoiaadigmfaaProg
import Derived.Test.YtgcgoiaadigmfaaBlk
import Derived.Outline
namespace Go.Proofs.Ytgcgoiaadigmfaa
open Go.RowKit

def shortB (l : List ByteArray) (most : Nat) : Bool := l.all fun s => decide (s.size ≤ most)
theorem short_any (v : Value) (l : List ByteArray) (most : Nat) (w : World) (hv : Slc w v (l.map Value.string)) :
    Calls Try.prog 42 #[v, .int .i64 most] w fun e w' => e = .returned (.bool (shortB l most)) ∧ w = w' := by
  have hlen := hv.len
  simp only [List.length_map] at hlen
  obtain ⟨A, cap, rfl, _, _, hc⟩ := hv
  have hll : (l.map Value.string).length = l.length := by simp
  rw [hll]
  have HC := Lib.hid hc
  clear hc hll
  go_enter Try.func42, Try.ntmps42
  go_wp2
  go_loop [5] (fun i => ∃ k : Nat, k ≤ l.length ∧ i = .int .i64 k ∧ shortB (l.take k) most = true) (fun i => l.length - (intOf i).toNat)
  case atStart => exact ⟨0, by omega, rfl, by simp [shortB]⟩
  case round =>
    obtain ⟨k, hk, rfl, hs⟩ := hrel
    have HS := Lib.hid hs
    clear hs
    by_cases hlt : k < l.length
    · obtain ⟨a, rfl, _, hcell⟩ := HC.out k (by simpa using hlt)
      rw [List.getElem_map] at hcell
      have hsn := take_snoc l k hlt
      by_cases h1 : l[k].size ≤ most
      · have hn := Lib.hid (show shortB (l.take (k + 1)) most = true by
          have := HS.out
          unfold shortB at this ⊢
          rw [hsn, List.all_append, this]
          simp [h1])
        clear hsn
        go_wp2
        go_round
        case rel => exact ⟨k + 1, by omega, by go_num, hn.out⟩
        case measure => simp [intOf]; omega
      · have hn := Lib.hid (show shortB l most = false by
          unfold shortB
          rw [List.all_eq_false]
          exact ⟨l[k], List.getElem_mem hlt, by simpa using h1⟩)
        clear hsn
        go_wp2
        go_ret
        exact ⟨by rw [hn.out]; rfl, rfl⟩
    · have hn := Lib.hid (show shortB l most = true by
        have := HS.out
        rw [List.take_of_length_le (by omega)] at this
        exact this)
      go_wp2
      go_ret
      exact ⟨by rw [hn.out]; rfl, rfl⟩
end Go.Proofs.Ytgcgoiaadigmfaa
