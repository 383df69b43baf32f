/- slices.Sort sorts every []uint64. -/
import Derived.Test.YtlembnpplnbagaaSrtL
namespace Go.Proofs.Ytlembnpplnbagaa.Lt
open Go.RowKit Go.Sort

theorem sorts_all (K : Nat) (hK : K < 2305843009213693952) : Sorts K := by
  intro b o c d w hH hb hz
  have hb0 : Lib.bitLen (d.size : Int).toNat < 4611686018427387904 := by
    have := Lib.bitLen_le (d.size : Int).toNat 64 (by decide) (by omega)
    omega
  have hp := pdq_any (d.size + 1) b o c 0 d.size (Lib.bitLen (d.size : Int).toNat) d w (by omega) hH hb (Nat.zero_le _) (Nat.le_refl _) (by omega) hb0 (Or.inl rfl)
  have hL := Try.bits_Len (d.size : Int) w (by omega) (by omega)
  obtain ⟨m, hm⟩ : ∃ m : Int, m = ((Lib.bitLen (d.size : Int).toNat : Nat) : Int) := ⟨_, rfl⟩
  rw [← hm] at hL hp
  have hw : IntKind.u64.wrap (d.size : Int) = d.size := by simp [IntKind.wrap, IntKind.bits, IntKind.signed]; omega
  clear hm hH hb0
  go_enter Try.func35, Try.ntmps35
  go_wp2_with (first | (go_at_call 39; refine hL.mono ?_; rintro e w' ⟨rfl, rfl⟩) | (go_at_call 38; refine hp.mono ?_; rintro e w' ⟨rfl, d', h1, h2, h3⟩))
  go_end0
  exact ⟨rfl, d', h1, h2, h3⟩
end Go.Proofs.Ytlembnpplnbagaa.Lt
