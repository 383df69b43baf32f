/- Walk: Mod of the kit. -/
import Derived.Test.YtkmkhegekonbmaaDoorProg
import Derived.Test.YtkmkhegekonbmaaDoorBlk
import Derived.Outline
import Derived.IntWalk
namespace Go.Proofs.YtkmkhegekonbmaaDoor
open Go.RowKit

theorem mod_any (n m : Int) (w : World) (hm : 0 < m) (hm' : m ≤ 4611686018427387904) :
    Calls Tryd.prog 52 #[.int .i64 n, .int .i64 m] w fun e w' => e = .returned (.int .i64 (n % m)) ∧ w = w' := by
  have h1 : ¬ m < 1 := by omega
  have hl : -m < n.tmod m := by
    have := Int.lt_tmod_of_pos n hm; omega
  have hr : n.tmod m < m := Int.tmod_lt_of_pos n hm
  have he : n % m = if n.tmod m < 0 then n.tmod m + m else n.tmod m := by
    rw [Int.emod_eq_tmod]
    by_cases h0 : 0 ≤ n
    · have := Int.tmod_nonneg m h0
      rw [if_pos (.inl h0), if_neg (by omega)]
      omega
    · by_cases hd : m ∣ n
      · rw [if_pos (.inr hd), Int.tmod_eq_zero_of_dvd hd]
        simp
      · rw [if_neg (by simp [h0, hd])]
        have hz : n.tmod m ≠ 0 := fun h => hd (Int.dvd_of_tmod_eq_zero h)
        have hneg : n.tmod m ≤ 0 := by
          have := Int.tmod_nonneg m (a := -n) (by omega)
          rw [Int.neg_tmod] at this
          omega
        rw [if_pos (by omega)]
        omega
  have HE := Lib.hid he
  clear he
  obtain ⟨t, ht⟩ : ∃ t, t = n.tmod m := ⟨_, rfl⟩
  rw [← ht] at HE hl hr
  have ht' : n.tmod m = t := ht.symm
  have hmz : (m == 0) = false := by simp; omega
  have hmz' : ¬ m = 0 := by omega
  clear ht
  by_cases h0 : t < 0
  · go_enter Tryd.func52, Tryd.ntmps52
    go_wp2
    go_ret
    exact ⟨by rw [HE.out, if_pos h0]; rfl, rfl⟩
  · go_enter Tryd.func52, Tryd.ntmps52
    go_wp2
    go_ret
    exact ⟨by rw [HE.out, if_neg (by omega)]; rfl, rfl⟩
end Go.Proofs.YtkmkhegekonbmaaDoor
