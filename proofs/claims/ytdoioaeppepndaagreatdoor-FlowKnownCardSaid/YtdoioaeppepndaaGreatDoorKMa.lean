/- The kit's Mod and At. -/
import Derived.Test.YtdoioaeppepndaaGreatDoorProg
import Derived.Test.YtdoioaeppepndaaGreatDoorBlk
import Derived.Outline
import Derived.IntWalk
namespace Go.Proofs.YtdoioaeppepndaaGreatDoor
open Go.RowKit

theorem mod_any (n m : Int) (w : World) (hm : 0 < m) (hm' : m ≤ 4611686018427387904) :
    Calls Tryz.prog 66 #[.int .i64 n, .int .i64 m] w fun e w' => e = .returned (.int .i64 (n % m)) ∧ w = w' := by
  have h1 : ¬ m < 1 := by omega
  have hl : -m < n.tmod m := by
    have := Int.lt_tmod_of_pos n hm; omega
  have hr : n.tmod m < m := Int.tmod_lt_of_pos n hm
  have he : n % m = if n.tmod m < 0 then n.tmod m + m else n.tmod m := by
    rw [Int.emod_eq_tmod]
    by_cases h0 : 0 ≤ n
    · have := Int.tmod_nonneg m h0
      rw [if_pos (.inl h0), if_neg (by omega)]
      omega
    · by_cases hd : m ∣ n
      · rw [if_pos (.inr hd), Int.tmod_eq_zero_of_dvd hd]
        simp
      · rw [if_neg (by simp [h0, hd])]
        have hz : n.tmod m ≠ 0 := fun h => hd (Int.dvd_of_tmod_eq_zero h)
        have hneg : n.tmod m ≤ 0 := by
          have := Int.tmod_nonneg m (a := -n) (by omega)
          rw [Int.neg_tmod] at this
          omega
        rw [if_pos (by omega)]
        omega
  have HE := Lib.hid he
  clear he
  obtain ⟨t, ht⟩ : ∃ t, t = n.tmod m := ⟨_, rfl⟩
  rw [← ht] at HE hl hr
  have ht' : n.tmod m = t := ht.symm
  have hmz : (m == 0) = false := by simp; omega
  have hmz' : ¬ m = 0 := by omega
  clear ht
  by_cases h0 : t < 0
  · go_enter Tryz.func66, Tryz.ntmps66
    go_wp2
    go_ret
    exact ⟨by rw [HE.out, if_pos h0]; rfl, rfl⟩
  · go_enter Tryz.func66, Tryz.ntmps66
    go_wp2
    go_ret
    exact ⟨by rw [HE.out, if_neg (by omega)]; rfl, rfl⟩
end Go.Proofs.YtdoioaeppepndaaGreatDoor
namespace Go.Proofs.YtdoioaeppepndaaGreatDoor
open Go.RowKit

/-- A number of a list by its place; 0 where there is none. -/
def atI (l : List Int) (i : Nat) : Int := if h : i < l.length then l[i] else 0
theorem at_any (v : Value) (l : List Int) (w : World) (hv : Slc w v (vals .i64 l)) (i : Nat) :
    Calls Tryz.prog 68 #[v, .int .i64 i] w fun e w' => e = .returned (.int .i64 (atI l i)) ∧ w = w' := by
  obtain ⟨A, cap, rfl, hm, hc⟩ := hv.ints
  by_cases h : i < l.length
  · obtain ⟨a, rfl, _, hcell⟩ := hc i h
    have hx := Lib.hid (show atI l i = l[i] by unfold atI; rw [dif_pos h])
    clear hc hv
    go_enter Tryz.func68, Tryz.ntmps68
    go_wp2
    go_ret
    exact ⟨by rw [hx.out]; rfl, rfl⟩
  · have hx := Lib.hid (show atI l i = 0 by unfold atI; rw [dif_neg h])
    clear hc hv
    go_enter Tryz.func68, Tryz.ntmps68
    go_wp2
    go_ret
    exact ⟨by rw [hx.out]; rfl, rfl⟩
end Go.Proofs.YtdoioaeppepndaaGreatDoor
