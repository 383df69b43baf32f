/- Walks: the functions of the reference of package label that make slices, and two of the kit. -/
import Derived.Test.YtnlioeheogkkiaaDoorLabelB
namespace Go.Proofs.YtnlioeheogkkiaaDoor
open Go.RowKit
open Lb

theorem infoInt : (Tryd.prog.info? 3).map (fun i => (i.zero, i.size, i.bytes)) = some (some (.int .i64 0), 1, 8) := by kernel_rfl

theorem refList_any (l : Int) (w : World) :
    Calls Tryd.prog 20 #[.int .u64 l] w fun e w' => OutSlc w (vals .i64 (catsI l)) e w' := by
  obtain ⟨i0, hi, hz0, hz1, hz2⟩ := info_parts infoInt
  go_enter Tryd.func20, Tryd.ntmps20
  go_wp2
  go_loopw [3, 4] (fun v i wr => ∃ k : Nat, k ≤ 64 ∧ i = .int .i64 k ∧ Own1 w.heap.size 3 w (vals .i64 (preCats l k)) v wr) (fun _ i _ => 64 - (intOf i).toNat)
  case atStart => exact ⟨0, by omega, rfl, Own1.nil _⟩
  case round =>
    obtain ⟨k, hk, rfl, hown⟩ := hrel
    by_cases hlt : k < 64
    · have hle := preCats_le l k
      cases hh : hasI l k
      · have hn := Lib.hid (preCats_no hh)
        have HH := Lib.hid hh
        clear hh
        go_wp2_with (go_at_call 45; refine (refIn_any _ _ _ (by omega) (by omega)).mono ?_; rintro e w' ⟨rfl, rfl⟩; rw [HH.out])
        go_roundw
        case rel => exact ⟨k + 1, by omega, by go_num, by rw [hn.out]; exact hown⟩
        case measure => simp [intOf]; omega
      · have hn := Lib.hid (preCats_yes hh)
        have HH := Lib.hid hh
        clear hh
        go_wp2_with (first | (go_at_call 45; refine (refIn_any _ _ _ (by omega) (by omega)).mono ?_; rintro e w' ⟨rfl, rfl⟩; rw [HH.out]) | (at_builtin; refine wpList_append_own _ rfl _ _ 23 rfl w.heap.size 3 i0 (.int .i64 0) 1 8 Tryd.underlying23 hi hz0 hz1 hz2 rfl (by decide) _ _ _ rfl (hown.1.alloc _) ⟨wr.heap.size, 0, none⟩ 1 1 [.int .i64 (k : Int)] rfl rfl (cell_one_new _ _ _) (by simp [Value.oneCell']) (by rw [vals_length]; unfold maxLen; omega) (by rw [vals_length]; omega) (by have := hown.2.2; simp; omega) ?_; intro v' w1 hown' hgrow _))
        have hown1 := hown.snoc hown' hgrow
        clear hown hown' hgrow
        go_wp2
        go_roundw
        case rel => exact ⟨k + 1, by omega, by go_num, by rw [hn.out, vals_snoc]; exact hown1⟩
        case measure => simp [intOf]; omega
    · obtain rfl : k = 64 := by omega
      go_wp2
      go_ret
      exact ⟨_, rfl, by rw [← preCats_all]; exact hown.slc, hown.2.1⟩

theorem refCount_any (l : Int) (w : World) :
    Calls Tryd.prog 22 #[.int .u64 l] w fun e w' => e = .returned (.int .i64 (catsI l).length) ∧ Below w.heap.size w w' := by
  go_enter Tryd.func22, Tryd.ntmps22
  go_wp2_with fail
  refine (refList_any _ _).mono ?_
  rintro e w1 ⟨v, rfl, hs, hb⟩
  obtain ⟨A, cap, rfl, hm, hc⟩ := hs.ints
  go_wp2
  go_ret
  exact ⟨rfl, hb⟩
end Go.Proofs.YtnlioeheogkkiaaDoor
