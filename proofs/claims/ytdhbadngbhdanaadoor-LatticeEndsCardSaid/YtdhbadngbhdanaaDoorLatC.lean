/- Walks: the document's own function that tells which labels are below one. -/
import Derived.Test.YtdhbadngbhdanaaDoorLatA
import Derived.Deep.LoopGhost
import Derived.WalkMore
import Derived.Laws.OwnMore
namespace Go.Proofs.YtdhbadngbhdanaaDoor.Lt
open Go.RowKit

theorem infoInt4 : (Tryd.prog.info? 3).map (fun i => (i.zero, i.size, i.bytes)) = some (some (.int .i64 0), 1, 8) := by kernel_rfl
/-- The numbers, up to k, of the labels that .. -/
def preN (l : List Nat) (p : Nat → Bool) (k : Nat) : List Int := ((List.range k).filter fun i => p (l.getD i 0)).map fun (i : Nat) => (i : Int)
theorem preN_all (l : List Nat) (p : Nat → Bool) : preN l p l.length = (numsOf l p).map fun (i : Nat) => (i : Int) := rfl
theorem getD_at {l : List Nat} {k : Nat} (h : k < l.length) : l.getD k 0 = l[k] := by
  rw [List.getD_eq_getElem?_getD, List.getElem?_eq_getElem h]; rfl
theorem preN_yes {l : List Nat} {p : Nat → Bool} {k : Nat} (h : k < l.length) (hp : p l[k] = true) : preN l p (k + 1) = preN l p k ++ [(k : Int)] := by
  unfold preN
  rw [List.range_succ, List.filter_append, List.map_append]
  congr 1
  rw [List.filter_cons, getD_at h, if_pos hp]
  rfl
theorem preN_no {l : List Nat} {p : Nat → Bool} {k : Nat} (h : k < l.length) (hp : p l[k] = false) : preN l p (k + 1) = preN l p k := by
  unfold preN
  rw [List.range_succ, List.filter_append, List.map_append]
  have : (List.filter (fun i => p (l.getD i 0)) [k]) = [] := by rw [List.filter_cons, getD_at h, if_neg (by rw [hp]; decide)]; rfl
  rw [this]
  simp
theorem preN_len (l : List Nat) (p : Nat → Bool) (k : Nat) : (preN l p k).length ≤ k := by
  unfold preN
  rw [List.length_map]
  have := List.length_filter_le (fun i => p (l.getD i 0)) (List.range k)
  rw [List.length_range] at this
  exact this
/-- Two results, the first of them a slice of these values. -/
def Out2 (w : World) (us : List Value) (c : Int) (e : Ending) (w' : World) : Prop := ∃ v, e = .returned (.tuple #[v, .int .i64 c]) ∧ Slc w' v us ∧ Below w.heap.size w w'
def belowR (l : List Nat) (t : Nat) : List Nat × Int := if 64 < l.length then ([], 6) else (numsOf l fun x => leB x t, 0)
def nv (l : List Nat) : List Value := vals .i64 (l.map fun (i : Nat) => (i : Int))
set_option maxRecDepth 100000 in
set_option maxHeartbeats 4000000 in
theorem refBelow_any {w : World} {v : Value} {l : List Nat} (t : Nat) (h : Slc w v (lv l)) (hu : U64 l) (ht : t < 18446744073709551616) :
    Calls Tryd.prog 9 #[v, .int .u64 (t : Int)] w (Out2 w (nv (belowR l t).1) (belowR l t).2) := by
  unfold belowR
  by_cases hl : 64 < l.length
  · rw [if_pos hl]
    have hF := family_is h (c := 6) (by unfold famE; rw [if_pos hl])
    obtain ⟨A, cap, rfl, hm, hc⟩ := nats h
    clear h hc hl
    go_enter Tryd.func9, Tryd.ntmps9
    go_wp2_with fail
    refine hF.mono ?_
    rintro e w' ⟨rfl, rfl⟩
    go_wp2
    go_returns
    exact ⟨_, rfl, Slc.nil _, Below.refl _ _⟩
  · rw [if_neg hl]
    have hF := family_is h (c := 0) (by unfold famE; rw [if_neg hl])
    have hl64 : l.length ≤ 64 := by omega
    obtain ⟨A, cap, rfl, hm, hc⟩ := nats h
    obtain ⟨i0, hi, hz0, hz1, hz2⟩ := info_parts infoInt4
    clear h hl
    go_enter Tryd.func9, Tryd.ntmps9
    go_wp2_with fail
    refine hF.mono ?_
    rintro e w' ⟨rfl, rfl⟩
    go_wp2
    go_loopw [7, 8] (fun v i wr => ∃ k : Nat, k ≤ l.length ∧ i = .int .i64 k ∧ Own1 w.heap.size 3 w (vals .i64 (preN l (fun x => leB x t) k)) v wr) (fun _ i _ => l.length - (intOf i).toNat)
    case atStart => exact ⟨0, by omega, rfl, Own1.nil _⟩
    case round =>
      obtain ⟨k, hk, rfl, hown⟩ := hrel
      by_cases hlt : k < l.length
      · obtain ⟨a, rfl, hab, hcell⟩ := hc k hlt
        have hle := preN_len l (fun x => leB x t) k
        have hcell2 : wr.cell? (a.add k) = some (.int .u64 (l[k] : Int)) := (hown.2.1.cell (p := a.add k) (by rw [add_block]; exact hab)).trans hcell
        have hA := fun w => atMost_any l[k] t (hu _ (List.getElem_mem hlt)) ht w
        clear hc hcell
        cases hb : leB l[k] t
        · rw [hb] at hA
          have hn := Lib.hid (preN_no (p := fun x => leB x t) hlt hb)
          go_wp2_with (go_at_call 28; refine (hA _).mono ?_; rintro e w' ⟨rfl, rfl⟩)
          go_roundw
          case rel => exact ⟨k + 1, by omega, by go_num, by rw [hn.out]; exact hown⟩
          case measure => simp [intOf]; omega
        · rw [hb] at hA
          have hn := Lib.hid (preN_yes (p := fun x => leB x t) hlt hb)
          go_wp2_with (first | (go_at_call 28; refine (hA _).mono ?_; rintro e w' ⟨rfl, rfl⟩) | (at_builtin; refine wpList_append_own _ rfl _ _ 26 rfl w.heap.size 3 i0 (.int .i64 0) 1 8 Tryd.underlying26 hi hz0 hz1 hz2 rfl (by decide) _ _ _ rfl (hown.1.alloc _) ⟨wr.heap.size, 0, none⟩ 1 1 [.int .i64 (k : Int)] rfl rfl (cell_one_new _ _ _) (by simp [Value.oneCell']) (by rw [vals_length]; unfold maxLen; omega) (by rw [vals_length]; omega) (by have := hown.2.2; simp; omega) ?_; intro v' w1 hown' hgrow _))
          have hown1 := hown.snoc hown' hgrow
          clear hown hown' hgrow
          go_wp2
          go_roundw
          case rel => exact ⟨k + 1, by omega, by go_num, by rw [hn.out, vals_snoc]; exact hown1⟩
          case measure => simp [intOf]; omega
      · obtain rfl : k = l.length := by omega
        go_wp2
        go_returns
        exact ⟨_, rfl, by unfold nv; rw [← preN_all]; exact hown.slc, hown.2.1⟩
end Go.Proofs.YtdhbadngbhdanaaDoor.Lt
