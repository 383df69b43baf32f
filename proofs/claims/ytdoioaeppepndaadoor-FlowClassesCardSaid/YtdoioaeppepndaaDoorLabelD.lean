/- Walks: Least, Below, Comparable of the reference of package label; SameInts and OwnInts of the kit. -/
import Derived.Test.YtdoioaeppepndaaDoorLabelOne
import Derived.Deep.QuietTactic
import Derived.BigQuiet
import Derived.Deep.Draws
namespace Go.Proofs.YtdoioaeppepndaaDoor
open Go.RowKit
open Lb

/-- The first k categories are no witness against 'a is at most b'. -/
def noneBelow (a b : Int) (k : Nat) : Prop := ∀ j : Nat, j < k → (hasI a j && !hasI b j) = false
theorem refBelowI_true {a b : Int} (h : noneBelow a b 64) : refBelowI a b = true := by
  unfold refBelowI upto64
  rw [List.all_eq_true]
  intro c hc
  obtain ⟨j, hj, rfl⟩ := List.mem_map.1 hc
  rw [h j (by simpa using hj)]
  rfl
theorem refBelowI_false {a b : Int} {k : Nat} (hk : k < 64) (h : hasI a k = true) (h' : hasI b k = false) : refBelowI a b = false := by
  unfold refBelowI upto64
  rw [List.all_eq_false]
  exact ⟨(k : Int), List.mem_map.2 ⟨k, by simpa using hk, rfl⟩, by simp [h, h']⟩

theorem sameInts_any (u v : Value) (xs ys : List Int) (w : World) (hu : Slc w u (vals .i64 xs)) (hv : Slc w v (vals .i64 ys)) :
    Calls Tryd.prog 10 #[u, v] w fun e w' => e = .returned (.bool (decide (xs = ys))) ∧ ∃ n, w' = w.drewN n := by
  obtain ⟨A, cap, rfl, hm, hc⟩ := hu.ints
  obtain ⟨A', cap', rfl, hm', hc'⟩ := hv.ints
  clear hu hv
  by_cases hl : xs.length = ys.length
  · have hlb : ((xs.length : Int) != (ys.length : Int)) = false := by simp [hl]
    have HL := Lib.hid hl
    clear hl
    go_enter Tryd.func10, Tryd.ntmps10
    go_wp2
    go_loopw [5] (fun i wr => ∃ k n : Nat, k ≤ xs.length ∧ i = .int .i64 k ∧ xs.take k = ys.take k ∧ wr = w.drewN n) (fun i _ => xs.length - (intOf i).toNat)
    case atStart => exact ⟨0, 0, by omega, rfl, by simp, rfl⟩
    case round =>
      obtain ⟨k, n, hk, rfl, ht, rfl⟩ := hrel
      have HT := Lib.hid ht
      clear ht
      by_cases hlt : k < xs.length
      · have hlt' : k < ys.length := by have := HL.out; omega
        obtain ⟨a, rfl, _, hcell⟩ := hc k hlt
        obtain ⟨a', rfl, _, hcell'⟩ := hc' k hlt'
        clear hc hc'
        have hi : (k : Int) < (xs.length : Int) := by omega
        have hi' : (k : Int) < (ys.length : Int) := by omega
        by_cases he : xs[k] = ys[k]
        · have heb : (xs[k] != ys[k]) = false := by simp [he]
          have hn := Lib.hid (show xs.take (k + 1) = ys.take (k + 1) by rw [take_snoc xs k hlt, take_snoc ys k hlt', HT.out, he])
          clear he
          go_wp2
          go_quiet (fail)
          go_wp2
          go_roundw
          case rel => exact ⟨k + 1, _, by omega, by go_num, hn.out, rfl⟩
          case measure => simp [intOf]; omega
        · have heb : (xs[k] != ys[k]) = true := by simpa using he
          have hd := Lib.hid (show decide (xs = ys) = false by
            rw [decide_eq_false_iff_not]; intro h; subst h; exact he rfl)
          clear he
          go_wp2
          go_quiet (fail)
          go_wp2
          go_ret
          exact ⟨by rw [hd.out]; rfl, _, World.drewN_drewN _ _ _⟩
      · have hd := Lib.hid (show decide (xs = ys) = true by
            have h1 := HT.out
            rw [List.take_of_length_le (by omega), List.take_of_length_le (by have := HL.out; omega)] at h1
            simpa using h1)
        go_wp2
        go_ret
        exact ⟨by rw [hd.out]; rfl, _, rfl⟩
  · have hlb : ((xs.length : Int) != (ys.length : Int)) = true := by simp; omega
    have hd := Lib.hid (show decide (xs = ys) = false by
            rw [decide_eq_false_iff_not]; intro h; subst h; exact hl rfl)
    clear hl
    go_enter Tryd.func10, Tryd.ntmps10
    go_wp2
    go_ret
    exact ⟨by rw [hd.out]; rfl, 0, rfl⟩
end Go.Proofs.YtdoioaeppepndaaDoor
