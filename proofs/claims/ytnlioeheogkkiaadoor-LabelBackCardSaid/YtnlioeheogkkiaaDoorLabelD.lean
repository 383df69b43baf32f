/- Walks: Least, Below, Comparable of the reference of package label; SameInts and OwnInts of the kit. -/
import Derived.Test.YtnlioeheogkkiaaDoorLabelC
import Derived.Deep.QuietTactic
import Derived.BigQuiet
import Derived.Deep.Draws
namespace Go.Proofs.YtnlioeheogkkiaaDoor
open Go.RowKit
open Lb

theorem refLeast_any (l : Int) (w : World) (hz : l = 0 ↔ catsI l = []) :
    Calls Tryd.prog 17 #[.int .u64 l] w fun e w' => e = .returned (.tuple #[.int .i64 (leastI l).1, .int .i64 (leastI l).2]) ∧ Below w.heap.size w w' := by
  by_cases h0 : l = 0
  · have hc := hz.1 h0
    have hl : leastI l = (0, 2) := by unfold leastI; rw [hc]
    have hl' := Lib.hid hl
    clear hl hc hz
    subst h0
    go_enter Tryd.func17, Tryd.ntmps17
    go_wp2
    go_ret2
    exact ⟨by rw [hl'.out]; rfl, Below.refl _ _⟩
  · have h1 : (l == 0) = false := by simpa using h0
    have hcs : catsI l ≠ [] := fun h => h0 (hz.2 h)
    obtain ⟨c, r, hcr⟩ : ∃ c r, catsI l = c :: r := by cases h : catsI l with
      | nil => exact absurd h hcs
      | cons c r => exact ⟨c, r, rfl⟩
    have hl : leastI l = (c, 0) := by unfold leastI; rw [hcr]
    have hl' := Lib.hid hl
    have hcr' := Lib.hid hcr
    clear hz h0 hcs hl hcr
    go_enter Tryd.func17, Tryd.ntmps17
    go_wp2_with fail
    refine (refList_any _ _).mono ?_
    rintro e w1 ⟨v, rfl, hs, hb⟩
    rw [hcr'.out] at hs
    obtain ⟨A, cap, rfl, hm, hc⟩ := hs.ints
    obtain ⟨a, rfl, _, hcell⟩ := hc 0 (by simp)
    simp only [List.getElem_cons_zero, Addr.add, if_true] at hcell
    clear hc hs
    go_wp2
    go_ret2
    exact ⟨by rw [hl'.out]; rfl, hb⟩

/-- The first k categories are no witness against 'a is at most b'. -/
def noneBelow (a b : Int) (k : Nat) : Prop := ∀ j : Nat, j < k → (hasI a j && !hasI b j) = false
theorem refBelowI_true {a b : Int} (h : noneBelow a b 64) : refBelowI a b = true := by
  unfold refBelowI upto64
  rw [List.all_eq_true]
  intro c hc
  obtain ⟨j, hj, rfl⟩ := List.mem_map.1 hc
  rw [h j (by simpa using hj)]
  rfl
theorem refBelowI_false {a b : Int} {k : Nat} (hk : k < 64) (h : hasI a k = true) (h' : hasI b k = false) : refBelowI a b = false := by
  unfold refBelowI upto64
  rw [List.all_eq_false]
  exact ⟨(k : Int), List.mem_map.2 ⟨k, by simpa using hk, rfl⟩, by simp [h, h']⟩

theorem refBelow_any (a b : Int) (w : World) :
    Calls Tryd.prog 24 #[.int .u64 a, .int .u64 b] w fun e w' => e = .returned (.bool (refBelowI a b)) ∧ w = w' := by
  go_enter Tryd.func24, Tryd.ntmps24
  go_wp2
  go_loop [5] (fun i => ∃ k : Nat, k ≤ 64 ∧ i = .int .i64 k ∧ noneBelow a b k) (fun i => 64 - (intOf i).toNat)
  case atStart => exact ⟨0, by omega, rfl, fun j h => by omega⟩
  case round =>
    obtain ⟨k, hk, rfl, hno⟩ := hrel
    by_cases hlt : k < 64
    · cases ha : hasI a k
      · have hn : noneBelow a b (k + 1) := fun j hj => by
          by_cases e : j = k
          · subst e; simp [ha]
          · exact hno j (by omega)
        have HA := Lib.hid ha
        clear ha
        go_wp2_with (go_at_call 45; refine (refIn_any _ _ _ (by omega) (by omega)).mono ?_; rintro e w' ⟨rfl, rfl⟩; rw [HA.out])
        go_round
        case rel => exact ⟨k + 1, by omega, by go_num, hn⟩
        case measure => simp [intOf]; omega
      · cases hb : hasI b k
        · have hf := Lib.hid (refBelowI_false hlt ha hb)
          have HA := Lib.hid ha
          have HB := Lib.hid hb
          clear ha hb
          go_wp2_with (go_at_call 45; refine (refIn_any _ _ _ (by omega) (by omega)).mono ?_; rintro e w' ⟨rfl, rfl⟩; first | rw [HA.out] | rw [HB.out])
          go_ret
          exact ⟨by rw [hf.out]; rfl, rfl⟩
        · have hn : noneBelow a b (k + 1) := fun j hj => by
            by_cases e : j = k
            · subst e; simp [ha, hb]
            · exact hno j (by omega)
          have HA := Lib.hid ha
          have HB := Lib.hid hb
          clear ha hb
          go_wp2_with (go_at_call 45; refine (refIn_any _ _ _ (by omega) (by omega)).mono ?_; rintro e w' ⟨rfl, rfl⟩; first | rw [HA.out] | rw [HB.out])
          go_round
          case rel => exact ⟨k + 1, by omega, by go_num, hn⟩
          case measure => simp [intOf]; omega
    · obtain rfl : k = 64 := by omega
      have hf := Lib.hid (refBelowI_true hno)
      go_wp2
      go_ret
      exact ⟨by rw [hf.out]; rfl, rfl⟩

theorem refComparable_any (a b : Int) (w : World) :
    Calls Tryd.prog 26 #[.int .u64 a, .int .u64 b] w fun e w' => e = .returned (.bool (refBelowI a b || refBelowI b a)) ∧ w = w' := by
  cases h1 : refBelowI a b <;> have H1 := Lib.hid h1 <;> clear h1
  all_goals
    go_enter Tryd.func26, Tryd.ntmps26
    go_wp2_with (go_at_call 24; refine (refBelow_any _ _ _).mono ?_; rintro e w' ⟨rfl, rfl⟩; try rw [H1.out])
    go_ret
    exact ⟨by first | rfl | simp, rfl⟩

theorem sameInts_any (u v : Value) (xs ys : List Int) (w : World) (hu : Slc w u (vals .i64 xs)) (hv : Slc w v (vals .i64 ys)) :
    Calls Tryd.prog 18 #[u, v] w fun e w' => e = .returned (.bool (decide (xs = ys))) ∧ ∃ n, w' = w.drewN n := by
  obtain ⟨A, cap, rfl, hm, hc⟩ := hu.ints
  obtain ⟨A', cap', rfl, hm', hc'⟩ := hv.ints
  clear hu hv
  by_cases hl : xs.length = ys.length
  · have hlb : ((xs.length : Int) != (ys.length : Int)) = false := by simp [hl]
    have HL := Lib.hid hl
    clear hl
    go_enter Tryd.func18, Tryd.ntmps18
    go_wp2
    go_loopw [5] (fun i wr => ∃ k n : Nat, k ≤ xs.length ∧ i = .int .i64 k ∧ xs.take k = ys.take k ∧ wr = w.drewN n) (fun i _ => xs.length - (intOf i).toNat)
    case atStart => exact ⟨0, 0, by omega, rfl, by simp, rfl⟩
    case round =>
      obtain ⟨k, n, hk, rfl, ht, rfl⟩ := hrel
      have HT := Lib.hid ht
      clear ht
      by_cases hlt : k < xs.length
      · have hlt' : k < ys.length := by have := HL.out; omega
        obtain ⟨a, rfl, _, hcell⟩ := hc k hlt
        obtain ⟨a', rfl, _, hcell'⟩ := hc' k hlt'
        clear hc hc'
        have hi : (k : Int) < (xs.length : Int) := by omega
        have hi' : (k : Int) < (ys.length : Int) := by omega
        by_cases he : xs[k] = ys[k]
        · have heb : (xs[k] != ys[k]) = false := by simp [he]
          have hn := Lib.hid (show xs.take (k + 1) = ys.take (k + 1) by rw [take_snoc xs k hlt, take_snoc ys k hlt', HT.out, he])
          clear he
          go_wp2
          go_quiet (fail)
          go_wp2
          go_roundw
          case rel => exact ⟨k + 1, _, by omega, by go_num, hn.out, rfl⟩
          case measure => simp [intOf]; omega
        · have heb : (xs[k] != ys[k]) = true := by simpa using he
          have hd := Lib.hid (show decide (xs = ys) = false by
            rw [decide_eq_false_iff_not]; intro h; subst h; exact he rfl)
          clear he
          go_wp2
          go_quiet (fail)
          go_wp2
          go_ret
          exact ⟨by rw [hd.out]; rfl, _, World.drewN_drewN _ _ _⟩
      · have hd := Lib.hid (show decide (xs = ys) = true by
            have h1 := HT.out
            rw [List.take_of_length_le (by omega), List.take_of_length_le (by have := HL.out; omega)] at h1
            simpa using h1)
        go_wp2
        go_ret
        exact ⟨by rw [hd.out]; rfl, _, rfl⟩
  · have hlb : ((xs.length : Int) != (ys.length : Int)) = true := by simp; omega
    have hd := Lib.hid (show decide (xs = ys) = false by
            rw [decide_eq_false_iff_not]; intro h; subst h; exact hl rfl)
    clear hl
    go_enter Tryd.func18, Tryd.ntmps18
    go_wp2
    go_ret
    exact ⟨by rw [hd.out]; rfl, 0, rfl⟩
end Go.Proofs.YtnlioeheogkkiaaDoor
