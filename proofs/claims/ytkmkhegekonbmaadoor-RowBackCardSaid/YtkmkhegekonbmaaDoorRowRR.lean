/- Walk: the law's same, of two lists of rows that have the same words. -/
import Derived.Test.YtkmkhegekonbmaaDoorRowII
namespace Go.Proofs.YtkmkhegekonbmaaDoor
open Go.RowKit
open Rw6

/-- Words without their offsets. -/
def bareI (ws : List Wd) : List (Bool × List UInt8) := ws.map fun x => (x.1, x.2.1)
set_option maxRecDepth 100000 in
set_option maxHeartbeats 4000000 in
theorem same_same (u v : Value) (r1 r2 : List (Int × List Wd)) (he : (r1.map fun r => bareI r.2) = r2.map fun r => bareI r.2) (w : World) (hu : RSl w u r1) (hv : RSl w v r2) :
    Calls Tryd.prog 33 #[u, v] w fun e w' => e = .returned (.bool true) ∧ Below w.heap.size w w' := by
  have hlen : r2.length = r1.length := by have := congrArg List.length he; simpa using this.symm
  obtain ⟨A, cap, rfl, hcap, hmax, _, hc⟩ := hu.at_
  obtain ⟨A', cap', rfl, hcap', _, _, hc'⟩ := hv.at_
  have HC := Lib.hid hc
  have HC' := Lib.hid hc'
  have HE := Lib.hid he
  rw [hlen] at hcap' ⊢
  clear hc hc' hu hv he
  go_enter Tryd.func33, Tryd.ntmps33
  go_wp2
  go_loopw [5] (fun i wr => ∃ k : Nat, k ≤ r1.length ∧ i = .int .i64 (k : Int) ∧ Below w.heap.size w wr) (fun i _ => r1.length - (intOf i).toNat)
  case atStart => exact ⟨0, by omega, rfl, Below.refl _ _⟩
  case round =>
    obtain ⟨k, hk, rfl, hB⟩ := hrel
    by_cases hlt : k < r1.length
    · have hlt' : k < r2.length := by omega
      obtain ⟨a, u, rfl, hab, c0, c1, hu⟩ := HC.out k hlt
      obtain ⟨a', u', rfl, hab', c0', c1', hu'⟩ := HC'.out k hlt'
      have hbe : bareI r1[k].2 = bareI r2[k].2 := by
        have h := congrArg (fun l => l[k]?) HE.out
        simpa [List.getElem?_map, List.getElem?_eq_getElem hlt, List.getElem?_eq_getElem hlt'] using h
      obtain ⟨ws, hws⟩ : ∃ x, x = r1[k].2 := ⟨_, rfl⟩
      obtain ⟨ws', hws'⟩ : ∃ x, x = r2[k].2 := ⟨_, rfl⟩
      rw [← hws] at hu hbe
      rw [← hws'] at hu' hbe
      clear hws hws' c0 c0'
      have hwl : ws'.length = ws.length := by have := congrArg List.length hbe; simpa [bareI] using this.symm
      obtain ⟨A2, cap2, rfl, hcp, hm2, _, he⟩ := hu.at_
      obtain ⟨A2', cap2', rfl, hcp', _, _, he'⟩ := hu'.at_
      have C1 := Lib.hid c1
      have C1' := Lib.hid c1'
      replace c1 := (hB.cell (p := a.add (k * 2 + 1)) (by rw [add_block]; exact hab)).trans c1
      replace c1' := (hB.cell (p := a'.add (k * 2 + 1)) (by rw [add_block]; exact hab')).trans c1'
      rw [← add_at _ _ _ (by decide)] at c1 c1'
      rw [hwl] at hcp' c1' C1'
      have HE1 := Lib.hid he
      have HE1' := Lib.hid he'
      have HBE := Lib.hid hbe
      have hi : (k : Int) < (r1.length : Int) := by omega
      have hb1 : ((ws.length : Int) != (ws.length : Int)) = false := by simp
      clear hu hu' he he' hbe
      go_wp2
      go_quiet (fail)
      go_wp2
      go_loopw [6] (fun j wr => ∃ q : Nat, q ≤ ws.length ∧ j = .int .i64 (q : Int) ∧ Below w.heap.size w wr) (fun j _ => ws.length - (intOf j).toNat)
      case atStart => exact ⟨0, by omega, rfl, below_drewN hB _⟩
      case round =>
        clear hB c1 c1'
        obtain ⟨q, hq, rfl, hB⟩ := hrel
        have c1 := (hB.cell (p := a.add (k * 2 + 1)) (by rw [add_block]; exact hab)).trans C1.out
        have c1' := (hB.cell (p := a'.add (k * 2 + 1)) (by rw [add_block]; exact hab')).trans C1'.out
        rw [← add_at _ _ _ (by decide)] at c1 c1'
        by_cases hlt2 : q < ws.length
        · have hlt2' : q < ws'.length := by omega
          obtain ⟨b, rfl, hbb, d0, d1, d2⟩ := HE1.out q hlt2
          obtain ⟨b', rfl, hbb', d0', d1', d2'⟩ := HE1'.out q hlt2'
          have hxe : (ws[q].1, ws[q].2.1) = (ws'[q].1, ws'[q].2.1) := by
            have h := congrArg (fun l => l[q]?) HBE.out
            simpa [bareI, List.getElem?_map, List.getElem?_eq_getElem hlt2, List.getElem?_eq_getElem hlt2'] using h
          replace d0 := (hB.cell (p := b.add (q * 3)) (by rw [add_block]; exact hbb)).trans d0
          replace d1 := (hB.cell (p := b.add (q * 3 + 1)) (by rw [add_block]; exact hbb)).trans d1
          replace d2 := (hB.cell (p := b.add (q * 3 + 2)) (by rw [add_block]; exact hbb)).trans d2
          replace d0' := (hB.cell (p := b'.add (q * 3)) (by rw [add_block]; exact hbb')).trans d0'
          replace d1' := (hB.cell (p := b'.add (q * 3 + 1)) (by rw [add_block]; exact hbb')).trans d1'
          replace d2' := (hB.cell (p := b'.add (q * 3 + 2)) (by rw [add_block]; exact hbb')).trans d2'
          rw [← add_at _ _ _ (by decide)] at d1 d1' d2 d2'
          obtain ⟨x, hx⟩ : ∃ x, x = ws[q] := ⟨_, rfl⟩
          obtain ⟨y, hy⟩ : ∃ x, x = ws'[q] := ⟨_, rfl⟩
          rw [← hx] at d0 d1 d2 hxe
          rw [← hy] at d0' d1' d2' hxe
          obtain ⟨x0, x1, x2⟩ := x
          obtain ⟨y0, y1, y2⟩ := y
          simp only [Prod.mk.injEq] at hxe d0 d1 d2 d0' d1' d2'
          obtain ⟨rfl, rfl⟩ := hxe
          have hi2 : (q : Int) < (ws.length : Int) := by omega
          clear hx hy HE1 HE1' HC HC' HE HBE
          have la : (a.add (k * 2)).block < wr.heap.size := by rw [add_block]; exact Nat.lt_of_lt_of_le hab hB.size
          have la' : (a'.add (k * 2)).block < wr.heap.size := by rw [add_block]; exact Nat.lt_of_lt_of_le hab' hB.size
          have lb : (b.add (q * 3)).block < wr.heap.size := by rw [add_block]; exact Nat.lt_of_lt_of_le hbb hB.size
          have lb' : (b'.add (q * 3)).block < wr.heap.size := by rw [add_block]; exact Nat.lt_of_lt_of_le hbb' hB.size
          go_wp2
          go_region
          all_goals
            go_wp2
            go_roundw
            case rel => exact ⟨q + 1, by omega, by go_num, hB.trans (Below.mono (show Below wr.heap.size wr _ by go_grown) hB.size)⟩
            case measure => simp [intOf]; omega
        · have hi2 : ¬ (q : Int) < (ws.length : Int) := by omega
          clear HE1 HE1' HC HC' HE HBE
          go_wp2
          go_roundw
          case rel => exact ⟨k + 1, by omega, by go_num, hB⟩
          case measure => simp [intOf]; omega
    · go_wp2
      go_ret
      exact ⟨rfl, hB⟩
end Go.Proofs.YtkmkhegekonbmaaDoor
