/- The library's sort at []uint64, first part: reverseRange, siftDown, heapSort. -/
import Derived.Sort.WalkB12
import Derived.Sort.WalkB2
import Derived.Sort.WalkB3
import Derived.Sort.Walk13a
import Derived.Test.YtlembnpplnbagaaLatO
namespace Go.Proofs.Ytlembnpplnbagaa.Lt
open Go.RowKit Go.Sort

/-- The row at (b, o) holds d, as a family of cells. -/
theorem fam {w0 w : World} {b o : Nat} {d0 d : Array Int} (h : Rw w0 b o d w) (hH : Holds (Value.int .u64) w0 b o d0) (hs : d.size = d0.size) :
    ∃ G : Nat → Int, (∀ t, G t = d[t]!) ∧ (∀ t, t < d0.size → w.cell? ⟨b, o + t, none⟩ = some (.int .u64 (G t))) ∧ (∀ t, t < d0.size → w.frozen? ⟨b, o + t, none⟩ = false) :=
  ⟨fun t => d[t]!, fun _ => rfl, fun t ht => (h.at hH hs t ht).1, fun t ht => (h.at hH hs t ht).2⟩

theorem rev_go {i j : Nat} (d : Array Int) (h : i < j) : reverseLoop i j d = reverseLoop (i + 1) (j - 1) (swp d i j) := by rw [reverseLoop, if_pos h]
theorem rev_stop {i j : Nat} (d : Array Int) (h : ¬ i < j) : reverseLoop i j d = d := by rw [reverseLoop, if_neg h]
set_option maxHeartbeats 2000000 in
theorem reverse_any (b o c x y : Nat) (d : Array Int) (w : World) (hH : Holds (Value.int .u64) w b o d) (hxy : x < y) (hy : y ≤ d.size) (hz : d.size < 4611686018427387904) :
    Calls Try.prog 44 #[.slice (some ⟨b, o, none⟩) d.size c, .int .i64 (x : Int), .int .i64 (y : Int)] w fun e w' =>
      e = .returned (.tuple #[]) ∧ Rw w b o (reverseRange d x y) w' := by
  go_enter Try.func44, Try.ntmps44
  go_wp2
  go_loopw [6, 7] (fun vi vj wr => ∃ (i j : Nat) (di : Array Int), vi = .int .i64 (i : Int) ∧ vj = .int .i64 (j : Int) ∧ i ≤ y ∧ j < y ∧ di.size = d.size ∧ Rw w b o di wr ∧ Hid (reverseLoop i j di = reverseRange d x y)) (fun vi vj _ => y + (intOf vj).toNat - (intOf vi).toNat)
  case atStart => exact ⟨x, y - 1, d, rfl, by congr 1; omega, by omega, by omega, rfl, Rw.start hH, rfl⟩
  case round =>
    obtain ⟨i, j, di, rfl, rfl, hi, hj, hsi, hR, hO⟩ := hrel
    by_cases hlt : i < j
    · have c1 : (i : Int) < (j : Int) := by omega
      have c2 : (i : Int) < (d.size : Int) := by omega
      have c3 : (j : Int) < (d.size : Int) := by omega
      obtain ⟨G, hG, hcell, hfro⟩ := fam hR hH hsi
      have HG := Lib.hid hG
      have HR := Lib.hid hR
      clear hR hG
      go_wp2
      go_region
      all_goals go_wp2
      go_roundw
      case rel =>
        refine ⟨i + 1, j - 1, swp di i j, by go_num, by congr 1; omega, by omega, by omega, by rw [size_swp]; exact hsi, ?_, ?_⟩
        · rw [HG.out, HG.out]
          exact HR.out.swap _ i j (by omega) (by omega)
        · show _ = _
          rw [← hO.out, rev_go di hlt]
      case measure => simp [intOf]; omega
    · have c1 : ¬ (i : Int) < (j : Int) := by omega
      go_wp2
      go_end0
      exact ⟨rfl, by rw [← hO.out, rev_stop di hlt]; exact hR⟩
end Go.Proofs.Ytlembnpplnbagaa.Lt
