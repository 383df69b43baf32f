/- The library's insertion sort at []uint64, and what a walk over a row that is sorted in place wants. -/
import Derived.Sort.WalkA
import Derived.Sort.LotA
import Derived.Test.YtlembnpplnbagaaLatN
namespace Go.Proofs.Ytlembnpplnbagaa.Lt
open Go.RowKit Go.Sort

theorem isNaN_any (x : Int) (w : World) : Calls Try.prog 56 #[.int .u64 x] w fun e w' => e = .returned (.bool false) ∧ w' = w := by
  go_enter Try.func56, Try.ntmps56
  go_wp2
  go_ret
  exact ⟨by simp, rfl⟩
theorem less_any (x y : Int) (w : World) : Calls Try.prog 46 #[.int .u64 x, .int .u64 y] w fun e w' => e = .returned (.bool (ltInt x y)) ∧ w' = w := by
  go_enter Try.func46, Try.ntmps46
  go_wp2_with (go_at_call 56; refine (isNaN_any _ _).mono ?_; rintro e w' ⟨rfl, rfl⟩)
  go_ret
  exact ⟨rfl, rfl⟩

/-- The row at (b, o) of w0 holds d instead; beside it only the draws have gone on. -/
def Rw (w0 : World) (b o : Nat) (d : Array Int) (w : World) : Prop := ∃ n, w = putRow (Value.int .u64) (Sort.ahead w0 n) b o d
section
variable {w0 w : World} {b o : Nat} {d0 d : Array Int}
theorem Rw.start (h : Holds (Value.int .u64) w0 b o d) : Rw w0 b o d w0 := ⟨0, (putRow_self _ _ _ _ _ h).symm⟩
theorem Rw.drew (h : Rw w0 b o d w) (q : Nat) : Rw w0 b o d (w.drewN q) := by
  obtain ⟨n, rfl⟩ := h
  exact ⟨n + q, putRow_drewN _ _ _ _ _ _ _⟩
theorem Rw.at (h : Rw w0 b o d w) (hH : Holds (Value.int .u64) w0 b o d0) (hs : d.size = d0.size) (t : Nat) (ht : t < d0.size) : w.cell? ⟨b, o + t, none⟩ = some (.int .u64 d[t]!) ∧ w.frozen? ⟨b, o + t, none⟩ = false := by
  obtain ⟨n, rfl⟩ := h
  have hA := holds_ahead _ w0 n b o _ hH
  exact ⟨cell?_putRow _ _ _ _ d0 d hA hs t (by omega), by rw [frozen?_putRow]; exact (hA t ht).2⟩
theorem Rw.swap (h : Rw w0 b o d w) (q i j : Nat) (hi : i < d.size) (hj : j < d.size) :
    Rw w0 b o (swp d i j) (((w.drewN q).setCell ⟨b, o + i, none⟩ (.int .u64 d[j]!)).setCell ⟨b, o + j, none⟩ (.int .u64 d[i]!)) := by
  obtain ⟨n, rfl⟩ := h
  exact ⟨n + q, swap_worldA (Value.int .u64) w0 n q b o d i j hi hj⟩
end

set_option maxHeartbeats 1000000 in
theorem insertionSort_any (b o c x y : Nat) (d : Array Int) (w : World) (hH : Holds (Value.int .u64) w b o d) (hxy : x ≤ y) (hy : y ≤ d.size) (hz : d.size < 4611686018427387904) :
    Calls Try.prog 40 #[.slice (some ⟨b, o, none⟩) d.size c, .int .i64 (x : Int), .int .i64 (y : Int)] w fun e w' =>
      e = .returned (.tuple #[]) ∧ Rw w b o (insertionSort ltInt d x y) w' := by
  go_enter Try.func40, Try.ntmps40
  go_wp2
  go_loopw [6] (fun vi wr => ∃ (i : Nat) (di : Array Int), vi = .int .i64 (i : Int) ∧ x < i ∧ i ≤ y + 1 ∧ di.size = d.size ∧ Rw w b o di wr ∧ insOuter ltInt x y i di = insOuter ltInt x y (x + 1) d) (fun vi _ => y + 1 - (intOf vi).toNat)
  case atStart => exact ⟨x + 1, d, by go_num, by omega, by omega, rfl, Rw.start hH, rfl⟩
  case round =>
    obtain ⟨i, di, rfl, hi1, hi2, hsi, hR, hO'⟩ := hrel
    have hO := Lib.hid hO'
    clear hO'
    by_cases hlt : i < y
    · have hltz : (i : Int) < (y : Int) := by omega
      have HR := Lib.hid hR
      clear hR
      go_wp2
      go_loopw [7] (fun vj wr2 => ∃ (j : Nat) (dj : Array Int), vj = .int .i64 (j : Int) ∧ x ≤ j ∧ j ≤ i ∧ dj.size = d.size ∧ Rw w b o dj wr2 ∧ insInner ltInt x j dj = insInner ltInt x i di) (fun vj _ => (intOf vj).toNat)
      case atStart => exact ⟨i, di, rfl, by omega, Nat.le_refl _, hsi, HR.out, rfl⟩
      case round =>
        clear HR
        obtain ⟨j, dj, rfl, hj1, hj2, hsj, hRj, hI'⟩ := hrel
        have hI := Lib.hid hI'
        clear hI'
        have HJ := Lib.hid hRj
        obtain ⟨G, hG⟩ : ∃ G : Nat → Int, ∀ t, G t = dj[t]! := ⟨fun t => dj[t]!, fun _ => rfl⟩
        have hcell : ∀ t, t < d.size → wr.cell? ⟨b, o + t, none⟩ = some (.int .u64 (G t)) := fun t ht => by rw [hG]; exact (hRj.at hH hsj t ht).1
        have hfro : ∀ t, t < d.size → wr.frozen? ⟨b, o + t, none⟩ = false := fun t ht => (hRj.at hH hsj t ht).2
        have HG := Lib.hid hG
        clear hRj hG
        have ends : (j ≤ x ∨ ltInt dj[j]! dj[j - 1]! = false) → insOuter ltInt x y (i + 1) dj = insOuter ltInt x y (x + 1) d := fun h => by
          rw [← hO.out, insOuter_go ltInt x y i di hlt, ← hI.out, insInner_stop ltInt x j dj h]
        have ENDS := Lib.hid ends
        clear ends
        by_cases hxj : x < j
        · have hxjz : (x : Int) < (j : Int) := by omega
          go_wp2
          go_quiet (first | (go_at_call 46; refine Calls.quiet_of_same (less_any _ _ _)))
          cases hl : ltInt (G j) (G (j - 1))
          · go_wp2
            go_roundw
            case rel => exact ⟨i + 1, dj, by go_num, by omega, by omega, hsj, HJ.out.drew _, ENDS.out (.inr (by rw [← HG.out, ← HG.out]; exact hl))⟩
            case measure => simp [intOf]; omega
          · go_wp2
            go_region
            all_goals go_wp2
            go_roundw
            case rel =>
              refine ⟨j - 1, swp dj j (j - 1), by congr 1; omega, by omega, by omega, by rw [size_swp]; exact hsj, ?_, ?_⟩
              · rw [HG.out, HG.out]
                exact HJ.out.swap _ j (j - 1) (by omega) (by omega)
              · rw [← hI.out, insInner_go ltInt x j dj hxj (by rw [← HG.out, ← HG.out]; exact hl)]
            case measure => simp [intOf]; omega
        · have hxjz : ¬ (x : Int) < (j : Int) := by omega
          go_wp2
          go_quiet (first | (go_at_call 46; refine Calls.quiet_of_same (less_any _ _ _)))
          go_wp2
          go_roundw
          case rel => exact ⟨i + 1, dj, by go_num, by omega, by omega, hsj, HJ.out.drew _, ENDS.out (.inl (by omega))⟩
          case measure => simp [intOf]; omega
    · have hltz : ¬ (i : Int) < (y : Int) := by omega
      go_wp2
      go_end0
      exact ⟨rfl, by unfold insertionSort; rw [← hO.out, insOuter_stop ltInt x y i di hlt]; exact hR⟩
end Go.Proofs.Ytlembnpplnbagaa.Lt
