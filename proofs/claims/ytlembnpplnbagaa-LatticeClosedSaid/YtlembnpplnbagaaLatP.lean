/- slices.Sort, slices.Sorted at []uint64, and the program's list of a set's labels: given that rows of up to K are sorted; and rows of up to 12 are. -/
import Derived.Sort.Grow
import Derived.Test.YtlembnpplnbagaaLatO
import Derived.Test.YtlembnpplnbagaaShelf
namespace Go.Proofs.Ytlembnpplnbagaa.Lt
open Go.RowKit Go.Sort

/-- As Rw; and new blocks may lie behind. -/
def Rg (w0 : World) (b o : Nat) (d : Array Int) (w : World) : Prop := ∃ n os, w = grow (putRow (Value.int .u64) (Sort.ahead w0 n) b o d) os
theorem Rw.grown {w0 w : World} {b o : Nat} {d : Array Int} (h : Rw w0 b o d w) : Rg w0 b o d w := by
  obtain ⟨n, rfl⟩ := h
  exact ⟨n, #[], (grow_empty _).symm⟩

/-- slices.Sort sorts each row of at most K. -/
def Sorts (K : Nat) : Prop := ∀ (b o c : Nat) (d : Array Int) (w : World), Holds (Value.int .u64) w b o d → b < w.heap.size → d.size ≤ K →
  Calls Try.prog 35 #[.slice (some ⟨b, o, none⟩) d.size c] w fun e w' => e = .returned (.tuple #[]) ∧ ∃ d', PermIn 0 d.size d d' ∧ SortedIn ltInt 0 d.size d' ∧ Rg w b o d' w'

theorem swoI : SWO ltInt where
  irrefl x := by simp [ltInt]
  trans x y z h1 h2 := by simp [ltInt] at *; omega
  ntrans x y z h1 h2 := by simp [ltInt] at *; omega

theorem insertionSort_none (c : Nat) (p : Option Addr) (w : World) :
    Calls Try.prog 40 #[.slice p 0 c, .int .i64 0, .int .i64 0] w fun e w' => e = .returned (.tuple #[]) ∧ w' = w := by
  go_enter Try.func40, Try.ntmps40
  go_wp2
  refine wp_loop_rounds 1 ?_
  rw [rounds_succ]
  go_wp2
  go_end0
  exact ⟨rfl, rfl⟩
theorem pdq_none (c : Nat) (p : Option Addr) (l : Int) (w : World) :
    Calls Try.prog 38 #[.slice p 0 c, .int .i64 0, .int .i64 0, .int .i64 l] w fun e w' => e = .returned (.tuple #[]) ∧ w' = w := by
  go_enter Try.func38, Try.ntmps38
  go_wp2
  refine wp_loop_rounds 1 ?_
  rw [rounds_succ]
  go_wp2_with (go_at_call 40; refine (insertionSort_none _ _ _).mono ?_; rintro e w' ⟨rfl, rfl⟩)
  (try simp only [Exit.inBlock, Exit.then])
  refine bodyPost_ret (results_none rfl _ _ _) rfl ?_
  exact ⟨rfl, rfl⟩
theorem sort_none (c : Nat) (p : Option Addr) (w : World) : Calls Try.prog 35 #[.slice p 0 c] w fun e w' => e = .returned (.tuple #[]) ∧ w' = w := by
  have hL := Try.bits_Len 0 w (by decide) (by decide)
  obtain ⟨m, hm⟩ : ∃ m : Int, m = (Lib.bitLen (0 : Int).toNat : Nat) := ⟨_, rfl⟩
  rw [← hm] at hL
  clear hm
  go_enter Try.func35, Try.ntmps35
  go_wp2_with (first | (go_at_call 39; refine hL.mono ?_; rintro e w' ⟨rfl, rfl⟩) | (go_at_call 38; refine (pdq_none _ _ _ _).mono ?_; rintro e w' ⟨rfl, rfl⟩))
  go_end0
  exact ⟨rfl, rfl⟩

theorem pdq_few (b o c : Nat) (d : Array Int) (l : Int) (w : World) (hH : Holds (Value.int .u64) w b o d) (hz : d.size ≤ 12) :
    Calls Try.prog 38 #[.slice (some ⟨b, o, none⟩) d.size c, .int .i64 0, .int .i64 (d.size : Int), .int .i64 l] w fun e w' =>
      e = .returned (.tuple #[]) ∧ Rw w b o (insertionSort ltInt d 0 d.size) w' := by
  have hI := insertionSort_any b o c 0 d.size d w hH (Nat.zero_le _) (Nat.le_refl _) (by omega)
  have h12 : (d.size : Int) ≤ 12 := by omega
  clear hH
  go_enter Try.func38, Try.ntmps38
  go_wp2
  refine wp_loop_rounds 1 ?_
  rw [rounds_succ]
  go_wp2_with (go_at_call 40; refine hI.mono ?_; rintro e w' ⟨rfl, hr⟩)
  (try simp only [Exit.inBlock, Exit.then])
  refine bodyPost_ret (results_none rfl _ _ _) rfl ?_
  exact ⟨rfl, hr⟩
theorem sorts_12 : Sorts 12 := by
  intro b o c d w hH hb hz
  have hp := fun l => pdq_few b o c d l w hH hz
  have hL := Try.bits_Len (d.size : Int) w (by omega) (by omega)
  obtain ⟨m, hm⟩ : ∃ m : Int, m = (Lib.bitLen (d.size : Int).toNat : Nat) := ⟨_, rfl⟩
  rw [← hm] at hL
  have hw : IntKind.u64.wrap (d.size : Int) = d.size := by simp [IntKind.wrap, IntKind.bits, IntKind.signed]; omega
  have hS := insertionSort_holds swoI d 0 d.size (Nat.zero_le _) (Nat.le_refl _)
  have HS := Lib.hid hS
  clear hm hH hS
  go_enter Try.func35, Try.ntmps35
  go_wp2_with (first | (go_at_call 39; refine hL.mono ?_; rintro e w' ⟨rfl, rfl⟩) | (go_at_call 38; refine (hp _).mono ?_; rintro e w' ⟨rfl, hr⟩))
  go_end0
  exact ⟨rfl, _, HS.out.1, HS.out.2, hr.grown⟩
end Go.Proofs.Ytlembnpplnbagaa.Lt
