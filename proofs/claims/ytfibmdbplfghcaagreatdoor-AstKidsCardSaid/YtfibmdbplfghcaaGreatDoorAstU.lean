/- Walks: the law's example; which queries are small. -/
import Derived.Test.YtfibmdbplfghcaaGreatDoorAstT
namespace Go.Proofs.YtfibmdbplfghcaaGreatDoor
open Go.RowKit Go.Shelf
open A8 Tk7 Lb

set_option maxRecDepth 100000 in
theorem letter_any (k : Int) (w : World) : Calls Tryz.prog 33 #[.int .i64 k] w fun e w' => e = .returned (.agg #[.int .i64 1, .int .i64 1, .int .i64 1, .int .i64 k, .bool false, .int .u64 0, .slice none 0 0, .string ⟨#[]⟩, .slice none 0 0]) ∧ Below w.heap.size w w' := by
  go_enter Tryz.func33, Tryz.ntmps33
  go_wp2
  refine bodyPost_ret (by simp [results, Tryz.results33, go_sem]; try rfl) rfl ?_
  exact ⟨rfl, b1 _ _⟩
/-- The law's own query. -/
def gqA : GQ := ⟨.mk 1 1 1 ga0 (.slice none 0 0) [], 5, .slice none 0 0, [], .slice none 0 0, []⟩
theorem qw_A (w : World) : QW w gqA := by
  refine ⟨fun t ht => ?_, by decide, Sl.nil w 4, Sl.nil w 2, (fun h hh => by cases hh), (fun a ha => by cases ha)⟩
  have : t = .mk 1 1 1 ga0 (.slice none 0 0) [] := by
    have h : t ∈ [Tr.mk 1 1 1 ga0 (.slice none 0 0) []] := ht
    simpa using h
  subst this
  exact ⟨by unfold okV; decide, one0 w, Sl.nil w 9⟩
theorem print_A : printS gqA.qu = [65, 32, 119, 105, 116, 104, 105, 110, 32, 53] ∧ printE gqA.qu = 0 ∧ (queryT gqA.qu).length ≤ 1000000 := by decide +kernel
set_option maxRecDepth 100000 in
set_option maxHeartbeats 2000000 in
theorem awake_any (w : World) (hL : Lay w) : Calls Tryz.prog 9 #[] w fun e w' => e = .returned (.bool true) ∧ Below w.heap.size w w' := by
  have hp := fun w1 (hb : Below w.heap.size w w1) => print_any gqA w1 (hL.later hb) (qw_A w1) (by decide) print_A.2.2
  rw [print_A.1, print_A.2.1] at hp
  have hs : strOf [65, 32, 119, 105, 116, 104, 105, 110, 32, 53] = ⟨#[65, 32, 119, 105, 116, 104, 105, 110, 32, 53]⟩ := rfl
  rw [hs] at hp
  have hr : gqA.row.toArray = #[.int .i64 1, .int .i64 1, .int .i64 1, .int .i64 0, .bool false, .int .u64 0, .slice none 0 0, .string ⟨#[]⟩, .slice none 0 0, .int .u64 5, .slice none 0 0, .slice none 0 0] := rfl
  rw [hr] at hp
  clear hr hs hL
  go_enter Tryz.func9, Tryz.ntmps9
  go_wp2_with (first | (go_at_call 33; refine (letter_any 0 _).mono ?_; rintro e w2 ⟨rfl, hb2⟩) | (go_at_call 10; refine (hp _ hb2).mono ?_; rintro e w3 ⟨rfl, hb3⟩))
  go_ret
  exact ⟨rfl, bstep hb2 hb3⟩
end Go.Proofs.YtfibmdbplfghcaaGreatDoor
