/- The functions of package label at the inputs of the chapter's examples. -/
import Derived.Test.YtnlioeheogkkiaaDoorLabelK
import Derived.Test.YtnlioeheogkkiaaDoorLabelI
namespace Go.Proofs.YtnlioeheogkkiaaDoor
open Go.RowKit Go.Shelf
open Lb

/-- The table of the library that package label reads lies where its initialiser laid it. -/
def Tabs (w : World) : Prop := 0 < w.heap.size ∧ TabAt 0 Lib.deBruijn64tab w
theorem Tabs.below {w w' : World} (h : Tabs w) (hb : Below w.heap.size w w') : Tabs w' :=
  ⟨Nat.lt_of_lt_of_le h.1 hb.size, tabAt_below h.2 hb h.1⟩
theorem Tabs.alloc {w : World} (h : Tabs w) (o : Obj) : Tabs (w.alloc o) := h.below ((Below.refl _ _).alloc (Nat.le_refl _) o)

theorem Slc.lit (w : World) (us : List Value) (t : TypeId) (n : Nat) (hn : us.length = n) (hm : n ≤ 1000000) : Slc (w.alloc (.cells us.toArray t)) (.slice (some ⟨w.heap.size, 0, none⟩) n n) us := by
  subst hn
  refine ⟨some ⟨w.heap.size, 0, none⟩, us.length, rfl, by unfold maxLen; omega, (fun h => by cases h), fun i hi => ⟨_, rfl, by simp, ?_⟩⟩
  have hg : (w.alloc (.cells us.toArray t)).heap[w.heap.size]? = some (.cells us.toArray t (0, 0)) := World.alloc_heap_new w _
  have e : (⟨w.heap.size, 0, none⟩ : Addr).add i = ⟨w.heap.size, i, none⟩ := by unfold Addr.add; split <;> simp_all
  rw [e, cell_of_row _ _ i us.toArray t (0, 0) hg]
  simp [hi]

theorem text_5 (w : World) (h : Tabs w) : Calls Tryd.prog 37 #[.int .u64 5] w fun e w' => e = .returned (.string { data := #[123, 48, 44, 50, 125] }) ∧ Below w.heap.size w w' := by
  have ht := text_any 5 w (by decide) h.1 h.2
  have e : strOf (textOf (cats 5)) = { data := #[123, 48, 44, 50, 125] } := by
    rw [show cats 5 = [0, 2] by decide]
    simp only [textOf, List.map_cons, List.map_nil, Lib.decDigits_one (show 0 < 10 by decide), Lib.decDigits_one (show 2 < 10 by decide)]
    decide
  rw [e] at ht
  exact ht
theorem text_0 (w : World) (h : Tabs w) : Calls Tryd.prog 37 #[.int .u64 0] w fun e w' => e = .returned (.string { data := #[123, 125] }) ∧ Below w.heap.size w w' := by
  have ht := text_any 0 w (by decide) h.1 h.2
  have e : strOf (textOf (cats 0)) = { data := #[123, 125] } := by
    rw [show cats 0 = [] by decide]
    decide
  rw [e] at ht
  exact ht
theorem least_12 (w : World) (h : Tabs w) : Calls Tryd.prog 16 #[.int .u64 12] w fun e w' => e = .returned (.tuple #[.int .i64 2, .int .i64 0]) ∧ Below w.heap.size w w' := by
  have ht := least_any 12 w (by decide) h.1 h.2
  rw [leastI_nat 12 (by decide), show cats 12 = [2, 3] by decide] at ht
  exact ht
theorem least_0 (w : World) (h : Tabs w) : Calls Tryd.prog 16 #[.int .u64 0] w fun e w' => e = .returned (.tuple #[.int .i64 0, .int .i64 2]) ∧ Below w.heap.size w w' := by
  have ht := least_any 0 w (by decide) h.1 h.2
  rw [leastI_nat 0 (by decide), show cats 0 = [] by decide] at ht
  exact ht
theorem list_5 (w : World) (h : Tabs w) : Calls Tryd.prog 19 #[.int .u64 5] w fun e w' => OutSlc w (vals .i64 [0, 2]) e w' := by
  have ht := list_any 5 w (by decide) h.1 h.2
  rw [show cats 5 = [0, 2] by decide] at ht
  exact ht
theorem bytes_258 (w : World) : Calls Tryd.prog 35 #[.int .u64 258] w fun e w' => e = .returned (.string { data := #[0, 0, 0, 0, 0, 0, 1, 2] }) ∧ Below w.heap.size w w' := by
  have ht := bytes_any 258 w
  rw [show strOf (bytesI 258) = { data := #[0, 0, 0, 0, 0, 0, 1, 2] } by decide +kernel] at ht
  exact ht
theorem of8_258 (w : World) : Calls Tryd.prog 29 #[.string { data := #[0, 0, 0, 0, 0, 0, 1, 2] }] w fun e w' => e = .returned (.tuple #[.int .u64 258, .int .i64 0]) ∧ w = w' := by
  have ht := of8_any { data := #[0, 0, 0, 0, 0, 0, 1, 2] } w (by decide)
  rw [show of8I [0, 0, 0, 0, 0, 0, 1, 2] = (258, 0) by decide +kernel] at ht
  exact ht
theorem of8_7 (w : World) : Calls Tryd.prog 29 #[.string { data := #[49, 50, 51, 52, 53, 54, 55] }] w fun e w' => e = .returned (.tuple #[.int .u64 0, .int .i64 3]) ∧ w = w' := by
  have ht := of8_any { data := #[49, 50, 51, 52, 53, 54, 55] } w (by decide)
  rw [show of8I [49, 50, 51, 52, 53, 54, 55] = (0, 3) by decide +kernel] at ht
  exact ht
theorem parse_02 (w : World) : Calls Tryd.prog 39 #[.string { data := #[123, 48, 44, 50, 125] }] w fun e w' => e = .returned (.tuple #[.int .u64 5, .agg #[.int .i64 0, .int .i64 0]]) ∧ Below w.heap.size w w' := by
  have ht := parse_any { data := #[123, 48, 44, 50, 125] } w (by decide)
  rw [show parseI { data := #[123, 48, 44, 50, 125] } = (5, 0, 0) by decide +kernel] at ht
  exact ht
theorem parse_none (w : World) : Calls Tryd.prog 39 #[.string { data := #[123, 125] }] w fun e w' => e = .returned (.tuple #[.int .u64 0, .agg #[.int .i64 0, .int .i64 0]]) ∧ Below w.heap.size w w' := by
  have ht := parse_any { data := #[123, 125] } w (by decide)
  rw [show parseI { data := #[123, 125] } = (0, 0, 0) by decide +kernel] at ht
  exact ht
theorem read_1x (w : World) : Calls Tryd.prog 41 #[.string { data := #[123, 49, 125, 120] }] w fun e w' => e = .returned (.tuple #[.int .u64 2, .int .i64 3, .agg #[.int .i64 0, .int .i64 0]]) ∧ Below w.heap.size w w' := by
  have ht := read_any { data := #[123, 49, 125, 120] } w (by decide)
  rw [show readI { data := #[123, 49, 125, 120] } = (2, 3, 0, 0) by decide +kernel] at ht
  exact ht
theorem count_5 (w : World) : Calls Tryd.prog 21 #[.int .u64 5] w fun e w' => e = .returned (.int .i64 2) ∧ w = w' := by
  go_enter Tryd.func21, Tryd.ntmps21
  go_wp2
  go_ret
  exact ⟨ret_int (by decide +kernel), rfl⟩
end Go.Proofs.YtnlioeheogkkiaaDoor
