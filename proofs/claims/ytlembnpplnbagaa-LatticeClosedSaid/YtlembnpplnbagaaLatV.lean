/- Walk: the examples that each statement about families asks at its end. -/
import Derived.Test.YtlembnpplnbagaaLatS
import Derived.Test.YtlembnpplnbagaaLatT
import Derived.Test.YtlembnpplnbagaaLatE
namespace Go.Proofs.Ytlembnpplnbagaa.Lt
open Go.RowKit

theorem clGo_few {l : List Nat} (hl : l.length ≤ 3) : ∀ k r, k ≤ l.length → clGo [] (l.take k) = some r → r.length ≤ 12 := by
  intro k r hk h
  have hlen : (l.take k).length = k := by rw [List.length_take]; omega
  have h2 : 2 ^ k ≤ 2 ^ 3 := Nat.pow_le_pow_right (by decide) (by omega)
  obtain ⟨r', h3, h4⟩ := clGo_short (l.take k) [] (by rw [hlen]; simp; omega)
  rw [h] at h3
  cases h3
  rw [hlen] at h4
  simp at h4
  omega
theorem closure_few {w : World} {v : Value} {l : List Nat} {us : List Nat} {c : Int} (h : Slc w v (lv l)) (hu : U64 l) (hl : l.length ≤ 3) (hc : closureR l = (us, c)) :
    Calls Try.prog 15 #[v] w fun e w' => Out2 w (lv us) c e w' := by
  have h1 := closure_any sorts_12 h hu (clGo_few hl)
  rw [hc] at h1
  exact h1
theorem lit (w : World) (l : List Nat) (n : Nat) (hn : l.length = n) (hm : n ≤ 1000) : Slc (w.alloc (.cells (lv l).toArray 23)) (.slice (some ⟨w.heap.size, 0, none⟩) n n) (lv l) :=
  Slc.lit w (lv l) 23 n (by rw [lv_length]; exact hn) (by omega)
theorem u64_small {l : List Nat} (h : l.all (fun x => decide (x < 1000)) = true) : U64 l := fun x hx => by
  have := List.all_eq_true.1 h x hx
  simp at this
  omega
theorem awake_any (w : World) : Calls Try.prog 6 #[] w fun e w' => e = .returned (.bool true) ∧ Below w.heap.size w w' := by
  have hJ := fun w => join_all (lit w [1, 6] 2 rfl (by decide)) (u64_small (by decide))
  have e1 : joinR [1, 6] = (7, 0) := by decide
  have hC := fun w => closure_few (lit w [1, 2] 2 rfl (by decide)) (u64_small (by decide)) (by decide) (show closureR [1, 2] = ([1, 2, 3], 0) by decide)
  rw [e1] at hJ
  have HJ : ∀ w : World, Calls Try.prog 8 #[.slice (some ⟨w.heap.size, 0, none⟩) 2 2] (w.alloc (.cells #[.int .u64 1, .int .u64 6] 23)) fun e w' => e = .returned (.tuple #[.int .u64 7, .int .i64 0]) ∧ Below w.heap.size w w' := fun w => (hJ w).mono fun e w' ⟨h1, h2⟩ => ⟨h1, bstep ((Below.refl _ w).alloc (Nat.le_refl _) _) h2⟩
  have HC : ∀ w : World, Calls Try.prog 15 #[.slice (some ⟨w.heap.size, 0, none⟩) 2 2] (w.alloc (.cells #[.int .u64 1, .int .u64 2] 23)) fun e w' => ∃ v, e = .returned (.tuple #[v, .int .i64 0]) ∧ Slc w' v (lv [1, 2, 3]) ∧ Below w.heap.size w w' := fun w => (hC w).mono fun e w' ⟨v, h1, h2, h3⟩ => ⟨v, h1, h2, bstep ((Below.refl _ w).alloc (Nat.le_refl _) _) h3⟩
  have HS : ∀ (w : World) (v : Value), Slc w v (lv [1, 2, 3]) → Calls Try.prog 14 #[v, .slice (some ⟨w.heap.size, 0, none⟩) 3 3] (w.alloc (.cells #[.int .u64 1, .int .u64 2, .int .u64 3] 23)) fun e w' => e = .returned (.bool true) ∧ Below w.heap.size w w' := fun w v hv =>
    (same_any v _ [1, 2, 3] [1, 2, 3] _ (hv.alloc _) (lit w [1, 2, 3] 3 rfl (by decide))).mono fun e w' ⟨h1, n, h2⟩ => ⟨h1, by rw [h2]; exact below_drewN ((Below.refl _ w).alloc (Nat.le_refl _) _) n⟩
  clear hJ hC e1
  go_enter Try.func6, Try.ntmps6
  go_wp2_with (first
    | (go_at_call 8; refine (HJ _).mono ?_; rintro e w1 ⟨rfl, hb1⟩)
    | (go_at_call 15; refine (HC _).mono ?_; rintro e w2 ⟨v, rfl, hv, hb2⟩)
    | (go_at_call 14; refine (HS _ _ hv).mono ?_; rintro e w3 ⟨rfl, hb3⟩))
  go_ret
  exact ⟨rfl, bstep (bstep hb1 hb2) hb3⟩
end Go.Proofs.Ytlembnpplnbagaa.Lt
