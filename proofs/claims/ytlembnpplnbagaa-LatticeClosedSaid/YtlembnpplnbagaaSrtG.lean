/- The library's sort at []uint64: order2, median, medianAdjacent: which place they tell, never mind why. -/
import Derived.Sort.WalkD1
import Derived.Sort.AtCall
import Derived.Sort.Grow
import Derived.Test.YtlembnpplnbagaaSrtD
namespace Go.Proofs.Ytlembnpplnbagaa.Lt
open Go.RowKit Go.Sort

/-- w0 with draws gone on and one new block, whose first cell is S. -/
def Cw (w0 : World) (S : Nat) (w : World) : Prop := ∃ n os, os.size = 1 ∧ w = grow (Sort.ahead w0 n) os ∧ Holds (Value.int .i64) w w0.heap.size 0 (one S)
section
variable {w0 w : World} {S : Nat}
theorem Cw.cell (h : Cw w0 S w) : w.cell? ⟨w0.heap.size, 0, none⟩ = some (.int .i64 (S : Int)) ∧ w.frozen? ⟨w0.heap.size, 0, none⟩ = false := by
  obtain ⟨_, _, _, _, hh⟩ := h
  exact one_cell hh
theorem Cw.drew (h : Cw w0 S w) (q : Nat) : Cw w0 S (w.drewN q) := by
  obtain ⟨n, os, h1, rfl, hh⟩ := h
  exact ⟨n + q, os, h1, by rw [show (grow (Sort.ahead w0 n) os).drewN q = grow ((Sort.ahead w0 n).drewN q) os from rfl]; congr 1; exact World.drewN_drewN _ _ _, holds_ahead _ _ q _ _ _ hh⟩
theorem Cw.set (h : Cw w0 S w) (T : Nat) : Cw w0 T (w.setCell ⟨w0.heap.size, 0, none⟩ (.int .i64 (T : Int))) := by
  obtain ⟨n, os, h1, rfl, hh⟩ := h
  obtain ⟨os', h2, h3⟩ := putRow_grow_new (Value.int .i64) (Sort.ahead w0 n) os w0.heap.size 0 (one T) (Nat.le_refl _)
  refine ⟨n, os', h2.trans h1, by rw [one_set hh T, h3], ?_⟩
  rw [one_set hh T]
  exact holds_putRow _ _ _ _ (one S) (one T) hh rfl
theorem Cw.row {b o : Nat} {d : Array Int} (h : Cw w0 S w) (hH : Holds (Value.int .u64) w0 b o d) (hb : b < w0.heap.size) : Holds (Value.int .u64) w b o d := by
  obtain ⟨n, os, _, rfl, _⟩ := h
  exact holds_grow _ _ _ _ _ _ hb (holds_ahead _ _ n _ _ _ hH)
theorem Cw.grown (h : Cw w0 S w) : ∃ n os, w = grow (Sort.ahead w0 n) os := by
  obtain ⟨n, os, _, rfl, _⟩ := h
  exact ⟨n, os, rfl⟩
end

set_option maxHeartbeats 1000000 in
theorem order2_any (b o c x y S : Nat) (d : Array Int) (w0 w : World) (hC : Cw w0 S w) (hH : Holds (Value.int .u64) w0 b o d) (hb : b < w0.heap.size) (hx : x < d.size) (hy : y < d.size) (hS : S < 1000) :
    Calls Try.prog 57 #[.slice (some ⟨b, o, none⟩) d.size c, .int .i64 (x : Int), .int .i64 (y : Int), .pointer (some ⟨w0.heap.size, 0, none⟩)] w fun e w' =>
      ∃ x' y' S' : Nat, e = .returned (.tuple #[.int .i64 (x' : Int), .int .i64 (y' : Int)]) ∧ (x' = x ∧ y' = y ∨ x' = y ∧ y' = x) ∧ S' ≤ S + 1 ∧ Cw w0 S' w' := by
  obtain ⟨ce, fr⟩ := hC.cell
  have hR := hC.row hH hb
  obtain ⟨G, hG⟩ : ∃ G : Nat → Int, ∀ t, G t = d[t]! := ⟨fun t => d[t]!, fun _ => rfl⟩
  have cx : w.cell? ⟨b, o + x, none⟩ = some (.int .u64 (G x)) := by rw [hG]; exact (hR x hx).1
  have cy : w.cell? ⟨b, o + y, none⟩ = some (.int .u64 (G y)) := by rw [hG]; exact (hR y hy).1
  have zx : (x : Int) < (d.size : Int) := by omega
  have zy : (y : Int) < (d.size : Int) := by omega
  have HC := Lib.hid hC
  clear hC hH hR hG
  go_enter Try.func57, Try.ntmps57
  go_wp2
  go_quiet (first | (go_at_call 46; refine Calls.quiet_of_same (less_any _ _ _)))
  go_wp2
  · go_ret2
    exact ⟨y, x, S + 1, rfl, Or.inr ⟨rfl, rfl⟩, by omega, (HC.out.drew _).set (S + 1)⟩
  · go_ret2
    exact ⟨x, y, S, rfl, Or.inl ⟨rfl, rfl⟩, by omega, HC.out.drew _⟩

set_option maxHeartbeats 1000000 in
set_option maxRecDepth 100000 in
theorem median_any (b o c x y z S : Nat) (d : Array Int) (w0 w : World) (hC : Cw w0 S w) (hH : Holds (Value.int .u64) w0 b o d) (hb : b < w0.heap.size) (hx : x < d.size) (hy : y < d.size) (hz : z < d.size) (hS : S < 100) :
    Calls Try.prog 55 #[.slice (some ⟨b, o, none⟩) d.size c, .int .i64 (x : Int), .int .i64 (y : Int), .int .i64 (z : Int), .pointer (some ⟨w0.heap.size, 0, none⟩)] w fun e w' =>
      ∃ p S' : Nat, e = .returned (.int .i64 (p : Int)) ∧ (p = x ∨ p = y ∨ p = z) ∧ S' ≤ S + 3 ∧ Cw w0 S' w' := by
  have HH := Lib.hid hH
  have HC := Lib.hid hC
  clear hH hC
  go_enter Try.func55, Try.ntmps55
  go_wp2_with (go_at_call_of 57 (Value.int .i64 (y : Int)); with_reducible refine (order2_any b o c x y S d w0 w HC.out HH.out hb hx hy (by omega)).mono ?_; rintro e w1 ⟨x1, y1, S1, rfl, h1, hS1, hC1⟩)
  go_wp2_with (go_at_call_of 57 (Value.int .i64 (z : Int)); with_reducible refine (order2_any b o c y1 z S1 d w0 w1 hC1 HH.out hb (by omega) hz (by omega)).mono ?_; rintro e w2 ⟨y2, z2, S2, rfl, h2, hS2, hC2⟩)
  go_wp2_with (go_at_call_of 57 (Value.int .i64 (y2 : Int)); with_reducible refine (order2_any b o c x1 y2 S2 d w0 w2 hC2 HH.out hb (by omega) (by omega) (by omega)).mono ?_; rintro e w3 ⟨x3, y3, S3, rfl, h3, hS3, hC3⟩)
  go_ret
  exact ⟨y3, S3, rfl, by omega, by omega, hC3⟩

set_option maxHeartbeats 1000000 in
theorem medianAdjacent_any (b o c x S : Nat) (d : Array Int) (w0 w : World) (hC : Cw w0 S w) (hH : Holds (Value.int .u64) w0 b o d) (hb : b < w0.heap.size) (hx0 : 1 ≤ x) (hx : x + 1 < d.size) (hz : d.size < 2305843009213693952) (hS : S < 100) :
    Calls Try.prog 54 #[.slice (some ⟨b, o, none⟩) d.size c, .int .i64 (x : Int), .pointer (some ⟨w0.heap.size, 0, none⟩)] w fun e w' =>
      ∃ p S' : Nat, e = .returned (.int .i64 (p : Int)) ∧ x - 1 ≤ p ∧ p ≤ x + 1 ∧ S' ≤ S + 3 ∧ Cw w0 S' w' := by
  have hm := median_any b o c (x - 1) x (x + 1) S d w0 w hC hH hb (by omega) (by omega) hx hS
  rw [show ((x - 1 : Nat) : Int) = (x : Int) - 1 by omega, show ((x + 1 : Nat) : Int) = (x : Int) + 1 by omega] at hm
  have HM := Lib.hid hm
  clear hm hC hH
  go_enter Try.func54, Try.ntmps54
  go_wp2_with (go_at_call 55; refine HM.out.mono ?_; rintro e w1 ⟨p, S', rfl, hp, hS', hC'⟩)
  go_ret
  exact ⟨p, S', rfl, by omega, by omega, hS', hC'⟩
end Go.Proofs.Ytlembnpplnbagaa.Lt
