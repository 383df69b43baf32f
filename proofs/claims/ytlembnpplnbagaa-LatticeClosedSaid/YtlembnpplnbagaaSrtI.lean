/- The library's sort at []uint64: breakPatterns: a permutation, never mind which. -/
import Derived.Sort.Walk7
import Derived.Test.YtlembnpplnbagaaSrtD
import Derived.Test.YtlembnpplnbagaaLatP
namespace Go.Proofs.Ytlembnpplnbagaa.Lt
open Go.RowKit Go.Sort

set_option maxHeartbeats 1000000 in
theorem next_any (rb ro X : Nat) (hX : X < 18446744073709551616) (w : World) (hc : w.cell? ⟨rb, ro, none⟩ = some (.int .u64 (X : Int))) (hf : w.frozen? ⟨rb, ro, none⟩ = false) :
    Calls Try.prog 53 #[.pointer (some ⟨rb, ro, none⟩)] w fun e w' =>
      e = .returned (.int .u64 ((xorNextN X : Nat) : Int)) ∧ w' = (w.setCell ⟨rb, ro, none⟩ (.int .u64 ((xorNextN X : Nat) : Int))).drewN 3 := by
  obtain ⟨P, hP⟩ : ∃ P : Nat, P = X ^^^ (X * 8192 % 18446744073709551616) := ⟨_, rfl⟩
  obtain ⟨Q, hQ⟩ : ∃ Q : Nat, Q = P ^^^ (P / 128) := ⟨_, rfl⟩
  obtain ⟨R, hR⟩ : ∃ R : Nat, R = Q ^^^ (Q * 131072 % 18446744073709551616) := ⟨_, rfl⟩
  have lP : P < 18446744073709551616 := by rw [hP]; exact Nat.xor_lt_two_pow (n := 64) (by omega) (by omega)
  have lQ : Q < 18446744073709551616 := by rw [hQ]; exact Nat.xor_lt_two_pow (n := 64) (by omega) (by omega)
  have lR : R < 18446744073709551616 := by rw [hR]; exact Nat.xor_lt_two_pow (n := 64) (by omega) (by omega)
  have e1 : bits .xor .u64 (X : Int) (IntKind.u64.wrap ((X : Int) * 8192)) = (P : Int) := by
    rw [IntKind.wrap_u64, show ((X : Int) * 8192 % 18446744073709551616) = ((X * 8192 % 18446744073709551616 : Nat) : Int) by omega, bits_xor_u64_nat _ _ hX (by omega), hP]
  have e2 : bits .xor .u64 (P : Int) ((P : Int) / 128) = (Q : Int) := by
    rw [show ((P : Int) / 128) = ((P / 128 : Nat) : Int) by omega, bits_xor_u64_nat _ _ lP (by omega), hQ]
  have e3 : bits .xor .u64 (Q : Int) (IntKind.u64.wrap ((Q : Int) * 131072)) = (R : Int) := by
    rw [IntKind.wrap_u64, show ((Q : Int) * 131072 % 18446744073709551616) = ((Q * 131072 % 18446744073709551616 : Nat) : Int) by omega, bits_xor_u64_nat _ _ lQ (by omega), hR]
  have hv : xorNextN X = R := by unfold xorNextN; simp only []; rw [← hP, ← hQ, ← hR]
  rw [hv]
  clear hP hQ hR hv
  have hss : ∀ v v', (w.setCell ⟨rb, ro, none⟩ v).setCell ⟨rb, ro, none⟩ v' = w.setCell ⟨rb, ro, none⟩ v' := setCell_setCell w rb ro
  go_enter Try.func53, Try.ntmps53
  go_wp2
  go_region
  all_goals go_wp2
  all_goals go_region
  all_goals go_wp2
  all_goals go_region
  all_goals go_wp2
  go_ret
  exact ⟨rfl, rfl⟩

theorem nextPow_any (n : Nat) (h0 : 0 < n) (hn : n < 4611686018427387904) (w : World) :
    Calls Try.prog 52 #[.int .i64 (n : Int)] w fun e w' => ∃ M : Nat, e = .returned (.int .u64 (M : Int)) ∧ 1 ≤ M ∧ M ≤ 2 * n ∧ w' = w := by
  have hLen : ∀ w, Calls Try.prog 39 #[.int .u64 (n : Int)] w fun e w' => e = .returned (.int .i64 (bitsLen n : Nat)) ∧ w' = w := fun w => by
    have h := Try.bits_Len (n : Int) w (by omega) (by omega)
    rwa [Int.toNat_natCast, bitLen_eq _ (by omega)] at h
  have hk : bitsLen n ≤ 62 := (bitsLen_le_iff n 62).2 (by omega)
  have hp := wrap_two_pow (bitsLen n) hk
  obtain ⟨M, hM⟩ : ∃ M : Nat, M = 1 <<< bitsLen n := ⟨_, rfl⟩
  have hM1 : 1 ≤ M := by rw [hM, Nat.one_shiftLeft]; exact Nat.two_pow_pos _
  have hM2 : M ≤ 2 * n := by rw [hM, Nat.one_shiftLeft]; exact two_pow_bitsLen_le h0
  rw [← hM] at hp
  clear hM
  go_enter Try.func52, Try.ntmps52
  go_wp2_with (first | (go_at_call 39; refine (hLen _).mono ?_; rintro e w' ⟨rfl, rfl⟩))
  go_ret
  exact ⟨M, rfl, hM1, hM2, rfl⟩

/-- The row at (b, o) of w0 holds d instead; and one new block holds R. -/
def Bw (w0 : World) (b o : Nat) (d : Array Int) (R : Nat) (w : World) : Prop :=
  ∃ n T, w = grow (putRow (Value.int .u64) (Sort.ahead w0 n) b o d) #[Obj.cells #[.int .u64 (R : Int)] T]
section
variable {w0 w : World} {b o R : Nat} {d0 d : Array Int}
theorem Bw.start (h : Holds (Value.int .u64) w0 b o d) (R : Nat) (T : TypeId) : Bw w0 b o d R (w0.alloc (.cells #[.int .u64 (R : Int)] T)) :=
  ⟨0, T, by rw [alloc_eq_grow, show Sort.ahead w0 0 = w0 from rfl, putRow_self _ _ _ _ _ h]⟩
theorem heap_row (w0 : World) (n b o : Nat) (d : Array Int) : (putRow (Value.int .u64) (Sort.ahead w0 n) b o d).heap.size = w0.heap.size := by simp
theorem Bw.cell (h : Bw w0 b o d R w) : w.cell? ⟨w0.heap.size, 0, none⟩ = some (.int .u64 (R : Int)) ∧ w.frozen? ⟨w0.heap.size, 0, none⟩ = false := by
  obtain ⟨n, T, rfl⟩ := h
  rw [← heap_row w0 n b o d]
  exact ⟨grow_one_cell _ _ _, grow_one_frozen _ _ _⟩
theorem Bw.next (h : Bw w0 b o d R w) (R' q : Nat) : Bw w0 b o d R' ((w.setCell ⟨w0.heap.size, 0, none⟩ (.int .u64 (R' : Int))).drewN q) := by
  obtain ⟨n, T, rfl⟩ := h
  refine ⟨n + q, T, ?_⟩
  rw [← heap_row w0 n b o d, setCell_grow_one]
  show grow ((putRow (Value.int .u64) (Sort.ahead w0 n) b o d).drewN q) _ = _
  rw [putRow_drewN]
theorem Bw.swap (h : Bw w0 b o d R w) (hb : b < w0.heap.size) (q i j : Nat) (hi : i < d.size) (hj : j < d.size) :
    Bw w0 b o (swp d i j) R (((w.drewN q).setCell ⟨b, o + i, none⟩ (.int .u64 d[j]!)).setCell ⟨b, o + j, none⟩ (.int .u64 d[i]!)) := by
  obtain ⟨n, T, rfl⟩ := h
  refine ⟨n + q, T, ?_⟩
  rw [show (grow (putRow (Value.int .u64) (Sort.ahead w0 n) b o d) #[Obj.cells #[.int .u64 (R : Int)] T]).drewN q = grow ((putRow (Value.int .u64) (Sort.ahead w0 n) b o d).drewN q) #[Obj.cells #[.int .u64 (R : Int)] T] from rfl, putRow_drewN,
    setCell_grow _ _ _ _ _ (by simpa using hb), setCell_grow _ _ _ _ _ (by simpa using hb)]
  exact congrArg (fun W => grow W _) (putRow_swp (Value.int .u64) _ b o d i j hi hj)
theorem Bw.at (h : Bw w0 b o d R w) (hb : b < w0.heap.size) (hH : Holds (Value.int .u64) w0 b o d0) (hs : d.size = d0.size) (t : Nat) (ht : t < d0.size) : w.cell? ⟨b, o + t, none⟩ = some (.int .u64 d[t]!) ∧ w.frozen? ⟨b, o + t, none⟩ = false := by
  obtain ⟨n, T, rfl⟩ := h
  have hz := heap_row w0 n b o d
  have hA := holds_ahead _ w0 n b o _ hH
  exact ⟨by rw [cell?_grow _ _ _ (by rw [hz]; exact hb)]; exact cell?_putRow _ _ _ _ d0 d hA hs t (by omega),
    by rw [frozen?_grow _ _ _ (by rw [hz]; exact hb), frozen?_putRow]; exact (hA t ht).2⟩
theorem Bw.rg (h : Bw w0 b o d R w) : Rg w0 b o d w := by
  obtain ⟨n, T, rfl⟩ := h
  exact ⟨n, _, rfl⟩
end
end Go.Proofs.Ytlembnpplnbagaa.Lt
