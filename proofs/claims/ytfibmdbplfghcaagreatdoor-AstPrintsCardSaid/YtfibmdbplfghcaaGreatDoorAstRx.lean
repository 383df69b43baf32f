/- Walks: the document's own digits and number. -/
import Derived.Test.YtfibmdbplfghcaaGreatDoorAstTm
import Derived.Test.YtfibmdbplfghcaaGreatDoorAstE
import Derived.Outline
import Derived.Deep.LoopGhost
import Derived.WalkMore
import Derived.IntWalk
import Derived.Deep.QuietTactic
import Derived.BigQuiet
import Derived.Handy
namespace Go.Proofs.YtfibmdbplfghcaaGreatDoor
open Go.RowKit
open A8 Tk7

def tenS : ByteArray := ⟨#[48, 49, 50, 51, 52, 53, 54, 55, 56, 57]⟩
theorem ten_cut (k : Nat) (h : k < 10) : tenS.extract k (k + 1) = strOf [UInt8.ofNat (48 + k)] := by
  have : ∀ i : Fin 10, tenS.extract i.val (i.val + 1) = strOf [UInt8.ofNat (48 + i.val)] := by decide +kernel
  exact this ⟨k, h⟩
theorem str_cat (a b : List UInt8) : strOf a ++ strOf b = strOf (a ++ b) := by
  apply ByteArray.ext
  simp [strOf]
theorem dec_more {u : Nat} (h : ¬ u < 10) : Lib.decDigits u = Lib.decDigits (u / 10) ++ [UInt8.ofNat (48 + u % 10)] := by rw [Lib.decDigits, dif_neg h]
theorem dec_len (k : Nat) : ∀ u, u < 10 ^ (k + 1) → (Lib.decDigits u).length ≤ k + 1 := by
  induction k with
  | zero => intro u h; rw [Lib.decDigits_one (by omega)]; simp
  | succ k ih =>
    intro u h
    by_cases h1 : u < 10
    · rw [Lib.decDigits_one h1]; simp
    · rw [dec_more h1, List.length_append]
      have h2 : 10 ^ (k + 1 + 1) = 10 ^ (k + 1) * 10 := Nat.pow_succ _ _
      have := ih (u / 10) (by omega)
      simp only [List.length_cons, List.length_nil]
      omega
theorem dec_len20 (u : Nat) (h : u < 18446744073709551616) : (Lib.decDigits u).length ≤ 20 := dec_len 19 u (Nat.lt_trans h (by decide))
theorem itoa_len21 (v : Int) (h : okV v) : (Lib.itoa v).length ≤ 21 := by
  obtain ⟨h0, h1⟩ := h
  rw [itoa_form]
  split
  · have := dec_len20 v.natAbs (by omega)
    simp only [List.length_cons]
    omega
  · have := dec_len20 v.toNat (by omega)
    omega
/-- The sum of two texts. -/
theorem sum8 (a b : List UInt8) (h : a.length + b.length ≤ 100000000) (w : World) : (Op.stringOp .add (strOf a) (strOf b)).run Tryz.prog w = .ok (.string (strOf (a ++ b))) w := by
  rw [← str_cat]
  exact run_string_add_sum w _ _ (by rw [strOf_size, strOf_size]; omega)
set_option maxRecDepth 100000 in
set_option maxHeartbeats 1000000 in
theorem rdigits_any (u : Nat) : u < 18446744073709551616 → ∀ w, Calls Tryz.prog 37 #[.int .u64 (u : Int)] w fun e w' => e = .returned (.string (strOf (Lib.decDigits u))) ∧ ∃ m, w' = w.drewN m := by
  induction u using Nat.strongRecOn with
  | ind u ih =>
    intro hu w
    by_cases h1 : u < 10
    · rw [Lib.decDigits_one h1, ← ten_cut u h1]
      have c1 : (u : Int) < 10 := by omega
      have c2 : (0 : Int) ≤ (u : Int) := by omega
      have c3 : IntKind.u64.wrap ((u : Int) + 1) = (u : Int) + 1 := IntWalk.u64_in _ ⟨by omega, by omega⟩
      have c4 : (u : Int) ≤ (u : Int) + 1 := by omega
      have c5 : (u : Int) + 1 ≤ 10 := by omega
      have c6 : ((u : Int) + 1).toNat = u + 1 := by omega
      have hT : tenS.size = 10 := rfl
      unfold tenS
      clear ih hu h1
      go_enter Tryz.func37, Tryz.ntmps37
      go_wp2
      go_ret
      exact ⟨rfl, 0, rfl⟩
    · have hq := dec_len20 (u / 10) (by omega)
      have hc := ih (u / 10) (by omega) (by omega)
      have hsum : ∀ w, (Op.stringOp .add (strOf (Lib.decDigits (u / 10))) (tenS.extract (u % 10) (u % 10 + 1))).run Tryz.prog w = .ok (.string (strOf (Lib.decDigits u))) w := fun w => by
        rw [ten_cut _ (by omega), dec_more h1]
        exact sum8 _ _ (by simp only [List.length_cons, List.length_nil]; omega) w
      obtain ⟨D, hD⟩ : ∃ D, D = strOf (Lib.decDigits (u / 10)) := ⟨_, rfl⟩
      obtain ⟨R, hR⟩ : ∃ D, D = strOf (Lib.decDigits u) := ⟨_, rfl⟩
      rw [← hD] at hc hsum
      rw [← hR] at hsum ⊢
      clear hD hR
      obtain ⟨q, hqe⟩ : ∃ q : Int, q = ((u / 10 : Nat) : Int) := ⟨_, rfl⟩
      obtain ⟨r, hre⟩ : ∃ r : Nat, r = u % 10 := ⟨_, rfl⟩
      rw [← hqe] at hc
      rw [← hre] at hsum
      have c0 : ¬ (u : Int) < 10 := by omega
      have c1 : (u : Int) / 10 = q := by omega
      have c1w : IntKind.u64.wrap q = q := IntWalk.u64_in _ ⟨by omega, by omega⟩
      have c2 : (u : Int) % 10 = (r : Int) := by omega
      have c3 : IntKind.u64.wrap ((r : Int) + 1) = (r : Int) + 1 := IntWalk.u64_in _ ⟨by omega, by omega⟩
      have c4 : (0 : Int) ≤ (r : Int) := by omega
      have c5 : (r : Int) ≤ (r : Int) + 1 := by omega
      have c6 : (r : Int) + 1 ≤ 10 := by omega
      have c7 : ((r : Int) + 1).toNat = r + 1 := by omega
      have c8 : IntKind.u64.wrap (r : Int) = (r : Int) := IntWalk.u64_in _ ⟨by omega, by omega⟩
      unfold tenS at hsum
      clear ih hq h1 hqe hre hu
      go_enter Tryz.func37, Tryz.ntmps37
      go_wp2_with fail
      go_quiet ((go_at_call 37; with_reducible exact Calls.quiet_of (hc _)))
      go_wp2
      go_ret
      exact ⟨rfl, _, rfl⟩
set_option maxRecDepth 100000 in
set_option maxHeartbeats 1000000 in
theorem rnumber_any (v : Int) (h : okV v) (w : World) :
    Calls Tryz.prog 79 #[.int .i64 v] w fun e w' => e = .returned (.string (strOf (Lib.itoa v))) ∧ ∃ m, w' = w.drewN m := by
  obtain ⟨h0, h1⟩ := h
  rw [itoa_form]
  by_cases hv : v < 0
  · have hD := rdigits_any v.natAbs (by omega)
    have hz := dec_len20 v.natAbs (by omega)
    rw [if_pos hv]
    have hsum : ∀ w, (Op.stringOp .add ⟨#[45]⟩ (strOf (Lib.decDigits v.natAbs))).run Tryz.prog w = .ok (.string (strOf (45 :: Lib.decDigits v.natAbs))) w := fun w => sum8 [45] _ (by simp only [List.length_cons, List.length_nil]; omega) w
    obtain ⟨D, hDe⟩ : ∃ D, D = strOf (Lib.decDigits v.natAbs) := ⟨_, rfl⟩
    obtain ⟨R, hR⟩ : ∃ D, D = strOf (45 :: Lib.decDigits v.natAbs) := ⟨_, rfl⟩
    rw [← hDe] at hD hsum
    rw [← hR] at hsum ⊢
    obtain ⟨a, ha⟩ : ∃ a : Int, a = (v.natAbs : Int) := ⟨_, rfl⟩
    rw [← ha] at hD
    obtain ⟨p, hp⟩ : ∃ p, p = v + 1 := ⟨_, rfl⟩
    obtain ⟨q, hq⟩ : ∃ q, q = -p := ⟨_, rfl⟩
    have c1 : IntKind.i64.wrap (v + 1) = p := by rw [IntWalk.i64_in _ ⟨by omega, by omega⟩, hp]
    have c2 : IntKind.i64.wrap (-p) = q := by rw [IntWalk.i64_in _ ⟨by omega, by omega⟩, hq]
    have c3 : IntKind.u64.wrap q = q := IntWalk.u64_in _ ⟨by omega, by omega⟩
    have c4 : IntKind.u64.wrap (q + 1) = a := by rw [IntWalk.u64_in _ ⟨by omega, by omega⟩]; omega
    clear hDe hR ha hp hq hz h0 h1
    go_enter Tryz.func79, Tryz.ntmps79
    go_wp2_with fail
    refine (hD _).mono ?_
    rintro e w1 ⟨rfl, m, rfl⟩
    go_wp2
    go_ret
    exact ⟨rfl, _, rfl⟩
  · have hD := rdigits_any v.toNat (by omega)
    rw [if_neg hv]
    have e : (v.toNat : Int) = v := by omega
    rw [e] at hD
    obtain ⟨R, hR⟩ : ∃ D, D = strOf (Lib.decDigits v.toNat) := ⟨_, rfl⟩
    rw [← hR] at hD ⊢
    have c3 : IntKind.u64.wrap v = v := IntWalk.u64_in _ ⟨by omega, by omega⟩
    clear hR e h0 h1
    go_enter Tryz.func79, Tryz.ntmps79
    go_wp2_with fail
    refine (hD _).mono ?_
    rintro e w1 ⟨rfl, m, rfl⟩
    go_wp2
    go_ret
    exact ⟨rfl, _, rfl⟩
end Go.Proofs.YtfibmdbplfghcaaGreatDoor
