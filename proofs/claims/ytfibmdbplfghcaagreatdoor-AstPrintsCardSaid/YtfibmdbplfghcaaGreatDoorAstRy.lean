/- Walks: the document's own text of a label; its operators and functions; texts of conditions and aggregates. -/
import Derived.Test.YtfibmdbplfghcaaGreatDoorAstRx
import Derived.Test.YtfibmdbplfghcaaGreatDoorLabelMath
import Derived.Deep.RegionWith
import Derived.Deep.DeepCutAuto
namespace Go.Proofs.YtfibmdbplfghcaaGreatDoor
open Go.RowKit
open A8 Tk7 Lb

theorem sep_snoc (sep y : List UInt8) : ∀ l : List (List UInt8), sepL sep (l ++ [y]) = if l = [] then y else sepL sep l ++ (sep ++ y)
  | [] => rfl
  | [x] => by simp [sepL]
  | x :: z :: l => by
    have h := sep_snoc sep y (z :: l)
    rw [if_neg (by simp)] at h
    rw [if_neg (by simp)]
    show x ++ sep ++ sepL sep (z :: l ++ [y]) = _
    rw [h, sepL]
    simp only [List.append_assoc]
theorem sep_len (sep : List UInt8) (K : Nat) : ∀ l : List (List UInt8), (∀ x ∈ l, x.length ≤ K) → (sepL sep l).length ≤ (K + sep.length) * l.length
  | [], _ => Nat.zero_le _
  | [x], h => by
    have := h x (by simp)
    show x.length ≤ _
    simp
    omega
  | x :: z :: l, h => by
    have h1 := h x (by simp)
    have h2 := sep_len sep K (z :: l) (fun y hy => h y (List.mem_cons_of_mem _ hy))
    rw [sepL, List.length_append, List.length_append]
    rw [List.length_cons (a := x), Nat.mul_succ]
    omega
/-- The categories below i. -/
def preL (n i : Nat) : List Nat := (List.range i).filter n.testBit
theorem preL_succ (n i : Nat) : preL n (i + 1) = if n.testBit i = true then preL n i ++ [i] else preL n i := by
  unfold preL
  rw [List.range_succ, List.filter_append]
  cases h : n.testBit i <;> simp [h]
def preS (n i : Nat) : List UInt8 := sepL [44] ((preL n i).map Lib.decDigits)
theorem preS_len (n i : Nat) (hi : i ≤ 64) : (preS n i).length ≤ 2000 := by
  have h1 := sep_len [44] 20 ((preL n i).map Lib.decDigits) (fun x hx => by
    obtain ⟨u, hu, rfl⟩ := List.mem_map.1 hx
    refine dec_len20 u ?_
    have := List.mem_range.1 (List.mem_filter.1 hu).1
    omega)
  have h2 : (preL n i).length ≤ i := by
    have := List.length_filter_le n.testBit (List.range i)
    rw [List.length_range] at this
    exact this
  rw [List.length_map] at h1
  have h3 : (20 + [44].length) * (preL n i).length ≤ 21 * i := Nat.mul_le_mul_left 21 h2
  unfold preS
  omega
theorem preS_ne (n i : Nat) (h : preL n i ≠ []) : preS n i ≠ [] := by
  unfold preS
  match e : preL n i with
  | [] => exact absurd e h
  | [u] => exact (dec_facts u).2.2
  | u :: v :: l =>
    intro e2
    simp only [List.map_cons, sepL] at e2
    have := congrArg List.length e2
    simp at this
set_option maxRecDepth 100000 in
set_option maxHeartbeats 4000000 in
theorem rlabel_any (x : Nat) (hx : x < 18446744073709551616) (w : World) :
    Calls Tryz.prog 102 #[.int .u64 (x : Int)] w fun e w' => e = .returned (.string (strOf (labelT (x : Int)))) ∧ ∃ m, w' = w.drewN m := by
  have hH : ∀ i : Nat, (bits .and .u64 ((x : Int) / 2 ^ i) 1 == 1) = x.testBit i := fun i => by
    have := hasI_nat x i hx
    unfold hasI at this
    rw [Int.toNat_natCast] at this
    exact this
  have hend : ∀ w, (Op.stringOp .add ⟨#[123]⟩ (strOf (preS x 64))).run Tryz.prog w = .ok (.string (strOf ([123] ++ preS x 64))) w := fun w => sum8 [123] _ (by have := preS_len x 64 (by omega); simp; omega) w
  have hend2 : ∀ w, (Op.stringOp .add (strOf ([123] ++ preS x 64)) ⟨#[125]⟩).run Tryz.prog w = .ok (.string (strOf ([123] ++ preS x 64 ++ [125]))) w := fun w => sum8 _ [125] (by have := preS_len x 64 (by omega); simp; omega) w
  have hlt : labelT (x : Int) = [123] ++ preS x 64 ++ [125] := by
    unfold labelT preS
    rw [join_sep, Int.toNat_natCast]
    rfl
  rw [hlt]
  clear hlt
  obtain ⟨E1, hE1⟩ : ∃ E, E = strOf ([123] ++ preS x 64) := ⟨_, rfl⟩
  obtain ⟨E2, hE2⟩ : ∃ E, E = strOf ([123] ++ preS x 64 ++ [125]) := ⟨_, rfl⟩
  rw [← hE1] at hend hend2
  rw [← hE2] at hend2 ⊢
  have HE := Lib.hid hend
  have HE2 := Lib.hid hend2
  have HH := Lib.hid hH
  clear hE1 hE2 hend hend2 hH
  go_enter Tryz.func102, Tryz.ntmps102
  go_wp2
  go_loopg [3, 4] 64 (fun g ov iv wr => ∃ (i n : Nat), i ≤ 64 ∧ g = 64 - i ∧ iv = .int .i64 (i : Int) ∧ ov = .string (strOf (preS x i)) ∧ wr = w.drewN n)
  case atStart => exact ⟨0, 0, Nat.zero_le _, rfl, rfl, rfl, rfl⟩
  case round =>
    obtain ⟨i, n, hi, hg, rfl, rfl, rfl⟩ := hrel
    by_cases hz : i < 64
    · have h1 : (i : Int) < 64 := by omega
      have hwi : IntKind.i64.wrap ((i : Int) + 1) = (i : Int) + 1 := IntWalk.i64_in _ ⟨by omega, by omega⟩
      have hwu : IntKind.u64.wrap (i : Int) = (i : Int) := IntWalk.u64_in _ ⟨by omega, by omega⟩
      have hbit := HH.out i
      have hps := preL_succ x i
      have hD := rdigits_any i (by omega)
      have hl := preS_len x i hi
      have hl2 := dec_len20 i (by omega)
      obtain ⟨b, hb⟩ : ∃ b, b = x.testBit i := ⟨_, rfl⟩
      rw [← hb] at hbit hps
      clear hb
      have h0 : (0 : Int) ≤ (i : Int) := by omega
      cases b with
      | false =>
        have hS : preS x (i + 1) = preS x i := by unfold preS; rw [hps, if_neg (by simp)]
        clear hps
        go_wp2
        go_roundg (64 - (i + 1))
        case rel => exact ⟨i + 1, n, by omega, rfl, by go_num, by rw [hS], rfl⟩
        case measure => omega
      | true =>
        rw [if_pos rfl] at hps
        by_cases he : preL x i = []
        · have hS : preS x (i + 1) = Lib.decDigits i := by unfold preS; rw [hps, he]; rfl
          have hS0 : preS x i = [] := by unfold preS; rw [he]; rfl
          have hsum : ∀ w, (Op.stringOp .add ⟨#[]⟩ (strOf (Lib.decDigits i))).run Tryz.prog w = .ok (.string (strOf (Lib.decDigits i))) w := fun w => sum8 [] _ (by simp; omega) w
          rw [hS0]
          obtain ⟨D, hDe⟩ : ∃ D, D = strOf (Lib.decDigits i) := ⟨_, rfl⟩
          rw [← hDe] at hD hsum
          have HS := Lib.hid (show D = strOf (preS x (i + 1)) by rw [hDe, hS])
          clear hDe hS hS0 he hps hl hl2
          show Code.wp _ _ _ _ _
          have e0 : strOf [] = ⟨#[]⟩ := rfl
          rw [e0]
          go_wp2_with (go_at_call 37; refine (hD _).mono ?_; rintro e w2 ⟨rfl, m, rfl⟩)
          go_roundg (64 - (i + 1))
          case rel => exact ⟨i + 1, _, by omega, rfl, by go_num, by rw [HS.out], rfl⟩
          case measure => omega
        · have hne := preS_ne x i he
          have hS : preS x (i + 1) = preS x i ++ [44] ++ Lib.decDigits i := by
            unfold preS
            rw [hps, List.map_append, List.map_cons, List.map_nil, sep_snoc, if_neg (by simpa using he), List.append_assoc]
          have hsum : ∀ w, (Op.stringOp .add (strOf (preS x i)) ⟨#[44]⟩).run Tryz.prog w = .ok (.string (strOf (preS x i ++ [44]))) w := fun w => sum8 _ [44] (by simp; omega) w
          have hsum2 : ∀ w, (Op.stringOp .add (strOf (preS x i ++ [44])) (strOf (Lib.decDigits i))).run Tryz.prog w = .ok (.string (strOf (preS x (i + 1)))) w := fun w => by rw [hS]; exact sum8 _ _ (by simp; omega) w
          have n0 : ¬ (strOf (preS x i)).toList = [] := by rw [strOf_toL]; exact hne
          have n1 : (strOf (preS x i)).toList.isEmpty = false := by rw [strOf_toL]; cases h : preS x i <;> simp_all
          obtain ⟨D, hDe⟩ : ∃ D, D = strOf (Lib.decDigits i) := ⟨_, rfl⟩
          obtain ⟨P, hPe⟩ : ∃ D, D = strOf (preS x i) := ⟨_, rfl⟩
          obtain ⟨P1, hP1⟩ : ∃ D, D = strOf (preS x i ++ [44]) := ⟨_, rfl⟩
          obtain ⟨P2, hP2⟩ : ∃ D, D = strOf (preS x (i + 1)) := ⟨_, rfl⟩
          rw [← hDe] at hD hsum2
          rw [← hPe] at hsum n0 n1 ⊢
          rw [← hP1] at hsum hsum2
          rw [← hP2] at hsum2
          have HS := Lib.hid hP2
          clear hDe hPe hP1 hP2 hS hne he hps hl hl2
          go_wp2_with (go_at_call 37; refine (hD _).mono ?_; rintro e w2 ⟨rfl, m, rfl⟩)
          go_roundg (64 - (i + 1))
          case rel => exact ⟨i + 1, _, by omega, rfl, by go_num, by rw [HS.out], rfl⟩
          case measure => omega
    · have h1 : ¬ (i : Int) < 64 := by omega
      have hil : i = 64 := by omega
      subst hil
      have e1 := HE.out
      have e2 := HE2.out
      obtain ⟨P, hPe⟩ : ∃ D, D = strOf (preS x 64) := ⟨_, rfl⟩
      rw [← hPe] at e1 ⊢
      clear hPe
      go_wp2
      go_ret
      exact ⟨rfl, n, rfl⟩
end Go.Proofs.YtfibmdbplfghcaaGreatDoor
