/- Walks: what package label reads from texts: byteAt, isDigit, number. -/
import Derived.Test.YtnlioeheogkkiaaDoorLabelF
import Derived.Handy
namespace Go.Proofs.YtnlioeheogkkiaaDoor
open Go.RowKit
open Lb

theorem byteAt_any (s : ByteArray) (a : Int) (w : World) (_hs : s.size ≤ 9223372036854775807) (h0 : 0 ≤ a) :
    Calls Tryd.prog 52 #[.string s, .int .i64 a] w fun e w' => e = .returned (.int .u8 (bt s a.toNat)) ∧ w = w' := by
  obtain ⟨i, rfl⟩ := Int.eq_ofNat_of_zero_le h0
  rw [Int.toNat_natCast]
  by_cases h : i < s.size
  · have hb := Lib.hid (bt_in h)
    go_enter Tryd.func52, Tryd.ntmps52
    go_wp2
    go_ret
    exact ⟨by rw [hb.out]; rfl, rfl⟩
  · have hb := Lib.hid (bt_out h)
    go_enter Tryd.func52, Tryd.ntmps52
    go_wp2
    go_ret
    exact ⟨by rw [hb.out]; rfl, rfl⟩
theorem isDigit_any (b : Int) (w : World) :
    Calls Tryd.prog 63 #[.int .u8 b] w fun e w' => e = .returned (.bool (isDig b)) ∧ w = w' := by
  by_cases h : 48 ≤ b
  all_goals
    go_enter Tryd.func63, Tryd.ntmps63
    go_wp2
    go_ret
    exact ⟨ret_bool (by simp [isDig]; try omega), rfl⟩

theorem number_any (s : ByteArray) (at_ : Nat) (w : World) (hs : s.size ≤ 4611686018427387904) (h0 : at_ ≤ s.size) :
    Calls Tryd.prog 53 #[.string s, .int .i64 at_] w fun e w' =>
      e = .returned (.tuple #[.int .i64 (numI s at_).1, .int .i64 (numI s at_).2.1, .agg #[.int .i64 (numI s at_).2.2.1, .int .i64 (numI s at_).2.2.2]]) ∧ Below w.heap.size w w' := by
  go_enter Tryd.func53, Tryd.ntmps53
  go_wp2
  go_loop [4, 5] (fun c e => ∃ j : Nat, j ≤ (digs s at_).length ∧ e = .int .i64 ((at_ + j : Nat) : Int) ∧ c = .int .i64 ((min 64 (decOf ((digs s at_).take j)) : Nat) : Int)) (fun _ e => at_ + (digs s at_).length - (intOf e).toNat)
  case atStart => exact ⟨0, Nat.zero_le _, rfl, rfl⟩
  case round =>
    obtain ⟨j, hj, rfl, rfl⟩ := hrel
    by_cases hlt : j < (digs s at_).length
    · obtain ⟨hin, hget, hd⟩ := digs_in hlt
      have hbi := bt_in hin
      have hlo : 48 ≤ s[at_ + j].toNat := by have := (isDig_iff.1 hd).1; omega
      have hhi : s[at_ + j].toNat ≤ 57 := by have := (isDig_iff.1 hd).2; omega
      have Hd := Lib.hid hd
      have Hbi := Lib.hid hbi
      have hv := Lib.hid (show decOf ((digs s at_).take (j + 1)) = 10 * decOf ((digs s at_).take j) + (s[at_ + j].toNat - 48) by rw [take_snoc _ j hlt, decOf_snoc, hget])
      clear hd hbi hget
      have hvv : 0 ≤ decOf ((digs s at_).take j) := Nat.zero_le _
      go_wp2_with (first | (go_at_call 52; refine (byteAt_any _ _ _ (by omega) (by omega)).mono ?_; rintro e w' ⟨rfl, rfl⟩) | (go_at_call 63; refine (isDigit_any _ _).mono ?_; rintro e w' ⟨rfl, rfl⟩; rw [Hd.out]))
      go_round
      case rel => exact ⟨j + 1, by omega, by first | go_num | (congr 1; omega), by rw [hv.out]; congr 1; split <;> omega⟩
      case measure => simp [intOf]; omega
    · obtain rfl : j = (digs s at_).length := by omega
      rw [List.take_length]
      have hd := Lib.hid (digs_end s at_)
      have hsz := digs_size s at_
      by_cases hA : (digs s at_).length = 0
      · have hx := Lib.hid (show numI s at_ = (0, 0, 3, (at_ : Int)) by unfold numI; rw [if_pos hA])
        have hL := Lib.hid hA
        rw [hA] at hd
        have he : (((at_ + (digs s at_).length : Nat) : Int) == (at_ : Int)) = true := by rw [hA, Nat.add_zero]; simp
        rw [hA, Nat.add_zero] at he ⊢
        rw [Nat.add_zero] at hd
        clear hA hsz
        go_wp2_with (first | (go_at_call 52; refine (byteAt_any _ _ _ (by omega) (by omega)).mono ?_; rintro e w' ⟨rfl, rfl⟩) | (go_at_call 63; refine (isDigit_any _ _).mono ?_; rintro e w' ⟨rfl, rfl⟩; rw [hd.out]))
        go_returns
        exact ⟨by rw [hx.out], (Below.refl _ _).alloc (Nat.le_refl _) _⟩
      · obtain ⟨hin, hget, _⟩ := digs_in (s := s) (at_ := at_) (j := 0) (by omega)
        rw [Nat.add_zero] at hin
        have hb := bt_in hin
        have hsz' := hsz (by omega)
        have he : (((at_ + (digs s at_).length : Nat) : Int) == (at_ : Int)) = false := by simp; omega
        have h0n := Lib.hid hA
        clear hA hsz hget
        have hcalls : True := trivial
        by_cases h48 : s[at_].toNat = 48
        · have hb48 : ((s[at_].toNat : Int) == 48) = true := by rw [h48]; rfl
          by_cases h1 : 1 < (digs s at_).length
          · have hx := Lib.hid (show numI s at_ = (0, 0, 3, (at_ : Int) + 1) by unfold numI; rw [if_neg h0n.out, if_pos ⟨by rw [hb, h48]; rfl, h1⟩])
            clear hb h48
            go_wp2_with (first | (go_at_call 52; refine (byteAt_any _ _ _ (by omega) (by omega)).mono ?_; rintro e w' ⟨rfl, rfl⟩) | (go_at_call 63; refine (isDigit_any _ _).mono ?_; rintro e w' ⟨rfl, rfl⟩; rw [hd.out]))
            go_returns
            exact ⟨by rw [hx.out], (Below.refl _ _).alloc (Nat.le_refl _) _⟩
          · by_cases hv : 63 < decOf (digs s at_)
            · have hx := Lib.hid (show numI s at_ = (0, 0, 2, (at_ : Int)) by unfold numI; rw [if_neg h0n.out, if_neg (fun h => h1 h.2), if_pos hv])
              have hmin : min 64 (decOf (digs s at_)) = 64 := by omega
              have hcat := Lib.hid (show isCat (64 : Int) = false by decide)
              rw [hmin]
              clear hb h48 hmin
              go_wp2_with (first | (go_at_call 52; refine (byteAt_any _ _ _ (by omega) (by omega)).mono ?_; rintro e w' ⟨rfl, rfl⟩) | (go_at_call 63; refine (isDigit_any _ _).mono ?_; rintro e w' ⟨rfl, rfl⟩; rw [hd.out]) | (go_at_call 44; refine (isCategory_any _ _).mono ?_; rintro e w' ⟨rfl, rfl⟩; rw [hcat.out]))
              go_returns
              exact ⟨by rw [hx.out], (Below.refl _ _).alloc (Nat.le_refl _) _⟩
            · have hx := Lib.hid (show numI s at_ = ((decOf (digs s at_) : Int), (at_ : Int) + ((digs s at_).length : Int), 0, 0) by unfold numI; rw [if_neg h0n.out, if_neg (fun h => h1 h.2), if_neg hv])
              have hmin : min 64 (decOf (digs s at_)) = decOf (digs s at_) := by omega
              have hcat := Lib.hid (show isCat (decOf (digs s at_) : Int) = true by rw [isCat_iff]; omega)
              rw [hmin]
              clear hb h48 hmin
              go_wp2_with (first | (go_at_call 52; refine (byteAt_any _ _ _ (by omega) (by omega)).mono ?_; rintro e w' ⟨rfl, rfl⟩) | (go_at_call 63; refine (isDigit_any _ _).mono ?_; rintro e w' ⟨rfl, rfl⟩; rw [hd.out]) | (go_at_call 44; refine (isCategory_any _ _).mono ?_; rintro e w' ⟨rfl, rfl⟩; rw [hcat.out]))
              go_returns
              exact ⟨by rw [hx.out], (Below.refl _ _).alloc (Nat.le_refl _) _⟩
        · have hb48 : ((s[at_].toNat : Int) == 48) = false := by simp; omega
          have hbt : bt s at_ ≠ 48 := by rw [hb]; omega
          by_cases hv : 63 < decOf (digs s at_)
          · have hx := Lib.hid (show numI s at_ = (0, 0, 2, (at_ : Int)) by unfold numI; rw [if_neg h0n.out, if_neg (fun h => hbt h.1), if_pos hv])
            have hmin : min 64 (decOf (digs s at_)) = 64 := by omega
            have hcat := Lib.hid (show isCat (64 : Int) = false by decide)
            rw [hmin]
            clear hb h48 hmin hbt
            go_wp2_with (first | (go_at_call 52; refine (byteAt_any _ _ _ (by omega) (by omega)).mono ?_; rintro e w' ⟨rfl, rfl⟩) | (go_at_call 63; refine (isDigit_any _ _).mono ?_; rintro e w' ⟨rfl, rfl⟩; rw [hd.out]) | (go_at_call 44; refine (isCategory_any _ _).mono ?_; rintro e w' ⟨rfl, rfl⟩; rw [hcat.out]))
            go_returns
            exact ⟨by rw [hx.out], (Below.refl _ _).alloc (Nat.le_refl _) _⟩
          · have hx := Lib.hid (show numI s at_ = ((decOf (digs s at_) : Int), (at_ : Int) + ((digs s at_).length : Int), 0, 0) by unfold numI; rw [if_neg h0n.out, if_neg (fun h => hbt h.1), if_neg hv])
            have hmin : min 64 (decOf (digs s at_)) = decOf (digs s at_) := by omega
            have hcat := Lib.hid (show isCat (decOf (digs s at_) : Int) = true by rw [isCat_iff]; omega)
            rw [hmin]
            clear hb h48 hmin hbt
            go_wp2_with (first | (go_at_call 52; refine (byteAt_any _ _ _ (by omega) (by omega)).mono ?_; rintro e w' ⟨rfl, rfl⟩) | (go_at_call 63; refine (isDigit_any _ _).mono ?_; rintro e w' ⟨rfl, rfl⟩; rw [hd.out]) | (go_at_call 44; refine (isCategory_any _ _).mono ?_; rintro e w' ⟨rfl, rfl⟩; rw [hcat.out]))
            go_returns
            exact ⟨by rw [hx.out], (Below.refl _ _).alloc (Nat.le_refl _) _⟩
end Go.Proofs.YtnlioeheogkkiaaDoor
