/- The law RowBytes. -/
import Derived.Test.YtkmkhegekonbmaaDoorRowNN
import Derived.Deep.LoopGhost
import Derived.IntWalk
namespace Go.Proofs.YtkmkhegekonbmaaDoor
open Go.RowKit
open Rw6

/-- The digits of U that are written, and what is left of U. -/
def DigI (U u : Nat) (t : List UInt8) : Prop := u ≤ U ∧ t.length ≤ (Lib.decDigits U).length ∧ ((t = [] ∧ u = U) ∨ (t ≠ [] ∧ (if u = 0 then [] else Lib.decDigits u) ++ t = Lib.decDigits U))
theorem DigI.step {U u : Nat} {t : List UInt8} (h : DigI U u t) (hg : 0 < u ∨ t = []) : DigI U (u / 10) (UInt8.ofNat (48 + u % 10) :: t) := by
  obtain ⟨h1, h2, h3⟩ := h
  have key : (if u / 10 = 0 then [] else Lib.decDigits (u / 10)) ++ UInt8.ofNat (48 + u % 10) :: t = Lib.decDigits U := by
    by_cases hu : 1 ≤ u
    · rw [← dec_front hu t]
      rcases h3 with ⟨rfl, rfl⟩ | ⟨_, h4⟩
      · rw [List.append_nil]
      · rw [if_neg (by omega)] at h4; exact h4
    · obtain rfl : u = 0 := by omega
      rcases h3 with ⟨rfl, rfl⟩ | ⟨h4, _⟩
      · decide +kernel
      · rcases hg with hg | hg
        · omega
        · exact absurd hg h4
  refine ⟨by omega, ?_, .inr ⟨by simp, key⟩⟩
  rw [← key, List.length_append]
  omega
theorem DigI.done {U : Nat} {t : List UInt8} (h : DigI U 0 t) (hn : t ≠ []) : t = Lib.decDigits U := by
  obtain ⟨_, _, ⟨h4, _⟩ | ⟨_, h4⟩⟩ := h
  · exact absurd h4 hn
  · rw [if_pos rfl, List.nil_append] at h4; exact h4
theorem word_single {q : Bool} {s : List UInt8} (h : okW q s = true) (hl : s.length ≤ 200) (w : World) :
    Calls Tryd.prog 26 #[.string (strOf (wordW q s)), .agg #[.bool q, .string (strOf s), .int .i64 0]] w fun e w' => e = .returned (.bool true) ∧ Below w.heap.size w w' :=
  single_any (readG_word h (by have := Go.Proofs.YtkmkhegekonbmaaDoor.wordW_len q s; omega)) w
theorem strOf_nil {t : List UInt8} (h : t ≠ []) : ((strOf t).toList == (⟨#[]⟩ : ByteArray).toList) = false := str_ne fun e => by
  apply h
  have := congrArg (fun x : ByteArray => x.data.toList) e
  simpa [strOf] using this
theorem strOf_empty {t : List UInt8} (h : t ≠ []) : (strOf t).toList.isEmpty = false := by
  cases h2 : (strOf t).toList.isEmpty with
  | false => rfl
  | true =>
    have h1 := strOf_nil h
    rw [List.isEmpty_iff.1 h2] at h1
    revert h1
    decide +kernel
theorem dig_conv (W : World) (r : Nat) (h : r < 10) : (convert 59 9 (.slice (some ⟨W.heap.size, 0, none⟩) 1 1)).run Tryd.prog (W.alloc (.cells #[.int .u8 (48 + (r : Int))] 5)) = .ok (.string (strOf [UInt8.ofNat (48 + r)])) (W.alloc (.cells #[.int .u8 (48 + (r : Int))] 5)) := by
  have e : #[Value.int .u8 (48 + (r : Int))] = (bvals [UInt8.ofNat (48 + r)]).toArray := by
    unfold bvals
    rw [List.map_cons, List.map_nil, digit_val r h]
    simp
  rw [e]
  exact conv_any Tryd.underlying59 Tryd.underlying5 Tryd.underlying9 (Slc.lit W (bvals [UInt8.ofNat (48 + r)]) 5 1 rfl (by decide))
theorem numK {u : Nat} (h : u ≤ top) (w : World) : Calls Tryd.prog 17 #[.agg #[.bool false, .string (strOf (Lib.decDigits u)), .int .i64 0], .int .u64 0, .int .u64 18446744073709551615] w fun e w' => e = .returned (.tuple #[.int .u64 (u : Int), .int .i64 0]) ∧ Below w.heap.size w w' := by
  have h20 : (Lib.decDigits u).length ≤ 20 := dec_len 19 u (by unfold top at h; omega)
  have hN := number_is false (strOf (Lib.decDigits u)) 0 0 top (by rw [strOf_size]; omega) w
  rw [strOf_dat, numG_dec h] at hN
  exact hN
theorem numM {u : Nat} (h20 : (Lib.decDigits u).length ≤ 20) (w : World) : Calls Tryd.prog 17 #[.agg #[.bool false, .string (strOf (45 :: Lib.decDigits u)), .int .i64 0], .int .u64 0, .int .u64 18446744073709551615] w fun e w' => e = .returned (.tuple #[.int .u64 0, .int .i64 3]) ∧ Below w.heap.size w w' := by
  have hN := number_is false (strOf (45 :: Lib.decDigits u)) 0 0 top (by rw [strOf_size, List.length_cons]; omega) w
  rw [strOf_dat, numG_minus] at hN
  exact hN
theorem wrap_neg (n m : Int) (h0 : n < 0) (h1 : -18446744073709551616 ≤ n) (hm : m = 18446744073709551616 + n) : IntKind.u64.wrap n = m := by
  subst hm
  simp [IntKind.wrap, IntKind.bits, IntKind.signed]; omega
theorem dec_len20 {U : Nat} (h : U < 18446744073709551616) : (Lib.decDigits U).length ≤ 20 := dec_len 19 U (by omega)
set_option maxRecDepth 100000 in
set_option maxHeartbeats 8000000 in
theorem rowBytes_any (s : List UInt8) (n : Int) (hn1 : -9223372036854775808 ≤ n) (hn2 : n ≤ 9223372036854775807) (w : World) :
    Calls Tryd.prog 8 #[.string (strOf s), .int .i64 n] w fun e w' => e = .returned (.bool true) ∧ Below w.heap.size w w' := by
  have HB := Lib.hid (Below.refl w.heap.size w)
  have hsz := strOf_size s
  by_cases hl : 200 < s.length
  · have hl' : (200 : Int) < (s.length : Int) := by omega
    go_enter Tryd.func8, Tryd.ntmps8
    go_wp2_with (go_at_call 5; with_reducible refine (known_any _).mono ?_; rintro e wx ⟨rfl, hb⟩)
    go_ret
    exact ⟨rfl, hb⟩
  · have hl' : ¬ (200 : Int) < (s.length : Int) := by omega
    have hW : ∀ w, Calls Tryd.prog 15 #[.agg #[.bool true, .string (strOf s), .int .i64 0]] w fun e w' => e = .returned (.tuple #[.string (strOf (wordW true s)), .int .i64 0]) ∧ Below w.heap.size w w' := fun w => by
      have h := word_is true (strOf s) 0 (by omega) w
      rw [strOf_dat, show wordG true s = (wordW true s, 0) from rfl] at h
      exact h
    have hS1 := fun w => word_single (q := true) (s := s) rfl (by omega) w
    have hB := fun w => bare_any (strOf s) (by omega) w
    rw [strOf_dat] at hB
    have hS2 : bareB s = true → ∀ w, Calls Tryd.prog 26 #[.string (strOf s), .agg #[.bool false, .string (strOf s), .int .i64 0]] w fun e w' => e = .returned (.bool true) ∧ Below w.heap.size w w' := fun h w => word_single (q := false) (s := s) (by unfold okW; rw [h]; rfl) (by omega) w
    obtain ⟨b, hbe⟩ : ∃ b, b = bareB s := ⟨_, rfl⟩
    rw [← hbe] at hB hS2
    obtain ⟨x, hx⟩ : ∃ x, x = strOf (wordW true s) := ⟨_, rfl⟩
    rw [← hx] at hW hS1
    obtain ⟨z, hz⟩ : ∃ z, z = strOf s := ⟨_, rfl⟩
    rw [← hz] at hW hS1 hS2 hB hsz ⊢
    clear hbe hx hz hl
    by_cases hneg : n < 0
    · have hsi := sgnG_itoa n hn1 hn2
      rw [itoa_neg hneg] at hsi
      have hUt : n.natAbs < 9223372036854775809 := by omega
      obtain ⟨m, hm⟩ : ∃ m : Int, m = 18446744073709551616 + n := ⟨_, rfl⟩
      obtain ⟨U, hUe⟩ : ∃ U, U = n.natAbs := ⟨_, rfl⟩
      rw [← hUe] at hUt hsi
      have cU : IntKind.u64.wrap n = m := wrap_neg n m (by omega) (by omega) (by omega)
      have cU2 : IntKind.u64.wrap (-m) = (U : Int) := wrap_neg (-m) U (by omega) (by omega) (by omega)
      clear hUe hn1 hn2 hm
      cases b
      · clear hS2
        go_enter Tryd.func8, Tryd.ntmps8
        go_wp2_with (first
          | (go_at_call 5; with_reducible refine (known_any _).mono ?_; rintro e wx ⟨rfl, hb⟩; replace HB := Lib.hid (bstep HB.out hb); clear hb)
          | (go_at_call 27; with_reducible refine (wordL_any _ _ _ _).mono ?_; rintro e wx ⟨rfl, hb⟩; replace HB := Lib.hid (bstep HB.out hb); clear hb)
          | (go_at_call 15; with_reducible refine (hW _).mono ?_; rintro e wx ⟨rfl, hb⟩; replace HB := Lib.hid (bstep HB.out hb); clear hb)
          | (go_at_call 26; with_reducible refine (hS1 _).mono ?_; rintro e wx ⟨rfl, hb⟩; replace HB := Lib.hid (bstep HB.out hb); clear hb)
          | (go_at_call 29; with_reducible refine (hB _).mono ?_; rintro e wx ⟨rfl, rfl⟩))
        go_loopg [8, 9] (2 * U + 1) (fun g lv tv wr => ∃ (u : Nat) (t : List UInt8), lv = .int .u64 (u : Int) ∧ tv = .string (strOf t) ∧ Hid (DigI U u t) ∧ g = 2 * u + (if t = [] then 1 else 0) ∧ Hid (Below w.heap.size w wr))
        case atStart => exact ⟨U, [], rfl, rfl, Lib.hid ⟨Nat.le_refl _, Nat.zero_le _, .inl ⟨rfl, rfl⟩⟩, rfl, HB⟩
        case round =>
          clear HB
          obtain ⟨u, t, rfl, rfl, hD, hg, HB⟩ := hrel
          by_cases hgo : 0 < u ∨ t = []
          · have hD2 := Lib.hid (hD.out.step hgo)
            have hge : 2 * (u / 10) + 0 < gk := by
              rcases hgo with h | h
              · omega
              · rw [if_pos h] at hg; omega
            have hul : u < 9223372036854775809 := by have := hD.out.1; omega
            have htl : t.length ≤ 20 := by have := hD.out.2.1; have := dec_len20 (U := U) (by omega); omega
            have hts := strOf_size t
            obtain ⟨r, hr⟩ : ∃ r, r = u % 10 := ⟨_, rfl⟩
            have hr10 : r < 10 := by omega
            have e1 : (u : Int) % 10 = (r : Int) := by omega
            have e0 : IntKind.u64.wrap (r : Int) = (r : Int) := IntWalk.u64_in _ ⟨by omega, by omega⟩
            have e2 : IntKind.u64.wrap (48 + (r : Int)) = 48 + (r : Int) := IntWalk.u64_in _ ⟨by omega, by omega⟩
            have e3 : IntKind.u8.wrap (48 + (r : Int)) = 48 + (r : Int) := IntWalk.u8_in _ ⟨by omega, by omega⟩
            have hcv := fun W => dig_conv W r hr10
            obtain ⟨q, hq⟩ : ∃ q, q = u / 10 := ⟨_, rfl⟩
            have e4 : (u : Int) / 10 = (q : Int) := by omega
            have e5 : IntKind.u64.wrap (q : Int) = (q : Int) := IntWalk.u64_in _ ⟨by omega, by omega⟩
            rw [← hr, ← hq] at hD2
            have happ : (strOf [UInt8.ofNat (48 + r)] ++ strOf t : ByteArray) = strOf (UInt8.ofNat (48 + r) :: t) := (strOf_app _ _).symm
            rw [← hq] at hge
            obtain ⟨d, hd⟩ : ∃ d, d = UInt8.ofNat (48 + r) := ⟨_, rfl⟩
            rw [← hd] at hcv happ hD2
            have hds : (strOf [d]).size = 1 := rfl
            have hov : ¬ 9223372036854775807 < (strOf [d]).size + t.length := by omega
            clear hr hq hg hd
            by_cases hu : 0 < u
            · have hu' : (0 : Int) < (u : Int) := by omega
              go_wp2
              go_roundg (2 * q)
              case measure => omega
              case rel => exact ⟨q, d :: t, rfl, rfl, hD2, by simp, Lib.hid (HB.out.alloc HB.out.size _)⟩
            · obtain rfl : t = [] := hgo.resolve_left hu
              have hu' : ¬ (0 : Int) < (u : Int) := by omega
              have hte : (strOf []).toList.isEmpty = true := by decide +kernel
              go_wp2
              go_roundg (2 * q)
              case measure => omega
              case rel => exact ⟨q, [d], rfl, rfl, hD2, by simp, Lib.hid (HB.out.alloc HB.out.size _)⟩
          · obtain rfl : u = 0 := by omega
            have htn : t ≠ [] := fun h => hgo (.inr h)
            have hte := strOf_empty htn
            obtain rfl := hD.out.done htn
            have h20 := dec_len20 (U := U) (by omega)
            have hSg := fun w => signedL_any (strOf (45 :: Lib.decDigits U)) (by rw [strOf_size, List.length_cons]; omega) w
            have hNu := fun w => numM (u := U) h20 w
            rw [strOf_dat, hsi] at hSg
            obtain ⟨T, hT⟩ : ∃ T, T = strOf (Lib.decDigits U) := ⟨_, rfl⟩
            have hap : (⟨#[45]⟩ : ByteArray) ++ T = strOf (45 :: Lib.decDigits U) := by rw [hT]; exact (strOf_app [45] _).symm
            have hTs : T.size ≤ 20 := by rw [hT, strOf_size]; exact h20
            have hov2 : ¬ 9223372036854775807 < (⟨#[45]⟩ : ByteArray).size + T.size := by have : (⟨#[45]⟩ : ByteArray).size = 1 := rfl; omega
            have hov3 : ¬ 9223372036854775807 < 1 + T.size := by omega
            rw [← hT] at hte ⊢
            obtain ⟨T2, hT2⟩ : ∃ T, T = strOf (45 :: Lib.decDigits U) := ⟨_, rfl⟩
            rw [← hT2] at hSg hNu hap
            clear hD h20 hgo htn hT hT2 hg
            go_wp2_with (first
              | (go_at_call 31; with_reducible refine (hSg _).mono ?_; rintro e wx ⟨rfl, hb⟩; replace HB := Lib.hid (bstep HB.out hb); clear hb)
              | (go_at_call 27; with_reducible refine (wordL_any _ _ _ _).mono ?_; rintro e wx ⟨rfl, hb⟩; replace HB := Lib.hid (bstep HB.out hb); clear hb)
              | (go_at_call 17; with_reducible refine (hNu _).mono ?_; rintro e wx ⟨rfl, hb⟩; replace HB := Lib.hid (bstep HB.out hb); clear hb))
            go_ret
            exact ⟨rfl, HB.out⟩
      · have hS3 := hS2 rfl
        clear hS2
        go_enter Tryd.func8, Tryd.ntmps8
        go_wp2_with (first
          | (go_at_call 5; with_reducible refine (known_any _).mono ?_; rintro e wx ⟨rfl, hb⟩; replace HB := Lib.hid (bstep HB.out hb); clear hb)
          | (go_at_call 27; with_reducible refine (wordL_any _ _ _ _).mono ?_; rintro e wx ⟨rfl, hb⟩; replace HB := Lib.hid (bstep HB.out hb); clear hb)
          | (go_at_call 15; with_reducible refine (hW _).mono ?_; rintro e wx ⟨rfl, hb⟩; replace HB := Lib.hid (bstep HB.out hb); clear hb)
          | (go_at_call 26; with_reducible refine (hS1 _).mono ?_; rintro e wx ⟨rfl, hb⟩; replace HB := Lib.hid (bstep HB.out hb); clear hb)
          | (go_at_call 26; with_reducible refine (hS3 _).mono ?_; rintro e wx ⟨rfl, hb⟩; replace HB := Lib.hid (bstep HB.out hb); clear hb)
          | (go_at_call 29; with_reducible refine (hB _).mono ?_; rintro e wx ⟨rfl, rfl⟩))
        go_loopg [8, 9] (2 * U + 1) (fun g lv tv wr => ∃ (u : Nat) (t : List UInt8), lv = .int .u64 (u : Int) ∧ tv = .string (strOf t) ∧ Hid (DigI U u t) ∧ g = 2 * u + (if t = [] then 1 else 0) ∧ Hid (Below w.heap.size w wr))
        case atStart => exact ⟨U, [], rfl, rfl, Lib.hid ⟨Nat.le_refl _, Nat.zero_le _, .inl ⟨rfl, rfl⟩⟩, rfl, HB⟩
        case round =>
          clear HB
          obtain ⟨u, t, rfl, rfl, hD, hg, HB⟩ := hrel
          by_cases hgo : 0 < u ∨ t = []
          · have hD2 := Lib.hid (hD.out.step hgo)
            have hge : 2 * (u / 10) + 0 < gk := by
              rcases hgo with h | h
              · omega
              · rw [if_pos h] at hg; omega
            have hul : u < 9223372036854775809 := by have := hD.out.1; omega
            have htl : t.length ≤ 20 := by have := hD.out.2.1; have := dec_len20 (U := U) (by omega); omega
            have hts := strOf_size t
            obtain ⟨r, hr⟩ : ∃ r, r = u % 10 := ⟨_, rfl⟩
            have hr10 : r < 10 := by omega
            have e1 : (u : Int) % 10 = (r : Int) := by omega
            have e0 : IntKind.u64.wrap (r : Int) = (r : Int) := IntWalk.u64_in _ ⟨by omega, by omega⟩
            have e2 : IntKind.u64.wrap (48 + (r : Int)) = 48 + (r : Int) := IntWalk.u64_in _ ⟨by omega, by omega⟩
            have e3 : IntKind.u8.wrap (48 + (r : Int)) = 48 + (r : Int) := IntWalk.u8_in _ ⟨by omega, by omega⟩
            have hcv := fun W => dig_conv W r hr10
            obtain ⟨q, hq⟩ : ∃ q, q = u / 10 := ⟨_, rfl⟩
            have e4 : (u : Int) / 10 = (q : Int) := by omega
            have e5 : IntKind.u64.wrap (q : Int) = (q : Int) := IntWalk.u64_in _ ⟨by omega, by omega⟩
            rw [← hr, ← hq] at hD2
            have happ : (strOf [UInt8.ofNat (48 + r)] ++ strOf t : ByteArray) = strOf (UInt8.ofNat (48 + r) :: t) := (strOf_app _ _).symm
            rw [← hq] at hge
            obtain ⟨d, hd⟩ : ∃ d, d = UInt8.ofNat (48 + r) := ⟨_, rfl⟩
            rw [← hd] at hcv happ hD2
            have hds : (strOf [d]).size = 1 := rfl
            have hov : ¬ 9223372036854775807 < (strOf [d]).size + t.length := by omega
            clear hr hq hg hd
            by_cases hu : 0 < u
            · have hu' : (0 : Int) < (u : Int) := by omega
              go_wp2
              go_roundg (2 * q)
              case measure => omega
              case rel => exact ⟨q, d :: t, rfl, rfl, hD2, by simp, Lib.hid (HB.out.alloc HB.out.size _)⟩
            · obtain rfl : t = [] := hgo.resolve_left hu
              have hu' : ¬ (0 : Int) < (u : Int) := by omega
              have hte : (strOf []).toList.isEmpty = true := by decide +kernel
              go_wp2
              go_roundg (2 * q)
              case measure => omega
              case rel => exact ⟨q, [d], rfl, rfl, hD2, by simp, Lib.hid (HB.out.alloc HB.out.size _)⟩
          · obtain rfl : u = 0 := by omega
            have htn : t ≠ [] := fun h => hgo (.inr h)
            have hte := strOf_empty htn
            obtain rfl := hD.out.done htn
            have h20 := dec_len20 (U := U) (by omega)
            have hSg := fun w => signedL_any (strOf (45 :: Lib.decDigits U)) (by rw [strOf_size, List.length_cons]; omega) w
            have hNu := fun w => numM (u := U) h20 w
            rw [strOf_dat, hsi] at hSg
            obtain ⟨T, hT⟩ : ∃ T, T = strOf (Lib.decDigits U) := ⟨_, rfl⟩
            have hap : (⟨#[45]⟩ : ByteArray) ++ T = strOf (45 :: Lib.decDigits U) := by rw [hT]; exact (strOf_app [45] _).symm
            have hTs : T.size ≤ 20 := by rw [hT, strOf_size]; exact h20
            have hov2 : ¬ 9223372036854775807 < (⟨#[45]⟩ : ByteArray).size + T.size := by have : (⟨#[45]⟩ : ByteArray).size = 1 := rfl; omega
            have hov3 : ¬ 9223372036854775807 < 1 + T.size := by omega
            rw [← hT] at hte ⊢
            obtain ⟨T2, hT2⟩ : ∃ T, T = strOf (45 :: Lib.decDigits U) := ⟨_, rfl⟩
            rw [← hT2] at hSg hNu hap
            clear hD h20 hgo htn hT hT2 hg
            go_wp2_with (first
              | (go_at_call 31; with_reducible refine (hSg _).mono ?_; rintro e wx ⟨rfl, hb⟩; replace HB := Lib.hid (bstep HB.out hb); clear hb)
              | (go_at_call 27; with_reducible refine (wordL_any _ _ _ _).mono ?_; rintro e wx ⟨rfl, hb⟩; replace HB := Lib.hid (bstep HB.out hb); clear hb)
              | (go_at_call 17; with_reducible refine (hNu _).mono ?_; rintro e wx ⟨rfl, hb⟩; replace HB := Lib.hid (bstep HB.out hb); clear hb))
            go_ret
            exact ⟨rfl, HB.out⟩
    · have hU : n = ((n.toNat : Nat) : Int) := by omega
      have hUt : n.toNat < 9223372036854775808 := by omega
      obtain ⟨U, hUe⟩ : ∃ U, U = n.toNat := ⟨_, rfl⟩
      rw [← hUe] at hU hUt
      subst hU
      have cU : IntKind.u64.wrap (U : Int) = (U : Int) := IntWalk.u64_in _ ⟨by omega, by omega⟩
      clear hUe hn1 hn2
      cases b
      · clear hS2
        go_enter Tryd.func8, Tryd.ntmps8
        go_wp2_with (first
          | (go_at_call 5; with_reducible refine (known_any _).mono ?_; rintro e wx ⟨rfl, hb⟩; replace HB := Lib.hid (bstep HB.out hb); clear hb)
          | (go_at_call 27; with_reducible refine (wordL_any _ _ _ _).mono ?_; rintro e wx ⟨rfl, hb⟩; replace HB := Lib.hid (bstep HB.out hb); clear hb)
          | (go_at_call 15; with_reducible refine (hW _).mono ?_; rintro e wx ⟨rfl, hb⟩; replace HB := Lib.hid (bstep HB.out hb); clear hb)
          | (go_at_call 26; with_reducible refine (hS1 _).mono ?_; rintro e wx ⟨rfl, hb⟩; replace HB := Lib.hid (bstep HB.out hb); clear hb)
          | (go_at_call 29; with_reducible refine (hB _).mono ?_; rintro e wx ⟨rfl, rfl⟩))
        go_loopg [8, 9] (2 * U + 1) (fun g lv tv wr => ∃ (u : Nat) (t : List UInt8), lv = .int .u64 (u : Int) ∧ tv = .string (strOf t) ∧ Hid (DigI U u t) ∧ g = 2 * u + (if t = [] then 1 else 0) ∧ Hid (Below w.heap.size w wr))
        case atStart => exact ⟨U, [], rfl, rfl, Lib.hid ⟨Nat.le_refl _, Nat.zero_le _, .inl ⟨rfl, rfl⟩⟩, rfl, HB⟩
        case round =>
          clear HB
          obtain ⟨u, t, rfl, rfl, hD, hg, HB⟩ := hrel
          by_cases hgo : 0 < u ∨ t = []
          · have hD2 := Lib.hid (hD.out.step hgo)
            have hge : 2 * (u / 10) + 0 < gk := by
              rcases hgo with h | h
              · omega
              · rw [if_pos h] at hg; omega
            have hul : u < 9223372036854775809 := by have := hD.out.1; omega
            have htl : t.length ≤ 20 := by have := hD.out.2.1; have := dec_len20 (U := U) (by omega); omega
            have hts := strOf_size t
            obtain ⟨r, hr⟩ : ∃ r, r = u % 10 := ⟨_, rfl⟩
            have hr10 : r < 10 := by omega
            have e1 : (u : Int) % 10 = (r : Int) := by omega
            have e0 : IntKind.u64.wrap (r : Int) = (r : Int) := IntWalk.u64_in _ ⟨by omega, by omega⟩
            have e2 : IntKind.u64.wrap (48 + (r : Int)) = 48 + (r : Int) := IntWalk.u64_in _ ⟨by omega, by omega⟩
            have e3 : IntKind.u8.wrap (48 + (r : Int)) = 48 + (r : Int) := IntWalk.u8_in _ ⟨by omega, by omega⟩
            have hcv := fun W => dig_conv W r hr10
            obtain ⟨q, hq⟩ : ∃ q, q = u / 10 := ⟨_, rfl⟩
            have e4 : (u : Int) / 10 = (q : Int) := by omega
            have e5 : IntKind.u64.wrap (q : Int) = (q : Int) := IntWalk.u64_in _ ⟨by omega, by omega⟩
            rw [← hr, ← hq] at hD2
            have happ : (strOf [UInt8.ofNat (48 + r)] ++ strOf t : ByteArray) = strOf (UInt8.ofNat (48 + r) :: t) := (strOf_app _ _).symm
            rw [← hq] at hge
            obtain ⟨d, hd⟩ : ∃ d, d = UInt8.ofNat (48 + r) := ⟨_, rfl⟩
            rw [← hd] at hcv happ hD2
            have hds : (strOf [d]).size = 1 := rfl
            have hov : ¬ 9223372036854775807 < (strOf [d]).size + t.length := by omega
            clear hr hq hg hd
            by_cases hu : 0 < u
            · have hu' : (0 : Int) < (u : Int) := by omega
              go_wp2
              go_roundg (2 * q)
              case measure => omega
              case rel => exact ⟨q, d :: t, rfl, rfl, hD2, by simp, Lib.hid (HB.out.alloc HB.out.size _)⟩
            · obtain rfl : t = [] := hgo.resolve_left hu
              have hu' : ¬ (0 : Int) < (u : Int) := by omega
              have hte : (strOf []).toList.isEmpty = true := by decide +kernel
              go_wp2
              go_roundg (2 * q)
              case measure => omega
              case rel => exact ⟨q, [d], rfl, rfl, hD2, by simp, Lib.hid (HB.out.alloc HB.out.size _)⟩
          · obtain rfl : u = 0 := by omega
            have htn : t ≠ [] := fun h => hgo (.inr h)
            have hte := strOf_empty htn
            obtain rfl := hD.out.done htn
            have h20 := dec_len20 (U := U) (by omega)
            have hSg := fun w => signedL_any (strOf (Lib.decDigits U)) (by rw [strOf_size]; omega) w
            have hNu := fun w => numK (u := U) (by unfold top; omega) w
            have hsi := sgnG_itoa (U : Int) (by omega) (by omega)
            rw [itoa_pos (by omega), Int.toNat_natCast] at hsi
            rw [strOf_dat, hsi] at hSg
            obtain ⟨T, hT⟩ : ∃ T, T = strOf (Lib.decDigits U) := ⟨_, rfl⟩
            rw [← hT] at hSg hNu hte ⊢
            have hTs : T.size ≤ 20 := by rw [hT, strOf_size]; exact h20
            have cU' : (0 : Int) ≤ (U : Int) := by omega
            clear hD hsi h20 hgo htn hT hg
            go_wp2_with (first
              | (go_at_call 31; with_reducible refine (hSg _).mono ?_; rintro e wx ⟨rfl, hb⟩; replace HB := Lib.hid (bstep HB.out hb); clear hb)
              | (go_at_call 27; with_reducible refine (wordL_any _ _ _ _).mono ?_; rintro e wx ⟨rfl, hb⟩; replace HB := Lib.hid (bstep HB.out hb); clear hb)
              | (go_at_call 17; with_reducible refine (hNu _).mono ?_; rintro e wx ⟨rfl, hb⟩; replace HB := Lib.hid (bstep HB.out hb); clear hb))
            go_ret
            exact ⟨rfl, HB.out⟩
      · have hS3 := hS2 rfl
        clear hS2
        go_enter Tryd.func8, Tryd.ntmps8
        go_wp2_with (first
          | (go_at_call 5; with_reducible refine (known_any _).mono ?_; rintro e wx ⟨rfl, hb⟩; replace HB := Lib.hid (bstep HB.out hb); clear hb)
          | (go_at_call 27; with_reducible refine (wordL_any _ _ _ _).mono ?_; rintro e wx ⟨rfl, hb⟩; replace HB := Lib.hid (bstep HB.out hb); clear hb)
          | (go_at_call 15; with_reducible refine (hW _).mono ?_; rintro e wx ⟨rfl, hb⟩; replace HB := Lib.hid (bstep HB.out hb); clear hb)
          | (go_at_call 26; with_reducible refine (hS1 _).mono ?_; rintro e wx ⟨rfl, hb⟩; replace HB := Lib.hid (bstep HB.out hb); clear hb)
          | (go_at_call 26; with_reducible refine (hS3 _).mono ?_; rintro e wx ⟨rfl, hb⟩; replace HB := Lib.hid (bstep HB.out hb); clear hb)
          | (go_at_call 29; with_reducible refine (hB _).mono ?_; rintro e wx ⟨rfl, rfl⟩))
        go_loopg [8, 9] (2 * U + 1) (fun g lv tv wr => ∃ (u : Nat) (t : List UInt8), lv = .int .u64 (u : Int) ∧ tv = .string (strOf t) ∧ Hid (DigI U u t) ∧ g = 2 * u + (if t = [] then 1 else 0) ∧ Hid (Below w.heap.size w wr))
        case atStart => exact ⟨U, [], rfl, rfl, Lib.hid ⟨Nat.le_refl _, Nat.zero_le _, .inl ⟨rfl, rfl⟩⟩, rfl, HB⟩
        case round =>
          clear HB
          obtain ⟨u, t, rfl, rfl, hD, hg, HB⟩ := hrel
          by_cases hgo : 0 < u ∨ t = []
          · have hD2 := Lib.hid (hD.out.step hgo)
            have hge : 2 * (u / 10) + 0 < gk := by
              rcases hgo with h | h
              · omega
              · rw [if_pos h] at hg; omega
            have hul : u < 9223372036854775809 := by have := hD.out.1; omega
            have htl : t.length ≤ 20 := by have := hD.out.2.1; have := dec_len20 (U := U) (by omega); omega
            have hts := strOf_size t
            obtain ⟨r, hr⟩ : ∃ r, r = u % 10 := ⟨_, rfl⟩
            have hr10 : r < 10 := by omega
            have e1 : (u : Int) % 10 = (r : Int) := by omega
            have e0 : IntKind.u64.wrap (r : Int) = (r : Int) := IntWalk.u64_in _ ⟨by omega, by omega⟩
            have e2 : IntKind.u64.wrap (48 + (r : Int)) = 48 + (r : Int) := IntWalk.u64_in _ ⟨by omega, by omega⟩
            have e3 : IntKind.u8.wrap (48 + (r : Int)) = 48 + (r : Int) := IntWalk.u8_in _ ⟨by omega, by omega⟩
            have hcv := fun W => dig_conv W r hr10
            obtain ⟨q, hq⟩ : ∃ q, q = u / 10 := ⟨_, rfl⟩
            have e4 : (u : Int) / 10 = (q : Int) := by omega
            have e5 : IntKind.u64.wrap (q : Int) = (q : Int) := IntWalk.u64_in _ ⟨by omega, by omega⟩
            rw [← hr, ← hq] at hD2
            have happ : (strOf [UInt8.ofNat (48 + r)] ++ strOf t : ByteArray) = strOf (UInt8.ofNat (48 + r) :: t) := (strOf_app _ _).symm
            rw [← hq] at hge
            obtain ⟨d, hd⟩ : ∃ d, d = UInt8.ofNat (48 + r) := ⟨_, rfl⟩
            rw [← hd] at hcv happ hD2
            have hds : (strOf [d]).size = 1 := rfl
            have hov : ¬ 9223372036854775807 < (strOf [d]).size + t.length := by omega
            clear hr hq hg hd
            by_cases hu : 0 < u
            · have hu' : (0 : Int) < (u : Int) := by omega
              go_wp2
              go_roundg (2 * q)
              case measure => omega
              case rel => exact ⟨q, d :: t, rfl, rfl, hD2, by simp, Lib.hid (HB.out.alloc HB.out.size _)⟩
            · obtain rfl : t = [] := hgo.resolve_left hu
              have hu' : ¬ (0 : Int) < (u : Int) := by omega
              have hte : (strOf []).toList.isEmpty = true := by decide +kernel
              go_wp2
              go_roundg (2 * q)
              case measure => omega
              case rel => exact ⟨q, [d], rfl, rfl, hD2, by simp, Lib.hid (HB.out.alloc HB.out.size _)⟩
          · obtain rfl : u = 0 := by omega
            have htn : t ≠ [] := fun h => hgo (.inr h)
            have hte := strOf_empty htn
            obtain rfl := hD.out.done htn
            have h20 := dec_len20 (U := U) (by omega)
            have hSg := fun w => signedL_any (strOf (Lib.decDigits U)) (by rw [strOf_size]; omega) w
            have hNu := fun w => numK (u := U) (by unfold top; omega) w
            have hsi := sgnG_itoa (U : Int) (by omega) (by omega)
            rw [itoa_pos (by omega), Int.toNat_natCast] at hsi
            rw [strOf_dat, hsi] at hSg
            obtain ⟨T, hT⟩ : ∃ T, T = strOf (Lib.decDigits U) := ⟨_, rfl⟩
            rw [← hT] at hSg hNu hte ⊢
            have hTs : T.size ≤ 20 := by rw [hT, strOf_size]; exact h20
            have cU' : (0 : Int) ≤ (U : Int) := by omega
            clear hD hsi h20 hgo htn hT hg
            go_wp2_with (first
              | (go_at_call 31; with_reducible refine (hSg _).mono ?_; rintro e wx ⟨rfl, hb⟩; replace HB := Lib.hid (bstep HB.out hb); clear hb)
              | (go_at_call 27; with_reducible refine (wordL_any _ _ _ _).mono ?_; rintro e wx ⟨rfl, hb⟩; replace HB := Lib.hid (bstep HB.out hb); clear hb)
              | (go_at_call 17; with_reducible refine (hNu _).mono ?_; rintro e wx ⟨rfl, hb⟩; replace HB := Lib.hid (bstep HB.out hb); clear hb))
            go_ret
            exact ⟨rfl, HB.out⟩
theorem bytes_any (s : ByteArray) (n : Int) (hn1 : -9223372036854775808 ≤ n) (hn2 : n ≤ 9223372036854775807) (w : World) :
    Calls Tryd.prog 8 #[.string s, .int .i64 n] w fun e w' => e = .returned (.bool true) ∧ Below w.heap.size w w' := by
  rw [str_is (s := s) rfl]
  exact rowBytes_any s.data.toList n hn1 hn2 w
end Go.Proofs.YtkmkhegekonbmaaDoor
