/- Walks: the program's reader goes behind one token, kind by kind. -/
import Derived.Test.YtmdlndmibodimaaDoorTokF
import Derived.Test.YtmdlndmibodimaaDoorTokMath
namespace Go.Proofs.YtmdlndmibodimaaDoor
open Go.RowKit
open Tk7

theorem Only.undrewN {b : Nat} {w w1 : World} {n : Nat} (h : Only b (w.drewN n) w1) : Only b w w1 := ((Only.refl b w).drewN n).trans h
theorem while_len (p : UInt8 → Bool) (l : List UInt8) : (l.takeWhile p).length ≤ l.length := (List.takeWhile_sublist p).length_le
set_option maxRecDepth 100000 in
set_option maxHeartbeats 2000000 in
theorem pass_small {w : World} {R : Nat} {s : ByteArray} {k : Nat} (h : Cur w R s k k) (hk : k < s.size) (hs : s.size ≤ maxLen) (hb : smallB (s[k]'hk) = true) :
    Calls Tryd.prog 33 #[.pointer (some ⟨R, 0, none⟩)] w (PassP w R s k) := by
  have hr := rest_cons hk
  have hK := fun w => kindOf_any (s[k]'hk) w
  rw [kindB_1 hb] at hK
  have hS := fun n => skip_small (h.drewN n) (Nat.le_of_lt hk) hs
  have hbeg : begG (restAt s k) = (1, ((restAt s k).takeWhile smallB).length) := by rw [hr, beg_1 hb, while_true hb]
  have hz : ((restAt s k).takeWhile smallB).length ≠ 0 := by rw [hr, while_true hb]; omega
  have hle : k + ((restAt s k).takeWhile smallB).length ≤ s.size := by have := while_len smallB (restAt s k); rw [restAt_len] at this; omega
  have hkr := kindR_of hbeg
  rw [if_neg hz] at hkr
  have h2 := congrArg Prod.snd hbeg
  have HK := Lib.hid hkr
  have H2 := Lib.hid h2
  have HL := Lib.hid hle
  have HC := Lib.hid h
  have g1 : (0 : Int) ≤ (k : Int) := by omega
  have g2 : (k : Int) < (s.size : Int) := by omega
  obtain ⟨hlt, c0, c1, c2, f0, f1, f2⟩ := h.parts
  clear hr hbeg hz hle hkr h2 h
  go_enter Tryd.func33, Tryd.ntmps33
  go_wp2
  go_quiet ((go_at_call 46; exact quiet_same (hK _)))
  go_wp2_with (go_at_call 44; refine (hS _).mono ?_; rintro e w1 ⟨rfl, hO, hC⟩)
  go_ret
  exact ⟨_, by rw [HK.out]; rfl, hO.undrewN, hC, HL.out, by omega, fun _ => by rw [H2.out]⟩
set_option maxRecDepth 100000 in
set_option maxHeartbeats 2000000 in
theorem pass_large {w : World} {R : Nat} {s : ByteArray} {k : Nat} (h : Cur w R s k k) (hk : k < s.size) (hs : s.size ≤ maxLen) (h0 : smallB (s[k]'hk) = false) (hb : largeB (s[k]'hk) = true) :
    Calls Tryd.prog 33 #[.pointer (some ⟨R, 0, none⟩)] w (PassP w R s k) := by
  have hr := rest_cons hk
  have hK := fun w => kindOf_any (s[k]'hk) w
  rw [kindB_2 h0 hb] at hK
  have hbeg : begG (restAt s k) = (2, 1) := by rw [hr, beg_2 h0 hb]
  have hkr := kindR_of hbeg
  rw [if_neg (by decide)] at hkr
  have h2 := congrArg Prod.snd hbeg
  have HK := Lib.hid hkr
  have H2 := Lib.hid h2
  have HC := Lib.hid h
  have g1 : (0 : Int) ≤ (k : Int) := by omega
  have g2 : (k : Int) < (s.size : Int) := by omega
  unfold maxLen at hs
  have hw : IntKind.i64.wrap ((k : Int) + 1) = (k : Int) + 1 := IntWalk.i64_in _ ⟨by omega, by omega⟩
  obtain ⟨hlt, c0, c1, c2, f0, f1, f2⟩ := h.parts
  clear hr hbeg hkr h2 h
  go_enter Tryd.func33, Tryd.ntmps33
  go_wp2
  go_quiet ((go_at_call 46; exact quiet_same (hK _)))
  go_wp2
  go_ret
  exact ⟨k + 1, by rw [HK.out]; rfl, ((Only.refl _ _).drewN _).setCell _ _, (HC.out.drewN _).step _ _ (by go_num), by omega, by omega, fun _ => by rw [H2.out]⟩
/-- What the two kinds of numbers share, behind the digits. -/
theorem num_end {w w1 : World} {R : Nat} {s : ByteArray} {k n m : Nat} (hn : k + n ≤ s.size) (hb : begG (restAt s k) = (3, if isNumG ((restAt s k).take n) then n else 0)) (hO : Only R w w1) (hC : Cur w1 R s (k + n) k) (hpos : n ≠ 0) (e : Ending)
    (he : e = .returned (.int .i64 (if isNumG ((restAt s k).take n) then 3 else 0))) : PassP w R s k e (w1.drewN m) := by
  have hkr := kindR_of hb
  refine ⟨k + n, ?_, hO.drewN _, hC.drewN _, hn, by omega, fun h => ?_⟩
  · rw [he, hkr]
    cases isNumG ((restAt s k).take n) with
    | true => simp [hpos]
    | false => simp
  · rw [hkr] at h
    rw [hb]
    cases hz : isNumG ((restAt s k).take n) with
    | true => simp
    | false => simp [hz] at h
set_option maxRecDepth 100000 in
set_option maxHeartbeats 2000000 in
theorem pass_dig {w : World} {R : Nat} {s : ByteArray} {k : Nat} (h : Cur w R s k k) (hk : k < s.size) (hs : s.size ≤ maxLen) (h0 : smallB (s[k]'hk) = false) (h1 : largeB (s[k]'hk) = false) (hb : digB (s[k]'hk) = true) :
    Calls Tryd.prog 33 #[.pointer (some ⟨R, 0, none⟩)] w (PassP w R s k) := by
  have hr := rest_cons hk
  have hK := fun w => kindOf_any (s[k]'hk) w
  rw [kindB_3 h0 h1 hb] at hK
  have hS := fun n => skip_digit (h.drewN n) (Nat.le_of_lt hk) hs
  have hle : k + ((restAt s k).takeWhile digB).length ≤ s.size := by have := while_len digB (restAt s k); rw [restAt_len] at this; omega
  have hz : ((restAt s k).takeWhile digB).length ≠ 0 := by rw [hr, while_true hb]; omega
  have htk : (restAt s k).take ((restAt s k).takeWhile digB).length = (restAt s k).takeWhile digB := takeWhile_take _ _
  have hbeg : begG (restAt s k) = (3, if isNumG ((restAt s k).take ((restAt s k).takeWhile digB).length) then ((restAt s k).takeWhile digB).length else 0) := by
    rw [htk, hr, beg_3 h0 h1 (by rw [hb]; rfl), num_dig hb, List.takeWhile_cons, if_pos hb, List.length_cons]
  obtain ⟨n, hn⟩ : ∃ n, n = ((restAt s k).takeWhile digB).length := ⟨_, rfl⟩
  rw [← hn] at hS hle hz hbeg
  have hT := fun (w1 : World) (hC : Cur w1 R s (k + n) k) => taken_any hC hle (by omega) ((restAt s k).take n) (by rw [show k + n - k = n by omega])
  have hN := fun w => isNumber_any ((restAt s k).take n) w
  have HB := Lib.hid hbeg
  obtain ⟨T, hTT⟩ : ∃ T, T = (restAt s k).take n := ⟨_, rfl⟩
  rw [← hTT] at hT hN
  obtain ⟨q, hq⟩ : ∃ q, q = isNumG T := ⟨_, rfl⟩
  rw [← hq] at hN
  have HQ := Lib.hid (show isNumG ((restAt s k).take n) = q by rw [hq, hTT])
  have g1 : (0 : Int) ≤ (k : Int) := by omega
  have g2 : (k : Int) < (s.size : Int) := by omega
  obtain ⟨hlt, c0, c1, c2, f0, f1, f2⟩ := h.parts
  have HZ := Lib.hid hz
  clear hr hbeg htk hn hTT hq h hz
  cases q
  · go_enter Tryd.func33, Tryd.ntmps33
    go_wp2
    go_quiet ((go_at_call 46; exact quiet_same (hK _)))
    go_wp2_with (first
      | (go_at_call 44; refine (hS _).mono ?_; rintro e w1 ⟨rfl, hO, hC⟩)
      | (go_at_call 34; refine (hT _ hC).mono ?_; rintro e w2 ⟨rfl, m, rfl⟩)
      | (go_at_call 49; refine (hN _).mono ?_; rintro e w' ⟨rfl, rfl⟩))
    go_ret
    exact num_end hle HB.out hO.undrewN hC HZ.out _ (by rw [HQ.out]; rfl)
  · go_enter Tryd.func33, Tryd.ntmps33
    go_wp2
    go_quiet ((go_at_call 46; exact quiet_same (hK _)))
    go_wp2_with (first
      | (go_at_call 44; refine (hS _).mono ?_; rintro e w1 ⟨rfl, hO, hC⟩)
      | (go_at_call 34; refine (hT _ hC).mono ?_; rintro e w2 ⟨rfl, m, rfl⟩)
      | (go_at_call 49; refine (hN _).mono ?_; rintro e w' ⟨rfl, rfl⟩))
    go_ret
    exact num_end hle HB.out hO.undrewN hC HZ.out _ (by rw [HQ.out]; rfl)
set_option maxRecDepth 100000 in
set_option maxHeartbeats 2000000 in
theorem pass_min {w : World} {R : Nat} {s : ByteArray} {k : Nat} (h : Cur w R s k k) (hk : k < s.size) (hs : s.size ≤ maxLen) (hb : s[k]'hk = 45) :
    Calls Tryd.prog 33 #[.pointer (some ⟨R, 0, none⟩)] w (PassP w R s k) := by
  have hr := rest_cons hk
  have hK := fun w => kindOf_any (s[k]'hk) w
  have e0 : smallB 45 = false := by decide
  have e1 : largeB 45 = false := by decide
  have e2 : digB 45 = false := by decide
  have e3 : kindB 45 = 5 := by decide
  rw [hb, e3] at hK
  rw [hb] at hr
  have hS := fun (W : World) (hC : Cur W R s (k + 1) k) => skip_digit hC hk hs
  have hle : k + 1 + ((restAt s (k + 1)).takeWhile digB).length ≤ s.size := by have := while_len digB (restAt s (k + 1)); rw [restAt_len] at this; omega
  have htk : (restAt s k).take (((restAt s (k + 1)).takeWhile digB).length + 1) = 45 :: (restAt s (k + 1)).takeWhile digB := by rw [hr, List.take_succ_cons, takeWhile_take]
  have hbeg : begG (restAt s k) = (3, if isNumG ((restAt s k).take (((restAt s (k + 1)).takeWhile digB).length + 1)) then ((restAt s (k + 1)).takeWhile digB).length + 1 else 0) := by
    rw [htk, hr, beg_3 e0 e1 (by decide), num_min]
  obtain ⟨n, hn⟩ : ∃ n, n = ((restAt s (k + 1)).takeWhile digB).length := ⟨_, rfl⟩
  rw [← hn] at hS hle hbeg
  have hS2 : ∀ (W : World) (hC : Cur W R s (k + 1) k), Calls Tryd.prog 44 #[.pointer (some ⟨R, 0, none⟩), .func (.func 48) #[] #[]] W fun e w' => e = .returned (.tuple #[]) ∧ Only R W w' ∧ Cur w' R s (k + (n + 1)) k := fun W hC => by
    have := hS W hC
    rw [show k + 1 + n = k + (n + 1) by omega] at this
    exact this
  have hT := fun (w1 : World) (hC : Cur w1 R s (k + (n + 1)) k) => taken_any hC (by omega) (by omega) ((restAt s k).take (n + 1)) (by rw [show k + (n + 1) - k = n + 1 by omega])
  have hN := fun w => isNumber_any ((restAt s k).take (n + 1)) w
  have HB := Lib.hid hbeg
  obtain ⟨T, hTT⟩ : ∃ T, T = (restAt s k).take (n + 1) := ⟨_, rfl⟩
  rw [← hTT] at hT hN
  obtain ⟨q, hq⟩ : ∃ q, q = isNumG T := ⟨_, rfl⟩
  rw [← hq] at hN
  have HQ := Lib.hid (show isNumG ((restAt s k).take (n + 1)) = q by rw [hq, hTT])
  have g1 : (0 : Int) ≤ (k : Int) := by omega
  have g2 : (k : Int) < (s.size : Int) := by omega
  have hb45 : (((s[k]'hk).toNat : Nat) : Int) = 45 := by rw [hb]; rfl
  have h45 : (((45 : UInt8).toNat : Nat) : Int) = 45 := rfl
  rw [h45] at hK
  obtain ⟨hlt, c0, c1, c2, f0, f1, f2⟩ := h.parts
  have hs' := hs
  unfold maxLen at hs'
  have hw : IntKind.i64.wrap ((k : Int) + 1) = (k : Int) + 1 := IntWalk.i64_in _ ⟨by omega, by omega⟩
  have HC := Lib.hid h
  clear hr hbeg htk hn hTT hq hS e0 e1 e2 e3 h45 hb h
  cases q
  · go_enter Tryd.func33, Tryd.ntmps33
    go_wp2
    go_quiet ((go_at_call 46; exact quiet_same (hK _)))
    go_wp2_with (first
      | (go_at_call 44; refine (hS2 _ ((HC.out.drewN _).step _ _ (by go_num))).mono ?_; rintro e w1 ⟨rfl, hO, hC⟩)
      | (go_at_call 34; refine (hT _ hC).mono ?_; rintro e w2 ⟨rfl, m, rfl⟩)
      | (go_at_call 49; refine (hN _).mono ?_; rintro e w' ⟨rfl, rfl⟩))
    go_ret
    exact num_end (by omega) HB.out ((((Only.refl _ _).drewN _).setCell _ _).trans hO) hC (by omega) _ (by rw [HQ.out]; rfl)
  · go_enter Tryd.func33, Tryd.ntmps33
    go_wp2
    go_quiet ((go_at_call 46; exact quiet_same (hK _)))
    go_wp2_with (first
      | (go_at_call 44; refine (hS2 _ ((HC.out.drewN _).step _ _ (by go_num))).mono ?_; rintro e w1 ⟨rfl, hO, hC⟩)
      | (go_at_call 34; refine (hT _ hC).mono ?_; rintro e w2 ⟨rfl, m, rfl⟩)
      | (go_at_call 49; refine (hN _).mono ?_; rintro e w' ⟨rfl, rfl⟩))
    go_ret
    exact num_end (by omega) HB.out ((((Only.refl _ _).drewN _).setCell _ _).trans hO) hC (by omega) _ (by rw [HQ.out]; rfl)
end Go.Proofs.YtmdlndmibodimaaDoor
