/- Walk: the program's reader goes behind one sign; then behind any token. -/
import Derived.Test.YtmdlndmibodimaaDoorTokG
import Derived.Deep.RegionWith
namespace Go.Proofs.YtmdlndmibodimaaDoor
open Go.RowKit
open Tk7

set_option maxRecDepth 100000 in
set_option maxHeartbeats 4000000 in
theorem pass_sign {w : World} {R : Nat} {s : ByteArray} {k : Nat} (h : Cur w R s k k) (hk : k < s.size) (hs : s.size ≤ maxLen) (h0 : smallB (s[k]'hk) = false) (h1 : largeB (s[k]'hk) = false) (h2 : digB (s[k]'hk) = false) (hb : ((s[k]'hk) == 45) = false) (hG : SG w) :
    Calls Tryd.prog 33 #[.pointer (some ⟨R, 0, none⟩)] w (PassP w R s k) := by
  have hr := rest_cons hk
  have hK := fun w => kindOf_any (s[k]'hk) w
  rw [kindB_4 h0 h1 h2 hb] at hK
  have hbeg : begG (restAt s k) = (4, signG (restAt s k)) := by rw [hr, beg_4 h0 h1 (by rw [h2, hb]; rfl)]
  have hle := sign_le (restAt s k)
  rw [restAt_len] at hle
  have hS := fun W hG => signOf_any (restAt s k) (by rw [restAt_len]; omega) W hG
  have hex : s.extract k s.size = strOf (restAt s k) := by rw [ext_take, List.take_of_length_le (by rw [restAt_len]; omega)]
  rw [first_sign] at hS
  have htl : (strOf ((restAt s k).take (signG (restAt s k)))).size = signG (restAt s k) := by rw [strOf_size, List.length_take, restAt_len]; omega
  have HB := Lib.hid hbeg
  obtain ⟨n, hn⟩ : ∃ n, n = signG (restAt s k) := ⟨_, rfl⟩
  rw [← hn] at hle hS htl
  have HN := Lib.hid hn
  obtain ⟨T, hT⟩ : ∃ T, T = strOf ((restAt s k).take n) := ⟨_, rfl⟩
  rw [← hT] at hS htl
  obtain ⟨X, hX⟩ : ∃ X, X = strOf (restAt s k) := ⟨_, rfl⟩
  rw [← hX] at hS hex
  have g1 : (0 : Int) ≤ (k : Int) := by omega
  have g2 : (k : Int) < (s.size : Int) := by omega
  have g3 : (k : Int) ≤ (s.size : Int) := by omega
  have hs' := hs
  unfold maxLen at hs'
  have hw : IntKind.i64.wrap ((k : Int) + (n : Int)) = ((k + n : Nat) : Int) := by rw [IntWalk.i64_in _ ⟨by omega, by omega⟩]; omega
  have HC := Lib.hid h
  have HG := Lib.hid hG
  obtain ⟨hlt, c0, c1, c2, f0, f1, f2⟩ := h.parts
  clear hr hbeg hn hT hX h0 h1 h2 hb hG h
  go_enter Tryd.func33, Tryd.ntmps33
  go_wp2
  go_quiet ((go_at_call 46; exact quiet_same (hK _)))
  go_upto_region 15 with (fail)
  go_cut [2] (fun s2 wx => s2 = .int .i64 0 ∧ Only R w wx ∧ Cur wx R s (k + n) k)
  case first =>
    go_region_with ((go_at_call 50; refine (hS _ (by exact HG.out)).mono ?_; rintro e w1 ⟨rfl, m, rfl⟩))
    all_goals
      go_wp2_with fail
      go_meet
      exact ⟨rfl, ((Only.refl _ _).drewN _).setCell _ _, (HC.out.drewN _).step _ _ (by omega)⟩
  case rest =>
    obtain ⟨rfl, hO, hC⟩ := hcut
    obtain ⟨hlt, c0, c1, c2, f0, f1, f2⟩ := hC.parts
    have hle2 : k + n ≤ s.size := by omega
    have hk2 : n = 0 ∨ 0 < n := by omega
    have HL := Lib.hid hle
    clear hle hw
    rcases hk2 with rfl | hk2
    · have hkk : ¬ (k : Int) < ((k + 0 : Nat) : Int) := by omega
      go_wp2
      go_quiet (fail)
      go_wp2
      go_ret
      refine ⟨k + 0, ?_, hO.drewN _, hC.drewN _, hle2, by omega, fun h => ?_⟩
      · rw [kindR_of HB.out, ← HN.out]; rfl
      · rw [kindR_of HB.out, ← HN.out] at h; exact absurd rfl h
    · have hkk : (k : Int) < ((k + n : Nat) : Int) := by omega
      go_wp2
      go_quiet (fail)
      go_wp2
      go_ret
      refine ⟨k + n, ?_, hO.drewN _, hC.drewN _, hle2, by omega, fun _ => ?_⟩
      · rw [kindR_of HB.out, ← HN.out, if_neg (by omega)]; rfl
      · rw [HB.out, ← HN.out]
theorem pass_any {w : World} {R : Nat} {s : ByteArray} {k : Nat} (h : Cur w R s k k) (hk : k < s.size) (hs : s.size ≤ maxLen) (hG : SG w) :
    Calls Tryd.prog 33 #[.pointer (some ⟨R, 0, none⟩)] w (PassP w R s k) := by
  cases h0 : smallB (s[k]'hk) with
  | true => exact pass_small h hk hs h0
  | false =>
    cases h1 : largeB (s[k]'hk) with
    | true => exact pass_large h hk hs h0 h1
    | false =>
      cases h2 : digB (s[k]'hk) with
      | true => exact pass_dig h hk hs h0 h1 h2
      | false =>
        cases h3 : ((s[k]'hk) == 45) with
        | true => exact pass_min h hk hs (by simpa using h3)
        | false => exact pass_sign h hk hs h0 h1 h2 h3 hG
end Go.Proofs.YtmdlndmibodimaaDoor
