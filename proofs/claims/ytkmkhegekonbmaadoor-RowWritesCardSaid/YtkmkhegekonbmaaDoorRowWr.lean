/- The law RowWrites. -/
import Derived.Test.YtkmkhegekonbmaaDoorRowWB
import Derived.Test.YtkmkhegekonbmaaDoorRowWC
import Derived.Test.YtkmkhegekonbmaaDoorRowWD
import Derived.Test.YtkmkhegekonbmaaDoorRowLL
namespace Go.Proofs.YtkmkhegekonbmaaDoor
open Go.RowKit
open Rw6

set_option maxRecDepth 100000 in
set_option maxHeartbeats 4000000 in
theorem writes_any (v : Value) (rs : List (Int × List Wd)) (w : World) (hv : RSl w v rs) :
    Calls Tryd.prog 3 #[v] w fun e w' => e = .returned (.bool true) ∧ Below w.heap.size w w' := by
  have HB := Lib.hid (Below.refl w.heap.size w)
  have HV := Lib.hid hv
  have hLi := light_any v rs w hv
  obtain ⟨b, hb⟩ : ∃ b, b = lightB rs := ⟨_, rfl⟩
  rw [← hb] at hLi
  obtain ⟨A, cap, rfl, _⟩ := hv.at_
  cases b with
  | false =>
    clear hb hv
    go_enter Tryd.func3, Tryd.ntmps3
    go_wp2_with (first
      | (go_at_call 9; with_reducible refine hLi.mono ?_; rintro e wx ⟨rfl, rfl⟩)
      | (go_at_call 10; with_reducible refine (awake_any _).mono ?_; rintro e wx ⟨rfl, hb⟩; replace HB := Lib.hid (bstep HB.out hb); clear hb))
    go_ret
    exact ⟨rfl, HB.out⟩
  | true =>
    obtain ⟨h60, hsm⟩ := lightB_small hb.symm
    have hO := fun W (h : RSl W (.slice A rs.length cap) rs) => ownRows_any _ rs W h (by omega) (fun r hr => by have := (hsm r hr).1; omega)
    have hT := fun v W (h : RSl W v rs) => text_any v rs W h (fun r hr => by have := (hsm r hr).1; omega) (fun r hr x hx => by have := (hsm r hr).2 x hx; omega)
    have hF := fun v W (h : RSl W v rs) => refText_any v rs W h hsm
    obtain ⟨T, hTe⟩ : ∃ T, T = strOf (textI [] rs).1 := ⟨_, rfl⟩
    obtain ⟨E, hEe⟩ : ∃ E, E = (textI [] rs).2 := ⟨_, rfl⟩
    rw [← hTe, ← hEe] at hT hF
    clear hTe hEe hb hsm hv
    go_enter Tryd.func3, Tryd.ntmps3
    go_wp2_with (first
      | (go_at_call 9; with_reducible refine hLi.mono ?_; rintro e wx ⟨rfl, rfl⟩)
      | (go_at_call 11; with_reducible refine (hO _ HV.out).mono ?_; rintro e w1 ⟨hb, A1, c1, rfl, h⟩; have H1 := Lib.hid h; replace HV := Lib.hid (HV.out.later hb); replace HB := Lib.hid (bstep HB.out hb); clear hb h)
      | (go_at_call 12; with_reducible refine (hT _ _ H1.out).mono ?_; rintro e w2 ⟨rfl, hb⟩; replace H1 := Lib.hid (H1.out.later hb); replace HV := Lib.hid (HV.out.later hb); replace HB := Lib.hid (bstep HB.out hb); clear hb)
      | (go_at_call 13; with_reducible refine (hF _ _ HV.out).mono ?_; rintro e w3 ⟨rfl, hb⟩; replace H1 := Lib.hid (H1.out.later hb); replace HV := Lib.hid (HV.out.later hb); replace HB := Lib.hid (bstep HB.out hb); clear hb)
      | (go_at_call 14; with_reducible refine (sameRows_same _ _ rs _ H1.out HV.out).mono ?_; rintro e w4 ⟨rfl, n, rfl⟩; replace HB := Lib.hid (below_drewN HB.out n))
      | (go_at_call 10; with_reducible refine (awake_any _).mono ?_; rintro e wx ⟨rfl, hb⟩; replace HB := Lib.hid (bstep HB.out hb); clear hb))
    go_ret
    exact ⟨rfl, HB.out⟩
end Go.Proofs.YtkmkhegekonbmaaDoor
