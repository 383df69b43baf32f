/- Walk: the law's light. -/
import Derived.Test.YtkmkhegekonbmaaDoorRowGG
namespace Go.Proofs.YtkmkhegekonbmaaDoor
open Go.RowKit
open Rw6

def lightW (ws : List Wd) : Bool := ws.all fun x => decide (x.2.1.length ≤ 600)
def lightR (r : Int × List Wd) : Bool := decide (r.2.length ≤ 30) && lightW r.2
def lightB (rs : List (Int × List Wd)) : Bool := decide (rs.length ≤ 60) && rs.all lightR
theorem lightB_small {rs : List (Int × List Wd)} (h : lightB rs = true) : rs.length ≤ 60 ∧ ∀ r ∈ rs, r.2.length ≤ 30 ∧ ∀ x ∈ r.2, x.2.1.length ≤ 600 := by
  unfold lightB at h
  rw [Bool.and_eq_true, decide_eq_true_iff, List.all_eq_true] at h
  refine ⟨h.1, fun r hr => ?_⟩
  have := h.2 r hr
  unfold lightR lightW at this
  rw [Bool.and_eq_true, decide_eq_true_iff, List.all_eq_true] at this
  exact ⟨this.1, fun x hx => of_decide_eq_true (this.2 x hx)⟩
set_option maxRecDepth 100000 in
set_option maxHeartbeats 4000000 in
theorem light_any (v : Value) (rs : List (Int × List Wd)) (w : World) (hv : RSl w v rs) :
    Calls Tryd.prog 9 #[v] w fun e w' => e = .returned (.bool (lightB rs)) ∧ w = w' := by
  obtain ⟨A, cap, rfl, hcap, hmax, _, hc⟩ := hv.at_
  have HC := Lib.hid hc
  clear hc hv
  by_cases h60 : 60 < rs.length
  · have h60' : (60 : Int) < (rs.length : Int) := by omega
    have hl := Lib.hid (show lightB rs = false by unfold lightB; rw [decide_eq_false (by omega)]; rfl)
    go_enter Tryd.func9, Tryd.ntmps9
    go_wp2
    go_ret
    exact ⟨by rw [hl.out]; rfl, rfl⟩
  · have h60' : ¬ (60 : Int) < (rs.length : Int) := by omega
    have hl : lightB rs = rs.all lightR := by unfold lightB; rw [decide_eq_true (by omega)]; rfl
    rw [hl]
    clear hl
    go_enter Tryd.func9, Tryd.ntmps9
    go_wp2
    go_loop [3] (fun i => ∃ k : Nat, k ≤ rs.length ∧ i = .int .i64 k ∧ Hid ((rs.take k).all lightR = true)) (fun i => rs.length - (intOf i).toNat)
    case atStart => exact ⟨0, by omega, rfl, Lib.hid rfl⟩
    case round =>
      obtain ⟨k, hk, rfl, HS⟩ := hrel
      by_cases hlt : k < rs.length
      · obtain ⟨a, u, rfl, hab, c0, c1, hu⟩ := HC.out k hlt
        rw [← add_at _ _ _ (by decide)] at c1
        have hi' : (k : Int) < (rs.length : Int) := by omega
        have hsn := take_snoc rs k hlt
        obtain ⟨r, hr⟩ : ∃ r, r = rs[k] := ⟨_, rfl⟩
        rw [← hr] at hu hsn
        have hmem : r ∈ rs := by rw [hr]; exact List.getElem_mem hlt
        obtain ⟨A2, cap2, rfl, hcp, hm2, _, he⟩ := hu.at_
        have HE := Lib.hid he
        have hbad : lightR r = false → rs.all lightR = false := fun h => by rw [List.all_eq_false]; exact ⟨r, hmem, by rw [h]; decide⟩
        have HN := Lib.hid fun (h : lightR r = true) => show (rs.take (k + 1)).all lightR = true by rw [hsn, List.all_append, HS.out]; simp [h]
        have HBAD := Lib.hid hbad
        clear he hu c0 hr hbad hmem hsn
        by_cases h30 : 30 < r.2.length
        · have h30' : (30 : Int) < (r.2.length : Int) := by omega
          have hR := Lib.hid (HBAD.out (show lightR r = false by unfold lightR; rw [decide_eq_false (by omega)]; rfl))
          go_wp2
          go_ret
          exact ⟨by rw [hR.out]; rfl, rfl⟩
        · have h30' : ¬ (30 : Int) < (r.2.length : Int) := by omega
          have HW := Lib.hid (show lightR r = lightW r.2 by unfold lightR; rw [decide_eq_true (by omega)]; rfl)
          go_wp2
          go_loop [4] (fun j => ∃ q : Nat, q ≤ r.2.length ∧ j = .int .i64 q ∧ Hid (lightW (r.2.take q) = true)) (fun j => r.2.length - (intOf j).toNat)
          case atStart => exact ⟨0, by omega, rfl, Lib.hid rfl⟩
          case round =>
            obtain ⟨q, hq, rfl, HQ⟩ := hrel
            by_cases hlt2 : q < r.2.length
            · obtain ⟨b, rfl, hbb, d0, d1, d2⟩ := HE.out q hlt2
              rw [← add_at _ _ _ (by decide)] at d1
              have hi2 : (q : Int) < (r.2.length : Int) := by omega
              have hsn := take_snoc r.2 q hlt2
              have hsz := strOf_size r.2[q].2.1
              by_cases h6 : 600 < r.2[q].2.1.length
              · have hR := Lib.hid (HBAD.out (by
                  rw [HW.out]
                  unfold lightW
                  rw [List.all_eq_false]
                  exact ⟨r.2[q], List.getElem_mem hlt2, by simpa using h6⟩))
                obtain ⟨s, hs⟩ : ∃ s, s = strOf r.2[q].2.1 := ⟨_, rfl⟩
                rw [← hs] at d1 hsz
                have h6' : (600 : Int) < (s.size : Int) := by omega
                clear hs hsz h6 hsn d0 d2
                go_wp2
                go_ret
                exact ⟨by rw [hR.out]; rfl, rfl⟩
              · have hn := Lib.hid (show lightW (r.2.take (q + 1)) = true by
                  have := HQ.out
                  unfold lightW at this ⊢
                  rw [hsn, List.all_append, this]
                  simp
                  omega)
                obtain ⟨s, hs⟩ : ∃ s, s = strOf r.2[q].2.1 := ⟨_, rfl⟩
                rw [← hs] at d1 hsz
                have h6' : ¬ (600 : Int) < (s.size : Int) := by omega
                clear hs hsz h6 hsn d0 d2
                go_wp2
                go_round
                case rel => exact ⟨q + 1, by omega, by go_num, hn⟩
                case measure => simp [intOf]; omega
            · have hn := Lib.hid (HN.out (by rw [HW.out]; have := HQ.out; rw [List.take_of_length_le (by omega)] at this; exact this))
              have hi2 : ¬ (q : Int) < (r.2.length : Int) := by omega
              go_wp2
              go_round
              case rel => exact ⟨k + 1, by omega, by go_num, hn⟩
              case measure => simp [intOf]; omega
      · have hn := Lib.hid (show rs.all lightR = true by
          have := HS.out
          rw [List.take_of_length_le (by omega)] at this
          exact this)
        have hi' : ¬ (k : Int) < (rs.length : Int) := by omega
        go_wp2
        go_ret
        exact ⟨by rw [hn.out]; rfl, rfl⟩
end Go.Proofs.YtkmkhegekonbmaaDoor
