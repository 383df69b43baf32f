/- Walk: whether a family is a chain, as the program finds it. -/
import Derived.Test.YtdhbadngbhdanaaDoorLatCm
import Derived.Test.YtdhbadngbhdanaaDoorLatBy
import Derived.Test.YtdhbadngbhdanaaDoorLatT
import Derived.Test.YtdhbadngbhdanaaDoorLatJ
namespace Go.Proofs.YtdhbadngbhdanaaDoor.Lt
open Go.RowKit
open Lb

set_option maxHeartbeats 4000000 in
theorem chain_all {w : World} {v : Value} {l : List Nat} (h : Slc w v (lv l)) (hu : U64 l) (hg : 0 < w.heap.size) (hT : TabAt 0 Lib.deBruijn64tab w) :
    Calls Tryd.prog 15 #[v] w fun e w' => e = .returned (.tuple #[.bool (chainR l).1, .int .i64 (chainR l).2]) ∧ Below w.heap.size w w' := by
  unfold chainR
  by_cases hl : 64 < l.length
  · rw [if_pos hl]
    have hF := isFamily_is h (c := false) (decide_eq_false (by omega))
    obtain ⟨A, cap, rfl, hm, hc⟩ := nats h
    clear h hc hl hT
    go_enter Tryd.func15, Tryd.ntmps15
    go_wp2_with fail
    refine hF.mono ?_
    rintro e w' ⟨rfl, rfl⟩
    go_wp2
    go_returns
    exact ⟨rfl, Below.refl _ _⟩
  · rw [if_neg hl]
    have hF := isFamily_is h (c := true) (decide_eq_true (by omega))
    have hB := byCount_any v l w h hu (by omega) hg hT
    obtain ⟨C, hC⟩ : ∃ C, C = chainB l := ⟨_, rfl⟩
    rw [← hC]
    have HC := Lib.hid hC
    have hl64 : l.length ≤ 64 := by omega
    obtain ⟨A, cap, rfl, hm, hcc⟩ := nats h
    clear h hcc hl hT hC
    go_enter Tryd.func15, Tryd.ntmps15
    go_wp2_with fail
    refine hF.mono ?_
    rintro e w' ⟨rfl, rfl⟩
    go_wp2_with fail
    refine hB.mono ?_
    rintro e w1 ⟨v1, r, rfl, hv, _, hp, ho, hb⟩
    have hrl := hp.length_eq
    have HU := Lib.hid (show U64 r from fun z hz => hu z (hp.mem_iff.1 hz))
    obtain ⟨A1, cap1, rfl, hm1, hc1⟩ := nats hv
    have HV := Lib.hid hc1
    have HP := Lib.hid hp
    have HO := Lib.hid ho
    have HB := Lib.hid hb
    have HRL := Lib.hid (show r.length ≤ 64 by omega)
    clear hB hv hc1 hp ho hb hu hrl
    go_wp2
    go_loopw [5] (fun i wr => ∃ (k : Nat), i = .int .i64 ((k : Int) + 1) ∧ (k + 1 ≤ r.length ∨ k = 0) ∧ Dr w1 wr ∧ Hid (∀ j, j < k → leB (r.getD j 0) (r.getD (j + 1) 0) = true)) (fun i _ => r.length + 1 - (intOf i).toNat)
    case atStart => exact ⟨0, rfl, .inr rfl, Dr.refl _, fun j h => by omega⟩
    case round =>
      obtain ⟨k, rfl, hk, hd, hin⟩ := hrel
      have HD := Lib.hid hd
      by_cases hlt : k + 1 < r.length
      · obtain ⟨a, rfl, _, hcellA⟩ := HV.out k (by omega)
        obtain ⟨a', e', _, hcellB⟩ := HV.out (k + 1) hlt
        obtain rfl := Option.some.inj e'
        have hx := HU.out _ (List.getElem_mem (l := r) (n := k) (by omega))
        have hy := HU.out _ (List.getElem_mem hlt)
        have hgx : r.getD k 0 = r[k] := getD_at (by omega)
        have hgy : r.getD (k + 1) 0 = r[k + 1] := getD_at hlt
        obtain ⟨x, hxe⟩ : ∃ x, x = r[k] := ⟨_, rfl⟩
        obtain ⟨y, hye⟩ : ∃ y, y = r[k + 1] := ⟨_, rfl⟩
        rw [← hxe] at hcellA hx hgx
        rw [← hye] at hcellB hy hgy
        have HGX := Lib.hid hgx
        have HGY := Lib.hid hgy
        have hk64 : k ≤ 64 := by have := HRL.out; omega
        have c1 : (k : Int) + 1 < (r.length : Int) := by omega
        have c2 : (k : Int) < (r.length : Int) := by omega
        have hw1 : IntKind.i64.wrap (k : Int) = (k : Int) := IntWalk.i64_in _ ⟨by omega, by omega⟩
        have c3 : (0 : Int) ≤ (k : Int) + 1 := by omega
        have hcellB' : wr.cell? ⟨a.block, a.off + (k + 1), none⟩ = some (.int .u64 (y : Int)) := (hd.cell _).trans hcellB
        have hcellA' := (hd.cell (a.add k)).trans hcellA
        have htn : ((k : Int) + 1).toNat = k + 1 := by omega
        clear hxe hye hgx hgy hcellB hcellA hk hd
        cases hb : leB x y
        · have hA := fun w => below_is x y hx hy hb w
          have HN := Lib.hid (show C = false by rw [HC.out, ← chain_perm HP.out]; exact step_no HO.out hlt (by rw [HGX.out, HGY.out]; exact hb))
          clear hb
          go_wp2
          go_quiet (first | (go_at_call 26; with_reducible exact quiet_same (hA _)))
          go_wp2
          go_returns
          exact ⟨by rw [HN.out]; rfl, HB.out.trans (Dr_below (HD.out.trans ⟨_, rfl⟩) _)⟩
        · have hA := fun w => below_is x y hx hy hb w
          have HN := Lib.hid (show ∀ j, j < k + 1 → leB (r.getD j 0) (r.getD (j + 1) 0) = true from fun j hj => by
            by_cases e : j < k
            · exact hin.out j e
            · obtain rfl : j = k := by omega
              rw [HGX.out, HGY.out]; exact hb)
          clear hb
          go_wp2
          go_quiet (first | (go_at_call 26; with_reducible exact quiet_same (hA _)))
          go_wp2
          go_roundw
          case rel => exact ⟨k + 1, by go_num, .inl (by omega), HD.out.trans ⟨_, rfl⟩, HN.out⟩
          case measure => simp [intOf]; omega
      · clear hd
        have c1 : ¬ (k : Int) + 1 < (r.length : Int) := by omega
        have HN := Lib.hid (show C = true by rw [HC.out, ← chain_perm HP.out]; exact steps_chain fun j hj => hin.out j (by omega))
        go_wp2
        go_returns
        exact ⟨by rw [HN.out]; rfl, HB.out.trans (Dr_below HD.out _)⟩
end Go.Proofs.YtdhbadngbhdanaaDoor.Lt
