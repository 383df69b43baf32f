/- Walk: LatticeOrders: what is below, maximal and minimal, chains and heights are what the document's own functions answer. -/
import Derived.Test.YtdhbadngbhdanaaDoorLatCh
import Derived.Test.YtdhbadngbhdanaaDoorLatHt
import Derived.Test.YtdhbadngbhdanaaDoorLatV
import Derived.Test.YtdhbadngbhdanaaDoorLatB
import Derived.Test.YtdhbadngbhdanaaDoorLabelD
namespace Go.Proofs.YtdhbadngbhdanaaDoor.Lt
open Go.RowKit Go.Shelf

theorem sameInts_is {w : World} {u v : Value} {l : List Nat} (hu : Slc w u (nv l)) (hv : Slc w v (nv l)) :
    Calls Tryd.prog 10 #[u, v] w fun e w' => e = .returned (.bool true) ∧ Below w.heap.size w w' :=
  (sameInts_any u v _ _ w hu hv).mono fun e w' ⟨h1, n, h2⟩ => ⟨by rw [h1]; simp, by rw [h2]; exact below_drewN (Below.refl _ _) n⟩
theorem same_is {w : World} {u v : Value} {l : List Nat} (hu : Slc w u (lv l)) (hv : Slc w v (lv l)) :
    Calls Tryd.prog 19 #[u, v] w fun e w' => e = .returned (.bool true) ∧ Below w.heap.size w w' :=
  (same_any u v _ _ w hu hv).mono fun e w' ⟨h1, n, h2⟩ => ⟨by rw [h1]; simp, by rw [h2]; exact below_drewN (Below.refl _ _) n⟩
theorem refChain_is {w : World} {v : Value} {l : List Nat} (h : Slc w v (lv l)) (hu : U64 l) :
    Calls Tryd.prog 16 #[v] w fun e w' => e = .returned (.tuple #[.bool (chainR l).1, .int .i64 (chainR l).2]) ∧ Below w.heap.size w w' :=
  (refChain_any h hu).mono fun e w' ⟨h1, n, h2⟩ => ⟨h1, by rw [h2]; exact below_drewN (Below.refl _ _) n⟩
set_option maxHeartbeats 4000000 in
theorem orders_any (v : Value) (l : List Nat) (t : Nat) (w : World) (h : Slc w v (lv l)) (hu : U64 l) (ht : t < 18446744073709551616) (hg : 0 < w.heap.size) (hT : TabAt 0 Lib.deBruijn64tab w) :
    Calls Tryd.prog 3 #[v, .int .u64 (t : Int)] w fun e w' => e = .returned (.bool true) ∧ Below w.heap.size w w' := by
  by_cases h70 : 70 < l.length
  · obtain ⟨A, cap, rfl, hm, hc⟩ := nats h
    have c1 : (70 : Int) < (l.length : Int) := by omega
    clear h hc h70 hu hT
    go_enter Tryd.func3, Tryd.ntmps3
    go_wp2_with (go_at_call 6; refine (awake_any _).mono ?_; rintro e w1 ⟨rfl, hb⟩)
    go_ret
    exact ⟨rfl, hb⟩
  · have c1 : ¬ (70 : Int) < (l.length : Int) := by omega
    have hO := own_any v l w h (by omega)
    have HLB := Lib.hid (show ∀ W, Below w.heap.size w W → Slc W v (lv l) from fun W hb => h.below hb)
    have HTB := Lib.hid (show ∀ W, Below w.heap.size w W → TabAt 0 Lib.deBruijn64tab W from fun W hb => tab_below hT hb hg)
    have HGB := Lib.hid (show ∀ W, Below w.heap.size w W → 0 < W.heap.size from fun W hb => Nat.lt_of_lt_of_le hg hb.size)
    have HU := Lib.hid hu
    obtain ⟨A, cap, rfl, hm, hc⟩ := nats h
    clear h hc h70 hT hg hu
    go_enter Tryd.func3, Tryd.ntmps3
    go_wp2_with fail
    refine hO.mono ?_
    rintro e w1 ⟨m, rfl, hmm, _, hb1⟩
    have HMB := Lib.hid (show ∀ W, Below w1.heap.size w1 W → Slc W m (lv l) from fun W hb => hmm.below hb)
    clear hO hmm
    -- what is below
    go_wp2_with fail
    refine (below_all t (HMB.out w1 (Below.refl _ _)) HU.out ht).mono ?_
    rintro e w2 ⟨a, rfl, ha, hb2⟩
    have hB2 := bstep hb1 hb2
    go_wp2_with fail
    refine (refBelow_any t (HLB.out w2 hB2) HU.out ht).mono ?_
    rintro e w3 ⟨b, rfl, hb, hb3⟩
    have hB3 := bstep hB2 hb3
    have hM3 := bstep hb2 hb3
    generalize (belowR l t).2 = c at *
    go_wp2_with fail
    refine (sameInts_is (ha.below hb3) hb).mono ?_
    rintro e w4 ⟨rfl, hb4⟩
    have hB4 := bstep hB3 hb4
    have hM4 := bstep hM3 hb4
    clear ha hb hb2 hb3 hb4 hB2 hB3 hM3
    -- maximal
    go_wp2_with fail
    refine (maximal_all (HMB.out w4 hM4) HU.out).mono ?_
    rintro e w5 ⟨a5, rfl, ha, hb5⟩
    have hB5 := bstep hB4 hb5
    have hM5 := bstep hM4 hb5
    go_wp2_with fail
    refine (refMaximal_any (HLB.out w5 hB5) HU.out).mono ?_
    rintro e w6 ⟨b6, rfl, hb, hb6⟩
    have hB6 := bstep hB5 hb6
    have hM6 := bstep hM5 hb6
    generalize (maxR l).2 = c7 at *
    go_wp2_with fail
    refine (sameInts_is (ha.below hb6) hb).mono ?_
    rintro e w7 ⟨rfl, hb7⟩
    have hB7 := bstep hB6 hb7
    have hM7 := bstep hM6 hb7
    clear ha hb hb5 hb6 hb7 hB4 hM4 hB5 hB6 hM5 hM6
    -- minimal
    go_wp2_with fail
    refine (minimal_all (HMB.out w7 hM7) HU.out).mono ?_
    rintro e w8 ⟨a8, rfl, ha, hb8⟩
    have hB8 := bstep hB7 hb8
    have hM8 := bstep hM7 hb8
    go_wp2_with fail
    refine (refMinimal_any (HLB.out w8 hB8) HU.out).mono ?_
    rintro e w9 ⟨b9, rfl, hb, hb9⟩
    have hB9 := bstep hB8 hb9
    have hM9 := bstep hM8 hb9
    generalize (minR l).2 = c10 at *
    go_wp2_with fail
    refine (sameInts_is (ha.below hb9) hb).mono ?_
    rintro e w10 ⟨rfl, hb10⟩
    have hB10 := bstep hB9 hb10
    have hM10 := bstep hM9 hb10
    clear ha hb hb8 hb9 hb10 hB7 hM7 hB8 hB9 hM8 hM9
    -- chains
    go_wp2_with fail
    refine (chain_all (HMB.out w10 hM10) HU.out (HGB.out w10 hB10) (HTB.out w10 hB10)).mono ?_
    rintro e w11 ⟨rfl, hb11⟩
    have hB11 := bstep hB10 hb11
    have hM11 := bstep hM10 hb11
    go_wp2_with fail
    refine (refChain_is (HLB.out w11 hB11) HU.out).mono ?_
    rintro e w12 ⟨rfl, hb12⟩
    have hB12 := bstep hB11 hb12
    have hM12 := bstep hM11 hb12
    generalize (chainR l).2 = c12 at *
    generalize (chainR l).1 = d12 at *
    clear hb11 hb12 hB10 hM10 hB11 hM11
    -- heights
    go_wp2_with fail
    refine (height_all (HMB.out w12 hM12) HU.out (HGB.out w12 hB12) (HTB.out w12 hB12)).mono ?_
    rintro e w13 ⟨rfl, hb13⟩
    have hB13 := bstep hB12 hb13
    have hM13 := bstep hM12 hb13
    go_wp2_with fail
    refine (refHeight_any (HLB.out w13 hB13) HU.out).mono ?_
    rintro e w14 ⟨rfl, hb14⟩
    have hB14 := bstep hB13 hb14
    have hM14 := bstep hM13 hb14
    generalize (heightR l).2 = c14 at *
    generalize (heightR l).1 = d14 at *
    clear hb13 hb14 hB12 hM12 hB13 hM13
    go_wp2_with fail
    refine (same_is (HMB.out w14 hM14) (HLB.out w14 hB14)).mono ?_
    rintro e w15 ⟨rfl, hb15⟩
    go_wp2_with (go_at_call 6; refine (awake_any _).mono ?_; rintro e w16 ⟨rfl, hb16⟩)
    go_ret
    exact ⟨rfl, bstep (bstep hB14 hb15) hb16⟩
end Go.Proofs.YtdhbadngbhdanaaDoor.Lt
