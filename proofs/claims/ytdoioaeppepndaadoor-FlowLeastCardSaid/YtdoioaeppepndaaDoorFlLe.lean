/- Walk: FlowLeast. Made by program (wip/tools/gen_flLe.py). -/
import Derived.Test.YtdoioaeppepndaaDoorFlK
import Derived.Test.YtdoioaeppepndaaDoorFlAx
import Derived.Test.YtdoioaeppepndaaDoorFlL
import Derived.Deep.DeepCutAuto
namespace Go.Proofs.YtdoioaeppepndaaDoor
open Go.RowKit Go.Shelf
open A8 Tk7 W10 Lb F11 Kq

set_option maxRecDepth 100000 in
set_option maxHeartbeats 32000000 in
theorem leastlaw_any (v0 : Value) (ns : List Int) (c m : Int) (W : World) (hL : SG W) (hv : Slc W v0 (vals .i64 ns)) (hc : 0 ≤ c ∧ c < 18446744073709551616) (hm : 0 ≤ m ∧ m < 18446744073709551616) :
    Calls Tryd.prog 4 #[v0, .int .u64 c, .int .u64 m] W fun r w' => r = .returned (.bool true) ∧ Below W.heap.size W w' := by
  have hq := fun (w1 : World) (hb : Below W.heap.size W w1) => query_any v0 ns w1 (hv.below hb)
  have HL0 := Lib.hid hL
  have HCM := Lib.hid (And.intro hc hm)
  obtain ⟨V0, V1, V2, rfl⟩ : ∃ A n c, v0 = .slice A n c := by obtain ⟨A, c, rfl, -⟩ := hv; exact ⟨_, _, _, rfl⟩
  have hAw := fun w1 (hb : Below W.heap.size W w1) => flawake_any w1 (hL.later hb)
  have HAW := Lib.hid hAw
  clear hL hv hc hm hAw
  go_enter Tryd.func4, Tryd.ntmps4
  go_wp2_with fail
  refine (hq W (Below.refl _ _)).mono ?_
  rintro r w2 ⟨G, hG0, hQ, rfl, hb2⟩
  clear hq
  have hfl := fl_kit hQ hG0
  have hbn := bn_ok hQ
  have hwf : wfE G.qu = 0 := by rw [hG0]; exact kit_wf ns
  have hle := fun w1 (hb : Below w2.heap.size w2 w1) => least_any G w1 (hfl.later hb) (HL0.out.later (bstep hb2 hb))
  have hop := fun w1 (hb : Below w2.heap.size w2 w1) => open_any G w1 (hfl.later hb) (HL0.out.later (bstep hb2 hb))
  have hck := fun x w1 (hb : Below w2.heap.size w2 w1) => flcheck_any G x w1 (hfl.later hb) (HL0.out.later (bstep hb2 hb))
  have hrd := fun x w1 (hb : Below w2.heap.size w2 w1) => read_any G x w1 (hfl.later hb) (HL0.out.later (bstep hb2 hb))
  have hM1 := fun (x : Int) (hx : 0 ≤ x ∧ x < 18446744073709551616) => allowed_least hbn hx.1 hx.2
  have hM2 := fun (x : Int) (hx : 0 ≤ x ∧ x < 18446744073709551616) => read_least hbn hx.1 hx.2
  have hR0 := flR_lim hbn (c := 0) (by decide) (by decide)
  have hC0 : ∀ x, flC G.qu x = if belowI (flR G.qu x) x = true then 0 else 13 := fun x => by unfold flC; rw [if_pos hwf]
  simp only [hwf] at hle hop hck hrd
  obtain ⟨R, hR⟩ : ∃ R, R = flR G.qu 0 := ⟨_, rfl⟩
  obtain ⟨o, ho⟩ : ∃ o, o = flO G.qu := ⟨_, rfl⟩
  rw [← hR] at hR0
  simp only [← hR, ← ho] at hle hop hM1 hM2
  obtain ⟨fR, hfR⟩ : ∃ f, f = flR G.qu := ⟨_, rfl⟩
  obtain ⟨fC, hfC⟩ : ∃ f, f = flC G.qu := ⟨_, rfl⟩
  simp only [← hfR, ← hfC] at hck hrd hM1 hM2 hC0
  have HM := Lib.hid (And.intro hM1 (And.intro hM2 (And.intro hC0 hR0)))
  clear hR ho hfR hfC hM1 hM2 hC0 hR0 hfl hbn hwf hG0
  obtain ⟨T, wi, sh, hvs, se, ems⟩ := G
  obtain ⟨k, mn, mx, ⟨⟨kd, bd, bn, cs, nm⟩, sc⟩, sk, ks⟩ := T
  have hone := hQ.tr.one
  have hsh := hQ.hv
  have hse := hQ.em
  simp only at hone hsh hse
  obtain ⟨A1, n1, c1, rfl⟩ := sl_form hone.2.1.2
  obtain ⟨A0, n0, c0, rfl⟩ := sl_form hone.2.2
  obtain ⟨H1, h1, ch1, rfl⟩ := sl_form hsh
  obtain ⟨E1, e1, ce1, rfl⟩ := sl_form hse
  clear hQ hone hsh hse
  simp only [GQ.row, Tr.row, List.cons_append, List.nil_append] at hle hop hck hrd ⊢
  have HLE := Lib.hid hle
  have HOP := Lib.hid hop
  have HCK := Lib.hid hck
  have HRD := Lib.hid hrd
  clear hle hop hck hrd
  go_upto_region 2 with fail
  refine named_wp ?_
  intro W3 hW3
  have hK3 : Blk W3 w2.heap.size [.int .i64 k, .int .i64 mn, .int .i64 mx, .int .i64 kd, .bool bd, .int .u64 bn, .slice A1 n1 c1, .string (strOf nm), .slice A0 n0 c0, .int .u64 wi, .slice H1 h1 ch1, .slice E1 e1 ce1] := by rw [hW3]; exact Blk.new w2 [.int .i64 k, .int .i64 mn, .int .i64 mx, .int .i64 kd, .bool bd, .int .u64 bn, .slice A1 n1 c1, .string (strOf nm), .slice A0 n0 c0, .int .u64 wi, .slice H1 h1 ch1, .slice E1 e1 ce1] 41
  have hb3 : Below w2.heap.size w2 W3 := by rw [hW3]; exact b1 _ _
  clear hW3
  have HB2 := Lib.hid hb2
  have x0 := hK3.cell 0 _ rfl
  have x1 := hK3.cell 1 _ rfl
  have x2 := hK3.cell 2 _ rfl
  have x3 := hK3.cell 3 _ rfl
  have x4 := hK3.cell 4 _ rfl
  have x5 := hK3.cell 5 _ rfl
  have x6 := hK3.cell 6 _ rfl
  have x7 := hK3.cell 7 _ rfl
  have x8 := hK3.cell 8 _ rfl
  have x9 := hK3.cell 9 _ rfl
  have x10 := hK3.cell 10 _ rfl
  have x11 := hK3.cell 11 _ rfl
  have HK := Lib.hid hK3
  have HB3 := Lib.hid hb3
  clear hK3 hb2 hb3
  go_wp2_with fail
  refine (HLE.out _ HB3.out).mono ?_
  rintro r w4 ⟨rfl, hb4⟩
  clear x0 x1 x2 x3 x4 x5 x6 x7 x8 x9 x10 x11
  have x0 := (HK.out.later hb4).cell 0 _ rfl
  have x1 := (HK.out.later hb4).cell 1 _ rfl
  have x2 := (HK.out.later hb4).cell 2 _ rfl
  have x3 := (HK.out.later hb4).cell 3 _ rfl
  have x4 := (HK.out.later hb4).cell 4 _ rfl
  have x5 := (HK.out.later hb4).cell 5 _ rfl
  have x6 := (HK.out.later hb4).cell 6 _ rfl
  have x7 := (HK.out.later hb4).cell 7 _ rfl
  have x8 := (HK.out.later hb4).cell 8 _ rfl
  have x9 := (HK.out.later hb4).cell 9 _ rfl
  have x10 := (HK.out.later hb4).cell 10 _ rfl
  have x11 := (HK.out.later hb4).cell 11 _ rfl
  have HB4 := Lib.hid (bstep HB3.out hb4)
  have HK4 := Lib.hid (HK.out.later hb4)
  clear hb4 HLE
  go_wp2_with fail
  refine (HOP.out _ HB4.out).mono ?_
  rintro r w5 ⟨rfl, hb5⟩
  clear x0 x1 x2 x3 x4 x5 x6 x7 x8 x9 x10 x11
  have HB5 := Lib.hid (bstep HB4.out hb5)
  have HK5 := Lib.hid (HK4.out.later hb5)
  clear hb5 HOP HK HK4 HB3 HB4
  go_wp2
  go_loopg [12] 3 (fun g iv wr => ∃ i : Nat, i ≤ 3 ∧ g = 3 - i ∧ iv = .int .i64 (i : Int) ∧ Hid (Below w5.heap.size w5 wr))
  case atStart => exact ⟨0, by omega, rfl, rfl, Lib.hid (Below.refl _ _)⟩
  case round =>
    obtain ⟨i, hi, hg, rfl, hb⟩ := hrel
    rename World => wr
    by_cases hlt : i < 3
    · have g1 : (i : Int) < 3 := by omega
      have hwk : IntKind.i64.wrap ((i : Int) + 1) = (i : Int) + 1 := IntWalk.i64_in _ ⟨by omega, by omega⟩
      go_upto_region 9 with fail
      go_cut [13] (fun s13 wx => ∃ X : Int, s13 = .int .u64 X ∧ Hid (0 ≤ X ∧ X < 18446744073709551616) ∧ Hid (Below wr.heap.size wr wx))
      case first =>
        obtain rfl | rfl | rfl : i = 0 ∨ i = 1 ∨ i = 2 := by omega
        all_goals
          go_wp2_with fail
          go_meet
          case rel => first
            | exact ⟨_, rfl, Lib.hid HCM.out.1, Lib.hid (b1 _ _)⟩
            | exact ⟨_, rfl, Lib.hid HM.out.2.2.2, Lib.hid (b1 _ _)⟩
            | exact ⟨_, rfl, Lib.hid (or_lim HM.out.2.2.2 HCM.out.2), Lib.hid (b1 _ _)⟩
      case rest =>
        obtain ⟨X, rfl, hX, hbx⟩ := hcut
        have HBX := Lib.hid (bstep hb.out hbx.out)
        have HKX := Lib.hid (HK5.out.later HBX.out)
        have x0 := HKX.out.cell 0 _ rfl
        have x1 := HKX.out.cell 1 _ rfl
        have x2 := HKX.out.cell 2 _ rfl
        have x3 := HKX.out.cell 3 _ rfl
        have x4 := HKX.out.cell 4 _ rfl
        have x5 := HKX.out.cell 5 _ rfl
        have x6 := HKX.out.cell 6 _ rfl
        have x7 := HKX.out.cell 7 _ rfl
        have x8 := HKX.out.cell 8 _ rfl
        have x9 := HKX.out.cell 9 _ rfl
        have x10 := HKX.out.cell 10 _ rfl
        have x11 := HKX.out.cell 11 _ rfl
        have hC := HM.out.2.2.1 X
        rw [HM.out.1 X hX.out] at hC
        obtain ⟨b, hb'⟩ : ∃ b, b = belowI R X := ⟨_, rfl⟩
        have hand : (bits .andNot .u64 R X == 0) = b := by rw [hb']; rfl
        rw [← hb'] at hC
        have hck := HCK.out X _ (bstep HB5.out HBX.out)
        rw [hC] at hck
        have hrd := fun w1 (hbw : Below wc.heap.size wc w1) => HRD.out X w1 (bstep (bstep HB5.out HBX.out) hbw)
        rw [HM.out.2.1 X hX.out] at hrd
        have HRX := Lib.hid hrd
        clear hC hb' hrd hb hbx hX
        go_wp2_with fail
        refine hck.mono ?_
        rintro r w6 ⟨rfl, hb6⟩
        clear x0 x1 x2 x3 x4 x5 x6 x7 x8 x9 x10 x11 hck
        have x0 := (HKX.out.later hb6).cell 0 _ rfl
        have x1 := (HKX.out.later hb6).cell 1 _ rfl
        have x2 := (HKX.out.later hb6).cell 2 _ rfl
        have x3 := (HKX.out.later hb6).cell 3 _ rfl
        have x4 := (HKX.out.later hb6).cell 4 _ rfl
        have x5 := (HKX.out.later hb6).cell 5 _ rfl
        have x6 := (HKX.out.later hb6).cell 6 _ rfl
        have x7 := (HKX.out.later hb6).cell 7 _ rfl
        have x8 := (HKX.out.later hb6).cell 8 _ rfl
        have x9 := (HKX.out.later hb6).cell 9 _ rfl
        have x10 := (HKX.out.later hb6).cell 10 _ rfl
        have x11 := (HKX.out.later hb6).cell 11 _ rfl
        have HB6 := Lib.hid hb6
        clear hb6
        cases b
        all_goals
          cases o
          all_goals
            simp only [if_true, Bool.false_eq_true, if_false] at HRX ⊢
            go_wp2_with fail
            refine (HRX.out _ HB6.out).mono ?_
            rintro r w7 ⟨rfl, hb7⟩
            have HB7 := Lib.hid (bstep (bstep HBX.out HB6.out) hb7)
            clear hb7
            go_wp2
            go_roundg (3 - (i + 1))
            case rel => exact ⟨i + 1, by omega, rfl, by go_num, HB7⟩
            case measure => omega
    · have g1 : ¬ (i : Int) < 3 := by omega
      have HBR := Lib.hid (bstep (bstep HB2.out HB5.out) hb.out)
      clear hb
      go_wp2_with fail
      refine (HAW.out _ HBR.out).mono ?_
      rintro r w8 ⟨rfl, hb8⟩
      have HB8 := Lib.hid (bstep HBR.out hb8)
      clear hb8
      go_wp2
      go_ret
      exact ⟨rfl, HB8.out⟩
end Go.Proofs.YtdoioaeppepndaaDoor
