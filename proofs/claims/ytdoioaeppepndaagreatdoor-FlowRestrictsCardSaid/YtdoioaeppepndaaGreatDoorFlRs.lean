/- Walk: FlowRestricts. Made by program (wip/tools/gen_flRs.py). -/
import Derived.Test.YtdoioaeppepndaaGreatDoorFlRx
import Derived.Test.YtdoioaeppepndaaGreatDoorFlL
namespace Go.Proofs.YtdoioaeppepndaaGreatDoor
open Go.RowKit Go.Shelf
open A8 Tk7 P9 W10 Lb F11 Kq
attribute [local go_sem] Oper.semAt_some

set_option maxRecDepth 100000 in
set_option maxHeartbeats 32000000 in
theorem restricts_any (v0 : Value) (ns : List Int) (a b : Int) (W : World) (hL : SG W) (hv : Slc W v0 (vals .i64 ns)) (ha : 0 ≤ a ∧ a < 18446744073709551616) (hb : 0 ≤ b ∧ b < 18446744073709551616) :
    Calls Tryz.prog 5 #[v0, .int .u64 a, .int .u64 b] W fun r w' => r = .returned (.bool true) ∧ Below W.heap.size W w' := by
  have hq := query_any v0 ns W hv
  have HL0 := Lib.hid hL
  have HAB := Lib.hid (And.intro ha hb)
  obtain ⟨V0, V1, V2, rfl⟩ : ∃ A n c, v0 = .slice A n c := by obtain ⟨A, c, rfl, -⟩ := hv; exact ⟨_, _, _, rfl⟩
  have hAw := fun w1 (hb : Below W.heap.size W w1) => flawake_any w1 (hL.later hb)
  have HAW := Lib.hid hAw
  have hz := kit_wf ns
  have hd := fld_kit ns
  obtain ⟨Q, hQ⟩ : ∃ Q, Q = kitQ ns := ⟨_, rfl⟩
  rw [← hQ] at hq hz hd
  have HQ0 := Lib.hid (And.intro hz hd)
  clear hL hv ha hb hAw hQ hz hd
  go_enter Tryz.func5, Tryz.ntmps5
  go_wp2_with fail
  refine hq.mono ?_
  rintro r w2 ⟨G, hG0, hQW, rfl, hb2⟩
  clear hq
  have hR1 := fun w1 (hb : Below w2.heap.size w2 w1) => restrict_ok hG0 a w1 (hQW.later hb) HQ0.out.2 HQ0.out.1 (HL0.out.later (bstep hb2 hb)) HAB.out.1
  have hD1 := fun w1 (hb : Below w2.heap.size w2 w1) => read_any G a w1 (fl_of (hQW.later hb) (hG0 ▸ HQ0.out.2)) (HL0.out.later (bstep hb2 hb))
  rw [hG0, HQ0.out.1] at hD1
  obtain ⟨kG, mnG, mxG, kdG, bdG, bnG, AG, nG, cG, nmG, BG, mG, dG, wiG, JG, gG, rG, EG, eG, fG, hrow⟩ := row_form hQW
  rw [hrow]
  rw [hrow] at hR1 hD1
  have HR1 := Lib.hid hR1
  have HD1 := Lib.hid hD1
  have HB2 := Lib.hid hb2
  clear hR1 hD1 hb2 hrow hQW hG0
  go_upto_region 2 with fail
  refine named_wp ?_
  intro W3 hW3
  have hK3 : Blk W3 w2.heap.size [.int .i64 kG, .int .i64 mnG, .int .i64 mxG, .int .i64 kdG, .bool bdG, .int .u64 bnG, .slice AG nG cG, .string nmG, .slice BG mG dG, .int .u64 wiG, .slice JG gG rG, .slice EG eG fG] := by rw [hW3]; exact Blk.new w2 [.int .i64 kG, .int .i64 mnG, .int .i64 mxG, .int .i64 kdG, .bool bdG, .int .u64 bnG, .slice AG nG cG, .string nmG, .slice BG mG dG, .int .u64 wiG, .slice JG gG rG, .slice EG eG fG] 35
  have hb3 : Below w2.heap.size w2 W3 := by rw [hW3]; exact b1 _ _
  clear hW3
  have x0 := hK3.cell 0 _ rfl
  have x1 := hK3.cell 1 _ rfl
  have x2 := hK3.cell 2 _ rfl
  have x3 := hK3.cell 3 _ rfl
  have x4 := hK3.cell 4 _ rfl
  have x5 := hK3.cell 5 _ rfl
  have x6 := hK3.cell 6 _ rfl
  have x7 := hK3.cell 7 _ rfl
  have x8 := hK3.cell 8 _ rfl
  have x9 := hK3.cell 9 _ rfl
  have x10 := hK3.cell 10 _ rfl
  have x11 := hK3.cell 11 _ rfl
  have HK3 := Lib.hid hK3
  have HB3 := Lib.hid hb3
  clear hK3 hb3
  go_wp2_with fail
  refine (HR1.out W3 HB3.out).mono ?_
  rintro r w4 ⟨X, hX, rfl, hXW, hb4⟩
  clear x0 x1 x2 x3 x4 x5 x6 x7 x8 x9 x10 x11 HR1
  have hB4 : Below w2.heap.size w2 w4 := bstep HB3.out hb4
  have hzX : wfE (resQ a Q) = 0 := wf_res a HQ0.out.1
  have hdX : FlD (resQ a Q) := fld_res HQ0.out.2 a
  have hR2 := fun w1 (hb : Below w4.heap.size w4 w1) => restrict_ok hX b w1 (hXW.later hb) hdX hzX (HL0.out.later (bstep (bstep HB2.out hB4) hb)) HAB.out.2
  have hO2 := fun w1 (hb : Below w4.heap.size w4 w1) => open_any X w1 (fl_of (hXW.later hb) (hX ▸ hdX)) (HL0.out.later (bstep (bstep HB2.out hB4) hb))
  have hD2 := fun w1 (hb : Below w4.heap.size w4 w1) => read_any X (bits .or .u64 a b) w1 (fl_of (hXW.later hb) (hX ▸ hdX)) (HL0.out.later (bstep (bstep HB2.out hB4) hb))
  have hS2 := fun (Y : GQ) w1 (hb : Below w4.heap.size w4 w1) (hY : QW w1 Y) => ksameq_any X Y w1 (hXW.later hb) hY
  rw [hX, hzX, flO_res a HQ0.out.1] at hO2
  rw [hX, hzX, flR_res a _ HQ0.out.1] at hD2
  rw [resQ_res a b Q] at hR2
  simp only [hX] at hS2
  obtain ⟨kX, mnX, mxX, kdX, bdX, bnX, AX, nX, cX, nmX, BX, mX, dX, wiX, JX, gX, rX, EX, eX, fX, hrow⟩ := row_form hXW
  rw [hrow]
  rw [hrow] at hR2 hO2 hD2 hS2
  obtain ⟨R, hR⟩ : ∃ R, R = flR Q a := ⟨_, rfl⟩
  rw [← hR] at hD2
  have hD1' := HD1.out
  rw [← hR] at hD1'
  have HD1b := Lib.hid hD1'
  have HR2 := Lib.hid hR2
  have HO2 := Lib.hid hO2
  have HD2 := Lib.hid hD2
  have HS2 := Lib.hid hS2
  have HB4 := Lib.hid hB4
  have HK4 := Lib.hid (HK3.out.later hb4)
  clear hR2 hO2 hD2 hS2 hB4 hb4 hrow hXW hX hzX hdX hR hD1' HD1 HK3
  go_upto_region 3 with fail
  refine named_wp ?_
  intro W5 hW5
  have hX5 : Blk W5 w4.heap.size [.int .i64 kX, .int .i64 mnX, .int .i64 mxX, .int .i64 kdX, .bool bdX, .int .u64 bnX, .slice AX nX cX, .string nmX, .slice BX mX dX, .int .u64 wiX, .slice JX gX rX, .slice EX eX fX] := by rw [hW5]; exact Blk.new w4 [.int .i64 kX, .int .i64 mnX, .int .i64 mxX, .int .i64 kdX, .bool bdX, .int .u64 bnX, .slice AX nX cX, .string nmX, .slice BX mX dX, .int .u64 wiX, .slice JX gX rX, .slice EX eX fX] 35
  have hb5 : Below w4.heap.size w4 W5 := by rw [hW5]; exact b1 _ _
  clear hW5
  have u0 := hX5.cell 0 _ rfl
  have u1 := hX5.cell 1 _ rfl
  have u2 := hX5.cell 2 _ rfl
  have u3 := hX5.cell 3 _ rfl
  have u4 := hX5.cell 4 _ rfl
  have u5 := hX5.cell 5 _ rfl
  have u6 := hX5.cell 6 _ rfl
  have u7 := hX5.cell 7 _ rfl
  have u8 := hX5.cell 8 _ rfl
  have u9 := hX5.cell 9 _ rfl
  have u10 := hX5.cell 10 _ rfl
  have u11 := hX5.cell 11 _ rfl
  have HX5 := Lib.hid hX5
  have HB5 := Lib.hid hb5
  have HK5 := Lib.hid (HK4.out.later hb5)
  clear hX5 hb5 HK4
  go_wp2_with fail
  refine (HR2.out W5 HB5.out).mono ?_
  rintro r w6 ⟨Y, hY, rfl, hYW, hb6⟩
  clear u0 u1 u2 u3 u4 u5 u6 u7 u8 u9 u10 u11 HR2
  have hB6 : Below w4.heap.size w4 w6 := bstep HB5.out hb6
  have hS3 := fun w1 (hb : Below w6.heap.size w6 w1) => HS2.out Y w1 (bstep hB6 hb) (hYW.later hb)
  rw [hY, sameQ_refl] at hS3
  obtain ⟨kY, mnY, mxY, kdY, bdY, bnY, AY, nY, cY, nmY, BY, mY, dY, wiY, JY, gY, rY, EY, eY, fY, hrow⟩ := row_form hYW
  rw [hrow]
  rw [hrow] at hS3
  have HS3 := Lib.hid hS3
  have HB6 := Lib.hid hB6
  have HK6 := Lib.hid (HK5.out.later hb6)
  have HX6 := Lib.hid (HX5.out.later hb6)
  clear hS3 hB6 hb6 hrow hYW hY HK5 HX5 HS2
  go_upto_region 4 with fail
  refine named_wp ?_
  intro W7 hW7
  have hY7 : Blk W7 w6.heap.size [.int .i64 kY, .int .i64 mnY, .int .i64 mxY, .int .i64 kdY, .bool bdY, .int .u64 bnY, .slice AY nY cY, .string nmY, .slice BY mY dY, .int .u64 wiY, .slice JY gY rY, .slice EY eY fY] := by rw [hW7]; exact Blk.new w6 [.int .i64 kY, .int .i64 mnY, .int .i64 mxY, .int .i64 kdY, .bool bdY, .int .u64 bnY, .slice AY nY cY, .string nmY, .slice BY mY dY, .int .u64 wiY, .slice JY gY rY, .slice EY eY fY] 35
  have hb7 : Below w6.heap.size w6 W7 := by rw [hW7]; exact b1 _ _
  clear hW7
  have hX7 := HX6.out.later hb7
  have u0 := hX7.cell 0 _ rfl
  have u1 := hX7.cell 1 _ rfl
  have u2 := hX7.cell 2 _ rfl
  have u3 := hX7.cell 3 _ rfl
  have u4 := hX7.cell 4 _ rfl
  have u5 := hX7.cell 5 _ rfl
  have u6 := hX7.cell 6 _ rfl
  have u7 := hX7.cell 7 _ rfl
  have u8 := hX7.cell 8 _ rfl
  have u9 := hX7.cell 9 _ rfl
  have u10 := hX7.cell 10 _ rfl
  have u11 := hX7.cell 11 _ rfl
  have HX7 := Lib.hid hX7
  have HY7 := Lib.hid hY7
  have HB7 := Lib.hid hb7
  have HK7 := Lib.hid (HK6.out.later hb7)
  clear hX7 hY7 hb7 HK6 HX6
  go_wp2_with fail
  refine (HO2.out W7 (bstep HB6.out HB7.out)).mono ?_
  rintro r w8 ⟨rfl, hb8⟩
  clear u0 u1 u2 u3 u4 u5 u6 u7 u8 u9 u10 u11 HO2
  have HB8 := Lib.hid (bstep HB7.out hb8)
  have hX8 := HX7.out.later hb8
  have u0 := hX8.cell 0 _ rfl
  have u1 := hX8.cell 1 _ rfl
  have u2 := hX8.cell 2 _ rfl
  have u3 := hX8.cell 3 _ rfl
  have u4 := hX8.cell 4 _ rfl
  have u5 := hX8.cell 5 _ rfl
  have u6 := hX8.cell 6 _ rfl
  have u7 := hX8.cell 7 _ rfl
  have u8 := hX8.cell 8 _ rfl
  have u9 := hX8.cell 9 _ rfl
  have u10 := hX8.cell 10 _ rfl
  have u11 := hX8.cell 11 _ rfl
  have HX8 := Lib.hid hX8
  have HY8 := Lib.hid (HY7.out.later hb8)
  have HK8 := Lib.hid (HK7.out.later hb8)
  clear hX8 hb8 HX7 HY7 HK7
  go_wp2_with fail
  refine (HD2.out w8 (bstep HB6.out HB8.out)).mono ?_
  rintro r w9 ⟨rfl, hb9⟩
  clear u0 u1 u2 u3 u4 u5 u6 u7 u8 u9 u10 u11 HD2
  have HB9 := Lib.hid (bstep HB8.out hb9)
  have hK9 := HK8.out.later hb9
  have x0 := hK9.cell 0 _ rfl
  have x1 := hK9.cell 1 _ rfl
  have x2 := hK9.cell 2 _ rfl
  have x3 := hK9.cell 3 _ rfl
  have x4 := hK9.cell 4 _ rfl
  have x5 := hK9.cell 5 _ rfl
  have x6 := hK9.cell 6 _ rfl
  have x7 := hK9.cell 7 _ rfl
  have x8 := hK9.cell 8 _ rfl
  have x9 := hK9.cell 9 _ rfl
  have x10 := hK9.cell 10 _ rfl
  have x11 := hK9.cell 11 _ rfl
  have HX9 := Lib.hid (HX8.out.later hb9)
  have HY9 := Lib.hid (HY8.out.later hb9)
  clear hK9 hb9 HX8 HY8 HK8
  go_wp2_with fail
  refine (HD1b.out w9 (bstep HB4.out (bstep HB6.out HB9.out))).mono ?_
  rintro r w10 ⟨rfl, hb10⟩
  clear x0 x1 x2 x3 x4 x5 x6 x7 x8 x9 x10 x11 HD1b
  have HB10 := Lib.hid (bstep HB9.out hb10)
  have hX10 := HX9.out.later hb10
  have hY10 := HY9.out.later hb10
  have u0 := hX10.cell 0 _ rfl
  have u1 := hX10.cell 1 _ rfl
  have u2 := hX10.cell 2 _ rfl
  have u3 := hX10.cell 3 _ rfl
  have u4 := hX10.cell 4 _ rfl
  have u5 := hX10.cell 5 _ rfl
  have u6 := hX10.cell 6 _ rfl
  have u7 := hX10.cell 7 _ rfl
  have u8 := hX10.cell 8 _ rfl
  have u9 := hX10.cell 9 _ rfl
  have u10 := hX10.cell 10 _ rfl
  have u11 := hX10.cell 11 _ rfl
  have y0 := hY10.cell 0 _ rfl
  have y1 := hY10.cell 1 _ rfl
  have y2 := hY10.cell 2 _ rfl
  have y3 := hY10.cell 3 _ rfl
  have y4 := hY10.cell 4 _ rfl
  have y5 := hY10.cell 5 _ rfl
  have y6 := hY10.cell 6 _ rfl
  have y7 := hY10.cell 7 _ rfl
  have y8 := hY10.cell 8 _ rfl
  have y9 := hY10.cell 9 _ rfl
  have y10 := hY10.cell 10 _ rfl
  have y11 := hY10.cell 11 _ rfl
  clear hX10 hY10 hb10 HX9 HY9
  go_wp2_with fail
  refine (HS3.out w10 HB10.out).mono ?_
  rintro r w11 ⟨rfl, hb11⟩
  clear u0 u1 u2 u3 u4 u5 u6 u7 u8 u9 u10 u11 y0 y1 y2 y3 y4 y5 y6 y7 y8 y9 y10 y11 HS3
  have HB11 := Lib.hid (bstep (bstep HB2.out HB4.out) (bstep (bstep HB6.out HB10.out) hb11))
  clear hb11
  go_wp2_with fail
  refine (HAW.out _ HB11.out).mono ?_
  rintro r w12 ⟨rfl, hb12⟩
  have HB12 := Lib.hid (bstep HB11.out hb12)
  clear hb12
  go_wp2
  go_ret
  exact ⟨rfl, HB12.out⟩
end Go.Proofs.YtdoioaeppepndaaGreatDoor
