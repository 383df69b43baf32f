/- Walk: OwnQuery of the kit. Made by program (wip/tools/gen_wfOd.py). -/
import Derived.Test.YtdoioaeppepndaaGreatDoorWfOx
import Derived.Test.YtdoioaeppepndaaGreatDoorWfX4
import Derived.Test.YtdoioaeppepndaaGreatDoorAstThr
namespace Go.Proofs.YtdoioaeppepndaaGreatDoor
open Go.RowKit
open A8 Tk7 P9
attribute [local go_sem] Oper.semAt_some

theorem nd_inj {k mn mx k' mn' mx' : Int} {a a' : A8.At} {ks ks' : List Nd} (h : Nd.mk k mn mx a ks = Nd.mk k' mn' mx' a' ks') : k = k' ∧ mn = mn' ∧ mx = mx' ∧ a = a' ∧ ks = ks' := by
  injection h with h1 h2 h3 h4 h5
  exact ⟨h1, h2, h3, h4, h5⟩
theorem at_inj {kd kd' bn bn' : Int} {bd bd' : Bool} {cs cs' : List Cn} {nm nm' : List UInt8} (h : (⟨kd, bd, bn, cs, nm⟩ : A8.At) = ⟨kd', bd', bn', cs', nm'⟩) : kd = kd' ∧ bd = bd' ∧ bn = bn' ∧ cs = cs' ∧ nm = nm' := by
  injection h with h1 h2 h3 h4 h5
  exact ⟨h1, h2, h3, h4, h5⟩
theorem hv_one {hv : List Hv} : ∀ u ∈ hv.flatMap hvC, u.oneCell' = true := by
  intro u hu
  obtain ⟨c, _, hc⟩ := List.mem_flatMap.1 hu
  simp only [hvC, List.mem_cons, List.not_mem_nil, or_false] at hc
  rcases hc with rfl | rfl | rfl | rfl <;> rfl
theorem ag_one {em : List Ag} : ∀ u ∈ em.flatMap agC, u.oneCell' = true := by
  intro u hu
  obtain ⟨c, _, hc⟩ := List.mem_flatMap.1 hu
  simp only [agC, List.mem_cons, List.not_mem_nil, or_false] at hc
  rcases hc with rfl | rfl <;> rfl
theorem own_kept {W V U : World} {base n sz b : Nat} {e : TypeId} {v : Value} {us : List Value} (h : W.ownsRow base e sz v n us) (hb : Below W.heap.size W V) (hg : V.grownBy U (some b)) (hlt : b < base) : U.ownsRow base e sz v n us :=
  (own_later h hb).kept hg (.inr fun e => by have := (h.lt _ e).1; omega)
/-- What OwnQuery gives: the query in new memory. -/
def OutQ (w : World) (Q : Qu) (e : Ending) (w' : World) : Prop :=
  ∃ (k mn mx kd : Int) (bd : Bool) (bn : Int) (cs : List Cn) (nm : List UInt8) (B : Option Addr) (p q : Nat) (A : Option Addr) (n c : Nat) (ks : List Tr) (wi : Int) (C : Option Addr) (h ch : Nat) (hv : List Hv) (D : Option Addr) (m cm : Nat) (em : List Ag),
    e = .returned (.agg #[.int .i64 k, .int .i64 mn, .int .i64 mx, .int .i64 kd, .bool bd, .int .u64 bn, .slice B p q, .string (strOf nm), .slice A n c, .int .u64 wi, .slice C h ch, .slice D m cm]) ∧
    GQ.qu ⟨.mk k mn mx ⟨⟨kd, bd, bn, cs, nm⟩, .slice B p q⟩ (.slice A n c) ks, wi, .slice C h ch, hv, .slice D m cm, em⟩ = Q ∧ QW w' ⟨.mk k mn mx ⟨⟨kd, bd, bn, cs, nm⟩, .slice B p q⟩ (.slice A n c) ks, wi, .slice C h ch, hv, .slice D m cm, em⟩ ∧ Below w.heap.size w w'
set_option maxRecDepth 100000 in
set_option maxHeartbeats 32000000 in
theorem ownQuery_any (q0 : GQ) (w : World) (hq : QW w q0) (hB : Bnd q0.t.nd) (hh : q0.hv.length ≤ 1000) (he : q0.em.length ≤ 1000) : Calls Tryz.prog 20 #[.agg q0.row.toArray] w (OutQ w q0.qu) := by
  have hone := hq.tr.one
  have hown := fun (w1 : World) (hb : Below w.heap.size w w1) => ownNode_any q0.t w1 (hq.tr.later hb) hB
  obtain ⟨T, wi, sh, hv, se, em⟩ := q0
  have hsh := hq.hv
  have hse := hq.em
  have HQ := Lib.hid hq
  simp only at hone hown hsh hse hh he
  obtain ⟨k, mn, mx, ⟨⟨kd, bd, bn, cs, nm⟩, sc⟩, sk, ks⟩ := T
  obtain ⟨-, ⟨-, hsc⟩, hsl⟩ := hone
  obtain ⟨A1, n1, c1, rfl⟩ := sl_form hsc
  obtain ⟨A2, n2, c2, rfl⟩ := sl_form hsl
  obtain ⟨H1, h1, ch1, rfl⟩ := sl_form hsh
  obtain ⟨E1, e1, ce1, rfl⟩ := sl_form hse
  have HSH := Lib.hid hsh
  have HSE := Lib.hid hse
  clear hsc hsl hsh hse hq hB
  obtain ⟨iH, hiH, hzH0, hzH1, hzH2⟩ := info_parts infoHv
  obtain ⟨iA, hiA, hzA0, hzA1, hzA2⟩ := info_parts infoAg
  simp only [Tr.row] at hown
  simp only [GQ.row, Tr.row, List.cons_append, List.nil_append]
  have hqu : GQ.qu ⟨.mk k mn mx ⟨⟨kd, bd, bn, cs, nm⟩, .slice A1 n1 c1⟩ (.slice A2 n2 c2) ks, wi, .slice H1 h1 ch1, hv, .slice E1 e1 ce1, em⟩ = ⟨(Tr.mk k mn mx ⟨⟨kd, bd, bn, cs, nm⟩, .slice A1 n1 c1⟩ (.slice A2 n2 c2) ks).nd, wi, hv, em⟩ := rfl
  rw [hqu]
  clear hqu
  rw [nd_mk] at hown ⊢
  generalize ks.map Tr.nd = Ks at *
  go_enter Tryz.func20, Tryz.ntmps20
  go_upto_region 1 with fail
  refine named_wp ?_
  intro W1 hW1
  have hA1 : Blk W1 w.heap.size [.int .i64 k, .int .i64 mn, .int .i64 mx, .int .i64 kd, .bool bd, .int .u64 bn, .slice A1 n1 c1, .string (strOf nm), .slice A2 n2 c2, .int .u64 wi, .slice H1 h1 ch1, .slice E1 e1 ce1] := by rw [hW1]; exact (Blk.new w [.int .i64 k, .int .i64 mn, .int .i64 mx, .int .i64 kd, .bool bd, .int .u64 bn, .slice A1 n1 c1, .string (strOf nm), .slice A2 n2 c2, .int .u64 wi, .slice H1 h1 ch1, .slice E1 e1 ce1] 35).alloc _
  have hF1 : Blk W1 (w.heap.size + 1) [.int .i64 0, .int .i64 0, .int .i64 0, .int .i64 0, .bool false, .int .u64 0, .slice none 0 0, .string ⟨#[]⟩, .slice none 0 0, .int .u64 0, .slice none 0 0, .slice none 0 0] := by rw [hW1]; exact Blk.is (us := [.int .i64 0, .int .i64 0, .int .i64 0, .int .i64 0, .bool false, .int .u64 0, .slice none 0 0, .string ⟨#[]⟩, .slice none 0 0, .int .u64 0, .slice none 0 0, .slice none 0 0]) 35 (by simp)
  have hb1 : Below w.heap.size w W1 := by rw [hW1]; exact b2 w _ _
  have hs1 : w.heap.size + 2 ≤ W1.heap.size := by rw [hW1]; simp
  clear hW1
  have x0 := hA1.cell 0 _ rfl
  have x1 := hA1.cell 1 _ rfl
  have x2 := hA1.cell 2 _ rfl
  have x3 := hA1.cell 3 _ rfl
  have x4 := hA1.cell 4 _ rfl
  have x5 := hA1.cell 5 _ rfl
  have x6 := hA1.cell 6 _ rfl
  have x7 := hA1.cell 7 _ rfl
  have x8 := hA1.cell 8 _ rfl
  have x9 := hA1.cell 9 _ rfl
  have x10 := hA1.cell 10 _ rfl
  have x11 := hA1.cell 11 _ rfl
  have xlt := hA1.lt
  go_wp2_with fail
  refine (hown W1 hb1).mono ?_
  rintro r w2 ⟨k3, mn3, mx3, kd3, bd3, bn3, cs3, nm3, B, p, q, A, n, c, ks3, rfl, hn3, hb2, hO2⟩
  rw [nd_mk] at hn3
  obtain ⟨rfl, rfl, rfl, ha3, hk3⟩ := nd_inj hn3.symm
  obtain ⟨rfl, rfl, rfl, rfl, rfl⟩ := at_inj ha3
  clear hown hn3 ha3 xlt x0 x1 x2 x3 x4 x5 x6 x7 x8 x9 x10 x11
  have hA2 := hA1.later hb2
  have hF2 := hF1.later hb2
  have hB2 := bstep hb1 hb2
  have y0 := hA2.cell 0 _ rfl
  have z0 := hA2.fr 0 _ rfl
  have y1 := hA2.cell 1 _ rfl
  have z1 := hA2.fr 1 _ rfl
  have y2 := hA2.cell 2 _ rfl
  have z2 := hA2.fr 2 _ rfl
  have y3 := hA2.cell 3 _ rfl
  have z3 := hA2.fr 3 _ rfl
  have y4 := hA2.cell 4 _ rfl
  have z4 := hA2.fr 4 _ rfl
  have y5 := hA2.cell 5 _ rfl
  have z5 := hA2.fr 5 _ rfl
  have y6 := hA2.cell 6 _ rfl
  have z6 := hA2.fr 6 _ rfl
  have y7 := hA2.cell 7 _ rfl
  have z7 := hA2.fr 7 _ rfl
  have y8 := hA2.cell 8 _ rfl
  have z8 := hA2.fr 8 _ rfl
  have y9 := hA2.cell 9 _ rfl
  have z9 := hA2.fr 9 _ rfl
  have y10 := hA2.cell 10 _ rfl
  have z10 := hA2.fr 10 _ rfl
  have y11 := hA2.cell 11 _ rfl
  have z11 := hA2.fr 11 _ rfl
  have ylt := hA2.lt
  clear hA1 hF1 hb1
  go_upto_region 2 with fail
  refine named_wp ?_
  intro W3 hW3
  clear ylt y0 z0 y1 z1 y2 z2 y3 z3 y4 z4 y5 z5 y6 z6 y7 z7 y8 z8 y9 z9 y10 z10 y11 z11
  have hW3p : W3 = put9 w2 w.heap.size (.int .i64 k) (.int .i64 mn) (.int .i64 mx) (.int .i64 kd) (.bool bd) (.int .u64 bn) (.slice B p q) (.string (strOf nm)) (.slice A n c) := hW3
  clear hW3
  have hg3 : w2.grownBy W3 (some w.heap.size) := by rw [hW3p]; exact put9_grown _ _ _ _ _ _ _ _ _ _ _
  have hA3 : Blk W3 w.heap.size [.int .i64 k, .int .i64 mn, .int .i64 mx, .int .i64 kd, .bool bd, .int .u64 bn, .slice B p q, .string (strOf nm), .slice A n c, .int .u64 wi, .slice H1 h1 ch1, .slice E1 e1 ce1] := by rw [hW3p]; exact (((((((((hA2.set 0 _).set 1 _).set 2 _).set 3 _).set 4 _).set 5 _).set 6 _).set 7 _).set 8 _)
  have hF3 : Blk W3 (w.heap.size + 1) [.int .i64 0, .int .i64 0, .int .i64 0, .int .i64 0, .bool false, .int .u64 0, .slice none 0 0, .string ⟨#[]⟩, .slice none 0 0, .int .u64 0, .slice none 0 0, .slice none 0 0] := hF2.grown hg3 (fun e => by injection e with e; omega)
  have hb3 : Below w.heap.size w W3 := by rw [hW3p]; exact put9_below hB2 (Nat.le_refl _) _ _ _ _ _ _ _ _ _
  have hO3 := hO2.low hg3 (by omega)
  have HS := Lib.hid hs1
  have HB3 := Lib.hid hb3
  have HK := Lib.hid hk3
  have hsz3 : w.heap.size + 2 ≤ W3.heap.size := by have := hF3.lt; omega
  clear hW3p hg3 hA2 hF2 hB2 hb2 hO2 hs1 hk3
  have hown4 := World.ownsRow_made (base := W3.heap.size) (e := 96) (size := 4) W3 #[] 0 (Nat.le_refl _) (by decide) rfl
  obtain ⟨H2, ch2, v4, hrun4, hown4', hgrow4⟩ := run_append_any (P := Tryz.prog) _ W3.heap.size 32 32 96 iH (.agg #[.int .i64 0, .string ⟨#[]⟩, .int .i64 0, .int .i64 0]) 4 40 Tryz.underlying32 hiH hzH0 hzH1 hzH2 rfl (by decide) _ 0 [] hown4 _ hv.length (hv.flatMap hvC) (HSH.out.later (bstep HB3.out (b1 _ _))) hv_one (by unfold maxLen; omega) (by omega) (by simp) hv.length (hv.flatMap hvC) (Nat.zero_add _) (List.nil_append _)
  have hbv4 : Below W3.heap.size W3 v4 := (b1 _ _).grown hgrow4 (by simp) (fun k e => by simp [Value.ownBlock] at e; omega)
  have hA4 := hA3.later hbv4
  have hF4 := hF3.later hbv4
  have hO4 := hO3.later hbv4
  have HBV4 := Lib.hid hbv4
  have hA4a := hA3.alloc (.cells #[] 96)
  have x10 := hA4a.cell 10 _ rfl
  have xlt := hA4a.lt
  have y10 := hA4.cell 10 _ rfl
  have z10 := hA4.fr 10 _ rfl
  have ylt := hA4.lt
  have HOW4 := Lib.hid hown4'
  clear hown4 hown4' hgrow4 hbv4 hA4a hA3 hF3 hO3
  go_upto_region 3 with (at_builtin; refine wpList_append_run rfl _ _ _ rfl rfl rfl hrun4 ?_)
  refine named_wp ?_
  intro W5 hW5
  have hg4 : v4.grownBy W5 (some w.heap.size) := by rw [hW5]; exact grown_setb _ _ _ _
  have hA4b : Blk W5 w.heap.size [.int .i64 k, .int .i64 mn, .int .i64 mx, .int .i64 kd, .bool bd, .int .u64 bn, .slice B p q, .string (strOf nm), .slice A n c, .int .u64 wi, .slice H2 hv.length ch2, .slice E1 e1 ce1] := by rw [hW5]; exact hA4.set 10 _
  have hF4b := hF4.grown hg4 (fun e => by injection e with e; omega)
  have hO4b := hO4.low hg4 (by have := HS.out; omega)
  have HBW5 : Hid (Below w.heap.size w W5) := Lib.hid (by rw [hW5]; exact (bstep HB3.out HBV4.out).setCell (p := ⟨w.heap.size, 10, none⟩) (Nat.le_refl _) _)
  have HR4 : Hid (W5.ownsRow W3.heap.size 96 4 (.slice H2 hv.length ch2) hv.length (hv.flatMap hvC)) := Lib.hid (by rw [hW5]; exact own_set HOW4.out (by omega) 10 _)
  clear hW5 hg4 hA4 hF4 hO4 hrun4 HOW4 x10 y10 z10 xlt ylt
  have hsz5 : w.heap.size + 2 ≤ W5.heap.size := by have := hF4b.lt; omega
  have hown6 := World.ownsRow_made (base := W5.heap.size) (e := 92) (size := 2) W5 #[] 0 (Nat.le_refl _) (by decide) rfl
  obtain ⟨E2, ce2, v6, hrun6, hown6', hgrow6⟩ := run_append_any (P := Tryz.prog) _ W5.heap.size 33 33 92 iA (.agg #[.int .i64 0, .string ⟨#[]⟩]) 2 24 Tryz.underlying33 hiA hzA0 hzA1 hzA2 rfl (by decide) _ 0 [] hown6 _ em.length (em.flatMap agC) (HSE.out.later (bstep HBW5.out (b1 _ _))) ag_one (by unfold maxLen; omega) (by omega) (by simp) em.length (em.flatMap agC) (Nat.zero_add _) (List.nil_append _)
  have hbv6 : Below W5.heap.size W5 v6 := (b1 _ _).grown hgrow6 (by simp) (fun k e => by simp [Value.ownBlock] at e; omega)
  have hA6 := hA4b.later hbv6
  have hF6 := hF4b.later hbv6
  have hO6 := hO4b.later hbv6
  have HBV6 := Lib.hid hbv6
  have hA6a := hA4b.alloc (.cells #[] 92)
  have x11 := hA6a.cell 11 _ rfl
  have xlt := hA6a.lt
  have y11 := hA6.cell 11 _ rfl
  have z11 := hA6.fr 11 _ rfl
  have ylt := hA6.lt
  have HOW6 := Lib.hid hown6'
  clear hown6 hown6' hgrow6 hbv6 hA6a hA4b hF4b hO4b
  go_upto_region 4 with (at_builtin; refine wpList_append_run rfl _ _ _ rfl rfl rfl hrun6 ?_)
  refine named_wp ?_
  intro W7 hW7
  have hg6 : v6.grownBy W7 (some w.heap.size) := by rw [hW7]; exact grown_setb _ _ _ _
  have hA6b : Blk W7 w.heap.size [.int .i64 k, .int .i64 mn, .int .i64 mx, .int .i64 kd, .bool bd, .int .u64 bn, .slice B p q, .string (strOf nm), .slice A n c, .int .u64 wi, .slice H2 hv.length ch2, .slice E2 em.length ce2] := by rw [hW7]; exact hA6.set 11 _
  have hF6b := hF6.grown hg6 (fun e => by injection e with e; omega)
  have hO6b := hO6.low hg6 (by have := HS.out; omega)
  have HBW7 : Hid (Below w.heap.size w W7) := Lib.hid (by rw [hW7]; exact (bstep HBW5.out HBV6.out).setCell (p := ⟨w.heap.size, 11, none⟩) (Nat.le_refl _) _)
  have HR6 : Hid (W7.ownsRow W5.heap.size 92 2 (.slice E2 em.length ce2) em.length (em.flatMap agC)) := Lib.hid (by rw [hW7]; exact own_set HOW6.out (by omega) 11 _)
  have HG7 : Hid (v6.grownBy W7 (some w.heap.size)) := Lib.hid hg6
  clear hW7 hg6 hA6 hF6 hO6 hrun6 HOW6 x11 y11 z11 xlt ylt
  have y0 := hA6b.cell 0 _ rfl
  have z0 := hA6b.fr 0 _ rfl
  have y1 := hA6b.cell 1 _ rfl
  have z1 := hA6b.fr 1 _ rfl
  have y2 := hA6b.cell 2 _ rfl
  have z2 := hA6b.fr 2 _ rfl
  have y3 := hA6b.cell 3 _ rfl
  have z3 := hA6b.fr 3 _ rfl
  have y4 := hA6b.cell 4 _ rfl
  have z4 := hA6b.fr 4 _ rfl
  have y5 := hA6b.cell 5 _ rfl
  have z5 := hA6b.fr 5 _ rfl
  have y6 := hA6b.cell 6 _ rfl
  have z6 := hA6b.fr 6 _ rfl
  have y7 := hA6b.cell 7 _ rfl
  have z7 := hA6b.fr 7 _ rfl
  have y8 := hA6b.cell 8 _ rfl
  have z8 := hA6b.fr 8 _ rfl
  have y9 := hA6b.cell 9 _ rfl
  have z9 := hA6b.fr 9 _ rfl
  have y10 := hA6b.cell 10 _ rfl
  have z10 := hA6b.fr 10 _ rfl
  have y11 := hA6b.cell 11 _ rfl
  have z11 := hA6b.fr 11 _ rfl
  have d0 := hF6b.cell 0 _ rfl
  have e0 := hF6b.fr 0 _ rfl
  have d1 := hF6b.cell 1 _ rfl
  have e1 := hF6b.fr 1 _ rfl
  have d2 := hF6b.cell 2 _ rfl
  have e2 := hF6b.fr 2 _ rfl
  have d3 := hF6b.cell 3 _ rfl
  have e3 := hF6b.fr 3 _ rfl
  have d4 := hF6b.cell 4 _ rfl
  have e4 := hF6b.fr 4 _ rfl
  have d5 := hF6b.cell 5 _ rfl
  have e5 := hF6b.fr 5 _ rfl
  have d6 := hF6b.cell 6 _ rfl
  have e6 := hF6b.fr 6 _ rfl
  have d7 := hF6b.cell 7 _ rfl
  have e7 := hF6b.fr 7 _ rfl
  have d8 := hF6b.cell 8 _ rfl
  have e8 := hF6b.fr 8 _ rfl
  have d9 := hF6b.cell 9 _ rfl
  have e9 := hF6b.fr 9 _ rfl
  have d10 := hF6b.cell 10 _ rfl
  have e10 := hF6b.fr 10 _ rfl
  have d11 := hF6b.cell 11 _ rfl
  have e11 := hF6b.fr 11 _ rfl
  have ylt := hA6b.lt
  have dlt := hF6b.lt
  have HF := Lib.hid hF6b
  have HO := Lib.hid hO6b
  have HV : Hid (W7.ownsRow W3.heap.size 96 4 (.slice H2 hv.length ch2) hv.length (hv.flatMap hvC)) := Lib.hid (own_kept HR4.out HBV6.out HG7.out (by omega))
  clear hA6b hF6b hO6b
  go_wp2
  refine named_post ?_
  intro W9 hW9
  clear ylt dlt y0 z0 d0 e0 y1 z1 d1 e1 y2 z2 d2 e2 y3 z3 d3 e3 y4 z4 d4 e4 y5 z5 d5 e5 y6 z6 d6 e6 y7 z7 d7 e7 y8 z8 d8 e8 y9 z9 d9 e9 y10 z10 d10 e10 y11 z11 d11 e11
  have hZ : Blk W9 (w.heap.size + 1) [.int .i64 k, .int .i64 mn, .int .i64 mx, .int .i64 kd, .bool bd, .int .u64 bn, .slice B p q, .string (strOf nm), .slice A n c, .int .u64 wi, .slice H2 hv.length ch2, .slice E2 em.length ce2] := by rw [hW9]; exact ((((((((((((HF.out.set 0 _).set 1 _).set 2 _).set 3 _).set 4 _).set 5 _).set 6 _).set 7 _).set 8 _).set 9 _).set 10 _).set 11 _)
  have hB9 : Below w.heap.size w W9 := by rw [hW9]; exact ((((((((((((HBW7.out.setCell (p := ⟨w.heap.size + 1, 0, none⟩) (Nat.le_succ _) _).setCell (p := ⟨w.heap.size + 1, 1, none⟩) (Nat.le_succ _) _).setCell (p := ⟨w.heap.size + 1, 2, none⟩) (Nat.le_succ _) _).setCell (p := ⟨w.heap.size + 1, 3, none⟩) (Nat.le_succ _) _).setCell (p := ⟨w.heap.size + 1, 4, none⟩) (Nat.le_succ _) _).setCell (p := ⟨w.heap.size + 1, 5, none⟩) (Nat.le_succ _) _).setCell (p := ⟨w.heap.size + 1, 6, none⟩) (Nat.le_succ _) _).setCell (p := ⟨w.heap.size + 1, 7, none⟩) (Nat.le_succ _) _).setCell (p := ⟨w.heap.size + 1, 8, none⟩) (Nat.le_succ _) _).setCell (p := ⟨w.heap.size + 1, 9, none⟩) (Nat.le_succ _) _).setCell (p := ⟨w.heap.size + 1, 10, none⟩) (Nat.le_succ _) _).setCell (p := ⟨w.heap.size + 1, 11, none⟩) (Nat.le_succ _) _)
  have hO9 := (show OwnT W1.heap.size W9 k mn mx ⟨⟨kd, bd, bn, cs, nm⟩, .slice B p q⟩ (.slice A n c) ks3 by rw [hW9]; exact ((((((((((((HO.out.low (grown_setb _ (w.heap.size + 1) 0 _) (by have := HS.out; omega)).low (grown_setb _ (w.heap.size + 1) 1 _) (by have := HS.out; omega)).low (grown_setb _ (w.heap.size + 1) 2 _) (by have := HS.out; omega)).low (grown_setb _ (w.heap.size + 1) 3 _) (by have := HS.out; omega)).low (grown_setb _ (w.heap.size + 1) 4 _) (by have := HS.out; omega)).low (grown_setb _ (w.heap.size + 1) 5 _) (by have := HS.out; omega)).low (grown_setb _ (w.heap.size + 1) 6 _) (by have := HS.out; omega)).low (grown_setb _ (w.heap.size + 1) 7 _) (by have := HS.out; omega)).low (grown_setb _ (w.heap.size + 1) 8 _) (by have := HS.out; omega)).low (grown_setb _ (w.heap.size + 1) 9 _) (by have := HS.out; omega)).low (grown_setb _ (w.heap.size + 1) 10 _) (by have := HS.out; omega)).low (grown_setb _ (w.heap.size + 1) 11 _) (by have := HS.out; omega))).trW
  have hv9 : W9.ownsRow W3.heap.size 96 4 (.slice H2 hv.length ch2) hv.length (hv.flatMap hvC) := by rw [hW9]; exact (own_set (own_set (own_set (own_set (own_set (own_set (own_set (own_set (own_set (own_set (own_set (own_set HV.out (b := w.heap.size + 1) (by omega) 0 _) (b := w.heap.size + 1) (by omega) 1 _) (b := w.heap.size + 1) (by omega) 2 _) (b := w.heap.size + 1) (by omega) 3 _) (b := w.heap.size + 1) (by omega) 4 _) (b := w.heap.size + 1) (by omega) 5 _) (b := w.heap.size + 1) (by omega) 6 _) (b := w.heap.size + 1) (by omega) 7 _) (b := w.heap.size + 1) (by omega) 8 _) (b := w.heap.size + 1) (by omega) 9 _) (b := w.heap.size + 1) (by omega) 10 _) (b := w.heap.size + 1) (by omega) 11 _)
  have he9 : W9.ownsRow W5.heap.size 92 2 (.slice E2 em.length ce2) em.length (em.flatMap agC) := by rw [hW9]; exact (own_set (own_set (own_set (own_set (own_set (own_set (own_set (own_set (own_set (own_set (own_set (own_set HR6.out (b := w.heap.size + 1) (by omega) 0 _) (b := w.heap.size + 1) (by omega) 1 _) (b := w.heap.size + 1) (by omega) 2 _) (b := w.heap.size + 1) (by omega) 3 _) (b := w.heap.size + 1) (by omega) 4 _) (b := w.heap.size + 1) (by omega) 5 _) (b := w.heap.size + 1) (by omega) 6 _) (b := w.heap.size + 1) (by omega) 7 _) (b := w.heap.size + 1) (by omega) 8 _) (b := w.heap.size + 1) (by omega) 9 _) (b := w.heap.size + 1) (by omega) 10 _) (b := w.heap.size + 1) (by omega) 11 _)
  clear hW9
  have z0 := hZ.cell 0 _ rfl
  have z1 := hZ.cell 1 _ rfl
  have z2 := hZ.cell 2 _ rfl
  have z3 := hZ.cell 3 _ rfl
  have z4 := hZ.cell 4 _ rfl
  have z5 := hZ.cell 5 _ rfl
  have z6 := hZ.cell 6 _ rfl
  have z7 := hZ.cell 7 _ rfl
  have z8 := hZ.cell 8 _ rfl
  have z9 := hZ.cell 9 _ rfl
  have z10 := hZ.cell 10 _ rfl
  have z11 := hZ.cell 11 _ rfl
  refine bodyPost_ret (by simp [results, Tryz.results20, go_sem, z0, z1, z2, z3, z4, z5, z6, z7, z8, z9, z10, z11]; try rfl) rfl ?_
  exact ⟨k, mn, mx, kd, bd, bn, cs, nm, B, p, q, A, n, c, ks3, wi, H2, hv.length, ch2, hv, E2, em.length, ce2, em, rfl, by rw [GQ.qu, nd_mk, ← HK.out], ⟨hO9, HQ.out.wi, Sl.of_own hv9, Sl.of_own he9, HQ.out.okh, HQ.out.oke⟩, hB9⟩
end Go.Proofs.YtdoioaeppepndaaGreatDoor
