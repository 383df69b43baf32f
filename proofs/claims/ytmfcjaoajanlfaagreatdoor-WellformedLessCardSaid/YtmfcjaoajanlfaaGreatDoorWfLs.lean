/- Walk: WellformedLess. Made by program (wip/tools/gen_wfLs.py). -/
import Derived.Test.YtmfcjaoajanlfaaGreatDoorWfOx
import Derived.Test.YtmfcjaoajanlfaaGreatDoorWfPx
import Derived.Test.YtmfcjaoajanlfaaGreatDoorWfNO
import Derived.Test.YtmfcjaoajanlfaaGreatDoorWfRU
import Derived.Test.YtmfcjaoajanlfaaGreatDoorAstWr
import Derived.Test.YtmfcjaoajanlfaaGreatDoorPrM
import Derived.Test.YtmfcjaoajanlfaaGreatDoorKitQw
import Derived.Deep.CutBlock
import Derived.Deep.DeepCutAuto
namespace Go.Proofs.YtmfcjaoajanlfaaGreatDoor
open Go.RowKit Go.Shelf Go.Maps
open A8 Tk7 P9 W10 Kq
attribute [local go_sem] Oper.semAt_some

/-- A query in memory that has no error, and is small. -/
structure OkG (w : World) (q : GQ) : Prop where
  qw : QW w q
  z : wfE q.qu = 0
  len : lenN q.t.nd ≤ 25
  nu : ∀ s ∈ useL q.qu, s.length ≤ 1
  us : (useL q.qu).length ≤ 6
  bnd : Bnd q.t.nd
  hl : q.hv.length ≤ 1000
  el : q.em.length ≤ 1000
theorem OkG.later {w w' : World} {q : GQ} (h : OkG w q) (hb : Below w.heap.size w w') : OkG w' q := ⟨h.qw.later hb, h.z, h.len, h.nu, h.us, h.bnd, h.hl, h.el⟩
theorem OkG.slen {w : World} {q : GQ} (h : OkG w q) : (subsT q.t).length ≤ 999999 := by
  have h1 : (subsT q.t).length = lenN q.t.nd := by unfold lenN; rw [← subsT_nd, List.length_map]
  have := h.len
  omega
theorem OkG.nu2 {w : World} {q : GQ} (h : OkG w q) : ∀ s ∈ useL q.qu, s.length ≤ maxLen := fun s hs => by have := h.nu s hs; unfold maxLen; omega
theorem ok_kit {w : World} {q : GQ} {l : List Int} (hq : QW w q) (h : q.qu = kitQ l) : OkG w q := by
  have hk := kitQ_ok l
  have hp : q.t.nd = (kitQ l).p := congrArg Qu.p h
  have h1 : q.hv = (kitQ l).hv := congrArg Qu.hv h
  have h2 : q.em = (kitQ l).em := congrArg Qu.em h
  exact ⟨hq, by rw [h]; exact kit_wf l, by rw [hp]; exact kit_len l, by rw [h]; exact use_short l, by rw [h]; exact use_few l, by rw [hp]; exact (kit_pat l).small, by rw [h1]; have := hk.hl; omega, by rw [h2]; have := hk.el; omega⟩
theorem ok_less {w : World} {T : Tr} {wi x : Int} {C D : Option Addr} {h ch m cm jn : Nat} {hv : List Hv} {em : List Ag} {l : List Int} (hq : QW w ⟨T, wi, .slice C h ch, hv, .slice D m cm, em⟩) (hn : GQ.qu ⟨T, wi, .slice C h ch, hv, .slice D m cm, em⟩ = kitQ l) (hj : jn ≤ m) (hm : m = em.length) (hx : 0 ≤ x ∧ x ≤ wi) (hw : wi < 8) :
    OkG w ⟨T, x, .slice none 0 0, [], .slice D jn cm, em.take jn⟩ := by
  have h0 := ok_kit hq hn
  have hp : T.nd = (kitQ l).p := congrArg Qu.p hn
  have h2 : em = (kitQ l).em := congrArg Qu.em hn
  have h3 : wi = (kitQ l).wi := congrArg Qu.wi hn
  have hqu : GQ.qu ⟨T, x, .slice none 0 0, [], .slice D jn cm, em.take jn⟩ = lessQ (kitQ l) x jn := by
    unfold GQ.qu lessQ
    rw [← hp, ← h2]
  have hem := hq.em
  simp only at hem
  subst hm
  have hs := sl_take hem hj
  rw [← flat_take agC_len] at hs
  have hl : (em.take jn).length = jn := by rw [List.length_take]; omega
  refine ⟨⟨hq.tr, ⟨hx.1, by show x < _; omega⟩, Sl.nil _ _, (by show Sl w 2 (em.take jn).length _ _; rw [hl]; exact hs), (fun y hy => by cases hy), fun y hy => hq.oke y (List.mem_of_mem_take hy)⟩, by rw [hqu]; exact less_wf l x jn (by omega), h0.len, fun s hs2 => ?_, ?_, h0.bnd, Nat.zero_le _, ?_⟩
  · rw [hqu] at hs2
    exact use_short l s (less_use _ _ _ s hs2)
  · rw [hqu]
    unfold useL lessQ
    rw [List.length_append, List.length_map, List.length_map, List.length_take]
    have := (kitQ_ok l).el
    simp
    omega
  · have := h0.el
    show (em.take jn).length ≤ 1000
    simp only at this
    omega
theorem sl_cap {w : World} {sz n m c : Nat} {A : Option Addr} {us : List Value} (h : Sl w sz n (.slice A m c) us) : m = n ∧ m ≤ c := by
  obtain ⟨_, _, A', c', hv, hc, _⟩ := h
  injection hv with h1 h2 h3
  omega
theorem chk_zero (q : GQ) (w : World) (h : OkG w q) (hG : SG w) : Calls Tryz.prog 6 #[.agg q.row.toArray] w fun e w' => e = .returned (.int .i64 0) ∧ Below w.heap.size w w' := by
  have := wcheck_any q w h.qw h.slen hG h.nu2
  rw [h.z] at this
  exact this
theorem names_any (q : GQ) (w : World) (h : OkG w q) (hG : SG w) : Calls Tryz.prog 9 #[.agg q.row.toArray] w (TxtP w (namesN q.t.nd) 0) := by
  have := wNames_any q w h.qw h.slen hG h.nu2
  rw [names_zero h.z, h.z] at this
  exact this
theorem uses_any (q : GQ) (w : World) (h : OkG w q) (hG : SG w) : Calls Tryz.prog 10 #[.agg q.row.toArray] w (TxtP w (firsts [] (useL q.qu)) 0) := by
  have := wUses_any q w h.qw h.slen hG h.nu2 (by have := h.us; omega)
  rw [uses_zero h.z, h.z] at this
  exact this
theorem named_is_any (q : GQ) (s : List UInt8) (w : World) (h : OkG w q) (hG : SG w) (hs : s ∈ namesN q.t.nd) (hl : s.length ≤ 1) : Calls Tryz.prog 12 #[.agg q.row.toArray, .string (strOf s)] w fun e w' => e = .returned (.tuple #[.int .i64 (findN s (leafNames q.t.nd) 0), .int .i64 0]) ∧ Below w.heap.size w w' := by
  have := wNamed_any q s w h.qw h.slen hG h.nu2 (by unfold maxLen; omega)
  obtain ⟨h1, h2⟩ := named_zero h.z (s := s) hs
  rw [h1, h2] at this
  exact this
theorem strs_of {w : World} {base n : Nat} {A : Option Addr} {c : Nat} {L : List (List UInt8)} (h : w.ownsRow base 9 1 (.slice A n c) n (L.map fun s => .string (strOf s))) : Slc w (.slice A n c) ((L.map strOf).map Value.string) := by
  have h1 : (L.map strOf).map Value.string = L.map fun s => .string (strOf s) := by rw [List.map_map]; rfl
  rw [h1]
  exact Slc.of_own h
theorem str_at {w : World} {A : Option Addr} {n c : Nat} {L : List (List UInt8)} (h : Slc w (.slice A n c) ((L.map strOf).map Value.string)) {j : Nat} (hj : j < L.length) : ∃ a, A = some a ∧ ∀ w', Below w.heap.size w w' → w'.cell? (a.add j) = some (.string (strOf L[j])) := by
  obtain ⟨A', c', hv, _, _, hc⟩ := h
  injection hv with h1 h2 h3
  subst h1
  obtain ⟨a, ha, hb, hc2⟩ := hc j (by rw [List.length_map, List.length_map]; exact hj)
  refine ⟨a, ha, fun w' hb' => ?_⟩
  rw [List.getElem_map, List.getElem_map] at hc2
  exact (hb'.cell (p := a.add j) (by rw [add_block]; exact hb)).trans hc2
theorem size_strOf (l : List UInt8) : (strOf l).size = l.length := by unfold strOf; simp [ByteArray.size]
set_option maxRecDepth 100000 in
set_option maxHeartbeats 32000000 in
theorem less_any (v0 : Value) (ns : List Int) (a : Int) (W : World) (hL : Lay W) (hv : Slc W v0 (vals .i64 ns)) : Calls Tryz.prog 3 #[v0, .int .i64 a] W fun r w' => r = .returned (.bool true) ∧ Below W.heap.size W w' := by
  have hKn := wknown_any W hL.sg
  have hq := fun (w1 : World) (hb : Below W.heap.size W w1) => query_any v0 ns w1 (hv.below hb)
  have HL0 := Lib.hid hL
  clear hL
  go_enter Tryz.func3, Tryz.ntmps3
  go_upto_region 2 with (go_at_call 4; refine hKn.mono ?_; rintro r w1 ⟨rfl, hb1⟩)
  go_wp2_with fail
  refine (hq w1 hb1).mono ?_
  rintro r w2 ⟨G, hG0, hQ, rfl, hb2⟩
  clear hKn hq hv
  have hok := ok_kit hQ hG0
  obtain ⟨T, wi, sh, hvs, se, ems⟩ := G
  obtain ⟨k, mn, mx, ⟨⟨kd, bd, bn, cs, nm⟩, sc⟩, sk, ks⟩ := T
  have hone := hQ.tr.one
  have hsh := hQ.hv
  have hse := hQ.em
  simp only at hone hsh hse
  obtain ⟨A1, n1, c1, rfl⟩ := sl_form hone.2.1.2
  obtain ⟨A, n, c, rfl⟩ := sl_form hone.2.2
  obtain ⟨H1, h1, ch1, rfl⟩ := sl_form hsh
  obtain ⟨E1, e1, ce1, rfl⟩ := sl_form hse
  have hwi : wi = (kitQ ns).wi := congrArg Qu.wi hG0
  have hw0 : 0 ≤ wi ∧ wi < 8 := by rw [hwi]; exact (kitQ_ok ns).wi
  have HG0 := Lib.hid hG0
  have HWI := Lib.hid (And.intro hwi hw0)
  clear hone hsh hse hQ hG0 hwi hw0
  simp only [GQ.row, Tr.row, List.cons_append, List.nil_append]
  go_upto_region 3 with fail
  refine named_wp ?_
  intro W3 hW3
  have hK3 : Blk W3 w2.heap.size [.int .i64 k, .int .i64 mn, .int .i64 mx, .int .i64 kd, .bool bd, .int .u64 bn, .slice A1 n1 c1, .string (strOf nm), .slice A n c, .int .u64 wi, .slice H1 h1 ch1, .slice E1 e1 ce1] := by rw [hW3]; exact Blk.new w2 [.int .i64 k, .int .i64 mn, .int .i64 mx, .int .i64 kd, .bool bd, .int .u64 bn, .slice A1 n1 c1, .string (strOf nm), .slice A n c, .int .u64 wi, .slice H1 h1 ch1, .slice E1 e1 ce1] 34
  have hb3 : Below w2.heap.size w2 W3 := by rw [hW3]; exact b1 _ _
  clear hW3
  have HQ := Lib.hid (hok.later hb3)
  have HB := Lib.hid (bstep (bstep hb1 hb2) hb3)
  have HK := Lib.hid hK3
  clear hok hb1 hb2 hb3
  have x0 := hK3.cell 0 _ rfl
  have x1 := hK3.cell 1 _ rfl
  have x2 := hK3.cell 2 _ rfl
  have x3 := hK3.cell 3 _ rfl
  have x4 := hK3.cell 4 _ rfl
  have x5 := hK3.cell 5 _ rfl
  have x6 := hK3.cell 6 _ rfl
  have x7 := hK3.cell 7 _ rfl
  have x8 := hK3.cell 8 _ rfl
  have x9 := hK3.cell 9 _ rfl
  have x10 := hK3.cell 10 _ rfl
  have x11 := hK3.cell 11 _ rfl
  have xlt := hK3.lt
  clear hK3
  go_wp2_with fail
  have F1 := chk_zero (⟨.mk k mn mx ⟨⟨kd, bd, bn, cs, nm⟩, .slice A1 n1 c1⟩ (.slice A n c) ks, wi, .slice H1 h1 ch1, hvs, .slice E1 e1 ce1, ems⟩ : GQ) W3 HQ.out (HL0.out.later HB.out).sg
  simp only [GQ.row, Tr.row, List.cons_append, List.nil_append] at F1
  refine F1.mono ?_
  rintro r w4 ⟨rfl, hb4⟩
  clear x0 x1 x2 x3 x4 x5 x6 x7 x8 x9 x10 x11 xlt F1
  have hK4 := HK.out.later hb4
  have x0 := hK4.cell 0 _ rfl
  have x1 := hK4.cell 1 _ rfl
  have x2 := hK4.cell 2 _ rfl
  have x3 := hK4.cell 3 _ rfl
  have x4 := hK4.cell 4 _ rfl
  have x5 := hK4.cell 5 _ rfl
  have x6 := hK4.cell 6 _ rfl
  have x7 := hK4.cell 7 _ rfl
  have x8 := hK4.cell 8 _ rfl
  have x9 := hK4.cell 9 _ rfl
  have x10 := hK4.cell 10 _ rfl
  have x11 := hK4.cell 11 _ rfl
  have xlt := hK4.lt
  clear hK4
  go_wp2_with fail
  have F2 := ownQuery_any (⟨.mk k mn mx ⟨⟨kd, bd, bn, cs, nm⟩, .slice A1 n1 c1⟩ (.slice A n c) ks, wi, .slice H1 h1 ch1, hvs, .slice E1 e1 ce1, ems⟩ : GQ) w4 (HQ.out.later hb4).qw HQ.out.bnd HQ.out.hl HQ.out.el
  simp only [GQ.row, Tr.row, List.cons_append, List.nil_append] at F2
  refine F2.mono ?_
  rintro r v5 ⟨k7, mn7, mx7, kd7, bd7, bn7, cs7, nm7, B7, p7, q7, A7, n7, c7, ks7, wi7, C7, h7, ch7, hv7, D7, m7, cm7, em7, rfl, hn7, hq7, hb5⟩
  clear x0 x1 x2 x3 x4 x5 x6 x7 x8 x9 x10 x11 xlt F2
  have hn8 := hn7.trans HG0.out
  clear hn7
  have HB5 := Lib.hid (bstep hb4 hb5)
  clear hb4 hb5
  have hwi7 : wi7 = wi := by have h1 : wi7 = (kitQ ns).wi := congrArg Qu.wi hn8; rw [h1, HWI.out.1]
  subst hwi7
  obtain ⟨hm7, hmc7⟩ := sl_cap hq7.em
  have hmle : m7 ≤ 3 := by have h1 : em7 = (kitQ ns).em := congrArg Qu.em hn8; rw [hm7, h1]; exact (kitQ_ok ns).el
  have HM7 := Lib.hid (And.intro hm7 (And.intro hmc7 hmle))
  have HN7 := Lib.hid hn8
  have HQ7 := Lib.hid hq7
  clear hm7 hmc7 hmle hn8 hq7
  go_upto_region 6 with fail
  refine named_wp ?_
  intro W6 hW6
  have hK7 : Blk W6 v5.heap.size [.int .i64 k7, .int .i64 mn7, .int .i64 mx7, .int .i64 kd7, .bool bd7, .int .u64 bn7, .slice B7 p7 q7, .string (strOf nm7), .slice A7 n7 c7, .int .u64 wi7, .slice C7 h7 ch7, .slice D7 m7 cm7] := by rw [hW6]; exact Blk.new v5 [.int .i64 k7, .int .i64 mn7, .int .i64 mx7, .int .i64 kd7, .bool bd7, .int .u64 bn7, .slice B7 p7 q7, .string (strOf nm7), .slice A7 n7 c7, .int .u64 wi7, .slice C7 h7 ch7, .slice D7 m7 cm7] 34
  have hb6 : Below v5.heap.size v5 W6 := by rw [hW6]; exact b1 _ _
  clear hW6
  have hK6 := HK.out.later (bstep HB5.out hb6)
  have y9 := hK6.cell 9 _ rfl
  have ylt := hK6.lt
  have x9 := hK7.cell 9 _ rfl
  have z9 := hK7.fr 9 _ rfl
  have xlt := hK7.lt
  obtain ⟨D, hD⟩ : ∃ D, D = wi7 + 1 := ⟨_, rfl⟩
  have hw1 : IntKind.i64.wrap wi7 = wi7 := IntWalk.i64_in _ ⟨by have := HWI.out.2; omega, by have := HWI.out.2; omega⟩
  have hw2 : IntKind.i64.wrap (wi7 + 1) = D := (IntWalk.i64_in _ ⟨by have := HWI.out.2; omega, by have := HWI.out.2; omega⟩).trans hD.symm
  obtain ⟨x, hx⟩ : ∃ x, a % D = x := ⟨_, rfl⟩
  have hx0 : 0 ≤ x ∧ x ≤ wi7 := by rw [← hx]; have h1 := Int.emod_nonneg a (show D ≠ 0 by have := HWI.out.2; omega); have h2 := Int.emod_lt_of_pos a (show 0 < D by have := HWI.out.2; omega); omega
  have hwx : IntKind.u64.wrap x = x := IntWalk.u64_in _ ⟨by omega, by have := HWI.out.2; omega⟩
  have hMa := fun w => mod_any a D w (by have := HWI.out.2; omega) (by have := HWI.out.2; omega)
  simp only [hx] at hMa
  have HX := Lib.hid hx0
  clear hD hx hx0 hK6
  go_upto_region 7 with (go_at_call 8; refine (hMa _).mono ?_; rintro r w7 ⟨rfl, rfl⟩)
  refine named_wp ?_
  intro W7 hW7
  clear y9 ylt x9 z9 xlt hw1 hw2 hwx hMa
  have hK8 : Blk W7 v5.heap.size [.int .i64 k7, .int .i64 mn7, .int .i64 mx7, .int .i64 kd7, .bool bd7, .int .u64 bn7, .slice B7 p7 q7, .string (strOf nm7), .slice A7 n7 c7, .int .u64 x, .slice C7 h7 ch7, .slice D7 m7 cm7] := by rw [hW7]; exact hK7.set 9 _
  have hb7 : Below v5.heap.size v5 W7 := by rw [hW7]; exact hb6.setCell (p := ⟨v5.heap.size, 9, none⟩) (Nat.le_refl _) _
  clear hW7 hK7 hb6
  have y11 := hK8.cell 11 _ rfl
  have z11 := hK8.fr 11 _ rfl
  have ylt := hK8.lt
  obtain ⟨M, hM⟩ : ∃ M, M = (m7 : Int) + 1 := ⟨_, rfl⟩
  have hwM : IntKind.i64.wrap ((m7 : Int) + 1) = M := (IntWalk.i64_in _ ⟨by omega, by have := HM7.out.2.2; omega⟩).trans hM.symm
  obtain ⟨jn, hjn⟩ : ∃ jn : Nat, a % M = (jn : Int) := ⟨(a % M).toNat, by have := Int.emod_nonneg a (show M ≠ 0 by omega); omega⟩
  have hjm : jn ≤ m7 := by have := Int.emod_lt_of_pos a (show 0 < M by omega); omega
  have hMm := fun w => mod_any a M w (by omega) (by have := HM7.out.2.2; omega)
  simp only [hjn] at hMm
  have hj0 : (0 : Int) ≤ (jn : Int) := by omega
  have hjc : (jn : Int) ≤ (cm7 : Int) := by have := HM7.out.2.1; omega
  have HJ := Lib.hid hjm
  have HK8 := Lib.hid hK8
  have HB7 := Lib.hid hb7
  clear hM hjn hjm hK8 hb7
  go_cut [] (fun wx => Hid (Blk wx v5.heap.size [.int .i64 k7, .int .i64 mn7, .int .i64 mx7, .int .i64 kd7, .bool bd7, .int .u64 bn7, .slice B7 p7 q7, .string (strOf nm7), .slice A7 n7 c7, .int .u64 x, .slice C7 h7 ch7, .slice D7 jn cm7] ∧ Below v5.heap.size v5 wx))
  case first =>
    go_region_with (go_at_call 8; refine (hMm _).mono ?_; rintro r w7 ⟨rfl, rfl⟩)
    all_goals (go_wp2_with fail; go_meet; (case rel => exact Lib.hid ⟨by first | exact HK8.out.drew.set 11 _ | exact HK8.out.set 11 _ | exact (HK8.out.set 11 _).drew, by first | exact HB7.out.drew.setCell (p := ⟨v5.heap.size, 11, none⟩) (Nat.le_refl _) _ | exact HB7.out.setCell (p := ⟨v5.heap.size, 11, none⟩) (Nat.le_refl _) _ | exact (HB7.out.setCell (p := ⟨v5.heap.size, 11, none⟩) (Nat.le_refl _) _).drew⟩))
  case rest =>
  rename World => W8
  obtain ⟨hK9, hb8⟩ := hcut.out
  clear hcut y11 z11 ylt hwM hMm hj0 hjc HK8 HB7
  have y10 := hK9.cell 10 _ rfl
  have z10 := hK9.fr 10 _ rfl
  have ylt := hK9.lt
  go_upto_region 9 with fail
  refine named_wp ?_
  intro W9 hW9
  clear y10 z10 ylt
  have hK10 : Blk W9 v5.heap.size [.int .i64 k7, .int .i64 mn7, .int .i64 mx7, .int .i64 kd7, .bool bd7, .int .u64 bn7, .slice B7 p7 q7, .string (strOf nm7), .slice A7 n7 c7, .int .u64 x, .slice none 0 0, .slice D7 jn cm7] := by rw [hW9]; exact hK9.set 10 _
  have hb9 : Below v5.heap.size v5 W9 := by rw [hW9]; exact hb8.setCell (p := ⟨v5.heap.size, 10, none⟩) (Nat.le_refl _) _
  clear hW9 hK9 hb8
  have hlq : OkG W9 (⟨.mk k7 mn7 mx7 ⟨⟨kd7, bd7, bn7, cs7, nm7⟩, .slice B7 p7 q7⟩ (.slice A7 n7 c7) ks7, x, .slice none 0 0, [], .slice D7 jn cm7, em7.take jn⟩ : GQ) := ok_less (HQ7.out.later hb9) HN7.out HJ.out HM7.out.1 HX.out (by have := HWI.out; omega)
  have hb39 := bstep HB5.out hb9
  have HLQ := Lib.hid hlq
  have HQ9 := Lib.hid (HQ.out.later hb39)
  have HK9 := Lib.hid (HK.out.later hb39)
  have HKL := Lib.hid hK10
  have HB9 := Lib.hid (bstep HB.out hb39)
  have HNN : Hid ((⟨.mk k mn mx ⟨⟨kd, bd, bn, cs, nm⟩, .slice A1 n1 c1⟩ (.slice A n c) ks, wi7, .slice H1 h1 ch1, hvs, .slice E1 e1 ce1, ems⟩ : GQ).t.nd = (kitQ ns).p) := Lib.hid (congrArg Qu.p HG0.out)
  have HNL : Hid ((⟨.mk k7 mn7 mx7 ⟨⟨kd7, bd7, bn7, cs7, nm7⟩, .slice B7 p7 q7⟩ (.slice A7 n7 c7) ks7, x, .slice none 0 0, [], .slice D7 jn cm7, em7.take jn⟩ : GQ).t.nd = (kitQ ns).p) := Lib.hid (congrArg Qu.p HN7.out)
  clear hlq hb39 hK10 hb9 HQ HK HB HB5 HQ7
  have hk := HK9.out
  have x0 := hk.cell 0 _ rfl
  have x1 := hk.cell 1 _ rfl
  have x2 := hk.cell 2 _ rfl
  have x3 := hk.cell 3 _ rfl
  have x4 := hk.cell 4 _ rfl
  have x5 := hk.cell 5 _ rfl
  have x6 := hk.cell 6 _ rfl
  have x7 := hk.cell 7 _ rfl
  have x8 := hk.cell 8 _ rfl
  have x9 := hk.cell 9 _ rfl
  have x10 := hk.cell 10 _ rfl
  have x11 := hk.cell 11 _ rfl
  have xlt := hk.lt
  clear hk
  go_wp2_with fail
  have F3 := names_any (⟨.mk k mn mx ⟨⟨kd, bd, bn, cs, nm⟩, .slice A1 n1 c1⟩ (.slice A n c) ks, wi7, .slice H1 h1 ch1, hvs, .slice E1 e1 ce1, ems⟩ : GQ) W9 HQ9.out (HL0.out.later HB9.out).sg
  rw [HNN.out] at F3
  simp only [GQ.row, Tr.row, List.cons_append, List.nil_append] at F3
  refine F3.mono ?_
  rintro r w10 ⟨vA, rfl, hoA, hb10⟩
  obtain ⟨AA, cA, rfl⟩ := own_form hoA
  clear x0 x1 x2 x3 x4 x5 x6 x7 x8 x9 x10 x11 xlt F3
  have hk := HKL.out.later hb10
  have x0 := hk.cell 0 _ rfl
  have x1 := hk.cell 1 _ rfl
  have x2 := hk.cell 2 _ rfl
  have x3 := hk.cell 3 _ rfl
  have x4 := hk.cell 4 _ rfl
  have x5 := hk.cell 5 _ rfl
  have x6 := hk.cell 6 _ rfl
  have x7 := hk.cell 7 _ rfl
  have x8 := hk.cell 8 _ rfl
  have x9 := hk.cell 9 _ rfl
  have x10 := hk.cell 10 _ rfl
  have x11 := hk.cell 11 _ rfl
  have xlt := hk.lt
  clear hk
  go_wp2_with fail
  have F4 := names_any (⟨.mk k7 mn7 mx7 ⟨⟨kd7, bd7, bn7, cs7, nm7⟩, .slice B7 p7 q7⟩ (.slice A7 n7 c7) ks7, x, .slice none 0 0, [], .slice D7 jn cm7, em7.take jn⟩ : GQ) w10 (HLQ.out.later hb10) (HL0.out.later (bstep HB9.out hb10)).sg
  rw [HNL.out] at F4
  simp only [GQ.row, Tr.row, List.cons_append, List.nil_append] at F4
  refine F4.mono ?_
  rintro r w11 ⟨vB, rfl, hoB, hb11⟩
  obtain ⟨AB, cB, rfl⟩ := own_form hoB
  clear x0 x1 x2 x3 x4 x5 x6 x7 x8 x9 x10 x11 xlt F4
  have hb911 := bstep hb10 hb11
  have hk := HK9.out.later hb911
  have x0 := hk.cell 0 _ rfl
  have x1 := hk.cell 1 _ rfl
  have x2 := hk.cell 2 _ rfl
  have x3 := hk.cell 3 _ rfl
  have x4 := hk.cell 4 _ rfl
  have x5 := hk.cell 5 _ rfl
  have x6 := hk.cell 6 _ rfl
  have x7 := hk.cell 7 _ rfl
  have x8 := hk.cell 8 _ rfl
  have x9 := hk.cell 9 _ rfl
  have x10 := hk.cell 10 _ rfl
  have x11 := hk.cell 11 _ rfl
  have xlt := hk.lt
  clear hk
  go_wp2_with fail
  have F5 := uses_any (⟨.mk k mn mx ⟨⟨kd, bd, bn, cs, nm⟩, .slice A1 n1 c1⟩ (.slice A n c) ks, wi7, .slice H1 h1 ch1, hvs, .slice E1 e1 ce1, ems⟩ : GQ) w11 (HQ9.out.later hb911) (HL0.out.later (bstep HB9.out hb911)).sg
  rw [HG0.out] at F5
  simp only [GQ.row, Tr.row, List.cons_append, List.nil_append] at F5
  refine F5.mono ?_
  rintro r w12 ⟨vU, rfl, hoU, hb12⟩
  obtain ⟨AU, cU, rfl⟩ := own_form hoU
  clear x0 x1 x2 x3 x4 x5 x6 x7 x8 x9 x10 x11 xlt F5
  obtain ⟨L, hLL⟩ : ∃ L, L = firsts [] (useL (kitQ ns)) := ⟨_, rfl⟩
  rw [← hLL] at hoU ⊢
  have hsu := strs_of hoU
  have hsA := (strs_of hoA).below (bstep hb11 hb12)
  have hsB := (strs_of hoB).below hb12
  have HU := Lib.hid hsu
  have HSA := Lib.hid hsA
  have HSB := Lib.hid hsB
  have HLL := Lib.hid hLL
  have hb912 := bstep hb911 hb12
  have HB12 := Lib.hid hb912
  clear hsu hsA hsB hoA hoB hoU hb10 hb11 hb12 hb911 hb912 hLL
  go_wp2_with fail
  refine (sameTexts_same _ _ _ _ HSA.out HSB.out).mono ?_
  rintro r _ ⟨rfl, md, rfl⟩
  clear HSA HSB
  have hlen : L.length ≤ 6 := by rw [HLL.out]; exact Nat.le_trans (W10.firsts_len _ _) (use_few ns)
  have HLE := Lib.hid hlen
  clear hlen
  go_wp2
  go_loopg [14, 15, 16, 17, 18] L.length (fun g iv _v15 _v16 _v17 _v18 wr => ∃ (j : Nat), j ≤ L.length ∧ g = L.length - j ∧ iv = .int .i64 (j : Int) ∧ Hid (Below w12.heap.size w12 wr))
  case atStart => exact ⟨0, by omega, rfl, rfl, Lib.hid (below_drewN (Below.refl _ _) _)⟩
  case round =>
    obtain ⟨j, hj, hg, rfl, HBr⟩ := hrel
    rename World => wr
    have hj0 : (0 : Int) ≤ (j : Int) := by omega
    have hb9r := bstep HB12.out HBr.out
    by_cases hlt : j < L.length
    · have hjlt : (j : Int) < (L.length : Int) := by omega
      have hwj : IntKind.i64.wrap ((j : Int) + 1) = (j : Int) + 1 := IntWalk.i64_in _ ⟨by omega, by have := HLE.out; omega⟩
      obtain ⟨a2, rfl, hs0⟩ := str_at HU.out hlt
      obtain ⟨s, hs⟩ : ∃ s, s = L[j] := ⟨_, rfl⟩
      rw [← hs] at hs0
      have hsu : s ∈ useL (kitQ ns) := by have h1 := List.getElem_mem hlt; rw [← hs, HLL.out] at h1; exact firsts_in _ _ s h1
      have hs1 := kit_use ns s hsu
      have hsl := use_short ns s hsu
      obtain ⟨I, hI⟩ : ∃ I, I = findN s (leafNames (kitQ ns).p) 0 := ⟨_, rfl⟩
      have F6 := fun (w1 : World) (hb : Below W9.heap.size W9 w1) => named_is_any (⟨.mk k7 mn7 mx7 ⟨⟨kd7, bd7, bn7, cs7, nm7⟩, .slice B7 p7 q7⟩ (.slice A7 n7 c7) ks7, x, .slice none 0 0, [], .slice D7 jn cm7, em7.take jn⟩ : GQ) s w1 (HLQ.out.later hb) (HL0.out.later (bstep HB9.out hb)).sg (by rw [HNL.out]; exact hs1) hsl
      have F7 := fun (w1 : World) (hb : Below W9.heap.size W9 w1) => named_is_any (⟨.mk k mn mx ⟨⟨kd, bd, bn, cs, nm⟩, .slice A1 n1 c1⟩ (.slice A n c) ks, wi7, .slice H1 h1 ch1, hvs, .slice E1 e1 ce1, ems⟩ : GQ) s w1 (HQ9.out.later hb) (HL0.out.later (bstep HB9.out hb)).sg (by rw [HNN.out]; exact hs1) hsl
      rw [HNL.out, ← hI] at F6
      rw [HNN.out, ← hI] at F7
      simp only [GQ.row, Tr.row, List.cons_append, List.nil_append] at F6 F7
      have HS0 := Lib.hid hs0
      clear hs hsu hs1 hsl hI hs0
      have HB9r := Lib.hid hb9r
      have HJ2 := Lib.hid hj
      clear hb9r hj
      go_upto_region 17 with fail
      have hk := HKL.out.later HB9r.out
      have x0 := hk.cell 0 _ rfl
      have x1 := hk.cell 1 _ rfl
      have x2 := hk.cell 2 _ rfl
      have x3 := hk.cell 3 _ rfl
      have x4 := hk.cell 4 _ rfl
      have x5 := hk.cell 5 _ rfl
      have x6 := hk.cell 6 _ rfl
      have x7 := hk.cell 7 _ rfl
      have x8 := hk.cell 8 _ rfl
      have x9 := hk.cell 9 _ rfl
      have x10 := hk.cell 10 _ rfl
      have x11 := hk.cell 11 _ rfl
      have xlt := hk.lt
      clear hk
      have hs0 := HS0.out wr HBr.out
      go_cut [15, 16] (fun v15 v16 wx => v15 = .int .i64 I ∧ v16 = .int .i64 0 ∧ Hid (Below wr.heap.size wr wx))
      case first =>
        go_region_with (go_at_call 12; refine (F6 _ (by first | exact bstep HB9r.out (Below.refl _ _) | exact bstep HB9r.out (Below.refl _ _).drew)).mono ?_; rintro r w14 ⟨rfl, hb14⟩; have hb14d : Below wr.heap.size wr w14 := (by first | exact hb14 | exact bstep (Below.refl _ _).drew hb14))
        all_goals (go_wp2_with fail; go_meet; (case rel => exact ⟨rfl, rfl, Lib.hid (by first | exact hb14d | exact hb14d.drew)⟩))
      case rest =>
      obtain ⟨rfl, rfl, HC1⟩ := hcut
      rename World => w14
      clear x0 x1 x2 x3 x4 x5 x6 x7 x8 x9 x10 x11 xlt hs0 F6
      have hb914 := bstep HB9r.out HC1.out
      have hk := HK9.out.later hb914
      have x0 := hk.cell 0 _ rfl
      have x1 := hk.cell 1 _ rfl
      have x2 := hk.cell 2 _ rfl
      have x3 := hk.cell 3 _ rfl
      have x4 := hk.cell 4 _ rfl
      have x5 := hk.cell 5 _ rfl
      have x6 := hk.cell 6 _ rfl
      have x7 := hk.cell 7 _ rfl
      have x8 := hk.cell 8 _ rfl
      have x9 := hk.cell 9 _ rfl
      have x10 := hk.cell 10 _ rfl
      have x11 := hk.cell 11 _ rfl
      have xlt := hk.lt
      clear hk
      have hs0 := HS0.out w14 (bstep HBr.out HC1.out)
      have HB914 := Lib.hid hb914
      clear hb914
      go_upto_region 18 with fail
      go_cut [17, 18] (fun v17 v18 wx => v17 = .int .i64 I ∧ v18 = .int .i64 0 ∧ Hid (Below w14.heap.size w14 wx))
      case first =>
        go_region_with (go_at_call 12; refine (F7 _ (by first | exact bstep HB914.out (Below.refl _ _) | exact bstep HB914.out (Below.refl _ _).drew)).mono ?_; rintro r w15 ⟨rfl, hb15⟩; have hb15d : Below w14.heap.size w14 w15 := (by first | exact hb15 | exact bstep (Below.refl _ _).drew hb15))
        all_goals (go_wp2_with fail; go_meet; (case rel => exact ⟨rfl, rfl, Lib.hid (by first | exact hb15d | exact hb15d.drew)⟩))
      case rest =>
      obtain ⟨rfl, rfl, HC2⟩ := hcut
      rename World => w15
      clear x0 x1 x2 x3 x4 x5 x6 x7 x8 x9 x10 x11 xlt hs0 F7
      have HBn := Lib.hid (bstep (bstep HBr.out HC1.out) HC2.out)
      clear HC1 HC2 HB914
      go_wp2
      go_roundg (L.length - (j + 1))
      case rel => exact ⟨j + 1, by omega, rfl, by go_num, HBn⟩
      case measure => omega
    · have hjlt : ¬ (j : Int) < (L.length : Int) := by omega
      clear hj hg hj0 HU
      have hk := HK9.out.later hb9r
      have x0 := hk.cell 0 _ rfl
      have x1 := hk.cell 1 _ rfl
      have x2 := hk.cell 2 _ rfl
      have x3 := hk.cell 3 _ rfl
      have x4 := hk.cell 4 _ rfl
      have x5 := hk.cell 5 _ rfl
      have x6 := hk.cell 6 _ rfl
      have x7 := hk.cell 7 _ rfl
      have x8 := hk.cell 8 _ rfl
      have x9 := hk.cell 9 _ rfl
      have x10 := hk.cell 10 _ rfl
      have x11 := hk.cell 11 _ rfl
      have xlt := hk.lt
      clear hk
      have HB9r := Lib.hid hb9r
      clear hb9r
      have hpk := print_kit ns
      have F8 := print_any (⟨.mk k mn mx ⟨⟨kd, bd, bn, cs, nm⟩, .slice A1 n1 c1⟩ (.slice A n c) ks, wi7, .slice H1 h1 ch1, hvs, .slice E1 e1 ce1, ems⟩ : GQ) wr (HL0.out.later (bstep HB9.out HB9r.out)) (HQ9.out.later HB9r.out).qw HQ9.out.slen (by rw [HG0.out]; exact (kq_len (kitQ_ok ns)).1)
      rw [HG0.out] at F8
      simp only [GQ.row, Tr.row, List.cons_append, List.nil_append] at F8
      obtain ⟨S, hS⟩ : ∃ S, S = printS (kitQ ns) := ⟨_, rfl⟩
      rw [← hS] at F8 hpk
      clear hS
      obtain ⟨Z, hZ⟩ : ∃ Z, Z = strOf S := ⟨_, rfl⟩
      rw [← hZ] at F8
      have hzs : Z.size = S.length := by rw [hZ, size_strOf]
      have HZS := Lib.hid hzs
      clear hZ hzs
      rcases hpk with h4 | ⟨h4, hsz⟩
      · rw [h4] at F8
        clear h4
        go_wp2_with fail
        refine F8.mono ?_
        rintro r w16 ⟨rfl, hb16⟩
        clear x0 x1 x2 x3 x4 x5 x6 x7 x8 x9 x10 x11 xlt F8
        go_wp2
        go_ret
        exact ⟨rfl, bstep (bstep HB9.out HB9r.out) hb16⟩
      · rw [h4] at F8
        have hsz2 : (Z.size : Int) ≤ 400 := by have := HZS.out; omega
        clear hsz
        clear h4
        go_wp2_with fail
        refine F8.mono ?_
        rintro r w16 ⟨rfl, hb16⟩
        clear x0 x1 x2 x3 x4 x5 x6 x7 x8 x9 x10 x11 xlt F8
        go_wp2
        go_ret
        exact ⟨by first | (show Ending.returned (.bool (decide ((Z.size : Int) ≤ 400))) = _; rw [decide_eq_true hsz2]) | rfl, bstep (bstep HB9.out HB9r.out) hb16⟩
end Go.Proofs.YtmfcjaoajanlfaaGreatDoor
