/- Walk: whether each Not stands right. Made by program (wip/tools/gen_wfI.py). -/
import Derived.Test.YtdoioaeppepndaaGreatDoorWfH
import Derived.BigFrameIn
namespace Go.Proofs.YtdoioaeppepndaaGreatDoor
open Go.RowKit Go.Shelf
open A8 W10
attribute [local go_sem] Oper.semAt_some
theorem undef_not_bool (b : Bool) : (some undef = some (Value.bool b)) = False := by
  simp [undef]
attribute [local go_sem, local simp] undef_not_bool

def standK (k : Int) (ks : List Tr) (i : Nat) : Bool := match ks[i]? with
  | none => true
  | some t => !isNotB t.nd || (decide (k = 3) && othT (ks.take i) && othT (ks.drop (i + 1)))
def standT : Tr → Bool | .mk k _ _ _ _ ks => (List.range ks.length).all (standK k ks)
def standsT (l : List Tr) : Bool := l.all standT
theorem standsT_app (a b : List Tr) : standsT (a ++ b) = (standsT a && standsT b) := List.all_append
theorem standsT_one (t : Tr) : standsT [t] = standT t := by simp [standsT]
theorem othT_nd (l : List Tr) : othT l = otherB (l.map Tr.nd) := by
  unfold othT otherB
  rw [List.any_map]
  rfl
theorem standT_nd (t : Tr) : standT t = standsN t.nd := by
  cases t with
  | mk k mn mx g sk ks =>
    rw [nd_mk]
    show (List.range ks.length).all (standK k ks) = (List.range (ks.map Tr.nd).length).all (standL k (ks.map Tr.nd))
    rw [List.length_map]
    congr 1
    funext i
    unfold standK standL
    rw [List.getElem?_map]
    cases ks[i]? with
    | none => rfl
    | some t =>
      show (!isNotB t.nd || (decide (k = 3) && othT (ks.take i) && othT (ks.drop (i + 1)))) = (!isNotB t.nd || (decide (k = 3) && otherB ((ks.map Tr.nd).take i) && otherB ((ks.map Tr.nd).drop (i + 1))))
      rw [othT_nd, othT_nd, List.map_take, List.map_drop]
theorem standsT_nd (T : Tr) : standsT (subsT T) = (subsN T.nd).all standsN := by
  unfold standsT
  rw [← subs_nd10, List.all_map]
  congr 1
  exact funext standT_nd
theorem range_snoc_all (f : Nat → Bool) (i : Nat) : (List.range (i + 1)).all f = ((List.range i).all f && f i) := by
  rw [List.range_succ, List.all_append]
  simp
set_option maxRecDepth 100000 in
set_option maxHeartbeats 8000000 in
theorem checkNots_any (q : GQ) (w : World) (hq : QW w q) (hlen : (subsT q.t).length ≤ 999999) :
    Calls Tryz.prog 107 #[.agg q.row.toArray] w fun e w' => e = .returned (.int .i64 (if notsB q.qu.p = true then 0 else 9)) ∧ Below w.heap.size w w' := by
  obtain ⟨T, wi, sh, hv, se, em⟩ := q
  obtain ⟨hT, hwi, hh, he, -, -⟩ := hq
  simp only at hT hh he hlen hwi
  obtain ⟨Ah, ch, rfl, hlh, -⟩ := sl_get (by decide) hh
  obtain ⟨Ae, ce, rfl, hle, -⟩ := sl_get (by decide) he
  clear hh he
  have hfull : notsB (GQ.qu ⟨T, wi, .slice Ah hv.length ch, hv, .slice Ae em.length ce, em⟩).p = (!isNotB T.nd && standsT (subsT T)) := by rw [standsT_nd]; rfl
  rw [hfull]
  clear hfull
  obtain ⟨E, hE⟩ : ∃ E : Int, E = if (!isNotB T.nd && standsT (subsT T)) = true then 0 else 9 := ⟨_, rfl⟩
  rw [← hE]
  have hnd := fun w => wnodes_any T w
  have hin := fun w => isNot_any T w
  have hin2 := fun (t : Tr) w => isNot_any t w
  have hoth := fun (ts : List Tr) (v : Value) (w' : World) (hb : Below w.heap.size w w') (ho : ∀ t ∈ ts, OneT w t) (h : Sl w 9 ts.length v (ts.flatMap Tr.row)) => hasOther_any ts v w' (fun t ht => (ho t ht).later hb) (h.later hb)
  have hseq := fun (b' : Nat) (w' : World) => wnodes_seq w T hT b' w'
  have hmem : ∀ x ∈ subsT T, TrW w x := fun x hx u hu => hT u (subs_trans hx hu)
  obtain ⟨L, hL⟩ : ∃ L, L = subsT T := ⟨_, rfl⟩
  rw [← hL] at hmem hseq hE
  have HT := hT
  obtain ⟨q0, hq0⟩ : ∃ q0, q0 = isNotB T.nd := ⟨_, rfl⟩
  rw [← hq0] at hE hin
  have HE := Lib.hid hE
  clear hL hE hq0
  have hone := hT.one
  obtain ⟨k, mn, mx, ⟨⟨kd, bd, bn, cs, nm⟩, sc⟩, sk, ks⟩ := T
  obtain ⟨-, ⟨-, hsc⟩, hsl⟩ := hone
  simp only at hsc
  obtain ⟨A1, cap1, rfl, -, -⟩ := sl_get (by decide) hsc
  obtain ⟨A, cap, rfl, -, -⟩ := sl_get (by decide) hsl
  clear hsc hsl
  clear HT hT hlen
  simp only [GQ.row, Tr.row, List.cons_append, List.nil_append] at hnd hseq hin ⊢
  have HM := Lib.hid hmem
  have HQ := Lib.hid hseq
  have HOT := Lib.hid hoth
  clear hmem hseq hoth
  refine (callsIn_wide (n := 5)).1 ?_
  refine callsIn_of_wp_marks Tryz.func107 rfl trivial ?_ rfl
  simp only [Tryz.ntmps107, List.size_toArray, List.length_cons, List.length_nil, Nat.reduceAdd, Nat.reduceSub, Array.replicate_succ, Array.replicate_zero, List.push_toArray, List.append_toArray, List.nil_append, List.cons_append]
  have hbx : ∀ w1, Below ((w.alloc (.cells #[.int .i64 k, .int .i64 mn, .int .i64 mx, .int .i64 kd, .bool bd, .int .u64 bn, .slice A1 cs.length cap1, .string (strOf nm), .slice A ks.length cap, .int .u64 wi, .slice Ah hv.length ch, .slice Ae em.length ce] 35)).alloc (.cells #[.int .i64 0] 23)).heap.size ((w.alloc (.cells #[.int .i64 k, .int .i64 mn, .int .i64 mx, .int .i64 kd, .bool bd, .int .u64 bn, .slice A1 cs.length cap1, .string (strOf nm), .slice A ks.length cap, .int .u64 wi, .slice Ah hv.length ch, .slice Ae em.length ce] 35)).alloc (.cells #[.int .i64 0] 23)) w1 → Blk w1 w.heap.size [.int .i64 k, .int .i64 mn, .int .i64 mx, .int .i64 kd, .bool bd, .int .u64 bn, .slice A1 cs.length cap1, .string (strOf nm), .slice A ks.length cap, .int .u64 wi, .slice Ah hv.length ch, .slice Ae em.length ce] ∧ ResP w (w.heap.size + 1) 0 w1 := fun w1 hb => ⟨(((Bx.new w [.int .i64 k, .int .i64 mn, .int .i64 mx, .int .i64 kd, .bool bd, .int .u64 bn, .slice A1 cs.length cap1, .string (strOf nm), .slice A ks.length cap, .int .u64 wi, .slice Ah hv.length ch, .slice Ae em.length ce] 35).later (b1 _ _)).later hb).blk, by
    have := Bx.new (w.alloc (.cells #[.int .i64 k, .int .i64 mn, .int .i64 mx, .int .i64 kd, .bool bd, .int .u64 bn, .slice A1 cs.length cap1, .string (strOf nm), .slice A ks.length cap, .int .u64 wi, .slice Ah hv.length ch, .slice Ae em.length ce] 35)) [.int .i64 0] 23
    rw [World.size_alloc] at this
    exact ⟨this.later hb, bstep (b2 _ _ _) hb⟩⟩
  have HX := Lib.hid hbx
  clear hbx
  cases q0 with
  | true =>
    have HH : RowKit.Hid (E = 9) := Lib.hid (by rw [HE.out]; rfl)
    have hcl : ∀ w1, Below ((w.alloc (.cells #[.int .i64 k, .int .i64 mn, .int .i64 mx, .int .i64 kd, .bool bd, .int .u64 bn, .slice A1 cs.length cap1, .string (strOf nm), .slice A ks.length cap, .int .u64 wi, .slice Ah hv.length ch, .slice Ae em.length ce] 35)).alloc (.cells #[.int .i64 0] 23)).heap.size ((w.alloc (.cells #[.int .i64 k, .int .i64 mn, .int .i64 mx, .int .i64 kd, .bool bd, .int .u64 bn, .slice A1 cs.length cap1, .string (strOf nm), .slice A ks.length cap, .int .u64 wi, .slice Ah hv.length ch, .slice Ae em.length ce] 35)).alloc (.cells #[.int .i64 0] 23)) w1 → w1.cell? ⟨w.heap.size + 1, 0, none⟩ = some (.int .i64 0) ∧ w1.frozen? ⟨w.heap.size + 1, 0, none⟩ = false := fun w1 hb => ⟨(HX.out w1 hb).2.cell, (HX.out w1 hb).2.fr⟩
    clear hnd
    gi_wp2_with (refine ⟨trivial, ?_⟩; refine (callsIn_wide.2 (hin _)).mono ?_; rintro e w2 ⟨rfl, hb2⟩; obtain ⟨z1, z2⟩ := hcl w2 hb2; clear hcl)
    exact fin_none (fun W h => by simp [results, Tryz.f107, go_sem, h.cell]) (((HX.out w2 hb2).2.set (by omega) 9).eq HH.out)
  | false =>
    have HEE : RowKit.Hid (E = if standsT L = true then 0 else 9) := Lib.hid (by rw [HE.out]; rfl)
    clear HE
    have hcl : ∀ w1, Below ((w.alloc (.cells #[.int .i64 k, .int .i64 mn, .int .i64 mx, .int .i64 kd, .bool bd, .int .u64 bn, .slice A1 cs.length cap1, .string (strOf nm), .slice A ks.length cap, .int .u64 wi, .slice Ah hv.length ch, .slice Ae em.length ce] 35)).alloc (.cells #[.int .i64 0] 23)).heap.size ((w.alloc (.cells #[.int .i64 k, .int .i64 mn, .int .i64 mx, .int .i64 kd, .bool bd, .int .u64 bn, .slice A1 cs.length cap1, .string (strOf nm), .slice A ks.length cap, .int .u64 wi, .slice Ah hv.length ch, .slice Ae em.length ce] 35)).alloc (.cells #[.int .i64 0] 23)) w1 → ∀ i v, [.int .i64 k, .int .i64 mn, .int .i64 mx, .int .i64 kd, .bool bd, .int .u64 bn, .slice A1 cs.length cap1, .string (strOf nm), .slice A ks.length cap, .int .u64 wi, .slice Ah hv.length ch, .slice Ae em.length ce][i]? = some v → w1.cell? ⟨w.heap.size, i, none⟩ = some v := fun w1 hb => (HX.out w1 hb).1.cell
    have HCL := Lib.hid hcl
    clear hcl
    gi_wp2_with (first | (refine ⟨trivial, ?_⟩; with_reducible refine (callsIn_wide.2 (hin _)).mono ?_; rintro e w2 ⟨rfl, hb2⟩; have z0 := HCL.out w2 hb2 0 _ rfl; have z1 := HCL.out w2 hb2 1 _ rfl; have z2 := HCL.out w2 hb2 2 _ rfl; have z3 := HCL.out w2 hb2 3 _ rfl; have z4 := HCL.out w2 hb2 4 _ rfl; have z5 := HCL.out w2 hb2 5 _ rfl; have z6 := HCL.out w2 hb2 6 _ rfl; have z7 := HCL.out w2 hb2 7 _ rfl; have z8 := HCL.out w2 hb2 8 _ rfl) | (refine ⟨trivial, ?_⟩; refine (callsIn_wide.2 (hnd _)).mono ?_; rintro e w' ⟨rfl, rfl⟩))
    clear hnd z0 z1 z2 z3 z4 z5 z6 z7 z8 HCL hin
    have hR2 := (HX.out w2 hb2).2
    have hsz2 : w.heap.size + 2 ≤ w2.heap.size := by have := hb2.size; simp at this; omega
    obtain ⟨W3, hW3⟩ : ∃ W3, W3 = w2.alloc (.cells #[.int .i64 k, .int .i64 mn, .int .i64 mx, .int .i64 kd, .bool bd, .int .u64 bn, .slice A1 cs.length cap1, .string (strOf nm), .slice A ks.length cap] 31) := ⟨_, rfl⟩
    rw [← hW3]
    have hN3 : Bx W3 w2.heap.size 31 [.int .i64 k, .int .i64 mn, .int .i64 mx, .int .i64 kd, .bool bd, .int .u64 bn, .slice A1 cs.length cap1, .string (strOf nm), .slice A ks.length cap] := hW3 ▸ Bx.new w2 [.int .i64 k, .int .i64 mn, .int .i64 mx, .int .i64 kd, .bool bd, .int .u64 bn, .slice A1 cs.length cap1, .string (strOf nm), .slice A ks.length cap] 31
    have hR3 : ResP w (w.heap.size + 1) 0 W3 := hW3 ▸ hR2.later (b1 _ _)
    have hsz3 : W3.heap.size = w2.heap.size + 1 := by rw [hW3]; simp
    have hseq := HQ.out w2.heap.size W3 (SameB.of hR3.2) hN3
    clear hW3 hN3 HQ HX hR2 hb2
    refine wpIn_range_own (gf := 136) (lb := #[.pointer (some ⟨w2.heap.size, 0, none⟩)]) rfl (enters_of Tryz.func136 (by kernel_rfl) rfl)
      hseq (by omega) (Below.refl _ _) (fun _ => rfl)
      (fun pre Wx => standsT pre = true ∧ ResP w (w.heap.size + 1) 0 Wx)
      (fun pre Wx => standsT pre = false ∧ ResP w (w.heap.size + 1) 9 Wx)
      ?hI ?hIx ?h0 (fun x act Wx => ∃ b5, w.heap.size + 1 < b5 ∧ Bx Wx b5 31 x.row ∧ act = { tmps := #[.agg #[.int .i64 k, .int .i64 mn, .int .i64 mx, .int .i64 kd, .bool bd, .int .u64 bn, .slice A1 cs.length cap1, .string (strOf nm), .slice A ks.length cap, .int .u64 wi, .slice Ah hv.length ch, .slice Ae em.length ce], .pointer (some ⟨w.heap.size, 0, none⟩), .pointer (some ⟨w.heap.size + 1, 0, none⟩), .pointer (some ⟨b5, 0, none⟩), undef, undef, .pointer (some ⟨w.heap.size, 0, none⟩), .agg #[.int .i64 k, .int .i64 mn, .int .i64 mx, .int .i64 kd, .bool bd, .int .u64 bn, .slice A1 cs.length cap1, .string (strOf nm), .slice A ks.length cap], .bool false, .pointer (some ⟨w.heap.size, 0, none⟩), .agg #[.int .i64 k, .int .i64 mn, .int .i64 mx, .int .i64 kd, .bool bd, .int .u64 bn, .slice A1 cs.length cap1, .string (strOf nm), .slice A ks.length cap], .func (.func 136) #[] #[.pointer (some ⟨w2.heap.size, 0, none⟩)], .agg x.row.toArray, undef, undef, undef, undef, undef, undef, undef, undef, undef, undef, undef, undef, undef, undef, undef, undef, undef, undef, undef, undef, undef, undef, undef, undef, undef, undef, undef, undef, undef, undef, undef, undef], defers := [] }) ?hA ?assign ?body ?done ?stop
    case hI =>
      rintro s Wx Wy ⟨g0, g1⟩ ht
      exact ⟨g0, g1.turn ht (by omega)⟩
    case hIx =>
      rintro s Wx Wy ⟨g0, g1⟩ ht
      exact ⟨g0, g1.turn ht (by omega)⟩
    case h0 => exact ⟨rfl, hR3⟩
    case hA =>
      rintro x act s Wx Wy row ⟨b5, h1, h2, h3⟩ hg hr
      exact ⟨b5, h1, bx_noncells h2 hg (fun j e => (hr j e).2), h3⟩
    case assign =>
      intro l2 pre x Wx K hp hsz hi hK
      have ho := (HM.out x (hp.subset (by simp))).one
      obtain ⟨k2, mn2, mx2, ⟨⟨kd2, bd2, bn2, cs2, nm2⟩, sc2⟩, sk2, ks2⟩ := x
      obtain ⟨-, ⟨-, e1⟩, e2⟩ := ho
      simp only at e1
      obtain ⟨A5, c5, rfl, hcl, -⟩ := sl_get (by decide) e1
      obtain ⟨A6, c6, rfl, hkl, -⟩ := sl_get (by decide) e2
      simp only [Tr.row] at hK ⊢
      clear e1 e2 hi hseq
      gi_wp2
      exact hK _ _ ⟨Wx.heap.size, by omega, Bx.new _ _ _, rfl⟩ (b1 _ _)
    case body =>
      rintro l2 pre x act Wx hp hsz ⟨g0, g1⟩ ⟨b5, hb5l, hb5, rfl⟩
      have htx := HM.out x (hp.subset (by simp))
      have ho := htx.one
      have hrs : standsT (pre ++ [x]) = standT x := by rw [standsT_app, g0, standsT_one]; rfl
      obtain ⟨xs, hxs⟩ : ∃ xs, xs = pre ++ [x] := ⟨_, rfl⟩
      rw [← hxs] at hrs ⊢
      clear hxs hp g0
      obtain ⟨k2, mn2, mx2, ⟨⟨kd2, bd2, bn2, cs2, nm2⟩, sc2⟩, sk2, ks2⟩ := x
      have hkid : ∀ t ∈ ks2, OneT w t := fun t ht => (htx.kid ht).one
      obtain ⟨-, ⟨-, e1⟩, e2⟩ := ho
      simp only at e1
      obtain ⟨A5, c5, rfl, hcl, -⟩ := sl_get (by decide) e1
      obtain ⟨A6, c6, rfl, hkl, hels⟩ := sl_els (by decide) row_len e2
      have hsl6 := e2
      simp only [Tr.row, standT] at hb5 hrs ⊢
      clear e1 e2 hseq htx
      have d0 := hb5.blk.cell 0 _ rfl
      have d8 := hb5.blk.cell 8 _ rfl
      have r1 := g1.cell
      have HR := Lib.hid hrs
      have G1 := Lib.hid g1
      have HK := Lib.hid hkid
      have HS := Lib.hid hsl6
      have HEl := Lib.hid hels
      have HB5 := Lib.hid hb5
      clear hb5 hrs g1 hkid hsl6 hels r1 d0
      gi_wp2
      gi_loopw [16] (fun v wr => ∃ i : Nat, i ≤ ks2.length ∧ v = .int .i64 (i : Int) ∧ Below Wx.heap.size Wx wr ∧ (List.range i).all (standK k2 ks2) = true) (fun v _ => ks2.length - (intOf v).toNat)
      case atStart => exact ⟨0, Nat.zero_le _, rfl, Below.refl _ _, rfl⟩
      case round =>
        obtain ⟨i, hi, rfl, hbr, hall⟩ := hrel
        by_cases hlt : i < ks2.length
        · obtain ⟨a, rfl, ha, E1⟩ := HEl.out i hlt
          have hbw := bstep G1.out.2 hbr
          replace E1 := E1.later hbw
          have hone := HK.out ks2[i] (List.getElem_mem hlt)
          have h1 : (i : Int) < (ks2.length : Int) := by omega
          have hwk : IntKind.i64.wrap ((i : Int) + 1) = (i : Int) + 1 := IntWalk.i64_in _ ⟨by omega, by omega⟩
          have hst : (List.range (i + 1)).all (standK k2 ks2) = standK k2 ks2 i := by rw [range_snoc_all, hall]; rfl
          have hsk : standK k2 ks2 i = (!isNotB ks2[i].nd || (decide (k2 = 3) && othT (ks2.take i) && othT (ks2.drop (i + 1)))) := by
            unfold standK
            rw [List.getElem?_eq_getElem hlt]
          rw [hsk] at hst
          have hfin : (List.range (i + 1)).all (standK k2 ks2) = false → standsT xs = false := fun h => by
            rw [HR.out, Bool.eq_false_iff]
            intro hx
            rw [List.all_eq_true] at hx
            rw [List.all_eq_false] at h
            obtain ⟨j, hj, hj2⟩ := h
            rw [List.mem_range] at hj
            exact hj2 (hx j (List.mem_range.2 (by omega)))
          have hcap : ks2.length ≤ c6 := by
            obtain ⟨-, -, A', cap', h3, h4, -⟩ := HS.out
            cases h3
            exact h4
          have hc1 : (i : Int) ≤ (c6 : Int) := by omega
          have hc1' : i ≤ c6 := by omega
          have ho1 := fun w' hb => HOT.out (ks2.take i) (.slice (some a) i c6) w' hb (fun t ht => HK.out t (List.mem_of_mem_take ht)) (by
            have := sl_take HS.out (show i ≤ ks2.length by omega)
            rw [flat_take row_len, List.length_take, Nat.min_eq_left (by omega)]
            exact this)
          have ho2 := fun w' hb => HOT.out (ks2.drop (i + 1)) (.slice (some (a.add ((i + 1) * 9))) (ks2.length - (i + 1)) (c6 - (i + 1))) w' hb (fun t ht => HK.out t (List.mem_of_mem_drop ht)) (by
            have := sl_drop HS.out (show i + 1 ≤ ks2.length by omega)
            rw [flat_drop row_len, List.length_drop]
            exact this)
          have ho3 : c6 = i + 1 → ∀ w', Below w.heap.size w w' → Calls Tryz.prog 132 #[.slice (some a) (ks2.length - (i + 1)) 0] w' fun e w'' => e = .returned (.bool (othT (ks2.drop (i + 1)))) ∧ Below w'.heap.size w' w'' := fun hc w' hb => by
            have hd : ks2.drop (i + 1) = [] := List.drop_eq_nil_of_le (by omega)
            have hl : ks2.length - (i + 1) = 0 := by omega
            rw [hd, hl]
            exact HOT.out [] _ w' hb (fun t ht => by cases ht) (sl_none (fun h => by cases h))
          obtain ⟨p1, hp1⟩ : ∃ p1, p1 = othT (ks2.take i) := ⟨_, rfl⟩
          obtain ⟨p2, hp2⟩ : ∃ p2, p2 = othT (ks2.drop (i + 1)) := ⟨_, rfl⟩
          rw [← hp1] at ho1 hst
          rw [← hp2] at ho2 ho3 hst
          replace hin2 := hin2 ks2[i]
          obtain ⟨t, ht⟩ : ∃ t, t = ks2[i] := ⟨_, rfl⟩
          rw [← ht] at E1 hone hst hin2
          obtain ⟨qn, hqn⟩ : ∃ qn, qn = isNotB t.nd := ⟨_, rfl⟩
          rw [← hqn] at hst hin2
          clear ht hp1 hp2 hqn hsk hall
          obtain ⟨k4, mn4, mx4, ⟨⟨kd4, bd4, bn4, cs4, nm4⟩, sc4⟩, sk4, ks4⟩ := t
          obtain ⟨-, ⟨-, f1⟩, f2⟩ := hone
          simp only at f1
          obtain ⟨A7, c7, rfl, -, -⟩ := sl_get (by decide) f1
          obtain ⟨A8, c8, rfl, -, -⟩ := sl_get (by decide) f2
          simp only [Tr.row] at E1 hin2
          have e0 := E1.at0 _ rfl
          have e1 := E1.at1 1 _ (by decide) rfl
          have e2 := E1.at1 2 _ (by decide) rfl
          have e3 := E1.at1 3 _ (by decide) rfl
          have e4 := E1.at1 4 _ (by decide) rfl
          have e5 := E1.at1 5 _ (by decide) rfl
          have e6 := E1.at1 6 _ (by decide) rfl
          have e7 := E1.at1 7 _ (by decide) rfl
          have e8 := E1.at1 8 _ (by decide) rfl
          have HST := Lib.hid hst
          have HF := Lib.hid hfin
          have HBR := Lib.hid hbr
          have HBW := Lib.hid hbw
          have hwx : w.heap.size + 2 ≤ Wx.heap.size := by omega
          have hd := fun w5 (hb : Below wr.heap.size wr w5) => show w5.cell? ⟨b5, 0, none⟩ = some (.int .i64 k2) ∧ w5.cell? ⟨b5, 8, none⟩ = some (.slice (some a) ks2.length c6) ∧ w5.cell? ⟨w.heap.size + 1, 0, none⟩ = some (.int .i64 0) ∧ w5.frozen? ⟨w.heap.size + 1, 0, none⟩ = false from
            have h := bstep hbr hb
            ⟨(HB5.out.later h).blk.cell 0 _ rfl, (HB5.out.later h).blk.cell 8 _ rfl, (G1.out.later h).cell, (G1.out.later h).fr⟩
          have HD := Lib.hid hd
          clear f1 f2 E1 hst hfin hbr hbw d8 hd HOT
          cases qn with
          | false =>
            have HS2 : RowKit.Hid ((List.range (i + 1)).all (standK k2 ks2) = true) := Lib.hid (by rw [HST.out]; rfl)
            clear HST HF ho1 ho2 ho3
            gi_wp2_with (refine ⟨trivial, ?_⟩; refine (callsIn_wide.2 (hin2 _)).mono ?_; rintro e w5 ⟨rfl, hb5'⟩)
            all_goals (try (exfalso; rename_i hq _; cases hq; done))
            refine ⟨trivial, ?_⟩
            gi_wp2
            all_goals (try (exfalso; rename_i hq _; cases hq; done))
            refine ⟨trivial, ?_⟩
            gi_wp2
            go_roundw
            case rel => exact ⟨i + 1, by omega, by rfl, bstep HBR.out (bstep (b1 _ _) hb5'), HS2.out⟩
            case measure => simp [intOf]; omega
          | true =>
            by_cases h3 : k2 = 3
            · cases p1 with
              | false =>
                have HS2 : RowKit.Hid (standsT xs = false) := Lib.hid (HF.out (by rw [HST.out]; simp))
                subst h3
                clear HST HF ho2 ho3
                gi_wp2_with (first | (refine ⟨trivial, ?_⟩; gi_at_call 118; refine (callsIn_wide.2 (hin2 _)).mono ?_; rintro e w5 ⟨rfl, hb5'⟩; obtain ⟨z1, z2, z3, z4⟩ := HD.out _ (bstep (b1 _ _) hb5')) | (refine ⟨trivial, ?_⟩; gi_at_call 132; refine (callsIn_wide.2 (ho1 _ (bstep HBW.out (bstep (b1 _ _) hb5')))).mono ?_; rintro e w6 ⟨rfl, hb6⟩; clear z1 z2 z3 z4; obtain ⟨z1, z2, z3, z4⟩ := HD.out _ (bstep (bstep (b1 _ _) hb5') hb6)))
                refine ⟨trivial, ?_⟩
                gi_wp2
                have hB6 := bstep (bstep HBR.out (bstep (b1 _ _) hb5')) hb6
                exact ⟨(KeepsFrom.of_below hB6).trans (KeepsFrom.setCell _ _ _ _), HS2.out, (G1.out.later hB6).set (by omega) 9⟩
              | true =>
                subst h3
                have hc2 : ((i : Int) + 1) ≤ (ks2.length : Int) := by omega
                cases p2 with
                | true =>
                  have HS2 : RowKit.Hid ((List.range (i + 1)).all (standK 3 ks2) = true) := Lib.hid (by rw [HST.out]; rfl)
                  clear HST HF
                  gi_wp2_with (first | (refine ⟨trivial, ?_⟩; gi_at_call 118; refine (callsIn_wide.2 (hin2 _)).mono ?_; rintro e w5 ⟨rfl, hb5'⟩; obtain ⟨z1, z2, z3, z4⟩ := HD.out _ (bstep (b1 _ _) hb5')) | (refine ⟨trivial, ?_⟩; gi_at_call 132; refine (callsIn_wide.2 (ho1 _ (bstep HBW.out (bstep (b1 _ _) hb5')))).mono ?_; rintro e w6 ⟨rfl, hb6⟩; clear z1 z2 z3 z4 ho1; obtain ⟨z1, z2, z3, z4⟩ := HD.out _ (bstep (bstep (b1 _ _) hb5') hb6)))
                  · refine ⟨trivial, ?_⟩
                    gi_at_call 132
                    refine (callsIn_wide.2 (ho3 h _ (bstep (bstep HBW.out (bstep (b1 _ _) hb5')) hb6))).mono ?_
                    rintro e w7 ⟨rfl, hb7⟩
                    subst h
                    clear z1 z2 z3 z4 ho2 ho3 e0 e1 e2 e3 e4 e5 e6 e7 e8 hc2 hc1 hc1' hcap
                    obtain ⟨-, -, z3, z4⟩ := HD.out _ (bstep (bstep (bstep (b1 _ _) hb5') hb6) hb7)
                    have hB7 := bstep (bstep (bstep HBR.out (bstep (b1 _ _) hb5')) hb6) hb7
                    gi_wp2
                    go_roundw
                    case rel => exact ⟨i + 1, by omega, by rfl, hB7, HS2.out⟩
                    case measure => simp [intOf]; omega
                  · refine ⟨trivial, ?_⟩
                    gi_at_call 132
                    refine (callsIn_wide.2 (ho2 _ (bstep (bstep HBW.out (bstep (b1 _ _) hb5')) hb6))).mono ?_
                    rintro e w7 ⟨rfl, hb7⟩
                    clear z1 z2 z3 z4 ho2 ho3 h e0 e1 e2 e3 e4 e5 e6 e7 e8 hc2 hc1 hc1' hcap
                    obtain ⟨-, -, z3, z4⟩ := HD.out _ (bstep (bstep (bstep (b1 _ _) hb5') hb6) hb7)
                    have hB7 := bstep (bstep (bstep HBR.out (bstep (b1 _ _) hb5')) hb6) hb7
                    gi_wp2
                    go_roundw
                    case rel => exact ⟨i + 1, by omega, by rfl, hB7, HS2.out⟩
                    case measure => simp [intOf]; omega
                | false =>
                  have HS2 : RowKit.Hid (standsT xs = false) := Lib.hid (HF.out (by rw [HST.out]; rfl))
                  clear HST HF
                  gi_wp2_with (first | (refine ⟨trivial, ?_⟩; gi_at_call 118; refine (callsIn_wide.2 (hin2 _)).mono ?_; rintro e w5 ⟨rfl, hb5'⟩; obtain ⟨z1, z2, z3, z4⟩ := HD.out _ (bstep (b1 _ _) hb5')) | (refine ⟨trivial, ?_⟩; gi_at_call 132; refine (callsIn_wide.2 (ho1 _ (bstep HBW.out (bstep (b1 _ _) hb5')))).mono ?_; rintro e w6 ⟨rfl, hb6⟩; clear z1 z2 z3 z4 ho1; obtain ⟨z1, z2, z3, z4⟩ := HD.out _ (bstep (bstep (b1 _ _) hb5') hb6)))
                  · refine ⟨trivial, ?_⟩
                    gi_at_call 132
                    refine (callsIn_wide.2 (ho3 h _ (bstep (bstep HBW.out (bstep (b1 _ _) hb5')) hb6))).mono ?_
                    rintro e w7 ⟨rfl, hb7⟩
                    subst h
                    clear z1 z2 z3 z4 ho2 ho3 e0 e1 e2 e3 e4 e5 e6 e7 e8 hc2 hc1 hc1' hcap
                    obtain ⟨-, -, z3, z4⟩ := HD.out _ (bstep (bstep (bstep (b1 _ _) hb5') hb6) hb7)
                    have hB7 := bstep (bstep (bstep HBR.out (bstep (b1 _ _) hb5')) hb6) hb7
                    gi_wp2
                    exact ⟨(KeepsFrom.of_below hB7).trans (KeepsFrom.setCell _ _ _ _), HS2.out, (G1.out.later hB7).set (by omega) 9⟩
                  · refine ⟨trivial, ?_⟩
                    gi_at_call 132
                    refine (callsIn_wide.2 (ho2 _ (bstep (bstep HBW.out (bstep (b1 _ _) hb5')) hb6))).mono ?_
                    rintro e w7 ⟨rfl, hb7⟩
                    clear z1 z2 z3 z4 ho2 ho3 h e0 e1 e2 e3 e4 e5 e6 e7 e8 hc2 hc1 hc1' hcap
                    obtain ⟨-, -, z3, z4⟩ := HD.out _ (bstep (bstep (bstep (b1 _ _) hb5') hb6) hb7)
                    have hB7 := bstep (bstep (bstep HBR.out (bstep (b1 _ _) hb5')) hb6) hb7
                    gi_wp2
                    exact ⟨(KeepsFrom.of_below hB7).trans (KeepsFrom.setCell _ _ _ _), HS2.out, (G1.out.later hB7).set (by omega) 9⟩
            · have HS2 : RowKit.Hid (standsT xs = false) := Lib.hid (HF.out (by rw [HST.out]; simp [h3]))
              have h3b : (k2 == 3) = false := by simpa using h3
              clear HST HF ho1 ho2 ho3
              gi_wp2_with (refine ⟨trivial, ?_⟩; gi_at_call 118; refine (callsIn_wide.2 (hin2 _)).mono ?_; rintro e w5 ⟨rfl, hb5'⟩; obtain ⟨z1, z2, z3, z4⟩ := HD.out _ (bstep (b1 _ _) hb5'))
              refine ⟨trivial, ?_⟩
              gi_wp2
              refine ⟨trivial, ?_⟩
              gi_wp2
              have hB6 := bstep HBR.out (bstep (b1 _ _) hb5')
              exact ⟨(KeepsFrom.of_below hB6).trans (KeepsFrom.setCell _ _ _ _), HS2.out, (G1.out.later hB6).set (by omega) 9⟩
        · have h1 : ¬ (i : Int) < (ks2.length : Int) := by omega
          have hie : i = ks2.length := by omega
          rw [hie] at hall
          have HS2 : RowKit.Hid (standsT xs = true) := Lib.hid (by rw [HR.out]; exact hall)
          have hbw := bstep G1.out.2 hbr
          clear hall HEl
          gi_wp2
          exact ⟨KeepW.of hbr, HS2.out, G1.out.later hbr⟩
    case done =>
      rintro D Wx hD ⟨g0, g1⟩ hKd
      clear hseq
      have he : E = 0 := by rw [HEE.out, if_pos g0]
      have HH := Lib.hid he
      clear he
      have HG := Lib.hid g1
      have r1 := g1.cell
      have r2 := g1.fr
      have HD := Lib.hid hKd
      clear g1 hKd g0
      gi_wp2
      exact fin_one (fun W h => by simp [results, Tryz.f107, go_sem, h.cell]) (Nat.le_refl _) (show w.heap.size ≤ D by omega) (def_set HD.out) ((HG.out.set (by omega) 0).eq HH.out)
    case stop =>
      rintro D pre Wx hD hp ⟨g0, g1⟩ hKd
      clear hseq
      have he : E = 9 := by
        rw [HEE.out, if_neg]
        intro h
        obtain ⟨r, rfl⟩ := hp
        rw [standsT_app, g0] at h
        cases h
      have HH := Lib.hid he
      clear he g0 hp
      gi_wp2
      exact fin_one (fun W h => by simp [results, Tryz.f107, go_sem, h.cell]) (Nat.le_refl _) (show w.heap.size ≤ D by omega) hKd (g1.eq HH.out)
end Go.Proofs.YtdoioaeppepndaaGreatDoor
