/- Walk: a family's height, as the program finds it. -/
import Derived.Test.YtdhbadngbhdanaaDoorLatCm
import Derived.Test.YtdhbadngbhdanaaDoorLatBy
import Derived.Test.YtdhbadngbhdanaaDoorLatW
import Derived.Test.YtdhbadngbhdanaaDoorLatJ
namespace Go.Proofs.YtdhbadngbhdanaaDoor.Lt
open Go.RowKit
open Lb

set_option maxRecDepth 100000 in
set_option maxHeartbeats 8000000 in
theorem height_all {w : World} {v : Value} {l : List Nat} (h : Slc w v (lv l)) (hu : U64 l) (hg : 0 < w.heap.size) (hT : TabAt 0 Lib.deBruijn64tab w) :
    Calls Tryd.prog 17 #[v] w fun e w' => e = .returned (.tuple #[.int .i64 ((heightR l).1 : Int), .int .i64 (heightR l).2]) ∧ Below w.heap.size w w' := by
  unfold heightR
  by_cases hl : 64 < l.length
  · rw [if_pos hl]
    have hF := isFamily_is h (c := false) (decide_eq_false (by omega))
    obtain ⟨A, cap, rfl, hm, hc⟩ := nats h
    clear h hc hl hT
    go_enter Tryd.func17, Tryd.ntmps17
    go_wp2_with fail
    refine hF.mono ?_
    rintro e w' ⟨rfl, rfl⟩
    go_wp2
    go_returns
    exact ⟨rfl, Below.refl _ _⟩
  · rw [if_neg hl]
    have hF := isFamily_is h (c := true) (decide_eq_true (by omega))
    have hB := byCount_any v l w h hu (by omega) hg hT
    obtain ⟨C, hC⟩ : ∃ C, C = heightL l := ⟨_, rfl⟩
    rw [← hC]
    have HC := Lib.hid hC
    have hl64 : l.length ≤ 64 := by omega
    obtain ⟨A, cap, rfl, hm, hcc⟩ := nats h
    clear h hcc hl hT hC
    go_enter Tryd.func17, Tryd.ntmps17
    go_wp2_with fail
    refine hF.mono ?_
    rintro e w' ⟨rfl, rfl⟩
    go_wp2_with fail
    refine hB.mono ?_
    rintro e w1 ⟨v1, r, rfl, hv, hcp, hp, ho, hb⟩
    have hrl := hp.length_eq
    have HU := Lib.hid (show U64 r from fun z hz => hu z (hp.mem_iff.1 hz))
    obtain ⟨A1, cap1, rfl, hm1, hc1⟩ := nats hv
    have hcp1 : r.length ≤ cap1 := by
      obtain ⟨A', n', c', e, h'⟩ := hcp
      cases e
      exact h'
    have HV := Lib.hid hc1
    have HP := Lib.hid hp
    have HO := Lib.hid ho
    have HB := Lib.hid hb
    have hr64 : r.length ≤ 64 := by omega
    have hmk : ∀ w, (Instr.makeSlice 26 (.int .i64 (r.length : Int)) (.int .i64 (r.length : Int))).run Tryd.prog w = .ok (.slice (some ⟨w.heap.size, 0, none⟩) r.length r.length) (w.alloc (.cells (nv (List.replicate r.length 0)).toArray 3)) := fun w => by
      rw [← zero_cells]
      exact run_make_row' 26 3 (.int .i64 0) 8 Tryd.underlying26 infoInt4 rfl .i64 .i64 r.length (by omega) (by omega) w
    clear hB hv hc1 hp ho hb hu hrl hcp
    go_wp2
    obtain ⟨B, hBe⟩ : ∃ B, B = w1.heap.size := ⟨_, rfl⟩
    rw [← hBe]
    have HBE := Lib.hid hBe
    clear hBe
    go_loopw [5, 21] (fun o i wr => ∃ (k q : Nat) (H : List Nat), k ≤ r.length ∧ i = .int .i64 (k : Int) ∧ o = .int .i64 (q : Int) ∧ Hid (q = sup ((r.take k).map (hgt r))) ∧ Hid (H.length = r.length) ∧ Hid (∀ j, j < k → H.getD j 0 = hgt r (r.getD j 0)) ∧ Hid (Blk wr B (nv H)) ∧ Hid (Below B w1 wr)) (fun _ i _ => r.length - (intOf i).toNat)
    case atStart => exact ⟨0, 0, List.replicate r.length 0, Nat.zero_le _, rfl, rfl, rfl, (show _ = _ by simp), (fun j h => by omega), (show Blk _ _ _ by rw [HBE.out]; exact Blk.is _ rfl), (show Below _ _ _ by rw [HBE.out]; exact (Below.refl _ _).alloc (Nat.le_refl _) _)⟩
    case round =>
      obtain ⟨k, q, H, hk, rfl, rfl, hq, hHl, hHd, hHb, hHw⟩ := hrel
      by_cases hlt : k < r.length
      · obtain ⟨a, rfl, hab, hcell0⟩ := HV.out k hlt
        have hx := HU.out _ (List.getElem_mem hlt)
        have hgx : r.getD k 0 = r[k] := getD_at hlt
        obtain ⟨x, hxe⟩ : ∃ x, x = r[k] := ⟨_, rfl⟩
        have hcell := (hHw.out.cell (p := a.add k) (by rw [add_block, HBE.out]; exact hab)).trans hcell0
        rw [← hxe] at hcell hx hgx
        have HGX := Lib.hid hgx
        have hxm := Lib.hid (show x ∈ r by rw [hxe]; exact List.getElem_mem hlt)
        have hkH : k < H.length := by rw [hHl.out]; exact hlt
        have hcc := hHb.out.cell k _ (nv_get hkH)
        have hcf := hHb.out.fr k _ (nv_get hkH)
        have HK1 := Lib.hid (show Blk (wr.setCell ⟨B, k, none⟩ (.int .i64 1)) B (nv (H.set k 1)) by rw [← nv_set]; exact hHb.out.set k _)
        have HB1 := Lib.hid (hHw.out.setCell (p := ⟨B, k, none⟩) (Nat.le_refl _) (.int .i64 1))
        have HST := Lib.hid (sup_take (r := r) hlt)
        have c1 : (k : Int) < (r.length : Int) := by omega
        have c2 : (k : Int) ≤ (cap1 : Int) := by omega
        have c5 : ¬ cap1 = 0 := by omega
        clear hcell0 hxe hgx
        go_wp2
        obtain ⟨W, hW⟩ : ∃ W, W = wr.setCell ⟨B, k, none⟩ (.int .i64 1) := ⟨_, rfl⟩
        rw [← hW] at HK1 HB1 ⊢
        have HL1 := Lib.hid (show (H.set k 1).length = r.length by rw [List.length_set]; exact hHl.out)
        have HD1 := Lib.hid (show ∀ j, j < k → (H.set k 1).getD j 0 = hgt r (r.getD j 0) from fun j hj => by rw [getD_set hkH, if_neg (by omega)]; exact hHd.out j hj)
        have HC1 := Lib.hid (show (H.set k 1).getD k 0 = 1 by rw [getD_set hkH, if_pos rfl])
        clear hW hcell hcc hcf hHl hHd hHb hHw hkH
        go_loopw [33] (fun i wr => ∃ (m c : Nat) (H2 : List Nat), m ≤ k ∧ i = .int .i64 (m : Int) ∧ Hid (H2.length = r.length) ∧ Hid (∀ j, j < k → H2.getD j 0 = hgt r (r.getD j 0)) ∧ Hid (H2.getD k 0 = c) ∧ Hid (1 ≤ c ∧ c ≤ hgt r x) ∧ Hid (∀ j, j < m → ltB (r.getD j 0) x = true → hgt r (r.getD j 0) + 1 ≤ c) ∧ Hid (Blk wr B (nv H2)) ∧ Hid (Below B w1 wr)) (fun i _ => k - (intOf i).toNat)
        case atStart => exact ⟨0, 1, H.set k 1, Nat.zero_le _, rfl, HL1, HD1, HC1, (show _ ∧ _ from ⟨Nat.le_refl _, hgt_pos r x⟩), (fun j h => by omega), HK1, HB1⟩
        case round =>
          clear HK1 HB1 HL1 HD1 HC1
          obtain ⟨m, c, H2, hmk2, rfl, h2l, h2d, h2c, h2b, h2m, h2k, h2w⟩ := hrel
          have hgle := Lib.hid (show hgt r x ≤ r.length from hgt_len hxm.out)
          by_cases hlm : m < k
          · obtain ⟨a', e', hab', hcell1⟩ := HV.out m (by omega)
            obtain rfl := Option.some.inj e'
            have hy := HU.out _ (List.getElem_mem (l := r) (n := m) (by omega))
            have hgy : r.getD m 0 = r[m] := getD_at (by omega)
            have hym : r[m] ∈ r := List.getElem_mem (by omega)
            obtain ⟨y, hye⟩ : ∃ y, y = r[m] := ⟨_, rfl⟩
            have hcell := (h2w.out.cell (p := a.add m) (by rw [add_block, HBE.out]; exact hab')).trans hcell1
            rw [← hye] at hcell hy hgy hym
            have HGY := Lib.hid hgy
            have HYM := Lib.hid hym
            have hmz : (m : Int) < (k : Int) := by omega
            clear hcell1 hye hgy hym
            cases hb : ltB y x
            · have hA := fun w => less_is y x hy hx hb w
              have HN := Lib.hid (show ∀ j, j < m + 1 → ltB (r.getD j 0) x = true → hgt r (r.getD j 0) + 1 ≤ c from fun j hj hjx => by
                by_cases e : j < m
                · exact h2m.out j e hjx
                · obtain rfl : j = m := by omega
                  rw [HGY.out, hb] at hjx; cases hjx)
              clear hb
              go_wp2_with (go_at_call 31; with_reducible refine (hA _).mono ?_; rintro e w' ⟨rfl, rfl⟩)
              go_roundw
              case rel => exact ⟨m + 1, c, H2, by omega, by go_num, h2l, h2d, h2c, h2b, HN, h2k, h2w⟩
              case measure => simp [intOf]; omega
            · have hA := fun w => less_is y x hy hx hb w
              have hkH2 : k < H2.length := by rw [h2l.out]; exact hlt
              have hmH2 : m < H2.length := by rw [h2l.out]; omega
              have hck := h2k.out.cell k _ (nv_get hkH2)
              have hcf := h2k.out.fr k _ (nv_get hkH2)
              have hcm := h2k.out.cell m _ (nv_get hmH2)
              rw [h2c.out] at hck
              obtain ⟨g, hge⟩ : ∃ g, g = H2.getD m 0 := ⟨_, rfl⟩
              rw [← hge] at hcm
              have hgy2 : g = hgt r y := by rw [hge, h2d.out m hlm, HGY.out]
              have hraise : g + 1 ≤ hgt r x := by rw [hgy2]; exact hgt_lt HYM.out hb
              have hg64 : g + 1 ≤ 64 := by have := hgle.out; omega
              have hw1 : IntKind.i64.wrap ((g : Int) + 1) = (g : Int) + 1 := IntWalk.i64_in _ ⟨by omega, by omega⟩
              have HN := Lib.hid (show ∀ d, c ≤ d → g + 1 ≤ d → ∀ j, j < m + 1 → ltB (r.getD j 0) x = true → hgt r (r.getD j 0) + 1 ≤ d from fun d h1 h2 j hj hjx => by
                by_cases e : j < m
                · have := h2m.out j e hjx; omega
                · obtain rfl : j = m := by omega
                  rw [HGY.out, ← hgy2]; exact h2)
              have HS := Lib.hid (show ∀ d, (H2.set k d).length = r.length ∧ (∀ j, j < k → (H2.set k d).getD j 0 = hgt r (r.getD j 0)) ∧ (H2.set k d).getD k 0 = d from fun d => ⟨by rw [List.length_set]; exact h2l.out, fun j hj => by rw [getD_set hkH2, if_neg (by omega)]; exact h2d.out j hj, by rw [getD_set hkH2, if_pos rfl]⟩)
              have HKB := Lib.hid (show ∀ (W' : World) (d : Nat), Blk W' B (nv H2) → Blk (W'.setCell ⟨B, k, none⟩ (.int .i64 (d : Int))) B (nv (H2.set k d)) from fun W' d h => by rw [← nv_set]; exact h.set k _)
              have HR := Lib.hid hraise
              have c6 : (k : Int) < (r.length : Int) := c1
              have c7 : (m : Int) < (r.length : Int) := by omega
              clear hb hge hgy2 hraise hkH2 hmH2
              by_cases hcg : c < g + 1
              · have c8 : (c : Int) < (g : Int) + 1 := by omega
                go_wp2_with (go_at_call 31; with_reducible refine (hA _).mono ?_; rintro e w' ⟨rfl, rfl⟩)
                go_region
                all_goals go_wp2
                obtain ⟨hs1, hs2, hs3⟩ := HS.out (g + 1)
                go_roundw
                case rel => exact ⟨m + 1, g + 1, H2.set k (g + 1), by omega, by go_num, hs1, hs2, hs3, (show _ ∧ _ from ⟨by omega, HR.out⟩), HN.out (g + 1) (by omega) (Nat.le_refl _), (show Blk _ _ _ by rw [show max (c : Int) ((g : Int) + 1) = ((g + 1 : Nat) : Int) by omega]; exact (HKB.out wr (g + 1) h2k.out).drewN 1), (h2w.out.setCell (p := ⟨B, k, none⟩) (Nat.le_refl _) _).drew⟩
                case measure => simp [intOf]; omega
              · have c8 : ¬ (c : Int) < (g : Int) + 1 := by omega
                go_wp2_with (go_at_call 31; with_reducible refine (hA _).mono ?_; rintro e w' ⟨rfl, rfl⟩)
                go_region
                all_goals go_wp2
                obtain ⟨hs1, hs2, hs3⟩ := HS.out c
                go_roundw
                case rel => exact ⟨m + 1, c, H2.set k c, by omega, by go_num, hs1, hs2, hs3, h2b, HN.out c (Nat.le_refl _) (by omega), (show Blk _ _ _ by rw [show max (c : Int) ((g : Int) + 1) = (c : Int) by omega]; exact (HKB.out wr c h2k.out).drewN 1), (h2w.out.setCell (p := ⟨B, k, none⟩) (Nat.le_refl _) _).drew⟩
                case measure => simp [intOf]; omega
          · have hmk3 : m = k := by omega
            subst hmk3
            have hkH2 : m < H2.length := by rw [h2l.out]; exact hlt
            have hck := h2k.out.cell m _ (nv_get hkH2)
            rw [h2c.out] at hck
            have hcd : c = hgt r x := by
              have := hgt_done HO.out hlt (c := c) h2b.out.1 (by rw [HGX.out]; exact h2b.out.2) (by rw [HGX.out]; exact h2m.out)
              rwa [HGX.out] at this
            have HST2 := Lib.hid (show max q c = sup ((r.take (m + 1)).map (hgt r)) by rw [HST.out, ← hq.out, HGX.out, hcd])
            have HDD := Lib.hid (show ∀ j, j < m + 1 → H2.getD j 0 = hgt r (r.getD j 0) from fun j hj => by
              by_cases e : j < m
              · exact h2d.out j e
              · obtain rfl : j = m := by omega
                rw [h2c.out, HGX.out, hcd])
            clear hkH2 hcd
            by_cases hqc : q < c
            · have c8 : (q : Int) < (c : Int) := by omega
              go_wp2
              go_roundw
              case rel => exact ⟨m + 1, c, H2, by omega, by go_num, by congr 1; omega, (show _ = _ by rw [← HST2.out]; omega), h2l, HDD, h2k, h2w⟩
              case measure => simp [intOf]; omega
            · have c8 : ¬ (q : Int) < (c : Int) := by omega
              go_wp2
              go_roundw
              case rel => exact ⟨m + 1, q, H2, by omega, by go_num, by congr 1; omega, (show _ = _ by rw [← HST2.out]; omega), h2l, HDD, h2k, h2w⟩
              case measure => simp [intOf]; omega
      · have hqe : q = C := by rw [hq.out, List.take_of_length_le (by omega), HC.out, ← height_perm HP.out]; rfl
        subst hqe
        go_wp2
        go_returns
        exact ⟨rfl, bstep HB.out (by rw [← HBE.out]; exact hHw.out)⟩
end Go.Proofs.YtdhbadngbhdanaaDoor.Lt
