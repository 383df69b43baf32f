/- Walk: the program's closure of a family, given that rows of up to K are sorted. -/
import Derived.Test.YtlembnpplnbagaaLatR
namespace Go.Proofs.Ytlembnpplnbagaa.Lt
open Go.RowKit Go.Maps

theorem Out2.of {w : World} {us : List Value} {c : Int} {e : Ending} {w' : World} (v : Value) (h1 : e = .returned (.tuple #[v, .int .i64 c])) (h2 : Slc w' v us) (h3 : Below w.heap.size w w') : Out2 w us c e w' := ⟨v, h1, h2, h3⟩
theorem fold_u64 {x : Nat} (hx : x < 18446744073709551616) : ∀ (s o : List Nat), U64 s → U64 o → U64 (s.foldl (fun o b => ins o (x ||| b)) o) := by
  intro s
  induction s with
  | nil => intro o _ ho; exact ho
  | cons y s ih => intro o hs ho; exact ih _ (fun z hz => hs z (by simp [hz])) (ins_u64 ho (or_lt hx (hs y (by simp))))
set_option maxRecDepth 100000 in
set_option maxHeartbeats 2000000 in
theorem closure_any {K : Nat} (hS : Sorts K) {w : World} {v : Value} {l : List Nat} (h : Slc w v (lv l)) (hu : U64 l) (hK : ∀ k r, k ≤ l.length → clGo [] (l.take k) = some r → r.length ≤ K) :
    Calls Try.prog 15 #[v] w fun e w' => Out2 w (lv (closureR l).1) (closureR l).2 e w' := by
  obtain ⟨us, hus⟩ : ∃ us, us = lv (closureR l).1 := ⟨_, rfl⟩
  obtain ⟨c, hc⟩ : ∃ c, c = (closureR l).2 := ⟨_, rfl⟩
  rw [← hus, ← hc]
  by_cases hl : 64 < l.length
  · have hF := isFamily_is h (c := false) (decide_eq_false (by omega))
    have h0 : us = [] := by rw [hus]; unfold closureR; rw [if_pos hl]; rfl
    have h1 : c = 6 := by rw [hc]; unfold closureR; rw [if_pos hl]
    subst h0 h1
    obtain ⟨A, cap, rfl, hm, hcell⟩ := nats h
    clear h hcell hl hus hc
    go_enter Try.func15, Try.ntmps15
    go_wp2_with fail
    refine hF.mono ?_
    rintro e w' ⟨rfl, rfl⟩
    go_wp2
    go_returns
    exact Out2.of _ rfl (Slc.nil _) (Below.refl _ _)
  · have hF := isFamily_is h (c := true) (decide_eq_true (by omega))
    have hUS := Lib.hid (show ∀ r, clGo [] l = some r → us = lv r ∧ c = 0 from fun r hr => by rw [hus, hc]; unfold closureR; rw [if_neg hl, hr]; exact ⟨rfl, rfl⟩)
    have hUN := Lib.hid (show clGo [] l = none → us = [] ∧ c = 6 from fun hr => by rw [hus, hc]; unfold closureR; rw [if_neg hl, hr]; exact ⟨rfl, rfl⟩)
    have hl64 : l.length ≤ 64 := by omega
    have HK := Lib.hid hK
    have HU := Lib.hid hu
    obtain ⟨A, cap, rfl, hm, hcell⟩ := nats h
    have HC := Lib.hid hcell
    clear h hcell hl hus hc hK hu
    have hmm := @run_makeMap Try.prog
    go_enter Try.func15, Try.ntmps15
    go_wp2_with fail
    refine hF.mono ?_
    rintro e w' ⟨rfl, rfl⟩
    go_wp2
    go_loopw [15] (fun i wr => ∃ (k : Nat) (s : List Nat), i = .int .i64 (k : Int) ∧ k ≤ l.length ∧ Hid (clGo [] (l.take k) = some s) ∧ Hid (Asc s) ∧ Hid (U64 s) ∧ s.length ≤ 256 ∧ Hid (SetAt wr w.heap.size s) ∧ Below w.heap.size w wr) (fun i _ => l.length - (intOf i).toNat)
    case atStart => exact ⟨0, [], rfl, Nat.zero_le _, rfl, List.Pairwise.nil, fun z hz => (by cases hz), by simp, set_made w, (Below.refl _ w).alloc (Nat.le_refl _) _⟩
    case round =>
      obtain ⟨k, s, rfl, hk, hG, hA, hUs, hs256, hSet, hB⟩ := hrel
      by_cases hlt : k < l.length
      · obtain ⟨a, rfl, hab, hcell⟩ := HC.out k hlt
        have hx := HU.out _ (List.getElem_mem hlt)
        obtain ⟨x, hxe⟩ : ∃ x, x = l[k] := ⟨_, rfl⟩
        rw [← hxe] at hcell hx
        have HX := Lib.hid hxe
        clear hxe
        have hcell' := (hB.cell (p := a.add k) (by rw [add_block]; exact hab)).trans hcell
        clear hcell
        have hAs := ascending_any hS w.heap.size s wr hSet.out hA.out (HK.out k s hk hG.out) (by omega)
        go_wp2_with (go_at_call 27; refine hAs.mono ?_; rintro e w1 ⟨v1, rfl, hv1, hb1⟩; obtain ⟨A1, cap1, rfl, hm1, _⟩ := nats hv1)
        have hB1 := bstep hB hb1
        have hS1 : SetAt w1 w.heap.size s := hSet.out.later hb1 hSet.out.lt
        have HB := Lib.hid hB1
        have HS := Lib.hid hS1
        have HV := Lib.hid hv1
        clear hAs hcell' hB hB1 hS1 hb1 hv1
        go_loopw [22] (fun i wr => ∃ (m : Nat) (t : List Nat), i = .int .i64 (m : Int) ∧ m ≤ s.length ∧ Hid (t = (s.take m).foldl (fun o b => ins o (x ||| b)) s) ∧ Hid (Asc t) ∧ t.length ≤ s.length + m ∧ Hid (SetAt wr w.heap.size t) ∧ Hid (Slc wr (.slice A1 s.length cap1) (lv s)) ∧ Hid (Below w.heap.size w wr)) (fun i _ => s.length - (intOf i).toNat)
        case atStart => exact ⟨0, s, rfl, Nat.zero_le _, rfl, hA, Nat.le_refl _, HS, HV, HB⟩
        case round =>
          clear HB HS HV
          obtain ⟨m, t, rfl, hms, hT, hAt, htl, hSt, hV, hBt⟩ := hrel
          by_cases hlm : m < s.length
          · obtain ⟨a1, rfl, hab1, hcell1⟩ := nats_at hV.out m hlm
            have hy := hUs.out _ (List.getElem_mem hlm)
            obtain ⟨y, hye⟩ : ∃ y, y = s[m] := ⟨_, rfl⟩
            rw [← hye] at hcell1 hy
            have HY := Lib.hid hye
            clear hye
            have hJ := fun w => join_two x y hx hy w
            have hxy := or_lt hx hy
            obtain ⟨z, hz⟩ : ∃ z, z = x ||| y := ⟨_, rfl⟩
            rw [← hz] at hJ hxy
            have HZ := Lib.hid hz
            have hkey := key_u64 (x := (z : Int)) (by omega) (by omega)
            have hval : plainElem (H := Unit) Try.prog 4 (.bool true) = some (.lit (.bool true), []) := plainElem_bool Try.underlying4 true
            have hroom : t.length < maxLen := by unfold maxLen; omega
            have HKEY := Lib.hid hkey
            have HVAL := Lib.hid hval
            have HROOM := Lib.hid hroom
            clear hz hkey hval hroom
            go_wp2_with (first
              | (go_at_call 22; refine (hJ _).mono ?_; rintro e w' ⟨rfl, rfl⟩)
              | (at_mapUpdate; refine wpList_mapUpdate_own _ rfl _ _ _ 44 rfl 23 4 ukeyed Try.underlying44 _ w.heap.size t.length (setD t) rfl (World.ownsMap.alloc hSt.out _) HROOM.out _ _ (.int .u64 (z : Int)) rfl rfl HKEY.out (.lit (.bool true)) [] HVAL.out ?_; intro w2 hown2 hg2))
            have hS2 := set_put hAt.out hown2
            have hb2 : Below wr.heap.size wr (wr.alloc (.cells #[.int .u64 (x : Int), .int .u64 (y : Int)] 23)) := (Below.refl _ wr).alloc (Nat.le_refl _) _
            have hV2 : Slc w2 (.slice (some a1) s.length cap1) (lv s) := slc_put (hV.out.alloc _) (hSt.out.later hb2 hSt.out.lt) hS2 hg2
            have hB2 : Below w.heap.size w w2 := (bstep hBt.out hb2).grown hg2 (bstep hBt.out hb2).size (fun k e => by cases e; exact Nat.le_refl _)
            go_roundw
            case rel => exact ⟨m + 1, ins t z, by go_num, by omega, (show _ = _ by rw [fold_snoc hlm, ← hT.out, ← HY.out, ← HZ.out]), ins_asc hAt.out, by have := ins_len t z; omega, hS2, hV2, hB2⟩
            case measure => simp [intOf]; omega
          · have hem : s.take m = s := List.take_of_length_le (by omega)
            have hT' := hT.out
            rw [hem] at hT'
            have HT := Lib.hid hT'
            clear hem hT'
            have hkey := key_u64 (x := (x : Int)) (by omega) (by omega)
            have hval : plainElem (H := Unit) Try.prog 4 (.bool true) = some (.lit (.bool true), []) := plainElem_bool Try.underlying4 true
            have hroom : t.length < maxLen := by unfold maxLen; omega
            have HKEY := Lib.hid hkey
            have HVAL := Lib.hid hval
            have HROOM := Lib.hid hroom
            clear hkey hval hroom
            have hstep : clStep s x = ins t x := by rw [← prStep_eq hA.out, HT.out]; rfl
            have HSTEP := Lib.hid hstep
            have hsz : size (setD (ins t x)) = (clStep s x).length := by rw [hstep]; simp [setD, size_eq]
            have hsn := clGo_snoc hlt hG.out
            rw [← HX.out] at hsn
            have HSN := Lib.hid hsn
            have hul : U64 (ins t x) := ins_u64 (by rw [HT.out]; exact fold_u64 hx s s hUs.out hUs.out) hx
            have HUL := Lib.hid hul
            obtain ⟨q, hq⟩ : ∃ q, q = (clStep s x).length := ⟨_, rfl⟩
            rw [← hq] at hsz
            have HQ := Lib.hid hq
            have HSZ := Lib.hid hsz
            clear hstep hsn hul hq hsz
            by_cases hbig : 256 < q
            · have hbz : (256 : Int) < (q : Int) := by omega
              have hnone := hUN.out (clGo_ends (k := k + 1) (by rw [HSN.out, if_pos (by rw [← HQ.out]; exact hbig)]))
              have HN := Lib.hid hnone
              clear hnone
              go_wp2_with (first
                | (at_mapUpdate; refine wpList_mapUpdate_own _ rfl _ _ _ 44 rfl 23 4 ukeyed Try.underlying44 _ w.heap.size t.length (setD t) rfl hSt.out HROOM.out _ _ (.int .u64 (x : Int)) rfl rfl HKEY.out (.lit (.bool true)) [] HVAL.out ?_; intro w2 hown2 hg2)
                | (at_len; refine wpList_len_own _ rfl _ 44 rfl 23 4 Try.underlying44 _ w.heap.size _ (setD (ins t x)) rfl (set_put hAt.out hown2) ?_; rw [HSZ.out]))
              go_returns
              obtain ⟨rfl, rfl⟩ := HN.out
              exact Out2.of _ rfl (Slc.nil _) (hBt.out.grown hg2 hBt.out.size (fun k e => by cases e; exact Nat.le_refl _))
            · have hbz : ¬ (256 : Int) < (q : Int) := by omega
              go_wp2_with (first
                | (at_mapUpdate; refine wpList_mapUpdate_own _ rfl _ _ _ 44 rfl 23 4 ukeyed Try.underlying44 _ w.heap.size t.length (setD t) rfl hSt.out HROOM.out _ _ (.int .u64 (x : Int)) rfl rfl HKEY.out (.lit (.bool true)) [] HVAL.out ?_; intro w2 hown2 hg2)
                | (at_len; refine wpList_len_own _ rfl _ 44 rfl 23 4 Try.underlying44 _ w.heap.size _ (setD (ins t x)) rfl (set_put hAt.out hown2) ?_; rw [HSZ.out]))
              go_roundw
              case rel => exact ⟨k + 1, ins t x, by go_num, by omega, (show _ = _ by rw [HSN.out, if_neg (by rw [← HQ.out]; exact hbig), HSTEP.out]), ins_asc hAt.out, HUL.out, by rw [← HSTEP.out, ← HQ.out]; omega, set_put hAt.out hown2, hBt.out.grown hg2 hBt.out.size (fun k e => by cases e; exact Nat.le_refl _)⟩
              case measure => simp [intOf]; omega
      · have hend : l.take k = l := List.take_of_length_le (by omega)
        have hG' := hG.out
        rw [hend] at hG'
        have HE := Lib.hid (hUS.out s hG')
        have hAs := ascending_any hS w.heap.size s wr hSet.out hA.out (HK.out k s hk hG.out) (by omega)
        clear hG' hend
        go_wp2_with (go_at_call 27; refine hAs.mono ?_; rintro e w1 ⟨v1, rfl, hv1, hb1⟩)
        go_returns
        obtain ⟨rfl, rfl⟩ := HE.out
        exact Out2.of _ rfl hv1 (bstep hB hb1)
end Go.Proofs.Ytlembnpplnbagaa.Lt
