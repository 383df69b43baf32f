/- The law RowAgain. -/
import Derived.Test.YtkmkhegekonbmaaDoorRowTT
import Derived.Deep.DeepCutAuto
namespace Go.Proofs.YtkmkhegekonbmaaDoor
open Go.RowKit
open Rw6

abbrev faultO : Obj := .cells #[.int .i64 0, .int .i64 0] 47
abbrev emptyO : Obj := .cells #[] 43
set_option maxRecDepth 100000 in
set_option maxHeartbeats 8000000 in
theorem again_any (s t : List UInt8) (w : World) :
    Calls Tryd.prog 7 #[.string (strOf s), .string (strOf t)] w fun e w' => e = .returned (.bool true) ∧ Below w.heap.size w w' := by
  have HB := Lib.hid (Below.refl w.heap.size w)
  have hss := strOf_size s
  have hts := strOf_size t
  by_cases hs : 300 < s.length
  · have hs' : (300 : Int) < (s.length : Int) := by omega
    go_enter Tryd.func7, Tryd.ntmps7
    go_wp2_with (go_at_call 5; with_reducible refine (known_any _).mono ?_; rintro e wx ⟨rfl, hb⟩)
    go_ret
    exact ⟨rfl, hb⟩
  by_cases ht : 300 < t.length
  · have hs' : ¬ (300 : Int) < (s.length : Int) := by omega
    have ht' : (300 : Int) < (t.length : Int) := by omega
    go_enter Tryd.func7, Tryd.ntmps7
    go_wp2_with (go_at_call 5; with_reducible refine (known_any _).mono ?_; rintro e wx ⟨rfl, hb⟩)
    go_ret
    exact ⟨rfl, hb⟩
  have hs' : ¬ (300 : Int) < (s.length : Int) := by omega
  have ht' : ¬ (300 : Int) < (t.length : Int) := by omega
  cases h1 : readG s with
  | error p =>
    obtain ⟨er, a⟩ := p
    have her := readG_err h1
    have hne : (er != 0) = true := by rcases her with rfl | rfl <;> decide
    have hR1 := fun w => rows_err (by omega) h1 w
    have hR2 := fun w => rows_some (t := t) (by omega) w
    clear her h1 hs ht
    go_enter Tryd.func7, Tryd.ntmps7
    go_wp2_with (first
      | (go_at_call 5; with_reducible refine (known_any _).mono ?_; rintro e wx ⟨rfl, hb⟩; replace HB := Lib.hid (bstep HB.out hb); clear hb)
      | (go_at_call 25; with_reducible refine (hR1 _).mono ?_; rintro e w1 ⟨rfl, hb⟩; replace HB := Lib.hid ((bstep HB.out hb).alloc (bstep HB.out hb).size (.cells #[.int .i64 er, .int .i64 (a : Int)] 47)); clear hb)
      | (go_at_call 25; with_reducible refine (hR2 _).mono ?_; rintro e w2 ⟨hb, A2, n2, c2, er2, a2, rfl⟩; have K1 := (Blk.is (w := w1) (us := [.int .i64 er, .int .i64 (a : Int)]) 47 rfl).later hb; have k0 := K1.cell 0 _ rfl; have l0 := K1.lt; clear K1; replace HB := Lib.hid ((bstep HB.out hb).alloc (bstep HB.out hb).size (.cells #[.int .i64 er2, .int .i64 a2] 47)); clear hb))
    go_ret
    exact ⟨rfl, HB.out⟩
  | ok rs =>
    cases h2 : readG t with
    | error p =>
      obtain ⟨er, a⟩ := p
      have her := readG_err h2
      have hne : (er != 0) = true := by rcases her with rfl | rfl <;> decide
      have hR1 := fun w => rows_ok h1 w
      have hR2 := fun w => rows_err (t := t) (by omega) h2 w
      clear her h1 h2 hs ht
      go_enter Tryd.func7, Tryd.ntmps7
      go_wp2_with (first
        | (go_at_call 5; with_reducible refine (known_any _).mono ?_; rintro e wx ⟨rfl, hb⟩; replace HB := Lib.hid (bstep HB.out hb); clear hb)
        | (go_at_call 25; with_reducible refine (hR2 _).mono ?_; rintro e w2 ⟨rfl, hb⟩; have K1 := (Blk.is (w := w1) (us := [.int .i64 0, .int .i64 0]) 47 rfl).later hb; have k0 := K1.cell 0 _ rfl; have l0 := K1.lt; clear K1; replace HB := Lib.hid ((bstep HB.out hb).alloc (bstep HB.out hb).size (.cells #[.int .i64 er, .int .i64 (a : Int)] 47)); clear hb)
        | (go_at_call 25; with_reducible refine (hR1 _).mono ?_; rintro e w1 ⟨hb, A1, c1, rfl, -⟩; replace HB := Lib.hid ((bstep HB.out hb).alloc (bstep HB.out hb).size faultO); clear hb))
      go_ret
      exact ⟨rfl, HB.out⟩
    | ok rt =>
      obtain ⟨⟨rb, hb1, hb2⟩, ⟨rw', hw1, hw2⟩⟩ := two_read (by omega) (by omega) h1 h2
      have hm1 := (readG_small h1).1
      have hm2 := (readG_small h2).1
      have hg1 := (readG_small h1).2
      have hok : ∀ r ∈ rsI rs, r.2 ≠ [] ∧ ∀ x ∈ r.2, okW x.1 x.2.1 = true := by
        intro r hr
        unfold rsI at hr
        obtain ⟨x, hx, rfl⟩ := List.mem_map.1 hr
        obtain ⟨h4, h5⟩ := readG_okW h1 x hx
        refine ⟨fun e => h4 (List.map_eq_nil_iff.1 e), fun y hy => ?_⟩
        obtain ⟨z, hz, rfl⟩ := List.mem_map.1 hy
        exact h5 z hz
      obtain ⟨T, E, rk, hT, hk, hE⟩ : ∃ T E rk, textI [] (rsI rs) = (T, E) ∧ readG T = .ok rk ∧ (E = 4 ∨ E = 0 ∧ ((rsI rk).map fun r => bareI r.2) = (rsI rs).map fun r => bareI r.2) := by
        rcases textI_read hok with h | ⟨T, rk, h3, h4, h5⟩
        · exact ⟨[], 4, [], h, rfl, .inl rfl⟩
        · exact ⟨T, 0, rk, h3, h4, .inr ⟨rfl, h5⟩⟩
      have hText : ∀ (v : Value) (w : World), RSl w v (rsI rs) → Calls Tryd.prog 12 #[v] w fun e w' => e = .returned (.tuple #[.string (strOf T), .int .i64 E]) ∧ Below w.heap.size w w' := by
        intro v w hv
        have h := text_any v (rsI rs) w hv (fun r hr => by
          unfold rsI at hr
          obtain ⟨x, hx, rfl⟩ := List.mem_map.1 hr
          simp only [List.length_map]
          exact (hg1 x hx).1) (fun r hr y hy => by
          unfold rsI at hr
          obtain ⟨x, hx, rfl⟩ := List.mem_map.1 hr
          obtain ⟨z, hz, rfl⟩ := List.mem_map.1 hy
          have := (hg1 x hx).2 z hz
          show z.2.1.length ≤ 20000
          omega)
        rw [hT] at h
        exact h
      have hR1 := fun w => rows_ok h1 w
      have hR2 := fun w => rows_ok h2 w
      have hR3 := fun w => rows_ok hk w
      have hR4 := fun w => rows_ok hb1 w
      have hR5 := fun w => rows_ok hw1 w
      have hs1 : (rsI rs).length = rs.length := by unfold rsI; rw [List.length_map]
      have hs2 : (rsI rt).length = rt.length := by unfold rsI; rw [List.length_map]
      have y2 := twoL_str s t
      have y5 := wideL_str s t
      rw [rsI_app] at hb2 hw2
      clear h1 h2 hg1 hok hT hk hb1 hw1
      obtain ⟨S, hS⟩ : ∃ S, S = strOf s := ⟨_, rfl⟩
      obtain ⟨Z, hZ⟩ : ∃ Z, Z = strOf t := ⟨_, rfl⟩
      obtain ⟨X, hX⟩ : ∃ X, X = strOf T := ⟨_, rfl⟩
      obtain ⟨B, hB'⟩ : ∃ B, B = strOf (s ++ 10 :: t) := ⟨_, rfl⟩
      obtain ⟨D, hD⟩ : ∃ D, D = strOf (wideL s t) := ⟨_, rfl⟩
      rw [← hS, ← hZ] at y2 y5
      rw [← hB'] at y2
      rw [← hD] at y5
      rw [← hS] at hR1 hss ⊢
      rw [← hZ] at hR2 hts ⊢
      rw [← hX] at hR3 hText
      rw [← hB'] at hR4
      rw [← hD] at hR5
      obtain ⟨Y1, y1⟩ : ∃ Y, S ++ (⟨#[10]⟩ : ByteArray) = Y := ⟨_, rfl⟩
      obtain ⟨Y2, y3⟩ : ∃ Y, (⟨#[35, 32, 111, 110, 101, 10, 10, 32, 9]⟩ : ByteArray) ++ S = Y := ⟨_, rfl⟩
      rw [y1] at y2
      rw [y3] at y5
      obtain ⟨Y3, y4⟩ : ∃ Y, Y2 ++ (⟨#[10, 32, 10, 35, 10]⟩ : ByteArray) = Y := ⟨_, rfl⟩
      rw [y4] at y5
      obtain ⟨Y4, y6⟩ : ∃ Y, Y3 ++ Z = Y := ⟨_, rfl⟩
      rw [y6] at y5
      have z1 : Y1.size = S.size + 1 := by rw [← y1, ByteArray.size_append]; rfl
      have z2 : Y2.size = 9 + S.size := by rw [← y3, ByteArray.size_append]; rfl
      have z3 : Y3.size = Y2.size + 5 := by rw [← y4, ByteArray.size_append]; rfl
      have z4 : Y4.size = Y3.size + Z.size := by rw [← y6, ByteArray.size_append]
      have q0 : ¬ (300 : Int) < (S.size : Int) := by omega
      have q1 : ¬ (300 : Int) < (Z.size : Int) := by omega
      have o1 : ¬ 9223372036854775807 < S.size + 1 := by omega
      have o2 : ¬ 9223372036854775807 < Y1.size + Z.size := by omega
      have o3 : ¬ 9223372036854775807 < 9 + S.size := by omega
      have o4 : ¬ 9223372036854775807 < Y2.size + 5 := by omega
      have o5 : ¬ 9223372036854775807 < Y3.size + Z.size := by omega
      have o6 : ¬ 9223372036854775807 < Y4.size + 6 := by omega
      clear z1 z2 z3 z4 hss hts hS hZ hX hB' hD hs' ht'
      obtain ⟨i0, hi, hz0, hz1, hz2⟩ := info_parts infoRow6
      have HM := Lib.hid (show rs.length ≤ 300 ∧ rt.length ≤ 300 by omega)
      have HS := Lib.hid (And.intro hs1 hs2)
      have HE := Lib.hid (And.intro hb2 hw2)
      clear hm1 hm2 hs1 hs2 hb2 hw2 hs ht
      have HEE := Lib.hid hE
      clear hE
      go_enter Tryd.func7, Tryd.ntmps7
      go_upto_region 13 with (first
        | (go_at_call 5; with_reducible refine (known_any _).mono ?_; rintro e wx ⟨rfl, hb⟩; replace HB := Lib.hid (bstep HB.out hb); clear hb)
        | (go_at_call 25; with_reducible refine (hR1 _).mono ?_; rintro e w1 ⟨hb, A1, c1, rfl, h⟩; have H1 := Lib.hid h; replace HB := Lib.hid ((bstep HB.out hb).alloc (bstep HB.out hb).size faultO); clear hb h)
        | (go_at_call 25; with_reducible refine (hR2 _).mono ?_; rintro e w2 ⟨hb, A2, c2, rfl, h⟩; have H2 := Lib.hid h; replace H1 := Lib.hid ((H1.out.later (below1 _ faultO)).later hb); have K1 := (Blk.is (w := w1) (us := [.int .i64 0, .int .i64 0]) 47 rfl).later hb; have k0 := K1.cell 0 _ rfl; have l0 := K1.lt; clear K1; replace HB := Lib.hid ((bstep HB.out hb).alloc (bstep HB.out hb).size faultO); clear hb h)
        | (go_at_call 12; with_reducible refine (hText _ _ (H1.out.later (below1 _ faultO))).mono ?_; rintro e w3 ⟨rfl, hb⟩; replace H1 := Lib.hid ((H1.out.later (below1 _ faultO)).later hb); replace H2 := Lib.hid ((H2.out.later (below1 _ faultO)).later hb); clear k0 l0; replace HB := Lib.hid (bstep HB.out hb); clear hb)
        | (go_at_call 25; with_reducible refine (hR3 _).mono ?_; rintro e w4 ⟨hb, A3, c3, rfl, h⟩; have H3 := Lib.hid h; replace H1 := Lib.hid (H1.out.later hb); replace H2 := Lib.hid (H2.out.later hb); replace HB := Lib.hid ((bstep HB.out hb).alloc (bstep HB.out hb).size faultO); clear hb h)
        | (go_at_call 25; with_reducible refine (hR4 _).mono ?_; rintro e w5 ⟨hb, A4, c4, rfl, h⟩; have H4 := Lib.hid h; replace H1 := Lib.hid ((H1.out.later (below1 _ faultO)).later hb); replace H2 := Lib.hid ((H2.out.later (below1 _ faultO)).later hb); replace H3 := Lib.hid ((H3.out.later (below1 _ faultO)).later hb); have K3 := Lib.hid ((Blk.is (w := w4) (us := [.int .i64 0, .int .i64 0]) 47 rfl).later hb); replace HB := Lib.hid ((bstep HB.out hb).alloc (bstep HB.out hb).size faultO); clear hb h)
        | (go_at_call 25; with_reducible refine (hR5 _).mono ?_; rintro e w6 ⟨hb, A5, c5, rfl, h⟩; have H5 := Lib.hid h; replace H1 := Lib.hid ((H1.out.later (below1 _ faultO)).later hb); replace H2 := Lib.hid ((H2.out.later (below1 _ faultO)).later hb); replace H3 := Lib.hid ((H3.out.later (below1 _ faultO)).later hb); replace H4 := Lib.hid ((H4.out.later (below1 _ faultO)).later hb); replace K3 := Lib.hid ((K3.out.alloc faultO).later hb); have K4 := Lib.hid ((Blk.is (w := w5) (us := [.int .i64 0, .int .i64 0]) 47 rfl).later hb); replace HB := Lib.hid ((bstep HB.out hb).alloc (bstep HB.out hb).size faultO); clear hb h)
        | (at_builtin; obtain ⟨v1, l1, s1, k1⟩ := H1.out.later (below1 w6 faultO); have L1 := Lib.hid l1; have KK1 := Lib.hid k1; refine wpList_append_any rfl _ _ 22 rfl (w6.heap.size + 1) 43 i0 (.agg #[.int .i64 0, .slice none 0 0]) 2 32 Tryd.underlying22 hi hz0 hz1 hz2 rfl (by decide) _ 0 [] rfl (own_empty (w6.alloc faultO) (w6.heap.size + 1) (by simp)) _ (rsI rs).length _ rfl (s1.later (below1 _ emptyO)) (RSl.one l1 k1) (by have := HM.out; have := HS.out; unfold maxLen; omega) (by have := HM.out; have := HS.out; omega) (by simp) rs.length (rcells (((rsI rs).map (·.1)).zip v1)) (by have := HS.out; omega) rfl ?_; intro A7 c7 w7 ho hg; have hv7 := (below1 (w6.alloc faultO) emptyO).grown hg (by simp) (fun j e => by cases e; simp); have HV7 := Lib.hid hv7; have HO := Lib.hid ho; clear ho hg l1 s1 k1 hv7)
        | (at_builtin; go_loud (obtain ⟨v2, l2, s2, k2⟩ := H2.out.later (below1 w6 faultO); refine wpList_append_any rfl _ _ 22 rfl (w6.heap.size + 1) 43 i0 (.agg #[.int .i64 0, .slice none 0 0]) 2 32 Tryd.underlying22 hi hz0 hz1 hz2 rfl (by decide) _ rs.length _ rfl HO.out _ (rsI rt).length _ rfl (s2.later HV7.out) (RSl.one l2 k2) (by have := HM.out; have := HS.out; unfold maxLen; omega) (by have := HM.out; have := HS.out; omega) (by have := HV7.out.size; simp at this; omega) (rs.length + rt.length) _ (by have := HS.out; omega) rfl ?_; intro A8 c8 w8 ho hg; have hv8 := HV7.out.grown hg HV7.out.size (fun j e => by have := (HO.out.lt j e).1; simp; omega); have HALL := Lib.hid (rsl_both L1.out l2 (fun i u r a b => (KK1.out i u r a b).later hv8) (fun i u r a b => (k2 i u r a b).later hv8) (by rw [HS.out.1, HS.out.2]; exact ho)); replace H1 := Lib.hid ((H1.out.later (below1 w6 faultO)).later hv8); replace H3 := Lib.hid ((H3.out.later (below1 w6 faultO)).later hv8); replace H4 := Lib.hid ((H4.out.later (below1 w6 faultO)).later hv8); replace H5 := Lib.hid ((H5.out.later (below1 w6 faultO)).later hv8); replace K3 := Lib.hid ((K3.out.alloc faultO).later hv8); replace K4 := Lib.hid ((K4.out.alloc faultO).later hv8); have K5 := Lib.hid ((Blk.is (w := w6) (us := [.int .i64 0, .int .i64 0]) 47 rfl).later hv8); replace HB := Lib.hid (HB.out.trans (hv8.mono HB.out.size)); clear ho hg l2 s2 k2 hv8 HO HV7)))
      have k30 := K3.out.cell 0 _ rfl
      have k31 := K3.out.cell 1 _ rfl
      have k40 := K4.out.cell 0 _ rfl
      have k41 := K4.out.cell 1 _ rfl
      have k50 := K5.out.cell 0 _ rfl
      have k51 := K5.out.cell 1 _ rfl
      rcases HEE.out with rfl | ⟨rfl, he⟩
      · go_wp2_with (first
          | (go_at_call 33; with_reducible refine (same_same _ _ _ _ HE.out.1 _ H4.out HALL.out).mono ?_; rintro e wa ⟨rfl, hb⟩; replace H5 := Lib.hid (H5.out.later hb); replace HALL := Lib.hid (HALL.out.later hb); replace K5 := Lib.hid (K5.out.later hb); clear k30 k31 k40 k41 k50 k51; have k50 := K5.out.cell 0 _ rfl; have k51 := K5.out.cell 1 _ rfl; replace HB := Lib.hid (bstep HB.out hb); clear hb)
          | (go_at_call 33; with_reducible refine (same_same _ _ _ _ HE.out.2 _ H5.out HALL.out).mono ?_; rintro e wb ⟨rfl, hb⟩; replace HB := Lib.hid (bstep HB.out hb); clear hb))
        go_ret
        exact ⟨rfl, HB.out⟩
      · go_wp2_with (first
          | (go_at_call 33; with_reducible refine (same_same _ _ _ _ he _ H3.out H1.out).mono ?_; rintro e wz ⟨rfl, hb⟩; replace H4 := Lib.hid (H4.out.later hb); replace H5 := Lib.hid (H5.out.later hb); replace HALL := Lib.hid (HALL.out.later hb); replace K4 := Lib.hid (K4.out.later hb); replace K5 := Lib.hid (K5.out.later hb); clear k30 k31 k40 k41 k50 k51; have k40 := K4.out.cell 0 _ rfl; have k41 := K4.out.cell 1 _ rfl; replace HB := Lib.hid (bstep HB.out hb); clear hb)
          | (go_at_call 33; with_reducible refine (same_same _ _ _ _ HE.out.1 _ H4.out HALL.out).mono ?_; rintro e wa ⟨rfl, hb⟩; replace H5 := Lib.hid (H5.out.later hb); replace HALL := Lib.hid (HALL.out.later hb); replace K5 := Lib.hid (K5.out.later hb); clear k40 k41; have k50 := K5.out.cell 0 _ rfl; have k51 := K5.out.cell 1 _ rfl; replace HB := Lib.hid (bstep HB.out hb); clear hb)
          | (go_at_call 33; with_reducible refine (same_same _ _ _ _ HE.out.2 _ H5.out HALL.out).mono ?_; rintro e wb ⟨rfl, hb⟩; replace HB := Lib.hid (bstep HB.out hb); clear hb))
        go_ret
        exact ⟨rfl, HB.out⟩
theorem again_str (s t : ByteArray) (w : World) :
    Calls Tryd.prog 7 #[.string s, .string t] w fun e w' => e = .returned (.bool true) ∧ Below w.heap.size w w' := by
  rw [str_is (s := s) rfl, str_is (s := t) rfl]
  exact again_any s.data.toList t.data.toList w
end Go.Proofs.YtkmkhegekonbmaaDoor
