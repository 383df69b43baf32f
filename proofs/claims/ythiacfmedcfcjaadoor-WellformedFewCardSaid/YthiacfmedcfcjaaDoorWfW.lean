/- Walk: WellformedFew, more than 8 atoms. Made by program (wip/tools/gen_wfV.py). -/
import Derived.Test.YthiacfmedcfcjaaDoorWfV
import Derived.Deep.CutBlock
import Derived.Deep.DeepCutAuto
namespace Go.Proofs.YthiacfmedcfcjaaDoor
open Go.RowKit Go.Shelf Go.Maps
open A8 W10
attribute [local go_sem] Oper.semAt_some

/-- Two choices, of the first seven letters and of the others. -/
def wide2T (N g c : Nat) : List Tr := [kidsX 4 (.slice (some ⟨g, 0, none⟩) 7 c) ((ltL N).take 7), kidsX 4 (.slice (some ((⟨g, 0, none⟩ : Addr).add (7 * 9))) (N - 7) (c - 7)) ((ltL N).drop 7)]
theorem wide2T_nd {N g c V : Nat} (h8 : 8 < N) : (kidsX 3 (.slice (some ⟨V, 0, none⟩) 2 2) (wide2T N g c)).nd = wideNd N := by
  rw [kidsX_nd, wide2T, List.map_cons, List.map_cons, List.map_nil, kidsX_nd, kidsX_nd, List.map_take, List.map_drop, ltL_nd, wideNd, if_neg (by omega), if_neg (by omega)]
structure WideOk (wk : World) (N g c V : Nat) (W : World) : Prop where
  blk : Blk W wk.heap.size [.int .i64 3, .int .i64 0, .int .i64 0, .int .i64 0, .bool false, .int .u64 0, .slice none 0 0, .string ⟨#[]⟩, .slice (some ⟨V, 0, none⟩) 2 2]
  bel : Below wk.heap.size wk W
  tr : TrW W (kidsX 3 (.slice (some ⟨V, 0, none⟩) 2 2) (wide2T N g c))
theorem wide_ok {wk ws wq : World} {N g c : Nat} (hS : Sl wk 9 N (.slice (some ⟨g, 0, none⟩) N c) ((ltL N).flatMap Tr.row)) (h8 : 8 < N) (h14 : N ≤ 14) (_hc : N ≤ c)
    (hA : Below (wk.alloc (.cells #[.int .i64 0, .int .i64 0, .int .i64 0, .int .i64 0, .bool false, .int .u64 0, .slice none 0 0, .string ⟨#[]⟩, .slice none 0 0] 30)).heap.size (wk.alloc (.cells #[.int .i64 0, .int .i64 0, .int .i64 0, .int .i64 0, .bool false, .int .u64 0, .slice none 0 0, .string ⟨#[]⟩, .slice none 0 0] 30)) ws) {us : List Value} (hus : us = (wide2T N g c).flatMap Tr.row)
    (hq : Below (ws.alloc (.cells us.toArray 30)).heap.size (ws.alloc (.cells us.toArray 30)) wq) :
    WideOk wk N g c ws.heap.size (put9 wq wk.heap.size (.int .i64 3) (.int .i64 0) (.int .i64 0) (.int .i64 0) (.bool false) (.int .u64 0) (.slice none 0 0) (.string ⟨#[]⟩) (.slice (some ⟨ws.heap.size, 0, none⟩) 2 2)) := by
  subst hus
  have hb : Blk wq wk.heap.size [.int .i64 0, .int .i64 0, .int .i64 0, .int .i64 0, .bool false, .int .u64 0, .slice none 0 0, .string ⟨#[]⟩, .slice none 0 0] := (((Blk.new wk [.int .i64 0, .int .i64 0, .int .i64 0, .int .i64 0, .bool false, .int .u64 0, .slice none 0 0, .string ⟨#[]⟩, .slice none 0 0] 30).later hA).alloc _).later hq
  have hr : Below wk.heap.size wk wq := bstep (bstep (bstep (b1 wk _) hA) (b1 ws _)) hq
  have hlt : wk.heap.size < ws.heap.size := by have := hA.size; simp at this; omega
  have hr9 := put9_below hr (Nat.le_refl _) (.int .i64 3) (.int .i64 0) (.int .i64 0) (.int .i64 0) (.bool false) (.int .u64 0) (.slice none 0 0) (.string ⟨#[]⟩) (.slice (some ⟨ws.heap.size, 0, none⟩) 2 2)
  have hS9 := hS.later hr9
  have ht : (ltL N).flatMap Tr.row = (ltL N).flatMap Tr.row := rfl
  have h1 := sl_take hS9 (show 7 ≤ N by omega)
  have h2 := sl_drop hS9 (show 7 ≤ N by omega)
  rw [← flat_take row_len] at h1
  rw [← flat_drop row_len] at h2
  refine ⟨put9_blk hb _ _ _ _ _ _ _ _ _, hr9, kidsX_tr (by unfold okV; omega) (sl_but ((sl_fresh ws 2 9 _ 30 (by simp [wide2T, List.flatMap, row_len]) (by decide)).later hq) (put9_grown _ _ _ _ _ _ _ _ _ _ _) (by omega)) (kids_of2 ?_ ?_)⟩
  · exact kidsX_tr (by unfold okV; omega) (by rw [List.length_take, ltL_len, Nat.min_eq_left (by omega)]; exact h1) fun t ht => ltL_tr t (List.mem_of_mem_take ht)
  · exact kidsX_tr (by unfold okV; omega) (by rw [List.length_drop, ltL_len]; exact h2) fun t ht => ltL_tr t (List.mem_of_mem_drop ht)
set_option maxRecDepth 100000 in
set_option maxHeartbeats 32000000 in
theorem fewly_wide (a d : Int) (n e : Nat) (w : World) (hG : SG w) (hn : a % 14 = (n : Int)) (he : d % 9 = (e : Int)) (hr : 8 ≤ n ∧ n ≤ 11) (_hn14 : n ≤ 13) (_he9 : e ≤ 8) : Calls Tryd.prog 5 #[.int .i64 a, .int .i64 d] w fun r w' => r = .returned (.bool true) ∧ Below w.heap.size w w' := by
  have letterL := letter_any
  have seqL := seq_any
  have altL := alt_any
  simp only [kidsX, leafX, Tr.row, strOf] at letterL seqL altL
  have hK := wknown_any w hG
  have hMa := fun w => mod_any a 14 w (by omega) (by omega)
  have hMd := fun w => mod_any d 9 w (by omega) (by omega)
  simp only [hn] at hMa
  simp only [he] at hMd
  obtain ⟨i0, hi0, hz0, hz1, hz2⟩ := info_parts infoNd10
  obtain ⟨N, hN⟩ : ∃ N, N = n + 1 := ⟨_, rfl⟩
  obtain ⟨D, hD⟩ : ∃ D, D = e + 1 := ⟨_, rfl⟩
  have hwn : IntKind.i64.wrap (1 + (n : Int)) = (N : Int) := (IntWalk.i64_in _ ⟨by omega, by omega⟩).trans (by omega)
  have hwe : IntKind.i64.wrap (1 + (e : Int)) = (D : Int) := (IntWalk.i64_in _ ⟨by omega, by omega⟩).trans (by omega)
  have hN14 : N ≤ 14 := by omega
  have hN1 : 1 ≤ N := by omega
  have hD9 : D ≤ 9 := by omega
  have hD1 : 1 ≤ D := by omega
  have HN := Lib.hid hN
  have HD := Lib.hid hD
  have HNr := Lib.hid hr
  clear hN hD hr hn he _hn14 _he9
  go_enter Tryd.func5, Tryd.ntmps5
  go_upto_region 2 with (go_at_call 3; refine hK.mono ?_; rintro r w1 ⟨rfl, hb1⟩)
  have hG1 := Lib.hid (hG.later hb1)
  have HB0 := Lib.hid hb1
  clear hK hG hb1
  go_wp2_with fail
  refine (hMa _).mono ?_
  rintro r w2 ⟨rfl, rfl⟩
  clear hMa
  go_wp2_with fail
  refine (hMd _).mono ?_
  rintro r w3 ⟨rfl, rfl⟩
  clear hMd
  go_wp2
  clear hwn hwe
  go_loopg [6, 7] N (fun g kv iv wr => ∃ (k : Nat) (A : Option Addr) (c : Nat), k ≤ N ∧ g = N - k ∧ kv = .slice A k c ∧ iv = .int .i64 (k : Int) ∧ Hid (wr.ownsRow w1.heap.size 30 9 (.slice A k c) k ((ltL k).flatMap Tr.row)) ∧ Hid (Below w1.heap.size w1 wr))
  case atStart => exact ⟨0, none, 0, by omega, rfl, rfl, rfl, Lib.hid (World.ownsRow_nil _ _ _ _), Lib.hid (Below.refl _ _)⟩
  case round =>
    obtain ⟨k, A, c, hk, hg, rfl, rfl, hO, hB⟩ := hrel
    have hk0 : (0 : Int) ≤ (k : Int) := by omega
    by_cases hlt : k < N
    · have g1 : (k : Int) < (N : Int) := by omega
      have hwk : IntKind.i64.wrap ((k : Int) + 1) = (k : Int) + 1 := IntWalk.i64_in _ ⟨by omega, by omega⟩
      have hl := fun w => letter_any ((k : Int) % 26) w
      simp only [leafX, Tr.row, strOf] at hl
      have hrow : (ltX k).row = [.int .i64 1, .int .i64 1, .int .i64 1, .int .i64 ((k : Int) % 26), .bool false, .int .u64 0, .slice none 0 0, .string ⟨#[]⟩, .slice none 0 0] := by unfold ltX leafX; simp only [Tr.row, strOf, Int.natCast_emod]; rfl
      have HR := Lib.hid hrow
      clear hrow letterL seqL altL
      go_wp2_with fail
      refine (hl _).mono ?_
      rintro r w2 ⟨rfl, hb2⟩
      have hO2 := own_later hO.out (bstep hb2 (b1 w2 (.cells #[.int .i64 1, .int .i64 1, .int .i64 1, .int .i64 ((k : Int) % 26), .bool false, .int .u64 0, .slice none 0 0, .string ⟨#[]⟩, .slice none 0 0] 30)))
      have hsl : Sl (w2.alloc (.cells #[.int .i64 1, .int .i64 1, .int .i64 1, .int .i64 ((k : Int) % 26), .bool false, .int .u64 0, .slice none 0 0, .string ⟨#[]⟩, .slice none 0 0] 30)) 9 1 (.slice (some ⟨w2.heap.size, 0, none⟩) 1 1) (ltX k).row := by rw [HR.out]; exact Sl.lit (Blk.is _ rfl) 9 1 rfl (by decide)
      have hon : ∀ u ∈ (ltX k).row, u.oneCell' = true := by rw [HR.out]; simp only [List.mem_cons, List.not_mem_nil, or_false]; rintro u (rfl | rfl | rfl | rfl | rfl | rfl | rfl | rfl | rfl) <;> rfl
      have hb3 := bstep (bstep hB.out hb2) (b1 w2 (.cells #[.int .i64 1, .int .i64 1, .int .i64 1, .int .i64 ((k : Int) % 26), .bool false, .int .u64 0, .slice none 0 0, .string ⟨#[]⟩, .slice none 0 0] 30))
      obtain ⟨A3, c3, w4, hrun, hown, hgrow⟩ := run_append_any (P := Tryd.prog) (w2.alloc (.cells #[.int .i64 1, .int .i64 1, .int .i64 1, .int .i64 ((k : Int) % 26), .bool false, .int .u64 0, .slice none 0 0, .string ⟨#[]⟩, .slice none 0 0] 30)) w1.heap.size 28 28 30 i0 (.agg #[.int .i64 0, .int .i64 0, .int .i64 0, .int .i64 0, .bool false, .int .u64 0, .slice none 0 0, .string ⟨#[]⟩, .slice none 0 0]) 9 112 Tryd.underlying28 hi0 hz0 hz1 hz2 rfl (by decide) _ k ((ltL k).flatMap Tr.row) hO2 _ 1 (ltX k).row hsl hon (by unfold maxLen; omega) (by omega) hb3.size (k + 1) ((ltL (k + 1)).flatMap Tr.row) rfl (by rw [ltL_succ, List.flatMap_append]; simp)
      have HOW := Lib.hid hown
      have HBW := Lib.hid (hb3.grown hgrow hb3.size (fun j e => (hO2.lt j e).1))
      clear hO2 hown hgrow hb2 hb3 hsl hon hl hO hB HR
      go_wp2_with (at_builtin; refine wpList_append_run rfl _ _ _ rfl rfl rfl hrun ?_)
      go_roundg (N - (k + 1))
      case rel => exact ⟨k + 1, A3, c3, by omega, rfl, rfl, by go_num, HOW, HBW⟩
      case measure => omega
    · have g1 : ¬ (k : Int) < (N : Int) := by omega
      obtain rfl : N = k := by omega
      clear hk hg hk0 hlt
      rename World => wk
      have hSl := Sl.of_own hO.out
      have hBr := hB.out
      have hGr := hG1.out.later hBr
      have hbx : Blk (wk.alloc (.cells #[.int .i64 0, .int .i64 0, .int .i64 0, .int .i64 0, .bool false, .int .u64 0, .slice none 0 0, .string ⟨#[]⟩, .slice none 0 0] 30)) wk.heap.size [.int .i64 0, .int .i64 0, .int .i64 0, .int .i64 0, .bool false, .int .u64 0, .slice none 0 0, .string ⟨#[]⟩, .slice none 0 0] := Blk.new wk [.int .i64 0, .int .i64 0, .int .i64 0, .int .i64 0, .bool false, .int .u64 0, .slice none 0 0, .string ⟨#[]⟩, .slice none 0 0] 30
      have hbo := hO.out
      clear hO hB hG1
      have HS := Lib.hid hSl
      have HGr := Lib.hid hGr
      have HBr := Lib.hid hBr
      clear hSl hGr hBr
      have hn1 : ¬ (N : Int) = 1 := by have := HNr.out; have := HN.out; omega
      have hn2 : ((N : Int) == 1) = false := by simpa using hn1
      have hn8 : ¬ (N : Int) ≤ 8 := by have := HNr.out; have := HN.out; omega
      have hn8n : 8 < N := by omega
      have HN8 := Lib.hid hn8n
      have HN15 := Lib.hid hN14
      obtain ⟨g, cap, hv, -⟩ := hbo.form (by omega)
      cases hv
      clear hbo
      obtain ⟨-, -, A2, c2, hA2, hc2, -, -⟩ := HS.out
      cases hA2
      have HC2 := Lib.hid hc2
      have h7c : 7 ≤ c := by omega
      have h7N : 7 ≤ N := by omega
      clear hn8n
      go_upto_block 2 with fail
      go_cut [] (fun wx => ∃ V : Nat, Hid (WideOk wk N g c V wx))
      case first =>
        go_upto_region 9 with fail
        have HA := Lib.hid ((Below.refl (wk.alloc (.cells #[.int .i64 0, .int .i64 0, .int .i64 0, .int .i64 0, .bool false, .int .u64 0, .slice none 0 0, .string ⟨#[]⟩, .slice none 0 0] 30)).heap.size (wk.alloc (.cells #[.int .i64 0, .int .i64 0, .int .i64 0, .int .i64 0, .bool false, .int .u64 0, .slice none 0 0, .string ⟨#[]⟩, .slice none 0 0] 30))).drew)
        go_region_with (first | (go_at_call 10; refine (altL _ _ _ [] _).mono ?_; rintro r ws ⟨rfl, hbs⟩; replace HA := Lib.hid (bstep HA.out hbs)) | (go_at_call 8; refine (seqL _ _ _ [] _).mono ?_; rintro r wq ⟨rfl, hbq⟩; have hl3 := ((hbx.later HA.out).alloc _).later hbq; have z0 := hl3.cell 0 _ rfl; have zf0 := hl3.fr 0 _ rfl; have z1 := hl3.cell 1 _ rfl; have zf1 := hl3.fr 1 _ rfl; have z2 := hl3.cell 2 _ rfl; have zf2 := hl3.fr 2 _ rfl; have z3 := hl3.cell 3 _ rfl; have zf3 := hl3.fr 3 _ rfl; have z4 := hl3.cell 4 _ rfl; have zf4 := hl3.fr 4 _ rfl; have z5 := hl3.cell 5 _ rfl; have zf5 := hl3.fr 5 _ rfl; have z6 := hl3.cell 6 _ rfl; have zf6 := hl3.fr 6 _ rfl; have z7 := hl3.cell 7 _ rfl; have zf7 := hl3.fr 7 _ rfl; have z8 := hl3.cell 8 _ rfl; have zf8 := hl3.fr 8 _ rfl; have zlt := hl3.lt))
        all_goals (go_wp2_with fail; go_meet; (case rel => exact ⟨_, Lib.hid (wide_ok HS.out HN8.out HN15.out HC2.out HA.out rfl hbq)⟩))
      case rest =>
      obtain ⟨V5, hW5⟩ := hcut
      rename World => W5
      have hk5 := hW5.out.blk
      have hr5 := hW5.out.bel
      have ht5 := hW5.out.tr
      have hwn : (kidsX 3 (.slice (some ⟨V5, 0, none⟩) 2 2) (wide2T N g c)).nd = wideNd N := wide2T_nd HN8.out
      clear hW5 hbx hn1 hn2 hn8 h7c h7N
      have HS5 := Lib.hid (HS.out.later hr5)
      have HB5 := Lib.hid (bstep HBr.out hr5)
      have HG5 := Lib.hid (HGr.out.later hr5)
      have HK5 := Lib.hid hk5
      have HT5 := Lib.hid ht5
      have HWN := Lib.hid hwn
      clear HS HBr HGr hr5 hk5 ht5 hwn
      go_wp2_with fail
      refine (letterL 0 _).mono ?_
      rintro r w6 ⟨rfl, hb6⟩
      go_upto_region 15 with fail
      refine named_wp ?_
      intro W7 hW7
      have hk7 : Blk W7 w6.heap.size [.int .i64 1, .int .i64 1, .int .i64 1, .int .i64 0, .bool false, .int .u64 0, .slice none 0 0, .string ⟨#[]⟩, .slice none 0 0] := by rw [hW7]; exact Blk.new w6 [.int .i64 1, .int .i64 1, .int .i64 1, .int .i64 0, .bool false, .int .u64 0, .slice none 0 0, .string ⟨#[]⟩, .slice none 0 0] 30
      have hb7 : Below w6.heap.size w6 W7 := by rw [hW7]; exact b1 _ _
      have HB6 := Lib.hid hb6
      clear hW7 hb6
      have HD7 := Lib.hid (DpW.one hk7 hb7)
      clear hk7 hb7
      go_wp2
      go_loopg [10] (D - 1) (fun g iv wv => ∃ (k : Nat) (kk mn mx kd : Int) (A2 : Option Addr) (n2 cq : Nat) (ts : List Tr), 1 ≤ k ∧ k ≤ D ∧ g = D - k ∧ iv = .int .i64 (k : Int) ∧ Hid (DpW w6 k kk mn mx kd (.slice A2 n2 cq) ts wv))
      case atStart => exact ⟨1, 1, 1, 1, 0, none, 0, 0, [], by omega, by omega, rfl, rfl, HD7⟩
      case round =>
        clear HD7
        obtain ⟨k, kk, mn, mx, kd, A2, n2, cq, ts, h1k, hk, hg, rfl, hD⟩ := hrel
        by_cases hlt : k < D
        · have g2 : (k : Int) < (D : Int) := by omega
          have hwk : IntKind.i64.wrap ((k : Int) + 1) = (k : Int) + 1 := IntWalk.i64_in _ ⟨by omega, by omega⟩
          have hbk := hD.out.blk
          have c0 := hbk.cell 0 _ rfl
          have c1 := hbk.cell 1 _ rfl
          have c2 := hbk.cell 2 _ rfl
          have c3 := hbk.cell 3 _ rfl
          have c4 := hbk.cell 4 _ rfl
          have c5 := hbk.cell 5 _ rfl
          have c6 := hbk.cell 6 _ rfl
          have c7 := hbk.cell 7 _ rfl
          have c8 := hbk.cell 8 _ rfl
          have clt := hbk.lt
          go_wp2
          go_region_with (first | (go_at_call 9; refine (letterL 1 _).mono ?_; rintro r wl ⟨rfl, hbl⟩; have hl2 := hbk.drew.later hbl; have y0 := hl2.cell 0 _ rfl; have y1 := hl2.cell 1 _ rfl; have y2 := hl2.cell 2 _ rfl; have y3 := hl2.cell 3 _ rfl; have y4 := hl2.cell 4 _ rfl; have y5 := hl2.cell 5 _ rfl; have y6 := hl2.cell 6 _ rfl; have y7 := hl2.cell 7 _ rfl; have y8 := hl2.cell 8 _ rfl; have ylt := hl2.lt) | (go_at_call 8; refine (seqL (some ⟨wl.heap.size, 0, none⟩) 2 2 [] _).mono ?_; rintro r ws ⟨rfl, hbs⟩; have hl3 := (hl2.alloc _).later hbs; have z0 := hl3.cell 0 _ rfl; have zf0 := hl3.fr 0 _ rfl; have z1 := hl3.cell 1 _ rfl; have zf1 := hl3.fr 1 _ rfl; have z2 := hl3.cell 2 _ rfl; have zf2 := hl3.fr 2 _ rfl; have z3 := hl3.cell 3 _ rfl; have zf3 := hl3.fr 3 _ rfl; have z4 := hl3.cell 4 _ rfl; have zf4 := hl3.fr 4 _ rfl; have z5 := hl3.cell 5 _ rfl; have zf5 := hl3.fr 5 _ rfl; have z6 := hl3.cell 6 _ rfl; have zf6 := hl3.fr 6 _ rfl; have z7 := hl3.cell 7 _ rfl; have zf7 := hl3.fr 7 _ rfl; have z8 := hl3.cell 8 _ rfl; have zf8 := hl3.fr 8 _ rfl; have zlt := hl3.lt))
          all_goals (go_wp2; go_roundg (D - (k + 1)); (case rel => exact ⟨k + 1, 3, 0, 0, 0, some ⟨wl.heap.size, 0, none⟩, 2, 2, [Tr.mk kk mn mx ⟨⟨kd, false, 0, [], []⟩, .slice none 0 0⟩ (.slice A2 n2 cq) ts, leafX 1 1 1 1 []], by omega, by omega, rfl, by go_num, Lib.hid (hD.out.next h1k (bstep (Below.refl _ _).drew hbl) rfl hbs)⟩); (case measure => omega))
        · have g2 : ¬ (k : Int) < (D : Int) := by omega
          obtain rfl : D = k := by omega
          clear hk hg hlt h1k
          have hN := HN.out
          have hr := HNr.out
          have hDe := HD.out
          have h12 : (N : Int) ≤ 12 := by omega
          have e1 : ¬ (N : Int) = 1 := by omega
          have e1b : ((N : Int) == 1) = false := by simpa using e1
          have e8 : ¬ (N : Int) ≤ 8 := by omega
          obtain ⟨l1, l2, -⟩ := few_len N (by omega)
          have l3 := (few_len (D - 1) (by omega)).2.2
          have hE1 : wfE ⟨wideNd N, 5, [], []⟩ = 0 := by rw [few_wide N (by omega) hN1]; exact if_pos (by omega)
          have hE2b := (few_flat N (by omega) hN1).2 (by omega)
          obtain ⟨E2, hE2⟩ : ∃ E2, wfE ⟨flatNd N, 5, [], []⟩ = E2 := ⟨_, rfl⟩
          rw [hE2] at hE2b
          have hE2c : ¬ E2 = 0 := by simpa using hE2b
          have HE2 := Lib.hid hE2
          have HE1 := Lib.hid hE1
          have HL1 := Lib.hid l1
          have HL2 := Lib.hid l2
          have HL3 := Lib.hid l3
          have HDD := Lib.hid hD.out
          clear hE1 hE2 l1 l2 l3 hD hN hr
          rcases Decidable.em ((D : Int) ≤ 6) with h6 | h6
          · have hE3 : wfE ⟨deepNd (D - 1), 5, [], []⟩ = 0 := by rw [few_deep (D - 1) (by omega)]; exact if_pos (by omega)
            have HE3 := Lib.hid hE3
            clear hE3 hDe hN14 hN1 hD9 hD1
            go_wp2_with fail
            refine (altL _ _ _ (ltL N) _).mono ?_
            rintro r u1 ⟨rfl, hu1⟩
            go_wp2_with fail
            have F1 := fails_any (kidsX 4 _ (ltL N)) (flatNd N) E2 u1 (kidsX_tr (by unfold okV; omega) (by rw [ltL_len]; exact HS5.out.later (bstep (bstep HB6.out HDD.out.bel) hu1)) ltL_tr) (by rw [subsT_len10, kidsX_nd, ltL_nd]; exact Nat.le_trans HL2.out (by decide)) (HG5.out.later (bstep (bstep HB6.out HDD.out.bel) hu1)) (by rw [kidsX_nd, ltL_nd]; rfl) HE2.out
            simp only [kidsX, Tr.row, strOf] at F1
            refine (F1).mono ?_
            rintro r u2 ⟨rfl, hu2⟩
            clear F1
            have hcw := HK5.out.later (bstep (bstep (bstep HB6.out HDD.out.bel) hu1) hu2)
            have c0 := hcw.cell 0 _ rfl
            have c1 := hcw.cell 1 _ rfl
            have c2 := hcw.cell 2 _ rfl
            have c3 := hcw.cell 3 _ rfl
            have c4 := hcw.cell 4 _ rfl
            have c5 := hcw.cell 5 _ rfl
            have c6 := hcw.cell 6 _ rfl
            have c7 := hcw.cell 7 _ rfl
            have c8 := hcw.cell 8 _ rfl
            have clt := hcw.lt
            clear hcw
            go_wp2_with fail
            clear c0 c1 c2 c3 c4 c5 c6 c7 c8 clt
            have F2 := fails_any (kidsX 3 (.slice (some ⟨V5, 0, none⟩) 2 2) (wide2T N g c)) (wideNd N) 0 u2 (HT5.out.later (bstep (bstep (bstep HB6.out HDD.out.bel) hu1) hu2)) (by rw [subsT_len10, HWN.out]; exact Nat.le_trans HL1.out (by decide)) (HG5.out.later (bstep (bstep (bstep HB6.out HDD.out.bel) hu1) hu2)) HWN.out HE1.out
            simp only [kidsX, Tr.row, strOf] at F2
            refine (F2).mono ?_
            rintro r u3 ⟨rfl, hu3⟩
            clear F2
            have hcd := HDD.out.blk.later (bstep (bstep hu1 hu2) hu3)
            have c0 := hcd.cell 0 _ rfl
            have c1 := hcd.cell 1 _ rfl
            have c2 := hcd.cell 2 _ rfl
            have c3 := hcd.cell 3 _ rfl
            have c4 := hcd.cell 4 _ rfl
            have c5 := hcd.cell 5 _ rfl
            have c6 := hcd.cell 6 _ rfl
            have c7 := hcd.cell 7 _ rfl
            have c8 := hcd.cell 8 _ rfl
            have clt := hcd.lt
            clear hcd
            go_wp2_with fail
            clear c0 c1 c2 c3 c4 c5 c6 c7 c8 clt
            have F3 := fails_any (.mk kk mn mx ⟨⟨kd, false, 0, [], []⟩, .slice none 0 0⟩ (.slice A2 n2 cq) ts) (deepNd (D - 1)) 0 u3 (HDD.out.held.now.later (bstep (bstep hu1 hu2) hu3)) (by rw [subsT_len10, HDD.out.nd]; exact Nat.le_trans HL3.out (by decide)) (HG5.out.later (bstep (bstep (bstep (bstep HB6.out HDD.out.bel) hu1) hu2) hu3)) HDD.out.nd HE3.out
            simp only [Tr.row, strOf] at F3
            refine (F3).mono ?_
            rintro r u4 ⟨rfl, hu4⟩
            clear F3
            go_wp2
            go_ret
            exact ⟨by first | rfl | (show Ending.returned (.bool (!decide ((D : Int) ≤ 6))) = _; rw [decide_eq_false (by omega)]; rfl) | (show Ending.returned (.bool (!decide ((N : Int) ≤ 8))) = _; rw [decide_eq_false (p := (N : Int) ≤ 8) (by omega)]; rfl) | (show Ending.returned (.bool (!decide ((N : Int) ≤ 8) && !decide ((D : Int) ≤ 6))) = _; rw [decide_eq_false (p := (N : Int) ≤ 8) (by omega), decide_eq_false (p := (D : Int) ≤ 6) (by omega)]; rfl) | (show Ending.returned (.bool (!decide ((N : Int) ≤ 12) && !decide ((N : Int) ≤ 8))) = _; rw [decide_eq_false (p := (N : Int) ≤ 12) (by omega), decide_eq_false (p := (N : Int) ≤ 8) (by omega)]; rfl) | (show Ending.returned (.bool (!decide ((N : Int) ≤ 12) && !decide ((N : Int) ≤ 8) && !decide ((D : Int) ≤ 6))) = _; rw [decide_eq_false (p := (N : Int) ≤ 12) (by omega), decide_eq_false (p := (N : Int) ≤ 8) (by omega), decide_eq_false (p := (D : Int) ≤ 6) (by omega)]; rfl), bstep HB0.out (bstep (bstep (bstep (bstep (bstep (bstep HB5.out HB6.out) HDD.out.bel) hu1) hu2) hu3) hu4)⟩
          · have hE3 : wfE ⟨deepNd (D - 1), 5, [], []⟩ = 22 := by rw [few_deep (D - 1) (by omega)]; exact if_neg (by omega)
            have HE3 := Lib.hid hE3
            clear hE3 hDe hN14 hN1 hD9 hD1
            go_wp2_with fail
            refine (altL _ _ _ (ltL N) _).mono ?_
            rintro r u1 ⟨rfl, hu1⟩
            go_wp2_with fail
            have F1 := fails_any (kidsX 4 _ (ltL N)) (flatNd N) E2 u1 (kidsX_tr (by unfold okV; omega) (by rw [ltL_len]; exact HS5.out.later (bstep (bstep HB6.out HDD.out.bel) hu1)) ltL_tr) (by rw [subsT_len10, kidsX_nd, ltL_nd]; exact Nat.le_trans HL2.out (by decide)) (HG5.out.later (bstep (bstep HB6.out HDD.out.bel) hu1)) (by rw [kidsX_nd, ltL_nd]; rfl) HE2.out
            simp only [kidsX, Tr.row, strOf] at F1
            refine (F1).mono ?_
            rintro r u2 ⟨rfl, hu2⟩
            clear F1
            have hcw := HK5.out.later (bstep (bstep (bstep HB6.out HDD.out.bel) hu1) hu2)
            have c0 := hcw.cell 0 _ rfl
            have c1 := hcw.cell 1 _ rfl
            have c2 := hcw.cell 2 _ rfl
            have c3 := hcw.cell 3 _ rfl
            have c4 := hcw.cell 4 _ rfl
            have c5 := hcw.cell 5 _ rfl
            have c6 := hcw.cell 6 _ rfl
            have c7 := hcw.cell 7 _ rfl
            have c8 := hcw.cell 8 _ rfl
            have clt := hcw.lt
            clear hcw
            go_wp2_with fail
            clear c0 c1 c2 c3 c4 c5 c6 c7 c8 clt
            have F2 := fails_any (kidsX 3 (.slice (some ⟨V5, 0, none⟩) 2 2) (wide2T N g c)) (wideNd N) 0 u2 (HT5.out.later (bstep (bstep (bstep HB6.out HDD.out.bel) hu1) hu2)) (by rw [subsT_len10, HWN.out]; exact Nat.le_trans HL1.out (by decide)) (HG5.out.later (bstep (bstep (bstep HB6.out HDD.out.bel) hu1) hu2)) HWN.out HE1.out
            simp only [kidsX, Tr.row, strOf] at F2
            refine (F2).mono ?_
            rintro r u3 ⟨rfl, hu3⟩
            clear F2
            have hcd := HDD.out.blk.later (bstep (bstep hu1 hu2) hu3)
            have c0 := hcd.cell 0 _ rfl
            have c1 := hcd.cell 1 _ rfl
            have c2 := hcd.cell 2 _ rfl
            have c3 := hcd.cell 3 _ rfl
            have c4 := hcd.cell 4 _ rfl
            have c5 := hcd.cell 5 _ rfl
            have c6 := hcd.cell 6 _ rfl
            have c7 := hcd.cell 7 _ rfl
            have c8 := hcd.cell 8 _ rfl
            have clt := hcd.lt
            clear hcd
            go_wp2_with fail
            clear c0 c1 c2 c3 c4 c5 c6 c7 c8 clt
            have F3 := fails_any (.mk kk mn mx ⟨⟨kd, false, 0, [], []⟩, .slice none 0 0⟩ (.slice A2 n2 cq) ts) (deepNd (D - 1)) 22 u3 (HDD.out.held.now.later (bstep (bstep hu1 hu2) hu3)) (by rw [subsT_len10, HDD.out.nd]; exact Nat.le_trans HL3.out (by decide)) (HG5.out.later (bstep (bstep (bstep (bstep HB6.out HDD.out.bel) hu1) hu2) hu3)) HDD.out.nd HE3.out
            simp only [Tr.row, strOf] at F3
            refine (F3).mono ?_
            rintro r u4 ⟨rfl, hu4⟩
            clear F3
            have hcd := HDD.out.blk.later (bstep (bstep (bstep hu1 hu2) hu3) hu4)
            have c0 := hcd.cell 0 _ rfl
            have c1 := hcd.cell 1 _ rfl
            have c2 := hcd.cell 2 _ rfl
            have c3 := hcd.cell 3 _ rfl
            have c4 := hcd.cell 4 _ rfl
            have c5 := hcd.cell 5 _ rfl
            have c6 := hcd.cell 6 _ rfl
            have c7 := hcd.cell 7 _ rfl
            have c8 := hcd.cell 8 _ rfl
            have clt := hcd.lt
            clear hcd
            go_wp2_with fail
            clear c0 c1 c2 c3 c4 c5 c6 c7 c8 clt
            have F3 := fails_any (.mk kk mn mx ⟨⟨kd, false, 0, [], []⟩, .slice none 0 0⟩ (.slice A2 n2 cq) ts) (deepNd (D - 1)) 22 u4 (HDD.out.held.now.later (bstep (bstep (bstep hu1 hu2) hu3) hu4)) (by rw [subsT_len10, HDD.out.nd]; exact Nat.le_trans HL3.out (by decide)) (HG5.out.later (bstep (bstep (bstep (bstep (bstep HB6.out HDD.out.bel) hu1) hu2) hu3) hu4)) HDD.out.nd HE3.out
            simp only [Tr.row, strOf] at F3
            refine (F3).mono ?_
            rintro r u5 ⟨rfl, hu5⟩
            clear F3
            go_wp2
            go_ret
            exact ⟨by first | rfl | (show Ending.returned (.bool (!decide ((D : Int) ≤ 6))) = _; rw [decide_eq_false (by omega)]; rfl) | (show Ending.returned (.bool (!decide ((N : Int) ≤ 8))) = _; rw [decide_eq_false (p := (N : Int) ≤ 8) (by omega)]; rfl) | (show Ending.returned (.bool (!decide ((N : Int) ≤ 8) && !decide ((D : Int) ≤ 6))) = _; rw [decide_eq_false (p := (N : Int) ≤ 8) (by omega), decide_eq_false (p := (D : Int) ≤ 6) (by omega)]; rfl) | (show Ending.returned (.bool (!decide ((N : Int) ≤ 12) && !decide ((N : Int) ≤ 8))) = _; rw [decide_eq_false (p := (N : Int) ≤ 12) (by omega), decide_eq_false (p := (N : Int) ≤ 8) (by omega)]; rfl) | (show Ending.returned (.bool (!decide ((N : Int) ≤ 12) && !decide ((N : Int) ≤ 8) && !decide ((D : Int) ≤ 6))) = _; rw [decide_eq_false (p := (N : Int) ≤ 12) (by omega), decide_eq_false (p := (N : Int) ≤ 8) (by omega), decide_eq_false (p := (D : Int) ≤ 6) (by omega)]; rfl), bstep HB0.out (bstep (bstep (bstep (bstep (bstep (bstep (bstep HB5.out HB6.out) HDD.out.bel) hu1) hu2) hu3) hu4) hu5)⟩
set_option maxRecDepth 100000 in
set_option maxHeartbeats 32000000 in
theorem fewly_over (a d : Int) (n e : Nat) (w : World) (hG : SG w) (hn : a % 14 = (n : Int)) (he : d % 9 = (e : Int)) (hr : 12 ≤ n ∧ n ≤ 13) (_hn14 : n ≤ 13) (_he9 : e ≤ 8) : Calls Tryd.prog 5 #[.int .i64 a, .int .i64 d] w fun r w' => r = .returned (.bool true) ∧ Below w.heap.size w w' := by
  have letterL := letter_any
  have seqL := seq_any
  have altL := alt_any
  simp only [kidsX, leafX, Tr.row, strOf] at letterL seqL altL
  have hK := wknown_any w hG
  have hMa := fun w => mod_any a 14 w (by omega) (by omega)
  have hMd := fun w => mod_any d 9 w (by omega) (by omega)
  simp only [hn] at hMa
  simp only [he] at hMd
  obtain ⟨i0, hi0, hz0, hz1, hz2⟩ := info_parts infoNd10
  obtain ⟨N, hN⟩ : ∃ N, N = n + 1 := ⟨_, rfl⟩
  obtain ⟨D, hD⟩ : ∃ D, D = e + 1 := ⟨_, rfl⟩
  have hwn : IntKind.i64.wrap (1 + (n : Int)) = (N : Int) := (IntWalk.i64_in _ ⟨by omega, by omega⟩).trans (by omega)
  have hwe : IntKind.i64.wrap (1 + (e : Int)) = (D : Int) := (IntWalk.i64_in _ ⟨by omega, by omega⟩).trans (by omega)
  have hN14 : N ≤ 14 := by omega
  have hN1 : 1 ≤ N := by omega
  have hD9 : D ≤ 9 := by omega
  have hD1 : 1 ≤ D := by omega
  have HN := Lib.hid hN
  have HD := Lib.hid hD
  have HNr := Lib.hid hr
  clear hN hD hr hn he _hn14 _he9
  go_enter Tryd.func5, Tryd.ntmps5
  go_upto_region 2 with (go_at_call 3; refine hK.mono ?_; rintro r w1 ⟨rfl, hb1⟩)
  have hG1 := Lib.hid (hG.later hb1)
  have HB0 := Lib.hid hb1
  clear hK hG hb1
  go_wp2_with fail
  refine (hMa _).mono ?_
  rintro r w2 ⟨rfl, rfl⟩
  clear hMa
  go_wp2_with fail
  refine (hMd _).mono ?_
  rintro r w3 ⟨rfl, rfl⟩
  clear hMd
  go_wp2
  clear hwn hwe
  go_loopg [6, 7] N (fun g kv iv wr => ∃ (k : Nat) (A : Option Addr) (c : Nat), k ≤ N ∧ g = N - k ∧ kv = .slice A k c ∧ iv = .int .i64 (k : Int) ∧ Hid (wr.ownsRow w1.heap.size 30 9 (.slice A k c) k ((ltL k).flatMap Tr.row)) ∧ Hid (Below w1.heap.size w1 wr))
  case atStart => exact ⟨0, none, 0, by omega, rfl, rfl, rfl, Lib.hid (World.ownsRow_nil _ _ _ _), Lib.hid (Below.refl _ _)⟩
  case round =>
    obtain ⟨k, A, c, hk, hg, rfl, rfl, hO, hB⟩ := hrel
    have hk0 : (0 : Int) ≤ (k : Int) := by omega
    by_cases hlt : k < N
    · have g1 : (k : Int) < (N : Int) := by omega
      have hwk : IntKind.i64.wrap ((k : Int) + 1) = (k : Int) + 1 := IntWalk.i64_in _ ⟨by omega, by omega⟩
      have hl := fun w => letter_any ((k : Int) % 26) w
      simp only [leafX, Tr.row, strOf] at hl
      have hrow : (ltX k).row = [.int .i64 1, .int .i64 1, .int .i64 1, .int .i64 ((k : Int) % 26), .bool false, .int .u64 0, .slice none 0 0, .string ⟨#[]⟩, .slice none 0 0] := by unfold ltX leafX; simp only [Tr.row, strOf, Int.natCast_emod]; rfl
      have HR := Lib.hid hrow
      clear hrow letterL seqL altL
      go_wp2_with fail
      refine (hl _).mono ?_
      rintro r w2 ⟨rfl, hb2⟩
      have hO2 := own_later hO.out (bstep hb2 (b1 w2 (.cells #[.int .i64 1, .int .i64 1, .int .i64 1, .int .i64 ((k : Int) % 26), .bool false, .int .u64 0, .slice none 0 0, .string ⟨#[]⟩, .slice none 0 0] 30)))
      have hsl : Sl (w2.alloc (.cells #[.int .i64 1, .int .i64 1, .int .i64 1, .int .i64 ((k : Int) % 26), .bool false, .int .u64 0, .slice none 0 0, .string ⟨#[]⟩, .slice none 0 0] 30)) 9 1 (.slice (some ⟨w2.heap.size, 0, none⟩) 1 1) (ltX k).row := by rw [HR.out]; exact Sl.lit (Blk.is _ rfl) 9 1 rfl (by decide)
      have hon : ∀ u ∈ (ltX k).row, u.oneCell' = true := by rw [HR.out]; simp only [List.mem_cons, List.not_mem_nil, or_false]; rintro u (rfl | rfl | rfl | rfl | rfl | rfl | rfl | rfl | rfl) <;> rfl
      have hb3 := bstep (bstep hB.out hb2) (b1 w2 (.cells #[.int .i64 1, .int .i64 1, .int .i64 1, .int .i64 ((k : Int) % 26), .bool false, .int .u64 0, .slice none 0 0, .string ⟨#[]⟩, .slice none 0 0] 30))
      obtain ⟨A3, c3, w4, hrun, hown, hgrow⟩ := run_append_any (P := Tryd.prog) (w2.alloc (.cells #[.int .i64 1, .int .i64 1, .int .i64 1, .int .i64 ((k : Int) % 26), .bool false, .int .u64 0, .slice none 0 0, .string ⟨#[]⟩, .slice none 0 0] 30)) w1.heap.size 28 28 30 i0 (.agg #[.int .i64 0, .int .i64 0, .int .i64 0, .int .i64 0, .bool false, .int .u64 0, .slice none 0 0, .string ⟨#[]⟩, .slice none 0 0]) 9 112 Tryd.underlying28 hi0 hz0 hz1 hz2 rfl (by decide) _ k ((ltL k).flatMap Tr.row) hO2 _ 1 (ltX k).row hsl hon (by unfold maxLen; omega) (by omega) hb3.size (k + 1) ((ltL (k + 1)).flatMap Tr.row) rfl (by rw [ltL_succ, List.flatMap_append]; simp)
      have HOW := Lib.hid hown
      have HBW := Lib.hid (hb3.grown hgrow hb3.size (fun j e => (hO2.lt j e).1))
      clear hO2 hown hgrow hb2 hb3 hsl hon hl hO hB HR
      go_wp2_with (at_builtin; refine wpList_append_run rfl _ _ _ rfl rfl rfl hrun ?_)
      go_roundg (N - (k + 1))
      case rel => exact ⟨k + 1, A3, c3, by omega, rfl, rfl, by go_num, HOW, HBW⟩
      case measure => omega
    · have g1 : ¬ (k : Int) < (N : Int) := by omega
      obtain rfl : N = k := by omega
      clear hk hg hk0 hlt
      rename World => wk
      have hSl := Sl.of_own hO.out
      have hBr := hB.out
      have hGr := hG1.out.later hBr
      have hbx : Blk (wk.alloc (.cells #[.int .i64 0, .int .i64 0, .int .i64 0, .int .i64 0, .bool false, .int .u64 0, .slice none 0 0, .string ⟨#[]⟩, .slice none 0 0] 30)) wk.heap.size [.int .i64 0, .int .i64 0, .int .i64 0, .int .i64 0, .bool false, .int .u64 0, .slice none 0 0, .string ⟨#[]⟩, .slice none 0 0] := Blk.new wk [.int .i64 0, .int .i64 0, .int .i64 0, .int .i64 0, .bool false, .int .u64 0, .slice none 0 0, .string ⟨#[]⟩, .slice none 0 0] 30
      have hbo := hO.out
      clear hO hB hG1
      have HS := Lib.hid hSl
      have HGr := Lib.hid hGr
      have HBr := Lib.hid hBr
      clear hSl hGr hBr
      have hn1 : ¬ (N : Int) = 1 := by have := HNr.out; have := HN.out; omega
      have hn2 : ((N : Int) == 1) = false := by simpa using hn1
      have hn8 : ¬ (N : Int) ≤ 8 := by have := HNr.out; have := HN.out; omega
      have hn8n : 8 < N := by omega
      have HN8 := Lib.hid hn8n
      have HN15 := Lib.hid hN14
      obtain ⟨g, cap, hv, -⟩ := hbo.form (by omega)
      cases hv
      clear hbo
      obtain ⟨-, -, A2, c2, hA2, hc2, -, -⟩ := HS.out
      cases hA2
      have HC2 := Lib.hid hc2
      have h7c : 7 ≤ c := by omega
      have h7N : 7 ≤ N := by omega
      clear hn8n
      go_upto_block 2 with fail
      go_cut [] (fun wx => ∃ V : Nat, Hid (WideOk wk N g c V wx))
      case first =>
        go_upto_region 9 with fail
        have HA := Lib.hid ((Below.refl (wk.alloc (.cells #[.int .i64 0, .int .i64 0, .int .i64 0, .int .i64 0, .bool false, .int .u64 0, .slice none 0 0, .string ⟨#[]⟩, .slice none 0 0] 30)).heap.size (wk.alloc (.cells #[.int .i64 0, .int .i64 0, .int .i64 0, .int .i64 0, .bool false, .int .u64 0, .slice none 0 0, .string ⟨#[]⟩, .slice none 0 0] 30))).drew)
        go_region_with (first | (go_at_call 10; refine (altL _ _ _ [] _).mono ?_; rintro r ws ⟨rfl, hbs⟩; replace HA := Lib.hid (bstep HA.out hbs)) | (go_at_call 8; refine (seqL _ _ _ [] _).mono ?_; rintro r wq ⟨rfl, hbq⟩; have hl3 := ((hbx.later HA.out).alloc _).later hbq; have z0 := hl3.cell 0 _ rfl; have zf0 := hl3.fr 0 _ rfl; have z1 := hl3.cell 1 _ rfl; have zf1 := hl3.fr 1 _ rfl; have z2 := hl3.cell 2 _ rfl; have zf2 := hl3.fr 2 _ rfl; have z3 := hl3.cell 3 _ rfl; have zf3 := hl3.fr 3 _ rfl; have z4 := hl3.cell 4 _ rfl; have zf4 := hl3.fr 4 _ rfl; have z5 := hl3.cell 5 _ rfl; have zf5 := hl3.fr 5 _ rfl; have z6 := hl3.cell 6 _ rfl; have zf6 := hl3.fr 6 _ rfl; have z7 := hl3.cell 7 _ rfl; have zf7 := hl3.fr 7 _ rfl; have z8 := hl3.cell 8 _ rfl; have zf8 := hl3.fr 8 _ rfl; have zlt := hl3.lt))
        all_goals (go_wp2_with fail; go_meet; (case rel => exact ⟨_, Lib.hid (wide_ok HS.out HN8.out HN15.out HC2.out HA.out rfl hbq)⟩))
      case rest =>
      obtain ⟨V5, hW5⟩ := hcut
      rename World => W5
      have hk5 := hW5.out.blk
      have hr5 := hW5.out.bel
      have ht5 := hW5.out.tr
      have hwn : (kidsX 3 (.slice (some ⟨V5, 0, none⟩) 2 2) (wide2T N g c)).nd = wideNd N := wide2T_nd HN8.out
      clear hW5 hbx hn1 hn2 hn8 h7c h7N
      have HS5 := Lib.hid (HS.out.later hr5)
      have HB5 := Lib.hid (bstep HBr.out hr5)
      have HG5 := Lib.hid (HGr.out.later hr5)
      have HK5 := Lib.hid hk5
      have HT5 := Lib.hid ht5
      have HWN := Lib.hid hwn
      clear HS HBr HGr hr5 hk5 ht5 hwn
      go_wp2_with fail
      refine (letterL 0 _).mono ?_
      rintro r w6 ⟨rfl, hb6⟩
      go_upto_region 15 with fail
      refine named_wp ?_
      intro W7 hW7
      have hk7 : Blk W7 w6.heap.size [.int .i64 1, .int .i64 1, .int .i64 1, .int .i64 0, .bool false, .int .u64 0, .slice none 0 0, .string ⟨#[]⟩, .slice none 0 0] := by rw [hW7]; exact Blk.new w6 [.int .i64 1, .int .i64 1, .int .i64 1, .int .i64 0, .bool false, .int .u64 0, .slice none 0 0, .string ⟨#[]⟩, .slice none 0 0] 30
      have hb7 : Below w6.heap.size w6 W7 := by rw [hW7]; exact b1 _ _
      have HB6 := Lib.hid hb6
      clear hW7 hb6
      have HD7 := Lib.hid (DpW.one hk7 hb7)
      clear hk7 hb7
      go_wp2
      go_loopg [10] (D - 1) (fun g iv wv => ∃ (k : Nat) (kk mn mx kd : Int) (A2 : Option Addr) (n2 cq : Nat) (ts : List Tr), 1 ≤ k ∧ k ≤ D ∧ g = D - k ∧ iv = .int .i64 (k : Int) ∧ Hid (DpW w6 k kk mn mx kd (.slice A2 n2 cq) ts wv))
      case atStart => exact ⟨1, 1, 1, 1, 0, none, 0, 0, [], by omega, by omega, rfl, rfl, HD7⟩
      case round =>
        clear HD7
        obtain ⟨k, kk, mn, mx, kd, A2, n2, cq, ts, h1k, hk, hg, rfl, hD⟩ := hrel
        by_cases hlt : k < D
        · have g2 : (k : Int) < (D : Int) := by omega
          have hwk : IntKind.i64.wrap ((k : Int) + 1) = (k : Int) + 1 := IntWalk.i64_in _ ⟨by omega, by omega⟩
          have hbk := hD.out.blk
          have c0 := hbk.cell 0 _ rfl
          have c1 := hbk.cell 1 _ rfl
          have c2 := hbk.cell 2 _ rfl
          have c3 := hbk.cell 3 _ rfl
          have c4 := hbk.cell 4 _ rfl
          have c5 := hbk.cell 5 _ rfl
          have c6 := hbk.cell 6 _ rfl
          have c7 := hbk.cell 7 _ rfl
          have c8 := hbk.cell 8 _ rfl
          have clt := hbk.lt
          go_wp2
          go_region_with (first | (go_at_call 9; refine (letterL 1 _).mono ?_; rintro r wl ⟨rfl, hbl⟩; have hl2 := hbk.drew.later hbl; have y0 := hl2.cell 0 _ rfl; have y1 := hl2.cell 1 _ rfl; have y2 := hl2.cell 2 _ rfl; have y3 := hl2.cell 3 _ rfl; have y4 := hl2.cell 4 _ rfl; have y5 := hl2.cell 5 _ rfl; have y6 := hl2.cell 6 _ rfl; have y7 := hl2.cell 7 _ rfl; have y8 := hl2.cell 8 _ rfl; have ylt := hl2.lt) | (go_at_call 8; refine (seqL (some ⟨wl.heap.size, 0, none⟩) 2 2 [] _).mono ?_; rintro r ws ⟨rfl, hbs⟩; have hl3 := (hl2.alloc _).later hbs; have z0 := hl3.cell 0 _ rfl; have zf0 := hl3.fr 0 _ rfl; have z1 := hl3.cell 1 _ rfl; have zf1 := hl3.fr 1 _ rfl; have z2 := hl3.cell 2 _ rfl; have zf2 := hl3.fr 2 _ rfl; have z3 := hl3.cell 3 _ rfl; have zf3 := hl3.fr 3 _ rfl; have z4 := hl3.cell 4 _ rfl; have zf4 := hl3.fr 4 _ rfl; have z5 := hl3.cell 5 _ rfl; have zf5 := hl3.fr 5 _ rfl; have z6 := hl3.cell 6 _ rfl; have zf6 := hl3.fr 6 _ rfl; have z7 := hl3.cell 7 _ rfl; have zf7 := hl3.fr 7 _ rfl; have z8 := hl3.cell 8 _ rfl; have zf8 := hl3.fr 8 _ rfl; have zlt := hl3.lt))
          all_goals (go_wp2; go_roundg (D - (k + 1)); (case rel => exact ⟨k + 1, 3, 0, 0, 0, some ⟨wl.heap.size, 0, none⟩, 2, 2, [Tr.mk kk mn mx ⟨⟨kd, false, 0, [], []⟩, .slice none 0 0⟩ (.slice A2 n2 cq) ts, leafX 1 1 1 1 []], by omega, by omega, rfl, by go_num, Lib.hid (hD.out.next h1k (bstep (Below.refl _ _).drew hbl) rfl hbs)⟩); (case measure => omega))
        · have g2 : ¬ (k : Int) < (D : Int) := by omega
          obtain rfl : D = k := by omega
          clear hk hg hlt h1k
          have hN := HN.out
          have hr := HNr.out
          have hDe := HD.out
          have h12 : ¬ (N : Int) ≤ 12 := by omega
          have e1 : ¬ (N : Int) = 1 := by omega
          have e1b : ((N : Int) == 1) = false := by simpa using e1
          have e8 : ¬ (N : Int) ≤ 8 := by omega
          obtain ⟨l1, l2, -⟩ := few_len N (by omega)
          have l3 := (few_len (D - 1) (by omega)).2.2
          have hE1 : wfE ⟨wideNd N, 5, [], []⟩ = 6 := by rw [few_wide N (by omega) hN1]; exact if_neg (by omega)
          have hE2b := (few_flat N (by omega) hN1).2 (by omega)
          obtain ⟨E2, hE2⟩ : ∃ E2, wfE ⟨flatNd N, 5, [], []⟩ = E2 := ⟨_, rfl⟩
          rw [hE2] at hE2b
          have hE2c : ¬ E2 = 0 := by simpa using hE2b
          have HE2 := Lib.hid hE2
          have HE1 := Lib.hid hE1
          have HL1 := Lib.hid l1
          have HL2 := Lib.hid l2
          have HL3 := Lib.hid l3
          have HDD := Lib.hid hD.out
          clear hE1 hE2 l1 l2 l3 hD hN hr
          rcases Decidable.em ((D : Int) ≤ 6) with h6 | h6
          · have hE3 : wfE ⟨deepNd (D - 1), 5, [], []⟩ = 0 := by rw [few_deep (D - 1) (by omega)]; exact if_pos (by omega)
            have HE3 := Lib.hid hE3
            clear hE3 hDe hN14 hN1 hD9 hD1
            go_wp2_with fail
            refine (altL _ _ _ (ltL N) _).mono ?_
            rintro r u1 ⟨rfl, hu1⟩
            go_wp2_with fail
            have F1 := fails_any (kidsX 4 _ (ltL N)) (flatNd N) E2 u1 (kidsX_tr (by unfold okV; omega) (by rw [ltL_len]; exact HS5.out.later (bstep (bstep HB6.out HDD.out.bel) hu1)) ltL_tr) (by rw [subsT_len10, kidsX_nd, ltL_nd]; exact Nat.le_trans HL2.out (by decide)) (HG5.out.later (bstep (bstep HB6.out HDD.out.bel) hu1)) (by rw [kidsX_nd, ltL_nd]; rfl) HE2.out
            simp only [kidsX, Tr.row, strOf] at F1
            refine (F1).mono ?_
            rintro r u2 ⟨rfl, hu2⟩
            clear F1
            have hcw := HK5.out.later (bstep (bstep (bstep HB6.out HDD.out.bel) hu1) hu2)
            have c0 := hcw.cell 0 _ rfl
            have c1 := hcw.cell 1 _ rfl
            have c2 := hcw.cell 2 _ rfl
            have c3 := hcw.cell 3 _ rfl
            have c4 := hcw.cell 4 _ rfl
            have c5 := hcw.cell 5 _ rfl
            have c6 := hcw.cell 6 _ rfl
            have c7 := hcw.cell 7 _ rfl
            have c8 := hcw.cell 8 _ rfl
            have clt := hcw.lt
            clear hcw
            go_wp2_with fail
            clear c0 c1 c2 c3 c4 c5 c6 c7 c8 clt
            have F2 := fails_any (kidsX 3 (.slice (some ⟨V5, 0, none⟩) 2 2) (wide2T N g c)) (wideNd N) 6 u2 (HT5.out.later (bstep (bstep (bstep HB6.out HDD.out.bel) hu1) hu2)) (by rw [subsT_len10, HWN.out]; exact Nat.le_trans HL1.out (by decide)) (HG5.out.later (bstep (bstep (bstep HB6.out HDD.out.bel) hu1) hu2)) HWN.out HE1.out
            simp only [kidsX, Tr.row, strOf] at F2
            refine (F2).mono ?_
            rintro r u3 ⟨rfl, hu3⟩
            clear F2
            have hcw := HK5.out.later (bstep (bstep (bstep (bstep HB6.out HDD.out.bel) hu1) hu2) hu3)
            have c0 := hcw.cell 0 _ rfl
            have c1 := hcw.cell 1 _ rfl
            have c2 := hcw.cell 2 _ rfl
            have c3 := hcw.cell 3 _ rfl
            have c4 := hcw.cell 4 _ rfl
            have c5 := hcw.cell 5 _ rfl
            have c6 := hcw.cell 6 _ rfl
            have c7 := hcw.cell 7 _ rfl
            have c8 := hcw.cell 8 _ rfl
            have clt := hcw.lt
            clear hcw
            go_wp2_with fail
            clear c0 c1 c2 c3 c4 c5 c6 c7 c8 clt
            have F2 := fails_any (kidsX 3 (.slice (some ⟨V5, 0, none⟩) 2 2) (wide2T N g c)) (wideNd N) 6 u3 (HT5.out.later (bstep (bstep (bstep (bstep HB6.out HDD.out.bel) hu1) hu2) hu3)) (by rw [subsT_len10, HWN.out]; exact Nat.le_trans HL1.out (by decide)) (HG5.out.later (bstep (bstep (bstep (bstep HB6.out HDD.out.bel) hu1) hu2) hu3)) HWN.out HE1.out
            simp only [kidsX, Tr.row, strOf] at F2
            refine (F2).mono ?_
            rintro r u4 ⟨rfl, hu4⟩
            clear F2
            have hcd := HDD.out.blk.later (bstep (bstep (bstep hu1 hu2) hu3) hu4)
            have c0 := hcd.cell 0 _ rfl
            have c1 := hcd.cell 1 _ rfl
            have c2 := hcd.cell 2 _ rfl
            have c3 := hcd.cell 3 _ rfl
            have c4 := hcd.cell 4 _ rfl
            have c5 := hcd.cell 5 _ rfl
            have c6 := hcd.cell 6 _ rfl
            have c7 := hcd.cell 7 _ rfl
            have c8 := hcd.cell 8 _ rfl
            have clt := hcd.lt
            clear hcd
            go_wp2_with fail
            clear c0 c1 c2 c3 c4 c5 c6 c7 c8 clt
            have F3 := fails_any (.mk kk mn mx ⟨⟨kd, false, 0, [], []⟩, .slice none 0 0⟩ (.slice A2 n2 cq) ts) (deepNd (D - 1)) 0 u4 (HDD.out.held.now.later (bstep (bstep (bstep hu1 hu2) hu3) hu4)) (by rw [subsT_len10, HDD.out.nd]; exact Nat.le_trans HL3.out (by decide)) (HG5.out.later (bstep (bstep (bstep (bstep (bstep HB6.out HDD.out.bel) hu1) hu2) hu3) hu4)) HDD.out.nd HE3.out
            simp only [Tr.row, strOf] at F3
            refine (F3).mono ?_
            rintro r u5 ⟨rfl, hu5⟩
            clear F3
            go_wp2
            go_ret
            exact ⟨by first | rfl | (show Ending.returned (.bool (!decide ((D : Int) ≤ 6))) = _; rw [decide_eq_false (by omega)]; rfl) | (show Ending.returned (.bool (!decide ((N : Int) ≤ 8))) = _; rw [decide_eq_false (p := (N : Int) ≤ 8) (by omega)]; rfl) | (show Ending.returned (.bool (!decide ((N : Int) ≤ 8) && !decide ((D : Int) ≤ 6))) = _; rw [decide_eq_false (p := (N : Int) ≤ 8) (by omega), decide_eq_false (p := (D : Int) ≤ 6) (by omega)]; rfl) | (show Ending.returned (.bool (!decide ((N : Int) ≤ 12) && !decide ((N : Int) ≤ 8))) = _; rw [decide_eq_false (p := (N : Int) ≤ 12) (by omega), decide_eq_false (p := (N : Int) ≤ 8) (by omega)]; rfl) | (show Ending.returned (.bool (!decide ((N : Int) ≤ 12) && !decide ((N : Int) ≤ 8) && !decide ((D : Int) ≤ 6))) = _; rw [decide_eq_false (p := (N : Int) ≤ 12) (by omega), decide_eq_false (p := (N : Int) ≤ 8) (by omega), decide_eq_false (p := (D : Int) ≤ 6) (by omega)]; rfl), bstep HB0.out (bstep (bstep (bstep (bstep (bstep (bstep (bstep HB5.out HB6.out) HDD.out.bel) hu1) hu2) hu3) hu4) hu5)⟩
          · have hE3 : wfE ⟨deepNd (D - 1), 5, [], []⟩ = 22 := by rw [few_deep (D - 1) (by omega)]; exact if_neg (by omega)
            have HE3 := Lib.hid hE3
            clear hE3 hDe hN14 hN1 hD9 hD1
            go_wp2_with fail
            refine (altL _ _ _ (ltL N) _).mono ?_
            rintro r u1 ⟨rfl, hu1⟩
            go_wp2_with fail
            have F1 := fails_any (kidsX 4 _ (ltL N)) (flatNd N) E2 u1 (kidsX_tr (by unfold okV; omega) (by rw [ltL_len]; exact HS5.out.later (bstep (bstep HB6.out HDD.out.bel) hu1)) ltL_tr) (by rw [subsT_len10, kidsX_nd, ltL_nd]; exact Nat.le_trans HL2.out (by decide)) (HG5.out.later (bstep (bstep HB6.out HDD.out.bel) hu1)) (by rw [kidsX_nd, ltL_nd]; rfl) HE2.out
            simp only [kidsX, Tr.row, strOf] at F1
            refine (F1).mono ?_
            rintro r u2 ⟨rfl, hu2⟩
            clear F1
            have hcw := HK5.out.later (bstep (bstep (bstep HB6.out HDD.out.bel) hu1) hu2)
            have c0 := hcw.cell 0 _ rfl
            have c1 := hcw.cell 1 _ rfl
            have c2 := hcw.cell 2 _ rfl
            have c3 := hcw.cell 3 _ rfl
            have c4 := hcw.cell 4 _ rfl
            have c5 := hcw.cell 5 _ rfl
            have c6 := hcw.cell 6 _ rfl
            have c7 := hcw.cell 7 _ rfl
            have c8 := hcw.cell 8 _ rfl
            have clt := hcw.lt
            clear hcw
            go_wp2_with fail
            clear c0 c1 c2 c3 c4 c5 c6 c7 c8 clt
            have F2 := fails_any (kidsX 3 (.slice (some ⟨V5, 0, none⟩) 2 2) (wide2T N g c)) (wideNd N) 6 u2 (HT5.out.later (bstep (bstep (bstep HB6.out HDD.out.bel) hu1) hu2)) (by rw [subsT_len10, HWN.out]; exact Nat.le_trans HL1.out (by decide)) (HG5.out.later (bstep (bstep (bstep HB6.out HDD.out.bel) hu1) hu2)) HWN.out HE1.out
            simp only [kidsX, Tr.row, strOf] at F2
            refine (F2).mono ?_
            rintro r u3 ⟨rfl, hu3⟩
            clear F2
            have hcw := HK5.out.later (bstep (bstep (bstep (bstep HB6.out HDD.out.bel) hu1) hu2) hu3)
            have c0 := hcw.cell 0 _ rfl
            have c1 := hcw.cell 1 _ rfl
            have c2 := hcw.cell 2 _ rfl
            have c3 := hcw.cell 3 _ rfl
            have c4 := hcw.cell 4 _ rfl
            have c5 := hcw.cell 5 _ rfl
            have c6 := hcw.cell 6 _ rfl
            have c7 := hcw.cell 7 _ rfl
            have c8 := hcw.cell 8 _ rfl
            have clt := hcw.lt
            clear hcw
            go_wp2_with fail
            clear c0 c1 c2 c3 c4 c5 c6 c7 c8 clt
            have F2 := fails_any (kidsX 3 (.slice (some ⟨V5, 0, none⟩) 2 2) (wide2T N g c)) (wideNd N) 6 u3 (HT5.out.later (bstep (bstep (bstep (bstep HB6.out HDD.out.bel) hu1) hu2) hu3)) (by rw [subsT_len10, HWN.out]; exact Nat.le_trans HL1.out (by decide)) (HG5.out.later (bstep (bstep (bstep (bstep HB6.out HDD.out.bel) hu1) hu2) hu3)) HWN.out HE1.out
            simp only [kidsX, Tr.row, strOf] at F2
            refine (F2).mono ?_
            rintro r u4 ⟨rfl, hu4⟩
            clear F2
            have hcd := HDD.out.blk.later (bstep (bstep (bstep hu1 hu2) hu3) hu4)
            have c0 := hcd.cell 0 _ rfl
            have c1 := hcd.cell 1 _ rfl
            have c2 := hcd.cell 2 _ rfl
            have c3 := hcd.cell 3 _ rfl
            have c4 := hcd.cell 4 _ rfl
            have c5 := hcd.cell 5 _ rfl
            have c6 := hcd.cell 6 _ rfl
            have c7 := hcd.cell 7 _ rfl
            have c8 := hcd.cell 8 _ rfl
            have clt := hcd.lt
            clear hcd
            go_wp2_with fail
            clear c0 c1 c2 c3 c4 c5 c6 c7 c8 clt
            have F3 := fails_any (.mk kk mn mx ⟨⟨kd, false, 0, [], []⟩, .slice none 0 0⟩ (.slice A2 n2 cq) ts) (deepNd (D - 1)) 22 u4 (HDD.out.held.now.later (bstep (bstep (bstep hu1 hu2) hu3) hu4)) (by rw [subsT_len10, HDD.out.nd]; exact Nat.le_trans HL3.out (by decide)) (HG5.out.later (bstep (bstep (bstep (bstep (bstep HB6.out HDD.out.bel) hu1) hu2) hu3) hu4)) HDD.out.nd HE3.out
            simp only [Tr.row, strOf] at F3
            refine (F3).mono ?_
            rintro r u5 ⟨rfl, hu5⟩
            clear F3
            have hcd := HDD.out.blk.later (bstep (bstep (bstep (bstep hu1 hu2) hu3) hu4) hu5)
            have c0 := hcd.cell 0 _ rfl
            have c1 := hcd.cell 1 _ rfl
            have c2 := hcd.cell 2 _ rfl
            have c3 := hcd.cell 3 _ rfl
            have c4 := hcd.cell 4 _ rfl
            have c5 := hcd.cell 5 _ rfl
            have c6 := hcd.cell 6 _ rfl
            have c7 := hcd.cell 7 _ rfl
            have c8 := hcd.cell 8 _ rfl
            have clt := hcd.lt
            clear hcd
            go_wp2_with fail
            clear c0 c1 c2 c3 c4 c5 c6 c7 c8 clt
            have F3 := fails_any (.mk kk mn mx ⟨⟨kd, false, 0, [], []⟩, .slice none 0 0⟩ (.slice A2 n2 cq) ts) (deepNd (D - 1)) 22 u5 (HDD.out.held.now.later (bstep (bstep (bstep (bstep hu1 hu2) hu3) hu4) hu5)) (by rw [subsT_len10, HDD.out.nd]; exact Nat.le_trans HL3.out (by decide)) (HG5.out.later (bstep (bstep (bstep (bstep (bstep (bstep HB6.out HDD.out.bel) hu1) hu2) hu3) hu4) hu5)) HDD.out.nd HE3.out
            simp only [Tr.row, strOf] at F3
            refine (F3).mono ?_
            rintro r u6 ⟨rfl, hu6⟩
            clear F3
            go_wp2
            go_ret
            exact ⟨by first | rfl | (show Ending.returned (.bool (!decide ((D : Int) ≤ 6))) = _; rw [decide_eq_false (by omega)]; rfl) | (show Ending.returned (.bool (!decide ((N : Int) ≤ 8))) = _; rw [decide_eq_false (p := (N : Int) ≤ 8) (by omega)]; rfl) | (show Ending.returned (.bool (!decide ((N : Int) ≤ 8) && !decide ((D : Int) ≤ 6))) = _; rw [decide_eq_false (p := (N : Int) ≤ 8) (by omega), decide_eq_false (p := (D : Int) ≤ 6) (by omega)]; rfl) | (show Ending.returned (.bool (!decide ((N : Int) ≤ 12) && !decide ((N : Int) ≤ 8))) = _; rw [decide_eq_false (p := (N : Int) ≤ 12) (by omega), decide_eq_false (p := (N : Int) ≤ 8) (by omega)]; rfl) | (show Ending.returned (.bool (!decide ((N : Int) ≤ 12) && !decide ((N : Int) ≤ 8) && !decide ((D : Int) ≤ 6))) = _; rw [decide_eq_false (p := (N : Int) ≤ 12) (by omega), decide_eq_false (p := (N : Int) ≤ 8) (by omega), decide_eq_false (p := (D : Int) ≤ 6) (by omega)]; rfl), bstep HB0.out (bstep (bstep (bstep (bstep (bstep (bstep (bstep (bstep HB5.out HB6.out) HDD.out.bel) hu1) hu2) hu3) hu4) hu5) hu6)⟩
end Go.Proofs.YthiacfmedcfcjaaDoor
