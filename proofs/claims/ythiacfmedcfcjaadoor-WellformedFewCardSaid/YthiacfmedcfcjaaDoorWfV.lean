/- Walk: WellformedFew. Made by program (wip/tools/gen_wfV.py). -/
import Derived.Test.YthiacfmedcfcjaaDoorWfU
import Derived.Test.YthiacfmedcfcjaaDoorKMa
import Derived.Test.YthiacfmedcfcjaaDoorAppRun
import Derived.Deep.LoopGhost
namespace Go.Proofs.YthiacfmedcfcjaaDoor
open Go.RowKit Go.Shelf Go.Maps
open A8 W10
attribute [local go_sem] Oper.semAt_some

theorem infoNd10 : (Tryd.prog.info? 30).map (fun i => (i.zero, i.size, i.bytes)) = some (some (.agg #[.int .i64 0, .int .i64 0, .int .i64 0, .int .i64 0, .bool false, .int .u64 0, .slice none 0 0, .string ⟨#[]⟩, .slice none 0 0]), 9, 112) := by kernel_rfl
theorem subsT_len10 (T : Tr) : (subsT T).length = nodesN T.nd := by
  refine Tr.ind (P := fun T => (subsT T).length = nodesN T.nd) (fun k mn mx g sk ks ih => ?_) T
  have hl : ∀ l : List Tr, (∀ t ∈ l, (subsT t).length = nodesN t.nd) → (l.flatMap subsT).length = nodesL (l.map Tr.nd) := by
    intro l
    induction l with
    | nil => intro _; rfl
    | cons x xs ih2 =>
      intro h
      rw [List.flatMap_cons, List.map_cons, nodesL, List.length_append, h x List.mem_cons_self, ih2 fun y hy => h y (List.mem_cons_of_mem _ hy)]
  rw [subsT, subsTL_flat, nd_mk, nodesN, List.length_cons, hl ks ih]
  omega
/-- The deep node lies in its box, and stays whatever becomes of the box. -/
structure DpW (w6 : World) (k : Nat) (kk mn mx kd : Int) (v : Value) (ts : List Tr) (wv : World) : Prop where
  bel : Below w6.heap.size w6 wv
  held : Held w6.heap.size wv (.mk kk mn mx ⟨⟨kd, false, 0, [], []⟩, .slice none 0 0⟩ v ts)
  blk : Blk wv w6.heap.size [.int .i64 kk, .int .i64 mn, .int .i64 mx, .int .i64 kd, .bool false, .int .u64 0, .slice none 0 0, .string ⟨#[]⟩, v]
  nd : (Tr.mk kk mn mx ⟨⟨kd, false, 0, [], []⟩, .slice none 0 0⟩ v ts).nd = deepNd (k - 1)
theorem DpW.one {w6 W : World} (h : Blk W w6.heap.size [.int .i64 1, .int .i64 1, .int .i64 1, .int .i64 0, .bool false, .int .u64 0, .slice none 0 0, .string ⟨#[]⟩, .slice none 0 0]) (hb : Below w6.heap.size w6 W) : DpW w6 1 1 1 1 0 (.slice none 0 0) [] W :=
  ⟨hb, Held.leaf _ _ 0 (by omega), h, leafX_nd 1 1 1 0 []⟩
theorem DpW.next {w6 wv V ws : World} {k : Nat} {kk mn mx kd : Int} {v : Value} {ts : List Tr} (h : DpW w6 k kk mn mx kd v ts wv) (h1 : 1 ≤ k) (hV : Below wv.heap.size wv V) {us : List Value}
    (hus : us = [Tr.mk kk mn mx ⟨⟨kd, false, 0, [], []⟩, .slice none 0 0⟩ v ts, leafX 1 1 1 1 []].flatMap Tr.row) (hs : Below (V.alloc (.cells us.toArray 30)).heap.size (V.alloc (.cells us.toArray 30)) ws) :
    DpW w6 (k + 1) 3 0 0 0 (.slice (some ⟨V.heap.size, 0, none⟩) 2 2) [Tr.mk kk mn mx ⟨⟨kd, false, 0, [], []⟩, .slice none 0 0⟩ v ts, leafX 1 1 1 1 []]
      (put9 ws w6.heap.size (.int .i64 3) (.int .i64 0) (.int .i64 0) (.int .i64 0) (.bool false) (.int .u64 0) (.slice none 0 0) (.string ⟨#[]⟩) (.slice (some ⟨V.heap.size, 0, none⟩) 2 2)) := by
  subst hus
  have hlt := h.blk.lt
  have hl2 := hV.size
  have h2 := (h.held.to (below_g hV _)).two (Held.leaf w6.heap.size V 1 (by omega)) (by omega)
  have hb := ((h.blk.later hV).alloc (.cells ([Tr.mk kk mn mx ⟨⟨kd, false, 0, [], []⟩, .slice none 0 0⟩ v ts, leafX 1 1 1 1 []].flatMap Tr.row).toArray 30)).later hs
  refine ⟨put9_below (bstep (bstep (bstep h.bel hV) (b1 _ _)) hs) (Nat.le_refl _) _ _ _ _ _ _ _ _ _, (h2.to (below_g hs _)).to (put9_grown _ _ _ _ _ _ _ _ _ _ _), put9_blk hb _ _ _ _ _ _ _ _ _, ?_⟩
  show (kidsX 3 _ _).nd = _
  obtain ⟨j, rfl⟩ : ∃ j, k = j + 1 := ⟨k - 1, by omega⟩
  rw [kidsX_nd, List.map_cons, List.map_cons, List.map_nil, h.nd, leafX_nd]
  rfl
set_option maxRecDepth 100000 in
set_option maxHeartbeats 32000000 in
theorem fewly_one (a d : Int) (n e : Nat) (w : World) (hG : SG w) (hn : a % 14 = (n : Int)) (he : d % 9 = (e : Int)) (hr : n = 0) (_hn14 : n ≤ 13) (_he9 : e ≤ 8) : Calls Tryd.prog 5 #[.int .i64 a, .int .i64 d] w fun r w' => r = .returned (.bool true) ∧ Below w.heap.size w w' := by
  have letterL := letter_any
  have seqL := seq_any
  have altL := alt_any
  simp only [kidsX, leafX, Tr.row, strOf] at letterL seqL altL
  have hK := wknown_any w hG
  have hMa := fun w => mod_any a 14 w (by omega) (by omega)
  have hMd := fun w => mod_any d 9 w (by omega) (by omega)
  simp only [hn] at hMa
  simp only [he] at hMd
  obtain ⟨i0, hi0, hz0, hz1, hz2⟩ := info_parts infoNd10
  obtain ⟨N, hN⟩ : ∃ N, N = n + 1 := ⟨_, rfl⟩
  obtain ⟨D, hD⟩ : ∃ D, D = e + 1 := ⟨_, rfl⟩
  have hwn : IntKind.i64.wrap (1 + (n : Int)) = (N : Int) := (IntWalk.i64_in _ ⟨by omega, by omega⟩).trans (by omega)
  have hwe : IntKind.i64.wrap (1 + (e : Int)) = (D : Int) := (IntWalk.i64_in _ ⟨by omega, by omega⟩).trans (by omega)
  have hN14 : N ≤ 14 := by omega
  have hN1 : 1 ≤ N := by omega
  have hD9 : D ≤ 9 := by omega
  have hD1 : 1 ≤ D := by omega
  have HN := Lib.hid hN
  have HD := Lib.hid hD
  have HNr := Lib.hid hr
  clear hN hD hr hn he _hn14 _he9
  go_enter Tryd.func5, Tryd.ntmps5
  go_upto_region 2 with (go_at_call 3; refine hK.mono ?_; rintro r w1 ⟨rfl, hb1⟩)
  have hG1 := Lib.hid (hG.later hb1)
  have HB0 := Lib.hid hb1
  clear hK hG hb1
  go_wp2_with fail
  refine (hMa _).mono ?_
  rintro r w2 ⟨rfl, rfl⟩
  clear hMa
  go_wp2_with fail
  refine (hMd _).mono ?_
  rintro r w3 ⟨rfl, rfl⟩
  clear hMd
  go_wp2
  clear hwn hwe
  go_loopg [6, 7] N (fun g kv iv wr => ∃ (k : Nat) (A : Option Addr) (c : Nat), k ≤ N ∧ g = N - k ∧ kv = .slice A k c ∧ iv = .int .i64 (k : Int) ∧ Hid (wr.ownsRow w1.heap.size 30 9 (.slice A k c) k ((ltL k).flatMap Tr.row)) ∧ Hid (Below w1.heap.size w1 wr))
  case atStart => exact ⟨0, none, 0, by omega, rfl, rfl, rfl, Lib.hid (World.ownsRow_nil _ _ _ _), Lib.hid (Below.refl _ _)⟩
  case round =>
    obtain ⟨k, A, c, hk, hg, rfl, rfl, hO, hB⟩ := hrel
    have hk0 : (0 : Int) ≤ (k : Int) := by omega
    by_cases hlt : k < N
    · have g1 : (k : Int) < (N : Int) := by omega
      have hwk : IntKind.i64.wrap ((k : Int) + 1) = (k : Int) + 1 := IntWalk.i64_in _ ⟨by omega, by omega⟩
      have hl := fun w => letter_any ((k : Int) % 26) w
      simp only [leafX, Tr.row, strOf] at hl
      have hrow : (ltX k).row = [.int .i64 1, .int .i64 1, .int .i64 1, .int .i64 ((k : Int) % 26), .bool false, .int .u64 0, .slice none 0 0, .string ⟨#[]⟩, .slice none 0 0] := by unfold ltX leafX; simp only [Tr.row, strOf, Int.natCast_emod]; rfl
      have HR := Lib.hid hrow
      clear hrow letterL seqL altL
      go_wp2_with fail
      refine (hl _).mono ?_
      rintro r w2 ⟨rfl, hb2⟩
      have hO2 := own_later hO.out (bstep hb2 (b1 w2 (.cells #[.int .i64 1, .int .i64 1, .int .i64 1, .int .i64 ((k : Int) % 26), .bool false, .int .u64 0, .slice none 0 0, .string ⟨#[]⟩, .slice none 0 0] 30)))
      have hsl : Sl (w2.alloc (.cells #[.int .i64 1, .int .i64 1, .int .i64 1, .int .i64 ((k : Int) % 26), .bool false, .int .u64 0, .slice none 0 0, .string ⟨#[]⟩, .slice none 0 0] 30)) 9 1 (.slice (some ⟨w2.heap.size, 0, none⟩) 1 1) (ltX k).row := by rw [HR.out]; exact Sl.lit (Blk.is _ rfl) 9 1 rfl (by decide)
      have hon : ∀ u ∈ (ltX k).row, u.oneCell' = true := by rw [HR.out]; simp only [List.mem_cons, List.not_mem_nil, or_false]; rintro u (rfl | rfl | rfl | rfl | rfl | rfl | rfl | rfl | rfl) <;> rfl
      have hb3 := bstep (bstep hB.out hb2) (b1 w2 (.cells #[.int .i64 1, .int .i64 1, .int .i64 1, .int .i64 ((k : Int) % 26), .bool false, .int .u64 0, .slice none 0 0, .string ⟨#[]⟩, .slice none 0 0] 30))
      obtain ⟨A3, c3, w4, hrun, hown, hgrow⟩ := run_append_any (P := Tryd.prog) (w2.alloc (.cells #[.int .i64 1, .int .i64 1, .int .i64 1, .int .i64 ((k : Int) % 26), .bool false, .int .u64 0, .slice none 0 0, .string ⟨#[]⟩, .slice none 0 0] 30)) w1.heap.size 28 28 30 i0 (.agg #[.int .i64 0, .int .i64 0, .int .i64 0, .int .i64 0, .bool false, .int .u64 0, .slice none 0 0, .string ⟨#[]⟩, .slice none 0 0]) 9 112 Tryd.underlying28 hi0 hz0 hz1 hz2 rfl (by decide) _ k ((ltL k).flatMap Tr.row) hO2 _ 1 (ltX k).row hsl hon (by unfold maxLen; omega) (by omega) hb3.size (k + 1) ((ltL (k + 1)).flatMap Tr.row) rfl (by rw [ltL_succ, List.flatMap_append]; simp)
      have HOW := Lib.hid hown
      have HBW := Lib.hid (hb3.grown hgrow hb3.size (fun j e => (hO2.lt j e).1))
      clear hO2 hown hgrow hb2 hb3 hsl hon hl hO hB HR
      go_wp2_with (at_builtin; refine wpList_append_run rfl _ _ _ rfl rfl rfl hrun ?_)
      go_roundg (N - (k + 1))
      case rel => exact ⟨k + 1, A3, c3, by omega, rfl, rfl, by go_num, HOW, HBW⟩
      case measure => omega
    · have g1 : ¬ (k : Int) < (N : Int) := by omega
      obtain rfl : N = k := by omega
      clear hk hg hk0 hlt
      rename World => wk
      have hSl := Sl.of_own hO.out
      have hBr := hB.out
      have hGr := hG1.out.later hBr
      have hbx : Blk (wk.alloc (.cells #[.int .i64 0, .int .i64 0, .int .i64 0, .int .i64 0, .bool false, .int .u64 0, .slice none 0 0, .string ⟨#[]⟩, .slice none 0 0] 30)) wk.heap.size [.int .i64 0, .int .i64 0, .int .i64 0, .int .i64 0, .bool false, .int .u64 0, .slice none 0 0, .string ⟨#[]⟩, .slice none 0 0] := Blk.new wk [.int .i64 0, .int .i64 0, .int .i64 0, .int .i64 0, .bool false, .int .u64 0, .slice none 0 0, .string ⟨#[]⟩, .slice none 0 0] 30
      have hbo := hO.out
      clear hO hB hG1
      have HS := Lib.hid hSl
      have HGr := Lib.hid hGr
      have HBr := Lib.hid hBr
      clear hSl hGr hBr
      have hN1e : N = 1 := by have := HNr.out; have := HN.out; omega
      have hn2 : ((N : Int) == 1) = true := by simp [hN1e]
      have hn3 : decide ((N : Int) = 1) = true := by simp [hN1e]
      have hn0 : (0 : Int) < (N : Int) := by omega
      obtain ⟨-, -, A', cap', hA, -, -, hcell⟩ := HS.out.later (b1 wk (.cells #[.int .i64 0, .int .i64 0, .int .i64 0, .int .i64 0, .bool false, .int .u64 0, .slice none 0 0, .string ⟨#[]⟩, .slice none 0 0] 30))
      obtain ⟨g, cap, hv, -⟩ := hbo.form (by omega)
      cases hA
      cases hv
      have hus : (ltL N).flatMap Tr.row = [.int .i64 1, .int .i64 1, .int .i64 1, .int .i64 0, .bool false, .int .u64 0, .slice none 0 0, .string ⟨#[]⟩, .slice none 0 0] := by rw [hN1e]; rfl
      rw [hus] at hcell
      have hat : ∀ (j : Nat) (u : Value), ([.int .i64 1, .int .i64 1, .int .i64 1, .int .i64 0, .bool false, .int .u64 0, .slice none 0 0, .string ⟨#[]⟩, .slice none 0 0] : List Value)[j]? = some u → (wk.alloc (.cells #[.int .i64 0, .int .i64 0, .int .i64 0, .int .i64 0, .bool false, .int .u64 0, .slice none 0 0, .string ⟨#[]⟩, .slice none 0 0] 30)).cell? ⟨g, j, none⟩ = some u := by intro j u hu; obtain ⟨a, ha, -, hc⟩ := hcell j u hu; cases ha; rw [← hc]; congr 1; unfold Addr.add; split <;> simp_all
      have y0 := hat 0 _ rfl
      have y1 := hat 1 _ rfl
      have y2 := hat 2 _ rfl
      have y3 := hat 3 _ rfl
      have y4 := hat 4 _ rfl
      have y5 := hat 5 _ rfl
      have y6 := hat 6 _ rfl
      have y7 := hat 7 _ rfl
      have y8 := hat 8 _ rfl
      have x0 := hbx.cell 0 _ rfl
      have xf0 := hbx.fr 0 _ rfl
      have x1 := hbx.cell 1 _ rfl
      have xf1 := hbx.fr 1 _ rfl
      have x2 := hbx.cell 2 _ rfl
      have xf2 := hbx.fr 2 _ rfl
      have x3 := hbx.cell 3 _ rfl
      have xf3 := hbx.fr 3 _ rfl
      have x4 := hbx.cell 4 _ rfl
      have xf4 := hbx.fr 4 _ rfl
      have x5 := hbx.cell 5 _ rfl
      have xf5 := hbx.fr 5 _ rfl
      have x6 := hbx.cell 6 _ rfl
      have xf6 := hbx.fr 6 _ rfl
      have x7 := hbx.cell 7 _ rfl
      have xf7 := hbx.fr 7 _ rfl
      have x8 := hbx.cell 8 _ rfl
      have xf8 := hbx.fr 8 _ rfl
      have xlt := hbx.lt
      clear hat hcell hus hN1e hbo
      go_upto_region 14 with fail
      refine named_wp ?_
      intro W5 hW5
      clear hn2 hn3 hn0 xlt x0 xf0 y0 x1 xf1 y1 x2 xf2 y2 x3 xf3 y3 x4 xf4 y4 x5 xf5 y5 x6 xf6 y6 x7 xf7 y7 x8 xf8 y8
      have hk5 : Blk W5 wk.heap.size [.int .i64 1, .int .i64 1, .int .i64 1, .int .i64 0, .bool false, .int .u64 0, .slice none 0 0, .string ⟨#[]⟩, .slice none 0 0] := by rw [hW5]; exact Blk.new wk [.int .i64 1, .int .i64 1, .int .i64 1, .int .i64 0, .bool false, .int .u64 0, .slice none 0 0, .string ⟨#[]⟩, .slice none 0 0] 30
      have hr5 : Below wk.heap.size wk W5 := by rw [hW5]; exact b1 _ _
      have ht5 : TrW W5 (leafX 1 1 1 0 []) := (Held.leaf 0 W5 0 (by omega)).now
      have hwn : (leafX 1 1 1 0 []).nd = wideNd N := by have := HNr.out; have := HN.out; rw [leafX_nd, wideNd, if_pos (by omega)]
      clear hW5 hbx
      have HS5 := Lib.hid (HS.out.later hr5)
      have HB5 := Lib.hid (bstep HBr.out hr5)
      have HG5 := Lib.hid (HGr.out.later hr5)
      have HK5 := Lib.hid hk5
      have HT5 := Lib.hid ht5
      have HWN := Lib.hid hwn
      clear HS HBr HGr hr5 hk5 ht5 hwn
      go_wp2_with fail
      refine (letterL 0 _).mono ?_
      rintro r w6 ⟨rfl, hb6⟩
      go_upto_region 15 with fail
      refine named_wp ?_
      intro W7 hW7
      have hk7 : Blk W7 w6.heap.size [.int .i64 1, .int .i64 1, .int .i64 1, .int .i64 0, .bool false, .int .u64 0, .slice none 0 0, .string ⟨#[]⟩, .slice none 0 0] := by rw [hW7]; exact Blk.new w6 [.int .i64 1, .int .i64 1, .int .i64 1, .int .i64 0, .bool false, .int .u64 0, .slice none 0 0, .string ⟨#[]⟩, .slice none 0 0] 30
      have hb7 : Below w6.heap.size w6 W7 := by rw [hW7]; exact b1 _ _
      have HB6 := Lib.hid hb6
      clear hW7 hb6
      have HD7 := Lib.hid (DpW.one hk7 hb7)
      clear hk7 hb7
      go_wp2
      go_loopg [10] (D - 1) (fun g iv wv => ∃ (k : Nat) (kk mn mx kd : Int) (A2 : Option Addr) (n2 cq : Nat) (ts : List Tr), 1 ≤ k ∧ k ≤ D ∧ g = D - k ∧ iv = .int .i64 (k : Int) ∧ Hid (DpW w6 k kk mn mx kd (.slice A2 n2 cq) ts wv))
      case atStart => exact ⟨1, 1, 1, 1, 0, none, 0, 0, [], by omega, by omega, rfl, rfl, HD7⟩
      case round =>
        clear HD7
        obtain ⟨k, kk, mn, mx, kd, A2, n2, cq, ts, h1k, hk, hg, rfl, hD⟩ := hrel
        by_cases hlt : k < D
        · have g2 : (k : Int) < (D : Int) := by omega
          have hwk : IntKind.i64.wrap ((k : Int) + 1) = (k : Int) + 1 := IntWalk.i64_in _ ⟨by omega, by omega⟩
          have hbk := hD.out.blk
          have c0 := hbk.cell 0 _ rfl
          have c1 := hbk.cell 1 _ rfl
          have c2 := hbk.cell 2 _ rfl
          have c3 := hbk.cell 3 _ rfl
          have c4 := hbk.cell 4 _ rfl
          have c5 := hbk.cell 5 _ rfl
          have c6 := hbk.cell 6 _ rfl
          have c7 := hbk.cell 7 _ rfl
          have c8 := hbk.cell 8 _ rfl
          have clt := hbk.lt
          go_wp2
          go_region_with (first | (go_at_call 9; refine (letterL 1 _).mono ?_; rintro r wl ⟨rfl, hbl⟩; have hl2 := hbk.drew.later hbl; have y0 := hl2.cell 0 _ rfl; have y1 := hl2.cell 1 _ rfl; have y2 := hl2.cell 2 _ rfl; have y3 := hl2.cell 3 _ rfl; have y4 := hl2.cell 4 _ rfl; have y5 := hl2.cell 5 _ rfl; have y6 := hl2.cell 6 _ rfl; have y7 := hl2.cell 7 _ rfl; have y8 := hl2.cell 8 _ rfl; have ylt := hl2.lt) | (go_at_call 8; refine (seqL (some ⟨wl.heap.size, 0, none⟩) 2 2 [] _).mono ?_; rintro r ws ⟨rfl, hbs⟩; have hl3 := (hl2.alloc _).later hbs; have z0 := hl3.cell 0 _ rfl; have zf0 := hl3.fr 0 _ rfl; have z1 := hl3.cell 1 _ rfl; have zf1 := hl3.fr 1 _ rfl; have z2 := hl3.cell 2 _ rfl; have zf2 := hl3.fr 2 _ rfl; have z3 := hl3.cell 3 _ rfl; have zf3 := hl3.fr 3 _ rfl; have z4 := hl3.cell 4 _ rfl; have zf4 := hl3.fr 4 _ rfl; have z5 := hl3.cell 5 _ rfl; have zf5 := hl3.fr 5 _ rfl; have z6 := hl3.cell 6 _ rfl; have zf6 := hl3.fr 6 _ rfl; have z7 := hl3.cell 7 _ rfl; have zf7 := hl3.fr 7 _ rfl; have z8 := hl3.cell 8 _ rfl; have zf8 := hl3.fr 8 _ rfl; have zlt := hl3.lt))
          all_goals (go_wp2; go_roundg (D - (k + 1)); (case rel => exact ⟨k + 1, 3, 0, 0, 0, some ⟨wl.heap.size, 0, none⟩, 2, 2, [Tr.mk kk mn mx ⟨⟨kd, false, 0, [], []⟩, .slice none 0 0⟩ (.slice A2 n2 cq) ts, leafX 1 1 1 1 []], by omega, by omega, rfl, by go_num, Lib.hid (hD.out.next h1k (bstep (Below.refl _ _).drew hbl) rfl hbs)⟩); (case measure => omega))
        · have g2 : ¬ (k : Int) < (D : Int) := by omega
          obtain rfl : D = k := by omega
          clear hk hg hlt h1k
          have hN := HN.out
          have hr := HNr.out
          have hDe := HD.out
          have h12 : (N : Int) ≤ 12 := by omega
          have e1b : ((N : Int) == 1) = true := by simp; omega
          have e1d : decide ((N : Int) = 1) = true := by simp; omega
          obtain ⟨l1, l2, -⟩ := few_len N (by omega)
          have l3 := (few_len (D - 1) (by omega)).2.2
          have hE1 : wfE ⟨wideNd N, 5, [], []⟩ = 0 := by rw [few_wide N (by omega) hN1]; exact if_pos (by omega)
          obtain ⟨E2, hE2⟩ : ∃ E2, wfE ⟨flatNd N, 5, [], []⟩ = E2 := ⟨_, rfl⟩
          have HE2 := Lib.hid hE2
          have HE1 := Lib.hid hE1
          have HL1 := Lib.hid l1
          have HL2 := Lib.hid l2
          have HL3 := Lib.hid l3
          have HDD := Lib.hid hD.out
          clear hE1 hE2 l1 l2 l3 hD hN hr
          rcases Decidable.em ((D : Int) ≤ 6) with h6 | h6
          · have hE3 : wfE ⟨deepNd (D - 1), 5, [], []⟩ = 0 := by rw [few_deep (D - 1) (by omega)]; exact if_pos (by omega)
            have HE3 := Lib.hid hE3
            clear hE3 hDe hN14 hN1 hD9 hD1
            go_wp2_with fail
            refine (altL _ _ _ (ltL N) _).mono ?_
            rintro r u1 ⟨rfl, hu1⟩
            go_wp2_with fail
            have F1 := fails_any (kidsX 4 _ (ltL N)) (flatNd N) E2 u1 (kidsX_tr (by unfold okV; omega) (by rw [ltL_len]; exact HS5.out.later (bstep (bstep HB6.out HDD.out.bel) hu1)) ltL_tr) (by rw [subsT_len10, kidsX_nd, ltL_nd]; exact Nat.le_trans HL2.out (by decide)) (HG5.out.later (bstep (bstep HB6.out HDD.out.bel) hu1)) (by rw [kidsX_nd, ltL_nd]; rfl) HE2.out
            simp only [kidsX, Tr.row, strOf] at F1
            refine (F1).mono ?_
            rintro r u2 ⟨rfl, hu2⟩
            clear F1
            have hcw := HK5.out.later (bstep (bstep (bstep HB6.out HDD.out.bel) hu1) hu2)
            have c0 := hcw.cell 0 _ rfl
            have c1 := hcw.cell 1 _ rfl
            have c2 := hcw.cell 2 _ rfl
            have c3 := hcw.cell 3 _ rfl
            have c4 := hcw.cell 4 _ rfl
            have c5 := hcw.cell 5 _ rfl
            have c6 := hcw.cell 6 _ rfl
            have c7 := hcw.cell 7 _ rfl
            have c8 := hcw.cell 8 _ rfl
            have clt := hcw.lt
            clear hcw
            go_wp2_with fail
            clear c0 c1 c2 c3 c4 c5 c6 c7 c8 clt
            have F2 := fails_any (leafX 1 1 1 0 []) (wideNd N) 0 u2 (HT5.out.later (bstep (bstep (bstep HB6.out HDD.out.bel) hu1) hu2)) (by rw [subsT_len10, HWN.out]; exact Nat.le_trans HL1.out (by decide)) (HG5.out.later (bstep (bstep (bstep HB6.out HDD.out.bel) hu1) hu2)) HWN.out HE1.out
            simp only [leafX, Tr.row, strOf] at F2
            refine (F2).mono ?_
            rintro r u3 ⟨rfl, hu3⟩
            clear F2
            have hcd := HDD.out.blk.later (bstep (bstep hu1 hu2) hu3)
            have c0 := hcd.cell 0 _ rfl
            have c1 := hcd.cell 1 _ rfl
            have c2 := hcd.cell 2 _ rfl
            have c3 := hcd.cell 3 _ rfl
            have c4 := hcd.cell 4 _ rfl
            have c5 := hcd.cell 5 _ rfl
            have c6 := hcd.cell 6 _ rfl
            have c7 := hcd.cell 7 _ rfl
            have c8 := hcd.cell 8 _ rfl
            have clt := hcd.lt
            clear hcd
            go_wp2_with fail
            clear c0 c1 c2 c3 c4 c5 c6 c7 c8 clt
            have F3 := fails_any (.mk kk mn mx ⟨⟨kd, false, 0, [], []⟩, .slice none 0 0⟩ (.slice A2 n2 cq) ts) (deepNd (D - 1)) 0 u3 (HDD.out.held.now.later (bstep (bstep hu1 hu2) hu3)) (by rw [subsT_len10, HDD.out.nd]; exact Nat.le_trans HL3.out (by decide)) (HG5.out.later (bstep (bstep (bstep (bstep HB6.out HDD.out.bel) hu1) hu2) hu3)) HDD.out.nd HE3.out
            simp only [Tr.row, strOf] at F3
            refine (F3).mono ?_
            rintro r u4 ⟨rfl, hu4⟩
            clear F3
            go_wp2
            go_ret
            exact ⟨by first | rfl | (show Ending.returned (.bool (!decide ((D : Int) ≤ 6))) = _; rw [decide_eq_false (by omega)]; rfl) | (show Ending.returned (.bool (!decide ((N : Int) ≤ 8))) = _; rw [decide_eq_false (p := (N : Int) ≤ 8) (by omega)]; rfl) | (show Ending.returned (.bool (!decide ((N : Int) ≤ 8) && !decide ((D : Int) ≤ 6))) = _; rw [decide_eq_false (p := (N : Int) ≤ 8) (by omega), decide_eq_false (p := (D : Int) ≤ 6) (by omega)]; rfl) | (show Ending.returned (.bool (!decide ((N : Int) ≤ 12) && !decide ((N : Int) ≤ 8))) = _; rw [decide_eq_false (p := (N : Int) ≤ 12) (by omega), decide_eq_false (p := (N : Int) ≤ 8) (by omega)]; rfl) | (show Ending.returned (.bool (!decide ((N : Int) ≤ 12) && !decide ((N : Int) ≤ 8) && !decide ((D : Int) ≤ 6))) = _; rw [decide_eq_false (p := (N : Int) ≤ 12) (by omega), decide_eq_false (p := (N : Int) ≤ 8) (by omega), decide_eq_false (p := (D : Int) ≤ 6) (by omega)]; rfl), bstep HB0.out (bstep (bstep (bstep (bstep (bstep (bstep HB5.out HB6.out) HDD.out.bel) hu1) hu2) hu3) hu4)⟩
          · have hE3 : wfE ⟨deepNd (D - 1), 5, [], []⟩ = 22 := by rw [few_deep (D - 1) (by omega)]; exact if_neg (by omega)
            have HE3 := Lib.hid hE3
            clear hE3 hDe hN14 hN1 hD9 hD1
            go_wp2_with fail
            refine (altL _ _ _ (ltL N) _).mono ?_
            rintro r u1 ⟨rfl, hu1⟩
            go_wp2_with fail
            have F1 := fails_any (kidsX 4 _ (ltL N)) (flatNd N) E2 u1 (kidsX_tr (by unfold okV; omega) (by rw [ltL_len]; exact HS5.out.later (bstep (bstep HB6.out HDD.out.bel) hu1)) ltL_tr) (by rw [subsT_len10, kidsX_nd, ltL_nd]; exact Nat.le_trans HL2.out (by decide)) (HG5.out.later (bstep (bstep HB6.out HDD.out.bel) hu1)) (by rw [kidsX_nd, ltL_nd]; rfl) HE2.out
            simp only [kidsX, Tr.row, strOf] at F1
            refine (F1).mono ?_
            rintro r u2 ⟨rfl, hu2⟩
            clear F1
            have hcw := HK5.out.later (bstep (bstep (bstep HB6.out HDD.out.bel) hu1) hu2)
            have c0 := hcw.cell 0 _ rfl
            have c1 := hcw.cell 1 _ rfl
            have c2 := hcw.cell 2 _ rfl
            have c3 := hcw.cell 3 _ rfl
            have c4 := hcw.cell 4 _ rfl
            have c5 := hcw.cell 5 _ rfl
            have c6 := hcw.cell 6 _ rfl
            have c7 := hcw.cell 7 _ rfl
            have c8 := hcw.cell 8 _ rfl
            have clt := hcw.lt
            clear hcw
            go_wp2_with fail
            clear c0 c1 c2 c3 c4 c5 c6 c7 c8 clt
            have F2 := fails_any (leafX 1 1 1 0 []) (wideNd N) 0 u2 (HT5.out.later (bstep (bstep (bstep HB6.out HDD.out.bel) hu1) hu2)) (by rw [subsT_len10, HWN.out]; exact Nat.le_trans HL1.out (by decide)) (HG5.out.later (bstep (bstep (bstep HB6.out HDD.out.bel) hu1) hu2)) HWN.out HE1.out
            simp only [leafX, Tr.row, strOf] at F2
            refine (F2).mono ?_
            rintro r u3 ⟨rfl, hu3⟩
            clear F2
            have hcd := HDD.out.blk.later (bstep (bstep hu1 hu2) hu3)
            have c0 := hcd.cell 0 _ rfl
            have c1 := hcd.cell 1 _ rfl
            have c2 := hcd.cell 2 _ rfl
            have c3 := hcd.cell 3 _ rfl
            have c4 := hcd.cell 4 _ rfl
            have c5 := hcd.cell 5 _ rfl
            have c6 := hcd.cell 6 _ rfl
            have c7 := hcd.cell 7 _ rfl
            have c8 := hcd.cell 8 _ rfl
            have clt := hcd.lt
            clear hcd
            go_wp2_with fail
            clear c0 c1 c2 c3 c4 c5 c6 c7 c8 clt
            have F3 := fails_any (.mk kk mn mx ⟨⟨kd, false, 0, [], []⟩, .slice none 0 0⟩ (.slice A2 n2 cq) ts) (deepNd (D - 1)) 22 u3 (HDD.out.held.now.later (bstep (bstep hu1 hu2) hu3)) (by rw [subsT_len10, HDD.out.nd]; exact Nat.le_trans HL3.out (by decide)) (HG5.out.later (bstep (bstep (bstep (bstep HB6.out HDD.out.bel) hu1) hu2) hu3)) HDD.out.nd HE3.out
            simp only [Tr.row, strOf] at F3
            refine (F3).mono ?_
            rintro r u4 ⟨rfl, hu4⟩
            clear F3
            have hcd := HDD.out.blk.later (bstep (bstep (bstep hu1 hu2) hu3) hu4)
            have c0 := hcd.cell 0 _ rfl
            have c1 := hcd.cell 1 _ rfl
            have c2 := hcd.cell 2 _ rfl
            have c3 := hcd.cell 3 _ rfl
            have c4 := hcd.cell 4 _ rfl
            have c5 := hcd.cell 5 _ rfl
            have c6 := hcd.cell 6 _ rfl
            have c7 := hcd.cell 7 _ rfl
            have c8 := hcd.cell 8 _ rfl
            have clt := hcd.lt
            clear hcd
            go_wp2_with fail
            clear c0 c1 c2 c3 c4 c5 c6 c7 c8 clt
            have F3 := fails_any (.mk kk mn mx ⟨⟨kd, false, 0, [], []⟩, .slice none 0 0⟩ (.slice A2 n2 cq) ts) (deepNd (D - 1)) 22 u4 (HDD.out.held.now.later (bstep (bstep (bstep hu1 hu2) hu3) hu4)) (by rw [subsT_len10, HDD.out.nd]; exact Nat.le_trans HL3.out (by decide)) (HG5.out.later (bstep (bstep (bstep (bstep (bstep HB6.out HDD.out.bel) hu1) hu2) hu3) hu4)) HDD.out.nd HE3.out
            simp only [Tr.row, strOf] at F3
            refine (F3).mono ?_
            rintro r u5 ⟨rfl, hu5⟩
            clear F3
            go_wp2
            go_ret
            exact ⟨by first | rfl | (show Ending.returned (.bool (!decide ((D : Int) ≤ 6))) = _; rw [decide_eq_false (by omega)]; rfl) | (show Ending.returned (.bool (!decide ((N : Int) ≤ 8))) = _; rw [decide_eq_false (p := (N : Int) ≤ 8) (by omega)]; rfl) | (show Ending.returned (.bool (!decide ((N : Int) ≤ 8) && !decide ((D : Int) ≤ 6))) = _; rw [decide_eq_false (p := (N : Int) ≤ 8) (by omega), decide_eq_false (p := (D : Int) ≤ 6) (by omega)]; rfl) | (show Ending.returned (.bool (!decide ((N : Int) ≤ 12) && !decide ((N : Int) ≤ 8))) = _; rw [decide_eq_false (p := (N : Int) ≤ 12) (by omega), decide_eq_false (p := (N : Int) ≤ 8) (by omega)]; rfl) | (show Ending.returned (.bool (!decide ((N : Int) ≤ 12) && !decide ((N : Int) ≤ 8) && !decide ((D : Int) ≤ 6))) = _; rw [decide_eq_false (p := (N : Int) ≤ 12) (by omega), decide_eq_false (p := (N : Int) ≤ 8) (by omega), decide_eq_false (p := (D : Int) ≤ 6) (by omega)]; rfl), bstep HB0.out (bstep (bstep (bstep (bstep (bstep (bstep (bstep HB5.out HB6.out) HDD.out.bel) hu1) hu2) hu3) hu4) hu5)⟩
set_option maxRecDepth 100000 in
set_option maxHeartbeats 32000000 in
theorem fewly_flat (a d : Int) (n e : Nat) (w : World) (hG : SG w) (hn : a % 14 = (n : Int)) (he : d % 9 = (e : Int)) (hr : 1 ≤ n ∧ n ≤ 7) (_hn14 : n ≤ 13) (_he9 : e ≤ 8) : Calls Tryd.prog 5 #[.int .i64 a, .int .i64 d] w fun r w' => r = .returned (.bool true) ∧ Below w.heap.size w w' := by
  have letterL := letter_any
  have seqL := seq_any
  have altL := alt_any
  simp only [kidsX, leafX, Tr.row, strOf] at letterL seqL altL
  have hK := wknown_any w hG
  have hMa := fun w => mod_any a 14 w (by omega) (by omega)
  have hMd := fun w => mod_any d 9 w (by omega) (by omega)
  simp only [hn] at hMa
  simp only [he] at hMd
  obtain ⟨i0, hi0, hz0, hz1, hz2⟩ := info_parts infoNd10
  obtain ⟨N, hN⟩ : ∃ N, N = n + 1 := ⟨_, rfl⟩
  obtain ⟨D, hD⟩ : ∃ D, D = e + 1 := ⟨_, rfl⟩
  have hwn : IntKind.i64.wrap (1 + (n : Int)) = (N : Int) := (IntWalk.i64_in _ ⟨by omega, by omega⟩).trans (by omega)
  have hwe : IntKind.i64.wrap (1 + (e : Int)) = (D : Int) := (IntWalk.i64_in _ ⟨by omega, by omega⟩).trans (by omega)
  have hN14 : N ≤ 14 := by omega
  have hN1 : 1 ≤ N := by omega
  have hD9 : D ≤ 9 := by omega
  have hD1 : 1 ≤ D := by omega
  have HN := Lib.hid hN
  have HD := Lib.hid hD
  have HNr := Lib.hid hr
  clear hN hD hr hn he _hn14 _he9
  go_enter Tryd.func5, Tryd.ntmps5
  go_upto_region 2 with (go_at_call 3; refine hK.mono ?_; rintro r w1 ⟨rfl, hb1⟩)
  have hG1 := Lib.hid (hG.later hb1)
  have HB0 := Lib.hid hb1
  clear hK hG hb1
  go_wp2_with fail
  refine (hMa _).mono ?_
  rintro r w2 ⟨rfl, rfl⟩
  clear hMa
  go_wp2_with fail
  refine (hMd _).mono ?_
  rintro r w3 ⟨rfl, rfl⟩
  clear hMd
  go_wp2
  clear hwn hwe
  go_loopg [6, 7] N (fun g kv iv wr => ∃ (k : Nat) (A : Option Addr) (c : Nat), k ≤ N ∧ g = N - k ∧ kv = .slice A k c ∧ iv = .int .i64 (k : Int) ∧ Hid (wr.ownsRow w1.heap.size 30 9 (.slice A k c) k ((ltL k).flatMap Tr.row)) ∧ Hid (Below w1.heap.size w1 wr))
  case atStart => exact ⟨0, none, 0, by omega, rfl, rfl, rfl, Lib.hid (World.ownsRow_nil _ _ _ _), Lib.hid (Below.refl _ _)⟩
  case round =>
    obtain ⟨k, A, c, hk, hg, rfl, rfl, hO, hB⟩ := hrel
    have hk0 : (0 : Int) ≤ (k : Int) := by omega
    by_cases hlt : k < N
    · have g1 : (k : Int) < (N : Int) := by omega
      have hwk : IntKind.i64.wrap ((k : Int) + 1) = (k : Int) + 1 := IntWalk.i64_in _ ⟨by omega, by omega⟩
      have hl := fun w => letter_any ((k : Int) % 26) w
      simp only [leafX, Tr.row, strOf] at hl
      have hrow : (ltX k).row = [.int .i64 1, .int .i64 1, .int .i64 1, .int .i64 ((k : Int) % 26), .bool false, .int .u64 0, .slice none 0 0, .string ⟨#[]⟩, .slice none 0 0] := by unfold ltX leafX; simp only [Tr.row, strOf, Int.natCast_emod]; rfl
      have HR := Lib.hid hrow
      clear hrow letterL seqL altL
      go_wp2_with fail
      refine (hl _).mono ?_
      rintro r w2 ⟨rfl, hb2⟩
      have hO2 := own_later hO.out (bstep hb2 (b1 w2 (.cells #[.int .i64 1, .int .i64 1, .int .i64 1, .int .i64 ((k : Int) % 26), .bool false, .int .u64 0, .slice none 0 0, .string ⟨#[]⟩, .slice none 0 0] 30)))
      have hsl : Sl (w2.alloc (.cells #[.int .i64 1, .int .i64 1, .int .i64 1, .int .i64 ((k : Int) % 26), .bool false, .int .u64 0, .slice none 0 0, .string ⟨#[]⟩, .slice none 0 0] 30)) 9 1 (.slice (some ⟨w2.heap.size, 0, none⟩) 1 1) (ltX k).row := by rw [HR.out]; exact Sl.lit (Blk.is _ rfl) 9 1 rfl (by decide)
      have hon : ∀ u ∈ (ltX k).row, u.oneCell' = true := by rw [HR.out]; simp only [List.mem_cons, List.not_mem_nil, or_false]; rintro u (rfl | rfl | rfl | rfl | rfl | rfl | rfl | rfl | rfl) <;> rfl
      have hb3 := bstep (bstep hB.out hb2) (b1 w2 (.cells #[.int .i64 1, .int .i64 1, .int .i64 1, .int .i64 ((k : Int) % 26), .bool false, .int .u64 0, .slice none 0 0, .string ⟨#[]⟩, .slice none 0 0] 30))
      obtain ⟨A3, c3, w4, hrun, hown, hgrow⟩ := run_append_any (P := Tryd.prog) (w2.alloc (.cells #[.int .i64 1, .int .i64 1, .int .i64 1, .int .i64 ((k : Int) % 26), .bool false, .int .u64 0, .slice none 0 0, .string ⟨#[]⟩, .slice none 0 0] 30)) w1.heap.size 28 28 30 i0 (.agg #[.int .i64 0, .int .i64 0, .int .i64 0, .int .i64 0, .bool false, .int .u64 0, .slice none 0 0, .string ⟨#[]⟩, .slice none 0 0]) 9 112 Tryd.underlying28 hi0 hz0 hz1 hz2 rfl (by decide) _ k ((ltL k).flatMap Tr.row) hO2 _ 1 (ltX k).row hsl hon (by unfold maxLen; omega) (by omega) hb3.size (k + 1) ((ltL (k + 1)).flatMap Tr.row) rfl (by rw [ltL_succ, List.flatMap_append]; simp)
      have HOW := Lib.hid hown
      have HBW := Lib.hid (hb3.grown hgrow hb3.size (fun j e => (hO2.lt j e).1))
      clear hO2 hown hgrow hb2 hb3 hsl hon hl hO hB HR
      go_wp2_with (at_builtin; refine wpList_append_run rfl _ _ _ rfl rfl rfl hrun ?_)
      go_roundg (N - (k + 1))
      case rel => exact ⟨k + 1, A3, c3, by omega, rfl, rfl, by go_num, HOW, HBW⟩
      case measure => omega
    · have g1 : ¬ (k : Int) < (N : Int) := by omega
      obtain rfl : N = k := by omega
      clear hk hg hk0 hlt
      rename World => wk
      have hSl := Sl.of_own hO.out
      have hBr := hB.out
      have hGr := hG1.out.later hBr
      have hbx : Blk (wk.alloc (.cells #[.int .i64 0, .int .i64 0, .int .i64 0, .int .i64 0, .bool false, .int .u64 0, .slice none 0 0, .string ⟨#[]⟩, .slice none 0 0] 30)) wk.heap.size [.int .i64 0, .int .i64 0, .int .i64 0, .int .i64 0, .bool false, .int .u64 0, .slice none 0 0, .string ⟨#[]⟩, .slice none 0 0] := Blk.new wk [.int .i64 0, .int .i64 0, .int .i64 0, .int .i64 0, .bool false, .int .u64 0, .slice none 0 0, .string ⟨#[]⟩, .slice none 0 0] 30
      have hbo := hO.out
      clear hO hB hG1
      have HS := Lib.hid hSl
      have HGr := Lib.hid hGr
      have HBr := Lib.hid hBr
      clear hSl hGr hBr
      have hn1 : ¬ (N : Int) = 1 := by have := HNr.out; have := HN.out; omega
      have hn2 : ((N : Int) == 1) = false := by simpa using hn1
      have hn8 : (N : Int) ≤ 8 := by have := HNr.out; have := HN.out; omega
      clear hbo
      go_upto_region 14 with (go_at_call 10; refine (altL A N c (ltL N) _).mono ?_; rintro r w5 ⟨rfl, hb5⟩; have hb := hbx.later hb5; have x0 := hb.cell 0 _ rfl; have xf0 := hb.fr 0 _ rfl; have x1 := hb.cell 1 _ rfl; have xf1 := hb.fr 1 _ rfl; have x2 := hb.cell 2 _ rfl; have xf2 := hb.fr 2 _ rfl; have x3 := hb.cell 3 _ rfl; have xf3 := hb.fr 3 _ rfl; have x4 := hb.cell 4 _ rfl; have xf4 := hb.fr 4 _ rfl; have x5 := hb.cell 5 _ rfl; have xf5 := hb.fr 5 _ rfl; have x6 := hb.cell 6 _ rfl; have xf6 := hb.fr 6 _ rfl; have x7 := hb.cell 7 _ rfl; have xf7 := hb.fr 7 _ rfl; have x8 := hb.cell 8 _ rfl; have xf8 := hb.fr 8 _ rfl; have xlt := hb.lt)
      refine named_wp ?_
      intro W5 hW5
      have hq5 : W5 = put9 w5 wk.heap.size (.int .i64 4) (.int .i64 0) (.int .i64 0) (.int .i64 0) (.bool false) (.int .u64 0) (.slice none 0 0) (.string ⟨#[]⟩) (.slice A N c) := hW5
      clear hW5 x0 xf0 x1 xf1 x2 xf2 x3 xf3 x4 xf4 x5 xf5 x6 xf6 x7 xf7 x8 xf8 xlt
      have hk5 : Blk W5 wk.heap.size [.int .i64 4, .int .i64 0, .int .i64 0, .int .i64 0, .bool false, .int .u64 0, .slice none 0 0, .string ⟨#[]⟩, .slice A N c] := by rw [hq5]; exact put9_blk hb _ _ _ _ _ _ _ _ _
      have hr5 : Below wk.heap.size wk W5 := by rw [hq5]; exact put9_below (bstep (b1 _ _) hb5) (Nat.le_refl _) _ _ _ _ _ _ _ _ _
      have ht5 : TrW W5 (kidsX 4 (.slice A N c) (ltL N)) := kidsX_tr (by unfold okV; omega) (by rw [ltL_len]; exact HS.out.later hr5) ltL_tr
      have hwn : (kidsX 4 (.slice A N c) (ltL N)).nd = wideNd N := by have := HNr.out; have := HN.out; rw [kidsX_nd, ltL_nd, wideNd, if_neg (by omega), if_pos (by omega)]; rfl
      clear hb hb5 hq5 hbx hn1 hn2 hn8
      have HS5 := Lib.hid (HS.out.later hr5)
      have HB5 := Lib.hid (bstep HBr.out hr5)
      have HG5 := Lib.hid (HGr.out.later hr5)
      have HK5 := Lib.hid hk5
      have HT5 := Lib.hid ht5
      have HWN := Lib.hid hwn
      clear HS HBr HGr hr5 hk5 ht5 hwn
      go_wp2_with fail
      refine (letterL 0 _).mono ?_
      rintro r w6 ⟨rfl, hb6⟩
      go_upto_region 15 with fail
      refine named_wp ?_
      intro W7 hW7
      have hk7 : Blk W7 w6.heap.size [.int .i64 1, .int .i64 1, .int .i64 1, .int .i64 0, .bool false, .int .u64 0, .slice none 0 0, .string ⟨#[]⟩, .slice none 0 0] := by rw [hW7]; exact Blk.new w6 [.int .i64 1, .int .i64 1, .int .i64 1, .int .i64 0, .bool false, .int .u64 0, .slice none 0 0, .string ⟨#[]⟩, .slice none 0 0] 30
      have hb7 : Below w6.heap.size w6 W7 := by rw [hW7]; exact b1 _ _
      have HB6 := Lib.hid hb6
      clear hW7 hb6
      have HD7 := Lib.hid (DpW.one hk7 hb7)
      clear hk7 hb7
      go_wp2
      go_loopg [10] (D - 1) (fun g iv wv => ∃ (k : Nat) (kk mn mx kd : Int) (A2 : Option Addr) (n2 cq : Nat) (ts : List Tr), 1 ≤ k ∧ k ≤ D ∧ g = D - k ∧ iv = .int .i64 (k : Int) ∧ Hid (DpW w6 k kk mn mx kd (.slice A2 n2 cq) ts wv))
      case atStart => exact ⟨1, 1, 1, 1, 0, none, 0, 0, [], by omega, by omega, rfl, rfl, HD7⟩
      case round =>
        clear HD7
        obtain ⟨k, kk, mn, mx, kd, A2, n2, cq, ts, h1k, hk, hg, rfl, hD⟩ := hrel
        by_cases hlt : k < D
        · have g2 : (k : Int) < (D : Int) := by omega
          have hwk : IntKind.i64.wrap ((k : Int) + 1) = (k : Int) + 1 := IntWalk.i64_in _ ⟨by omega, by omega⟩
          have hbk := hD.out.blk
          have c0 := hbk.cell 0 _ rfl
          have c1 := hbk.cell 1 _ rfl
          have c2 := hbk.cell 2 _ rfl
          have c3 := hbk.cell 3 _ rfl
          have c4 := hbk.cell 4 _ rfl
          have c5 := hbk.cell 5 _ rfl
          have c6 := hbk.cell 6 _ rfl
          have c7 := hbk.cell 7 _ rfl
          have c8 := hbk.cell 8 _ rfl
          have clt := hbk.lt
          go_wp2
          go_region_with (first | (go_at_call 9; refine (letterL 1 _).mono ?_; rintro r wl ⟨rfl, hbl⟩; have hl2 := hbk.drew.later hbl; have y0 := hl2.cell 0 _ rfl; have y1 := hl2.cell 1 _ rfl; have y2 := hl2.cell 2 _ rfl; have y3 := hl2.cell 3 _ rfl; have y4 := hl2.cell 4 _ rfl; have y5 := hl2.cell 5 _ rfl; have y6 := hl2.cell 6 _ rfl; have y7 := hl2.cell 7 _ rfl; have y8 := hl2.cell 8 _ rfl; have ylt := hl2.lt) | (go_at_call 8; refine (seqL (some ⟨wl.heap.size, 0, none⟩) 2 2 [] _).mono ?_; rintro r ws ⟨rfl, hbs⟩; have hl3 := (hl2.alloc _).later hbs; have z0 := hl3.cell 0 _ rfl; have zf0 := hl3.fr 0 _ rfl; have z1 := hl3.cell 1 _ rfl; have zf1 := hl3.fr 1 _ rfl; have z2 := hl3.cell 2 _ rfl; have zf2 := hl3.fr 2 _ rfl; have z3 := hl3.cell 3 _ rfl; have zf3 := hl3.fr 3 _ rfl; have z4 := hl3.cell 4 _ rfl; have zf4 := hl3.fr 4 _ rfl; have z5 := hl3.cell 5 _ rfl; have zf5 := hl3.fr 5 _ rfl; have z6 := hl3.cell 6 _ rfl; have zf6 := hl3.fr 6 _ rfl; have z7 := hl3.cell 7 _ rfl; have zf7 := hl3.fr 7 _ rfl; have z8 := hl3.cell 8 _ rfl; have zf8 := hl3.fr 8 _ rfl; have zlt := hl3.lt))
          all_goals (go_wp2; go_roundg (D - (k + 1)); (case rel => exact ⟨k + 1, 3, 0, 0, 0, some ⟨wl.heap.size, 0, none⟩, 2, 2, [Tr.mk kk mn mx ⟨⟨kd, false, 0, [], []⟩, .slice none 0 0⟩ (.slice A2 n2 cq) ts, leafX 1 1 1 1 []], by omega, by omega, rfl, by go_num, Lib.hid (hD.out.next h1k (bstep (Below.refl _ _).drew hbl) rfl hbs)⟩); (case measure => omega))
        · have g2 : ¬ (k : Int) < (D : Int) := by omega
          obtain rfl : D = k := by omega
          clear hk hg hlt h1k
          have hN := HN.out
          have hr := HNr.out
          have hDe := HD.out
          have h12 : (N : Int) ≤ 12 := by omega
          have e1 : ¬ (N : Int) = 1 := by omega
          have e1b : ((N : Int) == 1) = false := by simpa using e1
          have e8 : (N : Int) ≤ 8 := by omega
          obtain ⟨l1, l2, -⟩ := few_len N (by omega)
          have l3 := (few_len (D - 1) (by omega)).2.2
          have hE1 : wfE ⟨wideNd N, 5, [], []⟩ = 0 := by rw [few_wide N (by omega) hN1]; exact if_pos (by omega)
          have hE2 : wfE ⟨flatNd N, 5, [], []⟩ = 0 := (few_flat N (by omega) hN1).1 (by omega) (by omega)
          have HE2 := Lib.hid hE2
          have HE1 := Lib.hid hE1
          have HL1 := Lib.hid l1
          have HL2 := Lib.hid l2
          have HL3 := Lib.hid l3
          have HDD := Lib.hid hD.out
          clear hE1 hE2 l1 l2 l3 hD hN hr
          rcases Decidable.em ((D : Int) ≤ 6) with h6 | h6
          · have hE3 : wfE ⟨deepNd (D - 1), 5, [], []⟩ = 0 := by rw [few_deep (D - 1) (by omega)]; exact if_pos (by omega)
            have HE3 := Lib.hid hE3
            clear hE3 hDe hN14 hN1 hD9 hD1
            go_wp2_with fail
            refine (altL _ _ _ (ltL N) _).mono ?_
            rintro r u1 ⟨rfl, hu1⟩
            go_wp2_with fail
            have F1 := fails_any (kidsX 4 _ (ltL N)) (flatNd N) 0 u1 (kidsX_tr (by unfold okV; omega) (by rw [ltL_len]; exact HS5.out.later (bstep (bstep HB6.out HDD.out.bel) hu1)) ltL_tr) (by rw [subsT_len10, kidsX_nd, ltL_nd]; exact Nat.le_trans HL2.out (by decide)) (HG5.out.later (bstep (bstep HB6.out HDD.out.bel) hu1)) (by rw [kidsX_nd, ltL_nd]; rfl) HE2.out
            simp only [kidsX, Tr.row, strOf] at F1
            refine (F1).mono ?_
            rintro r u2 ⟨rfl, hu2⟩
            clear F1
            have hcw := HK5.out.later (bstep (bstep (bstep HB6.out HDD.out.bel) hu1) hu2)
            have c0 := hcw.cell 0 _ rfl
            have c1 := hcw.cell 1 _ rfl
            have c2 := hcw.cell 2 _ rfl
            have c3 := hcw.cell 3 _ rfl
            have c4 := hcw.cell 4 _ rfl
            have c5 := hcw.cell 5 _ rfl
            have c6 := hcw.cell 6 _ rfl
            have c7 := hcw.cell 7 _ rfl
            have c8 := hcw.cell 8 _ rfl
            have clt := hcw.lt
            clear hcw
            go_wp2_with fail
            clear c0 c1 c2 c3 c4 c5 c6 c7 c8 clt
            have F2 := fails_any (kidsX 4 (.slice A N c) (ltL N)) (wideNd N) 0 u2 (HT5.out.later (bstep (bstep (bstep HB6.out HDD.out.bel) hu1) hu2)) (by rw [subsT_len10, HWN.out]; exact Nat.le_trans HL1.out (by decide)) (HG5.out.later (bstep (bstep (bstep HB6.out HDD.out.bel) hu1) hu2)) HWN.out HE1.out
            simp only [kidsX, Tr.row, strOf] at F2
            refine (F2).mono ?_
            rintro r u3 ⟨rfl, hu3⟩
            clear F2
            have hcd := HDD.out.blk.later (bstep (bstep hu1 hu2) hu3)
            have c0 := hcd.cell 0 _ rfl
            have c1 := hcd.cell 1 _ rfl
            have c2 := hcd.cell 2 _ rfl
            have c3 := hcd.cell 3 _ rfl
            have c4 := hcd.cell 4 _ rfl
            have c5 := hcd.cell 5 _ rfl
            have c6 := hcd.cell 6 _ rfl
            have c7 := hcd.cell 7 _ rfl
            have c8 := hcd.cell 8 _ rfl
            have clt := hcd.lt
            clear hcd
            go_wp2_with fail
            clear c0 c1 c2 c3 c4 c5 c6 c7 c8 clt
            have F3 := fails_any (.mk kk mn mx ⟨⟨kd, false, 0, [], []⟩, .slice none 0 0⟩ (.slice A2 n2 cq) ts) (deepNd (D - 1)) 0 u3 (HDD.out.held.now.later (bstep (bstep hu1 hu2) hu3)) (by rw [subsT_len10, HDD.out.nd]; exact Nat.le_trans HL3.out (by decide)) (HG5.out.later (bstep (bstep (bstep (bstep HB6.out HDD.out.bel) hu1) hu2) hu3)) HDD.out.nd HE3.out
            simp only [Tr.row, strOf] at F3
            refine (F3).mono ?_
            rintro r u4 ⟨rfl, hu4⟩
            clear F3
            go_wp2
            go_ret
            exact ⟨by first | rfl | (show Ending.returned (.bool (!decide ((D : Int) ≤ 6))) = _; rw [decide_eq_false (by omega)]; rfl) | (show Ending.returned (.bool (!decide ((N : Int) ≤ 8))) = _; rw [decide_eq_false (p := (N : Int) ≤ 8) (by omega)]; rfl) | (show Ending.returned (.bool (!decide ((N : Int) ≤ 8) && !decide ((D : Int) ≤ 6))) = _; rw [decide_eq_false (p := (N : Int) ≤ 8) (by omega), decide_eq_false (p := (D : Int) ≤ 6) (by omega)]; rfl) | (show Ending.returned (.bool (!decide ((N : Int) ≤ 12) && !decide ((N : Int) ≤ 8))) = _; rw [decide_eq_false (p := (N : Int) ≤ 12) (by omega), decide_eq_false (p := (N : Int) ≤ 8) (by omega)]; rfl) | (show Ending.returned (.bool (!decide ((N : Int) ≤ 12) && !decide ((N : Int) ≤ 8) && !decide ((D : Int) ≤ 6))) = _; rw [decide_eq_false (p := (N : Int) ≤ 12) (by omega), decide_eq_false (p := (N : Int) ≤ 8) (by omega), decide_eq_false (p := (D : Int) ≤ 6) (by omega)]; rfl), bstep HB0.out (bstep (bstep (bstep (bstep (bstep (bstep HB5.out HB6.out) HDD.out.bel) hu1) hu2) hu3) hu4)⟩
          · have hE3 : wfE ⟨deepNd (D - 1), 5, [], []⟩ = 22 := by rw [few_deep (D - 1) (by omega)]; exact if_neg (by omega)
            have HE3 := Lib.hid hE3
            clear hE3 hDe hN14 hN1 hD9 hD1
            go_wp2_with fail
            refine (altL _ _ _ (ltL N) _).mono ?_
            rintro r u1 ⟨rfl, hu1⟩
            go_wp2_with fail
            have F1 := fails_any (kidsX 4 _ (ltL N)) (flatNd N) 0 u1 (kidsX_tr (by unfold okV; omega) (by rw [ltL_len]; exact HS5.out.later (bstep (bstep HB6.out HDD.out.bel) hu1)) ltL_tr) (by rw [subsT_len10, kidsX_nd, ltL_nd]; exact Nat.le_trans HL2.out (by decide)) (HG5.out.later (bstep (bstep HB6.out HDD.out.bel) hu1)) (by rw [kidsX_nd, ltL_nd]; rfl) HE2.out
            simp only [kidsX, Tr.row, strOf] at F1
            refine (F1).mono ?_
            rintro r u2 ⟨rfl, hu2⟩
            clear F1
            have hcw := HK5.out.later (bstep (bstep (bstep HB6.out HDD.out.bel) hu1) hu2)
            have c0 := hcw.cell 0 _ rfl
            have c1 := hcw.cell 1 _ rfl
            have c2 := hcw.cell 2 _ rfl
            have c3 := hcw.cell 3 _ rfl
            have c4 := hcw.cell 4 _ rfl
            have c5 := hcw.cell 5 _ rfl
            have c6 := hcw.cell 6 _ rfl
            have c7 := hcw.cell 7 _ rfl
            have c8 := hcw.cell 8 _ rfl
            have clt := hcw.lt
            clear hcw
            go_wp2_with fail
            clear c0 c1 c2 c3 c4 c5 c6 c7 c8 clt
            have F2 := fails_any (kidsX 4 (.slice A N c) (ltL N)) (wideNd N) 0 u2 (HT5.out.later (bstep (bstep (bstep HB6.out HDD.out.bel) hu1) hu2)) (by rw [subsT_len10, HWN.out]; exact Nat.le_trans HL1.out (by decide)) (HG5.out.later (bstep (bstep (bstep HB6.out HDD.out.bel) hu1) hu2)) HWN.out HE1.out
            simp only [kidsX, Tr.row, strOf] at F2
            refine (F2).mono ?_
            rintro r u3 ⟨rfl, hu3⟩
            clear F2
            have hcd := HDD.out.blk.later (bstep (bstep hu1 hu2) hu3)
            have c0 := hcd.cell 0 _ rfl
            have c1 := hcd.cell 1 _ rfl
            have c2 := hcd.cell 2 _ rfl
            have c3 := hcd.cell 3 _ rfl
            have c4 := hcd.cell 4 _ rfl
            have c5 := hcd.cell 5 _ rfl
            have c6 := hcd.cell 6 _ rfl
            have c7 := hcd.cell 7 _ rfl
            have c8 := hcd.cell 8 _ rfl
            have clt := hcd.lt
            clear hcd
            go_wp2_with fail
            clear c0 c1 c2 c3 c4 c5 c6 c7 c8 clt
            have F3 := fails_any (.mk kk mn mx ⟨⟨kd, false, 0, [], []⟩, .slice none 0 0⟩ (.slice A2 n2 cq) ts) (deepNd (D - 1)) 22 u3 (HDD.out.held.now.later (bstep (bstep hu1 hu2) hu3)) (by rw [subsT_len10, HDD.out.nd]; exact Nat.le_trans HL3.out (by decide)) (HG5.out.later (bstep (bstep (bstep (bstep HB6.out HDD.out.bel) hu1) hu2) hu3)) HDD.out.nd HE3.out
            simp only [Tr.row, strOf] at F3
            refine (F3).mono ?_
            rintro r u4 ⟨rfl, hu4⟩
            clear F3
            have hcd := HDD.out.blk.later (bstep (bstep (bstep hu1 hu2) hu3) hu4)
            have c0 := hcd.cell 0 _ rfl
            have c1 := hcd.cell 1 _ rfl
            have c2 := hcd.cell 2 _ rfl
            have c3 := hcd.cell 3 _ rfl
            have c4 := hcd.cell 4 _ rfl
            have c5 := hcd.cell 5 _ rfl
            have c6 := hcd.cell 6 _ rfl
            have c7 := hcd.cell 7 _ rfl
            have c8 := hcd.cell 8 _ rfl
            have clt := hcd.lt
            clear hcd
            go_wp2_with fail
            clear c0 c1 c2 c3 c4 c5 c6 c7 c8 clt
            have F3 := fails_any (.mk kk mn mx ⟨⟨kd, false, 0, [], []⟩, .slice none 0 0⟩ (.slice A2 n2 cq) ts) (deepNd (D - 1)) 22 u4 (HDD.out.held.now.later (bstep (bstep (bstep hu1 hu2) hu3) hu4)) (by rw [subsT_len10, HDD.out.nd]; exact Nat.le_trans HL3.out (by decide)) (HG5.out.later (bstep (bstep (bstep (bstep (bstep HB6.out HDD.out.bel) hu1) hu2) hu3) hu4)) HDD.out.nd HE3.out
            simp only [Tr.row, strOf] at F3
            refine (F3).mono ?_
            rintro r u5 ⟨rfl, hu5⟩
            clear F3
            go_wp2
            go_ret
            exact ⟨by first | rfl | (show Ending.returned (.bool (!decide ((D : Int) ≤ 6))) = _; rw [decide_eq_false (by omega)]; rfl) | (show Ending.returned (.bool (!decide ((N : Int) ≤ 8))) = _; rw [decide_eq_false (p := (N : Int) ≤ 8) (by omega)]; rfl) | (show Ending.returned (.bool (!decide ((N : Int) ≤ 8) && !decide ((D : Int) ≤ 6))) = _; rw [decide_eq_false (p := (N : Int) ≤ 8) (by omega), decide_eq_false (p := (D : Int) ≤ 6) (by omega)]; rfl) | (show Ending.returned (.bool (!decide ((N : Int) ≤ 12) && !decide ((N : Int) ≤ 8))) = _; rw [decide_eq_false (p := (N : Int) ≤ 12) (by omega), decide_eq_false (p := (N : Int) ≤ 8) (by omega)]; rfl) | (show Ending.returned (.bool (!decide ((N : Int) ≤ 12) && !decide ((N : Int) ≤ 8) && !decide ((D : Int) ≤ 6))) = _; rw [decide_eq_false (p := (N : Int) ≤ 12) (by omega), decide_eq_false (p := (N : Int) ≤ 8) (by omega), decide_eq_false (p := (D : Int) ≤ 6) (by omega)]; rfl), bstep HB0.out (bstep (bstep (bstep (bstep (bstep (bstep (bstep HB5.out HB6.out) HDD.out.bel) hu1) hu2) hu3) hu4) hu5)⟩
end Go.Proofs.YthiacfmedcfcjaaDoor
