/- Walks: lists of conditions, of aggregates, of items, of sequences. Made by program (wip/tools/gen_parG.py). -/
import Derived.Test.YtdjaijhlhhnmeaaGreatDoorParF
import Derived.Deep.LoopGhost
namespace Go.Proofs.YtdjaijhlhhnmeaaGreatDoor
open Go.RowKit
open A8 Tk7 P9

set_option maxRecDepth 100000 in
set_option maxHeartbeats 4000000 in
theorem condList {w : World} {b : Nat} {g : G9} {l : List T} (p : List T → R Cn) (hE : P9.Ends p) (h : At9 w b g l) (hP : ∀ w' l', At9 w' b g l' → l'.length ≤ l.length → Calls Tryz.prog 95 #[.pointer (some ⟨b, 0, none⟩)] w' (Out9 w' b g (p l') (IsE cnK))) :
    Calls Tryz.prog 94 #[.pointer (some ⟨b, 0, none⟩), .string (strOf [44]), .func (.func 95) #[.pointer (some ⟨b, 0, none⟩)] #[]] w (Out9 w b g (listP [44] p l) (IsL cnK)) := by
  have h1 := hP w l h (Nat.le_refl _)
  obtain ⟨S, hS0⟩ : ∃ S, S = strOf [44] := ⟨_, rfl⟩
  rw [← hS0]
  obtain ⟨i0, hi, hz0, hz1, hz2⟩ := info_parts infoCn
  cases hp : p l with
  | error y =>
    rw [hp] at h1
    have hx : listP [44] p l = .error y := by unfold listP; rw [hp]; rfl
    rw [hx]
    clear hx hP hS0
    go_enter Tryz.func94, Tryz.ntmps94
    go_wp2_with (go_at_call 95; refine h1.mono ?_; intro e' w1 ho; obtain ⟨hg1, rfl⟩ := out_e ho)
    exact ⟨rfl, out_err hg1⟩
  | ok ar =>
    obtain ⟨a, r⟩ := ar
    rw [hp] at h1
    have HS := fun w1 hg c hc hEc ha => li_start (K := cnK) (e := 72) (s := [44]) hE h hp (w1 := w1) hg c hc hEc ha
    obtain ⟨x, hx⟩ : ∃ x, x = listP [44] p l := ⟨_, rfl⟩
    rw [← hx] at HS ⊢
    clear hx hp
    have hb := h.lt
    have hSk := fun w' r' (ha : At9 w' b g r') => skips_any [44] (by decide) ha
    rw [← hS0] at hSk
    clear hS0
    have HSk := Lib.hid hSk
    have HP := Lib.hid hP
    clear hSk hP
    go_enter Tryz.func94, Tryz.ntmps94
    go_wp2_with (go_at_call 95; refine h1.mono ?_; intro e' w1 ho; obtain ⟨hg1, v1, rfl, ⟨c, hc, hEc, hv1⟩, ha1⟩ := out_o ho; clear ho; have hv2 : v1 = .agg #[.int .i64 c.op, .int .i64 c.va] := hv1; subst hv2; have HL := Lib.hid (HS w1 hg1 c hc hEc ha1); clear hc hEc ha1 hv1)
    clear h1 HS
    go_loopg [7] (r.length + 1) (fun gm v wr => ∃ cs r' m, gm = m + 1 ∧ Hid (LI cnK w b g 72 [44] p l x m v wr cs r'))
    case atStart => exact ⟨_, _, _, rfl, HL⟩
    case round =>
      obtain ⟨cs, r', m, rfl, hL⟩ := hrel
      have hAt := hL.out.at9
      have hS := HSk.out wr r' hAt
      cases hs : seesP [44] r' with
      | false =>
        rw [hs] at hS
        simp only [Bool.false_eq_true, if_false] at hS
        have HX := Lib.hid (fun w2 hg ha => li_end (li_move hb hL.out (w1 := w2) hg ha) hs)
        clear hs hAt hL HL
        go_wp2_with (go_at_call 68; refine hS.mono ?_; rintro e' w2 ⟨rfl, hg2, ha2⟩)
        go_ret
        have := HX.out w2 hg2 ha2
        rw [this.1]
        exact this.2
      | true =>
        rw [hs] at hS
        simp only [if_true] at hS
        have hlt : r'.tail.length ≤ l.length := by have := hL.out.le; rw [List.length_tail]; omega
        have hP1 := fun w' ha => HP.out w' r'.tail ha hlt
        cases hp1 : p r'.tail with
        | error y =>
          rw [hp1] at hP1
          have hx := Lib.hid (li_err hL.out hs hp1)
          have hgr := hL.out.gr
          clear hs hAt hL HL hp1 HP HSk
          go_wp2_with (first | (go_at_call 68; refine hS.mono ?_; rintro e' w2 ⟨rfl, hg2, ha2⟩) | (go_at_call 95; refine (hP1 _ ha2).mono ?_; intro e' w3 ho; obtain ⟨hg3, rfl⟩ := out_e ho))
          refine ⟨rfl, ?_⟩
          rw [hx.out]
          exact out_err (grown_trans (grown_trans hgr hg2) hg3)
        | ok ar =>
          obtain ⟨a2, r2⟩ := ar
          rw [hp1] at hP1
          have HN := Lib.hid (fun w1 w2 w3 hg1 hg2 c hc hEc ha v' hown hg3 hloc => li_next hE h hL.out hs hp1 (w1 := w1) (w2 := w2) (w3 := w3) hg1 hg2 c hc hEc ha (v' := v') hown hg3 hloc)
          have hfew : cs.length ≤ 100000 := by have := hL.out.few; have := h.ok.n; omega
          have hown := hL.out.own
          have hlv := Lib.hid hown.lt
          have hsz := Lib.hid hL.out.gr.size
          obtain ⟨vA, vc, rfl⟩ := own_form hown
          clear hs hAt hp1 HP HSk HL
          go_wp2_with (first | (go_at_call 68; refine hS.mono ?_; rintro e' w2 ⟨rfl, hg2, ha2⟩) | (go_at_call 95; refine (hP1 _ ha2).mono ?_; intro e' w3 ho; obtain ⟨hg3, v3, rfl, ⟨c2, hc2, hEc2, hv3⟩, ha3⟩ := out_o ho; clear ho; have hown3 := li_own (hlv.out) (grown_trans hg2 hg3) hb hown; have hone := cnK.one hEc2; have hsz3 := Nat.le_trans hsz.out (grown_trans hg2 hg3).size; have hv4 : v3 = .agg #[.int .i64 c2.op, .int .i64 c2.va] := hv3; subst hv4; have HNc := Lib.hid (HN.out w2 w3); have HE2 := Lib.hid hEc2; have HA2 := Lib.hid ha3; have HC2 := Lib.hid hc2; clear hc2 hEc2 ha3 hv3) | (at_builtin; refine wpList_append_own_at _ rfl _ _ 24 rfl w.heap.size 72 i0 (.agg #[.int .i64 0, .int .i64 0]) 2 16 Tryz.underlying24 hi hz0 hz1 hz2 rfl (by decide) _ _ _ rfl (hown3.alloc _) ⟨w3.heap.size, 0, none⟩ 1 1 (cnK.cells c2) rfl rfl (new_cells _) hone (by unfold maxLen; omega) (by omega) (by rw [World.size_alloc]; omega) ?_; intro v' w4 hown' hgrow hnil hloc))
          obtain ⟨m', rfl, hL4⟩ := HNc.out w4 hg2 hg3 c2 HC2.out HE2.out HA2.out v' hown' hgrow hloc
          go_roundg (m' + 1)
          case rel => exact ⟨_, _, _, rfl, Lib.hid hL4⟩
          case measure => omega
set_option maxRecDepth 100000 in
set_option maxHeartbeats 4000000 in
theorem haveList {w : World} {b : Nat} {g : G9} {l : List T} (p : List T → R Hv) (hE : P9.Ends p) (h : At9 w b g l) (hP : ∀ w' l', At9 w' b g l' → l'.length ≤ l.length → Calls Tryz.prog 70 #[.pointer (some ⟨b, 0, none⟩)] w' (Out9 w' b g (p l') (IsE hvK))) :
    Calls Tryz.prog 69 #[.pointer (some ⟨b, 0, none⟩), .string (strOf andA), .func (.func 70) #[.pointer (some ⟨b, 0, none⟩)] #[]] w (Out9 w b g (listP andA p l) (IsL hvK)) := by
  have h1 := hP w l h (Nat.le_refl _)
  obtain ⟨S, hS0⟩ : ∃ S, S = strOf andA := ⟨_, rfl⟩
  rw [← hS0]
  obtain ⟨i0, hi, hz0, hz1, hz2⟩ := info_parts infoHv
  cases hp : p l with
  | error y =>
    rw [hp] at h1
    have hx : listP andA p l = .error y := by unfold listP; rw [hp]; rfl
    rw [hx]
    clear hx hP hS0
    go_enter Tryz.func69, Tryz.ntmps69
    go_wp2_with (go_at_call 70; refine h1.mono ?_; intro e' w1 ho; obtain ⟨hg1, rfl⟩ := out_e ho)
    exact ⟨rfl, out_err hg1⟩
  | ok ar =>
    obtain ⟨a, r⟩ := ar
    rw [hp] at h1
    have HS := fun w1 hg c hc hEc ha => li_start (K := hvK) (e := 74) (s := andA) hE h hp (w1 := w1) hg c hc hEc ha
    obtain ⟨x, hx⟩ : ∃ x, x = listP andA p l := ⟨_, rfl⟩
    rw [← hx] at HS ⊢
    clear hx hp
    have hb := h.lt
    have hSk := fun w' r' (ha : At9 w' b g r') => skips_any andA (by decide) ha
    rw [← hS0] at hSk
    clear hS0
    have HSk := Lib.hid hSk
    have HP := Lib.hid hP
    clear hSk hP
    go_enter Tryz.func69, Tryz.ntmps69
    go_wp2_with (go_at_call 70; refine h1.mono ?_; intro e' w1 ho; obtain ⟨hg1, v1, rfl, ⟨c, hc, hEc, hv1⟩, ha1⟩ := out_o ho; clear ho; have hv2 : v1 = .agg #[.int .i64 c.ag.fn, .string (strOf c.ag.nm), .int .i64 c.cn.op, .int .i64 c.cn.va] := hv1; subst hv2; have HL := Lib.hid (HS w1 hg1 c hc hEc ha1); clear hc hEc ha1 hv1)
    clear h1 HS
    go_loopg [7] (r.length + 1) (fun gm v wr => ∃ cs r' m, gm = m + 1 ∧ Hid (LI hvK w b g 74 andA p l x m v wr cs r'))
    case atStart => exact ⟨_, _, _, rfl, HL⟩
    case round =>
      obtain ⟨cs, r', m, rfl, hL⟩ := hrel
      have hAt := hL.out.at9
      have hS := HSk.out wr r' hAt
      cases hs : seesP andA r' with
      | false =>
        rw [hs] at hS
        simp only [Bool.false_eq_true, if_false] at hS
        have HX := Lib.hid (fun w2 hg ha => li_end (li_move hb hL.out (w1 := w2) hg ha) hs)
        clear hs hAt hL HL
        go_wp2_with (go_at_call 68; refine hS.mono ?_; rintro e' w2 ⟨rfl, hg2, ha2⟩)
        go_ret
        have := HX.out w2 hg2 ha2
        rw [this.1]
        exact this.2
      | true =>
        rw [hs] at hS
        simp only [if_true] at hS
        have hlt : r'.tail.length ≤ l.length := by have := hL.out.le; rw [List.length_tail]; omega
        have hP1 := fun w' ha => HP.out w' r'.tail ha hlt
        cases hp1 : p r'.tail with
        | error y =>
          rw [hp1] at hP1
          have hx := Lib.hid (li_err hL.out hs hp1)
          have hgr := hL.out.gr
          clear hs hAt hL HL hp1 HP HSk
          go_wp2_with (first | (go_at_call 68; refine hS.mono ?_; rintro e' w2 ⟨rfl, hg2, ha2⟩) | (go_at_call 70; refine (hP1 _ ha2).mono ?_; intro e' w3 ho; obtain ⟨hg3, rfl⟩ := out_e ho))
          refine ⟨rfl, ?_⟩
          rw [hx.out]
          exact out_err (grown_trans (grown_trans hgr hg2) hg3)
        | ok ar =>
          obtain ⟨a2, r2⟩ := ar
          rw [hp1] at hP1
          have HN := Lib.hid (fun w1 w2 w3 hg1 hg2 c hc hEc ha v' hown hg3 hloc => li_next hE h hL.out hs hp1 (w1 := w1) (w2 := w2) (w3 := w3) hg1 hg2 c hc hEc ha (v' := v') hown hg3 hloc)
          have hfew : cs.length ≤ 100000 := by have := hL.out.few; have := h.ok.n; omega
          have hown := hL.out.own
          have hlv := Lib.hid hown.lt
          have hsz := Lib.hid hL.out.gr.size
          obtain ⟨vA, vc, rfl⟩ := own_form hown
          clear hs hAt hp1 HP HSk HL
          go_wp2_with (first | (go_at_call 68; refine hS.mono ?_; rintro e' w2 ⟨rfl, hg2, ha2⟩) | (go_at_call 70; refine (hP1 _ ha2).mono ?_; intro e' w3 ho; obtain ⟨hg3, v3, rfl, ⟨c2, hc2, hEc2, hv3⟩, ha3⟩ := out_o ho; clear ho; have hown3 := li_own (hlv.out) (grown_trans hg2 hg3) hb hown; have hone := hvK.one hEc2; have hsz3 := Nat.le_trans hsz.out (grown_trans hg2 hg3).size; have hv4 : v3 = .agg #[.int .i64 c2.ag.fn, .string (strOf c2.ag.nm), .int .i64 c2.cn.op, .int .i64 c2.cn.va] := hv3; subst hv4; have HNc := Lib.hid (HN.out w2 w3); have HE2 := Lib.hid hEc2; have HA2 := Lib.hid ha3; have HC2 := Lib.hid hc2; clear hc2 hEc2 ha3 hv3) | (at_builtin; refine wpList_append_own_at _ rfl _ _ 30 rfl w.heap.size 74 i0 (.agg #[.int .i64 0, .string ⟨#[]⟩, .int .i64 0, .int .i64 0]) 4 40 Tryz.underlying30 hi hz0 hz1 hz2 rfl (by decide) _ _ _ rfl (hown3.alloc _) ⟨w3.heap.size, 0, none⟩ 1 1 (hvK.cells c2) rfl rfl (new_cells _) hone (by unfold maxLen; omega) (by omega) (by rw [World.size_alloc]; omega) ?_; intro v' w4 hown' hgrow hnil hloc))
          obtain ⟨m', rfl, hL4⟩ := HNc.out w4 hg2 hg3 c2 HC2.out HE2.out HA2.out v' hown' hgrow hloc
          go_roundg (m' + 1)
          case rel => exact ⟨_, _, _, rfl, Lib.hid hL4⟩
          case measure => omega
set_option maxRecDepth 100000 in
set_option maxHeartbeats 4000000 in
theorem aggList {w : World} {b : Nat} {g : G9} {l : List T} (p : List T → R Ag) (hE : P9.Ends p) (h : At9 w b g l) (hP : ∀ w' l', At9 w' b g l' → l'.length ≤ l.length → Calls Tryz.prog 72 #[.pointer (some ⟨b, 0, none⟩)] w' (Out9 w' b g (p l') (IsE agK))) :
    Calls Tryz.prog 71 #[.pointer (some ⟨b, 0, none⟩), .string (strOf [44]), .func (.func 72) #[.pointer (some ⟨b, 0, none⟩)] #[]] w (Out9 w b g (listP [44] p l) (IsL agK)) := by
  have h1 := hP w l h (Nat.le_refl _)
  obtain ⟨S, hS0⟩ : ∃ S, S = strOf [44] := ⟨_, rfl⟩
  rw [← hS0]
  obtain ⟨i0, hi, hz0, hz1, hz2⟩ := info_parts infoAg
  cases hp : p l with
  | error y =>
    rw [hp] at h1
    have hx : listP [44] p l = .error y := by unfold listP; rw [hp]; rfl
    rw [hx]
    clear hx hP hS0
    go_enter Tryz.func71, Tryz.ntmps71
    go_wp2_with (go_at_call 72; refine h1.mono ?_; intro e' w1 ho; obtain ⟨hg1, rfl⟩ := out_e ho)
    exact ⟨rfl, out_err hg1⟩
  | ok ar =>
    obtain ⟨a, r⟩ := ar
    rw [hp] at h1
    have HS := fun w1 hg c hc hEc ha => li_start (K := agK) (e := 70) (s := [44]) hE h hp (w1 := w1) hg c hc hEc ha
    obtain ⟨x, hx⟩ : ∃ x, x = listP [44] p l := ⟨_, rfl⟩
    rw [← hx] at HS ⊢
    clear hx hp
    have hb := h.lt
    have hSk := fun w' r' (ha : At9 w' b g r') => skips_any [44] (by decide) ha
    rw [← hS0] at hSk
    clear hS0
    have HSk := Lib.hid hSk
    have HP := Lib.hid hP
    clear hSk hP
    go_enter Tryz.func71, Tryz.ntmps71
    go_wp2_with (go_at_call 72; refine h1.mono ?_; intro e' w1 ho; obtain ⟨hg1, v1, rfl, ⟨c, hc, hEc, hv1⟩, ha1⟩ := out_o ho; clear ho; have hv2 : v1 = .agg #[.int .i64 c.fn, .string (strOf c.nm)] := hv1; subst hv2; have HL := Lib.hid (HS w1 hg1 c hc hEc ha1); clear hc hEc ha1 hv1)
    clear h1 HS
    go_loopg [7] (r.length + 1) (fun gm v wr => ∃ cs r' m, gm = m + 1 ∧ Hid (LI agK w b g 70 [44] p l x m v wr cs r'))
    case atStart => exact ⟨_, _, _, rfl, HL⟩
    case round =>
      obtain ⟨cs, r', m, rfl, hL⟩ := hrel
      have hAt := hL.out.at9
      have hS := HSk.out wr r' hAt
      cases hs : seesP [44] r' with
      | false =>
        rw [hs] at hS
        simp only [Bool.false_eq_true, if_false] at hS
        have HX := Lib.hid (fun w2 hg ha => li_end (li_move hb hL.out (w1 := w2) hg ha) hs)
        clear hs hAt hL HL
        go_wp2_with (go_at_call 68; refine hS.mono ?_; rintro e' w2 ⟨rfl, hg2, ha2⟩)
        go_ret
        have := HX.out w2 hg2 ha2
        rw [this.1]
        exact this.2
      | true =>
        rw [hs] at hS
        simp only [if_true] at hS
        have hlt : r'.tail.length ≤ l.length := by have := hL.out.le; rw [List.length_tail]; omega
        have hP1 := fun w' ha => HP.out w' r'.tail ha hlt
        cases hp1 : p r'.tail with
        | error y =>
          rw [hp1] at hP1
          have hx := Lib.hid (li_err hL.out hs hp1)
          have hgr := hL.out.gr
          clear hs hAt hL HL hp1 HP HSk
          go_wp2_with (first | (go_at_call 68; refine hS.mono ?_; rintro e' w2 ⟨rfl, hg2, ha2⟩) | (go_at_call 72; refine (hP1 _ ha2).mono ?_; intro e' w3 ho; obtain ⟨hg3, rfl⟩ := out_e ho))
          refine ⟨rfl, ?_⟩
          rw [hx.out]
          exact out_err (grown_trans (grown_trans hgr hg2) hg3)
        | ok ar =>
          obtain ⟨a2, r2⟩ := ar
          rw [hp1] at hP1
          have HN := Lib.hid (fun w1 w2 w3 hg1 hg2 c hc hEc ha v' hown hg3 hloc => li_next hE h hL.out hs hp1 (w1 := w1) (w2 := w2) (w3 := w3) hg1 hg2 c hc hEc ha (v' := v') hown hg3 hloc)
          have hfew : cs.length ≤ 100000 := by have := hL.out.few; have := h.ok.n; omega
          have hown := hL.out.own
          have hlv := Lib.hid hown.lt
          have hsz := Lib.hid hL.out.gr.size
          obtain ⟨vA, vc, rfl⟩ := own_form hown
          clear hs hAt hp1 HP HSk HL
          go_wp2_with (first | (go_at_call 68; refine hS.mono ?_; rintro e' w2 ⟨rfl, hg2, ha2⟩) | (go_at_call 72; refine (hP1 _ ha2).mono ?_; intro e' w3 ho; obtain ⟨hg3, v3, rfl, ⟨c2, hc2, hEc2, hv3⟩, ha3⟩ := out_o ho; clear ho; have hown3 := li_own (hlv.out) (grown_trans hg2 hg3) hb hown; have hone := agK.one hEc2; have hsz3 := Nat.le_trans hsz.out (grown_trans hg2 hg3).size; have hv4 : v3 = .agg #[.int .i64 c2.fn, .string (strOf c2.nm)] := hv3; subst hv4; have HNc := Lib.hid (HN.out w2 w3); have HE2 := Lib.hid hEc2; have HA2 := Lib.hid ha3; have HC2 := Lib.hid hc2; clear hc2 hEc2 ha3 hv3) | (at_builtin; refine wpList_append_own_at _ rfl _ _ 31 rfl w.heap.size 70 i0 (.agg #[.int .i64 0, .string ⟨#[]⟩]) 2 24 Tryz.underlying31 hi hz0 hz1 hz2 rfl (by decide) _ _ _ rfl (hown3.alloc _) ⟨w3.heap.size, 0, none⟩ 1 1 (agK.cells c2) rfl rfl (new_cells _) hone (by unfold maxLen; omega) (by omega) (by rw [World.size_alloc]; omega) ?_; intro v' w4 hown' hgrow hnil hloc))
          obtain ⟨m', rfl, hL4⟩ := HNc.out w4 hg2 hg3 c2 HC2.out HE2.out HA2.out v' hown' hgrow hloc
          go_roundg (m' + 1)
          case rel => exact ⟨_, _, _, rfl, Lib.hid hL4⟩
          case measure => omega
set_option maxRecDepth 100000 in
set_option maxHeartbeats 4000000 in
theorem itemList {w : World} {b : Nat} {g : G9} {l : List T} (p : List T → R Nd) (hE : P9.Ends p) (h : At9 w b g l) (hP : ∀ w' l', At9 w' b g l' → l'.length ≤ l.length → Calls Tryz.prog 144 #[.pointer (some ⟨b, 0, none⟩)] w' (Out9 w' b g (p l') (IsE ndK))) :
    Calls Tryz.prog 88 #[.pointer (some ⟨b, 0, none⟩), .string (strOf [59]), .func (.func 144) #[.pointer (some ⟨b, 0, none⟩)] #[]] w (Out9 w b g (listP [59] p l) (IsL ndK)) := by
  have h1 := hP w l h (Nat.le_refl _)
  obtain ⟨S, hS0⟩ : ∃ S, S = strOf [59] := ⟨_, rfl⟩
  rw [← hS0]
  obtain ⟨i0, hi, hz0, hz1, hz2⟩ := info_parts infoNd
  cases hp : p l with
  | error y =>
    rw [hp] at h1
    have hx : listP [59] p l = .error y := by unfold listP; rw [hp]; rfl
    rw [hx]
    clear hx hP hS0
    go_enter Tryz.func88, Tryz.ntmps88
    go_wp2_with (go_at_call 144; refine h1.mono ?_; intro e' w1 ho; obtain ⟨hg1, rfl⟩ := out_e ho)
    exact ⟨rfl, out_err hg1⟩
  | ok ar =>
    obtain ⟨a, r⟩ := ar
    rw [hp] at h1
    have HS := fun w1 hg c hc hEc ha => li_start (K := ndK) (e := 29) (s := [59]) hE h hp (w1 := w1) hg c hc hEc ha
    obtain ⟨x, hx⟩ : ∃ x, x = listP [59] p l := ⟨_, rfl⟩
    rw [← hx] at HS ⊢
    clear hx hp
    have hb := h.lt
    have hSk := fun w' r' (ha : At9 w' b g r') => skips_any [59] (by decide) ha
    rw [← hS0] at hSk
    clear hS0
    have HSk := Lib.hid hSk
    have HP := Lib.hid hP
    clear hSk hP
    go_enter Tryz.func88, Tryz.ntmps88
    go_wp2_with (go_at_call 144; refine h1.mono ?_; intro e' w1 ho; obtain ⟨hg1, v1, rfl, ⟨c, hc, hEc, hv1⟩, ha1⟩ := out_o ho; clear ho; obtain ⟨tk, tmn, tmx, ⟨⟨akd, abd, abn, acs, anm⟩, asc⟩, tsk, tks⟩ := c; obtain ⟨⟨qA, qn, qc, rfl⟩, ⟨rA, rn, rc, rfl⟩⟩ := tr_form hEc; have hv2 : v1 = .agg #[.int .i64 tk, .int .i64 tmn, .int .i64 tmx, .int .i64 akd, .bool abd, .int .u64 abn, .slice qA qn qc, .string (strOf anm), .slice rA rn rc] := hv1; subst hv2; have HL := Lib.hid (HS w1 hg1 (Tr.mk tk tmn tmx ⟨⟨akd, abd, abn, acs, anm⟩, .slice qA qn qc⟩ (.slice rA rn rc) tks) hc hEc ha1); clear hc hEc ha1 hv1)
    clear h1 HS
    go_loopg [7] (r.length + 1) (fun gm v wr => ∃ cs r' m, gm = m + 1 ∧ Hid (LI ndK w b g 29 [59] p l x m v wr cs r'))
    case atStart => exact ⟨_, _, _, rfl, HL⟩
    case round =>
      obtain ⟨cs, r', m, rfl, hL⟩ := hrel
      have hAt := hL.out.at9
      have hS := HSk.out wr r' hAt
      cases hs : seesP [59] r' with
      | false =>
        rw [hs] at hS
        simp only [Bool.false_eq_true, if_false] at hS
        have HX := Lib.hid (fun w2 hg ha => li_end (li_move hb hL.out (w1 := w2) hg ha) hs)
        clear hs hAt hL HL
        go_wp2_with (go_at_call 68; refine hS.mono ?_; rintro e' w2 ⟨rfl, hg2, ha2⟩)
        go_ret
        have := HX.out w2 hg2 ha2
        rw [this.1]
        exact this.2
      | true =>
        rw [hs] at hS
        simp only [if_true] at hS
        have hlt : r'.tail.length ≤ l.length := by have := hL.out.le; rw [List.length_tail]; omega
        have hP1 := fun w' ha => HP.out w' r'.tail ha hlt
        cases hp1 : p r'.tail with
        | error y =>
          rw [hp1] at hP1
          have hx := Lib.hid (li_err hL.out hs hp1)
          have hgr := hL.out.gr
          clear hs hAt hL HL hp1 HP HSk
          go_wp2_with (first | (go_at_call 68; refine hS.mono ?_; rintro e' w2 ⟨rfl, hg2, ha2⟩) | (go_at_call 144; refine (hP1 _ ha2).mono ?_; intro e' w3 ho; obtain ⟨hg3, rfl⟩ := out_e ho))
          refine ⟨rfl, ?_⟩
          rw [hx.out]
          exact out_err (grown_trans (grown_trans hgr hg2) hg3)
        | ok ar =>
          obtain ⟨a2, r2⟩ := ar
          rw [hp1] at hP1
          have HN := Lib.hid (fun w1 w2 w3 hg1 hg2 c hc hEc ha v' hown hg3 hloc => li_next hE h hL.out hs hp1 (w1 := w1) (w2 := w2) (w3 := w3) hg1 hg2 c hc hEc ha (v' := v') hown hg3 hloc)
          have hfew : cs.length ≤ 100000 := by have := hL.out.few; have := h.ok.n; omega
          have hown := hL.out.own
          have hlv := Lib.hid hown.lt
          have hsz := Lib.hid hL.out.gr.size
          obtain ⟨vA, vc, rfl⟩ := own_form hown
          clear hs hAt hp1 HP HSk HL
          go_wp2_with (first | (go_at_call 68; refine hS.mono ?_; rintro e' w2 ⟨rfl, hg2, ha2⟩) | (go_at_call 144; refine (hP1 _ ha2).mono ?_; intro e' w3 ho; obtain ⟨hg3, v3, rfl, ⟨c2, hc2, hEc2, hv3⟩, ha3⟩ := out_o ho; clear ho; have hown3 := li_own (hlv.out) (grown_trans hg2 hg3) hb hown; have hone := ndK.one hEc2; have hsz3 := Nat.le_trans hsz.out (grown_trans hg2 hg3).size; obtain ⟨uk, umn, umx, ⟨⟨bkd, bbd, bbn, bcs, bnm⟩, bsc⟩, usk, uks⟩ := c2; obtain ⟨⟨yA, yn, yc, rfl⟩, ⟨zA, zn, zc, rfl⟩⟩ := tr_form hEc2; have hv4 : v3 = .agg #[.int .i64 uk, .int .i64 umn, .int .i64 umx, .int .i64 bkd, .bool bbd, .int .u64 bbn, .slice yA yn yc, .string (strOf bnm), .slice zA zn zc] := hv3; subst hv4; have HNc := Lib.hid (HN.out w2 w3); have HE2 := Lib.hid hEc2; have HA2 := Lib.hid ha3; have HC2 := Lib.hid hc2; clear hc2 hEc2 ha3 hv3) | (at_builtin; refine wpList_append_own_at _ rfl _ _ 27 rfl w.heap.size 29 i0 (.agg #[.int .i64 0, .int .i64 0, .int .i64 0, .int .i64 0, .bool false, .int .u64 0, .slice none 0 0, .string ⟨#[]⟩, .slice none 0 0]) 9 112 Tryz.underlying27 hi hz0 hz1 hz2 rfl (by decide) _ _ _ rfl (hown3.alloc _) ⟨w3.heap.size, 0, none⟩ 1 1 (ndK.cells (Tr.mk uk umn umx ⟨⟨bkd, bbd, bbn, bcs, bnm⟩, .slice yA yn yc⟩ (.slice zA zn zc) uks)) rfl rfl (new_cells _) hone (by unfold maxLen; omega) (by omega) (by rw [World.size_alloc]; omega) ?_; intro v' w4 hown' hgrow hnil hloc))
          obtain ⟨m', rfl, hL4⟩ := HNc.out w4 hg2 hg3 (Tr.mk uk umn umx ⟨⟨bkd, bbd, bbn, bcs, bnm⟩, .slice yA yn yc⟩ (.slice zA zn zc) uks) HC2.out HE2.out HA2.out v' hown' hgrow hloc
          go_roundg (m' + 1)
          case rel => exact ⟨_, _, _, rfl, Lib.hid hL4⟩
          case measure => omega
set_option maxRecDepth 100000 in
set_option maxHeartbeats 4000000 in
theorem seqList {w : World} {b : Nat} {g : G9} {l : List T} (p : List T → R Nd) (hE : P9.Ends p) (h : At9 w b g l) (hP : ∀ w' l', At9 w' b g l' → l'.length ≤ l.length → Calls Tryz.prog 89 #[.pointer (some ⟨b, 0, none⟩)] w' (Out9 w' b g (p l') (IsE ndK))) :
    Calls Tryz.prog 88 #[.pointer (some ⟨b, 0, none⟩), .string (strOf [124]), .func (.func 89) #[.pointer (some ⟨b, 0, none⟩)] #[]] w (Out9 w b g (listP [124] p l) (IsL ndK)) := by
  have h1 := hP w l h (Nat.le_refl _)
  obtain ⟨S, hS0⟩ : ∃ S, S = strOf [124] := ⟨_, rfl⟩
  rw [← hS0]
  obtain ⟨i0, hi, hz0, hz1, hz2⟩ := info_parts infoNd
  cases hp : p l with
  | error y =>
    rw [hp] at h1
    have hx : listP [124] p l = .error y := by unfold listP; rw [hp]; rfl
    rw [hx]
    clear hx hP hS0
    go_enter Tryz.func88, Tryz.ntmps88
    go_wp2_with (go_at_call 89; refine h1.mono ?_; intro e' w1 ho; obtain ⟨hg1, rfl⟩ := out_e ho)
    exact ⟨rfl, out_err hg1⟩
  | ok ar =>
    obtain ⟨a, r⟩ := ar
    rw [hp] at h1
    have HS := fun w1 hg c hc hEc ha => li_start (K := ndK) (e := 29) (s := [124]) hE h hp (w1 := w1) hg c hc hEc ha
    obtain ⟨x, hx⟩ : ∃ x, x = listP [124] p l := ⟨_, rfl⟩
    rw [← hx] at HS ⊢
    clear hx hp
    have hb := h.lt
    have hSk := fun w' r' (ha : At9 w' b g r') => skips_any [124] (by decide) ha
    rw [← hS0] at hSk
    clear hS0
    have HSk := Lib.hid hSk
    have HP := Lib.hid hP
    clear hSk hP
    go_enter Tryz.func88, Tryz.ntmps88
    go_wp2_with (go_at_call 89; refine h1.mono ?_; intro e' w1 ho; obtain ⟨hg1, v1, rfl, ⟨c, hc, hEc, hv1⟩, ha1⟩ := out_o ho; clear ho; obtain ⟨tk, tmn, tmx, ⟨⟨akd, abd, abn, acs, anm⟩, asc⟩, tsk, tks⟩ := c; obtain ⟨⟨qA, qn, qc, rfl⟩, ⟨rA, rn, rc, rfl⟩⟩ := tr_form hEc; have hv2 : v1 = .agg #[.int .i64 tk, .int .i64 tmn, .int .i64 tmx, .int .i64 akd, .bool abd, .int .u64 abn, .slice qA qn qc, .string (strOf anm), .slice rA rn rc] := hv1; subst hv2; have HL := Lib.hid (HS w1 hg1 (Tr.mk tk tmn tmx ⟨⟨akd, abd, abn, acs, anm⟩, .slice qA qn qc⟩ (.slice rA rn rc) tks) hc hEc ha1); clear hc hEc ha1 hv1)
    clear h1 HS
    go_loopg [7] (r.length + 1) (fun gm v wr => ∃ cs r' m, gm = m + 1 ∧ Hid (LI ndK w b g 29 [124] p l x m v wr cs r'))
    case atStart => exact ⟨_, _, _, rfl, HL⟩
    case round =>
      obtain ⟨cs, r', m, rfl, hL⟩ := hrel
      have hAt := hL.out.at9
      have hS := HSk.out wr r' hAt
      cases hs : seesP [124] r' with
      | false =>
        rw [hs] at hS
        simp only [Bool.false_eq_true, if_false] at hS
        have HX := Lib.hid (fun w2 hg ha => li_end (li_move hb hL.out (w1 := w2) hg ha) hs)
        clear hs hAt hL HL
        go_wp2_with (go_at_call 68; refine hS.mono ?_; rintro e' w2 ⟨rfl, hg2, ha2⟩)
        go_ret
        have := HX.out w2 hg2 ha2
        rw [this.1]
        exact this.2
      | true =>
        rw [hs] at hS
        simp only [if_true] at hS
        have hlt : r'.tail.length ≤ l.length := by have := hL.out.le; rw [List.length_tail]; omega
        have hP1 := fun w' ha => HP.out w' r'.tail ha hlt
        cases hp1 : p r'.tail with
        | error y =>
          rw [hp1] at hP1
          have hx := Lib.hid (li_err hL.out hs hp1)
          have hgr := hL.out.gr
          clear hs hAt hL HL hp1 HP HSk
          go_wp2_with (first | (go_at_call 68; refine hS.mono ?_; rintro e' w2 ⟨rfl, hg2, ha2⟩) | (go_at_call 89; refine (hP1 _ ha2).mono ?_; intro e' w3 ho; obtain ⟨hg3, rfl⟩ := out_e ho))
          refine ⟨rfl, ?_⟩
          rw [hx.out]
          exact out_err (grown_trans (grown_trans hgr hg2) hg3)
        | ok ar =>
          obtain ⟨a2, r2⟩ := ar
          rw [hp1] at hP1
          have HN := Lib.hid (fun w1 w2 w3 hg1 hg2 c hc hEc ha v' hown hg3 hloc => li_next hE h hL.out hs hp1 (w1 := w1) (w2 := w2) (w3 := w3) hg1 hg2 c hc hEc ha (v' := v') hown hg3 hloc)
          have hfew : cs.length ≤ 100000 := by have := hL.out.few; have := h.ok.n; omega
          have hown := hL.out.own
          have hlv := Lib.hid hown.lt
          have hsz := Lib.hid hL.out.gr.size
          obtain ⟨vA, vc, rfl⟩ := own_form hown
          clear hs hAt hp1 HP HSk HL
          go_wp2_with (first | (go_at_call 68; refine hS.mono ?_; rintro e' w2 ⟨rfl, hg2, ha2⟩) | (go_at_call 89; refine (hP1 _ ha2).mono ?_; intro e' w3 ho; obtain ⟨hg3, v3, rfl, ⟨c2, hc2, hEc2, hv3⟩, ha3⟩ := out_o ho; clear ho; have hown3 := li_own (hlv.out) (grown_trans hg2 hg3) hb hown; have hone := ndK.one hEc2; have hsz3 := Nat.le_trans hsz.out (grown_trans hg2 hg3).size; obtain ⟨uk, umn, umx, ⟨⟨bkd, bbd, bbn, bcs, bnm⟩, bsc⟩, usk, uks⟩ := c2; obtain ⟨⟨yA, yn, yc, rfl⟩, ⟨zA, zn, zc, rfl⟩⟩ := tr_form hEc2; have hv4 : v3 = .agg #[.int .i64 uk, .int .i64 umn, .int .i64 umx, .int .i64 bkd, .bool bbd, .int .u64 bbn, .slice yA yn yc, .string (strOf bnm), .slice zA zn zc] := hv3; subst hv4; have HNc := Lib.hid (HN.out w2 w3); have HE2 := Lib.hid hEc2; have HA2 := Lib.hid ha3; have HC2 := Lib.hid hc2; clear hc2 hEc2 ha3 hv3) | (at_builtin; refine wpList_append_own_at _ rfl _ _ 27 rfl w.heap.size 29 i0 (.agg #[.int .i64 0, .int .i64 0, .int .i64 0, .int .i64 0, .bool false, .int .u64 0, .slice none 0 0, .string ⟨#[]⟩, .slice none 0 0]) 9 112 Tryz.underlying27 hi hz0 hz1 hz2 rfl (by decide) _ _ _ rfl (hown3.alloc _) ⟨w3.heap.size, 0, none⟩ 1 1 (ndK.cells (Tr.mk uk umn umx ⟨⟨bkd, bbd, bbn, bcs, bnm⟩, .slice yA yn yc⟩ (.slice zA zn zc) uks)) rfl rfl (new_cells _) hone (by unfold maxLen; omega) (by omega) (by rw [World.size_alloc]; omega) ?_; intro v' w4 hown' hgrow hnil hloc))
          obtain ⟨m', rfl, hL4⟩ := HNc.out w4 hg2 hg3 (Tr.mk uk umn umx ⟨⟨bkd, bbd, bbn, bcs, bnm⟩, .slice yA yn yc⟩ (.slice zA zn zc) uks) HC2.out HE2.out HA2.out v' hown' hgrow hloc
          go_roundg (m' + 1)
          case rel => exact ⟨_, _, _, rfl, Lib.hid hL4⟩
          case measure => omega
end Go.Proofs.YtdjaijhlhhnmeaaGreatDoor
