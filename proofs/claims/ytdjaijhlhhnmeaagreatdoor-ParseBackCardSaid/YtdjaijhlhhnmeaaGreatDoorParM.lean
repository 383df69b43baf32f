/- Walk: a query. Made by program (wip/tools/gen_parM.py). -/
import Derived.Test.YtdjaijhlhhnmeaaGreatDoorParL
import Derived.Test.YtdjaijhlhhnmeaaGreatDoorParE
import Derived.Test.YtdjaijhlhhnmeaaGreatDoorAstThr
namespace Go.Proofs.YtdjaijhlhhnmeaaGreatDoor
open Go.RowKit
open A8 Tk7 P9

theorem made_cut {w w2 w3 : World} {b : Nat} {g : G9} {l r : List T} (h : At9 w b g l) {o : Obj} {zs : List Value} {t : TypeId} (hR0 : Blk (w.alloc o) w.heap.size zs) (hg2 : (w.alloc o).grownBy w2 (some b)) (hg3 : w2.grownBy w3 (some b)) (ha3 : At9 w3 b g r) {us : List Value} {D : World → Prop} (hmono : ∀ {W W'}, D W → Le W W' → D W') (hD : D (hide (fun k => decide (k < w2.heap.size)) w3)) :
    BCut w b g w3.heap.size zs us D r (w3.alloc (.cells us.toArray t)) := by
  have hb := h.lt
  have hnb : some w.heap.size ≠ some b := fun e => by injection e with e; omega
  have hR2 := hR0.grown hg2 hnb
  have hR3 := hR2.grown hg3 hnb
  have hlt := hR2.lt
  refine ⟨hR3.lt, grown_trans (grown_trans (grown_to (b1 _ _) hg2) hg3) (grown_of b (b1 _ _)), ha3.later (b1 _ _), hR3.alloc _, Blk.new w3 us t, hmono hD (hide_le (b1 w3 (.cells us.toArray t)).size fun k hk hx => ?_)⟩
  simp only [decide_eq_false_iff_not] at hx
  refine ⟨?_, (b1 w3 (.cells us.toArray t)).block k hk⟩
  simp only [Bool.or_eq_false_iff, decide_eq_false_iff_not, beq_eq_false_iff_ne]
  omega
/-- .. with more, in blocks that are newer still. -/
theorem bcut_add {w : World} {b : Nat} {g : G9} {l : List T} (h0 : At9 w b g l) {A : Nat} {zs us : List Value} {D D2 : World → Prop} (hD : ∀ {W W'}, D W → Le W W' → D W') (hD2 : ∀ {W W'}, D2 W → Le W W' → D2 W') {r r2 : List T} {wx w2 : World} (h : BCut w b g A zs us D r wx) (hg : wx.grownBy w2 (some b)) (ha : At9 w2 b g r2) (hv : D2 (hide (fun k => decide (k < wx.heap.size)) w2)) (i : Nat) (u : Value) : BCut w b g A zs (us.set i u) (fun W => D W ∧ D2 W) r2 (w2.setCell ⟨A, i, none⟩ u) := by
  have h1 := bcut_turn h0 hD h hg ha
  have hlA := h.blk.lt
  have hl := h.lt
  have h2 : BCut w b g A zs us (fun W => D W ∧ D2 W) r2 w2 := ⟨h1.lt, h1.gr, h1.at9, h1.res, h1.blk, h1.dat, hD2 hv (hide_le (Nat.le_refl _) fun k _ hx => by
    simp only [decide_eq_false_iff_not] at hx
    refine ⟨?_, rfl⟩
    simp only [Bool.or_eq_false_iff, decide_eq_false_iff_not, beq_eq_false_iff_ne]
    omega)⟩
  exact bcut_set h0 (fun hx hle => ⟨hD hx.1 hle, hD2 hx.2 hle⟩) h2 i u
theorem isL_le {α γ : Type} {K : Elt α γ} {W W' : World} {zs : List α} {v : Value} (h : IsL K W zs v) (hl : Le W W') : IsL K W' zs v := by
  obtain ⟨cs, h1, h2, h3⟩ := h
  exact ⟨cs, h1, sl_le h2 hl, fun c hc => K.mono (h3 c hc) hl⟩
/-- A query as a value. -/
def IsQ (W : World) (q : Qu) (v : Value) : Prop := ∃ G : GQ, G.qu = q ∧ QW W G ∧ v = .agg G.row.toArray
abbrev quV (nd : List Value) (wi : Int) (sh se : Value) : List Value := nd ++ [.int .u64 wi, sh, se]
abbrev quZ : List Value := quV ndZ 0 (.slice none 0 0) (.slice none 0 0)
theorem haveL {w : World} {b : Nat} {g : G9} {l : List T} (h : At9 w b g l) :
    Calls Tryz.prog 69 #[.pointer (some ⟨b, 0, none⟩), .string (strOf andA), .func (.func 70) #[.pointer (some ⟨b, 0, none⟩)] #[]] w (Out9 w b g (listP andA (haveP g.e) l) (IsL hvK)) :=
  haveList (haveP g.e) (have_ends g.e) h fun _ _ ha _ => (have9 ha fun _ _ ha' => agg9 ha').mono fun _ _ ho => out_mono (fun _ a _ hv => ⟨a, rfl, hv.2, hv.1⟩) ho
theorem aggL {w : World} {b : Nat} {g : G9} {l : List T} (h : At9 w b g l) :
    Calls Tryz.prog 71 #[.pointer (some ⟨b, 0, none⟩), .string (strOf [44]), .func (.func 72) #[.pointer (some ⟨b, 0, none⟩)] #[]] w (Out9 w b g (listP [44] (aggP g.e) l) (IsL agK)) :=
  aggList (aggP g.e) (agg_ends g.e) h fun _ _ ha _ => (agg9 ha).mono fun _ _ ho => out_mono (fun _ a _ hv => ⟨a, rfl, hv.2, hv.1⟩) ho
set_option maxRecDepth 100000 in
set_option maxHeartbeats 4000000 in
theorem query9 (f : Nat) {w : World} {b : Nat} {g : G9} {l : List T} (h : At9 w b g l) (hf : l.length < f) :
    Calls Tryz.prog 35 #[.pointer (some ⟨b, 0, none⟩)] w (Out9 w b g (queryP g.e f l) IsQ) := by
  have hb := h.lt
  have hR0 : Blk (w.alloc (.cells quZ.toArray 33)) w.heap.size quZ := Blk.is _ rfl
  have hP1 := fun w' (ha : At9 w' b g l) => pattern9 f ha hf
  obtain ⟨XX, hXX⟩ : ∃ XX, XX = queryP g.e f l := ⟨_, rfl⟩
  rw [← hXX]
  unfold queryP at hXX
  cases hp : patP g.e f l with
  | error y =>
    rw [hp, andThen_err] at hXX
    rw [hp] at hP1
    have HXX := Lib.hid hXX
    clear hXX
    go_enter Tryz.func35, Tryz.ntmps35
    go_wp2_with (go_at_call 42; refine (hP1 _ (h.later (b1 _ _))).mono ?_; intro e' w3 ho; obtain ⟨hg3, rfl⟩ := out_e ho)
    exact ⟨rfl, by rw [HXX.out]; exact out_err (grown_to (b1 _ _) hg3)⟩
  | ok ar =>
    obtain ⟨nd, r1⟩ := ar
    rw [hp, andThen_ok] at hXX
    rw [hp] at hP1
    have HXX := Lib.hid hXX
    clear hXX hp
    have HS := Lib.hid (fun x (hx : x ≠ []) w' r' (ha : At9 w' b g r') => skips_any x hx ha)
    go_enter Tryz.func35, Tryz.ntmps35
    go_upto_region 2 with (go_at_call 42; refine (hP1 _ (h.later (b1 _ _))).mono ?_; intro e' w3 ho; obtain ⟨hg3, v3, rfl, ⟨t, hn, ht, hv3⟩, ha3⟩ := out_o ho; clear ho; obtain ⟨tk, tmn, tmx, ⟨⟨akd, abd, abn, acs, anm⟩, asc⟩, tsk, tks⟩ := t; obtain ⟨⟨qA, qn, qc, rfl⟩, ⟨rA, rn, rc, rfl⟩⟩ := tr_form ht; have hv4 : v3 = .agg (ndV tk tmn tmx akd abd abn (.slice qA qn qc) anm (.slice rA rn rc)).toArray := hv3; subst hv4; clear hv3)
    have hC3 : BCut w b g w3.heap.size quZ (quV (ndV tk tmn tmx akd abd abn (.slice qA qn qc) anm (.slice rA rn rc)) 0 (.slice none 0 0) (.slice none 0 0)) (fun W => TrW W (.mk tk tmn tmx ⟨⟨akd, abd, abn, acs, anm⟩, .slice qA qn qc⟩ (.slice rA rn rc) tks)) r1 (w3.alloc (.cells (quV (ndV tk tmn tmx akd abd abn (.slice qA qn qc) anm (.slice rA rn rc)) 0 (.slice none 0 0) (.slice none 0 0)).toArray 33)) := made_cut h hR0 (grown_refl _ b) hg3 ha3 trD ht
    obtain ⟨A, hA⟩ : ∃ A, A = w3.heap.size := ⟨_, rfl⟩
    rw [← hA] at hC3 ⊢
    clear hA ha3 hg3 ht
    refine named_wp fun W4 hW4 => ?_
    rw [show (w3.alloc (.cells (quV (ndV tk tmn tmx akd abd abn (.slice qA qn qc) anm (.slice rA rn rc)) 0 (.slice none 0 0) (.slice none 0 0)).toArray 33)) = W4 from hW4.symm] at hC3
    clear hW4
    have hM := fun w' (ha : At9 w' b g r1) => must_any withinA (by decide) ha
    have hat4 := hC3.at9
    have hgr4 := hC3.gr
    cases hm : wantP g.e withinA r1 with
    | error y =>
      have hxx := HXX.out
      rw [hm, andThen_err] at hxx
      have HX2 := Lib.hid hxx
      rw [hm] at hM
      clear hxx hC3 hm
      go_wp2_with (go_at_call 66; refine (hM _ hat4).mono ?_; intro e' w5 ho; obtain ⟨hg5, rfl⟩ := out_e ho)
      exact ⟨rfl, by rw [HX2.out]; exact out_err (grown_trans hgr4 hg5)⟩
    | ok ar =>
      obtain ⟨⟨⟩, r2⟩ := ar
      have hxx := HXX.out
      rw [hm, andThen_ok] at hxx
      replace HXX := Lib.hid hxx
      rw [hm] at hM
      clear hxx hm
      go_upto_region 3 with (go_at_call 66; refine (hM _ hat4).mono ?_; intro e' w5 ho; obtain ⟨hg5, v5, rfl, hv5, ha5⟩ := out_o ho; cases hv5)
      have hC5 := bcut_turn h trD hC3 hg5 ha5
      clear hC3
      have hN := fun w' (ha : At9 w' b g r2) => number9 0 99999 ha
      have hgr5 := hC5.gr
      cases hn1 : numP g.e 0 99999 r2 with
      | error y =>
        have hxx := HXX.out
        rw [hn1, andThen_err] at hxx
        have HX2 := Lib.hid hxx
        rw [hn1] at hN
        clear hxx hC5 hn1
        go_wp2_with (go_at_call 67; refine (hN _ ha5).mono ?_; intro e' w6 ho; obtain ⟨hg6, rfl⟩ := out_e ho)
        exact ⟨rfl, by rw [HX2.out]; exact out_err (grown_trans hgr5 hg6)⟩
      | ok ar =>
        obtain ⟨wi, r3⟩ := ar
        have hwi := (num_range hn1).2
        have hwr : IntKind.u64.wrap wi = wi := by rw [IntKind.wrap_u64]; omega
        have hxx := HXX.out
        rw [hn1, andThen_ok] at hxx
        replace HXX := Lib.hid hxx
        rw [hn1] at hN
        clear hxx hn1
        have HC := Lib.hid (fun w6 hg ha => bcut_set h trD (bcut_turn h trD hC5 (w2 := w6) (r2 := r3) hg ha) 9 (.int .u64 wi))
        have hbk := fun w6 hg ha => (bcut_turn h trD hC5 (w2 := w6) (r2 := r3) hg ha).blk
        clear hC5
        go_upto_region 4 with (go_at_call 67; refine (hN _ ha5).mono ?_; intro e' w6 ho; obtain ⟨hg6, v6, rfl, rfl, ha6⟩ := out_o ho; clear ho; have hK := hbk w6 hg6 ha6; have k9 := hK.cell 9 _ rfl; have q9 := hK.fr 9 _ rfl)
        refine named_wp fun W7 hW7 => ?_
        have hC7 := HC.out w6 hg6 ha6
        rw [← hW7] at hC7
        clear hW7 k9 q9 hK HC hbk
        go_upto_if 20 with (go_at_call 68; refine (HS.out havingA (by decide) _ _ hC7.at9).mono ?_; rintro e' w8 ⟨rfl, hg8, ha8⟩)
        have hC8 := bcut_turn h trD hC7 hg8 ha8
        clear hC7
        go_cut [] (fun wx => ∃ hs r4 hA hn hc, havesP g.e r3 = .ok (hs, r4) ∧ BCut w b g A quZ (quV (ndV tk tmn tmx akd abd abn (.slice qA qn qc) anm (.slice rA rn rc)) wi (.slice hA hn hc) (.slice none 0 0)) (fun W => TrW W (.mk tk tmn tmx ⟨⟨akd, abd, abn, acs, anm⟩, .slice qA qn qc⟩ (.slice rA rn rc) tks) ∧ IsL hvK W hs (.slice hA hn hc)) r4 wx)
        case first =>
          cases hs : seesP havingA r3 with
          | false =>
            rw [hs] at hC8
            have hB : havesP g.e r3 = .ok ([], r3) := by unfold havesP; rw [if_neg (by rw [hs]; decide)]
            have HB := Lib.hid hB
            clear hB hs
            go_wp2_with fail
            go_meet
            case rel => exact ⟨_, _, _, _, _, HB.out, hC8.lt, hC8.gr, hC8.at9, hC8.res, hC8.blk, hC8.dat, [], rfl, Sl.nil _ 4, fun c hc => by cases hc⟩
          | true =>
            rw [hs] at hC8
            simp only [if_true] at hC8
            have hLc := fun w' (ha : At9 w' b g r3.tail) => haveL ha
            have hat := hC8.at9
            have hgr := hC8.gr
            cases hl : listP andA (haveP g.e) r3.tail with
            | error y =>
              have hB : havesP g.e r3 = .error y := by unfold havesP; rw [if_pos hs, hl]
              have hxx := HXX.out
              rw [hB, andThen_err] at hxx
              have HX2 := Lib.hid hxx
              rw [hl] at hLc
              clear hxx hB hs hl hC8
              go_wp2_with (go_at_call 69; refine (hLc _ hat).mono ?_; intro e' w9 ho; obtain ⟨hg9, rfl⟩ := out_e ho)
              exact ⟨rfl, by rw [HX2.out]; exact out_err (grown_trans hgr hg9)⟩
            | ok ar =>
              obtain ⟨hs', r4⟩ := ar
              have hB : havesP g.e r3 = .ok (hs', r4) := by unfold havesP; rw [if_pos hs, hl]
              have HB := Lib.hid hB
              rw [hl] at hLc
              have HC := Lib.hid (fun w9 v hg ha (hv : IsL hvK (hide (fun k => decide (k < w8.heap.size)) w9) hs' v) => bcut_add h trD (D2 := fun W => IsL hvK W hs' v) isL_le hC8 (w2 := w9) (r2 := r4) hg ha hv 10 v)
              have hbk := fun w9 hg ha => (bcut_turn h trD hC8 (w2 := w9) (r2 := r4) hg ha).blk
              clear hB hs hl hC8
              go_wp2_with (go_at_call 69; refine (hLc _ hat).mono ?_; intro e' w9 ho; obtain ⟨hg9, v9, rfl, hv9, ha9⟩ := out_o ho; clear ho; obtain ⟨sA, sn, sc, rfl⟩ := isl_form hv9; have hK := hbk w9 hg9 ha9; have k10 := hK.cell 10 _ rfl; have q10 := hK.fr 10 _ rfl)
              go_meet
              case rel => exact ⟨_, _, _, _, _, HB.out, HC.out w9 _ hg9 ha9 hv9⟩
        case rest =>
          obtain ⟨hs, r4, hA, hn', hc', hB, hC9⟩ := hcut
          have hxx := HXX.out
          rw [hB, andThen_ok] at hxx
          replace HXX := Lib.hid hxx
          clear hxx hB hC8
          have hD1 : ∀ {W W' : World}, (TrW W (.mk tk tmn tmx ⟨⟨akd, abd, abn, acs, anm⟩, .slice qA qn qc⟩ (.slice rA rn rc) tks) ∧ IsL hvK W hs (.slice hA hn' hc')) → Le W W' → (TrW W' (.mk tk tmn tmx ⟨⟨akd, abd, abn, acs, anm⟩, .slice qA qn qc⟩ (.slice rA rn rc) tks) ∧ IsL hvK W' hs (.slice hA hn' hc')) := fun hx hle => ⟨trW_le hx.1 hle, isL_le hx.2 hle⟩
          go_upto_if 29 with (go_at_call 68; refine (HS.out emitA (by decide) _ _ hC9.at9).mono ?_; rintro e' wa ⟨rfl, hga, haa⟩)
          have hCa := bcut_turn h hD1 hC9 hga haa
          clear hC9
          go_cut [] (fun wx => ∃ es r5 eA en ec, emitsP g.e r4 = .ok (es, r5) ∧ BCut w b g A quZ (quV (ndV tk tmn tmx akd abd abn (.slice qA qn qc) anm (.slice rA rn rc)) wi (.slice hA hn' hc') (.slice eA en ec)) (fun W => (TrW W (.mk tk tmn tmx ⟨⟨akd, abd, abn, acs, anm⟩, .slice qA qn qc⟩ (.slice rA rn rc) tks) ∧ IsL hvK W hs (.slice hA hn' hc')) ∧ IsL agK W es (.slice eA en ec)) r5 wx)
          case first =>
            cases hs2 : seesP emitA r4 with
            | false =>
              rw [hs2] at hCa
              have hB : emitsP g.e r4 = .ok ([], r4) := by unfold emitsP; rw [if_neg (by rw [hs2]; decide)]
              have HB := Lib.hid hB
              clear hB hs2
              go_wp2_with fail
              go_meet
              case rel => exact ⟨_, _, _, _, _, HB.out, hCa.lt, hCa.gr, hCa.at9, hCa.res, hCa.blk, hCa.dat, [], rfl, Sl.nil _ 2, fun c hc => by cases hc⟩
            | true =>
              rw [hs2] at hCa
              simp only [if_true] at hCa
              have hLc := fun w' (ha : At9 w' b g r4.tail) => aggL ha
              have hat := hCa.at9
              have hgr := hCa.gr
              cases hl : listP [44] (aggP g.e) r4.tail with
              | error y =>
                have hB : emitsP g.e r4 = .error y := by unfold emitsP; rw [if_pos hs2, hl]
                have hxx := HXX.out
                rw [hB, andThen_err] at hxx
                have HX2 := Lib.hid hxx
                rw [hl] at hLc
                clear hxx hB hs2 hl hCa
                go_wp2_with (go_at_call 71; refine (hLc _ hat).mono ?_; intro e' wb ho; obtain ⟨hgb, rfl⟩ := out_e ho)
                exact ⟨rfl, by rw [HX2.out]; exact out_err (grown_trans hgr hgb)⟩
              | ok ar =>
                obtain ⟨es, r5⟩ := ar
                have hB : emitsP g.e r4 = .ok (es, r5) := by unfold emitsP; rw [if_pos hs2, hl]
                have HB := Lib.hid hB
                rw [hl] at hLc
                have HC := Lib.hid (fun wb v hg ha (hv : IsL agK (hide (fun k => decide (k < wa.heap.size)) wb) es v) => bcut_add h hD1 (D2 := fun W => IsL agK W es v) isL_le hCa (w2 := wb) (r2 := r5) hg ha hv 11 v)
                have hbk := fun wb hg ha => (bcut_turn h hD1 hCa (w2 := wb) (r2 := r5) hg ha).blk
                clear hB hs2 hl hCa
                go_wp2_with (go_at_call 71; refine (hLc _ hat).mono ?_; intro e' wb ho; obtain ⟨hgb, vb, rfl, hvb, hab⟩ := out_o ho; clear ho; obtain ⟨sA, sn, sc, rfl⟩ := isl_form hvb; have hK := hbk wb hgb hab; have k11 := hK.cell 11 _ rfl; have q11 := hK.fr 11 _ rfl)
                go_meet
                case rel => exact ⟨_, _, _, _, _, HB.out, HC.out wb _ hgb hab hvb⟩
          case rest =>
            obtain ⟨es, r5, eA, en', ec', hB, hCc⟩ := hcut
            have hxx := HXX.out
            rw [hB, andThen_ok] at hxx
            replace HXX := Lib.hid hxx
            clear hxx hB hCa
            have k0 := hCc.blk.cell 0 _ rfl
            have k1 := hCc.blk.cell 1 _ rfl
            have k2 := hCc.blk.cell 2 _ rfl
            have k3 := hCc.blk.cell 3 _ rfl
            have k4 := hCc.blk.cell 4 _ rfl
            have k5 := hCc.blk.cell 5 _ rfl
            have k6 := hCc.blk.cell 6 _ rfl
            have k7 := hCc.blk.cell 7 _ rfl
            have k8 := hCc.blk.cell 8 _ rfl
            have k9 := hCc.blk.cell 9 _ rfl
            have k10 := hCc.blk.cell 10 _ rfl
            have k11 := hCc.blk.cell 11 _ rfl
            have c0 := hCc.res.cell 0 _ rfl
            have c1 := hCc.res.cell 1 _ rfl
            have c2 := hCc.res.cell 2 _ rfl
            have c3 := hCc.res.cell 3 _ rfl
            have c4 := hCc.res.cell 4 _ rfl
            have c5 := hCc.res.cell 5 _ rfl
            have c6 := hCc.res.cell 6 _ rfl
            have c7 := hCc.res.cell 7 _ rfl
            have c8 := hCc.res.cell 8 _ rfl
            have c9 := hCc.res.cell 9 _ rfl
            have c10 := hCc.res.cell 10 _ rfl
            have c11 := hCc.res.cell 11 _ rfl
            have f0 := hCc.res.fr 0 _ rfl
            have f1 := hCc.res.fr 1 _ rfl
            have f2 := hCc.res.fr 2 _ rfl
            have f3 := hCc.res.fr 3 _ rfl
            have f4 := hCc.res.fr 4 _ rfl
            have f5 := hCc.res.fr 5 _ rfl
            have f6 := hCc.res.fr 6 _ rfl
            have f7 := hCc.res.fr 7 _ rfl
            have f8 := hCc.res.fr 8 _ rfl
            have f9 := hCc.res.fr 9 _ rfl
            have f10 := hCc.res.fr 10 _ rfl
            have f11 := hCc.res.fr 11 _ rfl
            go_wp2
            refine named_post fun V hV => ?_
            obtain ⟨hVb, hg, haV, hD⟩ := bcut_end h (fun hx hle => ⟨hD1 hx.1 hle, isL_le hx.2 hle⟩) hCc (quV (ndV tk tmn tmx akd abd abn (.slice qA qn qc) anm (.slice rA rn rc)) wi (.slice hA hn' hc') (.slice eA en' ec')) rfl hV
            clear hV c0 c1 c2 c3 c4 c5 c6 c7 c8 c9 c10 c11 f0 f1 f2 f3 f4 f5 f6 f7 f8 f9 f10 f11 k0 k1 k2 k3 k4 k5 k6 k7 k8 k9 k10 k11
            have c0 := hVb.cell 0 _ rfl
            have c1 := hVb.cell 1 _ rfl
            have c2 := hVb.cell 2 _ rfl
            have c3 := hVb.cell 3 _ rfl
            have c4 := hVb.cell 4 _ rfl
            have c5 := hVb.cell 5 _ rfl
            have c6 := hVb.cell 6 _ rfl
            have c7 := hVb.cell 7 _ rfl
            have c8 := hVb.cell 8 _ rfl
            have c9 := hVb.cell 9 _ rfl
            have c10 := hVb.cell 10 _ rfl
            have c11 := hVb.cell 11 _ rfl
            obtain ⟨⟨hT, hs1, hh1, hh2, hh3⟩, es1, he1, he2, he3⟩ := hD
            obtain rfl : hs1 = hs := by rw [← hh1]; exact (List.map_id hs1).symm
            obtain rfl : es1 = es := by rw [← he1]; exact (List.map_id es1).symm
            exact bodyPost_ret (v := .agg (quV (ndV tk tmn tmx akd abd abn (.slice qA qn qc) anm (.slice rA rn rc)) wi (.slice hA hn' hc') (.slice eA en' ec')).toArray) (by simp [results, Tryz.results35, go_sem, c0, c1, c2, c3, c4, c5, c6, c7, c8, c9, c10, c11]; try rfl) rfl (by rw [HXX.out]; exact out_ok hg ⟨⟨(.mk tk tmn tmx ⟨⟨akd, abd, abn, acs, anm⟩, .slice qA qn qc⟩ (.slice rA rn rc) tks), wi, .slice hA hn' hc', hs1, .slice eA en' ec', es1⟩, by rw [← hn]; rfl, ⟨hT, (by have := hwr; simp only; omega), hh2, he2, hh3, he3⟩, rfl⟩ haV)
end Go.Proofs.YtdjaijhlhhnmeaaGreatDoor
