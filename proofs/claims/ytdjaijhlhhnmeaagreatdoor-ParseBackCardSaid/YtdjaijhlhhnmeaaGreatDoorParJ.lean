/- Walk: an atom. Made by program (wip/tools/gen_parJ.py). -/
import Derived.Test.YtdjaijhlhhnmeaaGreatDoorParI
namespace Go.Proofs.YtdjaijhlhhnmeaaGreatDoor
open Go.RowKit
open A8 Tk7 P9

/-- An atom as a value. -/
def IsA (W : World) (a : A8.At) (v : Value) : Prop := ∃ sc, OneA W ⟨a, sc⟩ ∧ v = .agg #[.int .i64 a.kd, .bool a.bd, .int .u64 a.bn, sc, .string (strOf a.nm)]
/-- What stands while an atom is read: it lies in the block A. -/
structure ACut (w : World) (b : Nat) (g : G9) (A : Nat) (us : List Value) (sv : Value) (cs : List Cn) (r : List T) (wx : World) : Prop where
  lt : w.heap.size < A
  gr : w.grownBy wx (some b)
  at9 : At9 wx b g r
  res : Blk wx w.heap.size [.int .i64 0, .bool false, .int .u64 0, .slice none 0 0, .string ⟨#[]⟩]
  blk : Blk wx A us
  sl : ∃ m, A < m ∧ Sl (hide (fun k => decide (k < m)) wx) 2 cs.length sv (cs.flatMap cnC)
  ok : ∀ c ∈ cs, okC c
theorem acut_turn {w : World} {b : Nat} {g : G9} {l : List T} (h0 : At9 w b g l) {A : Nat} {us : List Value} {sv : Value} {cs : List Cn} {r r2 : List T} {wx w2 : World} (h : ACut w b g A us sv cs r wx) (hg : wx.grownBy w2 (some b)) (ha : At9 w2 b g r2) : ACut w b g A us sv cs r2 w2 := by
  have hb := h0.lt
  have hl := h.lt
  obtain ⟨m, hm, hs⟩ := h.sl
  exact ⟨h.lt, grown_trans h.gr hg, ha, h.res.grown hg (fun e => by injection e with e; omega), h.blk.grown hg (fun e => by injection e with e; omega), ⟨m, hm, sl_le hs ((Tn.grown hg (by omega)).le (Nat.le_refl _))⟩, h.ok⟩
theorem acut_set {w : World} {b : Nat} {g : G9} {l : List T} (h0 : At9 w b g l) {A : Nat} {us : List Value} {sv : Value} {cs : List Cn} {r : List T} {wx : World} (h : ACut w b g A us sv cs r wx) (i : Nat) (u : Value) : ACut w b g A (us.set i u) sv cs r (wx.setCell ⟨A, i, none⟩ u) := by
  have hb := h0.lt
  have hl := h.lt
  have ho : Only A wx (wx.setCell ⟨A, i, none⟩ u) := (Only.refl A wx).setCell i u
  have hg := grown_only h.gr (Nat.le_of_lt hl) ho
  obtain ⟨m, hm, hs⟩ := h.sl
  exact ⟨h.lt, hg, at9_end h0 h.at9 hg ho (by omega), h.res.other (p := ⟨A, i, none⟩) (by simp only; omega) u, h.blk.set i u, ⟨m, hm, sl_le hs ((Tn.only ho hm).le (Nat.le_refl _))⟩, h.ok⟩
theorem acut_list {w : World} {b : Nat} {g : G9} {l : List T} (h0 : At9 w b g l) {A : Nat} {us : List Value} {sv v2 : Value} {cs cs2 : List Cn} {r r2 : List T} {wx w2 : World} (h : ACut w b g A us sv cs r wx) (hg : wx.grownBy w2 (some b)) (ha : At9 w2 b g r2) (hv : IsL cnK (hide (fun k => decide (k < wx.heap.size)) w2) cs2 v2) : ACut w b g A (us.set 3 v2) v2 cs2 r2 (w2.setCell ⟨A, 3, none⟩ v2) := by
  have h1 := acut_turn h0 h hg ha
  obtain ⟨ds, hd, hs, he⟩ := hv
  obtain rfl : ds = cs2 := by rw [← hd]; exact (List.map_id ds).symm
  have hlA := h.blk.lt
  have h2 : ACut w b g A us v2 ds r2 w2 := ⟨h1.lt, h1.gr, h1.at9, h1.res, h1.blk, ⟨_, hlA, hs⟩, he⟩
  exact acut_set h0 h2 3 v2
theorem isl_form {α γ : Type} {K : Elt α γ} {W : World} {zs : List α} {v : Value} (h : IsL K W zs v) : ∃ A m c, v = .slice A m c := by
  obtain ⟨cs, _, h2, _⟩ := h
  exact sl_form h2
theorem isE_c {W : World} {c : Cn} {v : Value} (h : IsC W c v) : IsE cnK W c v := ⟨c, rfl, h.2, h.1⟩
theorem condL {w : World} {b : Nat} {g : G9} {l : List T} (h : At9 w b g l) :
    Calls Tryz.prog 94 #[.pointer (some ⟨b, 0, none⟩), .string (strOf [44]), .func (.func 95) #[.pointer (some ⟨b, 0, none⟩)] #[]] w (Out9 w b g (listP [44] (condP g.e) l) (IsL cnK)) :=
  condList (condP g.e) (cond_ends g.e) h fun _ _ ha _ => (cond9 ha).mono fun _ _ ho => out_mono (fun _ _ _ hv => isE_c hv) ho
theorem letter_range {g : G9} {w : World} {b : Nat} {l : List T} (h : At9 w b g l) {k : Int} {r : List T} (hk : letterP g.e l = .ok (k, r)) : 0 ≤ k ∧ k ≤ 25 := by
  cases l with
  | nil => cases hk
  | cons t l =>
    simp only [letterP] at hk
    split at hk
    · rename_i h2
      cases hk
      obtain ⟨_, _, _, _, _, _, _, _, _, h1⟩ := h.parts
      have h3 := h.ok.tok t (h1 t _ rfl).2.2.1
      rw [h2] at h3
      obtain ⟨c, h4, h5⟩ := tok_letter h3
      rw [h4]
      unfold largeB at h5
      simp only [Bool.and_eq_true, decide_eq_true_eq] at h5
      simp only [List.headD_cons]
      omega
    · cases hk
theorem name_len {e : Nat} {l : List T} {s : List UInt8} {r : List T} (h : nameP e l = .ok (s, r)) : nameB s = true := by
  cases l with
  | nil => cases h
  | cons t l =>
    simp only [nameP] at h
    split at h
    · rename_i hn
      cases h
      exact hn
    · cases h
set_option maxRecDepth 100000 in
set_option maxHeartbeats 4000000 in
theorem atom9 {w : World} {b : Nat} {g : G9} {l : List T} (h : At9 w b g l) :
    Calls Tryz.prog 45 #[.pointer (some ⟨b, 0, none⟩)] w (Out9 w b g (atomP g.e l) IsA) := by
  have hb := h.lt
  have hL0 := fun w' (ha : At9 w' b g l) => letter_any ha
  obtain ⟨XX, hXX⟩ : ∃ XX, XX = atomP g.e l := ⟨_, rfl⟩
  rw [← hXX]
  unfold atomP at hXX
  have hR0 : Blk (w.alloc (.cells #[.int .i64 0, .bool false, .int .u64 0, .slice none 0 0, .string ⟨#[]⟩] 26)) w.heap.size [.int .i64 0, .bool false, .int .u64 0, .slice none 0 0, .string ⟨#[]⟩] := Blk.is _ rfl
  cases h1 : letterP g.e l with
  | error y =>
    rw [h1, andThen_err] at hXX
    rw [h1] at hL0
    have HXX := Lib.hid hXX
    clear hXX
    go_enter Tryz.func45, Tryz.ntmps45
    go_wp2_with (go_at_call 92; refine (hL0 _ (h.later (b1 _ _))).mono ?_; intro e' w2 ho; obtain ⟨hg2, rfl⟩ := out_e ho)
    exact ⟨rfl, by rw [HXX.out]; exact out_err (grown_to (b1 _ _) hg2)⟩
  | ok ar =>
    obtain ⟨k, r1⟩ := ar
    rw [h1, andThen_ok] at hXX
    have hkr := letter_range h h1
    rw [h1] at hL0
    have hS := fun x (hx : x ≠ []) w' r' (ha : At9 w' b g r') => skips_any x hx ha
    have HXX := Lib.hid hXX
    clear hXX h1
    go_enter Tryz.func45, Tryz.ntmps45
    go_upto_if 12 with (first | (go_at_call 92; refine (hL0 _ (h.later (b1 _ _))).mono ?_; intro e' w1 ho; obtain ⟨hg1, v1, rfl, rfl, ha1⟩ := out_o ho; clear ho) | (go_at_call 68; refine (hS [64] (by decide) _ _ (ha1.later (b1 _ _))).mono ?_; rintro e' w3 ⟨rfl, hg3, ha3⟩))
    have hC3 : ACut w b g w1.heap.size [.int .i64 k, .bool false, .int .u64 0, .slice none 0 0, .string (strOf [])] (.slice none 0 0) [] (if seesP [64] r1 = true then r1.tail else r1) w3 := by
      have hg01 : w.grownBy w1 (some b) := grown_to (b1 _ _) hg1
      have hR1 := hR0.grown hg1 (fun e => by injection e with e; omega)
      have hc0 : ACut w b g w1.heap.size [.int .i64 k, .bool false, .int .u64 0, .slice none 0 0, .string (strOf [])] (.slice none 0 0) [] r1 (w1.alloc (.cells #[.int .i64 k, .bool false, .int .u64 0, .slice none 0 0, .string ⟨#[]⟩] 26)) :=
        ⟨hR1.lt, grown_trans hg01 (grown_of b (b1 _ _)), ha1.later (b1 _ _), hR1.alloc _, Blk.is (us := [.int .i64 k, .bool false, .int .u64 0, .slice none 0 0, .string ⟨#[]⟩]) _ rfl, ⟨w1.heap.size + 1, by omega, Sl.nil _ 2⟩, fun c hc => by cases hc⟩
      exact acut_turn h hc0 hg3 ha3
    obtain ⟨A, hA⟩ : ∃ A, A = w1.heap.size := ⟨_, rfl⟩
    rw [← hA] at hC3 ⊢
    clear ha3 hg3 ha1 hg1 hA hR0
    go_cut [] (fun wx => ∃ bd bn r2, boundP g.e r1 = .ok ((bd, bn), r2) ∧ (0 ≤ bn ∧ bn < 18446744073709551616) ∧ ACut w b g A [.int .i64 k, .bool bd, .int .u64 bn, .slice none 0 0, .string (strOf [])] (.slice none 0 0) [] r2 wx)
    case first =>
      cases hs : seesP [64] r1 with
      | false =>
        rw [hs] at hC3
        have hB : boundP g.e r1 = .ok ((false, 0), r1) := by unfold boundP; rw [if_neg (by rw [hs]; decide)]
        have HB := Lib.hid hB
        clear hB hs
        go_wp2_with fail
        go_meet
        case rel => exact ⟨_, _, _, HB.out, by decide, hC3⟩
      | true =>
        rw [hs] at hC3
        simp only [if_true] at hC3
        have hLb := fun w' (ha : At9 w' b g r1.tail) => label9 ha
        cases hl : labelP g.e r1.tail with
        | error y =>
          have hB : boundP g.e r1 = .error y := by unfold boundP; rw [if_pos hs, hl]; rfl
          have hxx := HXX.out
          rw [hB, andThen_err] at hxx
          have HX2 := Lib.hid hxx
          rw [hl] at hLb
          clear hxx hB hs hl
          go_wp2_with (go_at_call 93; refine (hLb _ hC3.at9).mono ?_; intro e' w4 ho; obtain ⟨hg4, rfl⟩ := out_e ho)
          exact ⟨rfl, by rw [HX2.out]; exact out_err (grown_trans hC3.gr hg4)⟩
        | ok ar =>
          obtain ⟨x, r2⟩ := ar
          have hB : boundP g.e r1 = .ok ((true, x), r2) := by unfold boundP; rw [if_pos hs, hl]; rfl
          have HB := Lib.hid hB
          rw [hl] at hLb
          clear hB hs hl
          have HC := Lib.hid (fun w4 hg ha => acut_set h (acut_set h (acut_turn h hC3 (w2 := w4) (r2 := r2) hg ha) 1 (.bool true)) 2 (.int .u64 x))
          have hbk := fun w4 hg ha => (acut_turn h hC3 (w2 := w4) (r2 := r2) hg ha).blk
          have hat := hC3.at9
          clear hC3
          go_wp2_with (go_at_call 93; refine (hLb _ hat).mono ?_; intro e' w4 ho; obtain ⟨hg4, v4, rfl, ⟨rfl, hx⟩, ha4⟩ := out_o ho; clear ho; have hK := hbk w4 hg4 ha4; have k1 := hK.cell 1 _ rfl; have k2 := hK.cell 2 _ rfl; have q1 := hK.fr 1 _ rfl; have q2 := hK.fr 2 _ rfl)
          go_meet
          case rel => exact ⟨_, _, _, HB.out, hx, HC.out w4 hg4 ha4⟩
    case rest =>
      obtain ⟨bd, bn, r2, hB, hbn, hC4⟩ := hcut
      have hxx := HXX.out
      rw [hB, andThen_ok] at hxx
      replace HXX := Lib.hid hxx
      clear hxx hB hC3
      go_upto_if 20 with (go_at_call 68; refine (hS [91] (by decide) _ _ hC4.at9).mono ?_; rintro e' w5 ⟨rfl, hg5, ha5⟩)
      have hC5 := acut_turn h hC4 hg5 ha5
      clear hC4 hg5 ha5
      go_cut [] (fun wx => ∃ cs r3 sA sn sc, condsP g.e r2 = .ok (cs, r3) ∧ ACut w b g A [.int .i64 k, .bool bd, .int .u64 bn, .slice sA sn sc, .string (strOf [])] (.slice sA sn sc) cs r3 wx)
      case first =>
        cases hs : seesP [91] r2 with
        | false =>
          rw [hs] at hC5
          have hB : condsP g.e r2 = .ok ([], r2) := by unfold condsP; rw [if_neg (by rw [hs]; decide)]
          have HB := Lib.hid hB
          clear hB hs
          go_wp2_with fail
          go_meet
          case rel => exact ⟨_, _, _, _, _, HB.out, hC5⟩
        | true =>
          rw [hs] at hC5
          simp only [if_true] at hC5
          have hLc := fun w' (ha : At9 w' b g r2.tail) => condL ha
          have hat := hC5.at9
          cases hl : listP [44] (condP g.e) r2.tail with
          | error y =>
            have hB : condsP g.e r2 = .error y := by unfold condsP; rw [if_pos hs, hl]; rfl
            have hxx := HXX.out
            rw [hB, andThen_err] at hxx
            have HX2 := Lib.hid hxx
            rw [hl] at hLc
            have hgr := hC5.gr
            clear hxx hB hs hl hC5
            go_wp2_with (go_at_call 94; refine (hLc _ hat).mono ?_; intro e' w6 ho; obtain ⟨hg6, rfl⟩ := out_e ho)
            exact ⟨rfl, by rw [HX2.out]; exact out_err (grown_trans hgr hg6)⟩
          | ok ar =>
            obtain ⟨cs, r3⟩ := ar
            rw [hl] at hLc
            have hM := fun w' (ha : At9 w' b g r3) => must_any [93] (by decide) ha
            have HC := Lib.hid (fun w6 v hg ha hv => acut_list h hC5 (w2 := w6) (r2 := r3) (v2 := v) (cs2 := cs) hg ha hv)
            have hbk := fun w6 hg ha => (acut_turn h hC5 (w2 := w6) (r2 := r3) hg ha).blk
            cases hm : wantP g.e [93] r3 with
            | error y =>
              have hB : condsP g.e r2 = .error y := by unfold condsP; rw [if_pos hs, hl, andThen_ok, hm]; rfl
              have hxx := HXX.out
              rw [hB, andThen_err] at hxx
              have HX2 := Lib.hid hxx
              rw [hm] at hM
              clear hxx hB hs hl hC5 hm
              go_wp2_with (first | (go_at_call 94; refine (hLc _ hat).mono ?_; intro e' w6 ho; obtain ⟨hg6, v6, rfl, hv6, ha6⟩ := out_o ho; clear ho; obtain ⟨sA, sn, sc, rfl⟩ := isl_form hv6; have hK := hbk w6 hg6 ha6; have k3 := hK.cell 3 _ rfl; have q3 := hK.fr 3 _ rfl; have HC7 := HC.out w6 _ hg6 ha6 hv6) | (go_at_call 66; refine (hM _ HC7.at9).mono ?_; intro e' w8 ho; obtain ⟨hg8, rfl⟩ := out_e ho))
              exact ⟨rfl, by rw [HX2.out]; exact out_err (grown_trans HC7.gr hg8)⟩
            | ok ar =>
              obtain ⟨⟨⟩, r4⟩ := ar
              have hB : condsP g.e r2 = .ok (cs, r4) := by unfold condsP; rw [if_pos hs, hl, andThen_ok, hm]; rfl
              have HB := Lib.hid hB
              rw [hm] at hM
              clear hB hs hl hC5 hm
              go_wp2_with (first | (go_at_call 94; refine (hLc _ hat).mono ?_; intro e' w6 ho; obtain ⟨hg6, v6, rfl, hv6, ha6⟩ := out_o ho; clear ho; obtain ⟨sA, sn, sc, rfl⟩ := isl_form hv6; have hK := hbk w6 hg6 ha6; have k3 := hK.cell 3 _ rfl; have q3 := hK.fr 3 _ rfl; have HC7 := HC.out w6 _ hg6 ha6 hv6) | (go_at_call 66; refine (hM _ HC7.at9).mono ?_; intro e' w8 ho; obtain ⟨hg8, v8, rfl, hv8, ha8⟩ := out_o ho; cases hv8))
              go_meet
              case rel => exact ⟨_, _, _, _, _, HB.out, acut_turn h HC7 hg8 ha8⟩
      case rest =>
        obtain ⟨cs, r3, sA, sn, sc, hB, hC6⟩ := hcut
        have hxx := HXX.out
        rw [hB, andThen_ok] at hxx
        replace HXX := Lib.hid hxx
        clear hxx hB hC5
        go_upto_if 33 with (go_at_call 68; refine (hS [58] (by decide) _ _ hC6.at9).mono ?_; rintro e' w7 ⟨rfl, hg7, ha7⟩)
        have hC7 := acut_turn h hC6 hg7 ha7
        clear hC6 hg7 ha7
        go_cut [] (fun wx => ∃ nm r4, nmP g.e r3 = .ok (nm, r4) ∧ nm.length ≤ 100000 ∧ ACut w b g A [.int .i64 k, .bool bd, .int .u64 bn, .slice sA sn sc, .string (strOf nm)] (.slice sA sn sc) cs r4 wx)
        case first =>
          cases hs : seesP [58] r3 with
          | false =>
            rw [hs] at hC7
            have hB : nmP g.e r3 = .ok ([], r3) := by unfold nmP; rw [if_neg (by rw [hs]; decide)]
            have HB := Lib.hid hB
            clear hB hs
            go_wp2_with fail
            go_meet
            case rel => exact ⟨_, _, HB.out, by simp, hC7⟩
          | true =>
            rw [hs] at hC7
            simp only [if_true] at hC7
            have hNm := fun w' (ha : At9 w' b g r3.tail) => name9 ha
            have hat := hC7.at9
            cases hl : nameP g.e r3.tail with
            | error y =>
              have hB : nmP g.e r3 = .error y := by unfold nmP; rw [if_pos hs, hl]
              have hxx := HXX.out
              rw [hB, andThen_err] at hxx
              have HX2 := Lib.hid hxx
              rw [hl] at hNm
              have hgr := hC7.gr
              clear hxx hB hs hl hC7
              go_wp2_with (go_at_call 96; refine (hNm _ hat).mono ?_; intro e' w8 ho; obtain ⟨hg8, rfl⟩ := out_e ho)
              exact ⟨rfl, by rw [HX2.out]; exact out_err (grown_trans hgr hg8)⟩
            | ok ar =>
              obtain ⟨nm, r4⟩ := ar
              have hB : nmP g.e r3 = .ok (nm, r4) := by unfold nmP; rw [if_pos hs, hl]
              have HB := Lib.hid hB
              have hnl := (name_facts (name_len hl)).2.2.2
              rw [hl] at hNm
              have HC := Lib.hid (fun w8 hg ha => acut_set h (acut_turn h hC7 (w2 := w8) (r2 := r4) hg ha) 4 (.string (strOf nm)))
              have hbk := fun w8 hg ha => (acut_turn h hC7 (w2 := w8) (r2 := r4) hg ha).blk
              clear hB hs hl hC7
              go_wp2_with (go_at_call 96; refine (hNm _ hat).mono ?_; intro e' w8 ho; obtain ⟨hg8, v8, rfl, rfl, ha8⟩ := out_o ho; clear ho; have hK := hbk w8 hg8 ha8; have k4 := hK.cell 4 _ rfl; have q4 := hK.fr 4 _ rfl)
              go_meet
              case rel => exact ⟨_, _, HB.out, by omega, HC.out w8 hg8 ha8⟩
        case rest =>
          obtain ⟨nm, r4, hB, hnl, hC8⟩ := hcut
          have hxx := HXX.out
          rw [hB, andThen_ok] at hxx
          replace HXX := Lib.hid hxx
          clear hxx hB hC7
          have k0 := hC8.blk.cell 0 _ rfl
          have k1 := hC8.blk.cell 1 _ rfl
          have k2 := hC8.blk.cell 2 _ rfl
          have k3 := hC8.blk.cell 3 _ rfl
          have k4 := hC8.blk.cell 4 _ rfl
          have c0 := hC8.res.cell 0 _ rfl
          have c1 := hC8.res.cell 1 _ rfl
          have c2 := hC8.res.cell 2 _ rfl
          have c3 := hC8.res.cell 3 _ rfl
          have c4 := hC8.res.cell 4 _ rfl
          have f0 := hC8.res.fr 0 _ rfl
          have f1 := hC8.res.fr 1 _ rfl
          have f2 := hC8.res.fr 2 _ rfl
          have f3 := hC8.res.fr 3 _ rfl
          have f4 := hC8.res.fr 4 _ rfl
          go_wp2
          refine named_post fun V hV => ?_
          obtain ⟨hVb, hVo⟩ := res_out (us := [.int .i64 k, .bool bd, .int .u64 bn, .slice sA sn sc, .string (strOf nm)]) hC8.res rfl hV
          have hg : w.grownBy V (some b) := grown_only hC8.gr (Nat.le_refl _) hVo
          have haV : At9 V b g r4 := at9_end h hC8.at9 hg hVo (by omega)
          obtain ⟨m, hm, hsl⟩ := hC8.sl
          have hsV := sl_le hsl ((Tn.only hVo (by have := hC8.lt; omega)).le (m' := w.heap.size) (by have := hC8.lt; omega))
          have hok := hC8.ok
          clear hV c0 c1 c2 c3 c4 f0 f1 f2 f3 f4 k0 k1 k2 k3 k4 hC8
          have c0 := hVb.cell 0 _ rfl
          have c1 := hVb.cell 1 _ rfl
          have c2 := hVb.cell 2 _ rfl
          have c3 := hVb.cell 3 _ rfl
          have c4 := hVb.cell 4 _ rfl
          exact bodyPost_ret (v := .agg #[.int .i64 k, .bool bd, .int .u64 bn, .slice sA sn sc, .string (strOf nm)]) (by simp [results, Tryz.results45, go_sem, c0, c1, c2, c3, c4]; try rfl) rfl (by rw [HXX.out]; exact out_ok hg ⟨_, ⟨⟨(by unfold okV; simp only; omega), hbn, hok, (by unfold maxLen; simp only; omega)⟩, hsV⟩, rfl⟩ haV)
end Go.Proofs.YtdjaijhlhhnmeaaGreatDoor
