/- Walks: items, sequences, patterns. Made by program (wip/tools/gen_parL.py). -/
import Derived.Test.YtdjaijhlhhnmeaaGreatDoorParK
namespace Go.Proofs.YtdjaijhlhhnmeaaGreatDoor
open Go.RowKit
open A8 Tk7 P9

set_option maxRecDepth 100000 in
set_option maxHeartbeats 4000000 in
theorem item9 {w : World} {b : Nat} {g : G9} {l : List T} (h : At9 w b g l) (pat : List T → R Nd) (L : Nat) (hPat : ∀ w' l', At9 w' b g l' → l'.length < L → Calls Tryz.prog 42 #[.pointer (some ⟨b, 0, none⟩)] w' (Out9 w' b g (pat l') IsNd)) (hlL : l.length ≤ L) :
    Calls Tryz.prog 144 #[.pointer (some ⟨b, 0, none⟩)] w (Out9 w b g (itemP g.e pat l) IsNd) := by
  have hb := h.lt
  have hS1 := fun w' (ha : At9 w' b g l) => skips_any [110, 111, 116] (by decide) ha
  have hR0 : Blk (w.alloc (.cells ndZ.toArray 29)) w.heap.size ndZ := Blk.is _ rfl
  have hnb : some w.heap.size ≠ some b := fun e => by injection e with e; omega
  unfold itemP
  cases hs : seesP [110, 111, 116] l with
  | true =>
    rw [hs] at hS1
    simp only [if_true] at hS1 ⊢
    have hA1 := fun w' (ha : At9 w' b g l.tail) => atom9 ha
    cases hp : atomP g.e l.tail with
    | error y =>
      rw [hp] at hA1
      rw [andThen_err]
      go_enter Tryz.func144, Tryz.ntmps144
      go_wp2_with (first | (go_at_call 68; refine (hS1 _ (h.later (b1 _ _))).mono ?_; rintro e' w2 ⟨rfl, hg2, ha2⟩) | (go_at_call 45; refine (hA1 _ ha2).mono ?_; intro e' w3 ho; obtain ⟨hg3, rfl⟩ := out_e ho))
      exact ⟨rfl, out_err (grown_trans (grown_to (b1 _ _) hg2) hg3)⟩
    | ok ar =>
      obtain ⟨⟨kd, bd, bn, cs, nm⟩, r⟩ := ar
      rw [hp] at hA1
      rw [andThen_ok]
      go_enter Tryz.func144, Tryz.ntmps144
      go_wp2_with (first | (go_at_call 68; refine (hS1 _ (h.later (b1 _ _))).mono ?_; rintro e' w2 ⟨rfl, hg2, ha2⟩) | (go_at_call 45; refine (hA1 _ ha2).mono ?_; intro e' w3 ho; obtain ⟨hg3, v3, rfl, ⟨sc, hga, hv3⟩, ha3⟩ := out_o ho; clear ho; obtain ⟨qA, qn, qc, rfl⟩ := sl_form hga.2; have hv4 : v3 = .agg #[.int .i64 kd, .bool bd, .int .u64 bn, .slice qA qn qc, .string (strOf nm)] := hv3; subst hv4; clear hv3; have hRE := (hR0.grown hg2 hnb).grown hg3 hnb; have c0 := hRE.cell 0 _ rfl; have c1 := hRE.cell 1 _ rfl; have c2 := hRE.cell 2 _ rfl; have c3 := hRE.cell 3 _ rfl; have c4 := hRE.cell 4 _ rfl; have c5 := hRE.cell 5 _ rfl; have c6 := hRE.cell 6 _ rfl; have c7 := hRE.cell 7 _ rfl; have c8 := hRE.cell 8 _ rfl; have f0 := hRE.fr 0 _ rfl; have f1 := hRE.fr 1 _ rfl; have f2 := hRE.fr 2 _ rfl; have f3 := hRE.fr 3 _ rfl; have f4 := hRE.fr 4 _ rfl; have f5 := hRE.fr 5 _ rfl; have f6 := hRE.fr 6 _ rfl; have f7 := hRE.fr 7 _ rfl; have f8 := hRE.fr 8 _ rfl))
      have hg0 := grown_trans (grown_to (b1 _ _) hg2) hg3
      have hmm := (hR0.grown hg2 hnb).lt
      have haE := ha3
      have hdat := hga
      refine named_post fun V hV => ?_
      obtain ⟨hVb, hg, haV, hD⟩ := ret_end h (D := fun W => OneA W ⟨⟨kd, bd, bn, cs, nm⟩, .slice qA qn qc⟩) gaD hmm hg0 haE hRE hdat (ndV 2 0 0 kd bd bn (.slice qA qn qc) nm (.slice none 0 0)) rfl hV
      clear hV c0 c1 c2 c3 c4 c5 c6 c7 c8 f0 f1 f2 f3 f4 f5 f6 f7 f8
      have c0 := hVb.cell 0 _ rfl
      have c1 := hVb.cell 1 _ rfl
      have c2 := hVb.cell 2 _ rfl
      have c3 := hVb.cell 3 _ rfl
      have c4 := hVb.cell 4 _ rfl
      have c5 := hVb.cell 5 _ rfl
      have c6 := hVb.cell 6 _ rfl
      have c7 := hVb.cell 7 _ rfl
      have c8 := hVb.cell 8 _ rfl
      exact bodyPost_ret (v := .agg (ndV 2 0 0 kd bd bn (.slice qA qn qc) nm (.slice none 0 0)).toArray) (by simp [results, Tryz.results144, go_sem, c0, c1, c2, c3, c4, c5, c6, c7, c8]; try rfl) rfl (out_ok hg ⟨.mk 2 0 0 ⟨⟨kd, bd, bn, cs, nm⟩, .slice qA qn qc⟩ (.slice none 0 0) [], rfl, trW_mk ⟨by unfold okV; omega, hD, Sl.nil _ 9⟩ (fun t ht => by cases ht), rfl⟩ haV)
  | false =>
    rw [hs] at hS1
    simp only [Bool.false_eq_true, if_false] at hS1 ⊢
    have hU := fun w' (ha : At9 w' b g l) => unit9 ha pat L hPat hlL
    cases hp : unitP g.e pat l with
    | error y =>
      rw [hp] at hU
      go_enter Tryz.func144, Tryz.ntmps144
      go_wp2_with (first | (go_at_call 68; refine (hS1 _ (h.later (b1 _ _))).mono ?_; rintro e' w2 ⟨rfl, hg2, ha2⟩) | (go_at_call 182; refine (hU _ ha2).mono ?_; intro e' w3 ho; obtain ⟨hg3, rfl⟩ := out_e ho))
      exact ⟨rfl, out_err (grown_trans (grown_to (b1 _ _) hg2) hg3)⟩
    | ok ar =>
      obtain ⟨n, r⟩ := ar
      rw [hp] at hU
      go_enter Tryz.func144, Tryz.ntmps144
      go_wp2_with (first | (go_at_call 68; refine (hS1 _ (h.later (b1 _ _))).mono ?_; rintro e' w2 ⟨rfl, hg2, ha2⟩) | (go_at_call 182; refine (hU _ ha2).mono ?_; intro e' w3 ho; obtain ⟨hg3, v3, rfl, ⟨t, hn, ht, hv3⟩, ha3⟩ := out_o ho; clear ho; obtain ⟨tk, tmn, tmx, ⟨⟨akd, abd, abn, acs, anm⟩, asc⟩, tsk, tks⟩ := t; obtain ⟨⟨qA, qn, qc, rfl⟩, ⟨rA, rn, rc, rfl⟩⟩ := tr_form ht; have hv4 : v3 = .agg (ndV tk tmn tmx akd abd abn (.slice qA qn qc) anm (.slice rA rn rc)).toArray := hv3; subst hv4; clear hv3; have hRE := (hR0.grown hg2 hnb).grown hg3 hnb; have c0 := hRE.cell 0 _ rfl; have c1 := hRE.cell 1 _ rfl; have c2 := hRE.cell 2 _ rfl; have c3 := hRE.cell 3 _ rfl; have c4 := hRE.cell 4 _ rfl; have c5 := hRE.cell 5 _ rfl; have c6 := hRE.cell 6 _ rfl; have c7 := hRE.cell 7 _ rfl; have c8 := hRE.cell 8 _ rfl; have f0 := hRE.fr 0 _ rfl; have f1 := hRE.fr 1 _ rfl; have f2 := hRE.fr 2 _ rfl; have f3 := hRE.fr 3 _ rfl; have f4 := hRE.fr 4 _ rfl; have f5 := hRE.fr 5 _ rfl; have f6 := hRE.fr 6 _ rfl; have f7 := hRE.fr 7 _ rfl; have f8 := hRE.fr 8 _ rfl))
      have hg0 := grown_trans (grown_to (b1 _ _) hg2) hg3
      have hmm := (hR0.grown hg2 hnb).lt
      have haE := ha3
      have hdat : TrW _ (.mk tk tmn tmx ⟨⟨akd, abd, abn, acs, anm⟩, .slice qA qn qc⟩ (.slice rA rn rc) tks) := ht
      refine named_post fun V hV => ?_
      obtain ⟨hVb, hg, haV, hD⟩ := ret_end h (D := fun W => TrW W (.mk tk tmn tmx ⟨⟨akd, abd, abn, acs, anm⟩, .slice qA qn qc⟩ (.slice rA rn rc) tks)) trD hmm hg0 haE hRE hdat (ndV tk tmn tmx akd abd abn (.slice qA qn qc) anm (.slice rA rn rc)) rfl hV
      clear hV c0 c1 c2 c3 c4 c5 c6 c7 c8 f0 f1 f2 f3 f4 f5 f6 f7 f8
      have c0 := hVb.cell 0 _ rfl
      have c1 := hVb.cell 1 _ rfl
      have c2 := hVb.cell 2 _ rfl
      have c3 := hVb.cell 3 _ rfl
      have c4 := hVb.cell 4 _ rfl
      have c5 := hVb.cell 5 _ rfl
      have c6 := hVb.cell 6 _ rfl
      have c7 := hVb.cell 7 _ rfl
      have c8 := hVb.cell 8 _ rfl
      exact bodyPost_ret (v := .agg (ndV tk tmn tmx akd abd abn (.slice qA qn qc) anm (.slice rA rn rc)).toArray) (by simp [results, Tryz.results144, go_sem, c0, c1, c2, c3, c4, c5, c6, c7, c8]; try rfl) rfl (out_ok hg ⟨_, hn, hD, rfl⟩ haV)
set_option maxRecDepth 100000 in
set_option maxHeartbeats 4000000 in
theorem seq9 {w : World} {b : Nat} {g : G9} {l : List T} (h : At9 w b g l) (pat : List T → R Nd) (L : Nat) (hPat : ∀ w' l', At9 w' b g l' → l'.length < L → Calls Tryz.prog 42 #[.pointer (some ⟨b, 0, none⟩)] w' (Out9 w' b g (pat l') IsNd)) (hlL : l.length ≤ L) (hE : P9.Ends pat) :
    Calls Tryz.prog 89 #[.pointer (some ⟨b, 0, none⟩)] w (Out9 w b g (seqP g.e pat l) IsNd) := by
  have hb := h.lt
  have hR0 : Blk (w.alloc (.cells ndZ.toArray 29)) w.heap.size ndZ := Blk.is _ rfl
  have hnb : some w.heap.size ≠ some b := fun e => by injection e with e; omega
  have hL1 := fun w' (ha : At9 w' b g l) => itemList (itemP g.e pat) (item_ends g.e hE) ha fun w'' l'' ha' hl' => item9 ha' pat L hPat (Nat.le_trans hl' hlL)
  unfold seqP
  cases hp : listP [59] (itemP g.e pat) l with
  | error y =>
    rw [hp] at hL1
    rw [andThen_err]
    go_enter Tryz.func89, Tryz.ntmps89
    go_wp2_with (go_at_call 88; refine (hL1 _ (h.later (b1 _ _))).mono ?_; intro e' w3 ho; obtain ⟨hg3, rfl⟩ := out_e ho)
    exact ⟨rfl, out_err (grown_to (b1 _ _) hg3)⟩
  | ok ar =>
    obtain ⟨ns, r⟩ := ar
    have hns : ns ≠ [] := by
      obtain ⟨a, r1, _, h2⟩ := andThen_some hp
      obtain ⟨zs, r2, _, h4⟩ := andThen_some h2
      cases h4
      simp
    rw [hp] at hL1
    rw [andThen_ok]
    have hJ := fun w' v m hv => join9 3 (by unfold okV; omega) ns hns v w' m hv
    go_enter Tryz.func89, Tryz.ntmps89
    go_wp2_with (first | (go_at_call 88; refine (hL1 _ (h.later (b1 _ _))).mono ?_; intro e' w3 ho; obtain ⟨hg3, v2, rfl, hv2, ha3⟩ := out_o ho; clear ho; obtain ⟨lA, ln, lc, rfl⟩ := isl_form hv2) | (go_at_call 87; refine (hJ _ _ _ hv2).mono ?_; rintro e' w4 ⟨hb4, v3, rfl, t, hn, ht, hv3⟩; obtain ⟨tk, tmn, tmx, ⟨⟨akd, abd, abn, acs, anm⟩, asc⟩, tsk, tks⟩ := t; obtain ⟨⟨qA, qn, qc, rfl⟩, ⟨rA, rn, rc, rfl⟩⟩ := tr_form ht; have hv4 : v3 = .agg (ndV tk tmn tmx akd abd abn (.slice qA qn qc) anm (.slice rA rn rc)).toArray := hv3; subst hv4; clear hv3; have hRE := (hR0.grown hg3 hnb).later hb4; have c0 := hRE.cell 0 _ rfl; have c1 := hRE.cell 1 _ rfl; have c2 := hRE.cell 2 _ rfl; have c3 := hRE.cell 3 _ rfl; have c4 := hRE.cell 4 _ rfl; have c5 := hRE.cell 5 _ rfl; have c6 := hRE.cell 6 _ rfl; have c7 := hRE.cell 7 _ rfl; have c8 := hRE.cell 8 _ rfl; have f0 := hRE.fr 0 _ rfl; have f1 := hRE.fr 1 _ rfl; have f2 := hRE.fr 2 _ rfl; have f3 := hRE.fr 3 _ rfl; have f4 := hRE.fr 4 _ rfl; have f5 := hRE.fr 5 _ rfl; have f6 := hRE.fr 6 _ rfl; have f7 := hRE.fr 7 _ rfl; have f8 := hRE.fr 8 _ rfl))
    have hg0 := grown_trans (grown_to (b1 _ _) hg3) (grown_of b hb4)
    have hmm := hR0.lt
    have haE := ha3.later hb4
    have hdat : TrW _ (.mk tk tmn tmx ⟨⟨akd, abd, abn, acs, anm⟩, .slice qA qn qc⟩ (.slice rA rn rc) tks) := ht
    refine named_post fun V hV => ?_
    obtain ⟨hVb, hg, haV, hD⟩ := ret_end h (D := fun W => TrW W (.mk tk tmn tmx ⟨⟨akd, abd, abn, acs, anm⟩, .slice qA qn qc⟩ (.slice rA rn rc) tks)) trD hmm hg0 haE hRE hdat (ndV tk tmn tmx akd abd abn (.slice qA qn qc) anm (.slice rA rn rc)) rfl hV
    clear hV c0 c1 c2 c3 c4 c5 c6 c7 c8 f0 f1 f2 f3 f4 f5 f6 f7 f8
    have c0 := hVb.cell 0 _ rfl
    have c1 := hVb.cell 1 _ rfl
    have c2 := hVb.cell 2 _ rfl
    have c3 := hVb.cell 3 _ rfl
    have c4 := hVb.cell 4 _ rfl
    have c5 := hVb.cell 5 _ rfl
    have c6 := hVb.cell 6 _ rfl
    have c7 := hVb.cell 7 _ rfl
    have c8 := hVb.cell 8 _ rfl
    exact bodyPost_ret (v := .agg (ndV tk tmn tmx akd abd abn (.slice qA qn qc) anm (.slice rA rn rc)).toArray) (by simp [results, Tryz.results89, go_sem, c0, c1, c2, c3, c4, c5, c6, c7, c8]; try rfl) rfl (out_ok hg ⟨_, hn, hD, rfl⟩ haV)
set_option maxRecDepth 100000 in
set_option maxHeartbeats 4000000 in
theorem alt9 {w : World} {b : Nat} {g : G9} {l : List T} (h : At9 w b g l) (pat : List T → R Nd) (L : Nat) (hPat : ∀ w' l', At9 w' b g l' → l'.length < L → Calls Tryz.prog 42 #[.pointer (some ⟨b, 0, none⟩)] w' (Out9 w' b g (pat l') IsNd)) (hlL : l.length ≤ L) (hE : P9.Ends pat) :
    Calls Tryz.prog 42 #[.pointer (some ⟨b, 0, none⟩)] w (Out9 w b g (altP g.e pat l) IsNd) := by
  have hb := h.lt
  have hR0 : Blk (w.alloc (.cells ndZ.toArray 29)) w.heap.size ndZ := Blk.is _ rfl
  have hnb : some w.heap.size ≠ some b := fun e => by injection e with e; omega
  have hL1 := fun w' (ha : At9 w' b g l) => seqList (seqP g.e pat) (seq_ends g.e hE) ha fun w'' l'' ha' hl' => seq9 ha' pat L hPat (Nat.le_trans hl' hlL) hE
  unfold altP
  cases hp : listP [124] (seqP g.e pat) l with
  | error y =>
    rw [hp] at hL1
    rw [andThen_err]
    go_enter Tryz.func42, Tryz.ntmps42
    go_wp2_with (go_at_call 88; refine (hL1 _ (h.later (b1 _ _))).mono ?_; intro e' w3 ho; obtain ⟨hg3, rfl⟩ := out_e ho)
    exact ⟨rfl, out_err (grown_to (b1 _ _) hg3)⟩
  | ok ar =>
    obtain ⟨ns, r⟩ := ar
    have hns : ns ≠ [] := by
      obtain ⟨a, r1, _, h2⟩ := andThen_some hp
      obtain ⟨zs, r2, _, h4⟩ := andThen_some h2
      cases h4
      simp
    rw [hp] at hL1
    rw [andThen_ok]
    have hJ := fun w' v m hv => join9 4 (by unfold okV; omega) ns hns v w' m hv
    go_enter Tryz.func42, Tryz.ntmps42
    go_wp2_with (first | (go_at_call 88; refine (hL1 _ (h.later (b1 _ _))).mono ?_; intro e' w3 ho; obtain ⟨hg3, v2, rfl, hv2, ha3⟩ := out_o ho; clear ho; obtain ⟨lA, ln, lc, rfl⟩ := isl_form hv2) | (go_at_call 87; refine (hJ _ _ _ hv2).mono ?_; rintro e' w4 ⟨hb4, v3, rfl, t, hn, ht, hv3⟩; obtain ⟨tk, tmn, tmx, ⟨⟨akd, abd, abn, acs, anm⟩, asc⟩, tsk, tks⟩ := t; obtain ⟨⟨qA, qn, qc, rfl⟩, ⟨rA, rn, rc, rfl⟩⟩ := tr_form ht; have hv4 : v3 = .agg (ndV tk tmn tmx akd abd abn (.slice qA qn qc) anm (.slice rA rn rc)).toArray := hv3; subst hv4; clear hv3; have hRE := (hR0.grown hg3 hnb).later hb4; have c0 := hRE.cell 0 _ rfl; have c1 := hRE.cell 1 _ rfl; have c2 := hRE.cell 2 _ rfl; have c3 := hRE.cell 3 _ rfl; have c4 := hRE.cell 4 _ rfl; have c5 := hRE.cell 5 _ rfl; have c6 := hRE.cell 6 _ rfl; have c7 := hRE.cell 7 _ rfl; have c8 := hRE.cell 8 _ rfl; have f0 := hRE.fr 0 _ rfl; have f1 := hRE.fr 1 _ rfl; have f2 := hRE.fr 2 _ rfl; have f3 := hRE.fr 3 _ rfl; have f4 := hRE.fr 4 _ rfl; have f5 := hRE.fr 5 _ rfl; have f6 := hRE.fr 6 _ rfl; have f7 := hRE.fr 7 _ rfl; have f8 := hRE.fr 8 _ rfl))
    have hg0 := grown_trans (grown_to (b1 _ _) hg3) (grown_of b hb4)
    have hmm := hR0.lt
    have haE := ha3.later hb4
    have hdat : TrW _ (.mk tk tmn tmx ⟨⟨akd, abd, abn, acs, anm⟩, .slice qA qn qc⟩ (.slice rA rn rc) tks) := ht
    refine named_post fun V hV => ?_
    obtain ⟨hVb, hg, haV, hD⟩ := ret_end h (D := fun W => TrW W (.mk tk tmn tmx ⟨⟨akd, abd, abn, acs, anm⟩, .slice qA qn qc⟩ (.slice rA rn rc) tks)) trD hmm hg0 haE hRE hdat (ndV tk tmn tmx akd abd abn (.slice qA qn qc) anm (.slice rA rn rc)) rfl hV
    clear hV c0 c1 c2 c3 c4 c5 c6 c7 c8 f0 f1 f2 f3 f4 f5 f6 f7 f8
    have c0 := hVb.cell 0 _ rfl
    have c1 := hVb.cell 1 _ rfl
    have c2 := hVb.cell 2 _ rfl
    have c3 := hVb.cell 3 _ rfl
    have c4 := hVb.cell 4 _ rfl
    have c5 := hVb.cell 5 _ rfl
    have c6 := hVb.cell 6 _ rfl
    have c7 := hVb.cell 7 _ rfl
    have c8 := hVb.cell 8 _ rfl
    exact bodyPost_ret (v := .agg (ndV tk tmn tmx akd abd abn (.slice qA qn qc) anm (.slice rA rn rc)).toArray) (by simp [results, Tryz.results42, go_sem, c0, c1, c2, c3, c4, c5, c6, c7, c8]; try rfl) rfl (out_ok hg ⟨_, hn, hD, rfl⟩ haV)
/-- Patterns, by the number of tokens. -/
theorem pattern9 : ∀ (f : Nat) {w : World} {b : Nat} {g : G9} {l : List T}, At9 w b g l → l.length < f →
    Calls Tryz.prog 42 #[.pointer (some ⟨b, 0, none⟩)] w (Out9 w b g (patP g.e f l) IsNd)
  | 0, _, _, _, _, _, hl => absurd hl (Nat.not_lt_zero _)
  | f + 1, _, _, g, _, h, hl => alt9 h (patP g.e f) f (fun _ _ ha hl' => pattern9 f ha hl') (by omega) (pat_ends g.e f)
end Go.Proofs.YtdjaijhlhhnmeaaGreatDoor
