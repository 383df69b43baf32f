/- Walks: items, sequences, patterns. -/
import Derived.Test.YtdjaijhlhhnmeaaGreatDoorParJ
import Derived.Test.YtdjaijhlhhnmeaaGreatDoorPMt
namespace Go.Proofs.YtdjaijhlhhnmeaaGreatDoor
open Go.RowKit
open A8 Tk7 P9

/-- What stands while a struct is made in the block A: D says what lies elsewhere, in new blocks. -/
structure BCut (w : World) (b : Nat) (g : G9) (A : Nat) (zs us : List Value) (D : World → Prop) (r : List T) (wx : World) : Prop where
  lt : w.heap.size < A
  gr : w.grownBy wx (some b)
  at9 : At9 wx b g r
  res : Blk wx w.heap.size zs
  blk : Blk wx A us
  dat : D (hide (fun k => decide (k ≤ w.heap.size) || k == A) wx)
theorem bcut_turn {w : World} {b : Nat} {g : G9} {l : List T} (h0 : At9 w b g l) {A : Nat} {zs us : List Value} {D : World → Prop} (hD : ∀ {W W'}, D W → Le W W' → D W') {r r2 : List T} {wx w2 : World} (h : BCut w b g A zs us D r wx) (hg : wx.grownBy w2 (some b)) (ha : At9 w2 b g r2) : BCut w b g A zs us D r2 w2 := by
  have hb := h0.lt
  have hl := h.lt
  refine ⟨h.lt, grown_trans h.gr hg, ha, h.res.grown hg (fun e => by injection e with e; omega), h.blk.grown hg (fun e => by injection e with e; omega), hD h.dat (hide_le hg.size fun k hk hx => ?_)⟩
  refine ⟨hx, hg.block k hk (fun e => ?_)⟩
  injection e with e
  simp only [Bool.or_eq_false_iff, decide_eq_false_iff_not] at hx
  omega
theorem bcut_set {w : World} {b : Nat} {g : G9} {l : List T} (h0 : At9 w b g l) {A : Nat} {zs us : List Value} {D : World → Prop} (hD : ∀ {W W'}, D W → Le W W' → D W') {r : List T} {wx : World} (h : BCut w b g A zs us D r wx) (i : Nat) (u : Value) : BCut w b g A zs (us.set i u) D r (wx.setCell ⟨A, i, none⟩ u) := by
  have hb := h0.lt
  have hl := h.lt
  have ho : Only A wx (wx.setCell ⟨A, i, none⟩ u) := (Only.refl A wx).setCell i u
  have hg := grown_only h.gr (Nat.le_of_lt hl) ho
  refine ⟨h.lt, hg, at9_end h0 h.at9 hg ho (by omega), h.res.other (p := ⟨A, i, none⟩) (by simp only; omega) u, h.blk.set i u, hD h.dat (hide_le (Nat.le_of_eq ho.size.symm) fun k _ hx => ?_)⟩
  refine ⟨hx, ho.block k ?_⟩
  simp only [Bool.or_eq_false_iff, beq_eq_false_iff_ne] at hx
  exact hx.2
/-- The struct is laid into the result. -/
theorem bcut_end {w : World} {b : Nat} {g : G9} {l : List T} (h0 : At9 w b g l) {A : Nat} {zs us : List Value} {D : World → Prop} (hD : ∀ {W W'}, D W → Le W W' → D W') {r : List T} {wx V : World} (h : BCut w b g A zs us D r wx) (vs : List Value) (hl : vs.length = zs.length) (hV : V = fillW wx w.heap.size 0 vs) :
    Blk V w.heap.size vs ∧ w.grownBy V (some b) ∧ At9 V b g r ∧ D (hide (fun k => decide (k < w.heap.size)) V) := by
  have hb := h0.lt
  have hlt := h.lt
  obtain ⟨hVb, hVo⟩ := res_out (us := vs) h.res hl hV
  have hg := grown_only h.gr (Nat.le_refl _) hVo
  refine ⟨hVb, hg, at9_end h0 h.at9 hg hVo (by omega), hD h.dat (hide_le (Nat.le_of_eq hVo.size.symm) fun k _ hx => ?_)⟩
  simp only [Bool.or_eq_false_iff, decide_eq_false_iff_not] at hx ⊢
  exact ⟨by omega, hVo.block k (by omega)⟩
/-- .. of a value that was just read. -/
theorem ret_end {w : World} {b : Nat} {g : G9} {l : List T} (h0 : At9 w b g l) {zs : List Value} {D : World → Prop} (hD : ∀ {W W'}, D W → Le W W' → D W') {r : List T} {wx V : World} {m : Nat} (hm : w.heap.size < m) (hg : w.grownBy wx (some b)) (ha : At9 wx b g r) (hR : Blk wx w.heap.size zs) (hs : D (hide (fun k => decide (k < m)) wx)) (vs : List Value) (hl : vs.length = zs.length) (hV : V = fillW wx w.heap.size 0 vs) :
    Blk V w.heap.size vs ∧ w.grownBy V (some b) ∧ At9 V b g r ∧ D (hide (fun k => decide (k < w.heap.size)) V) := by
  have hb := h0.lt
  obtain ⟨hVb, hVo⟩ := res_out (us := vs) hR hl hV
  have hg' := grown_only hg (Nat.le_refl _) hVo
  exact ⟨hVb, hg', at9_end h0 ha hg' hVo (by omega), hD hs ((Tn.only hVo hm).le (by omega))⟩
theorem trW_mk {W : World} {k mn mx : Int} {g : GA} {sk : Value} {ks : List Tr} (h1 : OneT W (.mk k mn mx g sk ks)) (h2 : ∀ t ∈ ks, TrW W t) : TrW W (.mk k mn mx g sk ks) := fun u hu => by
  simp only [subsT, subsTL_flat, List.mem_cons, List.mem_flatMap] at hu
  rcases hu with rfl | ⟨t, ht, hu⟩
  · exact h1
  · exact h2 t ht u hu
/-- The cells of a node as a value. -/
abbrev ndV (k mn mx kd : Int) (bd : Bool) (bn : Int) (sc : Value) (nm : List UInt8) (sk : Value) : List Value := [.int .i64 k, .int .i64 mn, .int .i64 mx, .int .i64 kd, .bool bd, .int .u64 bn, sc, .string (strOf nm), sk]
abbrev ndZ : List Value := [.int .i64 0, .int .i64 0, .int .i64 0, .int .i64 0, .bool false, .int .u64 0, .slice none 0 0, .string ⟨#[]⟩, .slice none 0 0]
theorem add_zero9 (a : Addr) : a.add 0 = a := by unfold Addr.add; rfl
set_option maxRecDepth 100000 in
theorem join_one (k : Int) (a : Addr) (cap : Nat) (tk mn mx kd : Int) (bd : Bool) (bn : Int) (sc : Value) (nm : List UInt8) (sk : Value) (hsc : ∃ A n c, sc = .slice A n c) (hsk : ∃ A n c, sk = .slice A n c) (w : World) (hE : El w a (ndV tk mn mx kd bd bn sc nm sk)) :
    Calls Tryz.prog 87 #[.int .i64 k, .slice (some a) 1 cap] w fun e w' => e = .returned (.agg (ndV tk mn mx kd bd bn sc nm sk).toArray) ∧ Below w.heap.size w w' := by
  obtain ⟨sA, sn, sd, rfl⟩ := hsc
  obtain ⟨rA, rn, rd, rfl⟩ := hsk
  obtain ⟨W, hW⟩ : ∃ W, W = w.alloc (.cells ndZ.toArray 29) := ⟨_, rfl⟩
  have hWb : Below w.heap.size w W := by rw [hW]; exact b1 _ _
  have hR : Blk W w.heap.size ndZ := by rw [hW]; exact Blk.is _ rfl
  have hE2 := hE.later hWb
  have e0 := hE2.at0 _ rfl
  have e1 := hE2.at1 1 _ (by decide) rfl
  have e2 := hE2.at1 2 _ (by decide) rfl
  have e3 := hE2.at1 3 _ (by decide) rfl
  have e4 := hE2.at1 4 _ (by decide) rfl
  have e5 := hE2.at1 5 _ (by decide) rfl
  have e6 := hE2.at1 6 _ (by decide) rfl
  have e7 := hE2.at1 7 _ (by decide) rfl
  have e8 := hE2.at1 8 _ (by decide) rfl
  have c0 := hR.cell 0 _ rfl
  have c1 := hR.cell 1 _ rfl
  have c2 := hR.cell 2 _ rfl
  have c3 := hR.cell 3 _ rfl
  have c4 := hR.cell 4 _ rfl
  have c5 := hR.cell 5 _ rfl
  have c6 := hR.cell 6 _ rfl
  have c7 := hR.cell 7 _ rfl
  have c8 := hR.cell 8 _ rfl
  have f0 := hR.fr 0 _ rfl
  have f1 := hR.fr 1 _ rfl
  have f2 := hR.fr 2 _ rfl
  have f3 := hR.fr 3 _ rfl
  have f4 := hR.fr 4 _ rfl
  have f5 := hR.fr 5 _ rfl
  have f6 := hR.fr 6 _ rfl
  have f7 := hR.fr 7 _ rfl
  have f8 := hR.fr 8 _ rfl
  have hz := add_zero9 a
  go_enter Tryz.func87, Tryz.ntmps87
  go_upto_region 1 with fail
  rw [← hW]
  clear hW
  go_wp2
  refine named_post fun V hV => ?_
  obtain ⟨hVb, hVo⟩ := res_out (us := ndV tk mn mx kd bd bn (.slice sA sn sd) nm (.slice rA rn rd)) hR rfl hV
  clear hV c0 c1 c2 c3 c4 c5 c6 c7 c8 f0 f1 f2 f3 f4 f5 f6 f7 f8 e0 e1 e2 e3 e4 e5 e6 e7 e8
  have c0 := hVb.cell 0 _ rfl
  have c1 := hVb.cell 1 _ rfl
  have c2 := hVb.cell 2 _ rfl
  have c3 := hVb.cell 3 _ rfl
  have c4 := hVb.cell 4 _ rfl
  have c5 := hVb.cell 5 _ rfl
  have c6 := hVb.cell 6 _ rfl
  have c7 := hVb.cell 7 _ rfl
  have c8 := hVb.cell 8 _ rfl
  exact bodyPost_ret (v := .agg (ndV tk mn mx kd bd bn (.slice sA sn sd) nm (.slice rA rn rd)).toArray) (by simp [results, Tryz.results87, go_sem, c0, c1, c2, c3, c4, c5, c6, c7, c8]; try rfl) rfl ⟨rfl, hWb.trans hVo.below⟩
set_option maxRecDepth 100000 in
theorem join_many9 (k : Int) (A : Option Addr) (n cap : Nat) (hn : n ≠ 1) (w : World) :
    Calls Tryz.prog 87 #[.int .i64 k, .slice A n cap] w fun e w' => e = .returned (.agg (ndV k 0 0 0 false 0 (.slice none 0 0) [] (.slice A n cap)).toArray) ∧ Below w.heap.size w w' := by
  obtain ⟨W, hW⟩ : ∃ W, W = w.alloc (.cells ndZ.toArray 29) := ⟨_, rfl⟩
  have hWb : Below w.heap.size w W := by rw [hW]; exact b1 _ _
  have hR : Blk W w.heap.size ndZ := by rw [hW]; exact Blk.is _ rfl
  have g1 : ((n : Int) == 1) = false := by rw [beq_eq_false_iff_ne]; omega
  have g2 : ¬ (n : Int) = 1 := by omega
  have c0 := hR.cell 0 _ rfl
  have c1 := hR.cell 1 _ rfl
  have c2 := hR.cell 2 _ rfl
  have c3 := hR.cell 3 _ rfl
  have c4 := hR.cell 4 _ rfl
  have c5 := hR.cell 5 _ rfl
  have c6 := hR.cell 6 _ rfl
  have c7 := hR.cell 7 _ rfl
  have c8 := hR.cell 8 _ rfl
  have f0 := hR.fr 0 _ rfl
  have f1 := hR.fr 1 _ rfl
  have f2 := hR.fr 2 _ rfl
  have f3 := hR.fr 3 _ rfl
  have f4 := hR.fr 4 _ rfl
  have f5 := hR.fr 5 _ rfl
  have f6 := hR.fr 6 _ rfl
  have f7 := hR.fr 7 _ rfl
  have f8 := hR.fr 8 _ rfl
  go_enter Tryz.func87, Tryz.ntmps87
  go_upto_region 1 with fail
  rw [← hW]
  clear hW
  go_wp2
  refine named_post fun V hV => ?_
  obtain ⟨hVb, hVo⟩ := res_out (us := ndV k 0 0 0 false 0 (.slice none 0 0) [] (.slice A n cap)) hR rfl hV
  clear hV c0 c1 c2 c3 c4 c5 c6 c7 c8 f0 f1 f2 f3 f4 f5 f6 f7 f8
  have c0 := hVb.cell 0 _ rfl
  have c1 := hVb.cell 1 _ rfl
  have c2 := hVb.cell 2 _ rfl
  have c3 := hVb.cell 3 _ rfl
  have c4 := hVb.cell 4 _ rfl
  have c5 := hVb.cell 5 _ rfl
  have c6 := hVb.cell 6 _ rfl
  have c7 := hVb.cell 7 _ rfl
  have c8 := hVb.cell 8 _ rfl
  exact bodyPost_ret (v := .agg (ndV k 0 0 0 false 0 (.slice none 0 0) [] (.slice A n cap)).toArray) (by simp [results, Tryz.results87, go_sem, c0, c1, c2, c3, c4, c5, c6, c7, c8]; try rfl) rfl ⟨rfl, hWb.trans hVo.below⟩
/-- A node that was read, as a value. -/
abbrev IsNd := IsE ndK
theorem join9 (k : Int) (hk : okV k) (ns : List Nd) (hns : ns ≠ []) (v : Value) (w : World) (m : Nat) (h : IsL ndK (hide (fun k => decide (k < m)) w) ns v) :
    Calls Tryz.prog 87 #[.int .i64 k, v] w fun e w' => Below w.heap.size w w' ∧ ∃ v', e = .returned v' ∧ IsNd (hide (fun k => decide (k < m)) w') (joinP k ns) v' := by
  obtain ⟨ts, hts, hs, ht⟩ := h
  have hout : Le (hide (fun k => decide (k < m)) w) w := hide_out (Nat.le_refl _) fun _ _ _ => rfl
  have hlt : ∀ w', Below w.heap.size w w' → Le (hide (fun k => decide (k < m)) w) (hide (fun k => decide (k < m)) w') := fun w' hb => (Tn.below hb).le (Nat.le_refl _)
  obtain ⟨A, cap, rfl, hm, hc⟩ := sl_els (f := Tr.row) (by decide) row_len (sl_le hs hout)
  by_cases h1 : ts.length = 1
  · obtain ⟨t, rfl⟩ : ∃ t, ts = [t] := List.length_eq_one_iff.1 h1
    have ht1 : TrW (hide (fun k => decide (k < m)) w) t := ht t (by simp)
    obtain ⟨a, rfl, _, hE⟩ := hc 0 (by simp)
    rw [Nat.zero_mul, add_zero9] at hE
    obtain ⟨tk, mn, mx, ⟨⟨kd, bd, bn, cs, nm⟩, sc⟩, sk, ks⟩ := t
    obtain ⟨f1, f2⟩ := tr_form (show ndK.E _ _ from ht1)
    refine (join_one k a cap tk mn mx kd bd bn sc nm sk f1 f2 w hE).mono fun e w' ho => ⟨ho.2, _, ho.1, ⟨.mk tk mn mx ⟨⟨kd, bd, bn, cs, nm⟩, sc⟩ sk ks, ?_, trW_le ht1 (hlt w' ho.2), rfl⟩⟩
    rw [← hts]
    rfl
  · refine (join_many9 k A ts.length cap h1 w).mono fun e w' ho => ⟨ho.2, _, ho.1, ⟨.mk k 0 0 ⟨noA, .slice none 0 0⟩ (.slice A ts.length cap) ts, ?_, ?_, rfl⟩⟩
    · have h2 : 2 ≤ ns.length := by
        rw [← hts, List.length_map]
        have : ts ≠ [] := fun e => hns (by rw [← hts, e]; rfl)
        have := List.length_pos_iff.2 this
        omega
      rw [join_many h2, ← hts]
      exact nd_mk k 0 0 ⟨noA, .slice none 0 0⟩ (.slice A ts.length cap) ts
    · exact trW_mk ⟨⟨hk, by unfold okV; omega, by unfold okV; omega⟩, ⟨⟨by unfold okV noA; simp only; omega, by unfold noA; simp only; omega, (fun c hc => by cases hc), by unfold noA maxLen; simp⟩, Sl.nil _ 2⟩, sl_le hs (hlt w' ho.2)⟩ fun t h => trW_le (ht t h) (hlt w' ho.2)
/-! The patterns' own calls: what a pattern within reads is known. -/
theorem unit_cut {w w2 w3 : World} {b : Nat} {g : G9} {l r : List T} (h : At9 w b g l) {o : Obj} (hR0 : Blk (w.alloc o) w.heap.size ndZ) (hg2 : (w.alloc o).grownBy w2 (some b)) (hg3 : w2.grownBy w3 (some b)) (ha3 : At9 w3 b g r) {us : List Value} {D : World → Prop} (hmono : ∀ {W W'}, D W → Le W W' → D W') (hD : D (hide (fun k => decide (k < w2.heap.size)) w3)) :
    BCut w b g w3.heap.size ndZ us D r (w3.alloc (.cells us.toArray 29)) := by
  have hb := h.lt
  have hnb : some w.heap.size ≠ some b := fun e => by injection e with e; omega
  have hR2 := hR0.grown hg2 hnb
  have hR3 := hR2.grown hg3 hnb
  have hlt := hR2.lt
  refine ⟨hR3.lt, grown_trans (grown_trans (grown_to (b1 _ _) hg2) hg3) (grown_of b (b1 _ _)), ha3.later (b1 _ _), hR3.alloc _, Blk.new w3 us 29, hmono hD (hide_le (b1 w3 (.cells us.toArray 29)).size fun k hk hx => ?_)⟩
  simp only [decide_eq_false_iff_not] at hx
  refine ⟨?_, (b1 w3 (.cells us.toArray 29)).block k hk⟩
  simp only [Bool.or_eq_false_iff, decide_eq_false_iff_not, beq_eq_false_iff_ne]
  omega
theorem trD {T : Tr} : ∀ {W W' : World}, TrW W T → Le W W' → TrW W' T := fun h hl => trW_le h hl
theorem gaD {ga : GA} : ∀ {W W' : World}, OneA W ga → Le W W' → OneA W' ga := fun h hl => oneA_le h hl
set_option maxRecDepth 100000 in
set_option maxHeartbeats 4000000 in
theorem unit9 {w : World} {b : Nat} {g : G9} {l : List T} (h : At9 w b g l) (pat : List T → R Nd) (L : Nat) (hPat : ∀ w' l', At9 w' b g l' → l'.length < L → Calls Tryz.prog 42 #[.pointer (some ⟨b, 0, none⟩)] w' (Out9 w' b g (pat l') IsNd)) (hlL : l.length ≤ L) :
    Calls Tryz.prog 182 #[.pointer (some ⟨b, 0, none⟩)] w (Out9 w b g (unitP g.e pat l) IsNd) := by
  have hb := h.lt
  have hS := fun x (hx : x ≠ []) w' r' (ha : At9 w' b g r') => skips_any x hx ha
  have hR0 : Blk (w.alloc (.cells ndZ.toArray 29)) w.heap.size ndZ := Blk.is _ rfl
  have hnb : some w.heap.size ≠ some b := fun e => by injection e with e; omega
  have hS1 := fun w' ha => hS [40] (by decide) w' l ha
  cases hs : seesP [40] l with
  | true =>
    have hlt : l.tail.length < L := by
      cases l with
      | nil => cases hs
      | cons t r => simp at hlL ⊢; omega
    have hP1 := fun w' ha => hPat w' l.tail ha hlt
    obtain ⟨XX, hXX⟩ : ∃ XX, XX = unitP g.e pat l := ⟨_, rfl⟩
    rw [← hXX]
    unfold unitP at hXX
    rw [if_pos hs] at hXX
    rw [hs] at hS1
    simp only [if_true] at hS1
    clear hs
    cases hp : pat l.tail with
    | error y =>
      rw [hp, andThen_err] at hXX
      rw [hp] at hP1
      have HXX := Lib.hid hXX
      clear hXX
      go_enter Tryz.func182, Tryz.ntmps182
      go_wp2_with (first | (go_at_call 68; refine (hS1 _ (h.later (b1 _ _))).mono ?_; rintro e' w2 ⟨rfl, hg2, ha2⟩) | (go_at_call 42; refine (hP1 _ ha2).mono ?_; intro e' w3 ho; obtain ⟨hg3, rfl⟩ := out_e ho))
      exact ⟨rfl, by rw [HXX.out]; exact out_err (grown_trans (grown_to (b1 _ _) hg2) hg3)⟩
    | ok ar =>
      obtain ⟨n, r⟩ := ar
      rw [hp, andThen_ok] at hXX
      rw [hp] at hP1
      have hM := fun w' (ha : At9 w' b g r) => must_any [41] (by decide) ha
      cases hm : wantP g.e [41] r with
      | error y =>
        rw [hm, andThen_err] at hXX
        rw [hm] at hM
        have HXX := Lib.hid hXX
        clear hXX
        go_enter Tryz.func182, Tryz.ntmps182
        go_wp2_with (first | (go_at_call 68; refine (hS1 _ (h.later (b1 _ _))).mono ?_; rintro e' w2 ⟨rfl, hg2, ha2⟩) | (go_at_call 42; refine (hP1 _ ha2).mono ?_; intro e' w3 ho; obtain ⟨hg3, v3, rfl, ⟨t, hn, ht, hv3⟩, ha3⟩ := out_o ho; clear ho; obtain ⟨tk, tmn, tmx, ⟨⟨akd, abd, abn, acs, anm⟩, asc⟩, tsk, tks⟩ := t; obtain ⟨⟨qA, qn, qc, rfl⟩, ⟨rA, rn, rc, rfl⟩⟩ := tr_form ht; have hv4 : v3 = .agg (ndV tk tmn tmx akd abd abn (.slice qA qn qc) anm (.slice rA rn rc)).toArray := hv3; subst hv4; clear hv3) | (go_at_call 66; refine (hM _ (ha3.later (b1 _ _))).mono ?_; intro e' w4 ho; obtain ⟨hg4, rfl⟩ := out_e ho))
        exact ⟨rfl, by rw [HXX.out]; exact out_err (grown_trans (grown_trans (grown_trans (grown_to (b1 _ _) hg2) hg3) (grown_of b (b1 _ _))) hg4)⟩
      | ok ar =>
        obtain ⟨⟨⟩, r2⟩ := ar
        rw [hm, andThen_ok] at hXX
        rw [hm] at hM
        have HXX := Lib.hid hXX
        clear hXX
        go_enter Tryz.func182, Tryz.ntmps182
        go_wp2_with (first | (go_at_call 68; refine (hS1 _ (h.later (b1 _ _))).mono ?_; rintro e' w2 ⟨rfl, hg2, ha2⟩) | (go_at_call 42; refine (hP1 _ ha2).mono ?_; intro e' w3 ho; obtain ⟨hg3, v3, rfl, ⟨t, hn, ht, hv3⟩, ha3⟩ := out_o ho; clear ho; obtain ⟨tk, tmn, tmx, ⟨⟨akd, abd, abn, acs, anm⟩, asc⟩, tsk, tks⟩ := t; obtain ⟨⟨qA, qn, qc, rfl⟩, ⟨rA, rn, rc, rfl⟩⟩ := tr_form ht; have hv4 : v3 = .agg (ndV tk tmn tmx akd abd abn (.slice qA qn qc) anm (.slice rA rn rc)).toArray := hv3; subst hv4; clear hv3) | (go_at_call 66; refine (hM _ (ha3.later (b1 _ _))).mono ?_; intro e' w4 ho; obtain ⟨hg4, v4, rfl, hv4, ha4⟩ := out_o ho; cases hv4; have hg03 := grown_trans (grown_to (b1 _ _) hg2) hg3; have hC3 : BCut w b g w3.heap.size ndZ (ndV tk tmn tmx akd abd abn (.slice qA qn qc) anm (.slice rA rn rc)) (fun W => TrW W (.mk tk tmn tmx ⟨⟨akd, abd, abn, acs, anm⟩, .slice qA qn qc⟩ (.slice rA rn rc) tks)) r (w3.alloc (.cells (ndV tk tmn tmx akd abd abn (.slice qA qn qc) anm (.slice rA rn rc)).toArray 29)) := unit_cut h hR0 hg2 hg3 ha3 trD ht; have hC4 := bcut_turn h trD hC3 hg4 ha4; have k0 := hC4.blk.cell 0 _ rfl; have k1 := hC4.blk.cell 1 _ rfl; have k2 := hC4.blk.cell 2 _ rfl; have k3 := hC4.blk.cell 3 _ rfl; have k4 := hC4.blk.cell 4 _ rfl; have k5 := hC4.blk.cell 5 _ rfl; have k6 := hC4.blk.cell 6 _ rfl; have k7 := hC4.blk.cell 7 _ rfl; have k8 := hC4.blk.cell 8 _ rfl; have c0 := hC4.res.cell 0 _ rfl; have c1 := hC4.res.cell 1 _ rfl; have c2 := hC4.res.cell 2 _ rfl; have c3 := hC4.res.cell 3 _ rfl; have c4 := hC4.res.cell 4 _ rfl; have c5 := hC4.res.cell 5 _ rfl; have c6 := hC4.res.cell 6 _ rfl; have c7 := hC4.res.cell 7 _ rfl; have c8 := hC4.res.cell 8 _ rfl; have f0 := hC4.res.fr 0 _ rfl; have f1 := hC4.res.fr 1 _ rfl; have f2 := hC4.res.fr 2 _ rfl; have f3 := hC4.res.fr 3 _ rfl; have f4 := hC4.res.fr 4 _ rfl; have f5 := hC4.res.fr 5 _ rfl; have f6 := hC4.res.fr 6 _ rfl; have f7 := hC4.res.fr 7 _ rfl; have f8 := hC4.res.fr 8 _ rfl))
        refine named_post fun V hV => ?_
        obtain ⟨hVb, hg, haV, hD⟩ := bcut_end h trD hC4 (ndV tk tmn tmx akd abd abn (.slice qA qn qc) anm (.slice rA rn rc)) rfl hV
        clear hV c0 c1 c2 c3 c4 c5 c6 c7 c8 f0 f1 f2 f3 f4 f5 f6 f7 f8 k0 k1 k2 k3 k4 k5 k6 k7 k8
        have c0 := hVb.cell 0 _ rfl
        have c1 := hVb.cell 1 _ rfl
        have c2 := hVb.cell 2 _ rfl
        have c3 := hVb.cell 3 _ rfl
        have c4 := hVb.cell 4 _ rfl
        have c5 := hVb.cell 5 _ rfl
        have c6 := hVb.cell 6 _ rfl
        have c7 := hVb.cell 7 _ rfl
        have c8 := hVb.cell 8 _ rfl
        exact bodyPost_ret (v := .agg (ndV tk tmn tmx akd abd abn (.slice qA qn qc) anm (.slice rA rn rc)).toArray) (by simp [results, Tryz.results182, go_sem, c0, c1, c2, c3, c4, c5, c6, c7, c8]; try rfl) rfl (by rw [HXX.out]; exact out_ok hg ⟨_, hn, hD, rfl⟩ haV)
  | false =>
    obtain ⟨XX, hXX⟩ : ∃ XX, XX = unitP g.e pat l := ⟨_, rfl⟩
    rw [← hXX]
    unfold unitP at hXX
    rw [if_neg (by rw [hs]; decide)] at hXX
    rw [hs] at hS1
    simp only [Bool.false_eq_true, if_false] at hS1
    clear hs
    have hA1 := fun w' (ha : At9 w' b g l) => atom9 ha
    cases hp : atomP g.e l with
    | error y =>
      rw [hp, andThen_err] at hXX
      rw [hp] at hA1
      have HXX := Lib.hid hXX
      clear hXX
      go_enter Tryz.func182, Tryz.ntmps182
      go_wp2_with (first | (go_at_call 68; refine (hS1 _ (h.later (b1 _ _))).mono ?_; rintro e' w2 ⟨rfl, hg2, ha2⟩) | (go_at_call 45; refine (hA1 _ ha2).mono ?_; intro e' w3 ho; obtain ⟨hg3, rfl⟩ := out_e ho))
      exact ⟨rfl, by rw [HXX.out]; exact out_err (grown_trans (grown_to (b1 _ _) hg2) hg3)⟩
    | ok ar =>
      obtain ⟨⟨kd, bd, bn, cs, nm⟩, r2⟩ := ar
      rw [hp, andThen_ok] at hXX
      rw [hp] at hA1
      have HXX := Lib.hid hXX
      clear hXX hp
      have HS := Lib.hid hS
      clear hS
      go_enter Tryz.func182, Tryz.ntmps182
      go_upto_region 6 with (first | (go_at_call 68; refine (hS1 _ (h.later (b1 _ _))).mono ?_; rintro e' w2 ⟨rfl, hg2, ha2⟩) | (go_at_call 45; refine (hA1 _ ha2).mono ?_; intro e' w3 ho; obtain ⟨hg3, v3, rfl, ⟨sc, hga, hv3⟩, ha3⟩ := out_o ho; clear ho; obtain ⟨qA, qn, qc, rfl⟩ := sl_form hga.2; have hv4 : v3 = .agg #[.int .i64 kd, .bool bd, .int .u64 bn, .slice qA qn qc, .string (strOf nm)] := hv3; subst hv4; clear hv3))
      have hC3 : BCut w b g w3.heap.size ndZ (ndV 1 1 1 kd bd bn (.slice qA qn qc) nm (.slice none 0 0)) (fun W => OneA W ⟨⟨kd, bd, bn, cs, nm⟩, .slice qA qn qc⟩) r2 (w3.alloc (.cells (ndV 1 1 1 kd bd bn (.slice qA qn qc) nm (.slice none 0 0)).toArray 29)) := unit_cut h hR0 hg2 hg3 ha3 gaD hga
      obtain ⟨A, hA⟩ : ∃ A, A = w3.heap.size := ⟨_, rfl⟩
      rw [← hA] at hC3 ⊢
      clear hA
      go_upto_if 22 with (go_at_call 68; refine (HS.out [123] (by decide) _ _ hC3.at9).mono ?_; rintro e' w5 ⟨rfl, hg5, ha5⟩)
      have hC5 := bcut_turn h gaD hC3 hg5 ha5
      clear hC3 hg5 ha5 ha3 hg3 hga
      go_cut [] (fun wx => ∃ mn mx r3, timesP g.e r2 = .ok ((mn, mx), r3) ∧ (okV mn ∧ okV mx) ∧ BCut w b g A ndZ (ndV 1 mn mx kd bd bn (.slice qA qn qc) nm (.slice none 0 0)) (fun W => OneA W ⟨⟨kd, bd, bn, cs, nm⟩, .slice qA qn qc⟩) r3 wx)
      case first =>
        cases hs : seesP [123] r2 with
        | false =>
          rw [hs] at hC5
          have hB : timesP g.e r2 = .ok ((1, 1), r2) := by unfold timesP; rw [if_neg (by rw [hs]; decide)]
          have HB := Lib.hid hB
          clear hB hs
          go_wp2_with fail
          go_meet
          case rel => exact ⟨_, _, _, HB.out, by unfold okV; omega, hC5⟩
        | true =>
          rw [hs] at hC5
          simp only [if_true] at hC5
          have HTM : Hid (timesP g.e r2 = andThen (numP g.e 0 99 r2.tail) fun a r => andThen (wantP g.e [44] r) fun _ r => andThen (numP g.e 0 99 r) fun b r => andThen (wantP g.e [125] r) fun _ r => .ok ((a, b), r)) := Lib.hid (by unfold timesP; rw [if_pos hs])
          clear hs
          have hN1 := fun w' (ha : At9 w' b g r2.tail) => number9 0 99 ha
          have hat := hC5.at9
          have hgr := hC5.gr
          cases hn1 : numP g.e 0 99 r2.tail with
          | error y =>
            have hxx := HXX.out
            rw [HTM.out, hn1, andThen_err, andThen_err] at hxx
            have HX2 := Lib.hid hxx
            rw [hn1] at hN1
            clear hxx hC5 hn1
            go_wp2_with (go_at_call 67; refine (hN1 _ hat).mono ?_; intro e' w6 ho; obtain ⟨hg6, rfl⟩ := out_e ho)
            exact ⟨rfl, by rw [HX2.out]; exact out_err (grown_trans hgr hg6)⟩
          | ok ar =>
            obtain ⟨mn, r3⟩ := ar
            have hmn := (num_range hn1).1
            have htm := HTM.out
            rw [hn1, andThen_ok] at htm
            replace HTM := Lib.hid htm
            rw [hn1] at hN1
            clear htm hn1
            have HC := Lib.hid (fun w6 hg ha => bcut_set h gaD (bcut_turn h gaD hC5 (w2 := w6) (r2 := r3) hg ha) 1 (.int .i64 mn))
            have hbk := fun w6 hg ha => (bcut_turn h gaD hC5 (w2 := w6) (r2 := r3) hg ha).blk
            clear hC5
            go_upto_region 8 with (go_at_call 67; refine (hN1 _ hat).mono ?_; intro e' w6 ho; obtain ⟨hg6, v6, rfl, rfl, ha6⟩ := out_o ho; clear ho; have hK := hbk w6 hg6 ha6; have k1 := hK.cell 1 _ rfl; have q1 := hK.fr 1 _ rfl)
            refine named_wp fun W7 hW7 => ?_
            have hC7 := HC.out w6 hg6 ha6
            rw [← hW7] at hC7
            clear hW7 k1 q1 hK HC hbk
            have hM1 := fun w' (ha : At9 w' b g r3) => must_any [44] (by decide) ha
            have hat7 := hC7.at9
            have hgr7 := hC7.gr
            cases hm1 : wantP g.e [44] r3 with
            | error y =>
              have hxx := HXX.out
              rw [HTM.out, hm1, andThen_err, andThen_err] at hxx
              have HX2 := Lib.hid hxx
              rw [hm1] at hM1
              clear hxx hC7 hm1
              go_wp2_with (go_at_call 66; refine (hM1 _ hat7).mono ?_; intro e' w8 ho; obtain ⟨hg8, rfl⟩ := out_e ho)
              exact ⟨rfl, by rw [HX2.out]; exact out_err (grown_trans hgr7 hg8)⟩
            | ok ar =>
              obtain ⟨⟨⟩, r4⟩ := ar
              have htm := HTM.out
              rw [hm1, andThen_ok] at htm
              replace HTM := Lib.hid htm
              rw [hm1] at hM1
              clear htm hm1
              go_upto_region 9 with (go_at_call 66; refine (hM1 _ hat7).mono ?_; intro e' w8 ho; obtain ⟨hg8, v8, rfl, hv8, ha8⟩ := out_o ho; cases hv8)
              have hC8 := bcut_turn h gaD hC7 hg8 ha8
              clear hC7
              have hN2 := fun w' (ha : At9 w' b g r4) => number9 0 99 ha
              cases hn2 : numP g.e 0 99 r4 with
              | error y =>
                have hxx := HXX.out
                rw [HTM.out, hn2, andThen_err, andThen_err] at hxx
                have HX2 := Lib.hid hxx
                rw [hn2] at hN2
                clear hxx hn2
                go_wp2_with (go_at_call 67; refine (hN2 _ ha8).mono ?_; intro e' w9 ho; obtain ⟨hg9, rfl⟩ := out_e ho)
                exact ⟨rfl, by rw [HX2.out]; exact out_err (grown_trans hC8.gr hg9)⟩
              | ok ar =>
                obtain ⟨mx, r5⟩ := ar
                have hmx := (num_range hn2).1
                have htm := HTM.out
                rw [hn2, andThen_ok] at htm
                replace HTM := Lib.hid htm
                rw [hn2] at hN2
                clear htm hn2
                have HC := Lib.hid (fun w9 hg ha => bcut_set h gaD (bcut_turn h gaD hC8 (w2 := w9) (r2 := r5) hg ha) 2 (.int .i64 mx))
                have hbk := fun w9 hg ha => (bcut_turn h gaD hC8 (w2 := w9) (r2 := r5) hg ha).blk
                clear hC8
                go_upto_region 10 with (go_at_call 67; refine (hN2 _ ha8).mono ?_; intro e' w9 ho; obtain ⟨hg9, v9, rfl, rfl, ha9⟩ := out_o ho; clear ho; have hK := hbk w9 hg9 ha9; have k1 := hK.cell 2 _ rfl; have q1 := hK.fr 2 _ rfl)
                refine named_wp fun WA hWA => ?_
                have hCA := HC.out w9 hg9 ha9
                rw [← hWA] at hCA
                clear hWA k1 q1 hK HC hbk
                have hM2 := fun w' (ha : At9 w' b g r5) => must_any [125] (by decide) ha
                have hatA := hCA.at9
                have hgrA := hCA.gr
                cases hm2 : wantP g.e [125] r5 with
                | error y =>
                  have hxx := HXX.out
                  rw [HTM.out, hm2, andThen_err, andThen_err] at hxx
                  have HX2 := Lib.hid hxx
                  rw [hm2] at hM2
                  clear hxx hCA hm2
                  go_wp2_with (go_at_call 66; refine (hM2 _ hatA).mono ?_; intro e' wB ho; obtain ⟨hgB, rfl⟩ := out_e ho)
                  exact ⟨rfl, by rw [HX2.out]; exact out_err (grown_trans hgrA hgB)⟩
                | ok ar =>
                  obtain ⟨⟨⟩, r6⟩ := ar
                  have htm := HTM.out
                  rw [hm2, andThen_ok] at htm
                  replace HTM := Lib.hid htm
                  rw [hm2] at hM2
                  clear htm hm2
                  go_wp2_with (go_at_call 66; refine (hM2 _ hatA).mono ?_; intro e' wB ho; obtain ⟨hgB, vB, rfl, hvB, haB⟩ := out_o ho; cases hvB)
                  go_meet
                  case rel => exact ⟨_, _, _, HTM.out, ⟨hmn, hmx⟩, bcut_turn h gaD hCA hgB haB⟩
      case rest =>
        obtain ⟨mn, mx, r3, hB, hokm, hC6⟩ := hcut
        have hxx := HXX.out
        rw [hB, andThen_ok] at hxx
        replace HXX := Lib.hid hxx
        clear hxx hB hC5
        have k0 := hC6.blk.cell 0 _ rfl
        have k1 := hC6.blk.cell 1 _ rfl
        have k2 := hC6.blk.cell 2 _ rfl
        have k3 := hC6.blk.cell 3 _ rfl
        have k4 := hC6.blk.cell 4 _ rfl
        have k5 := hC6.blk.cell 5 _ rfl
        have k6 := hC6.blk.cell 6 _ rfl
        have k7 := hC6.blk.cell 7 _ rfl
        have k8 := hC6.blk.cell 8 _ rfl
        have c0 := hC6.res.cell 0 _ rfl
        have c1 := hC6.res.cell 1 _ rfl
        have c2 := hC6.res.cell 2 _ rfl
        have c3 := hC6.res.cell 3 _ rfl
        have c4 := hC6.res.cell 4 _ rfl
        have c5 := hC6.res.cell 5 _ rfl
        have c6 := hC6.res.cell 6 _ rfl
        have c7 := hC6.res.cell 7 _ rfl
        have c8 := hC6.res.cell 8 _ rfl
        have f0 := hC6.res.fr 0 _ rfl
        have f1 := hC6.res.fr 1 _ rfl
        have f2 := hC6.res.fr 2 _ rfl
        have f3 := hC6.res.fr 3 _ rfl
        have f4 := hC6.res.fr 4 _ rfl
        have f5 := hC6.res.fr 5 _ rfl
        have f6 := hC6.res.fr 6 _ rfl
        have f7 := hC6.res.fr 7 _ rfl
        have f8 := hC6.res.fr 8 _ rfl
        go_wp2
        refine named_post fun V hV => ?_
        obtain ⟨hVb, hg, haV, hD⟩ := bcut_end h gaD hC6 (ndV 1 mn mx kd bd bn (.slice qA qn qc) nm (.slice none 0 0)) rfl hV
        clear hV c0 c1 c2 c3 c4 c5 c6 c7 c8 f0 f1 f2 f3 f4 f5 f6 f7 f8 k0 k1 k2 k3 k4 k5 k6 k7 k8
        have c0 := hVb.cell 0 _ rfl
        have c1 := hVb.cell 1 _ rfl
        have c2 := hVb.cell 2 _ rfl
        have c3 := hVb.cell 3 _ rfl
        have c4 := hVb.cell 4 _ rfl
        have c5 := hVb.cell 5 _ rfl
        have c6 := hVb.cell 6 _ rfl
        have c7 := hVb.cell 7 _ rfl
        have c8 := hVb.cell 8 _ rfl
        exact bodyPost_ret (v := .agg (ndV 1 mn mx kd bd bn (.slice qA qn qc) nm (.slice none 0 0)).toArray) (by simp [results, Tryz.results182, go_sem, c0, c1, c2, c3, c4, c5, c6, c7, c8]; try rfl) rfl (by rw [HXX.out]; exact out_ok hg ⟨.mk 1 mn mx ⟨⟨kd, bd, bn, cs, nm⟩, .slice qA qn qc⟩ (.slice none 0 0) [], rfl, trW_mk ⟨⟨by unfold okV; omega, hokm⟩, hD, Sl.nil _ 9⟩ (fun t ht => by cases ht), rfl⟩ haV)
end Go.Proofs.YtdjaijhlhhnmeaaGreatDoor
