/- Walks: conditions on aggregates, categories, labels. -/
import Derived.Test.YtdjaijhlhhnmeaaGreatDoorParF
import Derived.Test.YtdjaijhlhhnmeaaGreatDoorParD
import Derived.Deep.LoopGhost
import Derived.Test.YtdjaijhlhhnmeaaGreatDoorLabelOne
namespace Go.Proofs.YtdjaijhlhhnmeaaGreatDoor
open Go.RowKit
open A8 Tk7 P9

theorem hv_out {W V : World} {R : Nat} {x0 x1 x2 x3 u0 u1 u2 u3 : Value} (h : Blk W R [x0, x1, x2, x3]) (hV : V = (((W.setCell ⟨R, 0, none⟩ u0).setCell ⟨R, 1, none⟩ u1).setCell ⟨R, 2, none⟩ u2).setCell ⟨R, 3, none⟩ u3) : Blk V R [u0, u1, u2, u3] ∧ Only R W V := res_out (us := [u0, u1, u2, u3]) h rfl hV
set_option maxRecDepth 100000 in
theorem have_1 {w : World} {b : Nat} {g : G9} {l : List T} (h : At9 w b g l) (hA : ∀ w' l', At9 w' b g l' → Calls Tryz.prog 72 #[.pointer (some ⟨b, 0, none⟩)] w' (Out9 w' b g (aggP g.e l') IsG)) (y : F) (hy : aggP g.e l = .error y) :
    Calls Tryz.prog 70 #[.pointer (some ⟨b, 0, none⟩)] w (Out9 w b g (.error y : R Hv) IsH) := by
  have hA1 := fun w' ha => hA w' l ha
  rw [hy] at hA1
  go_enter Tryz.func70, Tryz.ntmps70
  go_wp2_with (go_at_call 72; refine (hA1 _ (h.later (b1 _ _))).mono ?_; intro e' w2 ho; obtain ⟨hg2, rfl⟩ := out_e ho)
  exact ⟨rfl, out_err (grown_to (b1 _ _) hg2)⟩
set_option maxRecDepth 100000 in
theorem have_2 {w : World} {b : Nat} {g : G9} {l : List T} (h : At9 w b g l) (hA : ∀ w' l', At9 w' b g l' → Calls Tryz.prog 72 #[.pointer (some ⟨b, 0, none⟩)] w' (Out9 w' b g (aggP g.e l') IsG)) (a : Ag) (r : List T) (y : F) (hy : aggP g.e l = .ok (a, r)) (hz : condP g.e r = .error y) :
    Calls Tryz.prog 70 #[.pointer (some ⟨b, 0, none⟩)] w (Out9 w b g (.error y : R Hv) IsH) := by
  have hA1 := fun w' ha => hA w' l ha
  have hC := fun w' (ha : At9 w' b g r) => cond9 ha
  rw [hy] at hA1
  rw [hz] at hC
  go_enter Tryz.func70, Tryz.ntmps70
  go_wp2_with (first | (go_at_call 72; refine (hA1 _ (h.later (b1 _ _))).mono ?_; intro e' w2 ho; obtain ⟨hg2, v2, rfl, ⟨rfl, ho2⟩, ha2⟩ := out_o ho) | (go_at_call 95; refine (hC _ ha2).mono ?_; intro e' w3 ho3; obtain ⟨hg3, rfl⟩ := out_e ho3))
  exact ⟨rfl, out_err (grown_trans (grown_to (b1 _ _) hg2) hg3)⟩
set_option maxRecDepth 100000 in
theorem have_3 {w : World} {b : Nat} {g : G9} {l : List T} (h : At9 w b g l) (hA : ∀ w' l', At9 w' b g l' → Calls Tryz.prog 72 #[.pointer (some ⟨b, 0, none⟩)] w' (Out9 w' b g (aggP g.e l') IsG)) (a : Ag) (c : Cn) (r r2 : List T) (hy : aggP g.e l = .ok (a, r)) (hz : condP g.e r = .ok (c, r2)) :
    Calls Tryz.prog 70 #[.pointer (some ⟨b, 0, none⟩)] w (Out9 w b g (.ok (⟨a, c⟩, r2) : R Hv) IsH) := by
  have hA1 := fun w' ha => hA w' l ha
  have hC := fun w' (ha : At9 w' b g r) => cond9 ha
  rw [hy] at hA1
  rw [hz] at hC
  have hR0 : Blk (w.alloc (.cells #[.int .i64 0, .string ⟨#[]⟩, .int .i64 0, .int .i64 0] 74)) w.heap.size [.int .i64 0, .string ⟨#[]⟩, .int .i64 0, .int .i64 0] := Blk.is _ rfl
  have hnb : some w.heap.size ≠ some b := fun e => by injection e with e; have := h.lt; omega
  go_enter Tryz.func70, Tryz.ntmps70
  go_wp2_with (first | (go_at_call 72; refine (hA1 _ (h.later (b1 _ _))).mono ?_; intro e' w2 ho; obtain ⟨hg2, v2, rfl, ⟨rfl, ho2⟩, ha2⟩ := out_o ho) | (go_at_call 95; refine (hC _ ha2).mono ?_; intro e' w3 ho3; obtain ⟨hg3, v3, rfl, ⟨rfl, ho4⟩, ha3⟩ := out_o ho3; have hR3 := (hR0.grown hg2 hnb).grown hg3 hnb; have c0 := hR3.cell 0 _ rfl; have c1 := hR3.cell 1 _ rfl; have c2 := hR3.cell 2 _ rfl; have c3 := hR3.cell 3 _ rfl; have f0 := hR3.fr 0 _ rfl; have f1 := hR3.fr 1 _ rfl; have f2 := hR3.fr 2 _ rfl; have f3 := hR3.fr 3 _ rfl))
  refine named_post fun V hV => ?_
  obtain ⟨hVb, hVo⟩ := hv_out hR3 hV
  have hg : w.grownBy V (some b) := grown_only (grown_trans (grown_to (b1 _ _) hg2) hg3) (Nat.le_refl _) hVo
  have haV : At9 V b g r2 := at9_end h ha3 hg hVo (fun e => hnb (by rw [e]))
  clear hV c0 c1 c2 c3 f0 f1 f2 f3
  have c0 := hVb.cell 0 _ rfl
  have c1 := hVb.cell 1 _ rfl
  have c2 := hVb.cell 2 _ rfl
  have c3 := hVb.cell 3 _ rfl
  exact bodyPost_ret (v := .agg #[.int .i64 a.fn, .string (strOf a.nm), .int .i64 c.op, .int .i64 c.va]) (by simp [results, Tryz.results70, go_sem, c0, c1, c2, c3]; try rfl) rfl (out_ok hg ⟨rfl, ho4, ho2⟩ haV)
theorem have9 {w : World} {b : Nat} {g : G9} {l : List T} (h : At9 w b g l) (hA : ∀ w' l', At9 w' b g l' → Calls Tryz.prog 72 #[.pointer (some ⟨b, 0, none⟩)] w' (Out9 w' b g (aggP g.e l') IsG)) :
    Calls Tryz.prog 70 #[.pointer (some ⟨b, 0, none⟩)] w (Out9 w b g (haveP g.e l) IsH) := by
  unfold haveP
  cases hy : aggP g.e l with
  | error y => exact have_1 h hA y hy
  | ok ar =>
    obtain ⟨a, r⟩ := ar
    rw [andThen_ok]
    cases hz : condP g.e r with
    | error y => exact have_2 h hA a r y hy hz
    | ok ar =>
      obtain ⟨c, r2⟩ := ar
      rw [andThen_ok]
      exact have_3 h hA a c r r2 hy hz

/-! Categories -/
set_option maxRecDepth 100000 in
theorem cat_1 {w : World} {b : Nat} {g : G9} {l : List T} (bf : Int) (h : At9 w b g l) (y : F) (hy : numP g.e 0 63 l = .error y) :
    Calls Tryz.prog 148 #[.pointer (some ⟨b, 0, none⟩), .int .i64 bf] w (Out9 w b g (.error y : R Int) IsN) := by
  have hH := here_any h
  have hN := fun w' (ha : At9 w' b g l) => number9 0 63 ha
  rw [hy] at hN
  generalize ((hereT g l).1 : Int) = kd at hH
  generalize strOf (hereT g l).2.1 = tx at hH
  generalize ((hereT g l).2.2 : Int) = at_ at hH
  have hF := tk_field2 kd tx at_
  go_enter Tryz.func148, Tryz.ntmps148
  go_wp2_with (first | (go_at_call 128; refine hH.mono ?_; rintro e' w1 ⟨rfl, hb1⟩) | (go_at_call 67; refine (hN _ (h.later hb1)).mono ?_; intro e' w2 ho; obtain ⟨hg2, rfl⟩ := out_e ho))
  exact ⟨rfl, out_err (grown_to hb1 hg2)⟩
theorem place_is (g : G9) (l : List T) : (hereT g l).2.2 = placeP g.e l := by cases l <;> rfl
set_option maxRecDepth 100000 in
theorem cat_2 {w : World} {b : Nat} {g : G9} {l : List T} (bf : Int) (h : At9 w b g l) (c : Int) (r : List T) (hy : numP g.e 0 63 l = .ok (c, r)) (hc : c ≤ bf) :
    Calls Tryz.prog 148 #[.pointer (some ⟨b, 0, none⟩), .int .i64 bf] w (Out9 w b g (.error (9, placeP g.e l) : R Int) IsN) := by
  have hH := here_any h
  have hN := fun w' (ha : At9 w' b g l) => number9 0 63 ha
  rw [hy] at hN
  have hX := fun w => stopAt_any 9 (placeP g.e l) w
  rw [place_is] at hH
  generalize placeP g.e l = at_ at hH hX ⊢
  generalize ((hereT g l).1 : Int) = kd at hH
  generalize strOf (hereT g l).2.1 = tx at hH
  have hF := tk_field2 kd tx (at_ : Int)
  clear hy
  go_enter Tryz.func148, Tryz.ntmps148
  go_wp2_with (first | (go_at_call 128; refine hH.mono ?_; rintro e' w1 ⟨rfl, hb1⟩) | (go_at_call 67; refine (hN _ (h.later hb1)).mono ?_; intro e' w2 ho; obtain ⟨hg2, v2, rfl, rfl, ha2⟩ := out_o ho) | (go_at_call 127; refine (hX _).mono ?_; rintro e' w3 ⟨rfl, rfl⟩))
  exact ⟨rfl, out_err (grown_to hb1 hg2)⟩
set_option maxRecDepth 100000 in
theorem cat_3 {w : World} {b : Nat} {g : G9} {l : List T} (bf : Int) (h : At9 w b g l) (c : Int) (r : List T) (hy : numP g.e 0 63 l = .ok (c, r)) (hc : ¬ c ≤ bf) :
    Calls Tryz.prog 148 #[.pointer (some ⟨b, 0, none⟩), .int .i64 bf] w (Out9 w b g (.ok (c, r) : R Int) IsN) := by
  have hH := here_any h
  have hN := fun w' (ha : At9 w' b g l) => number9 0 63 ha
  rw [hy] at hN
  generalize ((hereT g l).1 : Int) = kd at hH
  generalize strOf (hereT g l).2.1 = tx at hH
  generalize ((hereT g l).2.2 : Int) = at_ at hH
  have hF := tk_field2 kd tx at_
  clear hy
  go_enter Tryz.func148, Tryz.ntmps148
  go_wp2_with (first | (go_at_call 128; refine hH.mono ?_; rintro e' w1 ⟨rfl, hb1⟩) | (go_at_call 67; refine (hN _ (h.later hb1)).mono ?_; intro e' w2 ho; obtain ⟨hg2, v2, rfl, rfl, ha2⟩ := out_o ho))
  go_ret
  exact out_ok (grown_to hb1 hg2) rfl ha2
theorem category9 {w : World} {b : Nat} {g : G9} {l : List T} (bf : Int) (h : At9 w b g l) :
    Calls Tryz.prog 148 #[.pointer (some ⟨b, 0, none⟩), .int .i64 bf] w (Out9 w b g (catP g.e bf l) IsN) := by
  unfold catP
  cases hy : numP g.e 0 63 l with
  | error y => exact cat_1 bf h y hy
  | ok ar =>
    obtain ⟨c, r⟩ := ar
    rw [andThen_ok]
    by_cases hc : c ≤ bf
    · rw [if_pos hc]; exact cat_2 bf h c r hy hc
    · rw [if_neg hc]; exact cat_3 bf h c r hy hc
set_option maxRecDepth 100000 in
theorem lab1_err {w : World} {b X Y : Nat} {g : G9} {l : List T} (bf : Int) (h : At9 w b g l) (hX : Blk w X [.pointer (some ⟨b, 0, none⟩)]) (hY : Blk w Y [.int .i64 bf]) (y : F) (hy : catP g.e bf l = .error y) :
    Calls Tryz.prog 147 #[.pointer (some ⟨X, 0, none⟩), .pointer (some ⟨Y, 0, none⟩)] w fun e w' => e = .panicked [stopV y] ∧ w.grownBy w' (some b) := by
  have hC := category9 bf h
  rw [hy] at hC
  have x0 := hX.cell 0 _ rfl
  have y0 := hY.cell 0 _ rfl
  go_enter Tryz.func147, Tryz.ntmps147
  go_wp2_with (go_at_call 148; refine hC.mono ?_; intro e' w2 ho; obtain ⟨hg2, rfl⟩ := out_e ho)
  exact ⟨rfl, rfl, hg2⟩
set_option maxRecDepth 100000 in
theorem lab1_ok {w : World} {b X Y : Nat} {g : G9} {l : List T} (bf : Int) (h : At9 w b g l) (hX : Blk w X [.pointer (some ⟨b, 0, none⟩)]) (hY : Blk w Y [.int .i64 bf]) (hYb : Y ≠ b) (c : Int) (r : List T) (hy : catP g.e bf l = .ok (c, r)) :
    Calls Tryz.prog 147 #[.pointer (some ⟨X, 0, none⟩), .pointer (some ⟨Y, 0, none⟩)] w fun e w' => e = .returned (.int .i64 c) ∧ ∃ w1, w.grownBy w1 (some b) ∧ At9 w1 b g r ∧ w' = w1.setCell ⟨Y, 0, none⟩ (.int .i64 c) := by
  have hC := category9 bf h
  rw [hy] at hC
  have x0 := hX.cell 0 _ rfl
  have y0 := hY.cell 0 _ rfl
  go_enter Tryz.func147, Tryz.ntmps147
  go_wp2_with (go_at_call 148; refine hC.mono ?_; intro e' w2 ho; obtain ⟨hg2, v2, rfl, rfl, ha2⟩ := out_o ho; have hY2 := hY.grown hg2 (fun e => hYb (by injection e)); have z0 := hY2.cell 0 _ rfl; have q0 := hY2.fr 0 _ rfl)
  go_ret
  exact ⟨rfl, _, hg2, ha2, rfl⟩
theorem cat_range {e : Nat} {bf : Int} {l : List T} {c : Int} {r : List T} (h : catP e bf l = .ok (c, r)) : 0 ≤ c ∧ c ≤ 63 := by
  obtain ⟨c', r1, h1, h2⟩ := andThen_some h
  split at h2
  · cases h2
  · cases h2
    exact (num_range h1).2
/-- What stands while categories are read. -/
structure LJ (w0 w : World) (b X Y : Nat) (g : G9) (l : List T) (x : R (List Int)) (m : Nat) (v : Value) (wr : World) (cs : List Int) (c : Int) (r : List T) : Prop where
  fuel : r.length ≤ m
  eq : x = andThen (moreC g.e m c r) fun zs r' => .ok (cs ++ zs, r')
  at9 : At9 wr b g r
  gr : w0.grownBy wr (some b)
  sz : w.heap.size ≤ wr.heap.size
  own : wr.ownsRow w.heap.size 3 1 v cs.length (cs.map fun c => .int .i64 c)
  bx : Blk wr X [.pointer (some ⟨b, 0, none⟩)]
  bY : Blk wr Y [.int .i64 c]
  few : cs.length + r.length ≤ g.ts.length + 1
theorem lj_grown {w0 w wr w1 : World} {b X Y : Nat} {g : G9} {l : List T} {x : R (List Int)} {m : Nat} {v : Value} {cs : List Int} {c : Int} {r : List T} (h : LJ w0 w b X Y g l x m v wr cs c r) (hb : b < w.heap.size) (hX : X ≠ b) (hY : Y ≠ b) (hg : wr.grownBy w1 (some b)) :
    w0.grownBy w1 (some b) ∧ w1.ownsRow w.heap.size 3 1 v cs.length (cs.map fun c => .int .i64 c) ∧ Blk w1 X [.pointer (some ⟨b, 0, none⟩)] ∧ Blk w1 Y [.int .i64 c] := by
  refine ⟨grown_trans h.gr hg, h.own.kept hg ?_, h.bx.grown hg (fun e => hX (by injection e)), h.bY.grown hg (fun e => hY (by injection e))⟩
  have hlv := h.own.lt
  cases hv : v.ownBlock with
  | none => exact .inl rfl
  | some k => exact .inr (fun e => by injection e with e; have := hlv k hv; omega)
theorem size_set (w : World) (p : Addr) (u : Value) : (w.setCell p u).heap.size = w.heap.size := by simp [World.setCell]
theorem lj_stop {w0 w wr : World} {b X Y : Nat} {g : G9} {l : List T} {x : R (List Int)} {m : Nat} {v : Value} {cs : List Int} {c : Int} {r : List T} (h : LJ w0 w b X Y g l x m v wr cs c r) (hs : seesP [44] r = false) : x = .ok (cs, r) := by
  rw [h.eq]
  have : moreC g.e m c r = .ok ([], r) := by
    cases m with
    | zero => rfl
    | succ m =>
      show (if seesP [44] r = true then _ else _) = _
      rw [if_neg (by rw [hs]; decide)]
  rw [this, andThen_ok, List.append_nil]
theorem lj_more {w0 w wr : World} {b X Y : Nat} {g : G9} {l : List T} {x : R (List Int)} {m : Nat} {v : Value} {cs : List Int} {c : Int} {r : List T} (h : LJ w0 w b X Y g l x m v wr cs c r) (hs : seesP [44] r = true) :
    ∃ m', m = m' + 1 ∧ r.tail.length + 1 = r.length ∧ (∀ y, catP g.e c r.tail = .error y → x = .error y) ∧ ∀ a r2, catP g.e c r.tail = .ok (a, r2) → x = andThen (moreC g.e m' a r2) fun zs r' => .ok ((cs ++ [a]) ++ zs, r') := by
  have hf := h.fuel
  have hr0 : r ≠ [] := fun e => by rw [e] at hs; cases hs
  have hrl : r.tail.length + 1 = r.length := by cases r with
    | nil => exact absurd rfl hr0
    | cons t r => rfl
  obtain ⟨m', rfl⟩ : ∃ m', m = m' + 1 := ⟨m - 1, by omega⟩
  refine ⟨m', rfl, hrl, fun y hy => ?_, fun a r2 hy => ?_⟩
  · rw [h.eq]
    show andThen (if seesP [44] r = true then _ else _) _ = _
    rw [if_pos hs, hy]
    rfl
  · rw [h.eq]
    show andThen (if seesP [44] r = true then _ else _) _ = _
    rw [if_pos hs, hy, andThen_ok]
    cases moreC g.e m' a r2 with
    | error y => rfl
    | ok ar =>
      obtain ⟨zs, r'⟩ := ar
      show (Except.ok (cs ++ (a :: zs), r') : R (List Int)) = .ok ((cs ++ [a]) ++ zs, r')
      rw [List.append_assoc]
      rfl
set_option maxRecDepth 100000 in
set_option maxHeartbeats 4000000 in
theorem intList {w0 w : World} {b X Y : Nat} {g : G9} {l0 l : List T} (h0 : At9 w0 b g l0) (hg0 : w0.grownBy w (some b)) (h : At9 w b g l) (hX : Blk w X [.pointer (some ⟨b, 0, none⟩)]) (hY : Blk w Y [.int .i64 (-1)]) (hX0 : w0.heap.size ≤ X) (hY0 : w0.heap.size ≤ Y) (hXY : X ≠ Y) :
    Calls Tryz.prog 146 #[.pointer (some ⟨b, 0, none⟩), .string (strOf [44]), .func (.func 147) #[] #[.pointer (some ⟨X, 0, none⟩), .pointer (some ⟨Y, 0, none⟩)]] w fun e w' =>
      w0.grownBy w' (some b) ∧ (∀ y, catsP g.e l = .error y → e = .panicked [stopV y]) ∧ ∀ cs r, catsP g.e l = .ok (cs, r) → ∃ v, e = .returned v ∧ Sl (hide (fun k => decide (k < w.heap.size)) w') 1 cs.length v (cs.map fun c => .int .i64 c) ∧ At9 w' b g r ∧ Blk w' X [.pointer (some ⟨b, 0, none⟩)] := by
  have hb0 := h0.lt
  have hXb : X ≠ b := by omega
  have hYb : Y ≠ b := by omega
  have hbw : b < w.heap.size := h.lt
  have hYw : Y < w.heap.size := hY.lt
  obtain ⟨S, hS0⟩ : ∃ S, S = strOf [44] := ⟨_, rfl⟩
  rw [← hS0]
  obtain ⟨i0, hi, hz0, hz1, hz2⟩ := info_parts infoI
  cases hp : catP g.e (-1) l with
  | error y =>
    have h1 := lab1_err (-1) h hX hY y hp
    have hx : catsP g.e l = .error y := by unfold catsP; rw [hp]; rfl
    rw [hx]
    clear hx hS0
    go_enter Tryz.func146, Tryz.ntmps146
    go_wp2_with (go_at_call 147; refine h1.mono ?_; rintro e' w1 ⟨rfl, hg1⟩)
    exact ⟨rfl, grown_trans hg0 hg1, (fun y hy => by cases hy; rfl), fun cs r hy => by cases hy⟩
  | ok ar =>
    obtain ⟨a, r⟩ := ar
    have h1 := lab1_ok (-1) h hX hY hYb a r hp
    obtain ⟨x, hx⟩ : ∃ x, x = catsP g.e l := ⟨_, rfl⟩
    have hxe : x = andThen (moreC g.e r.length a r) fun cs r => .ok ([a] ++ cs, r) := by rw [hx]; unfold catsP; rw [hp]; rfl
    rw [← hx]
    have hrl := (cat_ends g.e (-1) l a r hp).length_le
    have hll : l.length ≤ g.ts.length := by obtain ⟨n, h1, h2, _⟩ := h.n; rw [h2, List.length_drop]; omega
    have HS : ∀ w1, w.grownBy w1 (some b) → At9 w1 b g r → LJ w0 w b X Y g l x r.length (.slice (some ⟨w1.heap.size, 0, none⟩) 1 1) ((w1.setCell ⟨Y, 0, none⟩ (.int .i64 a)).alloc (.cells #[.int .i64 a] 3)) [a] a r := fun w1 hg1 ha1 => by
      have hY1 := hY.grown hg1 (fun e => hYb (by injection e))
      have hX1 := hX.grown hg1 (fun e => hXb (by injection e))
      have hO : Only Y w1 (w1.setCell ⟨Y, 0, none⟩ (.int .i64 a)) := (Only.refl Y w1).setCell 0 _
      have hg2 : w0.grownBy (w1.setCell ⟨Y, 0, none⟩ (.int .i64 a)) (some b) := grown_only (grown_trans hg0 hg1) hY0 hO
      have hsz := hO.size
      have hs1 := hg1.size
      refine ⟨Nat.le_refl _, hxe, (at9_end h0 ha1 hg2 hO hYb).later (b1 _ _), grown_trans hg2 (grown_of b (b1 _ _)), by rw [World.size_alloc]; omega, ?_, (hX1.other (p := ⟨Y, 0, none⟩) (fun e => hXY e.symm) _).alloc _, (hY1.set 0 (.int .i64 a)).alloc _, by simp; omega⟩
      have := row_lit (w := w1.setCell ⟨Y, 0, none⟩ (.int .i64 a)) (base := w.heap.size) (e := 3) (sz := 1) [.int .i64 a] rfl (by omega)
      rw [hsz] at this
      exact this
    clear hx hp hxe
    have HSk := Lib.hid (fun w' r' (ha : At9 w' b g r') => skips_any [44] (by decide) ha)
    rw [← hS0] at HSk
    clear hS0
    go_enter Tryz.func146, Tryz.ntmps146
    go_wp2_with (go_at_call 147; refine h1.mono ?_; rintro e' wz ⟨rfl, w1, hg1, ha1, rfl⟩; have HL := Lib.hid (HS w1 hg1 ha1); clear hg1 ha1)
    clear h1 HS
    go_loopg [7] (r.length + 1) (fun gm v wr => ∃ cs c r' m, gm = m + 1 ∧ Hid (LJ w0 w b X Y g l x m v wr cs c r'))
    case atStart => exact ⟨_, _, _, _, rfl, HL⟩
    case round =>
      obtain ⟨cs, c, r', m, rfl, hL⟩ := hrel
      have hAt := hL.out.at9
      have hS := HSk.out wr r' hAt
      cases hs : seesP [44] r' with
      | false =>
        rw [hs] at hS
        simp only [Bool.false_eq_true, if_false] at hS
        have HX := Lib.hid (lj_stop hL.out hs)
        have HG := Lib.hid (fun w1 hg => lj_grown hL.out hbw hXb hYb (w1 := w1) hg)
        clear hs hAt hL HL
        go_wp2_with (go_at_call 68; refine hS.mono ?_; rintro e' w2 ⟨rfl, hg2, ha2⟩)
        go_ret
        obtain ⟨q1, q2, q3, q4⟩ := HG.out w2 hg2
        rw [HX.out]
        refine ⟨q1, (fun y hy => by cases hy), fun cs' r'' hy => ?_⟩
        cases hy
        exact ⟨_, rfl, sl_row q2 (fun k hk => by simp only [decide_eq_false_iff_not]; omega), ha2, q3⟩
      | true =>
        rw [hs] at hS
        simp only [if_true] at hS
        obtain ⟨m', rfl, hrt, hxe, hxo⟩ := lj_more hL.out hs
        cases hp1 : catP g.e c r'.tail with
        | error y =>
          have hx := Lib.hid (hxe y hp1)
          have hP1 := fun w1 hg (ha : At9 w1 b g r'.tail) => lab1_err (X := X) (Y := Y) c ha (lj_grown hL.out hbw hXb hYb (w1 := w1) hg).2.2.1 (lj_grown hL.out hbw hXb hYb (w1 := w1) hg).2.2.2 y hp1
          have hgr := hL.out.gr
          clear hs hAt hL HL hp1 HSk hxe hxo hrt
          go_wp2_with (first | (go_at_call 68; refine hS.mono ?_; rintro e' w2 ⟨rfl, hg2, ha2⟩) | (go_at_call 147; refine (hP1 _ hg2 ha2).mono ?_; rintro e' w3 ⟨rfl, hg3⟩))
          refine ⟨rfl, grown_trans (grown_trans hgr hg2) hg3, fun y' hy => ?_, fun cs' r'' hy => ?_⟩
          · rw [hx.out] at hy; cases hy; rfl
          · rw [hx.out] at hy; cases hy
        | ok ar =>
          obtain ⟨a2, r2⟩ := ar
          have hx := Lib.hid (hxo a2 r2 hp1)
          have hP1 := fun w1 hg (ha : At9 w1 b g r'.tail) => lab1_ok (X := X) (Y := Y) c ha (lj_grown hL.out hbw hXb hYb (w1 := w1) hg).2.2.1 (lj_grown hL.out hbw hXb hYb (w1 := w1) hg).2.2.2 hYb a2 r2 hp1
          have HG := Lib.hid (fun w1 hg => lj_grown hL.out hbw hXb hYb (w1 := w1) hg)
          have hr2 := Lib.hid ((cat_ends g.e c r'.tail a2 r2 hp1).length_le)
          have hfew := hL.out.few
          have hfew2 : cs.length ≤ 100000 := by have := h.ok.n; omega
          have HF := Lib.hid hL.out.fuel
          have HZ := Lib.hid hL.out.sz
          obtain ⟨vA, vc, rfl⟩ := own_form hL.out.own
          clear hs hAt hp1 HSk HL hxe hxo hL
          go_wp2_with (first | (go_at_call 68; refine hS.mono ?_; rintro e' w2 ⟨rfl, hg2, ha2⟩) | (go_at_call 147; refine (hP1 _ hg2 ha2).mono ?_; rintro e' wz ⟨rfl, w3, hg3, ha3, rfl⟩; obtain ⟨q1, q2, q3, q4⟩ := HG.out w3 (grown_trans hg2 hg3); have hown3 := own_set q2 hYw 0 (.int .i64 a2); have hz3 := Nat.le_trans HZ.out (grown_trans hg2 hg3).size; have HA3 := Lib.hid ha3; clear ha3; have hn3 := new_cells (w := w3.setCell ⟨Y, 0, none⟩ (.int .i64 a2)) (t := 3) [.int .i64 a2]; rw [size_set] at hn3) | (at_builtin; refine wpList_append_own _ rfl _ _ 51 rfl w.heap.size 3 i0 (.int .i64 0) 1 8 Tryz.underlying51 hi hz0 hz1 hz2 rfl (by decide) _ _ _ rfl (hown3.alloc _) ⟨w3.heap.size, 0, none⟩ 1 1 [.int .i64 a2] rfl rfl hn3 (by simp [Value.oneCell']) (by unfold maxLen; omega) (by omega) (by rw [World.size_alloc, size_set]; omega) ?_; intro v' w4 hown' hgrow _))
          have hO3 : Only Y w3 (w3.setCell ⟨Y, 0, none⟩ (.int .i64 a2)) := (Only.refl Y w3).setCell 0 _
          have hg3' := grown_only q1 hY0 hO3
          have hvn : ∀ k, (Value.slice vA cs.length vc).ownBlock = some k → w.heap.size ≤ k := fun k e => (q2.lt k e).1
          have hg4 : ((w3.setCell ⟨Y, 0, none⟩ (.int .i64 a2))).grownBy w4 (Value.slice vA cs.length vc).ownBlock := World.grownBy.trans (World.grownBy_alloc _ _ _) hgrow
          have hw0w := hg0.size
          have hL4 : LJ w0 w b X Y g l x m' v' w4 (cs ++ [a2]) a2 r2 := by
            have hgw : w0.grownBy w4 (some b) := ⟨hg4.os.trans hg3'.os, hg4.tape.trans hg3'.tape, hg4.output.trans hg3'.output, Nat.le_trans hg3'.size hg4.size, fun k hk hne => (hg4.block k (Nat.lt_of_lt_of_le hk hg3'.size) (fun e => by have := hvn k e.symm; omega)).trans (hg3'.block k hk hne)⟩
            have keepB : ∀ (k : Nat) (us : List Value), k < w.heap.size → Blk (w3.setCell ⟨Y, 0, none⟩ (.int .i64 a2)) k us → Blk w4 k us := fun k us hk hB => hB.grown hg4 (fun e => by have := hvn k e.symm; omega)
            refine ⟨?_, hx.out, ?_, hgw, ?_, ?_, ?_, ?_, ?_⟩
            · have := HF.out; have := hr2.out; omega
            · obtain ⟨n, n1, n2, n3⟩ := HA3.out.n
              exact h0.to hgw ⟨n, n1, n2, keepB b _ hbw (n3.other (p := ⟨Y, 0, none⟩) hYb _)⟩
            · have := hg4.size; rw [size_set] at this; omega
            · rw [List.length_append, List.map_append]; exact hown'
            · exact keepB X _ hX.lt (q3.other (p := ⟨Y, 0, none⟩) (fun e => hXY e.symm) _)
            · exact keepB Y _ hYw (q4.set 0 _)
            · have := hr2.out
              rw [List.length_append]
              simp only [List.length_cons, List.length_nil]
              omega
          go_roundg (m' + 1)
          case rel => exact ⟨_, _, _, _, rfl, Lib.hid hL4⟩
          case measure => omega
end Go.Proofs.YtdjaijhlhhnmeaaGreatDoor
