/- Walks: the program's reader of texts, whole. -/
import Derived.Test.YtkmkhegekonbmaaDoorRowZ
namespace Go.Proofs.YtkmkhegekonbmaaDoor
open Go.RowKit Go.Shelf
open Rw6
attribute [local go_sem] Oper.semAt_some

/-- What reading a text gives. -/
def RowsP (w : World) (t : List UInt8) (e : Ending) (w' : World) : Prop :=
  Below w.heap.size w w' ∧
  ((∃ (er : Int) (a : Nat), readG t = .error (er, a) ∧ e = .returned (.tuple #[.slice none 0 0, .agg #[.int .i64 er, .int .i64 (a : Int)]])) ∨
   (∃ rs v, readG t = .ok rs ∧ e = .returned (.tuple #[v, .agg #[.int .i64 0, .int .i64 0]]) ∧ Rown w' w.heap.size rs v))
theorem seq_split (b : Nat) (t : List UInt8) (ht : t.length ≤ 100000) (w : World) (h : Itr w b t) :
    SeqL Fence.wide 2 Tryd.prog 67 #[.pointer (some ⟨b + 1, 0, none⟩), .pointer (some ⟨b, 0, none⟩), .pointer (some ⟨b + 2, 0, none⟩)] (fun x : ByteArray => #[.string x]) b (Kp3 b) ((pcs t).map strOf) w :=
  fun l J Jx W hW hJb hY h0 => split_in 2 (by decide) l b t ht J Jx hJb hY W (h.below hW h.2.2.lt) h0
theorem kp3_t {b : Nat} {A B C : World} (h : Kp3 b A B) (k : Kp3 b B C) : Kp3 b A C := ⟨Nat.le_trans h.1 k.1, fun i h1 h2 => (k.2 i h1 h2).trans (h.2 i h1 h2)⟩
theorem kp3_b {b n : Nat} (hn : b + 3 ≤ n) (W : World) (l : Nat) (o o' : Obj) (hl : n ≤ l) (_ : W.heap[l]? = some o) (_ : o.isCells = false) : Kp3 b W (W.putObj l o') :=
  ⟨by simp, fun k _ h2 => World.putObj_heap_other (by omega)⟩
theorem bcell {W w1 : World} (hb : Below W.heap.size W w1) : (∀ b o, b < W.heap.size → w1.cell? ⟨b, o, none⟩ = W.cell? ⟨b, o, none⟩) ∧ (∀ b o, b < W.heap.size → w1.frozen? ⟨b, o, none⟩ = W.frozen? ⟨b, o, none⟩) :=
  ⟨fun b o h => hb.cell (p := ⟨b, o, none⟩) h, fun b o h => hb.frozen (p := ⟨b, o, none⟩) h⟩
/-- What reading a line gives, whichever way it goes: the row, the fault, and the row's words. -/
def lineOut (f : Nat) (l : List UInt8) : Int × Int × Int × List Rw6.W :=
  if 1000 < l.length then (0, 4, f, []) else match lineG l f with | .error a => (0, 3, a, []) | .ok ws => (f, 0, 0, ws)
theorem line_is (l : List UInt8) (f : Nat) (hs : l.length ≤ 100000) (hf : (10 : UInt8) ∉ l) (h1 : f ≤ 1000000) (w : World) :
    Calls Tryd.prog 49 #[.string (strOf l), .int .i64 (f : Int)] w fun e w' => ∃ A c, e = .returned (.tuple #[.agg #[.int .i64 (lineOut f l).1, .slice A (lineOut f l).2.2.2.length c], .agg #[.int .i64 (lineOut f l).2.1, .int .i64 (lineOut f l).2.2.1]]) ∧ Below w.heap.size w w' ∧
      w'.ownsRow w.heap.size 31 3 (.slice A (lineOut f l).2.2.2.length c) (lineOut f l).2.2.2.length (wcells ((lineOut f l).2.2.2.map wdOf)) := by
  have hfl : flat (strOf l) := fun b hb e => by
    rw [strOf_dat] at hb
    have e2 : b = 10 := (u8_lit (n := 10) (by decide)).2 e
    exact hf (e2 ▸ hb)
  refine (readLine_any (strOf l) f (by rw [strOf_size]; exact hs) hfl h1 w).mono ?_
  rintro e w' ⟨hb, h⟩
  rw [strOf_size, strOf_dat] at h
  unfold lineOut
  rcases h with ⟨h, rfl⟩ | ⟨h, a, he, rfl⟩ | ⟨h, ws, v, he, rfl, ho⟩
  · rw [if_pos h]
    exact ⟨none, 0, rfl, hb, World.ownsRow_nil _ _ _ _⟩
  · rw [if_neg h, he]
    exact ⟨none, 0, rfl, hb, World.ownsRow_nil _ _ _ _⟩
  · rw [if_neg h, he]
    obtain ⟨A, c, rfl⟩ := own_form ho
    exact ⟨A, c, rfl, hb, ho⟩
theorem rows_done {t : List UInt8} (ht : t.length ≤ 20000) {rs : List (Nat × List Rw6.W)} (h : rowsP (pcs t) 0 = .ok rs) : readG t = .ok rs := by
  unfold readG
  rw [if_neg (by omega), ← rowsP_rowsG, h]
theorem rows_stop {t : List UInt8} (ht : t.length ≤ 20000) {er : Int} {a : Nat} (h : rowsP (pcs t) 0 = .error (er, a)) : readG t = .error (er, a) := by
  unfold readG
  rw [if_neg (by omega), ← rowsP_rowsG, h]
theorem rows_out {w W : World} {rs : List (Nat × List Rw6.W)} {v : Value} (h0 : Blk W w.heap.size [.slice none 0 0]) (h1 : Blk W (w.heap.size + 1) [.int .i64 0, .int .i64 0]) (hO : Rown W (w.heap.size + 7) rs v) (hB : Below w.heap.size w W) (V : World)
    (hV : V = ((W.setCell ⟨w.heap.size, 0, none⟩ v).setCell ⟨w.heap.size + 1, 0, none⟩ (.int .i64 0)).setCell ⟨w.heap.size + 1, 1, none⟩ (.int .i64 0)) :
    Blk V w.heap.size [v] ∧ Blk V (w.heap.size + 1) [.int .i64 0, .int .i64 0] ∧ Rown V (w.heap.size + 7) rs v ∧ Below w.heap.size w V ∧ KeepsOthers W V := by
  subst hV
  exact ⟨((h0.set 0 v).other (by simp) _).other (by simp) _, ((h1.other (p := ⟨w.heap.size, 0, none⟩) (by simp) _).set 0 (.int .i64 0)).set 1 (.int .i64 0), ((hO.set (by omega) _ _).set (by omega) _ _).set (by omega) _ _,
    ((hB.setCell (p := ⟨w.heap.size, 0, none⟩) (by simp) _).setCell (p := ⟨w.heap.size + 1, 0, none⟩) (by simp) _).setCell (p := ⟨w.heap.size + 1, 1, none⟩) (by simp) _,
    ((KeepsOthers.setCell _ _ _).trans (KeepsOthers.setCell _ _ _)).trans (KeepsOthers.setCell _ _ _)⟩
theorem blk_put {W : World} {b D : Nat} {us : List Value} {o o' : Obj} (hne : us ≠ []) (h : Blk W b us) (hK : W.heap[D]? = some o) (ho : o.isCells = false) : Blk (W.putObj D o') b us :=
  blk_noncells hne h (grownBy_putObj' W D o') fun j e => by cases e; exact ⟨o, hK, ho⟩
theorem below_put {w W : World} {D : Nat} {o o' : Obj} (hB : Below w.heap.size w W) (_hK : W.heap[D]? = some o) (hD : w.heap.size ≤ D) : Below w.heap.size w (W.putObj D o') :=
  hB.grown (grownBy_putObj' W D o') hB.size fun k e => by cases e; exact hD
theorem Rown.put {W : World} {base D : Nat} {rs : List (Nat × List Rw6.W)} {v : Value} {o o' : Obj} (h : Rown W base rs v) (hK : W.heap[D]? = some o) (ho : o.isCells = false) : Rown (W.putObj D o') base rs v :=
  h.far (grownBy_putObj' W D o') fun j e => .inr (by cases e; exact ⟨o, hK, ho⟩)
theorem Rown.mono {W : World} {base base' : Nat} {rs : List (Nat × List Rw6.W)} {v : Value} (h : Rown W base rs v) (hb : base' ≤ base) : Rown W base' rs v := by
  obtain ⟨vs, h1, h2, h3⟩ := h
  exact ⟨vs, h1, own_mono h2 hb, fun i u r hu hr => own_mono (h3 i u r hu hr) hb⟩
theorem rowsP_line (p : List UInt8) (ps : List (List UInt8)) (f : Nat) : rowsP (p :: ps) f =
    if (lineOut f (chop p)).2.1 ≠ 0 then .error ((lineOut f (chop p)).2.1, (lineOut f (chop p)).2.2.1.toNat)
    else match rowsP ps (f + p.length) with | .error e => .error e | .ok rs => .ok (if (lineOut f (chop p)).2.2.2 = [] then rs else (f, (lineOut f (chop p)).2.2.2) :: rs) := by
  conv => lhs; unfold rowsP
  unfold lineOut
  by_cases h : 1000 < (chop p).length
  · rw [if_pos h, if_pos h]; rfl
  · rw [if_neg h, if_neg h]
    cases lineG (chop p) f with
    | error a => rfl
    | ok ws => rfl
theorem line_zero (f : Nat) (l : List UInt8) : (lineOut f l).2.1 = 0 → (lineOut f l).1 = (f : Int) := by
  unfold lineOut
  by_cases h : 1000 < l.length
  · rw [if_pos h]; intro e; cases e
  · rw [if_neg h]
    cases lineG l f with
    | error a => intro e; cases e
    | ok ws => intro _; rfl
theorem line_at (f : Nat) (l : List UInt8) : ((lineOut f l).2.2.1.toNat : Int) = (lineOut f l).2.2.1 := by
  unfold lineOut
  by_cases h : 1000 < l.length
  · rw [if_pos h]; simp
  · rw [if_neg h]
    cases lineG l f with
    | error a => simp
    | ok ws => rfl
theorem next_piece {dn rest : List (List UInt8)} {L : List (List UInt8)} {x : ByteArray} (h : L = dn ++ rest) (hp : dn.map strOf ++ [x] <+: L.map strOf) : ∃ p rest', rest = p :: rest' ∧ x = strOf p := by
  obtain ⟨z, hz⟩ := hp
  rw [h, List.map_append, List.append_assoc] at hz
  have := List.append_cancel_left hz
  cases rest with
  | nil => cases this
  | cons p rest => 
    simp only [List.map_cons, List.singleton_append, List.cons.injEq] at this
    exact ⟨p, rest, rfl, this.1⟩
theorem infoRow6 : (Tryd.prog.info? 43).map (fun i => (i.zero, i.size, i.bytes)) = some (some (.agg #[.int .i64 0, .slice none 0 0]), 2, 32) := by kernel_rfl
theorem kp3_set {b : Nat} (W : World) {k i : Nat} (hk : k < b) (u : Value) : Kp3 b W (W.setCell ⟨k, i, none⟩ u) := ⟨by simp [World.setCell], fun j h1 _ => Below.heap_setCell _ _ _ _ (by show j ≠ k; omega)⟩
theorem kp3_grown {b : Nat} {W W' : World} {row : Option Nat} (hg : W.grownBy W' row) (hb : b + 3 ≤ W.heap.size) (hr : ∀ j, row = some j → b + 3 ≤ j) : Kp3 b W W' :=
  ⟨hg.size, fun k h1 h2 => hg.block k (by omega) (fun e => by have := hr k e.symm; omega)⟩
/-- The next piece, when the line has no words. -/
theorem RI.skip {w W : World} {t : List UInt8} {dn rest : List (List UInt8)} {p : List UInt8} {frm : Nat} {rs : List (Nat × List Rw6.W)} {v : Value} (h : RI w t dn (p :: rest) frm rs v W) (hrows : rowsP (pcs t) 0 = glueR rs (rowsP rest (frm + p.length))) (f' : Int) (hf : f' = ((frm + p.length : Nat) : Int)) :
    RI w t (dn ++ [p]) rest (frm + p.length) rs v (W.setCell ⟨w.heap.size + 3, 0, none⟩ (.int .i64 f')) := by
  subst hf
  have hs := h.sum_
  rw [List.map_cons, List.sum_cons] at hs
  exact ⟨by rw [h.pcs_, List.append_assoc]; rfl, by omega, hrows, h.out.other (by simp) _, h.flt.other (by simp) _, h.row.other (by simp) _, h.frm_.set 0 _, h.own.set (by omega) _ _, h.bel.setCell (p := ⟨w.heap.size + 3, 0, none⟩) (by simp) _, by simpa [World.setCell] using h.big, by have := h.cnt; rw [List.length_append]; omega⟩
/-- The next piece, when the line is a row. -/
theorem RI.add {w W W1 : World} {t : List UInt8} {dn rest : List (List UInt8)} {p : List UInt8} {frm : Nat} {rs : List (Nat × List Rw6.W)} {ws : List Rw6.W} {v v1 : Value} {row : Option Nat} (h : RI w t dn (p :: rest) frm rs v W) (hrows : rowsP (pcs t) 0 = glueR (rs ++ [(frm, ws)]) (rowsP rest (frm + p.length)))
    (hO : Rown W1 (w.heap.size + 7) (rs ++ [(frm, ws)]) v1) (hg : W.grownBy W1 row) (hr : ∀ j, row = some j → w.heap.size + 7 ≤ j) (f' : Int) (hf : f' = ((frm + p.length : Nat) : Int)) :
    RI w t (dn ++ [p]) rest (frm + p.length) (rs ++ [(frm, ws)]) v1 ((W1.setCell ⟨w.heap.size + 2, 0, none⟩ v1).setCell ⟨w.heap.size + 3, 0, none⟩ (.int .i64 f')) := by
  subst hf
  have hs := h.sum_
  rw [List.map_cons, List.sum_cons] at hs
  have far : ∀ b, b < w.heap.size + 7 → some b ≠ row := fun b hb e => by have := hr b e.symm; omega
  refine ⟨by rw [h.pcs_, List.append_assoc]; rfl, by omega, hrows, ((h.out.grown hg (far _ (by omega))).other (by simp) _).other (by simp) _, ((h.flt.grown hg (far _ (by omega))).other (by simp) _).other (by simp) _, ((h.row.grown hg (far _ (by omega))).set 0 v1).other (by simp) _, ((h.frm_.grown hg (far _ (by omega))).other (p := ⟨w.heap.size + 2, 0, none⟩) (by simp) _).set 0 _, (hO.set (by omega) _ _).set (by omega) _ _, ?_, ?_, by have := h.cnt; rw [List.length_append, List.length_append]; simp only [List.length_cons, List.length_nil]; omega⟩
  · exact ((h.bel.grown hg h.bel.size fun j e => by have := hr j e; omega).setCell (p := ⟨w.heap.size + 2, 0, none⟩) (by simp) _).setCell (p := ⟨w.heap.size + 3, 0, none⟩) (by simp) _
  · have := hg.size
    have := h.big
    simp [World.setCell]
    omega
set_option maxRecDepth 100000 in
set_option maxHeartbeats 8000000 in
theorem rows_any (t : List UInt8) (ht : t.length ≤ 20000) (w : World) :
    Calls Tryd.prog 25 #[.string (strOf t)] w (RowsP w t) := by
  have hsz : (strOf t).size = t.length := strOf_size t
  have hl' : ¬ (20000 : Int) < (t.length : Int) := by omega
  refine (callsIn_wide (n := 3)).1 ?_
  refine callsIn_of_wp_marks Tryd.func25 rfl trivial ?_ rfl
  simp only [Tryd.ntmps25, List.size_toArray, List.length_cons, List.length_nil, Nat.reduceAdd, Nat.reduceSub, Array.replicate_succ, Array.replicate_zero, List.push_toArray, List.append_toArray, List.nil_append, List.cons_append]
  gi_wp2_with (refine ⟨trivial, ?_⟩; gi_at_call 48; refine (callsIn_wide.2 (split_any _ _)).mono ?_; rintro e w' ⟨rfl, rfl⟩)
  have k0 : Blk (((((((w.alloc (.cells #[.slice none 0 0] 22)).alloc (.cells #[.int .i64 0, .int .i64 0] 47)).alloc (.cells #[.slice none 0 0] 22)).alloc (.cells #[.int .i64 0] 3)).alloc (.cells #[.string (strOf t)] 9)).alloc (.cells #[.string ⟨#[10]⟩] 9)).alloc (.cells #[.int .i64 1] 3)) w.heap.size [.slice none 0 0] := ((((((Blk.is _ rfl).alloc _).alloc _).alloc _).alloc _).alloc _).alloc _
  refine wpIn_range_seqL rfl (by decide) (gf := 67) (lb := #[.pointer (some ⟨w.heap.size + 4 + 1, 0, none⟩), .pointer (some ⟨w.heap.size + 4, 0, none⟩), .pointer (some ⟨w.heap.size + 4 + 2, 0, none⟩)]) rfl trivial (enters_of Tryd.func67 (by kernel_rfl) rfl)
    (seq_split (w.heap.size + 4) t (by omega) _ ⟨((Blk.is (us := [.string (strOf t)]) _ (by simp)).alloc _).alloc _, (Blk.is (us := [.string ⟨#[10]⟩]) _ (by simp)).alloc _, Blk.is (us := [.int .i64 1]) _ (by simp)⟩)
    (fun h k => kp3_t h k) (kp3_b (by simp)) (Below.refl _ _) (fun _ => rfl) (by simp)
    (fun pre W => ∃ dn rest frm rs v, pre = dn.map strOf ∧ RI w t dn rest frm rs v W)
    (fun _ W => ∃ (er : Int) (a : Nat), readG t = .error (er, a) ∧ Blk W w.heap.size [.slice none 0 0] ∧ Blk W (w.heap.size + 1) [.int .i64 er, .int .i64 (a : Int)] ∧ Below w.heap.size w W)
    ?hI ?hIx ?hIb ?h0
    (fun x => { tmps := #[.string (strOf t), undef, .pointer (some ⟨w.heap.size, 0, none⟩), .pointer (some ⟨w.heap.size + 1, 0, none⟩), .pointer (some ⟨w.heap.size + 2, 0, none⟩), .pointer (some ⟨w.heap.size + 3, 0, none⟩), .string x, undef, undef, .string (strOf t), .int .i64 (t.length : Int), .bool false, undef, .string (strOf t), .func (.func 67) #[] #[.pointer (some ⟨w.heap.size + 4 + 1, 0, none⟩), .pointer (some ⟨w.heap.size + 4, 0, none⟩), .pointer (some ⟨w.heap.size + 4 + 2, 0, none⟩)], .string x, undef, undef, undef, undef, undef, undef, undef, undef, undef, undef, undef, undef, undef, undef, undef, undef, undef, undef, undef, undef, undef, undef, undef, undef, undef], defers := [] }) ?assign ?body ?done ?stop
  case hI =>
    rintro s A B row ⟨dn, rest, frm, rs, v, rfl, h⟩ hg hr
    exact ⟨dn, rest, frm, rs, v, rfl, h.grown hg fun j e => by have := hr j e; simpa using this⟩
  case hIx =>
    rintro s A B row ⟨er, a, he, h1, h2, h3⟩ hg hr
    exact ⟨er, a, he, blk_noncells (by simp) h1 hg fun j e => (hr j e).2, blk_noncells (by simp) h2 hg fun j e => (hr j e).2, h3.grown hg h3.size fun j e => by have := (hr j e).1; simp at this; omega⟩
  case hIb =>
    rintro s W u ⟨dn, rest, frm, rs, v, rfl, h⟩
    exact ⟨dn, rest, frm, rs, v, rfl, h.blind u⟩
  case h0 =>
    refine ⟨[], pcs t, 0, [], .slice none 0 0, rfl, rfl, by rw [Nat.zero_add]; exact pcs_sum t, (glueR_nil _).symm, k0, ?_, ?_, ?_, Rown.nil _ _, ?_, ?_, Nat.le_refl _⟩
    · exact (((((Blk.is _ (by simp)).alloc _).alloc _).alloc _).alloc _).alloc _
    · exact ((((Blk.is _ (by simp)).alloc _).alloc _).alloc _).alloc _
    · exact (((Blk.is (us := [.int .i64 ((0 : Nat) : Int)]) _ (by simp)).alloc _).alloc _).alloc _
    · go_grown
    · simp
  case assign =>
    intro l x W K hK
    gi_wp2
    exact hK
  case body =>
    rintro l pre x W hpre ⟨dn, rest, frm, rs, v, rfl, h⟩
    obtain ⟨p, rest', rfl, rfl⟩ := next_piece h.pcs_ hpre
    have hsum := h.sum_
    rw [List.map_cons, List.sum_cons] at hsum
    have hchop := pcs_chop t p (by rw [h.pcs_]; simp)
    have hcl := chop_len p
    have hLn := fun w => line_is (chop p) frm (by omega) hchop (by omega) w
    have hTr : ∀ w, Calls Tryd.prog 50 #[.string (strOf p), .string ⟨#[10]⟩] w fun e w' => e = .returned (.string (strOf (chop p))) ∧ w = w' := fun w => by
      have := Tryd.strings_TrimSuffix (strOf p) ⟨#[10]⟩ w (by rw [strOf_size]; omega)
      rw [strOf_dat, show (⟨#[10]⟩ : ByteArray).data.toList = [10] from rfl, trim_chop] at this
      exact this.mono fun _ _ ⟨h1, h2⟩ => ⟨h1, h2.symm⟩
    have c3 := h.frm_.cell 0 _ rfl
    have hB0 := h.bel.size
    have hl3 := h.frm_.lt
    have H := Lib.hid h
    obtain ⟨z0, er, fa, ws, hlo⟩ : ∃ z0 er fa ws, lineOut frm (chop p) = (z0, er, fa, ws) := ⟨_, _, _, _, rfl⟩
    rw [hlo] at hLn
    simp only at hLn
    have HLO := Lib.hid hlo
    clear h hpre hlo hchop k0 hsz
    gi_wp2
    refine wpIn_mono (Q := fun e a' W' => e = .normal ∧ RCut t p frm z0 er fa ws w W a' W') ?_ ?_
    · refine wpIn_region_any (by kernel_rfl) ?_
      exact rows_region t p frm z0 er fa ws w W l hTr hLn hl3 c3 _ rfl
    · rintro e a' W' ⟨rfl, b7, b8, A, c, rfl, gA, gB, hA, hB, hb, ho⟩
      have hg0 : W.grownBy W' none := ⟨hb.os, hb.tape, hb.output, hb.size, fun k hk _ => hb.block k hk⟩
      have hR := H.out.grown hg0 (fun j e => by cases e)
      have hKO : KeepsOthers W W' := KeepsOthers.of_grownBy hg0 (fun j o e => by cases e)
      have hKp : Kp3 (w.heap.size + 4) W W' := ⟨hb.size, fun k _ h2 => hb.block k (by have := H.out.big; omega)⟩
      have hbig := H.out.big
      have hrows := hR.rows
      rw [rowsP_line, HLO.out] at hrows
      simp only at hrows
      have k7a := hA.cell 0 _ rfl
      have k7b := hA.cell 1 _ rfl
      have k8a := hB.cell 0 _ rfl
      have k8b := hB.cell 1 _ rfl
      have o0 := hR.out.cell 0 _ rfl
      have o1 := hR.out.fr 0 _ rfl
      have f0 := hR.flt.cell 0 _ rfl
      have f1 := hR.flt.cell 1 _ rfl
      have f2 := hR.flt.fr 0 _ rfl
      have f3 := hR.flt.fr 1 _ rfl
      have HKO := Lib.hid hKO
      have HKP := Lib.hid hKp
      have HR := Lib.hid hR
      clear hKO hKp hR hTr hLn c3 hB0 hl3
      unfold frR
      by_cases her : er = 0
      · subst her
        have hz := line_zero frm (chop p) (by rw [HLO.out])
        rw [HLO.out] at hz
        simp only at hz
        subst hz
        rw [if_neg (by simp)] at hrows
        have hsp : (strOf p).size = p.length := strOf_size p
        have hwr : IntKind.i64.wrap ((frm : Int) + (p.length : Int)) = (frm : Int) + (p.length : Int) := IntWalk.i64_in _ ⟨by omega, by omega⟩
        have m0 := HR.out.frm_.cell 0 _ rfl
        have m1 := HR.out.frm_.fr 0 _ rfl
        by_cases hws : ws = []
        · subst hws
          have hrows2 : rowsP (pcs t) 0 = glueR rs (rowsP rest' (frm + p.length)) := by
            rw [hrows]; cases rowsP rest' (frm + p.length) <;> rfl
          have HRS := Lib.hid hrows2
          clear hrows hrows2
          gi_wp2
          exact ⟨HKO.out.trans (KeepsOthers.setCell _ _ _), kp3_t HKP.out (kp3_set _ (by omega) _), dn ++ [p], rest', frm + p.length, rs, v, by simp, HR.out.skip HRS.out _ (by go_num)⟩
        · have hwl : 0 < ws.length := List.length_pos_iff.2 hws
          have hwi : (0 : Int) < (ws.length : Int) := by omega
          have hrows2 : rowsP (pcs t) 0 = glueR (rs ++ [(frm, ws)]) (rowsP rest' (frm + p.length)) := by
            rw [hrows]
            cases rowsP rest' (frm + p.length) with
            | error e => rfl
            | ok l => simp [glueR, hws]
          have HRS := Lib.hid hrows2
          obtain ⟨vs, hvl, hv2, hv3⟩ := HR.out.own
          have HVL := Lib.hid hvl
          have HV3 := Lib.hid hv3
          have hrl : rs.length ≤ 20001 := by
            have h1 := HR.out.cnt
            have h2 := congrArg List.length HR.out.pcs_
            have h3 := pcs_len t
            rw [List.length_append] at h2
            omega
          obtain ⟨i0, hi, hz0, hz1, hz2⟩ := info_parts infoRow6
          have r0 := HR.out.row.cell 0 _ rfl
          have hlw := HR.out.row.lt
          clear hrows hrows2 hvl hv3 hws
          gi_wp2_with (gi_at_builtin; go_loud (refine wpListIn_append_own _ rfl _ _ 22 rfl (w.heap.size + 7) 43 i0 (.agg #[.int .i64 0, .slice none 0 0]) 2 32 Tryd.underlying22 hi hz0 hz1 hz2 rfl (by decide) _ _ _ rfl (hv2.alloc _) ⟨W'.heap.size, 0, none⟩ 1 1 (rcell ((frm : Int), .slice A ws.length c)) rfl rfl (blk_cells (Blk.is (us := rcell ((frm : Int), .slice A ws.length c)) 43 rfl)) (by simp [rcell, Value.oneCell']) (by unfold maxLen; omega) (by omega) (by have := HR.out.big; simp; omega) ?_; intro v' w3 hown' hgrow _; obtain ⟨A', c', rfl⟩ := own_form hown'; have far := fun j (e : v.ownBlock = some j) => (hv2.lt j e).1; have hw2 := (HR.out.row.alloc _).grown hgrow (fun e => by have := far _ e.symm; omega); have hw3 := (HR.out.frm_.alloc _).grown hgrow (fun e => by have := far _ e.symm; omega); have q0 := hw2.cell 0 _ rfl; have q1 := hw2.fr 0 _ rfl; have q2 := hw3.cell 0 _ rfl; have q3 := hw3.fr 0 _ rfl; have q4 := hw2.lt; have q5 := hw3.lt; have HSN := Lib.hid (Rown.snoc (a := frm) (ws := ws) vs HVL.out (hv2.alloc _) (fun i u r h1 h2 => (HV3.out i u r h1 h2).alloc _) ((own_mono ho hbig).alloc _) hown' hgrow); have HG := Lib.hid ((World.grownBy_alloc W' _ _).trans hgrow); have HKO3 := Lib.hid ((KeepsOthers.alloc W' _).trans (KeepsOthers.of_grownBy hgrow (fun j o e ho => own_cells (hv2.alloc _) j o e ho))); have HFAR := Lib.hid far; clear far hw2 hw3 hown' hgrow))
          exact ⟨(HKO.out.trans HKO3.out).trans ((KeepsOthers.setCell _ _ _).trans (KeepsOthers.setCell _ _ _)), kp3_t (kp3_t HKP.out (kp3_grown HG.out HR.out.big (fun j e => by have := HFAR.out j e; omega))) (kp3_t (kp3_set _ (by omega) _) (kp3_set _ (by omega) _)), dn ++ [p], rest', frm + p.length, _, _, by simp, HR.out.add HRS.out HSN.out HG.out (fun j e => by have := HFAR.out j e; omega) _ (by go_num)⟩
      · have hnb : (er != 0) = true := by simpa using her
        rw [if_pos her] at hrows
        have hst := Lib.hid (rows_stop ht hrows)
        have hfa := line_at frm (chop p)
        rw [HLO.out] at hfa
        simp only at hfa
        have HFA := Lib.hid hfa
        have nb0 : b8 ≠ w.heap.size := by omega
        have nb1 : b8 ≠ w.heap.size + 1 := by omega
        clear hrows hfa her
        gi_wp2
        gi_region_with (fail)
        all_goals gi_wp2
        all_goals exact ⟨HKO.out.trans ((((KeepsOthers.setCell _ _ _).trans (KeepsOthers.setCell _ _ _)).trans (KeepsOthers.setCell _ _ _)).trans (KeepsOthers.drew _)), er, fa.toNat, hst.out, (((HR.out.out.set 0 _).other (by simp) _).other (by simp) _).drew, by rw [HFA.out]; exact (((HR.out.flt.other (p := ⟨w.heap.size, 0, none⟩) (by simp) _).set 0 (.int .i64 er)).set 1 (.int .i64 fa)).drew, (((HR.out.bel.setCell (p := ⟨w.heap.size, 0, none⟩) (by simp) _).setCell (p := ⟨w.heap.size + 1, 0, none⟩) (by simp) _).setCell (p := ⟨w.heap.size + 1, 1, none⟩) (by simp) _).drew⟩
  case done =>
    rintro D W hD ⟨dn, rest, frm, rs, v, hdn, h⟩ hK
    have hrest : rest = [] := by
      have e := congrArg List.length hdn
      rw [h.pcs_, List.length_map, List.length_map, List.length_append] at e
      exact List.eq_nil_of_length_eq_zero (by omega)
    have hrd : readG t = .ok rs := rows_done ht (by rw [h.rows, hrest]; simp [rowsP, glueR])
    have HRD := Lib.hid hrd
    have hOwn := h.own
    obtain ⟨A, c, rfl⟩ := hOwn.form
    have hB := h.bel
    have hK0 := h.out
    have hK1 := h.flt
    have c0 := h.out.cell 0 _ rfl
    have c1 := h.flt.cell 0 _ rfl
    have c2 := h.flt.cell 1 _ rfl
    have c3 := h.row.cell 0 _ rfl
    have f0 := h.out.fr 0 _ rfl
    have f1 := h.flt.fr 0 _ rfl
    have f2 := h.flt.fr 1 _ rfl
    have hDD : w.heap.size ≤ D := by simp at hD; omega
    clear hdn hrest hrd h k0 hsz
    gi_wp2
    obtain ⟨V, hV⟩ : ∃ V, V = ((W.setCell ⟨w.heap.size, 0, none⟩ (.slice A rs.length c)).setCell ⟨w.heap.size + 1, 0, none⟩ (.int .i64 0)).setCell ⟨w.heap.size + 1, 1, none⟩ (.int .i64 0) := ⟨_, rfl⟩
    obtain ⟨hV0, hV1, hVO, hVB, hVK⟩ := rows_out hK0 hK1 hOwn hB V hV
    rw [← hV]
    have hKV := hVK.same D _ hK rfl
    refine ⟨by simp, .inl ⟨_, _, rfl, run_takeDeferred hKV, ?_⟩⟩
    have hZ0 := (blk_put (o' := .deferred none) (by simp) hV0 hKV rfl).cell 0 _ rfl
    have hZ1 := (blk_put (o' := .deferred none) (by simp) hV1 hKV rfl).cell 0 _ rfl
    have hZ2 := (blk_put (o' := .deferred none) (by simp) hV1 hKV rfl).cell 1 _ rfl
    refine ⟨.tuple #[.slice A rs.length c, .agg #[.int .i64 0, .int .i64 0]], ?_, below_put hVB hKV hDD, .inr ⟨rs, _, HRD.out, rfl, (hVO.put hKV rfl).mono (by omega)⟩⟩
    simp [results, Tryd.f25, go_sem, hZ0, hZ1, hZ2]
  case stop =>
    rintro D pre W hD _ ⟨er, a, he, h0, h1, hB⟩ hK
    have hDD : w.heap.size ≤ D := by simp at hD; omega
    have HE := Lib.hid he
    have hZ0 := (blk_put (o' := .deferred none) (by simp) h0 hK rfl).cell 0 _ rfl
    have hZ1 := (blk_put (o' := .deferred none) (by simp) h1 hK rfl).cell 0 _ rfl
    have hZ2 := (blk_put (o' := .deferred none) (by simp) h1 hK rfl).cell 1 _ rfl
    clear he k0 hsz
    gi_wp2
    refine ⟨by simp, .inl ⟨_, _, rfl, run_takeDeferred hK, ?_⟩⟩
    refine ⟨.tuple #[.slice none 0 0, .agg #[.int .i64 er, .int .i64 (a : Int)]], ?_, below_put hB hK hDD, .inl ⟨er, a, HE.out, rfl⟩⟩
    simp [results, Tryd.f25, go_sem, hZ0, hZ1, hZ2]
end Go.Proofs.YtkmkhegekonbmaaDoor
