/- Rows of which the last one may grow; the law's made; the law RowBack. -/
import Derived.Test.YtkmkhegekonbmaaDoorRowSS
import Derived.Deep.AppendLies
import Derived.Test.YtkmkhegekonbmaaDoorRowFF
import Derived.Test.YtkmkhegekonbmaaDoorKitMod
import Derived.Test.YtkmkhegekonbmaaDoorKitAt
import Derived.Deep.RegionLaw
import Derived.IntWalk
import Derived.Deep.LoopGhost
import Derived.Deep.DeepCutAuto
import Derived.Test.YtkmkhegekonbmaaDoorRowNN
namespace Go.Proofs.YtkmkhegekonbmaaDoor
open Go.RowKit
open Rw6

/-- The slice v holds these rows, each row's words in a block of its own, from base on. -/
structure Rwd (W : World) (base : Nat) (rs : List (Int × List Wd)) (v : Value) (vs : List Value) : Prop where
  len : vs.length = rs.length
  row : W.ownsRow base 43 2 v rs.length (rcells ((rs.map (·.1)).zip vs))
  wds : ∀ (i : Nat) (u : Value) (r : Int × List Wd), vs[i]? = some u → rs[i]? = some r → W.ownsRow base 31 3 u r.2.length (wcells r.2)
  apart : ∀ (i j : Nat) (u u' : Value), i < j → vs[i]? = some u → vs[j]? = some u' → u.ownBlock ≠ u'.ownBlock
theorem Rwd.nil (W : World) (base : Nat) : Rwd W base [] (.slice none 0 0) [] := ⟨rfl, World.ownsRow_nil _ _ _ _, fun i u r h => by simp at h, fun i j u u' _ h => by simp at h⟩
theorem Rwd.far {W W' : World} {base : Nat} {rs : List (Int × List Wd)} {v : Value} {vs : List Value} {row : Option Nat} (h : Rwd W base rs v vs) (hg : W.grownBy W' row) (hr : ∀ j, row = some j → j < base) : Rwd W' base rs v vs :=
  ⟨h.len, own_far h.row hg fun j e => .inl (hr j e), fun i u r hu hr' => own_far (h.wds i u r hu hr') hg fun j e => .inl (hr j e), h.apart⟩
theorem Below.asGrown {w w' : World} (h : Below w.heap.size w w') : w.grownBy w' none := ⟨h.os, h.tape, h.output, h.size, fun k hk _ => h.block k hk⟩
theorem Rwd.later {W W' : World} {base : Nat} {rs : List (Int × List Wd)} {v : Value} {vs : List Value} (h : Rwd W base rs v vs) (hb : Below W.heap.size W W') : Rwd W' base rs v vs :=
  h.far (Below.asGrown hb) fun j e => by cases e
theorem Rwd.rsl {W : World} {base : Nat} {rs : List (Int × List Wd)} {v : Value} {vs : List Value} (h : Rwd W base rs v vs) : RSl W v rs :=
  ⟨vs, h.len, Sl.of_own h.row, fun i u r hu hr => Sl.of_own (h.wds i u r hu hr)⟩
theorem Rwd.form {W : World} {base : Nat} {rs : List (Int × List Wd)} {v : Value} {vs : List Value} (h : Rwd W base rs v vs) : ∃ A c, v = .slice A rs.length c := own_form h.row
/-- One row more. -/
theorem Rwd.snoc {W W1 : World} {base : Nat} {a : Int} {ws : List Wd} {rs : List (Int × List Wd)} {v u v1 : Value} {vs : List Value} (h : Rwd W base rs v vs)
    (hu : W.ownsRow base 31 3 u ws.length (wcells ws)) (hne : ∀ (i : Nat) (x : Value), vs[i]? = some x → x.ownBlock ≠ u.ownBlock)
    (h1 : W1.ownsRow base 43 2 v1 (rs.length + 1) (rcells ((rs.map (·.1)).zip vs) ++ rcell (a, u))) (hg : W.grownBy W1 v.ownBlock) : Rwd W1 base (rs ++ [(a, ws)]) v1 (vs ++ [u]) := by
  have keep : ∀ {u : Value} {n : Nat} {xs : List Value}, W.ownsRow base 31 3 u n xs → W1.ownsRow base 31 3 u n xs := fun g => g.kept hg (own_block_ne g h.row (by decide))
  refine ⟨by rw [List.length_append, List.length_append, h.len]; rfl, ?_, fun i x r hx hr => ?_, fun i j x y hij hx hy => ?_⟩
  · rw [List.map_append, List.map_cons, List.map_nil, zip_snoc _ _ _ _ (by rw [List.length_map, h.len]), rcells_snoc, List.length_append]
    exact h1
  · rw [List.getElem?_append] at hx hr
    rw [h.len] at hx
    by_cases hi : i < rs.length
    · rw [if_pos hi] at hx hr
      exact keep (h.wds i x r hx hr)
    · rw [if_neg hi] at hx hr
      have hi0 : i - rs.length = 0 := by
        have := (List.getElem?_eq_some_iff.1 hr).1
        simp at this
        omega
      rw [hi0] at hx hr
      cases hx
      cases hr
      exact keep hu
  · have hj : j < vs.length + 1 := by
      have := (List.getElem?_eq_some_iff.1 hy).1
      simpa using this
    rw [List.getElem?_append, if_pos (by omega)] at hx
    rw [List.getElem?_append] at hy
    by_cases hjl : j < vs.length
    · rw [if_pos hjl] at hy
      exact h.apart i j x y hij hx hy
    · rw [if_neg hjl] at hy
      have h0 : j - vs.length = 0 := by omega
      rw [h0] at hy
      cases hy
      exact hne i x hx
theorem Rwd.fresh {W : World} {base g n c : Nat} {rs : List (Int × List Wd)} {v : Value} {vs : List Value} (h : Rwd W base rs v vs) (hg : W.heap.size < g) : ∀ (i : Nat) (x : Value), vs[i]? = some x → x.ownBlock ≠ (Value.slice (some ⟨g, 0, none⟩) n c).ownBlock := by
  intro i x hx e
  have hi := (List.getElem?_eq_some_iff.1 hx).1
  have := ((h.wds i x (rs[i]'(by rw [← h.len]; exact hi)) hx (List.getElem?_eq_getElem _)).lt g e).2
  omega
theorem rcells_last (ps : List (Int × Value)) (a : Int) (u u' : Value) : (rcells (ps ++ [(a, u)])).set (ps.length * 2 + 1) u' = rcells (ps ++ [(a, u')]) := by
  rw [rcells_snoc, rcells_snoc, List.set_append_right _ _ (by rw [rcells_len]; omega), rcells_len]
  have e : ps.length * 2 + 1 - ps.length * 2 = 1 := by omega
  rw [e]
  rfl
/-- The last row's words, and their place. -/
theorem Rwd.last {W : World} {base g c : Nat} {a : Int} {ws : List Wd} {ri : List (Int × List Wd)} {u : Value} {vi : List Value} (h : Rwd W base (ri ++ [(a, ws)]) (.slice (some ⟨g, 0, none⟩) (ri.length + 1) c) (vi ++ [u])) :
    vi.length = ri.length ∧ W.cell? ⟨g, ri.length * 2 + 1, none⟩ = some u ∧ W.frozen? ⟨g, ri.length * 2 + 1, none⟩ = false ∧ base ≤ g ∧ g < W.heap.size ∧ W.ownsRow base 31 3 u ws.length (wcells ws) := by
  have hl : vi.length = ri.length := by have := h.len; simpa using this
  have hr := h.row
  rw [List.map_append, List.map_cons, List.map_nil, zip_snoc _ _ _ _ (by rw [List.length_map, hl])] at hr
  have e : (ri ++ [(a, ws)]).length = ri.length + 1 := by simp
  rw [e] at hr
  have hz : ((ri.map (·.1)).zip vi).length = ri.length := by rw [List.length_zip, List.length_map]; omega
  refine ⟨hl, ?_, hr.frozenAt _, (hr.lt g rfl).1, (hr.lt g rfl).2, ?_⟩
  · rw [hr.cellAt _ (by omega), rcells_snoc, List.getElem?_append_right (by rw [rcells_len]; omega), rcells_len, hz]
    have e1 : ri.length * 2 + 1 - ri.length * 2 = 1 := by omega
    rw [e1]
    rfl
  · exact h.wds ri.length u (a, ws) (by rw [← hl]; simp) (by simp)
/-- The last row's words, turned. -/
theorem Rwd.grow {W W1 : World} {base g c g' c' m : Nat} {a : Int} {ws ws' : List Wd} {ri : List (Int × List Wd)} {u : Value} {vi : List Value} (h : Rwd W base (ri ++ [(a, ws)]) (.slice (some ⟨g, 0, none⟩) (ri.length + 1) c) (vi ++ [u]))
    (hu : W1.ownsRow base 31 3 (.slice (some ⟨g', 0, none⟩) m c') ws'.length (wcells ws')) (hg : W.grownBy W1 u.ownBlock) (hat : u.ownBlock = some g' ∨ g' = W.heap.size) :
    Rwd (W1.setCell ⟨g, ri.length * 2 + 1, none⟩ (.slice (some ⟨g', 0, none⟩) m c')) base (ri ++ [(a, ws')]) (.slice (some ⟨g, 0, none⟩) (ri.length + 1) c) (vi ++ [.slice (some ⟨g', 0, none⟩) m c']) := by
  obtain ⟨hl, _, _, _, _, hw⟩ := h.last
  have hr := h.row
  rw [List.map_append, List.map_cons, List.map_nil, zip_snoc _ _ _ _ (by rw [List.length_map, hl])] at hr
  have e : (ri ++ [(a, ws)]).length = ri.length + 1 := by simp
  rw [e] at hr
  have hz : ((ri.map (·.1)).zip vi).length = ri.length := by rw [List.length_zip, List.length_map]; omega
  have hr1 := hr.kept hg (own_block_ne hr hw (by decide))
  obtain ⟨hr2, hg2⟩ := hr1.stored (ri.length * 2 + 1) (.slice (some ⟨g', 0, none⟩) m c')
  have keep : ∀ {x : Value} {n : Nat} {xs : List Value}, W1.ownsRow base 31 3 x n xs → (W1.setCell ⟨g, ri.length * 2 + 1, none⟩ (.slice (some ⟨g', 0, none⟩) m c')).ownsRow base 31 3 x n xs := fun k => k.kept hg2 (by
    have := own_block_ne k hr1 (by decide)
    exact this)
  have hne : ∀ (i : Nat) (x : Value), vi[i]? = some x → x.ownBlock ≠ u.ownBlock := fun i x hx => by
    have hi := (List.getElem?_eq_some_iff.1 hx).1
    exact h.apart i vi.length x u hi (by rw [List.getElem?_append, if_pos hi]; exact hx) (by simp)
  refine ⟨by rw [List.length_append, List.length_append, hl]; rfl, ?_, fun i x r hx hr' => ?_, fun i j x y hij hx hy => ?_⟩
  · rw [List.map_append, List.map_cons, List.map_nil, zip_snoc _ _ _ _ (by rw [List.length_map, hl]), ← rcells_last _ a u, hz]
    have e' : (ri ++ [(a, ws')]).length = ri.length + 1 := by simp
    rw [e']
    exact hr2
  · rw [List.getElem?_append] at hx hr'
    rw [hl] at hx
    by_cases hi : i < ri.length
    · rw [if_pos hi] at hx hr'
      exact keep ((h.wds i x r (by rw [List.getElem?_append, if_pos (by omega)]; exact hx) (by rw [List.getElem?_append, if_pos hi]; exact hr')).kept hg (.inr (hne i x hx)))
    · rw [if_neg hi] at hx hr'
      have hi0 : i - ri.length = 0 := by
        have := (List.getElem?_eq_some_iff.1 hr').1
        simp at this
        omega
      rw [hi0] at hx hr'
      cases hx
      cases hr'
      exact keep hu
  · have hj : j < vi.length + 1 := by
      have := (List.getElem?_eq_some_iff.1 hy).1
      simpa using this
    have hil : i < vi.length := by omega
    rw [List.getElem?_append, if_pos hil] at hx
    rw [List.getElem?_append] at hy
    by_cases hjl : j < vi.length
    · rw [if_pos hjl] at hy
      exact h.apart i j x y hij (by rw [List.getElem?_append, if_pos hil]; exact hx) (by rw [List.getElem?_append, if_pos hjl]; exact hy)
    · rw [if_neg hjl] at hy
      have h0 : j - vi.length = 0 := by omega
      rw [h0] at hy
      cases hy
      rcases hat with hat | hat
      · show x.ownBlock ≠ some g'
        rw [← hat]
        exact hne i x hx
      · intro e
        have hlt := ((h.wds i x ((ri ++ [(a, ws)])[i]'(by simp; omega)) (by rw [List.getElem?_append, if_pos hil]; exact hx) (List.getElem?_eq_getElem _)).lt g' e).2
        omega
/-- Rows that can be written, and are few and small. -/
def Good (k : Nat) (rs : List (Int × List Wd)) : Prop := rs.length ≤ k ∧ ∀ r ∈ rs, r.2 ≠ [] ∧ r.2.length ≤ k ∧ ∀ x ∈ r.2, okW x.1 x.2.1 = true ∧ x.2.1.length ≤ 40
theorem mkW_ok (s : ByteArray) : okW (mkW s).1 (mkW s).2.1 = true := by
  unfold mkW okW
  cases bareB s.data.toList <;> rfl
theorem Good.new {k : Nat} {rs : List (Int × List Wd)} {s : ByteArray} (h : Good k rs) (hs : s.size ≤ 40) : Good (k + 1) (rs ++ [(0, [mkW s])]) := by
  refine ⟨by rw [List.length_append]; have := h.1; simp; omega, fun r hr => ?_⟩
  rw [List.mem_append, List.mem_singleton] at hr
  rcases hr with hr | rfl
  · obtain ⟨h1, h2, h3⟩ := h.2 r hr
    exact ⟨h1, by omega, h3⟩
  · refine ⟨by simp, by simp, fun x hx => ?_⟩
    rw [List.mem_singleton] at hx
    subst hx
    exact ⟨mkW_ok s, hs⟩
theorem Good.more {k : Nat} {ri : List (Int × List Wd)} {a : Int} {ws : List Wd} {s : ByteArray} (h : Good k (ri ++ [(a, ws)])) (hs : s.size ≤ 40) : Good (k + 1) (ri ++ [(a, ws ++ [mkW s])]) := by
  refine ⟨by have := h.1; simp at this ⊢; omega, fun r hr => ?_⟩
  rw [List.mem_append, List.mem_singleton] at hr
  rcases hr with hr | rfl
  · obtain ⟨h1, h2, h3⟩ := h.2 r (by simp [hr])
    exact ⟨h1, by omega, h3⟩
  · obtain ⟨h1, h2, h3⟩ := h.2 (a, ws) (by simp)
    refine ⟨by simp, by simp only [List.length_append, List.length_cons, List.length_nil]; simp only at h2; omega, fun x hx => ?_⟩
    rw [List.mem_append, List.mem_singleton] at hx
    rcases hx with hx | rfl
    · exact h3 x hx
    · exact ⟨mkW_ok s, hs⟩
theorem makeX (X : ByteArray) (hX : X.size ≤ 40) (w W : World) (b : Nat) (hW : W = w.alloc (.cells #[.string X] 9)) (hb : b = w.heap.size) :
    Calls Tryd.prog 23 #[.slice (some ⟨b, 0, none⟩) 1 1] W fun e w' => ∃ g c, e = .returned (.agg #[.int .i64 0, .slice (some ⟨g, 0, none⟩) 1 c]) ∧ Below w.heap.size w w' ∧ w.heap.size < g ∧ g < w'.heap.size ∧
      w'.ownsRow w.heap.size 31 3 (.slice (some ⟨g, 0, none⟩) 1 c) 1 (wcells [mkW X]) := by
  subst hW hb
  have h := make_is _ [X] _ (Slc.lit w [.string X] 9 1 rfl (by decide)) (by simp) (fun s hs => by rw [List.mem_singleton] at hs; subst hs; omega)
  refine h.mono ?_
  rintro e w' ⟨A, c, rfl, hb, ho⟩
  obtain ⟨g, c', he, hg1, hg2⟩ := World.ownsRow.form ho (by simp)
  cases he
  rw [World.size_alloc] at hg1
  exact ⟨g, c, rfl, (below1 _ _).trans (hb.mono (by rw [World.size_alloc]; omega)), by omega, hg2, own_mono ho (by rw [World.size_alloc]; omega)⟩
theorem cut_take {s : ByteArray} {p : Nat} (hp : p ≤ 40) (hps : p ≤ s.size) : (s.extract 0 p).size ≤ 40 := by
  rw [ByteArray.size_extract]; omega
set_option maxRecDepth 100000 in
set_option maxHeartbeats 8000000 in
theorem made_any (v nv : Value) (l : List ByteArray) (ns : List Int) (w : World) (hv : Slc w v (l.map Value.string)) (hn : Slc w nv (vals .i64 ns)) :
    Calls Tryd.prog 32 #[v, nv] w fun e w' => Below w.heap.size w w' ∧ ∃ rs A c, e = .returned (.slice A rs.length c) ∧ RSl w' (.slice A rs.length c) rs ∧ Good 10 rs := by
  obtain ⟨A, cap, rfl, hmax, _, hc⟩ := hv
  have hll : (l.map Value.string).length = l.length := by simp
  rw [hll] at hmax ⊢
  have hmax' : l.length ≤ 9223372036854775807 := by unfold maxLen at hmax; exact hmax
  have HC := Lib.hid hc
  have HN := Lib.hid hn
  obtain ⟨A0, c0, rfl⟩ : ∃ A0 c0, nv = .slice A0 ns.length c0 := by
    obtain ⟨A0, c0, h, _⟩ := hn.ints
    exact ⟨A0, c0, h⟩
  obtain ⟨i0, hi, hz0, hz1, hz2⟩ := info_parts infoRow6
  obtain ⟨j0, hj, hy0, hy1, hy2⟩ := info_parts infoWord6
  clear hc hll hn
  go_enter Tryd.func32, Tryd.ntmps32
  go_wp2
  go_loopg [5, 6] 10 (fun g ov i wr => ∃ (k : Nat) (rs : List (Int × List Wd)) (vs : List Value), k ≤ l.length ∧ k ≤ 10 ∧ g = 10 - k ∧ i = .int .i64 (k : Int) ∧ Hid (Good k rs) ∧ Hid (Rwd wr w.heap.size rs ov vs) ∧ Below w.heap.size w wr)
  case atStart =>
    exact ⟨0, [], [], Nat.zero_le _, Nat.zero_le _, rfl, rfl, Lib.hid ⟨Nat.le_refl _, fun r hr => by cases hr⟩, Lib.hid (Rwd.nil _ _), Below.refl _ _⟩
  case round =>
    obtain ⟨k, rs, vs, hk, hk10, hg, rfl, hG, hR, hB⟩ := hrel
    obtain ⟨A', c', rfl⟩ := hR.out.form
    by_cases hgo : k < l.length ∧ k < 10
    · obtain ⟨hlt, hlt10⟩ := hgo
      obtain ⟨a, rfl, hab, hcell0⟩ := HC.out k (by simpa using hlt)
      rw [List.getElem_map] at hcell0
      have hcell : wr.cell? (a.add k) = some (.string l[k]) := (hB.cell (p := a.add k) (by rw [add_block]; exact hab)).trans hcell0
      have hi' : (k : Int) < (l.length : Int) := by omega
      have hi10 : (k : Int) < 10 := by omega
      clear hcell0
      obtain ⟨s, hse⟩ : ∃ s, s = l[k] := ⟨_, rfl⟩
      rw [← hse] at hcell
      clear hse
      go_wp2
      go_cut [7] (fun s7 wx => ∃ X : ByteArray, s7 = .string X ∧ X.size ≤ 40 ∧ Below wr.heap.size wr wx)
      case first =>
        rcases Nat.lt_trichotomy s.size 40 with h40 | h40 | h40
        · have h40' : (s.size : Int) < 40 := by omega
          have e : min (s.size : Int) 40 = s.size := by omega
          go_quiet (fail)
          go_wp2_with fail
          go_meet
          case rel => exact ⟨_, rfl, by first | omega | exact cut_take (by omega) (by omega), below_drewN (Below.refl _ _) _⟩
        · have e : min (s.size : Int) 40 = s.size := by omega
          go_quiet (fail)
          go_wp2_with fail
          go_meet
          case rel => exact ⟨_, rfl, by first | omega | exact cut_take (by omega) (by omega), below_drewN (Below.refl _ _) _⟩
        · have e : min (s.size : Int) 40 = 40 := by omega
          go_quiet (fail)
          go_wp2_with fail
          go_meet
          case rel => exact ⟨_, rfl, by first | omega | exact cut_take (by omega) (by omega), below_drewN (Below.refl _ _) _⟩
      case rest =>
      obtain ⟨X, rfl, hX, hbx⟩ := hcut
      have hQ := hR.out.later hbx
      have hBx := hB.trans (hbx.mono hB.size)
      clear hR hB hcell hbx
      obtain ⟨m, hm⟩ : ∃ m, m = atI ns k % 8 := ⟨_, rfl⟩
      have hAt := fun W (h : Below w.heap.size w W) => at_any _ ns W (HN.out.below h) k
      have hMod := fun W => mod_any (atI ns k) 8 W (by decide) (by decide)
      rw [← hm] at hMod
      obtain ⟨y, hy⟩ : ∃ y, y = atI ns k := ⟨_, rfl⟩
      rw [← hy] at hMod hAt
      clear hm hy
      have HQ := Lib.hid hQ
      have HBX := Lib.hid hBx
      clear hQ hBx
      by_cases h4 : m < 4
      · go_wp2_with (first
            | (go_at_call 23; (refine (makeX X hX wc _ _ ?hA ?hB).mono ?_; (case hA => rfl); (case hB => rfl); rintro e W9 ⟨g, c, rfl, hb9, hg1, hg2, ho⟩; have HQ9 := Lib.hid (HQ.out.later hb9); have HB9 := Lib.hid (HBX.out.trans (hb9.mono HBX.out.size)); have HU := Lib.hid (own_mono ho HBX.out.size); have HNE := Lib.hid (HQ.out.fresh (n := 1) (c := c) hg1); clear hb9 ho))
            | (go_at_call 53; refine (hAt _ (HB9.out.alloc HB9.out.size _)).mono ?_; rintro e wz ⟨rfl, rfl⟩)
            | (go_at_call 52; refine (hMod _).mono ?_; rintro e wz ⟨rfl, rfl⟩)
            | (at_builtin; (have HQ2 := Lib.hid (HQ9.out.later (below2 W9 (.cells #[.int .i64 0, .slice (some ⟨g, 0, none⟩) 1 c] 43) (.cells #[.int .i64 0, .slice (some ⟨g, 0, none⟩) 1 c] 43))); refine wpList_append_own _ rfl _ _ 22 rfl w.heap.size 43 i0 (.agg #[.int .i64 0, .slice none 0 0]) 2 32 Tryd.underlying22 hi hz0 hz1 hz2 rfl (by decide) _ _ _ rfl HQ2.out.row ⟨W9.heap.size + 1, 0, none⟩ 1 1 (rcell (0, .slice (some ⟨g, 0, none⟩) 1 c)) rfl rfl (blk_cells (Blk.is (us := rcell (0, .slice (some ⟨g, 0, none⟩) 1 c)) 43 (by simp))) (by simp [rcell, Value.oneCell']) (by have := hG.out.1; unfold maxLen; omega) (by have := hG.out.1; omega) (by have := HB9.out.size; simp; omega) ?_; intro v' w3 hown' hgrow _; obtain ⟨A3, c3, rfl⟩ := own_form hown'; have HS := Lib.hid (HQ2.out.snoc (a := 0) (ws := [mkW X]) ((HU.out.alloc _).alloc _) HNE.out hown' hgrow); have HB3 := Lib.hid (((HB9.out.alloc HB9.out.size _).alloc (by have := HB9.out.size; simp; omega) _).grown hgrow (by have := HB9.out.size; simp; omega) (fun j e => (HQ2.out.row.lt j e).1)); clear hown' hgrow)))
        go_roundg (10 - (k + 1))
        case measure => omega
        case rel => exact ⟨k + 1, _, _, by omega, by omega, rfl, by go_num, Lib.hid (hG.out.new hX), HS, HB3.out⟩
      · rcases List.eq_nil_or_concat rs with h0 | ⟨ri, r, h0⟩
        · subst h0
          go_wp2_with (first
            | (go_at_call 23; (refine (makeX X hX wc _ _ ?hA ?hB).mono ?_; (case hA => rfl); (case hB => rfl); rintro e W9 ⟨g, c, rfl, hb9, hg1, hg2, ho⟩; have HQ9 := Lib.hid (HQ.out.later hb9); have HB9 := Lib.hid (HBX.out.trans (hb9.mono HBX.out.size)); have HU := Lib.hid (own_mono ho HBX.out.size); have HNE := Lib.hid (HQ.out.fresh (n := 1) (c := c) hg1); clear hb9 ho))
            | (go_at_call 53; refine (hAt _ (HB9.out.alloc HB9.out.size _)).mono ?_; rintro e wz ⟨rfl, rfl⟩)
            | (go_at_call 52; refine (hMod _).mono ?_; rintro e wz ⟨rfl, rfl⟩)
            | (at_builtin; (have HQ2 := Lib.hid (HQ9.out.later (below2 W9 (.cells #[.int .i64 0, .slice (some ⟨g, 0, none⟩) 1 c] 43) (.cells #[.int .i64 0, .slice (some ⟨g, 0, none⟩) 1 c] 43))); refine wpList_append_own _ rfl _ _ 22 rfl w.heap.size 43 i0 (.agg #[.int .i64 0, .slice none 0 0]) 2 32 Tryd.underlying22 hi hz0 hz1 hz2 rfl (by decide) _ _ _ rfl HQ2.out.row ⟨W9.heap.size + 1, 0, none⟩ 1 1 (rcell (0, .slice (some ⟨g, 0, none⟩) 1 c)) rfl rfl (blk_cells (Blk.is (us := rcell (0, .slice (some ⟨g, 0, none⟩) 1 c)) 43 (by simp))) (by simp [rcell, Value.oneCell']) (by have := hG.out.1; unfold maxLen; omega) (by have := hG.out.1; omega) (by have := HB9.out.size; simp; omega) ?_; intro v' w3 hown' hgrow _; obtain ⟨A3, c3, rfl⟩ := own_form hown'; have HS := Lib.hid (HQ2.out.snoc (a := 0) (ws := [mkW X]) ((HU.out.alloc _).alloc _) HNE.out hown' hgrow); have HB3 := Lib.hid (((HB9.out.alloc HB9.out.size _).alloc (by have := HB9.out.size; simp; omega) _).grown hgrow (by have := HB9.out.size; simp; omega) (fun j e => (HQ2.out.row.lt j e).1)); clear hown' hgrow)))
          go_roundg (10 - (k + 1))
          case measure => omega
          case rel => exact ⟨k + 1, _, _, by omega, by omega, rfl, by go_num, Lib.hid (hG.out.new hX), HS, HB3.out⟩
        · obtain ⟨a0, ws⟩ := r
          rw [List.concat_eq_append] at h0
          subst h0
          rcases List.eq_nil_or_concat vs with h1 | ⟨vi, u, h1⟩
          · subst h1
            have := HQ.out.len
            simp at this
          · rw [List.concat_eq_append] at h1
            subst h1
            obtain ⟨g0, c0', he, -, -⟩ := World.ownsRow.form HQ.out.row (by simp)
            cases he
            have el : (ri ++ [(a0, ws)]).length = ri.length + 1 := by simp
            rw [el] at HQ ⊢
            have hws : 0 < ws.length := by
              have := (hG.out.2 (a0, ws) (by simp)).1
              exact List.length_pos_iff.2 this
            have hws10 : ws.length ≤ 10 := by
              have := (hG.out.2 (a0, ws) (by simp)).2.1
              simp only at this
              omega
            obtain ⟨gu, cu, rfl, -, -⟩ := World.ownsRow.form HQ.out.last.2.2.2.2.2 hws
            have hz : ((ri.length : Int) + 1 == 0) = false := by rw [beq_eq_false_iff_ne]; omega
            have hri : ri.length ≤ 10 := by have := hG.out.1; rw [el] at this; omega
            have hll1 : (ri.length : Int) < (ri.length : Int) + 1 := by omega
            have hwr : IntKind.i64.wrap (ri.length : Int) = (ri.length : Int) := IntWalk.i64_in _ ⟨by omega, by omega⟩
            have hne : ¬ g0 = gu := fun e => by
              have h := own_block_ne HQ.out.last.2.2.2.2.2 HQ.out.row (by decide)
              rcases h with h | h
              · cases h
              · exact h (by rw [e]; rfl)
            go_wp2_with (first
              | (go_at_call 23; (refine (makeX X hX wc _ _ ?hA ?hB).mono ?_; (case hA => rfl); (case hB => rfl); rintro e W9 ⟨g, c, rfl, hb9, hg1, hg2, ho⟩; have HQ9 := Lib.hid (HQ.out.later hb9); have HB9 := Lib.hid (HBX.out.trans (hb9.mono HBX.out.size)); have HU := Lib.hid (own_mono ho HBX.out.size); obtain ⟨-, d0, d1, hg0a, hg0, hw⟩ := HQ9.out.last; have HW := Lib.hid hw; clear hb9 ho hw))
              | (go_at_call 53; refine (hAt _ (HB9.out.alloc HB9.out.size _)).mono ?_; rintro e wz ⟨rfl, rfl⟩)
              | (go_at_call 52; refine (hMod _).mono ?_; rintro e wz ⟨rfl, rfl⟩))
            have hB1 := (below1 W9 (.cells #[.int .i64 0, .slice (some ⟨g, 0, none⟩) 1 c] 43)).drew
            have HB1 := Lib.hid hB1
            have hc0 := (hB1.cell (p := ⟨g0, ri.length * 2 + 1, none⟩) hg0).trans d0
            have hf0 := (hB1.frozen (p := ⟨g0, ri.length * 2 + 1, none⟩) hg0).trans d1
            have HC0 := Lib.hid hc0
            have HF0 := Lib.hid hf0
            clear hc0 hf0 hB1
            go_region_law ((refine step_append_lies _ rfl _ _ 41 rfl w.heap.size 31 j0 (.agg #[.bool false, .string ⟨#[]⟩, .int .i64 0]) 3 32 Tryd.underlying41 hj hy0 hy1 hy2 rfl (by decide) (.slice (some ⟨gu, 0, none⟩) ws.length cu) ws.length (wcells ws) rfl ((HW.out.alloc _).drew) ⟨g, 0, none⟩ 1 c (wcells [mkW X]) rfl rfl (((HU.out.alloc _).drew).cells rfl) (by simp [wcells, wcell, Value.oneCell']) (by decide) (by unfold maxLen; omega) (by omega) (by have := HB9.out.size; simp; omega) _ rfl ?_; intro g1 c1 w1 hown' hgrow hat hlt1; have e0 := (hgrow.cell_far ⟨g0, ri.length * 2 + 1, none⟩ (by have := HB1.out.size; simp at this ⊢; omega) (fun e => hne (Option.some.inj e))).trans HC0.out; have e1 := (hgrow.frozen_far ⟨g0, ri.length * 2 + 1, none⟩ (by have := HB1.out.size; simp at this ⊢; omega) (fun e => hne (Option.some.inj e))).trans HF0.out; have e2 : g0 < w1.heap.size := Nat.lt_of_lt_of_le hg0 (Nat.le_trans HB1.out.size hgrow.size); have HOWN := Lib.hid hown'; have HGR := Lib.hid hgrow; have HAT := Lib.hid hat; clear hown' hgrow hat))
            all_goals
              go_wp2
              go_roundg (10 - (k + 1))
              case measure => omega
              case rel =>
                have hs := (HQ9.out.later HB1.out).grow (ws' := ws ++ [mkW X]) (m := ws.length + 1) (c' := c1) (by rw [List.length_append, wcells_app]; exact HOWN.out) HGR.out HAT.out
                have hb := ((HB9.out.trans (HB1.out.mono HB9.out.size)).grown HGR.out (Nat.le_trans HB9.out.size HB1.out.size) (fun j e => (HW.out.lt j e).1)).setCell (p := ⟨g0, ri.length * 2 + 1, none⟩) hg0a (.slice (some ⟨g1, 0, none⟩) (ws.length + 1) c1)
                exact ⟨k + 1, _, _, by omega, by omega, rfl, by go_num, Lib.hid (hG.out.more hX), Lib.hid hs, hb⟩
    · have hG10 : Good 10 rs := ⟨Nat.le_trans hG.out.1 hk10, fun r hr => ⟨(hG.out.2 r hr).1, Nat.le_trans (hG.out.2 r hr).2.1 hk10, (hG.out.2 r hr).2.2⟩⟩
      by_cases hlt : k < l.length
      · have hi' : (k : Int) < (l.length : Int) := by omega
        have hi10 : ¬ (k : Int) < 10 := by omega
        go_wp2
        go_ret
        exact ⟨hB, rs, A', c', rfl, hR.out.rsl, hG10⟩
      · have hi' : ¬ (k : Int) < (l.length : Int) := by omega
        go_wp2
        go_ret
        exact ⟨hB, rs, A', c', rfl, hR.out.rsl, hG10⟩
theorem back_text {rs : List (Int × List Wd)} (hG : Good 10 rs) : ∃ T E rk, (E = 4 ∨ E = 0 ∧ readG T = .ok rk ∧ ((rsI rk).map fun r => bareI r.2) = rs.map fun r => bareI r.2) ∧
    ∀ (v : Value) (w : World), RSl w v rs → Calls Tryd.prog 12 #[v] w fun e w' => e = .returned (.tuple #[.string (strOf T), .int .i64 E]) ∧ Below w.heap.size w w' := by
  have hok : ∀ r ∈ rs, r.2 ≠ [] ∧ ∀ x ∈ r.2, okW x.1 x.2.1 = true := fun r hr => ⟨(hG.2 r hr).1, fun x hx => ((hG.2 r hr).2.2 x hx).1⟩
  have hT := fun v w (hv : RSl w v rs) => text_any v rs w hv (fun r hr => by have := (hG.2 r hr).2.1; omega) (fun r hr x hx => by have := ((hG.2 r hr).2.2 x hx).2; omega)
  rcases textI_read hok with h | ⟨T, rk, h3, h4, h5⟩
  · rw [h] at hT
    exact ⟨[], 4, [], .inl rfl, hT⟩
  · rw [h3] at hT
    exact ⟨T, 0, rk, .inr ⟨rfl, h4, h5⟩, hT⟩
set_option maxRecDepth 100000 in
set_option maxHeartbeats 8000000 in
theorem back_any (v nv : Value) (l : List ByteArray) (ns : List Int) (w : World) (hv : Slc w v (l.map Value.string)) (hn : Slc w nv (vals .i64 ns)) :
    Calls Tryd.prog 6 #[v, nv] w fun e w' => e = .returned (.bool true) ∧ Below w.heap.size w w' := by
  have HB := Lib.hid (Below.refl w.heap.size w)
  have hM := fun W (hb : Below w.heap.size w W) => made_any v nv l ns W (hv.below hb) (hn.below hb)
  clear hv hn
  go_enter Tryd.func6, Tryd.ntmps6
  go_upto_region 4 with (first
    | (go_at_call 5; with_reducible refine (known_any _).mono ?_; rintro e wx ⟨rfl, hb⟩; replace HB := Lib.hid (bstep HB.out hb); clear hb)
    | (go_at_call 32; with_reducible refine (hM _ HB.out).mono ?_; rintro e w1 ⟨hb, rs, A1, c1, rfl, hR, hG⟩; replace HB := Lib.hid (bstep HB.out hb); have HR := Lib.hid hR; obtain ⟨T, E, rk, hE, hT⟩ := back_text hG; have HE := Lib.hid hE; clear hb hR hG hE)
    | (go_at_call 12; with_reducible refine (hT _ _ HR.out).mono ?_; rintro e w2 ⟨rfl, hb⟩; replace HR := Lib.hid (HR.out.later hb); replace HB := Lib.hid (bstep HB.out hb); clear hb))
  rcases HE.out with rfl | ⟨rfl, hk, hs⟩
  · go_wp2
    go_ret
    exact ⟨rfl, HB.out⟩
  · have hK := fun w => rows_ok hk w
    go_wp2_with (first
      | (go_at_call 25; with_reducible refine (hK _).mono ?_; rintro e w3 ⟨hb, A3, c3, rfl, h⟩; have H3 := Lib.hid (h.later (below1 _ (.cells #[.int .i64 0, .int .i64 0] 47))); replace HR := Lib.hid ((HR.out.later hb).later (below1 _ (.cells #[.int .i64 0, .int .i64 0] 47))); replace HB := Lib.hid ((bstep HB.out hb).alloc (bstep HB.out hb).size (.cells #[.int .i64 0, .int .i64 0] 47)); clear hb h)
      | (go_at_call 33; with_reducible refine (same_same _ _ _ _ hs _ H3.out HR.out).mono ?_; rintro e w4 ⟨rfl, hb⟩; replace HB := Lib.hid (bstep HB.out hb); clear hb))
    go_ret
    exact ⟨rfl, HB.out⟩
end Go.Proofs.YtkmkhegekonbmaaDoor
