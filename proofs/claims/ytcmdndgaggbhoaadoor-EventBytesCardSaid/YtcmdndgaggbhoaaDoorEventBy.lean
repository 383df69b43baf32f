/- Walk: EventBytes. -/
import Derived.Test.YtcmdndgaggbhoaaDoorEventL
import Derived.Test.YtcmdndgaggbhoaaDoorEventPb
import Derived.Test.YtcmdndgaggbhoaaDoorEventPc
namespace Go.Proofs.YtcmdndgaggbhoaaDoor.Ev
open Go.RowKit Go.Shelf
open Lb Wr

/-- What a region holds fast beside the tables and what lay: 13 cells. -/
theorem held13t {P : Program} {f : FuncId} {args : Array Value} {v : Value} {W wx : World} {a0 a1 a2 a3 a4 a5 a6 a7 a8 a9 a10 a11 a12 : Addr} {c0 c1 c2 c3 c4 c5 c6 c7 c8 c9 c10 c11 c12 : Value} (hc : ∀ w, Tab2 w → Calls P f args w fun e w' => e = .returned v ∧ Below w.heap.size w w')
    (h0 : wx.cell? a0 = some c0) (h1 : wx.cell? a1 = some c1) (h2 : wx.cell? a2 = some c2) (h3 : wx.cell? a3 = some c3) (h4 : wx.cell? a4 = some c4) (h5 : wx.cell? a5 = some c5) (h6 : wx.cell? a6 = some c6) (h7 : wx.cell? a7 = some c7) (h8 : wx.cell? a8 = some c8) (h9 : wx.cell? a9 = some c9) (h10 : wx.cell? a10 = some c10) (h11 : wx.cell? a11 = some c11) (h12 : wx.cell? a12 = some c12) (ht : Tab2 wx) (h : Below W.heap.size W wx) :
    Calls P f args wx fun e w' => e = .returned v ∧ w'.cell? a0 = some c0 ∧ w'.cell? a1 = some c1 ∧ w'.cell? a2 = some c2 ∧ w'.cell? a3 = some c3 ∧ w'.cell? a4 = some c4 ∧ w'.cell? a5 = some c5 ∧ w'.cell? a6 = some c6 ∧ w'.cell? a7 = some c7 ∧ w'.cell? a8 = some c8 ∧ w'.cell? a9 = some c9 ∧ w'.cell? a10 = some c10 ∧ w'.cell? a11 = some c11 ∧ w'.cell? a12 = some c12 ∧ Tab2 w' ∧ Below W.heap.size W w' :=
  (hc wx ht).mono fun _ w' hh =>
    have hl : ∀ {p : Addr} {v : Value}, wx.cell? p = some v → w'.cell? p = some v := fun {_ _} h => (hh.2.cell (World.block_lt_of_cell? wx _ h)).trans h
    ⟨hh.1, hl h0, hl h1, hl h2, hl h3, hl h4, hl h5, hl h6, hl h7, hl h8, hl h9, hl h10, hl h11, hl h12, ht.below hh.2, bstep h hh.2⟩
theorem parseC_shape (s : ByteArray) : ∃ x0 x1 x2 e a : Int, parseC s = pv x0 x1 x2 e a := by
  unfold parseC
  split
  · exact ⟨_, _, _, _, _, rfl⟩
  · split
    · exact ⟨_, _, _, _, _, rfl⟩
    · split
      · exact ⟨_, _, _, _, _, rfl⟩
      · split
        · exact ⟨_, _, _, _, _, rfl⟩
        · split
          · exact ⟨_, _, _, _, _, rfl⟩
          · exact ⟨_, _, _, _, _, rfl⟩
attribute [local go_sem] tab2_drew below_drew_eq
attribute [local simp] tab2_drew below_drew_eq
theorem bytesLawLong (l k v : Int) (s : ByteArray) (q : Int) (t : ByteArray) (h : 60 < s.size ∨ 10 < t.size) (w : World) (ht : Tab2 w) :
    Calls Tryd.prog 3 #[ev l k v, .string s, .int .i64 q, .string t] w fun e w' => e = .returned (.bool true) ∧ Below w.heap.size w w' := by
  have hAw := awake_any
  by_cases h1 : 60 < s.size
  · have c1 : (60 : Int) < (s.size : Int) := by omega
    clear h h1
    go_enter Tryd.func3, Tryd.ntmps3
    go_wp2_with fail
    refine named fun W hW => ?_
    have hB : Below w.heap.size w W := by rw [hW]; go_grown
    have ht1 := ht.below hB
    clear hW ht
    refine (hAw _ ht1).mono ?_
    rintro e w1 ⟨rfl, hb1⟩
    go_wp2
    go_ret
    exact ⟨rfl, bstep hB hb1⟩
  · have c1 : ¬ (60 : Int) < (s.size : Int) := by omega
    have c2 : (10 : Int) < (t.size : Int) := by omega
    clear h h1
    go_enter Tryd.func3, Tryd.ntmps3
    go_wp2_with fail
    refine named fun W hW => ?_
    have hB : Below w.heap.size w W := by rw [hW]; go_grown
    have ht1 := ht.below hB
    clear hW ht
    refine (hAw _ ht1).mono ?_
    rintro e w1 ⟨rfl, hb1⟩
    go_wp2
    go_ret
    exact ⟨rfl, bstep hB hb1⟩
set_option maxRecDepth 100000 in
set_option maxHeartbeats 8000000 in
theorem bytesLaw_any (l k v : Int) (s : ByteArray) (q : Int) (t : ByteArray) (h0 : 0 ≤ l) (h1 : l ≤ 18446744073709551615) (w : World) (ht : Tab2 w) :
    Calls Tryd.prog 3 #[ev l k v, .string s, .int .i64 q, .string t] w fun e w' => e = .returned (.bool true) ∧ Below w.heap.size w w' := by
  by_cases hlong : 60 < s.size ∨ 10 < t.size
  · exact bytesLawLong l k v s q t hlong w ht
  have c1 : ¬ (60 : Int) < (s.size : Int) := by omega
  have c2 : ¬ (10 : Int) < (t.size : Int) := by omega
  have hBy := bytes_any l k v (IntKind.u64.wrap v) h0 h1 (by rw [IntKind.wrap_u64]; omega) (by rw [IntKind.wrap_u64]; omega) rfl
  have hRb := refBytes_any l k v (IntKind.u64.wrap v) rfl
  obtain ⟨b, hb⟩ : ∃ b, b = bytesE l k (IntKind.u64.wrap v) := ⟨_, rfl⟩
  rw [← hb] at hBy hRb
  obtain ⟨b1, b2⟩ := b
  simp only at hBy hRb
  have hPa := fun w => parseC_any s w (by omega)
  have hRp := fun w => refParseC_any s w (by omega)
  obtain ⟨x0, x1, x2, f0, f1, hx⟩ := parseC_shape s
  rw [hx] at hPa hRp
  have hCh := fun w (_ : Tab2 w) => check_any l k v w
  have hRc := fun w (_ : Tab2 w) => refCheck_any l k v w
  obtain ⟨c, hc⟩ : ∃ c, c = checkI k := ⟨_, rfl⟩
  rw [← hc] at hCh hRc
  have hLe := letter_any q
  have hRl := refLetter_any q
  obtain ⟨S, hS⟩ : ∃ S, S = letterS q := ⟨_, rfl⟩
  obtain ⟨d, hd⟩ : ∃ c, c = checkI q := ⟨_, rfl⟩
  rw [← hS, ← hd] at hLe hRl
  have hKi := fun w => kind_any t w
  have hRk := fun w => refKind_any t w
  obtain ⟨m, hm⟩ : ∃ m, m = kindI t := ⟨_, rfl⟩
  rw [← hm] at hKi hRk
  obtain ⟨m1, m2⟩ := m
  simp only at hKi hRk
  have hAw := awake_any
  clear hlong hb hx hc hS hd hm h0 h1
  simp only [ev, pv] at hBy hRb hPa hRp hCh hRc ⊢
  go_enter Tryd.func3, Tryd.ntmps3
  go_wp2_with fail
  refine named fun W hW => ?_
  have hB : Below w.heap.size w W := by rw [hW]; go_grown
  have hE : Blk W w.heap.size [.int .u64 l, .int .i64 k, .int .i64 v] := by rw [hW]; exact Blk.is _ rfl
  have ht1 := ht.below hB
  clear hW ht
  refine (hBy _).mono ?_
  rintro e w1 ⟨rfl, hb1⟩
  replace hB := bstep hB hb1
  replace hE := hE.later hb1
  replace ht1 := ht1.below hb1
  clear hb1
  have hE0 := hE.cell 0 _ rfl
  have hE1 := hE.cell 1 _ rfl
  have hE2 := hE.cell 2 _ rfl
  have hEl := hE.lt
  go_wp2_with fail
  clear hE0 hE1 hE2 hEl
  refine (hRb _).mono ?_
  rintro e w2 ⟨rfl, hb2⟩
  replace hB := bstep hB hb2
  replace hE := hE.later hb2
  replace ht1 := ht1.below hb2
  clear hb2
  go_wp2_with fail
  refine (hPa _).mono ?_
  rintro e w3 ⟨rfl, hb3⟩
  replace hB := bstep hB hb3
  replace hE := hE.later hb3
  replace ht1 := ht1.below hb3
  clear hb3
  go_wp2_with fail
  refine named fun V3 hW => ?_
  have hX : Blk V3 w3.heap.size [.int .u64 x0, .int .i64 x1, .int .i64 x2] := by rw [hW]; exact (Blk.is _ rfl).alloc _
  have hP : Blk V3 (w3.heap.size + 1) [.int .i64 f0, .int .i64 f1] := by rw [hW]; exact Blk.is _ (by simp)
  replace hE : Blk V3 w.heap.size [.int .u64 l, .int .i64 k, .int .i64 v] := by rw [hW]; exact (hE.alloc _).alloc _
  replace ht1 : Tab2 V3 := by rw [hW]; exact (ht1.alloc _).alloc _
  have hB2 : Below w.heap.size w V3 := by rw [hW]; exact (hB.alloc hB.size _).alloc (by have := hB.size; simp; omega) _
  obtain ⟨X, hXe⟩ : ∃ x, x = w3.heap.size := ⟨_, rfl⟩
  rw [← hXe] at hX hP ⊢
  obtain ⟨P, hPe⟩ : ∃ x, x = X + 1 := ⟨_, rfl⟩
  rw [← hPe] at hP ⊢
  clear hW hXe hPe hB
  have hB := hB2
  clear hB2
  refine (hRp _).mono ?_
  rintro e w4 ⟨rfl, hb4⟩
  replace hB := bstep hB hb4
  replace hE := hE.later hb4
  replace hX := hX.later hb4
  replace hP := hP.later hb4
  replace ht1 := ht1.below hb4
  clear hb4
  go_upto_region 7 with (fail)
  refine named_wp fun V4 hW => ?_
  have hY : Blk V4 w4.heap.size [.int .u64 x0, .int .i64 x1, .int .i64 x2] := by rw [hW]; exact (Blk.is _ rfl).alloc _
  have hQ : Blk V4 (w4.heap.size + 1) [.int .i64 f0, .int .i64 f1] := by rw [hW]; exact Blk.is _ (by simp)
  replace hE : Blk V4 w.heap.size [.int .u64 l, .int .i64 k, .int .i64 v] := by rw [hW]; exact (hE.alloc _).alloc _
  replace hX : Blk V4 X [.int .u64 x0, .int .i64 x1, .int .i64 x2] := by rw [hW]; exact (hX.alloc _).alloc _
  replace hP : Blk V4 P [.int .i64 f0, .int .i64 f1] := by rw [hW]; exact (hP.alloc _).alloc _
  replace ht1 : Tab2 V4 := by rw [hW]; exact (ht1.alloc _).alloc _
  have hB2 : Below w.heap.size w V4 := by rw [hW]; exact (hB.alloc hB.size _).alloc (by have := hB.size; simp; omega) _
  obtain ⟨Y, hYe⟩ : ∃ x, x = w4.heap.size := ⟨_, rfl⟩
  rw [← hYe] at hY hQ ⊢
  obtain ⟨Q, hQe⟩ : ∃ x, x = Y + 1 := ⟨_, rfl⟩
  rw [← hQe] at hQ ⊢
  clear hW hYe hQe hB
  have hB := hB2
  clear hB2
  have hE0 := hE.cell 0 _ rfl
  have hE1 := hE.cell 1 _ rfl
  have hE2 := hE.cell 2 _ rfl
  have hX0 := hX.cell 0 _ rfl
  have hX1 := hX.cell 1 _ rfl
  have hX2 := hX.cell 2 _ rfl
  have hP0 := hP.cell 0 _ rfl
  have hP1 := hP.cell 1 _ rfl
  have hY0 := hY.cell 0 _ rfl
  have hY1 := hY.cell 1 _ rfl
  have hY2 := hY.cell 2 _ rfl
  have hQ0 := hQ.cell 0 _ rfl
  have hQ1 := hQ.cell 1 _ rfl
  clear hE hX hP hY hQ
  go_region_held3 (fun w' => w'.cell? ⟨w.heap.size, 0, none⟩ = some (.int .u64 l) ∧ w'.cell? ⟨w.heap.size, 1, none⟩ = some (.int .i64 k) ∧ w'.cell? ⟨w.heap.size, 2, none⟩ = some (.int .i64 v) ∧ w'.cell? ⟨X, 0, none⟩ = some (.int .u64 x0) ∧ w'.cell? ⟨X, 1, none⟩ = some (.int .i64 x1) ∧ w'.cell? ⟨X, 2, none⟩ = some (.int .i64 x2) ∧ w'.cell? ⟨Y, 0, none⟩ = some (.int .u64 x0) ∧ w'.cell? ⟨Y, 1, none⟩ = some (.int .i64 x1) ∧ w'.cell? ⟨Y, 2, none⟩ = some (.int .i64 x2) ∧ w'.cell? ⟨P, 0, none⟩ = some (.int .i64 f0) ∧ w'.cell? ⟨P, 1, none⟩ = some (.int .i64 f1) ∧ w'.cell? ⟨Q, 0, none⟩ = some (.int .i64 f0) ∧ w'.cell? ⟨Q, 1, none⟩ = some (.int .i64 f1) ∧ Tab2 w' ∧ Below w.heap.size w w') (go_keep)
    (first
      | (go_at_call 12; refine (held13t (W := w) (a0 := ⟨w.heap.size, 0, none⟩) (c0 := .int .u64 l) (a1 := ⟨w.heap.size, 1, none⟩) (c1 := .int .i64 k) (a2 := ⟨w.heap.size, 2, none⟩) (c2 := .int .i64 v) (a3 := ⟨X, 0, none⟩) (c3 := .int .u64 x0) (a4 := ⟨X, 1, none⟩) (c4 := .int .i64 x1) (a5 := ⟨X, 2, none⟩) (c5 := .int .i64 x2) (a6 := ⟨Y, 0, none⟩) (c6 := .int .u64 x0) (a7 := ⟨Y, 1, none⟩) (c7 := .int .i64 x1) (a8 := ⟨Y, 2, none⟩) (c8 := .int .i64 x2) (a9 := ⟨P, 0, none⟩) (c9 := .int .i64 f0) (a10 := ⟨P, 1, none⟩) (c10 := .int .i64 f1) (a11 := ⟨Q, 0, none⟩) (c11 := .int .i64 f0) (a12 := ⟨Q, 1, none⟩) (c12 := .int .i64 f1) hCh ?_ ?_ ?_ ?_ ?_ ?_ ?_ ?_ ?_ ?_ ?_ ?_ ?_ ?_ ?_ ).mono ?_; (simp [*]); (simp [*]); (simp [*]); (simp [*]); (simp [*]); (simp [*]); (simp [*]); (simp [*]); (simp [*]); (simp [*]); (simp [*]); (simp [*]); (simp [*]); (simp [*]); (simp [*]); rintro e w9 ⟨rfl, g0, g1, g2, g3, g4, g5, g6, g7, g8, g9, g10, g11, g12, g13, g14⟩)
      | (go_at_call 13; refine (held13t (W := w) (a0 := ⟨w.heap.size, 0, none⟩) (c0 := .int .u64 l) (a1 := ⟨w.heap.size, 1, none⟩) (c1 := .int .i64 k) (a2 := ⟨w.heap.size, 2, none⟩) (c2 := .int .i64 v) (a3 := ⟨X, 0, none⟩) (c3 := .int .u64 x0) (a4 := ⟨X, 1, none⟩) (c4 := .int .i64 x1) (a5 := ⟨X, 2, none⟩) (c5 := .int .i64 x2) (a6 := ⟨Y, 0, none⟩) (c6 := .int .u64 x0) (a7 := ⟨Y, 1, none⟩) (c7 := .int .i64 x1) (a8 := ⟨Y, 2, none⟩) (c8 := .int .i64 x2) (a9 := ⟨P, 0, none⟩) (c9 := .int .i64 f0) (a10 := ⟨P, 1, none⟩) (c10 := .int .i64 f1) (a11 := ⟨Q, 0, none⟩) (c11 := .int .i64 f0) (a12 := ⟨Q, 1, none⟩) (c12 := .int .i64 f1) hRc ?_ ?_ ?_ ?_ ?_ ?_ ?_ ?_ ?_ ?_ ?_ ?_ ?_ ?_ ?_ ).mono ?_; (simp [*]); (simp [*]); (simp [*]); (simp [*]); (simp [*]); (simp [*]); (simp [*]); (simp [*]); (simp [*]); (simp [*]); (simp [*]); (simp [*]); (simp [*]); (simp [*]); (simp [*]); rintro e w9 ⟨rfl, g0, g1, g2, g3, g4, g5, g6, g7, g8, g9, g10, g11, g12, g13, g14⟩))
  have hB := g14
  have ht1 := g13
  clear hCh hRc
  go_wp2_with fail
  refine (hLe _).mono ?_
  rintro e w' ⟨rfl, rfl⟩
  go_wp2_with fail
  refine (hRl _).mono ?_
  rintro e w' ⟨rfl, rfl⟩
  go_wp2_with fail
  refine (hKi _).mono ?_
  rintro e w20 ⟨rfl, hb20⟩
  replace hB := bstep hB hb20
  replace ht1 := ht1.below hb20
  clear hb20
  go_wp2_with fail
  refine (hRk _).mono ?_
  rintro e w' ⟨rfl, rfl⟩
  go_wp2_with fail
  refine (hAw _ ht1).mono ?_
  rintro e w21 ⟨rfl, hb21⟩
  replace hB := bstep hB hb21
  go_wp2
  go_ret
  exact ⟨rfl, hB⟩
end Go.Proofs.YtcmdndgaggbhoaaDoor.Ev
