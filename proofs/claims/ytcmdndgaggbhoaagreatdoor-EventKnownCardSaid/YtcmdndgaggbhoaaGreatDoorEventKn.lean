/- Walk: EventKnown. -/
import Derived.Test.YtcmdndgaggbhoaaGreatDoorEventV
import Derived.Test.YtcmdndgaggbhoaaGreatDoorEventL
namespace Go.Proofs.YtcmdndgaggbhoaaGreatDoor.Ev
open Go.RowKit Go.Shelf
open Lb Wr

/-- What a region holds fast beside the tables and what lay: 5 cells. -/
theorem held5t {P : Program} {f : FuncId} {args : Array Value} {v : Value} {W wx : World} {a0 a1 a2 a3 a4 : Addr} {c0 c1 c2 c3 c4 : Value} (hc : ∀ w, Tab3 w → Calls P f args w fun e w' => e = .returned v ∧ Below w.heap.size w w')
    (h0 : wx.cell? a0 = some c0) (h1 : wx.cell? a1 = some c1) (h2 : wx.cell? a2 = some c2) (h3 : wx.cell? a3 = some c3) (h4 : wx.cell? a4 = some c4) (ht : Tab3 wx) (h : Below W.heap.size W wx) :
    Calls P f args wx fun e w' => e = .returned v ∧ w'.cell? a0 = some c0 ∧ w'.cell? a1 = some c1 ∧ w'.cell? a2 = some c2 ∧ w'.cell? a3 = some c3 ∧ w'.cell? a4 = some c4 ∧ Tab3 w' ∧ Below W.heap.size W w' :=
  (hc wx ht).mono fun _ w' hh =>
    have hl : ∀ {p : Addr} {v : Value}, wx.cell? p = some v → w'.cell? p = some v := fun {_ _} h => (hh.2.cell (World.block_lt_of_cell? wx _ h)).trans h
    ⟨hh.1, hl h0, hl h1, hl h2, hl h3, hl h4, ht.below hh.2, bstep h hh.2⟩
/-- What a region holds fast beside the tables and what lay: 3 cells. -/
theorem held3u {P : Program} {f : FuncId} {args : Array Value} {v : Value} {W wx : World} {a0 a1 a2 : Addr} {c0 c1 c2 : Value} (hc : ∀ w, Tab3 w → Calls P f args w fun e w' => e = .returned v ∧ Below w.heap.size w w')
    (h0 : wx.cell? a0 = some c0) (h1 : wx.cell? a1 = some c1) (h2 : wx.cell? a2 = some c2) (ht : Tab3 wx) (h : Below W.heap.size W wx) :
    Calls P f args wx fun e w' => e = .returned v ∧ w'.cell? a0 = some c0 ∧ w'.cell? a1 = some c1 ∧ w'.cell? a2 = some c2 ∧ Tab3 w' ∧ Below W.heap.size W w' :=
  (hc wx ht).mono fun _ w' hh =>
    have hl : ∀ {p : Addr} {v : Value}, wx.cell? p = some v → w'.cell? p = some v := fun {_ _} h => (hh.2.cell (World.block_lt_of_cell? wx _ h)).trans h
    ⟨hh.1, hl h0, hl h1, hl h2, ht.below hh.2, bstep h hh.2⟩
theorem faulty_is (s : ByteArray) (e a : Int) (h : parseC s = pv 0 0 0 e a) (hs : s.size ≤ 1000) (w : World) :
    Calls Tryz.prog 8 #[.string s, .int .i64 e, .int .i64 a] w fun r w' => r = .returned (.bool true) ∧ Below w.heap.size w w' := by
  have hP := fun w => parseC_any s w (by omega)
  rw [h] at hP
  clear h hs
  simp only [pv, ev] at hP
  go_enter Tryz.func8, Tryz.ntmps8
  go_wp2_with fail
  refine (hP _).mono ?_
  rintro e w1 ⟨rfl, hb1⟩
  go_wp2
  go_ret
  exact ⟨rfl, (hb1.alloc hb1.size _).alloc (by have := hb1.size; simp; omega) _⟩
theorem k_parse : parseC someB = pv 257 2 (-2) 0 0 := by kernel_rfl
theorem k_text : strOf (evT 257 2 (-2)) = someT := by
  have h := textE_some
  unfold textE at h
  rw [if_pos (by decide)] at h
  exact congrArg Prod.fst h
theorem k_read : readV someT = .tuple #[ev 257 2 (-2), .int .i64 0] := by
  rw [← k_text]
  exact readV_text (l := 257) (k := 2) (v := -2) (by decide) (by decide) (by decide) (by decide)
theorem dd1 {k : Nat} (h : k < 10) : Lib.decDigits k = [UInt8.ofNat (48 + k)] := Lib.decDigits_one h
theorem k_read1 : readV ⟨#[67, 32, 123, 56, 44, 48, 125, 32, 45, 50]⟩ = .tuple #[ev 0 0 0, .int .i64 3] := by
  have e1 : rL ⟨#[67, 32, 123, 56, 44, 48, 125, 32, 45, 50]⟩ = 0 := by decide +kernel
  have e2 : rK ⟨#[67, 32, 123, 56, 44, 48, 125, 32, 45, 50]⟩ = 2 := by decide +kernel
  have e3 : rV ⟨#[67, 32, 123, 56, 44, 48, 125, 32, 45, 50]⟩ = -2 := by decide +kernel
  have e : evT 0 2 (-2) = [67, 32, 123, 125, 32, 45, 50] := by
    unfold evT
    rw [show cats 0 = [] by decide, show Lib.itoa (-2) = 45 :: Lib.decDigits 2 from rfl, dd1 (show 2 < 10 by decide)]
    decide
  unfold readV
  rw [e1, e2, e3, e, if_neg (by decide)]
theorem k_read2 : readV ⟨#[67, 32, 123, 48, 44, 56, 125, 32, 45, 48]⟩ = .tuple #[ev 0 0 0, .int .i64 3] := by
  have e1 : rL ⟨#[67, 32, 123, 48, 44, 56, 125, 32, 45, 48]⟩ = 257 := by decide +kernel
  have e2 : rK ⟨#[67, 32, 123, 48, 44, 56, 125, 32, 45, 48]⟩ = 2 := by decide +kernel
  have e3 : rV ⟨#[67, 32, 123, 48, 44, 56, 125, 32, 45, 48]⟩ = 0 := by decide +kernel
  have e : evT 257 2 0 = [67, 32, 123, 48, 44, 56, 125, 32, 48] := by
    unfold evT
    rw [show cats 257 = [0, 8] by decide, show Lib.itoa 0 = Lib.decDigits 0 from rfl]
    simp only [textOf, List.map_cons, List.map_nil, dd1 (show 0 < 10 by decide), dd1 (show 8 < 10 by decide)]
    decide
  unfold readV
  rw [e1, e2, e3, e, if_neg (by decide)]
theorem k_id : strOf (idT 0 12) = ⟨#[123, 125, 35, 49, 50]⟩ := by
  unfold idT
  rw [show cats 0 = [] by decide, Lib.decDigits_two (show ¬ 12 < 10 by decide) (by decide)]
  decide
theorem k_idText (w : World) (ht : Tab2 w) : Calls Tryz.prog 10 #[idv 0 12] w fun e w' => e = .returned (.tuple #[.string ⟨#[123, 125, 35, 49, 50]⟩, .int .i64 0]) ∧ Below w.heap.size w w' := by
  have h := idTextYes 0 12 (by decide) (by decide) (by decide) w ht
  rw [k_id] at h
  exact h
theorem k_readId : readIdV ⟨#[123, 125, 35, 49, 50]⟩ = .tuple #[idv 0 12, .int .i64 0] := by
  rw [← k_id]
  exact readIdV_text (l := 0) (n := 12) (by decide) (by decide)
theorem k_readId1 : readIdV ⟨#[123, 125, 35, 48, 49, 50]⟩ = .tuple #[idv 0 0, .int .i64 3] := by
  have e1 : iL ⟨#[123, 125, 35, 48, 49, 50]⟩ = 0 := by decide +kernel
  have e2 : iN ⟨#[123, 125, 35, 48, 49, 50]⟩ = 12 := by decide +kernel
  unfold readIdV
  rw [e1, e2, k_id, if_neg (fun h => absurd h.2 (by decide))]
theorem k_readId2 : readIdV ⟨#[123, 125, 35, 48]⟩ = .tuple #[idv 0 0, .int .i64 3] := by
  have e2 : iN ⟨#[123, 125, 35, 48]⟩ = 0 := by decide +kernel
  unfold readIdV
  rw [e2, if_neg (fun h => absurd h.1 (by decide))]
theorem k_letter (w : World) : Calls Tryz.prog 13 #[.int .i64 25] w fun e w' => e = .returned (.tuple #[.string ⟨#[90]⟩, .int .i64 0]) ∧ w = w' := letter_any 25 w
theorem k_letter1 (w : World) : Calls Tryz.prog 13 #[.int .i64 26] w fun e w' => e = .returned (.tuple #[.string ⟨#[]⟩, .int .i64 11]) ∧ w = w' := letter_any 26 w
theorem k_kind (w : World) : Calls Tryz.prog 14 #[.string ⟨#[90]⟩] w fun e w' => e = .returned (.tuple #[.int .i64 25, .int .i64 0]) ∧ Below w.heap.size w w' := by
  have h := kind_any ⟨#[90]⟩ w
  rw [show kindI ⟨#[90]⟩ = (25, 0) by decide +kernel] at h
  exact h
theorem k_kind1 (w : World) : Calls Tryz.prog 14 #[.string ⟨#[122]⟩] w fun e w' => e = .returned (.tuple #[.int .i64 0, .int .i64 11]) ∧ Below w.heap.size w w' := by
  have h := kind_any ⟨#[122]⟩ w
  rw [show kindI ⟨#[122]⟩ = (0, 11) by decide +kernel] at h
  exact h
theorem k_cmp (w : World) : Calls Tryz.prog 12 #[.agg #[.int .u64 0, .int .u64 5], .agg #[.int .u64 1, .int .u64 1]] w fun e w' => e = .returned (.int .i64 (-1)) ∧ Below w.heap.size w w' := compare_any 0 5 1 1 w
theorem k_cmp1 (w : World) : Calls Tryz.prog 12 #[.agg #[.int .u64 0, .int .u64 5], .agg #[.int .u64 0, .int .u64 4]] w fun e w' => e = .returned (.int .i64 1) ∧ Below w.heap.size w w' := compare_any 0 5 0 4 w
theorem k_store (w : World) : Calls Tryz.prog 15 #[.agg #[.int .u64 0, .int .i64 26, .int .i64 0], .int .u64 1, .int .u64 1, .int .u64 0] w fun e w' => e = .returned (.tuple #[.agg #[.int .u64 0, .int .u64 0, .int .u64 0, .int .u64 0, .int .i64 0, .int .i64 0], .int .i64 11]) ∧ Below w.heap.size w w' := by
  have h := store_any 0 26 0 1 1 0 (by decide) (by decide) (by decide) w
  rw [show storeV 0 26 0 1 1 0 = .tuple #[stv 0 0 0 0 0 0, .int .i64 11] by rfl] at h
  exact h
theorem k_store1 (w : World) : Calls Tryz.prog 15 #[.agg #[.int .u64 0, .int .i64 0, .int .i64 0], .int .u64 0, .int .u64 1, .int .u64 0] w fun e w' => e = .returned (.tuple #[.agg #[.int .u64 0, .int .u64 0, .int .u64 0, .int .u64 0, .int .i64 0, .int .i64 0], .int .i64 2]) ∧ Below w.heap.size w w' := by
  have h := store_any 0 0 0 0 1 0 (by decide) (by decide) (by decide) w
  rw [show storeV 0 0 0 0 1 0 = .tuple #[stv 0 0 0 0 0 0, .int .i64 2] by rfl] at h
  exact h
theorem k_store2 (w : World) : Calls Tryz.prog 15 #[.agg #[.int .u64 0, .int .i64 0, .int .i64 0], .int .u64 1, .int .u64 1099511627777, .int .u64 0] w fun e w' => e = .returned (.tuple #[.agg #[.int .u64 0, .int .u64 0, .int .u64 0, .int .u64 0, .int .i64 0, .int .i64 0], .int .i64 2]) ∧ Below w.heap.size w w' := by
  have h := store_any 0 0 0 1 1099511627777 0 (by decide) (by decide) (by decide) w
  rw [show storeV 0 0 0 1 1099511627777 0 = .tuple #[stv 0 0 0 0 0 0, .int .i64 2] by rfl] at h
  exact h
attribute [local go_sem] tab3_drew below_drew_eq
attribute [local simp] tab3_drew below_drew_eq
set_option maxRecDepth 100000 in
set_option maxHeartbeats 8000000 in
theorem known_any (w : World) (ht : Tab3 w) : Calls Tryz.prog 3 #[] w fun e w' => e = .returned (.bool true) ∧ Below w.heap.size w w' := by
  have hP := fun w => parseC_any someB w (by decide)
  rw [k_parse] at hP
  have hR := fun w ht => evRead_any someT w ht (by decide)
  rw [k_read] at hR
  have hR1 := fun w ht => evRead_any ⟨#[67, 32, 123, 56, 44, 48, 125, 32, 45, 50]⟩ w ht (by decide)
  rw [k_read1] at hR1
  have hR2 := fun w ht => evRead_any ⟨#[67, 32, 123, 48, 44, 56, 125, 32, 45, 48]⟩ w ht (by decide)
  rw [k_read2] at hR2
  have hD := fun w ht => evReadId_any ⟨#[123, 125, 35, 49, 50]⟩ w ht (by decide)
  rw [k_readId] at hD
  have hD1 := fun w ht => evReadId_any ⟨#[123, 125, 35, 48, 49, 50]⟩ w ht (by decide)
  rw [k_readId1] at hD1
  have hD2 := fun w ht => evReadId_any ⟨#[123, 125, 35, 48]⟩ w ht (by decide)
  rw [k_readId2] at hD2
  have hT := k_idText
  simp only [ev, pv, idv, someB, someT] at hP hR hR1 hR2 hD hD1 hD2 hT
  have hS := fun w (_ : Tab3 w) => some_any w
  simp only [ev] at hS
  have hsum : ∀ w, (Op.stringOp .add ⟨#[0, 0, 0, 0, 0, 0, 1, 1]⟩ ⟨#[26]⟩).run Tryz.prog w = .ok (.string ⟨#[0, 0, 0, 0, 0, 0, 1, 1, 26]⟩) w := fun w => run_string_add_sum w _ _ (by decide)
  have x8 : (⟨#[0, 0, 0, 0, 0, 0, 1, 1, 2, 255, 255, 255, 255, 255, 255, 255, 254]⟩ : ByteArray).extract 0 8 = ⟨#[0, 0, 0, 0, 0, 0, 1, 1]⟩ := by decide +kernel
  have x12 : (⟨#[0, 0, 0, 0, 0, 0, 1, 1, 2, 255, 255, 255, 255, 255, 255, 255, 254]⟩ : ByteArray).extract 0 12 = ⟨#[0, 0, 0, 0, 0, 0, 1, 1, 2, 255, 255, 255]⟩ := by decide +kernel
  have hF8 := fun w (_ : Tab3 w) => faulty_is ⟨#[0, 0, 0, 0, 0, 0, 1, 1]⟩ 5 8 (by kernel_rfl) (by decide) w
  have hF12 := fun w (_ : Tab3 w) => faulty_is ⟨#[0, 0, 0, 0, 0, 0, 1, 1, 2, 255, 255, 255]⟩ 5 9 (by kernel_rfl) (by decide) w
  have hFx := fun w (_ : Tab3 w) => faulty_is ⟨#[0, 0, 0, 0, 0, 0, 1, 1, 2, 255, 255, 255, 255, 255, 255, 255, 254, 120]⟩ 4 17 (by kernel_rfl) (by decide) w
  have hFk := fun w (_ : Tab3 w) => faulty_is ⟨#[0, 0, 0, 0, 0, 0, 1, 1, 26]⟩ 11 8 (by kernel_rfl) (by decide) w
  have hF0 := fun w (_ : Tab3 w) => faulty_is ⟨#[]⟩ 5 0 (by kernel_rfl) (by decide) w
  go_enter Tryz.func3, Tryz.ntmps3
  go_wp2_with fail
  refine (hP _).mono ?_
  rintro e w1 ⟨rfl, hB⟩
  have ht1 := ht.below hB
  clear hP ht
  go_wp2_with fail
  refine named_wp fun W hW => ?_
  have hX : Blk W w1.heap.size [.int .u64 257, .int .i64 2, .int .i64 (-2)] := by rw [hW]; exact (Blk.is _ rfl).alloc _
  have hZ : Blk W (w1.heap.size + 1) [.int .i64 0, .int .i64 0] := by rw [hW]; exact Blk.is _ (by simp)
  replace ht1 : Tab3 W := by rw [hW]; exact (ht1.alloc _).alloc _
  replace hB : Below w.heap.size w W := by rw [hW]; exact (hB.alloc hB.size _).alloc (by have := hB.size; simp; omega) _
  obtain ⟨X, hXe⟩ : ∃ X, X = w1.heap.size := ⟨_, rfl⟩
  rw [← hXe] at hX hZ ⊢
  obtain ⟨Z, hZe⟩ : ∃ Y', Y' = X + 1 := ⟨_, rfl⟩
  rw [← hZe] at hZ ⊢
  clear hW hXe hZe
  have x0 := hX.cell 0 _ rfl
  have x1 := hX.cell 1 _ rfl
  have x2 := hX.cell 2 _ rfl
  have z0 := hZ.cell 0 _ rfl
  have z1 := hZ.cell 1 _ rfl
  clear hX hZ
  go_region_held3 (fun w' => w'.cell? ⟨X, 0, none⟩ = some (.int .u64 257) ∧ w'.cell? ⟨X, 1, none⟩ = some (.int .i64 2) ∧ w'.cell? ⟨X, 2, none⟩ = some (.int .i64 (-2)) ∧ w'.cell? ⟨Z, 0, none⟩ = some (.int .i64 0) ∧ w'.cell? ⟨Z, 1, none⟩ = some (.int .i64 0) ∧ Tab3 w' ∧ Below w.heap.size w w') (go_keep)
    (first
      | (go_at_call 7; with_reducible refine (held5t (W := w) (a0 := ⟨X, 0, none⟩) (c0 := .int .u64 257) (a1 := ⟨X, 1, none⟩) (c1 := .int .i64 2) (a2 := ⟨X, 2, none⟩) (c2 := .int .i64 (-2)) (a3 := ⟨Z, 0, none⟩) (c3 := .int .i64 0) (a4 := ⟨Z, 1, none⟩) (c4 := .int .i64 0) hS ?_ ?_ ?_ ?_ ?_ ?_ ?_ ).mono ?_; (simp [*]); (simp [*]); (simp [*]); (simp [*]); (simp [*]); (simp [*]); (simp [*]); rintro e w9 ⟨rfl, g0, g1, g2, g3, g4, g5, g6⟩)
      | (go_at_call 8; with_reducible refine (held5t (W := w) (a0 := ⟨X, 0, none⟩) (c0 := .int .u64 257) (a1 := ⟨X, 1, none⟩) (c1 := .int .i64 2) (a2 := ⟨X, 2, none⟩) (c2 := .int .i64 (-2)) (a3 := ⟨Z, 0, none⟩) (c3 := .int .i64 0) (a4 := ⟨Z, 1, none⟩) (c4 := .int .i64 0) hF8 ?_ ?_ ?_ ?_ ?_ ?_ ?_ ).mono ?_; (simp [*]); (simp [*]); (simp [*]); (simp [*]); (simp [*]); (simp [*]); (simp [*]); rintro e w9 ⟨rfl, g0, g1, g2, g3, g4, g5, g6⟩)
      | (go_at_call 8; with_reducible refine (held5t (W := w) (a0 := ⟨X, 0, none⟩) (c0 := .int .u64 257) (a1 := ⟨X, 1, none⟩) (c1 := .int .i64 2) (a2 := ⟨X, 2, none⟩) (c2 := .int .i64 (-2)) (a3 := ⟨Z, 0, none⟩) (c3 := .int .i64 0) (a4 := ⟨Z, 1, none⟩) (c4 := .int .i64 0) hF12 ?_ ?_ ?_ ?_ ?_ ?_ ?_ ).mono ?_; (simp [*]); (simp [*]); (simp [*]); (simp [*]); (simp [*]); (simp [*]); (simp [*]); rintro e w9 ⟨rfl, g0, g1, g2, g3, g4, g5, g6⟩)
      | (go_at_call 8; with_reducible refine (held5t (W := w) (a0 := ⟨X, 0, none⟩) (c0 := .int .u64 257) (a1 := ⟨X, 1, none⟩) (c1 := .int .i64 2) (a2 := ⟨X, 2, none⟩) (c2 := .int .i64 (-2)) (a3 := ⟨Z, 0, none⟩) (c3 := .int .i64 0) (a4 := ⟨Z, 1, none⟩) (c4 := .int .i64 0) hFx ?_ ?_ ?_ ?_ ?_ ?_ ?_ ).mono ?_; (simp [*]); (simp [*]); (simp [*]); (simp [*]); (simp [*]); (simp [*]); (simp [*]); rintro e w9 ⟨rfl, g0, g1, g2, g3, g4, g5, g6⟩)
      | (go_at_call 8; with_reducible refine (held5t (W := w) (a0 := ⟨X, 0, none⟩) (c0 := .int .u64 257) (a1 := ⟨X, 1, none⟩) (c1 := .int .i64 2) (a2 := ⟨X, 2, none⟩) (c2 := .int .i64 (-2)) (a3 := ⟨Z, 0, none⟩) (c3 := .int .i64 0) (a4 := ⟨Z, 1, none⟩) (c4 := .int .i64 0) hFk ?_ ?_ ?_ ?_ ?_ ?_ ?_ ).mono ?_; (simp [*]); (simp [*]); (simp [*]); (simp [*]); (simp [*]); (simp [*]); (simp [*]); rintro e w9 ⟨rfl, g0, g1, g2, g3, g4, g5, g6⟩)
      | (go_at_call 8; with_reducible refine (held5t (W := w) (a0 := ⟨X, 0, none⟩) (c0 := .int .u64 257) (a1 := ⟨X, 1, none⟩) (c1 := .int .i64 2) (a2 := ⟨X, 2, none⟩) (c2 := .int .i64 (-2)) (a3 := ⟨Z, 0, none⟩) (c3 := .int .i64 0) (a4 := ⟨Z, 1, none⟩) (c4 := .int .i64 0) hF0 ?_ ?_ ?_ ?_ ?_ ?_ ?_ ).mono ?_; (simp [*]); (simp [*]); (simp [*]); (simp [*]); (simp [*]); (simp [*]); (simp [*]); rintro e w9 ⟨rfl, g0, g1, g2, g3, g4, g5, g6⟩))
  go_wp2_with fail
  have hB := g6
  have ht1 := g5
  clear x0 x1 x2 z0 z1 hS hF8 hF12 hFx hFk hF0 hsum x8 x12
  refine (hR _ ht1).mono ?_
  rintro e w21 ⟨rfl, hb21⟩
  replace hB := bstep hB hb21
  replace ht1 := ht1.below hb21
  clear hb21
  go_wp2_with fail
  refine named fun V hW => ?_
  have hA : Blk V (w21.heap.size) [.int .u64 257, .int .i64 2, .int .i64 (-2)] := by rw [hW]; exact (Blk.is _ (by simp))
  replace ht1 : Tab3 V := by rw [hW]; exact (ht1.alloc _)
  have hB2 : Below w.heap.size w V := by rw [hW]; exact hB.alloc hB.size _
  obtain ⟨A, hAe⟩ : ∃ Y, Y = w21.heap.size := ⟨_, rfl⟩
  rw [← hAe] at hA ⊢
  clear hW hB hAe
  have hB := hB2
  clear hB2
  refine (hR1 _ ht1).mono ?_
  rintro e w22 ⟨rfl, hb22⟩
  replace hB := bstep hB hb22
  replace ht1 := ht1.below hb22
  replace hA := hA.later hb22
  clear hb22
  go_wp2_with fail
  refine named fun V hW => ?_
  replace hA : Blk V A [.int .u64 257, .int .i64 2, .int .i64 (-2)] := by rw [hW]; exact hA.alloc _
  replace ht1 : Tab3 V := by rw [hW]; exact (ht1.alloc _)
  have hB2 : Below w.heap.size w V := by rw [hW]; exact hB.alloc hB.size _
  clear hW hB
  have hB := hB2
  clear hB2
  refine (hR2 _ ht1).mono ?_
  rintro e w23 ⟨rfl, hb23⟩
  replace hB := bstep hB hb23
  replace ht1 := ht1.below hb23
  replace hA := hA.later hb23
  clear hb23
  go_upto_region 7 with (fail)
  refine named_wp fun V hW => ?_
  replace hA : Blk V A [.int .u64 257, .int .i64 2, .int .i64 (-2)] := by rw [hW]; exact hA.alloc _
  replace ht1 : Tab3 V := by rw [hW]; exact (ht1.alloc _)
  have hB2 : Below w.heap.size w V := by rw [hW]; exact hB.alloc hB.size _
  clear hW hB
  have hB := hB2
  clear hB2
  clear hR hR1 hR2
  have a0 := hA.cell 0 _ rfl
  have a1 := hA.cell 1 _ rfl
  have a2 := hA.cell 2 _ rfl
  clear hA
  have hS := fun w (_ : Tab3 w) => some_any w
  simp only [ev] at hS
  go_region_held3 (fun w' => w'.cell? ⟨A, 0, none⟩ = some (.int .u64 257) ∧ w'.cell? ⟨A, 1, none⟩ = some (.int .i64 2) ∧ w'.cell? ⟨A, 2, none⟩ = some (.int .i64 (-2)) ∧ Tab3 w' ∧ Below w.heap.size w w') (go_keep)
    ((go_at_call 7; refine (held3u (W := w) (a0 := ⟨A, 0, none⟩) (c0 := .int .u64 257) (a1 := ⟨A, 1, none⟩) (c1 := .int .i64 2) (a2 := ⟨A, 2, none⟩) (c2 := .int .i64 (-2)) hS ?_ ?_ ?_ ?_ ?_ ).mono ?_; (simp [*]); (simp [*]); (simp [*]); (simp [*]); (simp [*]); rintro e w9 ⟨rfl, g0, g1, g2, g3, g4⟩))
  have hB := g4
  have ht1 := g3
  clear a0 a1 a2 hS
  go_wp2_with fail
  refine named fun V hW => ?_
  have hQ : Blk V (w9.heap.size) [.int .u64 0, .int .u64 12] := by rw [hW]; exact (Blk.is _ (by simp))
  replace ht1 : Tab3 V := by rw [hW]; exact (ht1.alloc _)
  have hB2 : Below w.heap.size w V := by rw [hW]; exact hB.alloc hB.size _
  obtain ⟨Q, hQe⟩ : ∃ Y, Y = w9.heap.size := ⟨_, rfl⟩
  rw [← hQe] at hQ ⊢
  clear hW hB hQe
  have hB := hB2
  clear hB2
  refine (hT _ ht1.1).mono ?_
  rintro e w10 ⟨rfl, hb10⟩
  replace hB := bstep hB hb10
  replace ht1 := ht1.below hb10
  replace hQ := hQ.later hb10
  clear hb10
  go_wp2_with fail
  refine (hD _ ht1).mono ?_
  rintro e w11 ⟨rfl, hb11⟩
  replace hB := bstep hB hb11
  replace ht1 := ht1.below hb11
  replace hQ := hQ.later hb11
  clear hb11
  go_wp2_with fail
  refine named fun V hW => ?_
  replace hQ : Blk V Q [.int .u64 0, .int .u64 12] := by rw [hW]; exact hQ.alloc _
  have hJ : Blk V (w11.heap.size) [.int .u64 0, .int .u64 12] := by rw [hW]; exact (Blk.is _ (by simp))
  replace ht1 : Tab3 V := by rw [hW]; exact (ht1.alloc _)
  have hB2 : Below w.heap.size w V := by rw [hW]; exact hB.alloc hB.size _
  obtain ⟨J, hJe⟩ : ∃ Y, Y = w11.heap.size := ⟨_, rfl⟩
  rw [← hJe] at hJ ⊢
  clear hW hB hJe
  have hB := hB2
  clear hB2
  refine (hD1 _ ht1).mono ?_
  rintro e w12 ⟨rfl, hb12⟩
  replace hB := bstep hB hb12
  replace ht1 := ht1.below hb12
  replace hQ := hQ.later hb12
  replace hJ := hJ.later hb12
  clear hb12
  go_wp2_with fail
  refine (hD2 _ ht1).mono ?_
  rintro e w13 ⟨rfl, hb13⟩
  replace hB := bstep hB hb13
  replace ht1 := ht1.below hb13
  replace hQ := hQ.later hb13
  replace hJ := hJ.later hb13
  clear hb13
  have i0 := hQ.cell 0 _ rfl
  have i1 := hQ.cell 1 _ rfl
  have j0 := hJ.cell 0 _ rfl
  have j1 := hJ.cell 1 _ rfl
  have ltI := hQ.lt
  have ltJ := hJ.lt
  go_wp2_with fail
  refine named fun V hW => ?_
  replace ht1 : Tab3 V := by rw [hW]; exact (ht1.alloc _)
  have hB2 : Below w.heap.size w V := by rw [hW]; exact hB.alloc hB.size _
  clear hW hB
  have hB := hB2
  clear hB2
  clear i0 i1 j0 j1 ltI ltJ hQ hJ
  refine (k_cmp _).mono ?_
  rintro e w14 ⟨rfl, hb14⟩
  replace hB := bstep hB hb14
  replace ht1 := ht1.below hb14
  clear hb14
  go_wp2_with fail
  refine (k_cmp1 _).mono ?_
  rintro e w15 ⟨rfl, hb15⟩
  replace hB := bstep hB hb15
  replace ht1 := ht1.below hb15
  clear hb15
  go_wp2_with fail
  refine (k_letter _).mono ?_
  rintro e w' ⟨rfl, rfl⟩
  go_wp2_with fail
  refine (k_kind _).mono ?_
  rintro e w17 ⟨rfl, hb17⟩
  replace hB := bstep hB hb17
  replace ht1 := ht1.below hb17
  clear hb17
  go_wp2_with fail
  refine (k_kind1 _).mono ?_
  rintro e w18 ⟨rfl, hb18⟩
  replace hB := bstep hB hb18
  replace ht1 := ht1.below hb18
  clear hb18
  go_wp2_with fail
  refine (k_letter1 _).mono ?_
  rintro e w' ⟨rfl, rfl⟩
  go_wp2_with fail
  refine (k_store _).mono ?_
  rintro e w20 ⟨rfl, hb20⟩
  replace hB := bstep hB hb20
  replace ht1 := ht1.below hb20
  clear hb20
  go_wp2_with fail
  refine (k_store1 _).mono ?_
  rintro e w21 ⟨rfl, hb21⟩
  replace hB := bstep hB hb21
  replace ht1 := ht1.below hb21
  clear hb21
  go_wp2_with fail
  refine (k_store2 _).mono ?_
  rintro e w22 ⟨rfl, hb22⟩
  replace hB := bstep hB hb22
  replace ht1 := ht1.below hb22
  clear hb22
  go_wp2_with fail
  refine (awake_any _ ht1.1).mono ?_
  rintro e w23 ⟨rfl, hb23⟩
  replace hB := bstep hB hb23
  replace ht1 := ht1.below hb23
  clear hb23
  go_wp2
  go_ret
  exact ⟨rfl, hB⟩
end Go.Proofs.YtcmdndgaggbhoaaGreatDoor.Ev
