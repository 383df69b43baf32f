/- Walk: aggregates. Made by program (wip/tools/gen_parD.py). -/
import Derived.Test.YtdjaijhlhhnmeaaGreatDoorParD
namespace Go.Proofs.YtdjaijhlhhnmeaaGreatDoor
open Go.RowKit
open A8 Tk7 P9

theorem functions_some (w : World) : Calls Tryz.prog 130 #[] w fun e w' => ∃ B, e = .returned (.map (some B)) ∧ Below w.heap.size w w' ∧ w'.ownsMap Tryz.prog 9 (plainElem Tryz.prog 3) B 6 (tabD (.map []) 1 funsA.tail) := (functions_any w).mono fun _ _ h => ⟨_, h⟩
/-- Behind the first region of agg: the aggregate in a block of its own. -/
def AggCut (w : World) (b : Nat) (g : G9) (f : Int) (r : List T) (s3 : Value) (wx : World) : Prop :=
  ∃ bx : Nat, s3 = .pointer (some ⟨bx, 0, none⟩) ∧ w.heap.size < bx ∧ Blk wx bx [.int .i64 f, .string ⟨#[]⟩] ∧ Blk wx w.heap.size [.int .i64 0, .string ⟨#[]⟩] ∧ w.grownBy wx (some b) ∧ At9 wx b g r
theorem aggCut_store {w w2 : World} {b bx : Nat} {g : G9} {f : Int} {l r : List T} (h : At9 w b g l) (hg : w.grownBy w2 (some b)) (ha : At9 w2 b g r) (hR : Blk w2 w.heap.size [.int .i64 0, .string ⟨#[]⟩]) (hlt : w.heap.size < bx) (hK : Blk w2 bx [.int .i64 0, .string ⟨#[]⟩]) :
    AggCut w b g f r (.pointer (some ⟨bx, 0, none⟩)) ((w2.setCell ⟨bx, 0, none⟩ (.int .i64 f)).setCell ⟨bx, 1, none⟩ (.string ⟨#[]⟩)) := by
  have hb := h.lt
  obtain ⟨h1, h2⟩ := res_out (us := [.int .i64 f, .string ⟨#[]⟩]) hK rfl rfl
  have hgV := grown_only hg (Nat.le_of_lt hlt) h2
  exact ⟨bx, rfl, hlt, h1, (hR.other (p := ⟨bx, 0, none⟩) (by simp only; omega) _).other (p := ⟨bx, 1, none⟩) (by simp only; omega) _, hgV, at9_end h ha hgV h2 (by omega)⟩
theorem aggCut_new {w w2 : World} {b : Nat} {g : G9} {f : Int} {r : List T} (hg : w.grownBy w2 (some b)) (ha : At9 w2 b g r) (hR : Blk w2 w.heap.size [.int .i64 0, .string ⟨#[]⟩]) :
    AggCut w b g f r (.pointer (some ⟨w2.heap.size, 0, none⟩)) (w2.alloc (.cells #[.int .i64 f, .string ⟨#[]⟩] 70)) :=
  ⟨w2.heap.size, rfl, hR.lt, Blk.is (us := [.int .i64 f, .string ⟨#[]⟩]) _ rfl, hR.alloc _, grown_trans hg (grown_of b (b1 _ _)), ha.later (b1 _ _)⟩
set_option maxRecDepth 100000 in
set_option maxHeartbeats 1000000 in
theorem agg_1 {w : World} {b : Nat} {g : G9} {l : List T} (h : At9 w b g l) (y : F) (hy : oneP funsA g.e l = .error y) :
    Calls Tryz.prog 72 #[.pointer (some ⟨b, 0, none⟩)] w (Out9 w b g (.error y : R Ag) IsG) := by
  have hCm := fun w => functions_some w
  have hO := fun w' B (ha : At9 w' b g l) => funsOne B ha
  rw [hy] at hO
  go_enter Tryz.func72, Tryz.ntmps72
  go_wp2
  refine named_wp fun W hW => ?_
  have hWb : Below w.heap.size w W := by rw [hW]; exact b1 _ _
  have hR : Blk W w.heap.size [.int .i64 0, .string ⟨#[]⟩] := by rw [hW]; exact Blk.is _ rfl
  have hne : w.heap.size ≠ b := by have := h.lt; omega
  have hnb : some w.heap.size ≠ some b := fun e => hne (by injection e)
  have hnB : some W.heap.size ≠ some b := fun e => by injection e with e; have h0 := h.lt; have h1 := hWb.size; omega
  clear hW
  go_region_with (first | (go_at_call 130; refine (hCm _).mono ?_; rintro e' w1 ⟨B, rfl, hb1, hm1⟩; have hB1 : Below w.heap.size w w1 := (by first | with_reducible exact bstep hWb.drew hb1 | with_reducible exact bstep (bstep hWb (b1 _ _)).drew hb1)) | (go_at_call 129; (first | (with_reducible refine (hO _ _ (h.later hB1) hm1).mono ?_) | (with_reducible refine (hO _ _ (h.later (bstep hB1 (b1 _ _))) (owns_later hm1 (b1 _ _))).mono ?_)); intro e' w2 ho; obtain ⟨hg2, rfl⟩ := out_e ho; have hg02 : w.grownBy w2 (some b) := (by first | with_reducible exact grown_to hB1 hg2 | with_reducible exact grown_to (bstep hB1 (b1 _ _)) hg2); refine dead_end w2 ⟨rfl, out_err hg02⟩ ?_))
  all_goals trivial
set_option maxRecDepth 100000 in
set_option maxHeartbeats 1000000 in
theorem agg_2 {w : World} {b : Nat} {g : G9} {l : List T} (h : At9 w b g l) (f : Int) (r1 : List T) (hy : oneP funsA g.e l = .ok (f, r1)) (y : F) (h1 : wantP g.e [40] r1 = .error y) :
    Calls Tryz.prog 72 #[.pointer (some ⟨b, 0, none⟩)] w (Out9 w b g (.error y : R Ag) IsG) := by
  have hCm := fun w => functions_some w
  have hO := fun w' B (ha : At9 w' b g l) => funsOne B ha
  rw [hy] at hO
  have hM1 := fun w' (ha : At9 w' b g r1) => must_any [40] (by decide) ha
  rw [h1] at hM1
  go_enter Tryz.func72, Tryz.ntmps72
  go_wp2
  refine named_wp fun W hW => ?_
  have hWb : Below w.heap.size w W := by rw [hW]; exact b1 _ _
  have hR : Blk W w.heap.size [.int .i64 0, .string ⟨#[]⟩] := by rw [hW]; exact Blk.is _ rfl
  have hne : w.heap.size ≠ b := by have := h.lt; omega
  have hnb : some w.heap.size ≠ some b := fun e => hne (by injection e)
  have hnB : some W.heap.size ≠ some b := fun e => by injection e with e; have h0 := h.lt; have h1 := hWb.size; omega
  clear hW
  go_cut [3] (fun s3 wx => AggCut w b g f r1 s3 wx)
  case first =>
    go_region_with (first | (go_at_call 130; refine (hCm _).mono ?_; rintro e' w1 ⟨B, rfl, hb1, hm1⟩; have hB1 : Below w.heap.size w w1 := (by first | with_reducible exact bstep hWb.drew hb1 | with_reducible exact bstep (bstep hWb (b1 _ _)).drew hb1)) | (go_at_call 129; (first | (with_reducible refine (hO _ _ (h.later hB1) hm1).mono ?_) | (with_reducible refine (hO _ _ (h.later (bstep hB1 (b1 _ _))) (owns_later hm1 (b1 _ _))).mono ?_)); intro e' w2 ho; obtain ⟨hg2, v2, rfl, rfl, ha2⟩ := out_o ho; have hg02 : w.grownBy w2 (some b) := (by first | with_reducible exact grown_to hB1 hg2 | with_reducible exact grown_to (bstep hB1 (b1 _ _)) hg2); have hR2 : Blk w2 w.heap.size [.int .i64 0, .string ⟨#[]⟩] := (by first | with_reducible exact (hR.drew.later hb1).grown hg2 hnb | with_reducible exact ((hR.later (b1 _ _)).drew.later hb1).grown hg2 hnb | with_reducible exact ((hR.drew.later hb1).later (b1 _ _)).grown hg2 hnb); (first | (have hK : Blk w2 W.heap.size [.int .i64 0, .string ⟨#[]⟩] := (by with_reducible exact ((Blk.new W [.int .i64 0, .string ⟨#[]⟩] 70).drew.later hb1).grown hg2 hnB)) | (have hK : Blk w2 w1.heap.size [.int .i64 0, .string ⟨#[]⟩] := (by with_reducible exact (Blk.new w1 [.int .i64 0, .string ⟨#[]⟩] 70).grown hg2 (fun e => by injection e with e; have h0 := h.lt; have h1 := hB1.size; omega))) | skip); try (have k0 := hK.cell 0 _ rfl; have k1 := hK.cell 1 _ rfl; have f0 := hK.fr 0 _ rfl; have f1 := hK.fr 1 _ rfl)))
    all_goals
      go_wp2_with fail
      go_meet
      case rel =>
        first
        | exact aggCut_store h hg02 ha2 hR2 (by first | exact hR.lt | exact (hR.drew.later hb1).lt | exact ((hR.later (b1 _ _)).drew.later hb1).lt) hK
        | exact aggCut_new hg02 ha2 hR2
  case rest =>
    obtain ⟨bx, rfl, hlt, hK3, hR3, hg3, ha3⟩ := hcut
    have hnx : bx ≠ b := by have := h.lt; omega
    go_wp2_with (go_at_call 66; refine (hM1 _ ha3).mono ?_; intro e4 w4 ho4; obtain ⟨hg4, rfl⟩ := out_e ho4)
    exact ⟨rfl, out_err (grown_trans hg3 hg4)⟩
set_option maxRecDepth 100000 in
set_option maxHeartbeats 1000000 in
theorem agg_3 {w : World} {b : Nat} {g : G9} {l : List T} (h : At9 w b g l) (f : Int) (r1 : List T) (hy : oneP funsA g.e l = .ok (f, r1)) (r2 : List T) (y : F) (h1 : wantP g.e [40] r1 = .ok ((), r2)) (h2 : nameP g.e r2 = .error y) :
    Calls Tryz.prog 72 #[.pointer (some ⟨b, 0, none⟩)] w (Out9 w b g (.error y : R Ag) IsG) := by
  have hCm := fun w => functions_some w
  have hO := fun w' B (ha : At9 w' b g l) => funsOne B ha
  rw [hy] at hO
  have hM1 := fun w' (ha : At9 w' b g r1) => must_any [40] (by decide) ha
  rw [h1] at hM1
  have hNm := fun w' (ha : At9 w' b g r2) => name9 ha
  rw [h2] at hNm
  go_enter Tryz.func72, Tryz.ntmps72
  go_wp2
  refine named_wp fun W hW => ?_
  have hWb : Below w.heap.size w W := by rw [hW]; exact b1 _ _
  have hR : Blk W w.heap.size [.int .i64 0, .string ⟨#[]⟩] := by rw [hW]; exact Blk.is _ rfl
  have hne : w.heap.size ≠ b := by have := h.lt; omega
  have hnb : some w.heap.size ≠ some b := fun e => hne (by injection e)
  have hnB : some W.heap.size ≠ some b := fun e => by injection e with e; have h0 := h.lt; have h1 := hWb.size; omega
  clear hW
  go_cut [3] (fun s3 wx => AggCut w b g f r1 s3 wx)
  case first =>
    go_region_with (first | (go_at_call 130; refine (hCm _).mono ?_; rintro e' w1 ⟨B, rfl, hb1, hm1⟩; have hB1 : Below w.heap.size w w1 := (by first | with_reducible exact bstep hWb.drew hb1 | with_reducible exact bstep (bstep hWb (b1 _ _)).drew hb1)) | (go_at_call 129; (first | (with_reducible refine (hO _ _ (h.later hB1) hm1).mono ?_) | (with_reducible refine (hO _ _ (h.later (bstep hB1 (b1 _ _))) (owns_later hm1 (b1 _ _))).mono ?_)); intro e' w2 ho; obtain ⟨hg2, v2, rfl, rfl, ha2⟩ := out_o ho; have hg02 : w.grownBy w2 (some b) := (by first | with_reducible exact grown_to hB1 hg2 | with_reducible exact grown_to (bstep hB1 (b1 _ _)) hg2); have hR2 : Blk w2 w.heap.size [.int .i64 0, .string ⟨#[]⟩] := (by first | with_reducible exact (hR.drew.later hb1).grown hg2 hnb | with_reducible exact ((hR.later (b1 _ _)).drew.later hb1).grown hg2 hnb | with_reducible exact ((hR.drew.later hb1).later (b1 _ _)).grown hg2 hnb); (first | (have hK : Blk w2 W.heap.size [.int .i64 0, .string ⟨#[]⟩] := (by with_reducible exact ((Blk.new W [.int .i64 0, .string ⟨#[]⟩] 70).drew.later hb1).grown hg2 hnB)) | (have hK : Blk w2 w1.heap.size [.int .i64 0, .string ⟨#[]⟩] := (by with_reducible exact (Blk.new w1 [.int .i64 0, .string ⟨#[]⟩] 70).grown hg2 (fun e => by injection e with e; have h0 := h.lt; have h1 := hB1.size; omega))) | skip); try (have k0 := hK.cell 0 _ rfl; have k1 := hK.cell 1 _ rfl; have f0 := hK.fr 0 _ rfl; have f1 := hK.fr 1 _ rfl)))
    all_goals
      go_wp2_with fail
      go_meet
      case rel =>
        first
        | exact aggCut_store h hg02 ha2 hR2 (by first | exact hR.lt | exact (hR.drew.later hb1).lt | exact ((hR.later (b1 _ _)).drew.later hb1).lt) hK
        | exact aggCut_new hg02 ha2 hR2
  case rest =>
    obtain ⟨bx, rfl, hlt, hK3, hR3, hg3, ha3⟩ := hcut
    have hnx : bx ≠ b := by have := h.lt; omega
    go_wp2_with (first | (go_at_call 66; refine (hM1 _ ha3).mono ?_; intro e4 w4 ho4; obtain ⟨hg4, v4, rfl, hv4, ha4⟩ := out_o ho4; cases hv4) | (go_at_call 96; refine (hNm _ ha4).mono ?_; intro e5 w5 ho5; obtain ⟨hg5, rfl⟩ := out_e ho5))
    exact ⟨rfl, out_err (grown_trans (grown_trans hg3 hg4) hg5)⟩
set_option maxRecDepth 100000 in
set_option maxHeartbeats 1000000 in
theorem agg_4 {w : World} {b : Nat} {g : G9} {l : List T} (h : At9 w b g l) (f : Int) (r1 : List T) (hy : oneP funsA g.e l = .ok (f, r1)) (r2 r3 : List T) (nm : List UInt8) (y : F) (h1 : wantP g.e [40] r1 = .ok ((), r2)) (h2 : nameP g.e r2 = .ok (nm, r3)) (h3 : wantP g.e [41] r3 = .error y) :
    Calls Tryz.prog 72 #[.pointer (some ⟨b, 0, none⟩)] w (Out9 w b g (.error y : R Ag) IsG) := by
  have hCm := fun w => functions_some w
  have hO := fun w' B (ha : At9 w' b g l) => funsOne B ha
  rw [hy] at hO
  have hM1 := fun w' (ha : At9 w' b g r1) => must_any [40] (by decide) ha
  rw [h1] at hM1
  have hNm := fun w' (ha : At9 w' b g r2) => name9 ha
  rw [h2] at hNm
  have hM2 := fun w' (ha : At9 w' b g r3) => must_any [41] (by decide) ha
  rw [h3] at hM2
  go_enter Tryz.func72, Tryz.ntmps72
  go_wp2
  refine named_wp fun W hW => ?_
  have hWb : Below w.heap.size w W := by rw [hW]; exact b1 _ _
  have hR : Blk W w.heap.size [.int .i64 0, .string ⟨#[]⟩] := by rw [hW]; exact Blk.is _ rfl
  have hne : w.heap.size ≠ b := by have := h.lt; omega
  have hnb : some w.heap.size ≠ some b := fun e => hne (by injection e)
  have hnB : some W.heap.size ≠ some b := fun e => by injection e with e; have h0 := h.lt; have h1 := hWb.size; omega
  clear hW
  go_cut [3] (fun s3 wx => AggCut w b g f r1 s3 wx)
  case first =>
    go_region_with (first | (go_at_call 130; refine (hCm _).mono ?_; rintro e' w1 ⟨B, rfl, hb1, hm1⟩; have hB1 : Below w.heap.size w w1 := (by first | with_reducible exact bstep hWb.drew hb1 | with_reducible exact bstep (bstep hWb (b1 _ _)).drew hb1)) | (go_at_call 129; (first | (with_reducible refine (hO _ _ (h.later hB1) hm1).mono ?_) | (with_reducible refine (hO _ _ (h.later (bstep hB1 (b1 _ _))) (owns_later hm1 (b1 _ _))).mono ?_)); intro e' w2 ho; obtain ⟨hg2, v2, rfl, rfl, ha2⟩ := out_o ho; have hg02 : w.grownBy w2 (some b) := (by first | with_reducible exact grown_to hB1 hg2 | with_reducible exact grown_to (bstep hB1 (b1 _ _)) hg2); have hR2 : Blk w2 w.heap.size [.int .i64 0, .string ⟨#[]⟩] := (by first | with_reducible exact (hR.drew.later hb1).grown hg2 hnb | with_reducible exact ((hR.later (b1 _ _)).drew.later hb1).grown hg2 hnb | with_reducible exact ((hR.drew.later hb1).later (b1 _ _)).grown hg2 hnb); (first | (have hK : Blk w2 W.heap.size [.int .i64 0, .string ⟨#[]⟩] := (by with_reducible exact ((Blk.new W [.int .i64 0, .string ⟨#[]⟩] 70).drew.later hb1).grown hg2 hnB)) | (have hK : Blk w2 w1.heap.size [.int .i64 0, .string ⟨#[]⟩] := (by with_reducible exact (Blk.new w1 [.int .i64 0, .string ⟨#[]⟩] 70).grown hg2 (fun e => by injection e with e; have h0 := h.lt; have h1 := hB1.size; omega))) | skip); try (have k0 := hK.cell 0 _ rfl; have k1 := hK.cell 1 _ rfl; have f0 := hK.fr 0 _ rfl; have f1 := hK.fr 1 _ rfl)))
    all_goals
      go_wp2_with fail
      go_meet
      case rel =>
        first
        | exact aggCut_store h hg02 ha2 hR2 (by first | exact hR.lt | exact (hR.drew.later hb1).lt | exact ((hR.later (b1 _ _)).drew.later hb1).lt) hK
        | exact aggCut_new hg02 ha2 hR2
  case rest =>
    obtain ⟨bx, rfl, hlt, hK3, hR3, hg3, ha3⟩ := hcut
    have hnx : bx ≠ b := by have := h.lt; omega
    go_upto_region 4 with (first | (go_at_call 66; refine (hM1 _ ha3).mono ?_; intro e4 w4 ho4; obtain ⟨hg4, v4, rfl, hv4, ha4⟩ := out_o ho4; cases hv4) | (go_at_call 96; refine (hNm _ ha4).mono ?_; intro e5 w5 ho5; obtain ⟨hg5, v5, rfl, hv5, ha5⟩ := out_o ho5; cases hv5; have hK5 := (hK3.grown hg4 (fun e => hnx (by injection e))).grown hg5 (fun e => hnx (by injection e)); have k1 := hK5.cell 1 _ rfl; have q1 := hK5.fr 1 _ rfl))
    refine named_wp fun W6 hW6 => ?_
    have hO6 : Only bx w5 W6 := by rw [hW6]; exact (Only.refl bx w5).setCell 1 _
    have hg06 := grown_only (grown_trans (grown_trans hg3 hg4) hg5) (Nat.le_of_lt hlt) hO6
    have ha6 := at9_end h ha5 hg06 hO6 hnx
    clear hW6 k1 q1
    go_wp2_with (go_at_call 66; refine (hM2 _ ha6).mono ?_; intro e7 w7 ho7; obtain ⟨hg7, rfl⟩ := out_e ho7)
    exact ⟨rfl, out_err (grown_trans hg06 hg7)⟩
set_option maxRecDepth 100000 in
set_option maxHeartbeats 1000000 in
theorem agg_5 {w : World} {b : Nat} {g : G9} {l : List T} (h : At9 w b g l) (f : Int) (r1 : List T) (hy : oneP funsA g.e l = .ok (f, r1)) (r2 r3 r4 : List T) (nm : List UInt8) (hf : okV f) (h1 : wantP g.e [40] r1 = .ok ((), r2)) (h2 : nameP g.e r2 = .ok (nm, r3)) (h3 : wantP g.e [41] r3 = .ok ((), r4)) :
    Calls Tryz.prog 72 #[.pointer (some ⟨b, 0, none⟩)] w (Out9 w b g (.ok (⟨f, nm⟩, r4) : R Ag) IsG) := by
  have hCm := fun w => functions_some w
  have hO := fun w' B (ha : At9 w' b g l) => funsOne B ha
  rw [hy] at hO
  have hM1 := fun w' (ha : At9 w' b g r1) => must_any [40] (by decide) ha
  rw [h1] at hM1
  have hNm := fun w' (ha : At9 w' b g r2) => name9 ha
  rw [h2] at hNm
  have hM2 := fun w' (ha : At9 w' b g r3) => must_any [41] (by decide) ha
  rw [h3] at hM2
  go_enter Tryz.func72, Tryz.ntmps72
  go_wp2
  refine named_wp fun W hW => ?_
  have hWb : Below w.heap.size w W := by rw [hW]; exact b1 _ _
  have hR : Blk W w.heap.size [.int .i64 0, .string ⟨#[]⟩] := by rw [hW]; exact Blk.is _ rfl
  have hne : w.heap.size ≠ b := by have := h.lt; omega
  have hnb : some w.heap.size ≠ some b := fun e => hne (by injection e)
  have hnB : some W.heap.size ≠ some b := fun e => by injection e with e; have h0 := h.lt; have h1 := hWb.size; omega
  clear hW
  go_cut [3] (fun s3 wx => AggCut w b g f r1 s3 wx)
  case first =>
    go_region_with (first | (go_at_call 130; refine (hCm _).mono ?_; rintro e' w1 ⟨B, rfl, hb1, hm1⟩; have hB1 : Below w.heap.size w w1 := (by first | with_reducible exact bstep hWb.drew hb1 | with_reducible exact bstep (bstep hWb (b1 _ _)).drew hb1)) | (go_at_call 129; (first | (with_reducible refine (hO _ _ (h.later hB1) hm1).mono ?_) | (with_reducible refine (hO _ _ (h.later (bstep hB1 (b1 _ _))) (owns_later hm1 (b1 _ _))).mono ?_)); intro e' w2 ho; obtain ⟨hg2, v2, rfl, rfl, ha2⟩ := out_o ho; have hg02 : w.grownBy w2 (some b) := (by first | with_reducible exact grown_to hB1 hg2 | with_reducible exact grown_to (bstep hB1 (b1 _ _)) hg2); have hR2 : Blk w2 w.heap.size [.int .i64 0, .string ⟨#[]⟩] := (by first | with_reducible exact (hR.drew.later hb1).grown hg2 hnb | with_reducible exact ((hR.later (b1 _ _)).drew.later hb1).grown hg2 hnb | with_reducible exact ((hR.drew.later hb1).later (b1 _ _)).grown hg2 hnb); (first | (have hK : Blk w2 W.heap.size [.int .i64 0, .string ⟨#[]⟩] := (by with_reducible exact ((Blk.new W [.int .i64 0, .string ⟨#[]⟩] 70).drew.later hb1).grown hg2 hnB)) | (have hK : Blk w2 w1.heap.size [.int .i64 0, .string ⟨#[]⟩] := (by with_reducible exact (Blk.new w1 [.int .i64 0, .string ⟨#[]⟩] 70).grown hg2 (fun e => by injection e with e; have h0 := h.lt; have h1 := hB1.size; omega))) | skip); try (have k0 := hK.cell 0 _ rfl; have k1 := hK.cell 1 _ rfl; have f0 := hK.fr 0 _ rfl; have f1 := hK.fr 1 _ rfl)))
    all_goals
      go_wp2_with fail
      go_meet
      case rel =>
        first
        | exact aggCut_store h hg02 ha2 hR2 (by first | exact hR.lt | exact (hR.drew.later hb1).lt | exact ((hR.later (b1 _ _)).drew.later hb1).lt) hK
        | exact aggCut_new hg02 ha2 hR2
  case rest =>
    obtain ⟨bx, rfl, hlt, hK3, hR3, hg3, ha3⟩ := hcut
    have hnx : bx ≠ b := by have := h.lt; omega
    go_upto_region 4 with (first | (go_at_call 66; refine (hM1 _ ha3).mono ?_; intro e4 w4 ho4; obtain ⟨hg4, v4, rfl, hv4, ha4⟩ := out_o ho4; cases hv4) | (go_at_call 96; refine (hNm _ ha4).mono ?_; intro e5 w5 ho5; obtain ⟨hg5, v5, rfl, hv5, ha5⟩ := out_o ho5; cases hv5; have hK5 := (hK3.grown hg4 (fun e => hnx (by injection e))).grown hg5 (fun e => hnx (by injection e)); have hR5 := (hR3.grown hg4 (fun e => hne (by injection e))).grown hg5 (fun e => hne (by injection e)); have k1 := hK5.cell 1 _ rfl; have q1 := hK5.fr 1 _ rfl))
    refine named_wp fun W6 hW6 => ?_
    have hO6 : Only bx w5 W6 := by rw [hW6]; exact (Only.refl bx w5).setCell 1 _
    have hK6 : Blk W6 bx [.int .i64 f, .string (strOf nm)] := by rw [hW6]; exact hK5.set 1 _
    have hR6 : Blk W6 w.heap.size [.int .i64 0, .string ⟨#[]⟩] := by rw [hW6]; exact hR5.other (p := ⟨bx, 1, none⟩) (by simp only; omega) _
    have hg06 := grown_only (grown_trans (grown_trans hg3 hg4) hg5) (Nat.le_of_lt hlt) hO6
    have ha6 := at9_end h ha5 hg06 hO6 hnx
    clear hW6 k1 q1
    go_wp2_with (go_at_call 66; refine (hM2 _ ha6).mono ?_; intro e7 w7 ho7; obtain ⟨hg7, v7, rfl, hv7, ha7⟩ := out_o ho7; cases hv7; have hK7 := hK6.grown hg7 (fun e => hnx (by injection e)); have hR7 := hR6.grown hg7 (fun e => hne (by injection e)); have k0 := hK7.cell 0 _ rfl; have k1 := hK7.cell 1 _ rfl; have c0 := hR7.cell 0 _ rfl; have c1 := hR7.cell 1 _ rfl; have f0 := hR7.fr 0 _ rfl; have f1 := hR7.fr 1 _ rfl; have l1 := hR7.lt; have l2 := hK7.lt)
    refine named_post fun V hV => ?_
    obtain ⟨hVb, hVo⟩ := res_out (us := [.int .i64 f, .string (strOf nm)]) hR7 rfl hV
    have hg : w.grownBy V (some b) := grown_only (grown_trans hg06 hg7) (Nat.le_refl _) hVo
    have haV : At9 V b g r4 := at9_end h ha7 hg hVo hne
    clear hV c0 c1 f0 f1 k0 k1
    have c0 := hVb.cell 0 _ rfl
    have c1 := hVb.cell 1 _ rfl
    exact bodyPost_ret (v := .agg #[.int .i64 f, .string (strOf nm)]) (by simp [results, Tryz.results72, go_sem, c0, c1]; try rfl) rfl (out_ok hg ⟨rfl, hf⟩ haV)
theorem agg9 {w : World} {b : Nat} {g : G9} {l : List T} (h : At9 w b g l) :
    Calls Tryz.prog 72 #[.pointer (some ⟨b, 0, none⟩)] w (Out9 w b g (aggP g.e l) IsG) := by
  unfold aggP
  cases hy : oneP funsA g.e l with
  | error y => exact agg_1 h y hy
  | ok ar =>
    obtain ⟨f, r1⟩ := ar
    rw [andThen_ok]
    cases h1 : wantP g.e [40] r1 with
    | error y => exact agg_2 h f r1 hy y h1
    | ok ar =>
      obtain ⟨⟨⟩, r2⟩ := ar
      rw [andThen_ok]
      cases h2 : nameP g.e r2 with
      | error y => exact agg_3 h f r1 hy r2 y h1 h2
      | ok ar =>
        obtain ⟨nm, r3⟩ := ar
        rw [andThen_ok]
        cases h3 : wantP g.e [41] r3 with
        | error y => exact agg_4 h f r1 hy r2 r3 nm y h1 h2 h3
        | ok ar =>
          obtain ⟨⟨⟩, r4⟩ := ar
          rw [andThen_ok]
          exact agg_5 h f r1 hy r2 r3 r4 nm (one_okV (by decide) hy) h1 h2 h3
end Go.Proofs.YtdjaijhlhhnmeaaGreatDoor
