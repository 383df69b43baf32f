/- Walk: the chapter's examples. Made by program (wip/tools/gen_parR.py). -/
import Derived.Test.YtdjaijhlhhnmeaaGreatDoorParQ
namespace Go.Proofs.YtdjaijhlhhnmeaaGreatDoor
open Go.RowKit
open A8 Tk7 P9

theorem again_ofb {t s : List UInt8} (h : (match parseP t with | .ok q => queryT q == s | .error _ => false) = true) (h3 : s.length ≤ 400) : againP t = .ok s := by
  cases hx : parseP t with
  | error y => rw [hx] at h; cases h
  | ok q =>
    rw [hx] at h
    exact again_of hx (eq_of_beq h) h3
theorem kag0 (w : World) (hL : Lay w) (hE : ER w) : Calls Tryz.prog 24 #[.string ⟨#[65, 64, 123, 49, 44, 50, 125, 91, 62, 51, 44, 33, 61, 45, 49, 93, 58, 120, 123, 49, 44, 51, 125, 32, 59, 32, 110, 111, 116, 32, 67, 32, 59, 32, 40, 68, 32, 124, 32, 69, 32, 59, 32, 70, 41, 32, 119, 105, 116, 104, 105, 110, 32, 48, 32, 104, 97, 118, 105, 110, 103, 32, 115, 117, 109, 40, 120, 41, 32, 62, 61, 49, 48, 32, 101, 109, 105, 116, 32, 99, 111, 117, 110, 116, 40, 120, 41, 44, 32, 108, 97, 115, 116, 40, 120, 41]⟩, .string ⟨#[65, 64, 123, 49, 44, 50, 125, 91, 62, 51, 44, 33, 61, 45, 49, 93, 58, 120, 123, 49, 44, 51, 125, 32, 59, 32, 110, 111, 116, 32, 67, 32, 59, 32, 40, 68, 32, 124, 32, 69, 32, 59, 32, 70, 41, 32, 119, 105, 116, 104, 105, 110, 32, 48, 32, 104, 97, 118, 105, 110, 103, 32, 115, 117, 109, 40, 120, 41, 32, 62, 61, 49, 48, 32, 101, 109, 105, 116, 32, 99, 111, 117, 110, 116, 40, 120, 41, 44, 32, 108, 97, 115, 116, 40, 120, 41]⟩] w fun e w' => e = .returned (.bool true) ∧ Below w.heap.size w w' :=
  again1_any [65, 64, 123, 49, 44, 50, 125, 91, 62, 51, 44, 33, 61, 45, 49, 93, 58, 120, 123, 49, 44, 51, 125, 32, 59, 32, 110, 111, 116, 32, 67, 32, 59, 32, 40, 68, 32, 124, 32, 69, 32, 59, 32, 70, 41, 32, 119, 105, 116, 104, 105, 110, 32, 48, 32, 104, 97, 118, 105, 110, 103, 32, 115, 117, 109, 40, 120, 41, 32, 62, 61, 49, 48, 32, 101, 109, 105, 116, 32, 99, 111, 117, 110, 116, 40, 120, 41, 44, 32, 108, 97, 115, 116, 40, 120, 41] [65, 64, 123, 49, 44, 50, 125, 91, 62, 51, 44, 33, 61, 45, 49, 93, 58, 120, 123, 49, 44, 51, 125, 32, 59, 32, 110, 111, 116, 32, 67, 32, 59, 32, 40, 68, 32, 124, 32, 69, 32, 59, 32, 70, 41, 32, 119, 105, 116, 104, 105, 110, 32, 48, 32, 104, 97, 118, 105, 110, 103, 32, 115, 117, 109, 40, 120, 41, 32, 62, 61, 49, 48, 32, 101, 109, 105, 116, 32, 99, 111, 117, 110, 116, 40, 120, 41, 44, 32, 108, 97, 115, 116, 40, 120, 41] (again_ofb (by decide +kernel) (by decide)) w hL hE
theorem kag1 (w : World) (hL : Lay w) (hE : ER w) : Calls Tryz.prog 24 #[.string ⟨#[40, 40, 65, 59, 66, 41, 59, 67, 41, 119, 105, 116, 104, 105, 110, 32, 55]⟩, .string ⟨#[40, 65, 32, 59, 32, 66, 41, 32, 59, 32, 67, 32, 119, 105, 116, 104, 105, 110, 32, 55]⟩] w fun e w' => e = .returned (.bool true) ∧ Below w.heap.size w w' :=
  again1_any [40, 40, 65, 59, 66, 41, 59, 67, 41, 119, 105, 116, 104, 105, 110, 32, 55] [40, 65, 32, 59, 32, 66, 41, 32, 59, 32, 67, 32, 119, 105, 116, 104, 105, 110, 32, 55] (again_ofb (by decide +kernel) (by decide)) w hL hE
theorem kfl0 (w : World) (hL : Lay w) (hE : ER w) : Calls Tryz.prog 25 #[.string ⟨#[40, 65, 41, 32, 119, 105, 116, 104, 105, 110, 32, 48, 53]⟩, .int .i64 3, .int .i64 11] w fun e w' => e = .returned (.bool true) ∧ Below w.heap.size w w' :=
  pfault_any [40, 65, 41, 32, 119, 105, 116, 104, 105, 110, 32, 48, 53] (3, 11) rfl w hL.sg hE
theorem kfl1 (w : World) (hL : Lay w) (hE : ER w) : Calls Tryz.prog 25 #[.string ⟨#[]⟩, .int .i64 5, .int .i64 0] w fun e w' => e = .returned (.bool true) ∧ Below w.heap.size w w' :=
  pfault_any [] (5, 0) rfl w hL.sg hE
theorem kfl2 (w : World) (hL : Lay w) (hE : ER w) : Calls Tryz.prog 25 #[.string ⟨#[65, 32, 119, 105, 116, 104, 105, 110]⟩, .int .i64 5, .int .i64 8] w fun e w' => e = .returned (.bool true) ∧ Below w.heap.size w w' :=
  pfault_any [65, 32, 119, 105, 116, 104, 105, 110] (5, 8) rfl w hL.sg hE
theorem kfl3 (w : World) (hL : Lay w) (hE : ER w) : Calls Tryz.prog 25 #[.string ⟨#[65, 32, 119, 105, 116, 104, 105, 110, 32, 120]⟩, .int .i64 3, .int .i64 9] w fun e w' => e = .returned (.bool true) ∧ Below w.heap.size w w' :=
  pfault_any [65, 32, 119, 105, 116, 104, 105, 110, 32, 120] (3, 9) rfl w hL.sg hE
theorem kfl4 (w : World) (hL : Lay w) (hE : ER w) : Calls Tryz.prog 25 #[.string ⟨#[65, 58, 119, 105, 116, 104, 105, 110, 32, 119, 105, 116, 104, 105, 110, 32, 49]⟩, .int .i64 3, .int .i64 2] w fun e w' => e = .returned (.bool true) ∧ Below w.heap.size w w' :=
  pfault_any [65, 58, 119, 105, 116, 104, 105, 110, 32, 119, 105, 116, 104, 105, 110, 32, 49] (3, 2) rfl w hL.sg hE
theorem kfl5 (w : World) (hL : Lay w) (hE : ER w) : Calls Tryz.prog 25 #[.string ⟨#[65, 58, 97, 98, 99, 100, 101, 102, 103, 104, 105, 32, 119, 105, 116, 104, 105, 110, 32, 49]⟩, .int .i64 12, .int .i64 2] w fun e w' => e = .returned (.bool true) ∧ Below w.heap.size w w' :=
  pfault_any [65, 58, 97, 98, 99, 100, 101, 102, 103, 104, 105, 32, 119, 105, 116, 104, 105, 110, 32, 49] (12, 2) rfl w hL.sg hE
theorem kfl6 (w : World) (hL : Lay w) (hE : ER w) : Calls Tryz.prog 25 #[.string ⟨#[65, 64, 123, 54, 52, 125, 32, 119, 105, 116, 104, 105, 110, 32, 49]⟩, .int .i64 2, .int .i64 3] w fun e w' => e = .returned (.bool true) ∧ Below w.heap.size w w' :=
  pfault_any [65, 64, 123, 54, 52, 125, 32, 119, 105, 116, 104, 105, 110, 32, 49] (2, 3) rfl w hL.sg hE
theorem kfl7 (w : World) (hL : Lay w) (hE : ER w) : Calls Tryz.prog 25 #[.string ⟨#[65, 64, 123, 50, 44, 50, 125, 32, 119, 105, 116, 104, 105, 110, 32, 49]⟩, .int .i64 9, .int .i64 5] w fun e w' => e = .returned (.bool true) ∧ Below w.heap.size w w' :=
  pfault_any [65, 64, 123, 50, 44, 50, 125, 32, 119, 105, 116, 104, 105, 110, 32, 49] (9, 5) rfl w hL.sg hE
theorem kfl8 (w : World) (hL : Lay w) (hE : ER w) : Calls Tryz.prog 25 #[.string ⟨#[65, 123, 49, 44, 49, 48, 48, 125, 32, 119, 105, 116, 104, 105, 110, 32, 49]⟩, .int .i64 2, .int .i64 4] w fun e w' => e = .returned (.bool true) ∧ Below w.heap.size w w' :=
  pfault_any [65, 123, 49, 44, 49, 48, 48, 125, 32, 119, 105, 116, 104, 105, 110, 32, 49] (2, 4) rfl w hL.sg hE
theorem kfl9 (w : World) (hL : Lay w) (hE : ER w) : Calls Tryz.prog 25 #[.string ⟨#[65, 32, 119, 105, 116, 104, 105, 110, 32, 49, 48, 48, 48, 48, 48]⟩, .int .i64 2, .int .i64 9] w fun e w' => e = .returned (.bool true) ∧ Below w.heap.size w w' :=
  pfault_any [65, 32, 119, 105, 116, 104, 105, 110, 32, 49, 48, 48, 48, 48, 48] (2, 9) rfl w hL.sg hE
/-- The pattern of the examples, in memory. -/
theorem kpat {w' : World} {T : Tr} (hw : TrW w' T) (hT : T.nd = .mk 4 0 0 noA [.mk 1 1 1 noA [], .mk 1 1 1 ⟨1, false, 0, [], []⟩ []]) :
    ∃ (mn mx kd bn : Int) (bd : Bool) (nm : List UInt8) (qA : Option Addr) (qn qc : Nat) (rA : Option Addr) (rc : Nat), T.row = [.int .i64 4, .int .i64 mn, .int .i64 mx, .int .i64 kd, .bool bd, .int .u64 bn, .slice qA qn qc, .string (strOf nm), .slice rA 2 rc] := by
  obtain ⟨k, mn, mx, ⟨⟨kd, bd, bn, cs, nm⟩, sc⟩, sk, ks⟩ := T
  rw [nd_mk] at hT
  have h1 : k = 4 := by injection hT
  have h2 : ks.length = 2 := by
    have h3 : ks.map Tr.nd = [.mk 1 1 1 noA [], .mk 1 1 1 ⟨1, false, 0, [], []⟩ []] := by injection hT
    have := congrArg List.length h3
    simpa using this
  obtain ⟨-, ⟨-, h4⟩, h5⟩ := hw.one
  obtain ⟨qA, qn, qc, hq⟩ := sl_form h4
  obtain ⟨rA, rc, hr, -, -⟩ := sl_get (by decide) h5
  simp only at hq hr
  subst hq hr h1
  refine ⟨mn, mx, kd, bn, bd, nm, qA, qn, qc, rA, rc, ?_⟩
  rw [← h2]
  rfl
theorem katm {w' : World} {G : GA} (hw : OneA w' G) (hG : G.a = ⟨0, false, 0, [], [120]⟩) : ∃ (pA : Option Addr) (pn pc : Nat), gaC G = [.int .i64 0, .bool false, .int .u64 0, .slice pA pn pc, .string ⟨#[120]⟩] := by
  obtain ⟨a, sc⟩ := G
  simp only at hG
  subst hG
  obtain ⟨pA, pn, pc, hq⟩ := sl_form hw.2
  simp only at hq
  subst hq
  exact ⟨pA, pn, pc, rfl⟩
set_option maxRecDepth 100000 in
set_option maxHeartbeats 8000000 in
theorem known_any (w : World) (hL : Lay w) (hE : ER w) : Calls Tryz.prog 5 #[] w fun e w' => e = .returned (.bool true) ∧ Below w.heap.size w w' := by
  have hA := fun w' (hb : Below w.heap.size w w') => awake_any9 w' (hL.later hb) (hE.later hb)
  have hKG0 := fun w' (hb : Below w.heap.size w w') => kag0 w' (hL.later hb) (hE.later hb)
  have hKG1 := fun w' (hb : Below w.heap.size w w') => kag1 w' (hL.later hb) (hE.later hb)
  have hF0 := fun w' (hb : Below w.heap.size w w') => kfl0 w' (hL.later hb) (hE.later hb)
  have hF1 := fun w' (hb : Below w.heap.size w w') => kfl1 w' (hL.later hb) (hE.later hb)
  have hF2 := fun w' (hb : Below w.heap.size w w') => kfl2 w' (hL.later hb) (hE.later hb)
  have hF3 := fun w' (hb : Below w.heap.size w w') => kfl3 w' (hL.later hb) (hE.later hb)
  have hF4 := fun w' (hb : Below w.heap.size w w') => kfl4 w' (hL.later hb) (hE.later hb)
  have hF5 := fun w' (hb : Below w.heap.size w w') => kfl5 w' (hL.later hb) (hE.later hb)
  have hF6 := fun w' (hb : Below w.heap.size w w') => kfl6 w' (hL.later hb) (hE.later hb)
  have hF7 := fun w' (hb : Below w.heap.size w w') => kfl7 w' (hL.later hb) (hE.later hb)
  have hF8 := fun w' (hb : Below w.heap.size w w') => kfl8 w' (hL.later hb) (hE.later hb)
  have hF9 := fun w' (hb : Below w.heap.size w w') => kfl9 w' (hL.later hb) (hE.later hb)
  have hP0 := fun w' (hb : Below w.heap.size w w') => (show Calls Tryz.prog 18 #[.string ⟨#[65, 124, 66]⟩] w' (RdQ w' (.ok (.mk 4 0 0 noA [.mk 1 1 1 noA [], .mk 1 1 1 ⟨1, false, 0, [], []⟩ []])) ndZ Tr.nd TrW Tr.row) from parsep_any [65, 124, 66] w' (hL.sg.later hb) (hE.later hb))
  have hP1 := fun w' (hb : Below w.heap.size w w') => (show Calls Tryz.prog 18 #[.string ⟨#[65, 32, 119, 105, 116, 104, 105, 110, 32, 49]⟩] w' (RdQ w' (.error (3, 2)) ndZ Tr.nd TrW Tr.row) from parsep_any [65, 32, 119, 105, 116, 104, 105, 110, 32, 49] w' (hL.sg.later hb) (hE.later hb))
  have hP2 := fun w' (hb : Below w.heap.size w w') => (show Calls Tryz.prog 20 #[.string ⟨#[65, 58, 120]⟩] w' (RdQ w' (.ok ⟨0, false, 0, [], [120]⟩) atZ (fun g => g.a) OneA gaC) from parsea_any [65, 58, 120] w' (hL.sg.later hb) (hE.later hb))
  have hP3 := fun w' (hb : Below w.heap.size w w') => (show Calls Tryz.prog 20 #[.string ⟨#[65, 123, 49, 44, 50, 125]⟩] w' (RdQ w' (.error (3, 1)) atZ (fun g => g.a) OneA gaC) from parsea_any [65, 123, 49, 44, 50, 125] w' (hL.sg.later hb) (hE.later hb))
  clear hL hE
  go_enter Tryz.func5, Tryz.ntmps5
  go_upto_region 3 with (go_at_call 18; refine (hP0 _ (Below.refl _ _)).mono ?_; rintro e v0 ⟨hv0, -, ho0⟩; obtain ⟨G0, hG0, hw0, rfl⟩ := ho0 _ rfl; obtain ⟨mn, mx, kd, bn, bd, nm, qA, qn, qc, rA, rc, hrow⟩ := kpat hw0 hG0; rw [hrow]; unfold ftV)
  refine named_wp fun W0 hW0 => ?_
  have hc0 : Below v0.heap.size v0 W0 := by rw [hW0]; exact b2 _ _ _
  have hx0 := bstep hv0 hc0
  have hB0 := bstep (Below.refl _ _) hx0
  have hR0 : Blk W0 v0.heap.size [.int .i64 4, .int .i64 mn, .int .i64 mx, .int .i64 kd, .bool bd, .int .u64 bn, .slice qA qn qc, .string (strOf nm), .slice rA 2 rc] := by rw [hW0]; exact (Blk.is (us := [.int .i64 4, .int .i64 mn, .int .i64 mx, .int .i64 kd, .bool bd, .int .u64 bn, .slice qA qn qc, .string (strOf nm), .slice rA 2 rc]) _ rfl).alloc _
  have hY0 : Blk W0 (v0.heap.size + 1) [.int .i64 0, .int .i64 0] := by rw [hW0]; exact Blk.is (us := [.int .i64 0, .int .i64 0]) _ (by simp)
  clear hW0 hc0 hv0 hP0
  go_upto_region 4 with (go_at_call 18; refine (hP1 _ hB0).mono ?_; rintro e v1 ⟨hv1, ho1, -⟩; obtain rfl := ho1 _ rfl; unfold ftV)
  refine named_wp fun W1 hW1 => ?_
  have hc1 : Below v1.heap.size v1 W1 := by rw [hW1]; exact b2 _ _ _
  have hx1 := bstep hv1 hc1
  have hB1 := bstep hB0 hx1
  have hY1 : Blk W1 (v1.heap.size + 1) [.int .i64 3, .int .i64 2] := by rw [hW1]; exact Blk.is (us := [.int .i64 3, .int .i64 2]) _ (by simp)
  clear hW1 hc1 hv1 hP1
  go_upto_region 5 with (go_at_call 20; refine (hP2 _ hB1).mono ?_; rintro e v2 ⟨hv2, -, ho2⟩; obtain ⟨G2, hG2, hw2, rfl⟩ := ho2 _ rfl; obtain ⟨pA, pn, pc, hrow2⟩ := katm hw2 hG2; rw [hrow2]; unfold ftV)
  refine named_wp fun W2 hW2 => ?_
  have hc2 : Below v2.heap.size v2 W2 := by rw [hW2]; exact b2 _ _ _
  have hx2 := bstep hv2 hc2
  have hB2 := bstep hB1 hx2
  have hR2 : Blk W2 v2.heap.size [.int .i64 0, .bool false, .int .u64 0, .slice pA pn pc, .string ⟨#[120]⟩] := by rw [hW2]; exact (Blk.is (us := [.int .i64 0, .bool false, .int .u64 0, .slice pA pn pc, .string ⟨#[120]⟩]) _ rfl).alloc _
  have hY2 : Blk W2 (v2.heap.size + 1) [.int .i64 0, .int .i64 0] := by rw [hW2]; exact Blk.is (us := [.int .i64 0, .int .i64 0]) _ (by simp)
  clear hW2 hc2 hv2 hP2
  go_upto_region 6 with (go_at_call 20; refine (hP3 _ hB2).mono ?_; rintro e v3 ⟨hv3, ho3, -⟩; obtain rfl := ho3 _ rfl; unfold ftV)
  refine named_wp fun W3 hW3 => ?_
  have hc3 : Below v3.heap.size v3 W3 := by rw [hW3]; exact b2 _ _ _
  have hx3 := bstep hv3 hc3
  have hB3 := bstep hB2 hx3
  have hY3 : Blk W3 (v3.heap.size + 1) [.int .i64 3, .int .i64 1] := by rw [hW3]; exact Blk.is (us := [.int .i64 3, .int .i64 1]) _ (by simp)
  clear hW3 hc3 hv3 hP3
  replace hR0 := ((hR0.later hx1).later hx2).later hx3
  replace hY0 := ((hY0.later hx1).later hx2).later hx3
  replace hY1 := (hY1.later hx2).later hx3
  replace hR2 := hR2.later hx3
  replace hY2 := hY2.later hx3
  have hB := hB3
  have h6 := Below.refl W3.heap.size W3
  clear hx0 hx1 hx2 hx3 hB0 hB1 hB2 hB3
  go_upto_region 9 with (first | (go_at_call 24; with_reducible refine (hKG0 _ hB).mono ?_; rintro e w' ⟨rfl, hb⟩; clear hKG0; replace hB := bstep hB hb; replace h6 := bstep h6 hb; clear hb) | (go_at_call 24; with_reducible refine (hKG1 _ hB).mono ?_; rintro e w' ⟨rfl, hb⟩; clear hKG1; replace hB := bstep hB hb; replace h6 := bstep h6 hb; clear hb) | (go_at_call 25; with_reducible refine (hF0 _ hB).mono ?_; rintro e w' ⟨rfl, hb⟩; clear hF0; replace hB := bstep hB hb; replace h6 := bstep h6 hb; clear hb) | (go_at_call 25; with_reducible refine (hF1 _ hB).mono ?_; rintro e w' ⟨rfl, hb⟩; clear hF1; replace hB := bstep hB hb; replace h6 := bstep h6 hb; clear hb) | (go_at_call 25; with_reducible refine (hF2 _ hB).mono ?_; rintro e w' ⟨rfl, hb⟩; clear hF2; replace hB := bstep hB hb; replace h6 := bstep h6 hb; clear hb) | (go_at_call 25; with_reducible refine (hF3 _ hB).mono ?_; rintro e w' ⟨rfl, hb⟩; clear hF3; replace hB := bstep hB hb; replace h6 := bstep h6 hb; clear hb) | (go_at_call 25; with_reducible refine (hF4 _ hB).mono ?_; rintro e w' ⟨rfl, hb⟩; clear hF4; replace hB := bstep hB hb; replace h6 := bstep h6 hb; clear hb) | (go_at_call 25; with_reducible refine (hF5 _ hB).mono ?_; rintro e w' ⟨rfl, hb⟩; clear hF5; replace hB := bstep hB hb; replace h6 := bstep h6 hb; clear hb) | (go_at_call 25; with_reducible refine (hF6 _ hB).mono ?_; rintro e w' ⟨rfl, hb⟩; clear hF6; replace hB := bstep hB hb; replace h6 := bstep h6 hb; clear hb) | (go_at_call 25; with_reducible refine (hF7 _ hB).mono ?_; rintro e w' ⟨rfl, hb⟩; clear hF7; replace hB := bstep hB hb; replace h6 := bstep h6 hb; clear hb) | (go_at_call 25; with_reducible refine (hF8 _ hB).mono ?_; rintro e w' ⟨rfl, hb⟩; clear hF8; replace hB := bstep hB hb; replace h6 := bstep h6 hb; clear hb) | (go_at_call 25; with_reducible refine (hF9 _ hB).mono ?_; rintro e w' ⟨rfl, hb⟩; clear hF9; replace hB := bstep hB hb; replace h6 := bstep h6 hb; clear hb))
  have k0 := (hR0.later h6).cell 0 _ rfl
  have k8 := (hR0.later h6).cell 8 _ rfl
  have a0 := (hR2.later h6).cell 0 _ rfl
  have a4 := (hR2.later h6).cell 4 _ rfl
  have x0 := (hY0.later h6).cell 0 _ rfl
  have y0 := (hY0.later h6).cell 1 _ rfl
  have x1 := (hY1.later h6).cell 0 _ rfl
  have y1 := (hY1.later h6).cell 1 _ rfl
  have x2 := (hY2.later h6).cell 0 _ rfl
  have y2 := (hY2.later h6).cell 1 _ rfl
  have x3 := (hY3.later h6).cell 0 _ rfl
  have y3 := (hY3.later h6).cell 1 _ rfl
  clear hR0 hR2 hY0 hY1 hY2 hY3 h6
  go_upto_region 10 with fail
  go_wp2_with (go_at_call 10; refine (hA _ (by first | exact hB | exact hB.drew | exact hB.drew.drew)).mono ?_; rintro e w8 ⟨rfl, hb8⟩)
  go_ret
  exact ⟨rfl, bstep (by first | exact hB | exact hB.drew | exact hB.drew.drew) hb8⟩
end Go.Proofs.YtdjaijhlhhnmeaaGreatDoor
