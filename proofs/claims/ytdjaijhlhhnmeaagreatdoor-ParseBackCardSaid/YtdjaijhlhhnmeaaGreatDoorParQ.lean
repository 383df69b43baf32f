/- Walks: the laws' small parts: fault, again, shown, awake. Made by program (wip/tools/gen_parQ.py). -/
import Derived.Test.YtdjaijhlhhnmeaaGreatDoorParP
import Derived.Test.YtdjaijhlhhnmeaaGreatDoorParSk
namespace Go.Proofs.YtdjaijhlhhnmeaaGreatDoor
open Go.RowKit
open A8 Tk7 P9

theorem again_of {t s : List UInt8} {q : Qu} (h1 : parseP t = .ok q) (h2 : queryT q = s) (h3 : s.length ≤ 400) : againP t = .ok s := by
  unfold againP
  rw [h1]
  simp only
  rw [h2, if_pos h3]
def gqZ : GQ := ⟨.mk 0 0 0 ga0 (.slice none 0 0) [], 0, .slice none 0 0, [], .slice none 0 0, []⟩
theorem qw_Z (w : World) : QW w gqZ := by
  refine ⟨fun t ht => ?_, by decide, Sl.nil w 4, Sl.nil w 2, (fun h hh => by cases hh), (fun a ha => by cases ha)⟩
  have : t = .mk 0 0 0 ga0 (.slice none 0 0) [] := by
    have h : t ∈ [Tr.mk 0 0 0 ga0 (.slice none 0 0) []] := ht
    simpa using h
  subst this
  exact ⟨by unfold okV; decide, one0 w, Sl.nil w 9⟩
theorem zsame (w : World) : Calls Tryz.prog 15 #[.agg #[.int .i64 0, .int .i64 0, .int .i64 0, .int .i64 0, .bool false, .int .u64 0, .slice none 0 0, .string ⟨#[]⟩, .slice none 0 0, .int .u64 0, .slice none 0 0, .slice none 0 0], .agg #[.int .i64 0, .int .i64 0, .int .i64 0, .int .i64 0, .bool false, .int .u64 0, .slice none 0 0, .string ⟨#[]⟩, .slice none 0 0, .int .u64 0, .slice none 0 0, .slice none 0 0]] w fun e w' => e = .returned (.bool true) ∧ Below w.heap.size w w' := by
  have h := ksameq_any gqZ gqZ w (qw_Z w) (qw_Z w)
  rw [sameQ_refl] at h
  exact h
set_option maxRecDepth 100000 in
set_option maxHeartbeats 2000000 in
theorem pfault_any (t : List UInt8) (y : F) (hx : parseP t = .error y) (w : World) (hG : SG w) (hE : ER w) :
    Calls Tryz.prog 25 #[.string (strOf t), .int .i64 y.1, .int .i64 (y.2 : Int)] w fun e w' => e = .returned (.bool true) ∧ Below w.heap.size w w' := by
  have hQ := parse_any t w hG hE
  rw [hx] at hQ
  clear hx
  go_enter Tryz.func25, Tryz.ntmps25
  go_wp2_with (first | (go_at_call 11; refine hQ.mono ?_; rintro e w3 ⟨hb3, he3, -⟩; obtain rfl := he3 y rfl; unfold ftV) | (go_at_call 15; refine (zsame _).mono ?_; rintro e w4 ⟨rfl, hb4⟩; have hY := (Blk.is (b := w3.heap.size + 1) (us := [.int .i64 y.1, .int .i64 (y.2 : Int)]) 36 (by simp)).later hb4; have c0 := hY.cell 0 _ rfl; have c1 := hY.cell 1 _ rfl))
  go_ret
  exact ⟨rfl, bstep hb3 (bstep (b2 _ _ _) hb4)⟩
set_option maxRecDepth 100000 in
set_option maxHeartbeats 2000000 in
theorem again1_any (t s : List UInt8) (hx : againP t = .ok s) (w : World) (hL : Lay w) (hE : ER w) :
    Calls Tryz.prog 24 #[.string (strOf t), .string (strOf s)] w fun e w' => e = .returned (.bool true) ∧ Below w.heap.size w w' := by
  have hQ := again_any t w hL hE
  unfold AgR at hQ
  rw [hx] at hQ
  clear hx
  go_enter Tryz.func24, Tryz.ntmps24
  go_wp2_with (go_at_call 13; refine hQ.mono ?_; rintro e w3 ⟨hb3, -, ho3⟩; obtain rfl := ho3 s rfl; unfold ftV)
  go_ret
  exact ⟨rfl, bstep hb3 (b1 _ _)⟩
set_option maxRecDepth 100000 in
theorem single_any (kd bn : Int) (bd : Bool) (A : Option Addr) (n c : Nat) (nm : ByteArray) (w : World) : Calls Tryz.prog 23 #[.agg #[.int .i64 kd, .bool bd, .int .u64 bn, .slice A n c, .string nm]] w fun e w' => e = .returned (.agg #[.int .i64 1, .int .i64 1, .int .i64 1, .int .i64 kd, .bool bd, .int .u64 bn, .slice A n c, .string nm, .slice none 0 0]) ∧ Below w.heap.size w w' := by
  go_enter Tryz.func23, Tryz.ntmps23
  go_wp2
  refine bodyPost_ret (by simp [results, Tryz.results23, go_sem]; try rfl) rfl ?_
  exact ⟨rfl, b2 _ _ _⟩
/-- The law's query, its kids in this block. -/
def gqS (b : Nat) : GQ := ⟨.mk 3 0 0 ga0 (.slice (some ⟨b, 0, none⟩) 2 2) [.mk 1 1 1 ga0 (.slice none 0 0) [], .mk 1 1 1 ⟨⟨1, false, 0, [], []⟩, .slice none 0 0⟩ (.slice none 0 0) []], 5, .slice none 0 0, [], .slice none 0 0, []⟩
abbrev nodes18 : List Value := [.int .i64 1, .int .i64 1, .int .i64 1, .int .i64 0, .bool false, .int .u64 0, .slice none 0 0, .string ⟨#[]⟩, .slice none 0 0, .int .i64 1, .int .i64 1, .int .i64 1, .int .i64 1, .bool false, .int .u64 0, .slice none 0 0, .string ⟨#[]⟩, .slice none 0 0]
theorem qw_S {w : World} {b : Nat} (h : Blk w b nodes18) : QW w (gqS b) := by
  refine ⟨fun t ht => ?_, ⟨by show (0 : Int) ≤ 5; decide, by show (5 : Int) < _; decide⟩, Sl.nil w 4, Sl.nil w 2, (fun h hh => by cases hh), (fun a ha => by cases ha)⟩
  have hb : OneA w ⟨⟨1, false, 0, [], []⟩, .slice none 0 0⟩ := ⟨⟨by unfold okV; decide, by decide, (fun c h => by cases h), by unfold maxLen; decide⟩, Sl.nil w 2⟩
  have h1 : t ∈ [Tr.mk 3 0 0 ga0 (.slice (some ⟨b, 0, none⟩) 2 2) [.mk 1 1 1 ga0 (.slice none 0 0) [], .mk 1 1 1 ⟨⟨1, false, 0, [], []⟩, .slice none 0 0⟩ (.slice none 0 0) []], Tr.mk 1 1 1 ga0 (.slice none 0 0) [], Tr.mk 1 1 1 ⟨⟨1, false, 0, [], []⟩, .slice none 0 0⟩ (.slice none 0 0) []] := ht
  simp only [List.mem_cons, List.not_mem_nil, or_false] at h1
  rcases h1 with rfl | rfl | rfl
  · exact ⟨by unfold okV; decide, one0 w, Sl.lit h 9 2 rfl (by decide)⟩
  · exact ⟨by unfold okV; decide, one0 w, Sl.nil w 9⟩
  · exact ⟨by unfold okV; decide, hb, Sl.nil w 9⟩
set_option maxRecDepth 100000 in
set_option maxHeartbeats 2000000 in
theorem shown_any (w : World) : Calls Tryz.prog 33 #[] w fun e w' => ∃ b, e = .returned (.agg #[.int .i64 3, .int .i64 0, .int .i64 0, .int .i64 0, .bool false, .int .u64 0, .slice none 0 0, .string ⟨#[]⟩, .slice (some ⟨b, 0, none⟩) 2 2, .int .u64 5, .slice none 0 0, .slice none 0 0]) ∧ QW w' (gqS b) ∧ Below w.heap.size w w' := by
  obtain ⟨W, hWW⟩ : ∃ W, W = w.alloc (.cells #[.int .i64 0, .int .i64 0, .int .i64 0, .int .i64 0, .bool false, .int .u64 0, .slice none 0 0, .string ⟨#[]⟩, .slice none 0 0, .int .u64 0, .slice none 0 0, .slice none 0 0] 33) := ⟨_, rfl⟩
  have hB : Below w.heap.size w W := hWW ▸ b1 _ _
  have hR : Blk W w.heap.size [.int .i64 0, .int .i64 0, .int .i64 0, .int .i64 0, .bool false, .int .u64 0, .slice none 0 0, .string ⟨#[]⟩, .slice none 0 0, .int .u64 0, .slice none 0 0, .slice none 0 0] := by rw [hWW]; exact Blk.is (us := [.int .i64 0, .int .i64 0, .int .i64 0, .int .i64 0, .bool false, .int .u64 0, .slice none 0 0, .string ⟨#[]⟩, .slice none 0 0, .int .u64 0, .slice none 0 0, .slice none 0 0]) _ rfl
  go_enter Tryz.func33, Tryz.ntmps33
  go_upto_region 1 with fail
  rw [← hWW]
  clear hWW
  have hFirst : True := trivial
  go_wp2_with (first | (go_at_call 23; clear hFirst; refine (single_any _ _ _ _ _ _ _ _).mono ?_; rintro e w2 ⟨rfl, hb2⟩; replace hR := hR.later hb2; replace hB := bstep hB hb2; clear hb2) | (go_at_call 23; refine (single_any _ _ _ _ _ _ _ _).mono ?_; rintro e w3 ⟨rfl, hb3⟩; replace hR := hR.later hb3; replace hB := bstep hB hb3; clear hb3; have hRA : Blk (w3.alloc (.cells #[.int .i64 1, .int .i64 1, .int .i64 1, .int .i64 0, .bool false, .int .u64 0, .slice none 0 0, .string ⟨#[]⟩, .slice none 0 0, .int .i64 1, .int .i64 1, .int .i64 1, .int .i64 1, .bool false, .int .u64 0, .slice none 0 0, .string ⟨#[]⟩, .slice none 0 0] 29)) w.heap.size [.int .i64 0, .int .i64 0, .int .i64 0, .int .i64 0, .bool false, .int .u64 0, .slice none 0 0, .string ⟨#[]⟩, .slice none 0 0, .int .u64 0, .slice none 0 0, .slice none 0 0] := hR.alloc _; have c0 := hRA.cell 0 _ rfl; have f0 := hRA.fr 0 _ rfl; have c1 := hRA.cell 1 _ rfl; have f1 := hRA.fr 1 _ rfl; have c2 := hRA.cell 2 _ rfl; have f2 := hRA.fr 2 _ rfl; have c3 := hRA.cell 3 _ rfl; have f3 := hRA.fr 3 _ rfl; have c4 := hRA.cell 4 _ rfl; have f4 := hRA.fr 4 _ rfl; have c5 := hRA.cell 5 _ rfl; have f5 := hRA.fr 5 _ rfl; have c6 := hRA.cell 6 _ rfl; have f6 := hRA.fr 6 _ rfl; have c7 := hRA.cell 7 _ rfl; have f7 := hRA.fr 7 _ rfl; have c8 := hRA.cell 8 _ rfl; have f8 := hRA.fr 8 _ rfl; have c9 := hRA.cell 9 _ rfl; have f9 := hRA.fr 9 _ rfl; have c10 := hRA.cell 10 _ rfl; have f10 := hRA.fr 10 _ rfl; have c11 := hRA.cell 11 _ rfl; have f11 := hRA.fr 11 _ rfl))
  refine named_post fun V hV => ?_
  have hN : Blk (w3.alloc (.cells #[.int .i64 1, .int .i64 1, .int .i64 1, .int .i64 0, .bool false, .int .u64 0, .slice none 0 0, .string ⟨#[]⟩, .slice none 0 0, .int .i64 1, .int .i64 1, .int .i64 1, .int .i64 1, .bool false, .int .u64 0, .slice none 0 0, .string ⟨#[]⟩, .slice none 0 0] 29)) w3.heap.size nodes18 := Blk.is (us := nodes18) _ rfl
  have hlt := hR.lt
  have hbA : Below w3.heap.size w3 (w3.alloc (.cells #[.int .i64 1, .int .i64 1, .int .i64 1, .int .i64 0, .bool false, .int .u64 0, .slice none 0 0, .string ⟨#[]⟩, .slice none 0 0, .int .i64 1, .int .i64 1, .int .i64 1, .int .i64 1, .bool false, .int .u64 0, .slice none 0 0, .string ⟨#[]⟩, .slice none 0 0] 29)) := b1 _ _
  obtain ⟨WA, hWA⟩ : ∃ WA, WA = w3.alloc (.cells #[.int .i64 1, .int .i64 1, .int .i64 1, .int .i64 0, .bool false, .int .u64 0, .slice none 0 0, .string ⟨#[]⟩, .slice none 0 0, .int .i64 1, .int .i64 1, .int .i64 1, .int .i64 1, .bool false, .int .u64 0, .slice none 0 0, .string ⟨#[]⟩, .slice none 0 0] 29) := ⟨_, rfl⟩
  rw [← hWA] at hV hRA hN hbA
  obtain ⟨h1, h2⟩ : Blk V w.heap.size [.int .i64 3, .int .i64 0, .int .i64 0, .int .i64 0, .bool false, .int .u64 0, .slice none 0 0, .string ⟨#[]⟩, .slice (some ⟨w3.heap.size, 0, none⟩) 2 2, .int .u64 5, .slice none 0 0, .slice none 0 0] ∧ Only w.heap.size WA V := by
    have h3 := res_out hRA (us := [.int .i64 3, .int .i64 0, .int .i64 0, .int .i64 0, .bool false, .int .u64 0, .slice none 0 0, .string ⟨#[]⟩, .slice (some ⟨w3.heap.size, 0, none⟩) 2 2, .int .u64 5, .slice none 0 0, .slice none 0 0]) rfl rfl
    rcases (show V = (fillW WA w.heap.size 0 [.int .i64 3, .int .i64 0, .int .i64 0, .int .i64 0, .bool false, .int .u64 0, .slice none 0 0, .string ⟨#[]⟩, .slice (some ⟨w3.heap.size, 0, none⟩) 2 2, .int .u64 5, .slice none 0 0, .slice none 0 0]) ∨ V = (fillW WA w.heap.size 0 [.int .i64 3, .int .i64 0, .int .i64 0, .int .i64 0, .bool false, .int .u64 0, .slice none 0 0, .string ⟨#[]⟩, .slice (some ⟨w3.heap.size, 0, none⟩) 2 2, .int .u64 5, .slice none 0 0, .slice none 0 0]).drew by first | exact .inl hV | exact .inr hV) with rfl | rfl
    · exact h3
    · exact ⟨h3.1.drew, h3.2.drewN 1⟩
  have hNV := only_blk hN h2 (by omega)
  clear hV hWA c0 c1 c2 c3 c4 c5 c6 c7 c8 c9 c10 c11 f0 f1 f2 f3 f4 f5 f6 f7 f8 f9 f10 f11
  have c0 := h1.cell 0 _ rfl
  have c1 := h1.cell 1 _ rfl
  have c2 := h1.cell 2 _ rfl
  have c3 := h1.cell 3 _ rfl
  have c4 := h1.cell 4 _ rfl
  have c5 := h1.cell 5 _ rfl
  have c6 := h1.cell 6 _ rfl
  have c7 := h1.cell 7 _ rfl
  have c8 := h1.cell 8 _ rfl
  have c9 := h1.cell 9 _ rfl
  have c10 := h1.cell 10 _ rfl
  have c11 := h1.cell 11 _ rfl
  exact bodyPost_ret (v := .agg #[.int .i64 3, .int .i64 0, .int .i64 0, .int .i64 0, .bool false, .int .u64 0, .slice none 0 0, .string ⟨#[]⟩, .slice (some ⟨w3.heap.size, 0, none⟩) 2 2, .int .u64 5, .slice none 0 0, .slice none 0 0]) (by simp [results, Tryz.results33, go_sem, c0, c1, c2, c3, c4, c5, c6, c7, c8, c9, c10, c11]; try rfl) rfl ⟨w3.heap.size, rfl, qw_S hNV, (bstep hB hbA).trans h2.below⟩
set_option maxRecDepth 100000 in
set_option maxHeartbeats 4000000 in
theorem awake_any9 (w : World) (hL : Lay w) (hE : ER w) : Calls Tryz.prog 10 #[] w fun e w' => e = .returned (.bool true) ∧ Below w.heap.size w w' := by
  have hQ : Calls Tryz.prog 11 #[.string ⟨#[65, 59, 66, 32, 119, 105, 116, 104, 105, 110, 32, 53]⟩] w (RdQ w (.ok ⟨.mk 3 0 0 noA [.mk 1 1 1 noA [], .mk 1 1 1 ⟨1, false, 0, [], []⟩ []], 5, [], []⟩) quZ GQ.qu QW GQ.row) := parse_any [65, 59, 66, 32, 119, 105, 116, 104, 105, 110, 32, 53] w hL.sg hE
  have hS := fun (G : GQ) (hG : G.qu = ⟨.mk 3 0 0 noA [.mk 1 1 1 noA [], .mk 1 1 1 ⟨1, false, 0, [], []⟩ []], 5, [], []⟩) (b : Nat) (w' : World) (h1 : QW w' G) (h2 : QW w' (gqS b)) => (show Calls Tryz.prog 15 #[.agg G.row.toArray, .agg #[.int .i64 3, .int .i64 0, .int .i64 0, .int .i64 0, .bool false, .int .u64 0, .slice none 0 0, .string ⟨#[]⟩, .slice (some ⟨b, 0, none⟩) 2 2, .int .u64 5, .slice none 0 0, .slice none 0 0]] w' fun e w'' => e = .returned (.bool true) ∧ Below w'.heap.size w' w'' from by
    have h := ksameq_any G (gqS b) w' h1 h2
    rw [hG, show (gqS b).qu = ⟨.mk 3 0 0 noA [.mk 1 1 1 noA [], .mk 1 1 1 ⟨1, false, 0, [], []⟩ []], 5, [], []⟩ from rfl, sameQ_refl] at h
    exact h)
  have hA := fun w' (hb : Below w.heap.size w w') => (show Calls Tryz.prog 24 #[.string ⟨#[65, 123, 49, 44, 49, 125, 32, 119, 105, 116, 104, 105, 110, 32, 49]⟩, .string ⟨#[65, 32, 119, 105, 116, 104, 105, 110, 32, 49]⟩] w' fun e w'' => e = .returned (.bool true) ∧ Below w'.heap.size w' w'' from again1_any [65, 123, 49, 44, 49, 125, 32, 119, 105, 116, 104, 105, 110, 32, 49] [65, 32, 119, 105, 116, 104, 105, 110, 32, 49] (again_of (q := ⟨.mk 1 1 1 noA [], 1, [], []⟩) rfl (by decide +kernel) (by decide)) w' (hL.later hb) (hE.later hb))
  have hF1 := fun w' (hb : Below w.heap.size w w') => (show Calls Tryz.prog 25 #[.string ⟨#[65]⟩, .int .i64 5, .int .i64 1] w' fun e w'' => e = .returned (.bool true) ∧ Below w'.heap.size w' w'' from pfault_any [65] (5, 1) rfl w' (hL.sg.later hb) (hE.later hb))
  have hF2 := fun w' (hb : Below w.heap.size w w') => (show Calls Tryz.prog 25 #[.string ⟨#[65, 32, 66, 32, 119, 105, 116, 104, 105, 110, 32, 49]⟩, .int .i64 3, .int .i64 2] w' fun e w'' => e = .returned (.bool true) ∧ Below w'.heap.size w' w'' from pfault_any [65, 32, 66, 32, 119, 105, 116, 104, 105, 110, 32, 49] (3, 2) rfl w' (hL.sg.later hb) (hE.later hb))
  go_enter Tryz.func10, Tryz.ntmps10
  go_upto_region 2 with (go_at_call 11; refine hQ.mono ?_; rintro e w3 ⟨hb3, -, ho3⟩; obtain ⟨⟨⟨k, mn, mx, ⟨⟨kd, bd, bn, cs, nm⟩, sc⟩, sk, ks⟩, wi, sh, hv, se, em⟩, hG, hGq, rfl⟩ := ho3 _ rfl; obtain ⟨⟨qA, qn, qc, rfl⟩, ⟨rA, rn, rc, rfl⟩⟩ := tr_form (show ndK.E _ _ from hGq.tr); obtain ⟨sA, sn, sc, rfl⟩ := sl_form hGq.hv; obtain ⟨uA, un, uc, rfl⟩ := sl_form hGq.em; have hS3 := hS _ hG; simp only [qrow9] at hS3 ⊢; unfold ftV)
  refine named_wp fun W2 hW2 => ?_
  have hb4 : Below w3.heap.size w3 W2 := by rw [hW2]; exact b2 _ _ _
  have hB2 := bstep hb3 hb4
  have hG2 := hGq.later hb4
  have hYq : Blk W2 w3.heap.size [.int .i64 k, .int .i64 mn, .int .i64 mx, .int .i64 kd, .bool bd, .int .u64 bn, .slice qA qn qc, .string (strOf nm), .slice rA rn rc, .int .u64 wi, .slice sA sn sc, .slice uA un uc] := by rw [hW2]; exact (Blk.is (us := [.int .i64 k, .int .i64 mn, .int .i64 mx, .int .i64 kd, .bool bd, .int .u64 bn, .slice qA qn qc, .string (strOf nm), .slice rA rn rc, .int .u64 wi, .slice sA sn sc, .slice uA un uc]) _ rfl).alloc _
  have hYf : Blk W2 (w3.heap.size + 1) [.int .i64 0, .int .i64 0] := by rw [hW2]; exact Blk.is (us := [.int .i64 0, .int .i64 0]) _ (by simp)
  have d0 := hYf.cell 0 _ rfl
  have d1 := hYf.cell 1 _ rfl
  have hYc : ∀ w4, Below W2.heap.size W2 w4 → Blk w4 w3.heap.size [.int .i64 k, .int .i64 mn, .int .i64 mx, .int .i64 kd, .bool bd, .int .u64 bn, .slice qA qn qc, .string (strOf nm), .slice rA rn rc, .int .u64 wi, .slice sA sn sc, .slice uA un uc] := fun w4 h => hYq.later h
  have c0 := hYq.cell 0 _ rfl
  have c1 := hYq.cell 1 _ rfl
  have c2 := hYq.cell 2 _ rfl
  have c3 := hYq.cell 3 _ rfl
  have c4 := hYq.cell 4 _ rfl
  have c5 := hYq.cell 5 _ rfl
  have c6 := hYq.cell 6 _ rfl
  have c7 := hYq.cell 7 _ rfl
  have c8 := hYq.cell 8 _ rfl
  have c9 := hYq.cell 9 _ rfl
  have c10 := hYq.cell 10 _ rfl
  have c11 := hYq.cell 11 _ rfl
  clear hW2 hYq hYf hS hQ
  go_region_with (first | (go_at_call 33; with_reducible refine (shown_any _).mono ?_; rintro e w4 ⟨b, rfl, hSb, hb4⟩; have hb5 : Below W2.heap.size W2 w4 := (by first | exact hb4 | exact bstep (Below.refl _ _).drew hb4 | exact bstep (Below.refl _ _).drew.drew hb4); have hB := bstep hB2 hb5; have hGb := hG2.later hb5; have hYq := hYc _ hb5; have c0 := hYq.cell 0 _ rfl; have c1 := hYq.cell 1 _ rfl; have c2 := hYq.cell 2 _ rfl; have c3 := hYq.cell 3 _ rfl; have c4 := hYq.cell 4 _ rfl; have c5 := hYq.cell 5 _ rfl; have c6 := hYq.cell 6 _ rfl; have c7 := hYq.cell 7 _ rfl; have c8 := hYq.cell 8 _ rfl; have c9 := hYq.cell 9 _ rfl; have c10 := hYq.cell 10 _ rfl; have c11 := hYq.cell 11 _ rfl) | (go_at_call 15; with_reducible refine (hS3 b _ hGb hSb).mono ?_; rintro e w5 ⟨rfl, hb5⟩; replace hB := bstep hB hb5) | (go_at_call 24; with_reducible refine (hA _ hB).mono ?_; rintro e w6 ⟨rfl, hb6⟩; replace hB := bstep hB hb6) | (go_at_call 25; with_reducible refine (hF1 _ hB).mono ?_; rintro e w7 ⟨rfl, hb7⟩; replace hB := bstep hB hb7) | (go_at_call 25; with_reducible refine (hF2 _ hB).mono ?_; rintro e w8 ⟨rfl, hb8⟩; replace hB := bstep hB hb8))
  all_goals go_wp2
  all_goals go_ret
  all_goals exact ⟨rfl, by first | exact hB | exact hB.drew⟩
end Go.Proofs.YtdjaijhlhhnmeaaGreatDoor
