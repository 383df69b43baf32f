/- Walk: the chapter's examples. Made by program (wip/tools/gen_wfT.py). -/
import Derived.Test.YthiacfmedcfcjaaDoorWfS
import Derived.Test.YthiacfmedcfcjaaDoorKitSameTexts
namespace Go.Proofs.YthiacfmedcfcjaaDoor
open Go.RowKit Go.Shelf Go.Maps
open A8 W10
attribute [local go_sem] Oper.semAt_some

theorem grown_id (w : World) (b : Nat) : w.grownBy w (some b) := ⟨rfl, rfl, rfl, Nat.le_refl _, fun _ _ _ => rfl⟩
theorem grown_set10 {w W : World} {b : Nat} (h : w.grownBy W (some b)) (i : Nat) (v : Value) : w.grownBy (W.setCell ⟨b, i, none⟩ v) (some b) :=
  ⟨h.os, h.tape, h.output, by have := h.size; simpa [World.setCell] using this, fun k hk hne => (Below.heap_setCell _ _ _ _ (fun e => hne (by rw [e]))).trans (h.block k hk hne)⟩
theorem sl_but {w W : World} {sz n m c b b' : Nat} {us : List Value} (h : Sl w sz n (.slice (some ⟨b', 0, none⟩) m c) us) (hg : w.grownBy W (some b)) (hne : b' ≠ b) : Sl W sz n (.slice (some ⟨b', 0, none⟩) m c) us := by
  obtain ⟨h1, h2, A, cap, h3, h4, h5, h6⟩ := h
  cases h3
  refine ⟨h1, h2, _, _, rfl, h4, h5, fun i u hu => ?_⟩
  obtain ⟨a, ha, hlt, hc⟩ := h6 i u hu
  cases ha
  exact ⟨_, rfl, Nat.lt_of_lt_of_le hlt hg.size, (World.cell?_of_block (w := w) (a := (⟨b', 0, none⟩ : Addr).add i) (by rw [add_block]; exact hg.block b' hlt (fun e => hne (by cases e; rfl)))).trans hc⟩
theorem own_ne {W : World} {base n b : Nat} {e t : TypeId} {sz : Nat} {v : Value} {xs us : List Value} (h : W.ownsRow base e sz v n xs) (hb : Bx W b t us) (hne : e ≠ t) : v.ownBlock ≠ some b := by
  intro hv
  rcases h.2 with ⟨rfl, -⟩ | ⟨g, cap, cur, rfl, h2, h3, -⟩
  · cases hv
  · injection hv with hv
    simp only at hv
    subst hv
    have h4 : W.heap[g]? = _ := hb
    rw [h3] at h4
    cases h4
    exact hne rfl
set_option maxRecDepth 100000 in
set_option maxHeartbeats 32000000 in
theorem wknown_any (w : World) (hG : SG w) : Calls Tryd.prog 3 #[] w fun e w' => e = .returned (.bool true) ∧ Below w.heap.size w w' := by
  have letterL := letter_any
  have namedL := named_any
  have notL := not_any
  have timesL := times_any
  have seqL := seq_any
  have altL := alt_any
  simp only [kidsX, leafX, Tr.row, strOf] at letterL namedL notL timesL seqL altL
  go_enter Tryd.func3, Tryd.ntmps3
  go_wp2_with fail
  refine (notL 1 [] _).mono ?_
  rintro e w1 ⟨rfl, hb1⟩
  go_wp2_with fail
  have tr2 : TrW w1 (leafX 2 0 0 1 []) := (leafX_tr 2 0 0 1 [] _ (by unfold okV; omega) (by unfold okV; omega) (by unfold okV; omega) (by unfold okV; omega) (by unfold maxLen; simp))
  have hE2 : wfE ⟨(leafNd 2 0 0 1 []), 5, [], []⟩ = 9 := by decide +kernel
  have F2 := fails_any (leafX 2 0 0 1 []) (leafNd 2 0 0 1 []) 9 w1 tr2 (by simp [leafX, subsT, subsTL]) (hG.later hb1) (by simp only [leafX_nd]) hE2
  simp only [leafX, Tr.row, strOf] at F2
  clear tr2 hE2
  refine (F2).mono ?_
  rintro e w3 ⟨rfl, hb3⟩
  clear F2
  go_wp2_with fail
  refine (notL 1 [] _).mono ?_
  rintro e w4 ⟨rfl, hb4⟩
  go_wp2_with fail
  refine (letterL 0 _).mono ?_
  rintro e w5 ⟨rfl, hb5⟩
  go_wp2_with fail
  refine (seqL (some ⟨w5.heap.size, 0, none⟩) 2 2 [(leafX 2 0 0 1 []), (leafX 1 1 1 0 [])] _).mono ?_
  rintro e w6 ⟨rfl, hb6⟩
  go_wp2_with fail
  refine (letterL 2 _).mono ?_
  rintro e w7 ⟨rfl, hb7⟩
  go_wp2_with fail
  refine (seqL (some ⟨w7.heap.size, 0, none⟩) 2 2 [(kidsX 3 (.slice (some ⟨w5.heap.size, 0, none⟩) 2 2) [(leafX 2 0 0 1 []), (leafX 1 1 1 0 [])]), (leafX 1 1 1 2 [])] _).mono ?_
  rintro e w8 ⟨rfl, hb8⟩
  go_wp2_with fail
  have tk9_0 := (kidsX_tr (w := w8) (k := 3) (v := (.slice (some ⟨w5.heap.size, 0, none⟩) 2 2)) (ts := [(leafX 2 0 0 1 []), (leafX 1 1 1 0 [])]) (by unfold okV; omega) ((sl_fresh w5 2 9 ([(leafX 2 0 0 1 []), (leafX 1 1 1 0 [])].flatMap Tr.row) 30 rfl (by decide)).later (bstep (bstep (bstep hb6 hb7) (b1 _ _)) hb8)) (kids_of2 (leafX_tr 2 0 0 1 [] _ (by unfold okV; omega) (by unfold okV; omega) (by unfold okV; omega) (by unfold okV; omega) (by unfold maxLen; simp)) (leafX_tr 1 1 1 0 [] _ (by unfold okV; omega) (by unfold okV; omega) (by unfold okV; omega) (by unfold okV; omega) (by unfold maxLen; simp))))
  have tr9 : TrW w8 (kidsX 3 (.slice (some ⟨w7.heap.size, 0, none⟩) 2 2) [(kidsX 3 (.slice (some ⟨w5.heap.size, 0, none⟩) 2 2) [(leafX 2 0 0 1 []), (leafX 1 1 1 0 [])]), (leafX 1 1 1 2 [])]) := (kidsX_tr (w := w8) (k := 3) (v := (.slice (some ⟨w7.heap.size, 0, none⟩) 2 2)) (ts := [(kidsX 3 (.slice (some ⟨w5.heap.size, 0, none⟩) 2 2) [(leafX 2 0 0 1 []), (leafX 1 1 1 0 [])]), (leafX 1 1 1 2 [])]) (by unfold okV; omega) ((sl_fresh w7 2 9 ([(kidsX 3 (.slice (some ⟨w5.heap.size, 0, none⟩) 2 2) [(leafX 2 0 0 1 []), (leafX 1 1 1 0 [])]), (leafX 1 1 1 2 [])].flatMap Tr.row) 30 rfl (by decide)).later hb8) (kids_of2 tk9_0 (leafX_tr 1 1 1 2 [] _ (by unfold okV; omega) (by unfold okV; omega) (by unfold okV; omega) (by unfold okV; omega) (by unfold maxLen; simp))))
  have hE9 : wfE ⟨(kidsNd 3 [(kidsNd 3 [(leafNd 2 0 0 1 []), (leafNd 1 1 1 0 [])]), (leafNd 1 1 1 2 [])]), 5, [], []⟩ = 9 := by decide +kernel
  have F9 := fails_any (kidsX 3 (.slice (some ⟨w7.heap.size, 0, none⟩) 2 2) [(kidsX 3 (.slice (some ⟨w5.heap.size, 0, none⟩) 2 2) [(leafX 2 0 0 1 []), (leafX 1 1 1 0 [])]), (leafX 1 1 1 2 [])]) (kidsNd 3 [(kidsNd 3 [(leafNd 2 0 0 1 []), (leafNd 1 1 1 0 [])]), (leafNd 1 1 1 2 [])]) 9 w8 tr9 (by simp [kidsX, leafX, subsT, subsTL]) (hG.later (bstep (bstep (bstep (bstep (bstep (bstep (bstep (bstep hb1 hb3) hb4) hb5) (b1 _ _)) hb6) hb7) (b1 _ _)) hb8)) (by simp only [kidsX_nd, leafX_nd, List.map]) hE9
  simp only [kidsX, Tr.row, strOf] at F9
  clear tr9 hE9
  refine (F9).mono ?_
  rintro e w10 ⟨rfl, hb10⟩
  clear F9
  go_wp2_with fail
  refine (letterL 0 _).mono ?_
  rintro e w11 ⟨rfl, hb11⟩
  go_wp2_with fail
  refine (notL 1 [] _).mono ?_
  rintro e w12 ⟨rfl, hb12⟩
  go_wp2_with fail
  refine (notL 2 [] _).mono ?_
  rintro e w13 ⟨rfl, hb13⟩
  go_wp2_with fail
  refine (letterL 3 _).mono ?_
  rintro e w14 ⟨rfl, hb14⟩
  go_wp2_with fail
  refine (seqL (some ⟨w14.heap.size, 0, none⟩) 4 4 [(leafX 1 1 1 0 []), (leafX 2 0 0 1 []), (leafX 2 0 0 2 []), (leafX 1 1 1 3 [])] _).mono ?_
  rintro e w15 ⟨rfl, hb15⟩
  go_wp2_with fail
  have tr16 : TrW w15 (kidsX 3 (.slice (some ⟨w14.heap.size, 0, none⟩) 4 4) [(leafX 1 1 1 0 []), (leafX 2 0 0 1 []), (leafX 2 0 0 2 []), (leafX 1 1 1 3 [])]) := (kidsX_tr (w := w15) (k := 3) (v := (.slice (some ⟨w14.heap.size, 0, none⟩) 4 4)) (ts := [(leafX 1 1 1 0 []), (leafX 2 0 0 1 []), (leafX 2 0 0 2 []), (leafX 1 1 1 3 [])]) (by unfold okV; omega) ((sl_fresh w14 4 9 ([(leafX 1 1 1 0 []), (leafX 2 0 0 1 []), (leafX 2 0 0 2 []), (leafX 1 1 1 3 [])].flatMap Tr.row) 30 rfl (by decide)).later hb15) (kids_of4 (leafX_tr 1 1 1 0 [] _ (by unfold okV; omega) (by unfold okV; omega) (by unfold okV; omega) (by unfold okV; omega) (by unfold maxLen; simp)) (leafX_tr 2 0 0 1 [] _ (by unfold okV; omega) (by unfold okV; omega) (by unfold okV; omega) (by unfold okV; omega) (by unfold maxLen; simp)) (leafX_tr 2 0 0 2 [] _ (by unfold okV; omega) (by unfold okV; omega) (by unfold okV; omega) (by unfold okV; omega) (by unfold maxLen; simp)) (leafX_tr 1 1 1 3 [] _ (by unfold okV; omega) (by unfold okV; omega) (by unfold okV; omega) (by unfold okV; omega) (by unfold maxLen; simp))))
  have hE16 : wfE ⟨(kidsNd 3 [(leafNd 1 1 1 0 []), (leafNd 2 0 0 1 []), (leafNd 2 0 0 2 []), (leafNd 1 1 1 3 [])]), 5, [], []⟩ = 0 := by decide +kernel
  have F16 := fails_any (kidsX 3 (.slice (some ⟨w14.heap.size, 0, none⟩) 4 4) [(leafX 1 1 1 0 []), (leafX 2 0 0 1 []), (leafX 2 0 0 2 []), (leafX 1 1 1 3 [])]) (kidsNd 3 [(leafNd 1 1 1 0 []), (leafNd 2 0 0 1 []), (leafNd 2 0 0 2 []), (leafNd 1 1 1 3 [])]) 0 w15 tr16 (by simp [kidsX, leafX, subsT, subsTL]) (hG.later (bstep (bstep (bstep (bstep (bstep (bstep (bstep (bstep (bstep (bstep (bstep (bstep (bstep (bstep (bstep hb1 hb3) hb4) hb5) (b1 _ _)) hb6) hb7) (b1 _ _)) hb8) hb10) hb11) hb12) hb13) hb14) (b1 _ _)) hb15)) (by simp only [kidsX_nd, leafX_nd, List.map]) hE16
  simp only [kidsX, Tr.row, strOf] at F16
  clear tr16 hE16
  refine (F16).mono ?_
  rintro e w17 ⟨rfl, hb17⟩
  clear F16
  go_wp2_with fail
  refine (letterL 0 _).mono ?_
  rintro e w18 ⟨rfl, hb18⟩
  go_wp2_with fail
  refine (notL 1 [] _).mono ?_
  rintro e w19 ⟨rfl, hb19⟩
  go_wp2_with fail
  refine (altL (some ⟨w19.heap.size, 0, none⟩) 2 2 [(leafX 1 1 1 0 []), (leafX 2 0 0 1 [])] _).mono ?_
  rintro e w20 ⟨rfl, hb20⟩
  go_wp2_with fail
  have tr21 : TrW w20 (kidsX 4 (.slice (some ⟨w19.heap.size, 0, none⟩) 2 2) [(leafX 1 1 1 0 []), (leafX 2 0 0 1 [])]) := (kidsX_tr (w := w20) (k := 4) (v := (.slice (some ⟨w19.heap.size, 0, none⟩) 2 2)) (ts := [(leafX 1 1 1 0 []), (leafX 2 0 0 1 [])]) (by unfold okV; omega) ((sl_fresh w19 2 9 ([(leafX 1 1 1 0 []), (leafX 2 0 0 1 [])].flatMap Tr.row) 30 rfl (by decide)).later hb20) (kids_of2 (leafX_tr 1 1 1 0 [] _ (by unfold okV; omega) (by unfold okV; omega) (by unfold okV; omega) (by unfold okV; omega) (by unfold maxLen; simp)) (leafX_tr 2 0 0 1 [] _ (by unfold okV; omega) (by unfold okV; omega) (by unfold okV; omega) (by unfold okV; omega) (by unfold maxLen; simp))))
  have hE21 : wfE ⟨(kidsNd 4 [(leafNd 1 1 1 0 []), (leafNd 2 0 0 1 [])]), 5, [], []⟩ = 9 := by decide +kernel
  have F21 := fails_any (kidsX 4 (.slice (some ⟨w19.heap.size, 0, none⟩) 2 2) [(leafX 1 1 1 0 []), (leafX 2 0 0 1 [])]) (kidsNd 4 [(leafNd 1 1 1 0 []), (leafNd 2 0 0 1 [])]) 9 w20 tr21 (by simp [kidsX, leafX, subsT, subsTL]) (hG.later (bstep (bstep (bstep (bstep (bstep (bstep (bstep (bstep (bstep (bstep (bstep (bstep (bstep (bstep (bstep (bstep (bstep (bstep (bstep (bstep hb1 hb3) hb4) hb5) (b1 _ _)) hb6) hb7) (b1 _ _)) hb8) hb10) hb11) hb12) hb13) hb14) (b1 _ _)) hb15) hb17) hb18) hb19) (b1 _ _)) hb20)) (by simp only [kidsX_nd, leafX_nd, List.map]) hE21
  simp only [kidsX, Tr.row, strOf] at F21
  clear tr21 hE21
  refine (F21).mono ?_
  rintro e w22 ⟨rfl, hb22⟩
  clear F21
  go_wp2_with fail
  refine (timesL 0 2 _).mono ?_
  rintro e w23 ⟨rfl, hb23⟩
  go_wp2_with fail
  have tr24 : TrW w23 (leafX 1 0 2 0 []) := (leafX_tr 1 0 2 0 [] _ (by unfold okV; omega) (by unfold okV; omega) (by unfold okV; omega) (by unfold okV; omega) (by unfold maxLen; simp))
  have hE24 : wfE ⟨(leafNd 1 0 2 0 []), 5, [], []⟩ = 2 := by decide +kernel
  have F24 := fails_any (leafX 1 0 2 0 []) (leafNd 1 0 2 0 []) 2 w23 tr24 (by simp [leafX, subsT, subsTL]) (hG.later (bstep (bstep (bstep (bstep (bstep (bstep (bstep (bstep (bstep (bstep (bstep (bstep (bstep (bstep (bstep (bstep (bstep (bstep (bstep (bstep (bstep (bstep hb1 hb3) hb4) hb5) (b1 _ _)) hb6) hb7) (b1 _ _)) hb8) hb10) hb11) hb12) hb13) hb14) (b1 _ _)) hb15) hb17) hb18) hb19) (b1 _ _)) hb20) hb22) hb23)) (by simp only [leafX_nd]) hE24
  simp only [leafX, Tr.row, strOf] at F24
  clear tr24 hE24
  refine (F24).mono ?_
  rintro e w25 ⟨rfl, hb25⟩
  clear F24
  go_wp2_with fail
  refine (timesL 2 1 _).mono ?_
  rintro e w26 ⟨rfl, hb26⟩
  go_wp2_with fail
  have tr27 : TrW w26 (leafX 1 2 1 0 []) := (leafX_tr 1 2 1 0 [] _ (by unfold okV; omega) (by unfold okV; omega) (by unfold okV; omega) (by unfold okV; omega) (by unfold maxLen; simp))
  have hE27 : wfE ⟨(leafNd 1 2 1 0 []), 5, [], []⟩ = 2 := by decide +kernel
  have F27 := fails_any (leafX 1 2 1 0 []) (leafNd 1 2 1 0 []) 2 w26 tr27 (by simp [leafX, subsT, subsTL]) (hG.later (bstep (bstep (bstep (bstep (bstep (bstep (bstep (bstep (bstep (bstep (bstep (bstep (bstep (bstep (bstep (bstep (bstep (bstep (bstep (bstep (bstep (bstep (bstep (bstep hb1 hb3) hb4) hb5) (b1 _ _)) hb6) hb7) (b1 _ _)) hb8) hb10) hb11) hb12) hb13) hb14) (b1 _ _)) hb15) hb17) hb18) hb19) (b1 _ _)) hb20) hb22) hb23) hb25) hb26)) (by simp only [leafX_nd]) hE27
  simp only [leafX, Tr.row, strOf] at F27
  clear tr27 hE27
  refine (F27).mono ?_
  rintro e w28 ⟨rfl, hb28⟩
  clear F27
  go_wp2_with fail
  refine (timesL 1 7 _).mono ?_
  rintro e w29 ⟨rfl, hb29⟩
  go_wp2_with fail
  have tr30 : TrW w29 (leafX 1 1 7 0 []) := (leafX_tr 1 1 7 0 [] _ (by unfold okV; omega) (by unfold okV; omega) (by unfold okV; omega) (by unfold okV; omega) (by unfold maxLen; simp))
  have hE30 : wfE ⟨(leafNd 1 1 7 0 []), 5, [], []⟩ = 2 := by decide +kernel
  have F30 := fails_any (leafX 1 1 7 0 []) (leafNd 1 1 7 0 []) 2 w29 tr30 (by simp [leafX, subsT, subsTL]) (hG.later (bstep (bstep (bstep (bstep (bstep (bstep (bstep (bstep (bstep (bstep (bstep (bstep (bstep (bstep (bstep (bstep (bstep (bstep (bstep (bstep (bstep (bstep (bstep (bstep (bstep (bstep hb1 hb3) hb4) hb5) (b1 _ _)) hb6) hb7) (b1 _ _)) hb8) hb10) hb11) hb12) hb13) hb14) (b1 _ _)) hb15) hb17) hb18) hb19) (b1 _ _)) hb20) hb22) hb23) hb25) hb26) hb28) hb29)) (by simp only [leafX_nd]) hE30
  simp only [leafX, Tr.row, strOf] at F30
  clear tr30 hE30
  refine (F30).mono ?_
  rintro e w31 ⟨rfl, hb31⟩
  clear F30
  go_wp2_with fail
  refine (letterL 0 _).mono ?_
  rintro e w32 ⟨rfl, hb32⟩
  go_wp2_with fail
  have hqwp1 : QW w32 (⟨(leafX 1 1 1 0 []), 10001, .slice none 0 0, [], .slice none 0 0, []⟩ : GQ) := ⟨(leafX_tr 1 1 1 0 [] _ (by unfold okV; omega) (by unfold okV; omega) (by unfold okV; omega) (by unfold okV; omega) (by unfold maxLen; simp)), (by show (0 : Int) ≤ 10001 ∧ (10001 : Int) < 18446744073709551616; decide), Sl.nil _ _, Sl.nil _ _, (fun h hm => by cases hm), (fun h hm => by cases hm)⟩
  have hqup1 : GQ.qu (⟨(leafX 1 1 1 0 []), 10001, .slice none 0 0, [], .slice none 0 0, []⟩ : GQ) = (⟨(leafNd 1 1 1 0 []), 10001, [], []⟩ : Qu) := by unfold GQ.qu; simp only [leafX_nd]
  have hnup1 : ∀ s ∈ useL (⟨(leafNd 1 1 1 0 []), 10001, [], []⟩ : Qu), s.length ≤ maxLen := by intro s hs; rw [show useL (⟨(leafNd 1 1 1 0 []), 10001, [], []⟩ : Qu) = [] from rfl] at hs; cases hs
  have hvp1_0 : wfE (⟨(leafNd 1 1 1 0 []), 10001, [], []⟩ : Qu) = 2 := by decide +kernel
  have Fp1 := wcheck_any (⟨(leafX 1 1 1 0 []), 10001, .slice none 0 0, [], .slice none 0 0, []⟩ : GQ)  w32 hqwp1 (by simp [leafX, subsT, subsTL]) (hG.later (bstep (bstep (bstep (bstep (bstep (bstep (bstep (bstep (bstep (bstep (bstep (bstep (bstep (bstep (bstep (bstep (bstep (bstep (bstep (bstep (bstep (bstep (bstep (bstep (bstep (bstep (bstep (bstep hb1 hb3) hb4) hb5) (b1 _ _)) hb6) hb7) (b1 _ _)) hb8) hb10) hb11) hb12) hb13) hb14) (b1 _ _)) hb15) hb17) hb18) hb19) (b1 _ _)) hb20) hb22) hb23) hb25) hb26) hb28) hb29) hb31) hb32)) (by rw [hqup1]; exact hnup1)
  rw [hqup1, hvp1_0] at Fp1
  simp only [GQ.row, leafX, Tr.row, strOf, List.cons_append, List.nil_append] at Fp1
  clear hqwp1 hqup1 hnup1 hvp1_0
  refine (Fp1).mono ?_
  rintro e w34 ⟨rfl, hb34⟩
  clear Fp1
  go_wp2_with fail
  refine (letterL 0 _).mono ?_
  rintro e w35 ⟨rfl, hb35⟩
  go_wp2_with fail
  refine (notL 1 [120] _).mono ?_
  rintro e w36 ⟨rfl, hb36⟩
  go_wp2_with fail
  refine (letterL 2 _).mono ?_
  rintro e w37 ⟨rfl, hb37⟩
  go_wp2_with fail
  refine (seqL (some ⟨w37.heap.size, 0, none⟩) 3 3 [(leafX 1 1 1 0 []), (leafX 2 0 0 1 [120]), (leafX 1 1 1 2 [])] _).mono ?_
  rintro e w38 ⟨rfl, hb38⟩
  go_wp2_with fail
  have tr39 : TrW w38 (kidsX 3 (.slice (some ⟨w37.heap.size, 0, none⟩) 3 3) [(leafX 1 1 1 0 []), (leafX 2 0 0 1 [120]), (leafX 1 1 1 2 [])]) := (kidsX_tr (w := w38) (k := 3) (v := (.slice (some ⟨w37.heap.size, 0, none⟩) 3 3)) (ts := [(leafX 1 1 1 0 []), (leafX 2 0 0 1 [120]), (leafX 1 1 1 2 [])]) (by unfold okV; omega) ((sl_fresh w37 3 9 ([(leafX 1 1 1 0 []), (leafX 2 0 0 1 [120]), (leafX 1 1 1 2 [])].flatMap Tr.row) 30 rfl (by decide)).later hb38) (kids_of3 (leafX_tr 1 1 1 0 [] _ (by unfold okV; omega) (by unfold okV; omega) (by unfold okV; omega) (by unfold okV; omega) (by unfold maxLen; simp)) (leafX_tr 2 0 0 1 [120] _ (by unfold okV; omega) (by unfold okV; omega) (by unfold okV; omega) (by unfold okV; omega) (by unfold maxLen; simp)) (leafX_tr 1 1 1 2 [] _ (by unfold okV; omega) (by unfold okV; omega) (by unfold okV; omega) (by unfold okV; omega) (by unfold maxLen; simp))))
  have hE39 : wfE ⟨(kidsNd 3 [(leafNd 1 1 1 0 []), (leafNd 2 0 0 1 [120]), (leafNd 1 1 1 2 [])]), 5, [], []⟩ = 12 := by decide +kernel
  have F39 := fails_any (kidsX 3 (.slice (some ⟨w37.heap.size, 0, none⟩) 3 3) [(leafX 1 1 1 0 []), (leafX 2 0 0 1 [120]), (leafX 1 1 1 2 [])]) (kidsNd 3 [(leafNd 1 1 1 0 []), (leafNd 2 0 0 1 [120]), (leafNd 1 1 1 2 [])]) 12 w38 tr39 (by simp [kidsX, leafX, subsT, subsTL]) (hG.later (bstep (bstep (bstep (bstep (bstep (bstep (bstep (bstep (bstep (bstep (bstep (bstep (bstep (bstep (bstep (bstep (bstep (bstep (bstep (bstep (bstep (bstep (bstep (bstep (bstep (bstep (bstep (bstep (bstep (bstep (bstep (bstep (bstep (bstep hb1 hb3) hb4) hb5) (b1 _ _)) hb6) hb7) (b1 _ _)) hb8) hb10) hb11) hb12) hb13) hb14) (b1 _ _)) hb15) hb17) hb18) hb19) (b1 _ _)) hb20) hb22) hb23) hb25) hb26) hb28) hb29) hb31) hb32) hb34) hb35) hb36) hb37) (b1 _ _)) hb38)) (by simp only [kidsX_nd, leafX_nd, List.map]) hE39
  simp only [kidsX, Tr.row, strOf] at F39
  clear tr39 hE39
  refine (F39).mono ?_
  rintro e w40 ⟨rfl, hb40⟩
  clear F39
  go_wp2_with fail
  refine (namedL 0 [120] _).mono ?_
  rintro e w41 ⟨rfl, hb41⟩
  go_wp2_with fail
  have hqwp2 : QW (w41.alloc (.cells (([⟨2, [121]⟩] : List Ag).flatMap agC).toArray 41)) (⟨(leafX 1 1 1 0 [120]), 5, .slice none 0 0, [], .slice (some ⟨w41.heap.size, 0, none⟩) 1 1, [⟨2, [121]⟩]⟩ : GQ) := ⟨(leafX_tr 1 1 1 0 [120] _ (by unfold okV; omega) (by unfold okV; omega) (by unfold okV; omega) (by unfold okV; omega) (by unfold maxLen; simp)), (by show (0 : Int) ≤ 5 ∧ (5 : Int) < 18446744073709551616; decide), Sl.nil _ _, (sl_fresh w41 1 2 (([⟨2, [121]⟩] : List Ag).flatMap agC) 41 rfl (by decide)), (fun h hm => by cases hm), (fun a hm => by simp only [List.mem_cons, List.not_mem_nil, or_false] at hm; subst hm; show okV 2; unfold okV; omega)⟩
  have hqup2 : GQ.qu (⟨(leafX 1 1 1 0 [120]), 5, .slice none 0 0, [], .slice (some ⟨w41.heap.size, 0, none⟩) 1 1, [⟨2, [121]⟩]⟩ : GQ) = (⟨(leafNd 1 1 1 0 [120]), 5, [], [⟨2, [121]⟩]⟩ : Qu) := by unfold GQ.qu; simp only [leafX_nd]
  have hnup2 : ∀ s ∈ useL (⟨(leafNd 1 1 1 0 [120]), 5, [], [⟨2, [121]⟩]⟩ : Qu), s.length ≤ maxLen := by intro s hs; rw [show useL (⟨(leafNd 1 1 1 0 [120]), 5, [], [⟨2, [121]⟩]⟩ : Qu) = [[121]] from rfl] at hs; simp only [List.mem_cons, List.not_mem_nil, or_false] at hs; subst hs <;> (unfold maxLen; simp)
  have hvp2_0 : wfE (⟨(leafNd 1 1 1 0 [120]), 5, [], [⟨2, [121]⟩]⟩ : Qu) = 12 := by decide +kernel
  have Fp2 := wcheck_any (⟨(leafX 1 1 1 0 [120]), 5, .slice none 0 0, [], .slice (some ⟨w41.heap.size, 0, none⟩) 1 1, [⟨2, [121]⟩]⟩ : GQ)  (w41.alloc (.cells (([⟨2, [121]⟩] : List Ag).flatMap agC).toArray 41)) hqwp2 (by simp [leafX, subsT, subsTL]) (hG.later (bstep (bstep (bstep (bstep (bstep (bstep (bstep (bstep (bstep (bstep (bstep (bstep (bstep (bstep (bstep (bstep (bstep (bstep (bstep (bstep (bstep (bstep (bstep (bstep (bstep (bstep (bstep (bstep (bstep (bstep (bstep (bstep (bstep (bstep (bstep (bstep (bstep hb1 hb3) hb4) hb5) (b1 _ _)) hb6) hb7) (b1 _ _)) hb8) hb10) hb11) hb12) hb13) hb14) (b1 _ _)) hb15) hb17) hb18) hb19) (b1 _ _)) hb20) hb22) hb23) hb25) hb26) hb28) hb29) hb31) hb32) hb34) hb35) hb36) hb37) (b1 _ _)) hb38) hb40) hb41) (b1 _ _))) (by rw [hqup2]; exact hnup2)
  rw [hqup2, hvp2_0] at Fp2
  simp only [GQ.row, leafX, Tr.row, strOf, List.cons_append, List.nil_append] at Fp2
  clear hqwp2 hqup2 hnup2 hvp2_0
  refine (Fp2).mono ?_
  rintro e w43 ⟨rfl, hb43⟩
  clear Fp2
  go_wp2_with fail
  refine (namedL 0 [120] _).mono ?_
  rintro e w44 ⟨rfl, hb44⟩
  go_wp2_with fail
  refine (letterL 1 _).mono ?_
  rintro e w45 ⟨rfl, hb45⟩
  go_wp2_with fail
  refine (namedL 2 [121] _).mono ?_
  rintro e w46 ⟨rfl, hb46⟩
  go_wp2_with fail
  refine (seqL (some ⟨w46.heap.size, 0, none⟩) 3 3 [(leafX 1 1 1 0 [120]), (leafX 1 1 1 1 []), (leafX 1 1 1 2 [121])] _).mono ?_
  rintro e w47 ⟨rfl, hb47⟩
  go_wp2_with fail
  have hbox := Bx.new w47 [.int .i64 3, .int .i64 0, .int .i64 0, .int .i64 0, .bool false, .int .u64 0, .slice none 0 0, .string ⟨#[]⟩, .slice (some ⟨w46.heap.size, 0, none⟩) 3 3, .int .u64 5, .slice none 0 0, .slice none 0 0] 39
  have hqwn1 : QW (w47.alloc (.cells #[.int .i64 3, .int .i64 0, .int .i64 0, .int .i64 0, .bool false, .int .u64 0, .slice none 0 0, .string ⟨#[]⟩, .slice (some ⟨w46.heap.size, 0, none⟩) 3 3, .int .u64 5, .slice none 0 0, .slice none 0 0] 39)) (⟨(kidsX 3 (.slice (some ⟨w46.heap.size, 0, none⟩) 3 3) [(leafX 1 1 1 0 [120]), (leafX 1 1 1 1 []), (leafX 1 1 1 2 [121])]), 5, .slice none 0 0, [], .slice none 0 0, []⟩ : GQ) := ⟨(kidsX_tr (w := (w47.alloc (.cells #[.int .i64 3, .int .i64 0, .int .i64 0, .int .i64 0, .bool false, .int .u64 0, .slice none 0 0, .string ⟨#[]⟩, .slice (some ⟨w46.heap.size, 0, none⟩) 3 3, .int .u64 5, .slice none 0 0, .slice none 0 0] 39))) (k := 3) (v := (.slice (some ⟨w46.heap.size, 0, none⟩) 3 3)) (ts := [(leafX 1 1 1 0 [120]), (leafX 1 1 1 1 []), (leafX 1 1 1 2 [121])]) (by unfold okV; omega) ((sl_fresh w46 3 9 ([(leafX 1 1 1 0 [120]), (leafX 1 1 1 1 []), (leafX 1 1 1 2 [121])].flatMap Tr.row) 30 rfl (by decide)).later (bstep hb47 (b1 _ _))) (kids_of3 (leafX_tr 1 1 1 0 [120] _ (by unfold okV; omega) (by unfold okV; omega) (by unfold okV; omega) (by unfold okV; omega) (by unfold maxLen; simp)) (leafX_tr 1 1 1 1 [] _ (by unfold okV; omega) (by unfold okV; omega) (by unfold okV; omega) (by unfold okV; omega) (by unfold maxLen; simp)) (leafX_tr 1 1 1 2 [121] _ (by unfold okV; omega) (by unfold okV; omega) (by unfold okV; omega) (by unfold okV; omega) (by unfold maxLen; simp)))), (by show (0 : Int) ≤ 5 ∧ (5 : Int) < 18446744073709551616; decide), Sl.nil _ _, Sl.nil _ _, (fun h hm => by cases hm), (fun h hm => by cases hm)⟩
  have hqun1 : GQ.qu (⟨(kidsX 3 (.slice (some ⟨w46.heap.size, 0, none⟩) 3 3) [(leafX 1 1 1 0 [120]), (leafX 1 1 1 1 []), (leafX 1 1 1 2 [121])]), 5, .slice none 0 0, [], .slice none 0 0, []⟩ : GQ) = (⟨(kidsNd 3 [(leafNd 1 1 1 0 [120]), (leafNd 1 1 1 1 []), (leafNd 1 1 1 2 [121])]), 5, [], []⟩ : Qu) := by unfold GQ.qu; simp only [kidsX_nd, leafX_nd, List.map]
  have hnun1 : ∀ s ∈ useL (⟨(kidsNd 3 [(leafNd 1 1 1 0 [120]), (leafNd 1 1 1 1 []), (leafNd 1 1 1 2 [121])]), 5, [], []⟩ : Qu), s.length ≤ maxLen := by intro s hs; rw [show useL (⟨(kidsNd 3 [(leafNd 1 1 1 0 [120]), (leafNd 1 1 1 1 []), (leafNd 1 1 1 2 [121])]), 5, [], []⟩ : Qu) = [] from rfl] at hs; cases hs
  have hvn1_0 : namesL (⟨(kidsNd 3 [(leafNd 1 1 1 0 [120]), (leafNd 1 1 1 1 []), (leafNd 1 1 1 2 [121])]), 5, [], []⟩ : Qu) = [[120], [121]] := by decide +kernel
  have hvn1_1 : wfE (⟨(kidsNd 3 [(leafNd 1 1 1 0 [120]), (leafNd 1 1 1 1 []), (leafNd 1 1 1 2 [121])]), 5, [], []⟩ : Qu) = 0 := by decide +kernel
  have Fn1 := wNames_any (⟨(kidsX 3 (.slice (some ⟨w46.heap.size, 0, none⟩) 3 3) [(leafX 1 1 1 0 [120]), (leafX 1 1 1 1 []), (leafX 1 1 1 2 [121])]), 5, .slice none 0 0, [], .slice none 0 0, []⟩ : GQ)  (w47.alloc (.cells #[.int .i64 3, .int .i64 0, .int .i64 0, .int .i64 0, .bool false, .int .u64 0, .slice none 0 0, .string ⟨#[]⟩, .slice (some ⟨w46.heap.size, 0, none⟩) 3 3, .int .u64 5, .slice none 0 0, .slice none 0 0] 39)) hqwn1 (by simp [kidsX, leafX, subsT, subsTL]) (hG.later (bstep (bstep (bstep (bstep (bstep (bstep (bstep (bstep (bstep (bstep (bstep (bstep (bstep (bstep (bstep (bstep (bstep (bstep (bstep (bstep (bstep (bstep (bstep (bstep (bstep (bstep (bstep (bstep (bstep (bstep (bstep (bstep (bstep (bstep (bstep (bstep (bstep (bstep (bstep (bstep (bstep (bstep (bstep (bstep hb1 hb3) hb4) hb5) (b1 _ _)) hb6) hb7) (b1 _ _)) hb8) hb10) hb11) hb12) hb13) hb14) (b1 _ _)) hb15) hb17) hb18) hb19) (b1 _ _)) hb20) hb22) hb23) hb25) hb26) hb28) hb29) hb31) hb32) hb34) hb35) hb36) hb37) (b1 _ _)) hb38) hb40) hb41) (b1 _ _)) hb43) hb44) hb45) hb46) (b1 _ _)) hb47) (b1 _ _))) (by rw [hqun1]; exact hnun1)
  rw [hqun1, hvn1_0, hvn1_1] at Fn1
  simp only [GQ.row, kidsX, Tr.row, strOf, List.cons_append, List.nil_append] at Fn1
  clear hqwn1 hqun1 hnun1 hvn1_0 hvn1_1
  refine (Fn1).mono ?_
  rintro e w49 ⟨vN, rfl, hownN, hb49⟩
  clear Fn1
  obtain ⟨AN, cN, rfl⟩ := own_form hownN
  have hbq := (hbox.later hb49).blk
  have c0 := hbq.cell 0 _ rfl
  have c1 := hbq.cell 1 _ rfl
  have c2 := hbq.cell 2 _ rfl
  have c3 := hbq.cell 3 _ rfl
  have c4 := hbq.cell 4 _ rfl
  have c5 := hbq.cell 5 _ rfl
  have c6 := hbq.cell 6 _ rfl
  have c7 := hbq.cell 7 _ rfl
  have c8 := hbq.cell 8 _ rfl
  have c9 := hbq.cell 9 _ rfl
  have c10 := hbq.cell 10 _ rfl
  have c11 := hbq.cell 11 _ rfl
  skip
  clear hbq
  go_wp2_with fail
  have hqwn2 : QW w49 (⟨(kidsX 3 (.slice (some ⟨w46.heap.size, 0, none⟩) 3 3) [(leafX 1 1 1 0 [120]), (leafX 1 1 1 1 []), (leafX 1 1 1 2 [121])]), 5, .slice none 0 0, [], .slice none 0 0, []⟩ : GQ) := ⟨(kidsX_tr (w := w49) (k := 3) (v := (.slice (some ⟨w46.heap.size, 0, none⟩) 3 3)) (ts := [(leafX 1 1 1 0 [120]), (leafX 1 1 1 1 []), (leafX 1 1 1 2 [121])]) (by unfold okV; omega) ((sl_fresh w46 3 9 ([(leafX 1 1 1 0 [120]), (leafX 1 1 1 1 []), (leafX 1 1 1 2 [121])].flatMap Tr.row) 30 rfl (by decide)).later (bstep (bstep hb47 (b1 _ _)) hb49)) (kids_of3 (leafX_tr 1 1 1 0 [120] _ (by unfold okV; omega) (by unfold okV; omega) (by unfold okV; omega) (by unfold okV; omega) (by unfold maxLen; simp)) (leafX_tr 1 1 1 1 [] _ (by unfold okV; omega) (by unfold okV; omega) (by unfold okV; omega) (by unfold okV; omega) (by unfold maxLen; simp)) (leafX_tr 1 1 1 2 [121] _ (by unfold okV; omega) (by unfold okV; omega) (by unfold okV; omega) (by unfold okV; omega) (by unfold maxLen; simp)))), (by show (0 : Int) ≤ 5 ∧ (5 : Int) < 18446744073709551616; decide), Sl.nil _ _, Sl.nil _ _, (fun h hm => by cases hm), (fun h hm => by cases hm)⟩
  have hqun2 : GQ.qu (⟨(kidsX 3 (.slice (some ⟨w46.heap.size, 0, none⟩) 3 3) [(leafX 1 1 1 0 [120]), (leafX 1 1 1 1 []), (leafX 1 1 1 2 [121])]), 5, .slice none 0 0, [], .slice none 0 0, []⟩ : GQ) = (⟨(kidsNd 3 [(leafNd 1 1 1 0 [120]), (leafNd 1 1 1 1 []), (leafNd 1 1 1 2 [121])]), 5, [], []⟩ : Qu) := by unfold GQ.qu; simp only [kidsX_nd, leafX_nd, List.map]
  have hnun2 : ∀ s ∈ useL (⟨(kidsNd 3 [(leafNd 1 1 1 0 [120]), (leafNd 1 1 1 1 []), (leafNd 1 1 1 2 [121])]), 5, [], []⟩ : Qu), s.length ≤ maxLen := by intro s hs; rw [show useL (⟨(kidsNd 3 [(leafNd 1 1 1 0 [120]), (leafNd 1 1 1 1 []), (leafNd 1 1 1 2 [121])]), 5, [], []⟩ : Qu) = [] from rfl] at hs; cases hs
  have hvn2_0 : namedI (⟨(kidsNd 3 [(leafNd 1 1 1 0 [120]), (leafNd 1 1 1 1 []), (leafNd 1 1 1 2 [121])]), 5, [], []⟩ : Qu) [121] = 2 := by decide +kernel
  have hvn2_1 : namedE (⟨(kidsNd 3 [(leafNd 1 1 1 0 [120]), (leafNd 1 1 1 1 []), (leafNd 1 1 1 2 [121])]), 5, [], []⟩ : Qu) [121] = 0 := by decide +kernel
  have Fn2 := wNamed_any (⟨(kidsX 3 (.slice (some ⟨w46.heap.size, 0, none⟩) 3 3) [(leafX 1 1 1 0 [120]), (leafX 1 1 1 1 []), (leafX 1 1 1 2 [121])]), 5, .slice none 0 0, [], .slice none 0 0, []⟩ : GQ) [121] w49 hqwn2 (by simp [kidsX, leafX, subsT, subsTL]) (hG.later (bstep (bstep (bstep (bstep (bstep (bstep (bstep (bstep (bstep (bstep (bstep (bstep (bstep (bstep (bstep (bstep (bstep (bstep (bstep (bstep (bstep (bstep (bstep (bstep (bstep (bstep (bstep (bstep (bstep (bstep (bstep (bstep (bstep (bstep (bstep (bstep (bstep (bstep (bstep (bstep (bstep (bstep (bstep (bstep (bstep hb1 hb3) hb4) hb5) (b1 _ _)) hb6) hb7) (b1 _ _)) hb8) hb10) hb11) hb12) hb13) hb14) (b1 _ _)) hb15) hb17) hb18) hb19) (b1 _ _)) hb20) hb22) hb23) hb25) hb26) hb28) hb29) hb31) hb32) hb34) hb35) hb36) hb37) (b1 _ _)) hb38) hb40) hb41) (b1 _ _)) hb43) hb44) hb45) hb46) (b1 _ _)) hb47) (b1 _ _)) hb49)) (by rw [hqun2]; exact hnun2) (by unfold maxLen; simp)
  rw [hqun2, hvn2_0, hvn2_1] at Fn2
  simp only [GQ.row, kidsX, Tr.row, strOf, List.cons_append, List.nil_append] at Fn2
  clear hqwn2 hqun2 hnun2 hvn2_0 hvn2_1
  refine (Fn2).mono ?_
  rintro e w51 ⟨rfl, hb51⟩
  clear Fn2
  clear c0 c1 c2 c3 c4 c5 c6 c7 c8 c9 c10 c11
  have hbq := (hbox.later (bstep hb49 hb51)).blk
  have c0 := hbq.cell 0 _ rfl
  have c1 := hbq.cell 1 _ rfl
  have c2 := hbq.cell 2 _ rfl
  have c3 := hbq.cell 3 _ rfl
  have c4 := hbq.cell 4 _ rfl
  have c5 := hbq.cell 5 _ rfl
  have c6 := hbq.cell 6 _ rfl
  have c7 := hbq.cell 7 _ rfl
  have c8 := hbq.cell 8 _ rfl
  have c9 := hbq.cell 9 _ rfl
  have c10 := hbq.cell 10 _ rfl
  have c11 := hbq.cell 11 _ rfl
  skip
  clear hbq
  go_wp2_with fail
  have hqwn3 : QW w51 (⟨(kidsX 3 (.slice (some ⟨w46.heap.size, 0, none⟩) 3 3) [(leafX 1 1 1 0 [120]), (leafX 1 1 1 1 []), (leafX 1 1 1 2 [121])]), 5, .slice none 0 0, [], .slice none 0 0, []⟩ : GQ) := ⟨(kidsX_tr (w := w51) (k := 3) (v := (.slice (some ⟨w46.heap.size, 0, none⟩) 3 3)) (ts := [(leafX 1 1 1 0 [120]), (leafX 1 1 1 1 []), (leafX 1 1 1 2 [121])]) (by unfold okV; omega) ((sl_fresh w46 3 9 ([(leafX 1 1 1 0 [120]), (leafX 1 1 1 1 []), (leafX 1 1 1 2 [121])].flatMap Tr.row) 30 rfl (by decide)).later (bstep (bstep (bstep hb47 (b1 _ _)) hb49) hb51)) (kids_of3 (leafX_tr 1 1 1 0 [120] _ (by unfold okV; omega) (by unfold okV; omega) (by unfold okV; omega) (by unfold okV; omega) (by unfold maxLen; simp)) (leafX_tr 1 1 1 1 [] _ (by unfold okV; omega) (by unfold okV; omega) (by unfold okV; omega) (by unfold okV; omega) (by unfold maxLen; simp)) (leafX_tr 1 1 1 2 [121] _ (by unfold okV; omega) (by unfold okV; omega) (by unfold okV; omega) (by unfold okV; omega) (by unfold maxLen; simp)))), (by show (0 : Int) ≤ 5 ∧ (5 : Int) < 18446744073709551616; decide), Sl.nil _ _, Sl.nil _ _, (fun h hm => by cases hm), (fun h hm => by cases hm)⟩
  have hqun3 : GQ.qu (⟨(kidsX 3 (.slice (some ⟨w46.heap.size, 0, none⟩) 3 3) [(leafX 1 1 1 0 [120]), (leafX 1 1 1 1 []), (leafX 1 1 1 2 [121])]), 5, .slice none 0 0, [], .slice none 0 0, []⟩ : GQ) = (⟨(kidsNd 3 [(leafNd 1 1 1 0 [120]), (leafNd 1 1 1 1 []), (leafNd 1 1 1 2 [121])]), 5, [], []⟩ : Qu) := by unfold GQ.qu; simp only [kidsX_nd, leafX_nd, List.map]
  have hnun3 : ∀ s ∈ useL (⟨(kidsNd 3 [(leafNd 1 1 1 0 [120]), (leafNd 1 1 1 1 []), (leafNd 1 1 1 2 [121])]), 5, [], []⟩ : Qu), s.length ≤ maxLen := by intro s hs; rw [show useL (⟨(kidsNd 3 [(leafNd 1 1 1 0 [120]), (leafNd 1 1 1 1 []), (leafNd 1 1 1 2 [121])]), 5, [], []⟩ : Qu) = [] from rfl] at hs; cases hs
  have hvn3_0 : roomA (⟨(kidsNd 3 [(leafNd 1 1 1 0 [120]), (leafNd 1 1 1 1 []), (leafNd 1 1 1 2 [121])]), 5, [], []⟩ : Qu) = 3 := by decide +kernel
  have hvn3_1 : roomD (⟨(kidsNd 3 [(leafNd 1 1 1 0 [120]), (leafNd 1 1 1 1 []), (leafNd 1 1 1 2 [121])]), 5, [], []⟩ : Qu) = 2 := by decide +kernel
  have hvn3_2 : wfE (⟨(kidsNd 3 [(leafNd 1 1 1 0 [120]), (leafNd 1 1 1 1 []), (leafNd 1 1 1 2 [121])]), 5, [], []⟩ : Qu) = 0 := by decide +kernel
  have Fn3 := wRoom_any (⟨(kidsX 3 (.slice (some ⟨w46.heap.size, 0, none⟩) 3 3) [(leafX 1 1 1 0 [120]), (leafX 1 1 1 1 []), (leafX 1 1 1 2 [121])]), 5, .slice none 0 0, [], .slice none 0 0, []⟩ : GQ)  w51 hqwn3 (by simp [kidsX, leafX, subsT, subsTL]) (hG.later (bstep (bstep (bstep (bstep (bstep (bstep (bstep (bstep (bstep (bstep (bstep (bstep (bstep (bstep (bstep (bstep (bstep (bstep (bstep (bstep (bstep (bstep (bstep (bstep (bstep (bstep (bstep (bstep (bstep (bstep (bstep (bstep (bstep (bstep (bstep (bstep (bstep (bstep (bstep (bstep (bstep (bstep (bstep (bstep (bstep (bstep hb1 hb3) hb4) hb5) (b1 _ _)) hb6) hb7) (b1 _ _)) hb8) hb10) hb11) hb12) hb13) hb14) (b1 _ _)) hb15) hb17) hb18) hb19) (b1 _ _)) hb20) hb22) hb23) hb25) hb26) hb28) hb29) hb31) hb32) hb34) hb35) hb36) hb37) (b1 _ _)) hb38) hb40) hb41) (b1 _ _)) hb43) hb44) hb45) hb46) (b1 _ _)) hb47) (b1 _ _)) hb49) hb51)) (by rw [hqun3]; exact hnun3)
  rw [hqun3, hvn3_0, hvn3_1, hvn3_2] at Fn3
  simp only [GQ.row, kidsX, Tr.row, strOf, List.cons_append, List.nil_append] at Fn3
  clear hqwn3 hqun3 hnun3 hvn3_0 hvn3_1 hvn3_2
  refine (Fn3).mono ?_
  rintro e w53 ⟨rfl, hb53⟩
  clear Fn3; clear c0 c1 c2 c3 c4 c5 c6 c7 c8 c9 c10 c11
  go_wp2_with fail
  refine (namedL 0 [120] _).mono ?_
  rintro e w54 ⟨rfl, hb54⟩
  go_wp2_with fail
  refine (namedL 1 [121] _).mono ?_
  rintro e w55 ⟨rfl, hb55⟩
  go_wp2_with fail
  refine (seqL (some ⟨w55.heap.size, 0, none⟩) 2 2 [(leafX 1 1 1 0 [120]), (leafX 1 1 1 1 [121])] _).mono ?_
  rintro e w56 ⟨rfl, hb56⟩
  have hbq := (hbox.later (bstep (bstep (bstep (bstep (bstep (bstep hb49 hb51) hb53) hb54) hb55) (b1 _ _)) hb56)).blk
  have c0 := hbq.cell 0 _ rfl
  have f0 := hbq.fr 0 _ rfl
  have c1 := hbq.cell 1 _ rfl
  have f1 := hbq.fr 1 _ rfl
  have c2 := hbq.cell 2 _ rfl
  have f2 := hbq.fr 2 _ rfl
  have c3 := hbq.cell 3 _ rfl
  have f3 := hbq.fr 3 _ rfl
  have c4 := hbq.cell 4 _ rfl
  have f4 := hbq.fr 4 _ rfl
  have c5 := hbq.cell 5 _ rfl
  have f5 := hbq.fr 5 _ rfl
  have c6 := hbq.cell 6 _ rfl
  have f6 := hbq.fr 6 _ rfl
  have c7 := hbq.cell 7 _ rfl
  have f7 := hbq.fr 7 _ rfl
  have c8 := hbq.cell 8 _ rfl
  have f8 := hbq.fr 8 _ rfl
  have c9 := hbq.cell 9 _ rfl
  have f9 := hbq.fr 9 _ rfl
  have c10 := hbq.cell 10 _ rfl
  have f10 := hbq.fr 10 _ rfl
  have c11 := hbq.cell 11 _ rfl
  have f11 := hbq.fr 11 _ rfl
  have clt := hbq.lt
  clear hbq
  go_upto_region 9 with fail
  refine named_wp ?_
  intro W9 hW9
  obtain ⟨X9, hX9⟩ : ∃ X9, X9 = ((((((((((((w56.setCell ⟨w47.heap.size, 0, none⟩ (.int .i64 3)).setCell ⟨w47.heap.size, 1, none⟩ (.int .i64 0)).setCell ⟨w47.heap.size, 2, none⟩ (.int .i64 0)).setCell ⟨w47.heap.size, 3, none⟩ (.int .i64 0)).setCell ⟨w47.heap.size, 4, none⟩ (.bool false)).setCell ⟨w47.heap.size, 5, none⟩ (.int .u64 0)).setCell ⟨w47.heap.size, 6, none⟩ (.slice none 0 0)).setCell ⟨w47.heap.size, 7, none⟩ (.string ⟨#[]⟩)).setCell ⟨w47.heap.size, 8, none⟩ (.slice (some ⟨w55.heap.size, 0, none⟩) 2 2)).setCell ⟨w47.heap.size, 9, none⟩ (.int .u64 5)).setCell ⟨w47.heap.size, 10, none⟩ (.slice (some ⟨w56.heap.size, 0, none⟩) 1 1)).setCell ⟨w47.heap.size, 11, none⟩ (.slice (some ⟨w56.heap.size + 1, 0, none⟩) 2 2)) := ⟨_, rfl⟩
  rw [← hX9] at hW9
  clear c0 f0 c1 f1 c2 f2 c3 f3 c4 f4 c5 f5 c6 f6 c7 f7 c8 f8 c9 f9 c10 f10 c11 f11
  have hxq : Bx w56 w47.heap.size 39 _ := hbox.later (bstep (bstep (bstep (bstep (bstep (bstep hb49 hb51) hb53) hb54) hb55) (b1 _ _)) hb56)
  have hgX : w56.grownBy X9 (some w47.heap.size) := by
    rw [hX9]; exact (grown_set10 (grown_set10 (grown_set10 (grown_set10 (grown_set10 (grown_set10 (grown_set10 (grown_set10 (grown_set10 (grown_set10 (grown_set10 (grown_set10 (grown_id _ _) 0 _) 1 _) 2 _) 3 _) 4 _) 5 _) 6 _) 7 _) 8 _) 9 _) 10 _) 11 _)
  have hsX : X9.heap.size = w56.heap.size := by rw [hX9]; simp [World.setCell]
  have hbk : Blk X9 w47.heap.size [.int .i64 3, .int .i64 0, .int .i64 0, .int .i64 0, .bool false, .int .u64 0, .slice none 0 0, .string ⟨#[]⟩, .slice (some ⟨w55.heap.size, 0, none⟩) 2 2, .int .u64 5, .slice (some ⟨w56.heap.size, 0, none⟩) 1 1, .slice (some ⟨w56.heap.size + 1, 0, none⟩) 2 2] := by rw [hX9]; exact ((((((((((((hxq.blk.set 0 _).set 1 _).set 2 _).set 3 _).set 4 _).set 5 _).set 6 _).set 7 _).set 8 _).set 9 _).set 10 _).set 11 _)
  have hlow := (bstep (bstep (bstep (bstep (bstep (bstep (bstep (bstep (bstep (bstep (bstep (bstep (bstep (bstep (bstep (bstep (bstep (bstep (bstep (bstep (bstep (bstep (bstep (bstep (bstep (bstep (bstep (bstep (bstep (bstep (bstep (bstep (bstep (bstep (bstep (bstep (bstep (bstep (bstep (bstep (bstep (bstep (bstep hb1 hb3) hb4) hb5) (b1 _ _)) hb6) hb7) (b1 _ _)) hb8) hb10) hb11) hb12) hb13) hb14) (b1 _ _)) hb15) hb17) hb18) hb19) (b1 _ _)) hb20) hb22) hb23) hb25) hb26) hb28) hb29) hb31) hb32) hb34) hb35) hb36) hb37) (b1 _ _)) hb38) hb40) hb41) (b1 _ _)) hb43) hb44) hb45) hb46) (b1 _ _)) hb47)
  have hBX : Below w.heap.size w X9 := by rw [hX9]; exact (((((((((((((bstep (bstep (bstep (bstep (bstep (bstep (bstep (bstep (bstep (bstep (bstep (bstep (bstep (bstep (bstep (bstep (bstep (bstep (bstep (bstep (bstep (bstep (bstep (bstep (bstep (bstep (bstep (bstep (bstep (bstep (bstep (bstep (bstep (bstep (bstep (bstep (bstep (bstep (bstep (bstep (bstep (bstep (bstep (bstep (bstep (bstep (bstep (bstep (bstep (bstep (bstep hb1 hb3) hb4) hb5) (b1 _ _)) hb6) hb7) (b1 _ _)) hb8) hb10) hb11) hb12) hb13) hb14) (b1 _ _)) hb15) hb17) hb18) hb19) (b1 _ _)) hb20) hb22) hb23) hb25) hb26) hb28) hb29) hb31) hb32) hb34) hb35) hb36) hb37) (b1 _ _)) hb38) hb40) hb41) (b1 _ _)) hb43) hb44) hb45) hb46) (b1 _ _)) hb47) (b1 _ _)) hb49) hb51) hb53) hb54) hb55) (b1 _ _)) hb56).setCell (p := ⟨w47.heap.size, 0, none⟩) hlow.size _).setCell (p := ⟨w47.heap.size, 1, none⟩) hlow.size _).setCell (p := ⟨w47.heap.size, 2, none⟩) hlow.size _).setCell (p := ⟨w47.heap.size, 3, none⟩) hlow.size _).setCell (p := ⟨w47.heap.size, 4, none⟩) hlow.size _).setCell (p := ⟨w47.heap.size, 5, none⟩) hlow.size _).setCell (p := ⟨w47.heap.size, 6, none⟩) hlow.size _).setCell (p := ⟨w47.heap.size, 7, none⟩) hlow.size _).setCell (p := ⟨w47.heap.size, 8, none⟩) hlow.size _).setCell (p := ⟨w47.heap.size, 9, none⟩) hlow.size _).setCell (p := ⟨w47.heap.size, 10, none⟩) hlow.size _).setCell (p := ⟨w47.heap.size, 11, none⟩) hlow.size _)
  clear hX9
  have hB9 : Below w.heap.size w W9 := hW9 ▸ bstep hBX (b2 _ _ _)
  have hk9 : Blk W9 w47.heap.size [.int .i64 3, .int .i64 0, .int .i64 0, .int .i64 0, .bool false, .int .u64 0, .slice none 0 0, .string ⟨#[]⟩, .slice (some ⟨w55.heap.size, 0, none⟩) 2 2, .int .u64 5, .slice (some ⟨w56.heap.size, 0, none⟩) 1 1, .slice (some ⟨w56.heap.size + 1, 0, none⟩) 2 2] := hW9 ▸ (hbk.later (b1 _ _)).later (b1 _ _)
  have hG9 := hG.later hB9
  have hs55 := (sl_fresh w55 2 9 ([(leafX 1 1 1 0 [120]), (leafX 1 1 1 1 [121])].flatMap Tr.row) 30 rfl (by decide)).later hb56
  have hlt55 : w47.heap.size < w55.heap.size := (hbox.later (bstep (bstep (bstep (bstep hb49 hb51) hb53) hb54) hb55)).lt
  have hs9 : Sl W9 9 2 (.slice (some ⟨w55.heap.size, 0, none⟩) 2 2) ([(leafX 1 1 1 0 [120]), (leafX 1 1 1 1 [121])].flatMap Tr.row) := hW9 ▸ ((sl_but hs55 hgX (by simp; omega)).later (b1 _ _)).later (b1 _ _)
  have hh9 : Sl W9 4 1 (.slice (some ⟨w56.heap.size, 0, none⟩) 1 1) (([⟨⟨2, [121]⟩, ⟨5, 1⟩⟩] : List Hv).flatMap hvC) := by rw [← hsX, hW9]; exact (sl_fresh X9 1 4 (([⟨⟨2, [121]⟩, ⟨5, 1⟩⟩] : List Hv).flatMap hvC) 52 rfl (by decide)).later (b1 _ _)
  have he9 : Sl W9 2 2 (.slice (some ⟨w56.heap.size + 1, 0, none⟩) 2 2) (([⟨3, [120]⟩, ⟨4, [121]⟩] : List Ag).flatMap agC) := by
    have h := sl_fresh (X9.alloc (.cells #[.int .i64 2, .string ⟨#[121]⟩, .int .i64 5, .int .i64 1] 52)) 2 2 (([⟨3, [120]⟩, ⟨4, [121]⟩] : List Ag).flatMap agC) 41 rfl (by decide)
    rw [World.size_alloc, hsX] at h; rw [hW9]; exact h
  have hN56 := own_later hownN (bstep (bstep (bstep (bstep (bstep hb51 hb53) hb54) hb55) (b1 _ _)) hb56)
  have hN9 := own_later (hN56.kept hgX (.inr (own_ne hN56 hxq (by decide)))) (hW9 ▸ b2 _ _ _ : Below X9.heap.size X9 W9)
  have hu9 := Slc.of_own hN9
  clear hW9 hgX hbk hs55 hN56 hN9 hownN hbox hxq hBX hlow hsX hlt55
  have htr9 : TrW W9 (kidsX 3 (.slice (some ⟨w55.heap.size, 0, none⟩) 2 2) [(leafX 1 1 1 0 [120]), (leafX 1 1 1 1 [121])]) := kidsX_tr (by unfold okV; omega) hs9 (kids_of2 (leafX_tr 1 1 1 0 [120] _ (by unfold okV; omega) (by unfold okV; omega) (by unfold okV; omega) (by unfold okV; omega) (by unfold maxLen; simp)) (leafX_tr 1 1 1 1 [121] _ (by unfold okV; omega) (by unfold okV; omega) (by unfold okV; omega) (by unfold okV; omega) (by unfold maxLen; simp)))
  have hqw9 : QW W9 (⟨(kidsX 3 (.slice (some ⟨w55.heap.size, 0, none⟩) 2 2) [(leafX 1 1 1 0 [120]), (leafX 1 1 1 1 [121])]), 5, .slice (some ⟨w56.heap.size, 0, none⟩) 1 1, [⟨⟨2, [121]⟩, ⟨5, 1⟩⟩], .slice (some ⟨w56.heap.size + 1, 0, none⟩) 2 2, [⟨3, [120]⟩, ⟨4, [121]⟩]⟩ : GQ) := ⟨htr9, (by show (0 : Int) ≤ 5 ∧ (5 : Int) < 18446744073709551616; decide), hh9, he9, (fun h hm => by simp only [List.mem_cons, List.not_mem_nil, or_false] at hm; subst hm; exact ⟨⟨(show okV 5 from by unfold okV; omega), (show okV 1 from by unfold okV; omega)⟩, (show okV 2 from by unfold okV; omega)⟩), (fun h hm => by simp only [List.mem_cons, List.not_mem_nil, or_false] at hm; rcases hm with rfl | rfl; exact (show okV 3 from by unfold okV; omega); exact (show okV 4 from by unfold okV; omega))⟩
  have hqu9 : GQ.qu (⟨(kidsX 3 (.slice (some ⟨w55.heap.size, 0, none⟩) 2 2) [(leafX 1 1 1 0 [120]), (leafX 1 1 1 1 [121])]), 5, .slice (some ⟨w56.heap.size, 0, none⟩) 1 1, [⟨⟨2, [121]⟩, ⟨5, 1⟩⟩], .slice (some ⟨w56.heap.size + 1, 0, none⟩) 2 2, [⟨3, [120]⟩, ⟨4, [121]⟩]⟩ : GQ) = (⟨(kidsNd 3 [(leafNd 1 1 1 0 [120]), (leafNd 1 1 1 1 [121])]), 5, [⟨⟨2, [121]⟩, ⟨5, 1⟩⟩], [⟨3, [120]⟩, ⟨4, [121]⟩]⟩ : Qu) := by unfold GQ.qu; simp only [kidsX_nd, leafX_nd, List.map]
  have hnu9 : ∀ s ∈ useL (⟨(kidsNd 3 [(leafNd 1 1 1 0 [120]), (leafNd 1 1 1 1 [121])]), 5, [⟨⟨2, [121]⟩, ⟨5, 1⟩⟩], [⟨3, [120]⟩, ⟨4, [121]⟩]⟩ : Qu), s.length ≤ maxLen := by intro s hs; rw [show useL (⟨(kidsNd 3 [(leafNd 1 1 1 0 [120]), (leafNd 1 1 1 1 [121])]), 5, [⟨⟨2, [121]⟩, ⟨5, 1⟩⟩], [⟨3, [120]⟩, ⟨4, [121]⟩]⟩ : Qu) = [[121], [120], [121]] from rfl] at hs; simp only [List.mem_cons, List.not_mem_nil, or_false] at hs; rcases hs with rfl | rfl | rfl <;> (unfold maxLen; simp)
  have hv90 : usesL (⟨(kidsNd 3 [(leafNd 1 1 1 0 [120]), (leafNd 1 1 1 1 [121])]), 5, [⟨⟨2, [121]⟩, ⟨5, 1⟩⟩], [⟨3, [120]⟩, ⟨4, [121]⟩]⟩ : Qu) = [[121], [120]] := by decide +kernel
  have hv91 : wfE (⟨(kidsNd 3 [(leafNd 1 1 1 0 [120]), (leafNd 1 1 1 1 [121])]), 5, [⟨⟨2, [121]⟩, ⟨5, 1⟩⟩], [⟨3, [120]⟩, ⟨4, [121]⟩]⟩ : Qu) = 0 := by decide +kernel
  have F9 := wUses_any (⟨(kidsX 3 (.slice (some ⟨w55.heap.size, 0, none⟩) 2 2) [(leafX 1 1 1 0 [120]), (leafX 1 1 1 1 [121])]), 5, .slice (some ⟨w56.heap.size, 0, none⟩) 1 1, [⟨⟨2, [121]⟩, ⟨5, 1⟩⟩], .slice (some ⟨w56.heap.size + 1, 0, none⟩) 2 2, [⟨3, [120]⟩, ⟨4, [121]⟩]⟩ : GQ) W9 hqw9 (by simp [kidsX, leafX, subsT, subsTL]) hG9 (by rw [hqu9]; exact hnu9) (by rw [hqu9, show useL (⟨(kidsNd 3 [(leafNd 1 1 1 0 [120]), (leafNd 1 1 1 1 [121])]), 5, [⟨⟨2, [121]⟩, ⟨5, 1⟩⟩], [⟨3, [120]⟩, ⟨4, [121]⟩]⟩ : Qu) = [[121], [120], [121]] from rfl]; decide)
  rw [hqu9, hv90, hv91] at F9
  simp only [GQ.row, kidsX, Tr.row, strOf, List.cons_append, List.nil_append] at F9
  clear hqw9 hqu9 hnu9 hv90 hv91 htr9 hs9 hh9 he9
  have c0 := hk9.cell 0 _ rfl
  have c1 := hk9.cell 1 _ rfl
  have c2 := hk9.cell 2 _ rfl
  have c3 := hk9.cell 3 _ rfl
  have c4 := hk9.cell 4 _ rfl
  have c5 := hk9.cell 5 _ rfl
  have c6 := hk9.cell 6 _ rfl
  have c7 := hk9.cell 7 _ rfl
  have c8 := hk9.cell 8 _ rfl
  have c9 := hk9.cell 9 _ rfl
  have c10 := hk9.cell 10 _ rfl
  have c11 := hk9.cell 11 _ rfl
  clear hk9
  go_wp2_with fail
  refine (F9).mono ?_
  rintro e wy1 ⟨vU, rfl, hownU, hby1⟩
  clear F9
  obtain ⟨AU, cU, rfl⟩ := own_form hownU
  clear c0 c1 c2 c3 c4 c5 c6 c7 c8 c9 c10 c11
  go_wp2_with fail
  refine (wawake_any _ (hG9.later hby1)).mono ?_
  rintro e wy2 ⟨rfl, hby2⟩
  go_wp2_with fail
  have hu1 := (hu9.below (bstep hby1 hby2)).alloc (.cells #[.string ⟨#[120]⟩, .string ⟨#[121]⟩] 9)
  have hu2 := (Slc.of_own hownU).below hby2
  refine (sameTexts_same _ _ [⟨#[120]⟩, ⟨#[121]⟩] _ hu1 (Slc.lit wy2 _ 9 2 rfl (by decide))).mono ?_
  rintro e _ ⟨rfl, m1, rfl⟩
  go_wp2_with fail
  have hv2 := Slc.lit ((wy2.alloc (.cells #[.string ⟨#[120]⟩, .string ⟨#[121]⟩] 9)).drewN m1) [.string ⟨#[121]⟩, .string ⟨#[120]⟩] 9 2 rfl (by decide)
  have hz2 : ((wy2.alloc (.cells #[.string ⟨#[120]⟩, .string ⟨#[121]⟩] 9)).drewN m1).heap.size = wy2.heap.size + 1 := by simp
  rw [hz2] at hv2
  refine (sameTexts_same _ _ [⟨#[121]⟩, ⟨#[120]⟩] _ (((hu2.alloc (.cells #[.string ⟨#[120]⟩, .string ⟨#[121]⟩] 9)).drewN m1).alloc (.cells #[.string ⟨#[121]⟩, .string ⟨#[120]⟩] 9)) hv2).mono ?_
  rintro e _ ⟨rfl, m2, rfl⟩
  go_wp2_with fail
  go_ret
  exact ⟨rfl, below_drewN (bstep (below_drewN (bstep (bstep hB9 (bstep hby1 hby2)) (b1 _ _)) m1) (b1 _ _)) m2⟩
end Go.Proofs.YthiacfmedcfcjaaDoor
