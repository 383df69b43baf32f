/- Walk: the law's awake. Made by program (wip/tools/gen_wfS.py). -/
import Derived.Test.YthiacfmedcfcjaaDoorWfR
namespace Go.Proofs.YthiacfmedcfcjaaDoor
open Go.RowKit Go.Shelf Go.Maps
open A8 W10
attribute [local go_sem] Oper.semAt_some

def leafNd (k mn mx kd : Int) (nm : List UInt8) : Nd := .mk k mn mx ⟨kd, false, 0, [], nm⟩ []
def kidsNd (k : Int) (ns : List Nd) : Nd := .mk k 0 0 ⟨0, false, 0, [], []⟩ ns
theorem leafX_nd (k mn mx kd : Int) (nm : List UInt8) : (leafX k mn mx kd nm).nd = leafNd k mn mx kd nm := by unfold leafX leafNd; rw [nd_mk]; rfl
theorem kidsX_nd (k : Int) (v : Value) (ts : List Tr) : (kidsX k v ts).nd = kidsNd k (ts.map Tr.nd) := by unfold kidsX kidsNd; rw [nd_mk]
theorem kids_of2 {w : World} {a b : Tr} (ha : TrW w a) (hb : TrW w b) : ∀ t ∈ [a, b], TrW w t := by
  intro t ht
  simp only [List.mem_cons, List.not_mem_nil, or_false] at ht
  rcases ht with rfl | rfl
  · exact ha
  · exact hb
theorem kids_of3 {w : World} {a b c : Tr} (ha : TrW w a) (hb : TrW w b) (hc : TrW w c) : ∀ t ∈ [a, b, c], TrW w t := by
  intro t ht
  simp only [List.mem_cons, List.not_mem_nil, or_false] at ht
  rcases ht with rfl | rfl | rfl
  · exact ha
  · exact hb
  · exact hc
theorem kids_of4 {w : World} {a b c d : Tr} (ha : TrW w a) (hb : TrW w b) (hc : TrW w c) (hd : TrW w d) : ∀ t ∈ [a, b, c, d], TrW w t := by
  intro t ht
  simp only [List.mem_cons, List.not_mem_nil, or_false] at ht
  rcases ht with rfl | rfl | rfl | rfl
  · exact ha
  · exact hb
  · exact hc
  · exact hd
set_option maxRecDepth 100000 in
set_option maxHeartbeats 8000000 in
theorem wawake_any (w : World) (hG : SG w) : Calls Tryd.prog 18 #[] w fun e w' => e = .returned (.bool true) ∧ Below w.heap.size w w' := by
  have letterL := letter_any
  have namedL := named_any
  have notL := not_any
  have timesL := times_any
  have seqL := seq_any
  have altL := alt_any
  simp only [kidsX, leafX, Tr.row, strOf] at letterL namedL notL timesL seqL altL
  go_enter Tryd.func18, Tryd.ntmps18
  go_wp2_with fail
  refine (letterL 0 _).mono ?_
  rintro e w1 ⟨rfl, hb1⟩
  go_wp2_with fail
  have tr2 : TrW w1 (leafX 1 1 1 0 []) := (leafX_tr 1 1 1 0 [] _ (by unfold okV; omega) (by unfold okV; omega) (by unfold okV; omega) (by unfold okV; omega) (by unfold maxLen; simp))
  have hE2 : wfE ⟨(leafNd 1 1 1 0 []), 5, [], []⟩ = 0 := by decide +kernel
  have F2 := fails_any (leafX 1 1 1 0 []) (leafNd 1 1 1 0 []) 0 w1 tr2 (by simp [leafX, subsT, subsTL]) (hG.later hb1) (by simp only [leafX_nd]) hE2
  simp only [leafX, Tr.row, strOf] at F2
  clear tr2 hE2
  refine (F2).mono ?_
  rintro e w3 ⟨rfl, hb3⟩
  clear F2
  go_wp2_with fail
  refine (letterL 0 _).mono ?_
  rintro e w4 ⟨rfl, hb4⟩
  go_wp2_with fail
  refine (notL 1 [] _).mono ?_
  rintro e w5 ⟨rfl, hb5⟩
  go_wp2_with fail
  refine (letterL 2 _).mono ?_
  rintro e w6 ⟨rfl, hb6⟩
  go_wp2_with fail
  refine (seqL (some ⟨w6.heap.size, 0, none⟩) 3 3 [(leafX 1 1 1 0 []), (leafX 2 0 0 1 []), (leafX 1 1 1 2 [])] _).mono ?_
  rintro e w7 ⟨rfl, hb7⟩
  go_wp2_with fail
  have tr8 : TrW w7 (kidsX 3 (.slice (some ⟨w6.heap.size, 0, none⟩) 3 3) [(leafX 1 1 1 0 []), (leafX 2 0 0 1 []), (leafX 1 1 1 2 [])]) := (kidsX_tr (w := w7) (k := 3) (v := (.slice (some ⟨w6.heap.size, 0, none⟩) 3 3)) (ts := [(leafX 1 1 1 0 []), (leafX 2 0 0 1 []), (leafX 1 1 1 2 [])]) (by unfold okV; omega) ((sl_fresh w6 3 9 ([(leafX 1 1 1 0 []), (leafX 2 0 0 1 []), (leafX 1 1 1 2 [])].flatMap Tr.row) 30 rfl (by decide)).later hb7) (kids_of3 (leafX_tr 1 1 1 0 [] _ (by unfold okV; omega) (by unfold okV; omega) (by unfold okV; omega) (by unfold okV; omega) (by unfold maxLen; simp)) (leafX_tr 2 0 0 1 [] _ (by unfold okV; omega) (by unfold okV; omega) (by unfold okV; omega) (by unfold okV; omega) (by unfold maxLen; simp)) (leafX_tr 1 1 1 2 [] _ (by unfold okV; omega) (by unfold okV; omega) (by unfold okV; omega) (by unfold okV; omega) (by unfold maxLen; simp))))
  have hE8 : wfE ⟨(kidsNd 3 [(leafNd 1 1 1 0 []), (leafNd 2 0 0 1 []), (leafNd 1 1 1 2 [])]), 5, [], []⟩ = 0 := by decide +kernel
  have F8 := fails_any (kidsX 3 (.slice (some ⟨w6.heap.size, 0, none⟩) 3 3) [(leafX 1 1 1 0 []), (leafX 2 0 0 1 []), (leafX 1 1 1 2 [])]) (kidsNd 3 [(leafNd 1 1 1 0 []), (leafNd 2 0 0 1 []), (leafNd 1 1 1 2 [])]) 0 w7 tr8 (by simp [kidsX, leafX, subsT, subsTL]) (hG.later (bstep (bstep (bstep (bstep (bstep (bstep hb1 hb3) hb4) hb5) hb6) (b1 _ _)) hb7)) (by simp only [kidsX_nd, leafX_nd, List.map]) hE8
  simp only [kidsX, Tr.row, strOf] at F8
  clear tr8 hE8
  refine (F8).mono ?_
  rintro e w9 ⟨rfl, hb9⟩
  clear F8
  go_wp2_with fail
  refine (letterL 0 _).mono ?_
  rintro e w10 ⟨rfl, hb10⟩
  go_wp2_with fail
  refine (notL 1 [] _).mono ?_
  rintro e w11 ⟨rfl, hb11⟩
  go_wp2_with fail
  refine (seqL (some ⟨w11.heap.size, 0, none⟩) 2 2 [(leafX 1 1 1 0 []), (leafX 2 0 0 1 [])] _).mono ?_
  rintro e w12 ⟨rfl, hb12⟩
  go_wp2_with fail
  have tr13 : TrW w12 (kidsX 3 (.slice (some ⟨w11.heap.size, 0, none⟩) 2 2) [(leafX 1 1 1 0 []), (leafX 2 0 0 1 [])]) := (kidsX_tr (w := w12) (k := 3) (v := (.slice (some ⟨w11.heap.size, 0, none⟩) 2 2)) (ts := [(leafX 1 1 1 0 []), (leafX 2 0 0 1 [])]) (by unfold okV; omega) ((sl_fresh w11 2 9 ([(leafX 1 1 1 0 []), (leafX 2 0 0 1 [])].flatMap Tr.row) 30 rfl (by decide)).later hb12) (kids_of2 (leafX_tr 1 1 1 0 [] _ (by unfold okV; omega) (by unfold okV; omega) (by unfold okV; omega) (by unfold okV; omega) (by unfold maxLen; simp)) (leafX_tr 2 0 0 1 [] _ (by unfold okV; omega) (by unfold okV; omega) (by unfold okV; omega) (by unfold okV; omega) (by unfold maxLen; simp))))
  have hE13 : wfE ⟨(kidsNd 3 [(leafNd 1 1 1 0 []), (leafNd 2 0 0 1 [])]), 5, [], []⟩ = 9 := by decide +kernel
  have F13 := fails_any (kidsX 3 (.slice (some ⟨w11.heap.size, 0, none⟩) 2 2) [(leafX 1 1 1 0 []), (leafX 2 0 0 1 [])]) (kidsNd 3 [(leafNd 1 1 1 0 []), (leafNd 2 0 0 1 [])]) 9 w12 tr13 (by simp [kidsX, leafX, subsT, subsTL]) (hG.later (bstep (bstep (bstep (bstep (bstep (bstep (bstep (bstep (bstep (bstep (bstep hb1 hb3) hb4) hb5) hb6) (b1 _ _)) hb7) hb9) hb10) hb11) (b1 _ _)) hb12)) (by simp only [kidsX_nd, leafX_nd, List.map]) hE13
  simp only [kidsX, Tr.row, strOf] at F13
  clear tr13 hE13
  refine (F13).mono ?_
  rintro e w14 ⟨rfl, hb14⟩
  clear F13
  go_wp2_with fail
  refine (namedL 0 [120] _).mono ?_
  rintro e w15 ⟨rfl, hb15⟩
  go_wp2_with fail
  refine (namedL 1 [120] _).mono ?_
  rintro e w16 ⟨rfl, hb16⟩
  go_wp2_with fail
  refine (seqL (some ⟨w16.heap.size, 0, none⟩) 2 2 [(leafX 1 1 1 0 [120]), (leafX 1 1 1 1 [120])] _).mono ?_
  rintro e w17 ⟨rfl, hb17⟩
  go_wp2_with fail
  have tr18 : TrW w17 (kidsX 3 (.slice (some ⟨w16.heap.size, 0, none⟩) 2 2) [(leafX 1 1 1 0 [120]), (leafX 1 1 1 1 [120])]) := (kidsX_tr (w := w17) (k := 3) (v := (.slice (some ⟨w16.heap.size, 0, none⟩) 2 2)) (ts := [(leafX 1 1 1 0 [120]), (leafX 1 1 1 1 [120])]) (by unfold okV; omega) ((sl_fresh w16 2 9 ([(leafX 1 1 1 0 [120]), (leafX 1 1 1 1 [120])].flatMap Tr.row) 30 rfl (by decide)).later hb17) (kids_of2 (leafX_tr 1 1 1 0 [120] _ (by unfold okV; omega) (by unfold okV; omega) (by unfold okV; omega) (by unfold okV; omega) (by unfold maxLen; simp)) (leafX_tr 1 1 1 1 [120] _ (by unfold okV; omega) (by unfold okV; omega) (by unfold okV; omega) (by unfold okV; omega) (by unfold maxLen; simp))))
  have hE18 : wfE ⟨(kidsNd 3 [(leafNd 1 1 1 0 [120]), (leafNd 1 1 1 1 [120])]), 5, [], []⟩ = 8 := by decide +kernel
  have F18 := fails_any (kidsX 3 (.slice (some ⟨w16.heap.size, 0, none⟩) 2 2) [(leafX 1 1 1 0 [120]), (leafX 1 1 1 1 [120])]) (kidsNd 3 [(leafNd 1 1 1 0 [120]), (leafNd 1 1 1 1 [120])]) 8 w17 tr18 (by simp [kidsX, leafX, subsT, subsTL]) (hG.later (bstep (bstep (bstep (bstep (bstep (bstep (bstep (bstep (bstep (bstep (bstep (bstep (bstep (bstep (bstep (bstep hb1 hb3) hb4) hb5) hb6) (b1 _ _)) hb7) hb9) hb10) hb11) (b1 _ _)) hb12) hb14) hb15) hb16) (b1 _ _)) hb17)) (by simp only [kidsX_nd, leafX_nd, List.map]) hE18
  simp only [kidsX, Tr.row, strOf] at F18
  clear tr18 hE18
  refine (F18).mono ?_
  rintro e w19 ⟨rfl, hb19⟩
  clear F18
  go_wp2_with fail
  go_ret
  exact ⟨rfl, (bstep (bstep (bstep (bstep (bstep (bstep (bstep (bstep (bstep (bstep (bstep (bstep (bstep (bstep (bstep (bstep (bstep hb1 hb3) hb4) hb5) hb6) (b1 _ _)) hb7) hb9) hb10) hb11) (b1 _ _)) hb12) hb14) hb15) hb16) (b1 _ _)) hb17) hb19)⟩
end Go.Proofs.YthiacfmedcfcjaaDoor
