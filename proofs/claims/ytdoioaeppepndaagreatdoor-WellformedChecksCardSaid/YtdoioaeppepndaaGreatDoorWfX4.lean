/- The law's makers and examples. -/
import Derived.Test.YtdoioaeppepndaaGreatDoorWfX3
import Derived.Test.YtdoioaeppepndaaGreatDoorKitSameTexts
namespace Go.Proofs.YtdoioaeppepndaaGreatDoor
open Go.RowKit Go.Shelf Go.Maps
open A8 W10
attribute [local go_sem] Oper.semAt_some

/-- Leaves and nodes of the law's own. -/
def leafX (k mn mx kd : Int) (nm : List UInt8) : Tr := .mk k mn mx ⟨⟨kd, false, 0, [], nm⟩, .slice none 0 0⟩ (.slice none 0 0) []
def kidsX (k : Int) (v : Value) (ts : List Tr) : Tr := .mk k 0 0 ⟨⟨0, false, 0, [], []⟩, .slice none 0 0⟩ v ts
theorem strOf_nil : strOf [] = ⟨#[]⟩ := rfl
theorem leafX_tr (k mn mx kd : Int) (nm : List UInt8) (w : World) (h1 : okV k) (h2 : okV mn) (h3 : okV mx) (h4 : okV kd) (h5 : nm.length ≤ maxLen) : TrW w (leafX k mn mx kd nm) := by
  intro t ht
  unfold leafX at ht
  simp only [subsT, subsTL, List.mem_singleton] at ht
  subst ht
  exact ⟨⟨h1, h2, h3⟩, ⟨⟨h4, by simp, (fun c hc => by cases hc), h5⟩, Sl.nil _ _⟩, Sl.nil _ _⟩
theorem kidsX_tr {k : Int} {v : Value} {ts : List Tr} {w : World} (h1 : okV k) (hs : Sl w 9 ts.length v (ts.flatMap Tr.row)) (ht : ∀ t ∈ ts, TrW w t) : TrW w (kidsX k v ts) := by
  intro u hu
  unfold kidsX at hu
  simp only [subsT, subsTL_flat, List.mem_cons, List.mem_flatMap] at hu
  rcases hu with rfl | ⟨t, h2, h3⟩
  · exact ⟨⟨h1, by unfold okV; omega, by unfold okV; omega⟩, ⟨⟨(show okV 0 from by unfold okV; omega), by simp, (fun c hc => by cases hc), by unfold maxLen; simp⟩, Sl.nil _ _⟩, hs⟩
  · exact ht t h2 u h3
theorem sl_fresh (w : World) (n sz : Nat) (us : List Value) (t : TypeId) (hl : us.length = n * sz) (hn : n ≤ 1000000) : Sl (w.alloc (.cells us.toArray t)) sz n (.slice (some ⟨w.heap.size, 0, none⟩) n n) us := by
  refine ⟨hl, by unfold maxLen; omega, _, _, rfl, Nat.le_refl _, (fun h => by cases h), fun i u hu => ⟨_, rfl, by simp, ?_⟩⟩
  have h := (Blk.new w us t).cell i u hu
  unfold Addr.add
  by_cases hi : i = 0
  · subst hi
    rw [if_pos rfl]
    exact h
  · rw [if_neg hi]
    simpa using h
theorem letter_any (k : Int) (w : World) : Calls Tryz.prog 71 #[.int .i64 k] w fun e w' => e = .returned (.agg (leafX 1 1 1 k []).row.toArray) ∧ Below w.heap.size w w' := by
  simp only [leafX, Tr.row, strOf_nil]
  go_enter Tryz.func71, Tryz.ntmps71
  go_wp2
  refine bodyPost_ret (by simp [results, Tryz.results71, go_sem]; try rfl) rfl ?_
  exact ⟨rfl, b1 _ _⟩
set_option maxHeartbeats 2000000 in
theorem named_any (k : Int) (nm : List UInt8) (w : World) : Calls Tryz.prog 74 #[.int .i64 k, .string (strOf nm)] w fun e w' => e = .returned (.agg (leafX 1 1 1 k nm).row.toArray) ∧ Below w.heap.size w w' := by
  have hl := fun w => letter_any k w
  simp only [leafX, Tr.row, strOf_nil] at hl ⊢
  go_enter Tryz.func74, Tryz.ntmps74
  go_upto_region 2 with (go_at_call 71; refine (hl _).mono ?_; rintro e w1 ⟨rfl, hb1⟩)
  clear hl
  obtain ⟨W2, hW2⟩ : ∃ W2, W2 = w1.alloc (.cells #[.int .i64 1, .int .i64 1, .int .i64 1, .int .i64 k, .bool false, .int .u64 0, .slice none 0 0, .string ⟨#[]⟩, .slice none 0 0] 31) := ⟨_, rfl⟩
  rw [← hW2]
  have hA : Blk W2 w.heap.size [.int .i64 0, .int .i64 0, .int .i64 0, .int .i64 0, .bool false, .int .u64 0, .slice none 0 0, .string ⟨#[]⟩, .slice none 0 0] := hW2 ▸ ((Blk.new w [.int .i64 0, .int .i64 0, .int .i64 0, .int .i64 0, .bool false, .int .u64 0, .slice none 0 0, .string ⟨#[]⟩, .slice none 0 0] 31).later hb1).later (b1 _ _)
  have hD : Blk W2 w1.heap.size [.int .i64 1, .int .i64 1, .int .i64 1, .int .i64 k, .bool false, .int .u64 0, .slice none 0 0, .string ⟨#[]⟩, .slice none 0 0] := hW2 ▸ Blk.new w1 [.int .i64 1, .int .i64 1, .int .i64 1, .int .i64 k, .bool false, .int .u64 0, .slice none 0 0, .string ⟨#[]⟩, .slice none 0 0] 31
  have hbw : Below w.heap.size w W2 := hW2 ▸ bstep (bstep (b1 _ _) hb1) (b1 _ _)
  have hlt : w.heap.size < w1.heap.size := by have := hb1.size; simp at this; omega
  have hne : ¬ w1.heap.size = w.heap.size := by omega
  have hne2 : ¬ w.heap.size = w1.heap.size := by omega
  have HA := Lib.hid hA
  have HD := Lib.hid hD
  have HB := Lib.hid hbw
  have d0 := hD.cell 0 _ rfl
  have e0 := hD.fr 0 _ rfl
  have d1 := hD.cell 1 _ rfl
  have e1 := hD.fr 1 _ rfl
  have d2 := hD.cell 2 _ rfl
  have e2 := hD.fr 2 _ rfl
  have d3 := hD.cell 3 _ rfl
  have e3 := hD.fr 3 _ rfl
  have d4 := hD.cell 4 _ rfl
  have e4 := hD.fr 4 _ rfl
  have d5 := hD.cell 5 _ rfl
  have e5 := hD.fr 5 _ rfl
  have d6 := hD.cell 6 _ rfl
  have e6 := hD.fr 6 _ rfl
  have d7 := hD.cell 7 _ rfl
  have e7 := hD.fr 7 _ rfl
  have d8 := hD.cell 8 _ rfl
  have e8 := hD.fr 8 _ rfl
  have y0 := hA.cell 0 _ rfl
  have k0 := hA.fr 0 _ rfl
  have y1 := hA.cell 1 _ rfl
  have k1 := hA.fr 1 _ rfl
  have y2 := hA.cell 2 _ rfl
  have k2 := hA.fr 2 _ rfl
  have y3 := hA.cell 3 _ rfl
  have k3 := hA.fr 3 _ rfl
  have y4 := hA.cell 4 _ rfl
  have k4 := hA.fr 4 _ rfl
  have y5 := hA.cell 5 _ rfl
  have k5 := hA.fr 5 _ rfl
  have y6 := hA.cell 6 _ rfl
  have k6 := hA.fr 6 _ rfl
  have y7 := hA.cell 7 _ rfl
  have k7 := hA.fr 7 _ rfl
  have y8 := hA.cell 8 _ rfl
  have k8 := hA.fr 8 _ rfl
  clear hA hD hbw hW2 hb1
  go_upto_region 3 with fail
  clear d0 e0 y0 k0 d1 e1 y1 k1 d2 e2 y2 k2 d3 e3 y3 k3 d4 e4 y4 k4 d5 e5 y5 k5 d6 e6 y6 k6 d7 e7 y7 k7 d8 e8 y8 k8
  obtain ⟨W4, hW4⟩ : ∃ W4, W4 = W2.setCell ⟨w1.heap.size, 7, none⟩ (.string (strOf nm)) := ⟨_, rfl⟩
  rw [← hW4]
  have hD4 : Blk W4 w1.heap.size [.int .i64 1, .int .i64 1, .int .i64 1, .int .i64 k, .bool false, .int .u64 0, .slice none 0 0, .string (strOf nm), .slice none 0 0] := by rw [hW4]; exact HD.out.set 7 _
  have hA4 : Blk W4 w.heap.size [.int .i64 0, .int .i64 0, .int .i64 0, .int .i64 0, .bool false, .int .u64 0, .slice none 0 0, .string ⟨#[]⟩, .slice none 0 0] := by rw [hW4]; exact HA.out.other (by simpa using hne) _
  have hB4 : Below w.heap.size w W4 := by rw [hW4]; exact HB.out.setCell (p := ⟨w1.heap.size, 7, none⟩) (by show w.heap.size ≤ w1.heap.size; omega) _
  have HB4 := Lib.hid hB4
  have HF := Lib.hid hA4
  have d0 := hD4.cell 0 _ rfl
  have y0 := hA4.cell 0 _ rfl
  have k0 := hA4.fr 0 _ rfl
  have d1 := hD4.cell 1 _ rfl
  have y1 := hA4.cell 1 _ rfl
  have k1 := hA4.fr 1 _ rfl
  have d2 := hD4.cell 2 _ rfl
  have y2 := hA4.cell 2 _ rfl
  have k2 := hA4.fr 2 _ rfl
  have d3 := hD4.cell 3 _ rfl
  have y3 := hA4.cell 3 _ rfl
  have k3 := hA4.fr 3 _ rfl
  have d4 := hD4.cell 4 _ rfl
  have y4 := hA4.cell 4 _ rfl
  have k4 := hA4.fr 4 _ rfl
  have d5 := hD4.cell 5 _ rfl
  have y5 := hA4.cell 5 _ rfl
  have k5 := hA4.fr 5 _ rfl
  have d6 := hD4.cell 6 _ rfl
  have y6 := hA4.cell 6 _ rfl
  have k6 := hA4.fr 6 _ rfl
  have d7 := hD4.cell 7 _ rfl
  have y7 := hA4.cell 7 _ rfl
  have k7 := hA4.fr 7 _ rfl
  have d8 := hD4.cell 8 _ rfl
  have y8 := hA4.cell 8 _ rfl
  have k8 := hA4.fr 8 _ rfl
  clear hD4 hA4 hB4 hW4 HA HD HB
  go_wp2
  refine named_post ?_
  intro W5 hW5
  have hZ : Blk W5 w.heap.size [.int .i64 1, .int .i64 1, .int .i64 1, .int .i64 k, .bool false, .int .u64 0, .slice none 0 0, .string (strOf nm), .slice none 0 0] := by rw [hW5]; exact (((((((((HF.out.set 0 _).set 1 _).set 2 _).set 3 _).set 4 _).set 5 _).set 6 _).set 7 _).set 8 _)
  have hB5 : Below w.heap.size w W5 := by rw [hW5]; exact (((((((((HB4.out.setCell (p := ⟨w.heap.size, 0, none⟩) (Nat.le_refl _) _).setCell (p := ⟨w.heap.size, 1, none⟩) (Nat.le_refl _) _).setCell (p := ⟨w.heap.size, 2, none⟩) (Nat.le_refl _) _).setCell (p := ⟨w.heap.size, 3, none⟩) (Nat.le_refl _) _).setCell (p := ⟨w.heap.size, 4, none⟩) (Nat.le_refl _) _).setCell (p := ⟨w.heap.size, 5, none⟩) (Nat.le_refl _) _).setCell (p := ⟨w.heap.size, 6, none⟩) (Nat.le_refl _) _).setCell (p := ⟨w.heap.size, 7, none⟩) (Nat.le_refl _) _).setCell (p := ⟨w.heap.size, 8, none⟩) (Nat.le_refl _) _)
  clear hW5 d0 y0 k0 d1 y1 k1 d2 y2 k2 d3 y3 k3 d4 y4 k4 d5 y5 k5 d6 y6 k6 d7 y7 k7 d8 y8 k8
  have z0 := hZ.cell 0 _ rfl
  have z1 := hZ.cell 1 _ rfl
  have z2 := hZ.cell 2 _ rfl
  have z3 := hZ.cell 3 _ rfl
  have z4 := hZ.cell 4 _ rfl
  have z5 := hZ.cell 5 _ rfl
  have z6 := hZ.cell 6 _ rfl
  have z7 := hZ.cell 7 _ rfl
  have z8 := hZ.cell 8 _ rfl
  refine bodyPost_ret (by simp [results, Tryz.results74, go_sem, z0, z1, z2, z3, z4, z5, z6, z7, z8]; try rfl) rfl ?_
  exact ⟨rfl, hB5⟩
theorem not_any (k : Int) (nm : List UInt8) (w : World) : Calls Tryz.prog 73 #[.int .i64 k, .string (strOf nm)] w fun e w' => e = .returned (.agg (leafX 2 0 0 k nm).row.toArray) ∧ Below w.heap.size w w' := by
  simp only [leafX, Tr.row]
  go_enter Tryz.func73, Tryz.ntmps73
  go_wp2
  refine bodyPost_ret (by simp [results, Tryz.results73, go_sem]; try rfl) rfl ?_
  exact ⟨rfl, b1 _ _⟩
theorem seq_any (A : Option Addr) (n c : Nat) (ts : List Tr) (w : World) : Calls Tryz.prog 72 #[.slice A n c] w fun e w' => e = .returned (.agg (kidsX 3 (.slice A n c) ts).row.toArray) ∧ Below w.heap.size w w' := by
  simp only [kidsX, Tr.row, strOf_nil]
  go_enter Tryz.func72, Tryz.ntmps72
  go_wp2
  refine bodyPost_ret (by simp [results, Tryz.results72, go_sem]; try rfl) rfl ?_
  exact ⟨rfl, b1 _ _⟩
theorem fails_any (T : Tr) (N : Nd) (E : Int) (w : World) (hT : TrW w T) (hlen : (subsT T).length ≤ 999999) (hG : SG w) (hN : T.nd = N) (hE : wfE ⟨N, 5, [], []⟩ = E) :
    Calls Tryz.prog 70 #[.agg T.row.toArray] w fun e w' => e = .returned (.int .i64 E) ∧ Below w.heap.size w w' := by
  have hc := fun w1 (hb : Below w.heap.size w w1) => wcheck_any ⟨T, 5, .slice none 0 0, [], .slice none 0 0, []⟩ w1 ⟨hT.later hb, (by show (0 : Int) ≤ 5 ∧ (5 : Int) < 18446744073709551616; decide), Sl.nil _ _, Sl.nil _ _, (fun h hm => by cases hm), (fun h hm => by cases hm)⟩ hlen (hG.later hb) (fun s hs => by simp [GQ.qu, useL] at hs)
  have hq : GQ.qu ⟨T, 5, .slice none 0 0, [], .slice none 0 0, []⟩ = ⟨N, 5, [], []⟩ := by rw [← hN]; rfl
  rw [hq, hE] at hc
  have hone := hT.one
  obtain ⟨k, mn, mx, ⟨⟨kd, bd, bn, cs, nm⟩, sc⟩, sk, ks⟩ := T
  obtain ⟨-, ⟨-, hsc⟩, hsl⟩ := hone
  simp only at hsc
  obtain ⟨A1, cap1, rfl, -, -⟩ := sl_get (by decide) hsc
  obtain ⟨A, cap, rfl, -, -⟩ := sl_get (by decide) hsl
  clear hsc hsl hT hq hN
  simp only [GQ.row, Tr.row, List.cons_append, List.nil_append] at hc ⊢
  go_enter Tryz.func70, Tryz.ntmps70
  go_wp2_with (go_at_call 32; refine (hc _ (by first | exact Below.refl _ _ | exact b1 _ _)).mono ?_; rintro e w2 ⟨rfl, hb2⟩)
  go_ret
  exact ⟨rfl, by first | exact hb2 | exact bstep (b1 _ _) hb2⟩
end Go.Proofs.YtdoioaeppepndaaGreatDoor
namespace Go.Proofs.YtdoioaeppepndaaGreatDoor
open Go.RowKit Go.Shelf Go.Maps
open A8 W10
attribute [local go_sem] Oper.semAt_some

def leafNd (k mn mx kd : Int) (nm : List UInt8) : Nd := .mk k mn mx ⟨kd, false, 0, [], nm⟩ []
def kidsNd (k : Int) (ns : List Nd) : Nd := .mk k 0 0 ⟨0, false, 0, [], []⟩ ns
theorem leafX_nd (k mn mx kd : Int) (nm : List UInt8) : (leafX k mn mx kd nm).nd = leafNd k mn mx kd nm := by unfold leafX leafNd; rw [nd_mk]; rfl
theorem kidsX_nd (k : Int) (v : Value) (ts : List Tr) : (kidsX k v ts).nd = kidsNd k (ts.map Tr.nd) := by unfold kidsX kidsNd; rw [nd_mk]
theorem kids_of2 {w : World} {a b : Tr} (ha : TrW w a) (hb : TrW w b) : ∀ t ∈ [a, b], TrW w t := by
  intro t ht
  simp only [List.mem_cons, List.not_mem_nil, or_false] at ht
  rcases ht with rfl | rfl
  · exact ha
  · exact hb
theorem kids_of3 {w : World} {a b c : Tr} (ha : TrW w a) (hb : TrW w b) (hc : TrW w c) : ∀ t ∈ [a, b, c], TrW w t := by
  intro t ht
  simp only [List.mem_cons, List.not_mem_nil, or_false] at ht
  rcases ht with rfl | rfl | rfl
  · exact ha
  · exact hb
  · exact hc
theorem kids_of4 {w : World} {a b c d : Tr} (ha : TrW w a) (hb : TrW w b) (hc : TrW w c) (hd : TrW w d) : ∀ t ∈ [a, b, c, d], TrW w t := by
  intro t ht
  simp only [List.mem_cons, List.not_mem_nil, or_false] at ht
  rcases ht with rfl | rfl | rfl | rfl
  · exact ha
  · exact hb
  · exact hc
  · exact hd
set_option maxRecDepth 100000 in
set_option maxHeartbeats 8000000 in
theorem wawake_any (w : World) (hG : SG w) : Calls Tryz.prog 31 #[] w fun e w' => e = .returned (.bool true) ∧ Below w.heap.size w w' := by
  have letterL := letter_any
  have namedL := named_any
  have notL := not_any
  have seqL := seq_any
  simp only [kidsX, leafX, Tr.row, strOf] at letterL namedL notL seqL
  go_enter Tryz.func31, Tryz.ntmps31
  go_wp2_with fail
  refine (letterL 0 _).mono ?_
  rintro e w1 ⟨rfl, hb1⟩
  go_wp2_with fail
  have tr2 : TrW w1 (leafX 1 1 1 0 []) := (leafX_tr 1 1 1 0 [] _ (by unfold okV; omega) (by unfold okV; omega) (by unfold okV; omega) (by unfold okV; omega) (by unfold maxLen; simp))
  have hE2 : wfE ⟨(leafNd 1 1 1 0 []), 5, [], []⟩ = 0 := by decide +kernel
  have F2 := fails_any (leafX 1 1 1 0 []) (leafNd 1 1 1 0 []) 0 w1 tr2 (by simp [leafX, subsT, subsTL]) (hG.later hb1) (by simp only [leafX_nd]) hE2
  simp only [leafX, Tr.row, strOf] at F2
  clear tr2 hE2
  refine (F2).mono ?_
  rintro e w3 ⟨rfl, hb3⟩
  clear F2
  go_wp2_with fail
  refine (letterL 0 _).mono ?_
  rintro e w4 ⟨rfl, hb4⟩
  go_wp2_with fail
  refine (notL 1 [] _).mono ?_
  rintro e w5 ⟨rfl, hb5⟩
  go_wp2_with fail
  refine (letterL 2 _).mono ?_
  rintro e w6 ⟨rfl, hb6⟩
  go_wp2_with fail
  refine (seqL (some ⟨w6.heap.size, 0, none⟩) 3 3 [(leafX 1 1 1 0 []), (leafX 2 0 0 1 []), (leafX 1 1 1 2 [])] _).mono ?_
  rintro e w7 ⟨rfl, hb7⟩
  go_wp2_with fail
  have tr8 : TrW w7 (kidsX 3 (.slice (some ⟨w6.heap.size, 0, none⟩) 3 3) [(leafX 1 1 1 0 []), (leafX 2 0 0 1 []), (leafX 1 1 1 2 [])]) := (kidsX_tr (w := w7) (k := 3) (v := (.slice (some ⟨w6.heap.size, 0, none⟩) 3 3)) (ts := [(leafX 1 1 1 0 []), (leafX 2 0 0 1 []), (leafX 1 1 1 2 [])]) (by unfold okV; omega) ((sl_fresh w6 3 9 ([(leafX 1 1 1 0 []), (leafX 2 0 0 1 []), (leafX 1 1 1 2 [])].flatMap Tr.row) 31 rfl (by decide)).later hb7) (kids_of3 (leafX_tr 1 1 1 0 [] _ (by unfold okV; omega) (by unfold okV; omega) (by unfold okV; omega) (by unfold okV; omega) (by unfold maxLen; simp)) (leafX_tr 2 0 0 1 [] _ (by unfold okV; omega) (by unfold okV; omega) (by unfold okV; omega) (by unfold okV; omega) (by unfold maxLen; simp)) (leafX_tr 1 1 1 2 [] _ (by unfold okV; omega) (by unfold okV; omega) (by unfold okV; omega) (by unfold okV; omega) (by unfold maxLen; simp))))
  have hE8 : wfE ⟨(kidsNd 3 [(leafNd 1 1 1 0 []), (leafNd 2 0 0 1 []), (leafNd 1 1 1 2 [])]), 5, [], []⟩ = 0 := by decide +kernel
  have F8 := fails_any (kidsX 3 (.slice (some ⟨w6.heap.size, 0, none⟩) 3 3) [(leafX 1 1 1 0 []), (leafX 2 0 0 1 []), (leafX 1 1 1 2 [])]) (kidsNd 3 [(leafNd 1 1 1 0 []), (leafNd 2 0 0 1 []), (leafNd 1 1 1 2 [])]) 0 w7 tr8 (by simp [kidsX, leafX, subsT, subsTL]) (hG.later (bstep (bstep (bstep (bstep (bstep (bstep hb1 hb3) hb4) hb5) hb6) (b1 _ _)) hb7)) (by simp only [kidsX_nd, leafX_nd, List.map]) hE8
  simp only [kidsX, Tr.row, strOf] at F8
  clear tr8 hE8
  refine (F8).mono ?_
  rintro e w9 ⟨rfl, hb9⟩
  clear F8
  go_wp2_with fail
  refine (letterL 0 _).mono ?_
  rintro e w10 ⟨rfl, hb10⟩
  go_wp2_with fail
  refine (notL 1 [] _).mono ?_
  rintro e w11 ⟨rfl, hb11⟩
  go_wp2_with fail
  refine (seqL (some ⟨w11.heap.size, 0, none⟩) 2 2 [(leafX 1 1 1 0 []), (leafX 2 0 0 1 [])] _).mono ?_
  rintro e w12 ⟨rfl, hb12⟩
  go_wp2_with fail
  have tr13 : TrW w12 (kidsX 3 (.slice (some ⟨w11.heap.size, 0, none⟩) 2 2) [(leafX 1 1 1 0 []), (leafX 2 0 0 1 [])]) := (kidsX_tr (w := w12) (k := 3) (v := (.slice (some ⟨w11.heap.size, 0, none⟩) 2 2)) (ts := [(leafX 1 1 1 0 []), (leafX 2 0 0 1 [])]) (by unfold okV; omega) ((sl_fresh w11 2 9 ([(leafX 1 1 1 0 []), (leafX 2 0 0 1 [])].flatMap Tr.row) 31 rfl (by decide)).later hb12) (kids_of2 (leafX_tr 1 1 1 0 [] _ (by unfold okV; omega) (by unfold okV; omega) (by unfold okV; omega) (by unfold okV; omega) (by unfold maxLen; simp)) (leafX_tr 2 0 0 1 [] _ (by unfold okV; omega) (by unfold okV; omega) (by unfold okV; omega) (by unfold okV; omega) (by unfold maxLen; simp))))
  have hE13 : wfE ⟨(kidsNd 3 [(leafNd 1 1 1 0 []), (leafNd 2 0 0 1 [])]), 5, [], []⟩ = 9 := by decide +kernel
  have F13 := fails_any (kidsX 3 (.slice (some ⟨w11.heap.size, 0, none⟩) 2 2) [(leafX 1 1 1 0 []), (leafX 2 0 0 1 [])]) (kidsNd 3 [(leafNd 1 1 1 0 []), (leafNd 2 0 0 1 [])]) 9 w12 tr13 (by simp [kidsX, leafX, subsT, subsTL]) (hG.later (bstep (bstep (bstep (bstep (bstep (bstep (bstep (bstep (bstep (bstep (bstep hb1 hb3) hb4) hb5) hb6) (b1 _ _)) hb7) hb9) hb10) hb11) (b1 _ _)) hb12)) (by simp only [kidsX_nd, leafX_nd, List.map]) hE13
  simp only [kidsX, Tr.row, strOf] at F13
  clear tr13 hE13
  refine (F13).mono ?_
  rintro e w14 ⟨rfl, hb14⟩
  clear F13
  go_wp2_with fail
  refine (namedL 0 [120] _).mono ?_
  rintro e w15 ⟨rfl, hb15⟩
  go_wp2_with fail
  refine (namedL 1 [120] _).mono ?_
  rintro e w16 ⟨rfl, hb16⟩
  go_wp2_with fail
  refine (seqL (some ⟨w16.heap.size, 0, none⟩) 2 2 [(leafX 1 1 1 0 [120]), (leafX 1 1 1 1 [120])] _).mono ?_
  rintro e w17 ⟨rfl, hb17⟩
  go_wp2_with fail
  have tr18 : TrW w17 (kidsX 3 (.slice (some ⟨w16.heap.size, 0, none⟩) 2 2) [(leafX 1 1 1 0 [120]), (leafX 1 1 1 1 [120])]) := (kidsX_tr (w := w17) (k := 3) (v := (.slice (some ⟨w16.heap.size, 0, none⟩) 2 2)) (ts := [(leafX 1 1 1 0 [120]), (leafX 1 1 1 1 [120])]) (by unfold okV; omega) ((sl_fresh w16 2 9 ([(leafX 1 1 1 0 [120]), (leafX 1 1 1 1 [120])].flatMap Tr.row) 31 rfl (by decide)).later hb17) (kids_of2 (leafX_tr 1 1 1 0 [120] _ (by unfold okV; omega) (by unfold okV; omega) (by unfold okV; omega) (by unfold okV; omega) (by unfold maxLen; simp)) (leafX_tr 1 1 1 1 [120] _ (by unfold okV; omega) (by unfold okV; omega) (by unfold okV; omega) (by unfold okV; omega) (by unfold maxLen; simp))))
  have hE18 : wfE ⟨(kidsNd 3 [(leafNd 1 1 1 0 [120]), (leafNd 1 1 1 1 [120])]), 5, [], []⟩ = 8 := by decide +kernel
  have F18 := fails_any (kidsX 3 (.slice (some ⟨w16.heap.size, 0, none⟩) 2 2) [(leafX 1 1 1 0 [120]), (leafX 1 1 1 1 [120])]) (kidsNd 3 [(leafNd 1 1 1 0 [120]), (leafNd 1 1 1 1 [120])]) 8 w17 tr18 (by simp [kidsX, leafX, subsT, subsTL]) (hG.later (bstep (bstep (bstep (bstep (bstep (bstep (bstep (bstep (bstep (bstep (bstep (bstep (bstep (bstep (bstep (bstep hb1 hb3) hb4) hb5) hb6) (b1 _ _)) hb7) hb9) hb10) hb11) (b1 _ _)) hb12) hb14) hb15) hb16) (b1 _ _)) hb17)) (by simp only [kidsX_nd, leafX_nd, List.map]) hE18
  simp only [kidsX, Tr.row, strOf] at F18
  clear tr18 hE18
  refine (F18).mono ?_
  rintro e w19 ⟨rfl, hb19⟩
  clear F18
  go_wp2_with fail
  go_ret
  exact ⟨rfl, (bstep (bstep (bstep (bstep (bstep (bstep (bstep (bstep (bstep (bstep (bstep (bstep (bstep (bstep (bstep (bstep (bstep hb1 hb3) hb4) hb5) hb6) (b1 _ _)) hb7) hb9) hb10) hb11) (b1 _ _)) hb12) hb14) hb15) hb16) (b1 _ _)) hb17) hb19)⟩
end Go.Proofs.YtdoioaeppepndaaGreatDoor
namespace Go.Proofs.YtdoioaeppepndaaGreatDoor
open Go.RowKit Go.Shelf Go.Maps
open A8 W10
attribute [local go_sem] Oper.semAt_some

theorem grown_id (w : World) (b : Nat) : w.grownBy w (some b) := ⟨rfl, rfl, rfl, Nat.le_refl _, fun _ _ _ => rfl⟩
theorem grown_set10 {w W : World} {b : Nat} (h : w.grownBy W (some b)) (i : Nat) (v : Value) : w.grownBy (W.setCell ⟨b, i, none⟩ v) (some b) :=
  ⟨h.os, h.tape, h.output, by have := h.size; simpa [World.setCell] using this, fun k hk hne => (Below.heap_setCell _ _ _ _ (fun e => hne (by rw [e]))).trans (h.block k hk hne)⟩
theorem sl_but {w W : World} {sz n m c b b' : Nat} {us : List Value} (h : Sl w sz n (.slice (some ⟨b', 0, none⟩) m c) us) (hg : w.grownBy W (some b)) (hne : b' ≠ b) : Sl W sz n (.slice (some ⟨b', 0, none⟩) m c) us := by
  obtain ⟨h1, h2, A, cap, h3, h4, h5, h6⟩ := h
  cases h3
  refine ⟨h1, h2, _, _, rfl, h4, h5, fun i u hu => ?_⟩
  obtain ⟨a, ha, hlt, hc⟩ := h6 i u hu
  cases ha
  exact ⟨_, rfl, Nat.lt_of_lt_of_le hlt hg.size, (World.cell?_of_block (w := w) (a := (⟨b', 0, none⟩ : Addr).add i) (by rw [add_block]; exact hg.block b' hlt (fun e => hne (by cases e; rfl)))).trans hc⟩
theorem own_ne {W : World} {base n b : Nat} {e t : TypeId} {sz : Nat} {v : Value} {xs us : List Value} (h : W.ownsRow base e sz v n xs) (hb : Bx W b t us) (hne : e ≠ t) : v.ownBlock ≠ some b := by
  intro hv
  rcases h.2 with ⟨rfl, -⟩ | ⟨g, cap, cur, rfl, h2, h3, -⟩
  · cases hv
  · injection hv with hv
    simp only at hv
    subst hv
    have h4 : W.heap[g]? = _ := hb
    rw [h3] at h4
    cases h4
    exact hne rfl
end Go.Proofs.YtdoioaeppepndaaGreatDoor
namespace Go.Proofs.YtdoioaeppepndaaGreatDoor
open Go.RowKit Go.Shelf Go.Maps
open A8 W10
attribute [local go_sem] Oper.semAt_some

def ltX (i : Nat) : Tr := leafX 1 1 1 ((i % 26 : Nat) : Int) []
def ltL (k : Nat) : List Tr := (List.range k).map ltX
def ltN (k : Nat) : List Nd := (List.range k).map fun i => leafNd 1 1 1 ((i % 26 : Nat) : Int) []
theorem ltL_len (k : Nat) : (ltL k).length = k := by unfold ltL; simp
theorem ltL_succ (k : Nat) : ltL (k + 1) = ltL k ++ [ltX k] := by unfold ltL; rw [List.range_succ, List.map_append]; rfl
theorem ltL_nd (k : Nat) : (ltL k).map Tr.nd = ltN k := by
  unfold ltL ltN
  rw [List.map_map]
  apply List.map_congr_left
  intro i _
  exact leafX_nd _ _ _ _ _
theorem ltX_tr (i : Nat) (w : World) : TrW w (ltX i) := leafX_tr 1 1 1 _ [] w (by unfold okV; omega) (by unfold okV; omega) (by unfold okV; omega) (by unfold okV; omega) (by unfold maxLen; simp)
theorem ltL_tr {k : Nat} {w : World} : ∀ t ∈ ltL k, TrW w t := by
  intro t ht
  unfold ltL at ht
  obtain ⟨i, -, rfl⟩ := List.mem_map.1 ht
  exact ltX_tr i w
def flatNd (n : Nat) : Nd := kidsNd 4 (ltN n)
def wideNd (n : Nat) : Nd := if n = 1 then leafNd 1 1 1 0 [] else if n ≤ 8 then flatNd n else kidsNd 3 [kidsNd 4 ((ltN n).take 7), kidsNd 4 ((ltN n).drop 7)]
def deepNd : Nat → Nd
  | 0 => leafNd 1 1 1 0 []
  | k + 1 => kidsNd 3 [deepNd k, leafNd 1 1 1 1 []]
theorem few_wide : ∀ n, n < 15 → 1 ≤ n → wfE ⟨wideNd n, 5, [], []⟩ = (if n ≤ 12 then 0 else 6) := by decide +kernel
theorem few_flat : ∀ n, n < 15 → 1 ≤ n → (n ≤ 8 → 1 < n → wfE ⟨flatNd n, 5, [], []⟩ = 0) ∧ (8 < n → (wfE ⟨flatNd n, 5, [], []⟩ == 0) = false) := by decide +kernel
theorem few_deep : ∀ n, n < 9 → wfE ⟨deepNd n, 5, [], []⟩ = (if n < 6 then 0 else 22) := by decide +kernel
theorem few_len : ∀ n, n < 15 → nodesN (wideNd n) ≤ 100 ∧ nodesN (flatNd n) ≤ 100 ∧ nodesN (deepNd n) ≤ 100 := by decide +kernel
/-- A node put into its box. -/
def put9 (W : World) (b : Nat) (v0 v1 v2 v3 v4 v5 v6 v7 v8 : Value) : World :=
  ((((((((W.setCell ⟨b, 0, none⟩ v0).setCell ⟨b, 1, none⟩ v1).setCell ⟨b, 2, none⟩ v2).setCell ⟨b, 3, none⟩ v3).setCell ⟨b, 4, none⟩ v4).setCell ⟨b, 5, none⟩ v5).setCell ⟨b, 6, none⟩ v6).setCell ⟨b, 7, none⟩ v7).setCell ⟨b, 8, none⟩ v8
theorem put9_blk {W : World} {b : Nat} {x0 x1 x2 x3 x4 x5 x6 x7 x8 : Value} (h : Blk W b [x0, x1, x2, x3, x4, x5, x6, x7, x8]) (v0 v1 v2 v3 v4 v5 v6 v7 v8 : Value) : Blk (put9 W b v0 v1 v2 v3 v4 v5 v6 v7 v8) b [v0, v1, v2, v3, v4, v5, v6, v7, v8] :=
  (((((((((h.set 0 v0).set 1 v1).set 2 v2).set 3 v3).set 4 v4).set 5 v5).set 6 v6).set 7 v7).set 8 v8)
theorem put9_grown (W : World) (b : Nat) (v0 v1 v2 v3 v4 v5 v6 v7 v8 : Value) : W.grownBy (put9 W b v0 v1 v2 v3 v4 v5 v6 v7 v8) (some b) :=
  grown_set10 (grown_set10 (grown_set10 (grown_set10 (grown_set10 (grown_set10 (grown_set10 (grown_set10 (grown_set10 (grown_id W b) 0 v0) 1 v1) 2 v2) 3 v3) 4 v4) 5 v5) 6 v6) 7 v7) 8 v8
theorem put9_below {w W : World} {m b : Nat} (h : Below m w W) (hb : m ≤ b) (v0 v1 v2 v3 v4 v5 v6 v7 v8 : Value) : Below m w (put9 W b v0 v1 v2 v3 v4 v5 v6 v7 v8) :=
  ((((((((h.setCell (p := ⟨b, 0, none⟩) hb _).setCell (p := ⟨b, 1, none⟩) hb _).setCell (p := ⟨b, 2, none⟩) hb _).setCell (p := ⟨b, 3, none⟩) hb _).setCell (p := ⟨b, 4, none⟩) hb _).setCell (p := ⟨b, 5, none⟩) hb _).setCell (p := ⟨b, 6, none⟩) hb _).setCell (p := ⟨b, 7, none⟩) hb _).setCell (p := ⟨b, 8, none⟩) hb _
theorem below_g {w W : World} (h : Below w.heap.size w W) (o : Option Nat) : w.grownBy W o := ⟨h.os, h.tape, h.output, h.size, fun k hk _ => h.block k hk⟩
theorem grown_t {w V W : World} {o : Option Nat} (h : w.grownBy V o) (g : V.grownBy W o) : w.grownBy W o := h.trans g
/-- A tree that stays whatever becomes of the block b. -/
def Held (b : Nat) (w : World) (T : Tr) : Prop := ∀ W, w.grownBy W (some b) → TrW W T
theorem Held.now {b : Nat} {w : World} {T : Tr} (h : Held b w T) : TrW w T := h w (grown_id w b)
theorem Held.to {b : Nat} {w W : World} {T : Tr} (h : Held b w T) (g : w.grownBy W (some b)) : Held b W T := fun V hV => h V (g.trans hV)
theorem Held.leaf (b : Nat) (w : World) (k : Nat) (hk : k < 26) : Held b w (leafX 1 1 1 (k : Int) []) := fun W _ => leafX_tr 1 1 1 _ [] W (by unfold okV; omega) (by unfold okV; omega) (by unfold okV; omega) (by unfold okV; omega) (by unfold maxLen; simp)
/-- Two nodes in a new row. -/
theorem Held.two {b : Nat} {w : World} {T U : Tr} (h : Held b w T) (h2 : Held b w U) (hb : b < w.heap.size) :
    Held b (w.alloc (.cells ([T, U].flatMap Tr.row).toArray 31)) (kidsX 3 (.slice (some ⟨w.heap.size, 0, none⟩) 2 2) [T, U]) := by
  intro W hW
  have hg : w.grownBy W (some b) := (below_g (b1 _ _) _).trans hW
  exact kidsX_tr (by unfold okV; omega) (sl_but (sl_fresh w 2 9 ([T, U].flatMap Tr.row) 31 (by simp [List.flatMap, row_len]) (by decide)) hW (by omega)) (kids_of2 (h W hg) (h2 W hg))
end Go.Proofs.YtdoioaeppepndaaGreatDoor
