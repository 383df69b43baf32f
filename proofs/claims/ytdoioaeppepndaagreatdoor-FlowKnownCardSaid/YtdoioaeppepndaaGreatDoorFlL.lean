/- The law's own queries: single, first, second; awake. -/
import Derived.Test.YtdoioaeppepndaaGreatDoorFlAx
import Derived.Deep.RegionWith
namespace Go.Proofs.YtdoioaeppepndaaGreatDoor
open Go.RowKit Go.Shelf
open A8 Tk7 W10 Lb F11

/-- A leaf of the law's own, with a bound or without one; the node over such leaves. -/
def lfX (k mn mx kd : Int) (bd : Bool) (bn : Int) : Tr := .mk k mn mx ⟨⟨kd, bd, bn, [], []⟩, .slice none 0 0⟩ (.slice none 0 0) []
def lfN11 (k mn mx kd : Int) (bd : Bool) (bn : Int) : Nd := .mk k mn mx ⟨kd, bd, bn, [], []⟩ []
def kdX (k : Int) (v : Value) (ts : List Tr) : Tr := .mk k 0 0 ⟨⟨0, false, 0, [], []⟩, .slice none 0 0⟩ v ts
def kdN11 (k : Int) (ns : List Nd) : Nd := .mk k 0 0 ⟨0, false, 0, [], []⟩ ns
theorem lfX_nd (k mn mx kd : Int) (bd : Bool) (bn : Int) : (lfX k mn mx kd bd bn).nd = lfN11 k mn mx kd bd bn := by unfold lfX lfN11; rw [nd_mk]; rfl
theorem kdX_nd (k : Int) (v : Value) (ts : List Tr) : (kdX k v ts).nd = kdN11 k (ts.map Tr.nd) := by unfold kdX kdN11; rw [nd_mk]
theorem lfX_tr (k mn mx kd : Int) (bd : Bool) (bn : Int) (w : World) (h1 : okV k) (h2 : okV mn) (h3 : okV mx) (h4 : okV kd) (h5 : 0 ≤ bn ∧ bn < 18446744073709551616) : TrW w (lfX k mn mx kd bd bn) := by
  intro t ht
  unfold lfX at ht
  simp only [subsT, subsTL, List.mem_singleton] at ht
  subst ht
  exact ⟨⟨h1, h2, h3⟩, ⟨⟨h4, h5, (fun c hc => by cases hc), by unfold maxLen; simp⟩, Sl.nil _ _⟩, Sl.nil _ _⟩
theorem kdX_tr {k : Int} {v : Value} {ts : List Tr} {w : World} (h1 : okV k) (hs : Sl w 9 ts.length v (ts.flatMap Tr.row)) (ht : ∀ t ∈ ts, TrW w t) : TrW w (kdX k v ts) := by
  intro u hu
  unfold kdX at hu
  simp only [subsT, subsTL_flat, List.mem_cons, List.mem_flatMap] at hu
  rcases hu with rfl | ⟨t, h2, h3⟩
  · exact ⟨⟨h1, by unfold okV; omega, by unfold okV; omega⟩, ⟨⟨(show okV 0 from by unfold okV; omega), by simp, (fun c hc => by cases hc), by unfold maxLen; simp⟩, Sl.nil _ _⟩, hs⟩
  · exact ht t h2 u h3
theorem sl_freshF {w : World} {b n sz : Nat} {us : List Value} (h : Blk w b us) (hl : us.length = n * sz) (hn : n ≤ 1000000) : Sl w sz n (.slice (some ⟨b, 0, none⟩) n n) us := by
  refine ⟨hl, by unfold maxLen; omega, _, _, rfl, Nat.le_refl _, (fun h => by cases h), fun i u hu => ⟨_, rfl, h.lt, ?_⟩⟩
  have h := h.cell i u hu
  unfold Addr.add
  by_cases hi : i = 0
  · subst hi
    rw [if_pos rfl]
    exact h
  · rw [if_neg hi]
    simpa using h
def strNil : ByteArray := ⟨#[]⟩
theorem strOf_nil11 : strOf [] = ⟨#[]⟩ := rfl
def rowF (k mn mx kd : Int) (bd : Bool) (bn : Int) : List Value := [.int .i64 k, .int .i64 mn, .int .i64 mx, .int .i64 kd, .bool bd, .int .u64 bn, .slice none 0 0, .string ⟨#[]⟩, .slice none 0 0]
theorem single_any (kd : Int) (bd : Bool) (bn : Int) (w : World) : Calls Tryz.prog 45 #[.int .i64 kd, .bool bd, .int .u64 bn] w fun e w' => e = .returned (.agg (rowF 1 1 1 kd bd bn).toArray) ∧ Below w.heap.size w w' := by
  simp only [rowF]
  go_enter Tryz.func45, Tryz.ntmps45
  go_wp2
  refine bodyPost_ret (by simp [results, Tryz.results45, go_sem]; try rfl) rfl ?_
  exact ⟨rfl, b1 _ _⟩
/-- The query of the law whose kids lie in the block b. -/
def gQ (b : Nat) (ts : List Tr) : GQ := ⟨kdX 3 (.slice (some ⟨b, 0, none⟩) ts.length ts.length) ts, 5, .slice none 0 0, [], .slice none 0 0, []⟩
def firstT : List Tr := [lfX 1 1 1 0 true 1, lfX 2 0 0 1 true 2, lfX 1 1 1 2 false 0]
def secondT : List Tr := [lfX 1 1 1 0 true 1, lfX 1 1 1 1 true 2]
def fstQ : Qu := ⟨kdN11 3 [lfN11 1 1 1 0 true 1, lfN11 2 0 0 1 true 2, lfN11 1 1 1 2 false 0], 5, [], []⟩
def sndQ : Qu := ⟨kdN11 3 [lfN11 1 1 1 0 true 1, lfN11 1 1 1 1 true 2], 5, [], []⟩
theorem first_qu (b : Nat) : (gQ b firstT).qu = fstQ := by unfold gQ GQ.qu firstT fstQ; simp only [kdX_nd, List.map, lfX_nd]
theorem second_qu (b : Nat) : (gQ b secondT).qu = sndQ := by unfold gQ GQ.qu secondT sndQ; simp only [kdX_nd, List.map, lfX_nd]
theorem rows9 : ∀ ts : List Tr, (ts.flatMap Tr.row).length = ts.length * 9
  | [] => rfl
  | t :: ts => by rw [List.flatMap_cons, List.length_append, rows9 ts, row_len, List.length_cons]; omega
theorem subs1 : ∀ ts : List Tr, (∀ t ∈ ts, subsT t = [t]) → (ts.flatMap subsT).length = ts.length
  | [], _ => rfl
  | t :: ts, h => by rw [List.flatMap_cons, List.length_append, subs1 ts (fun u hu => h u (List.mem_cons_of_mem _ hu)), h t List.mem_cons_self, List.length_cons]; simp; omega
theorem gQ_fl {w : World} {b : Nat} {ts : List Tr} (h : Blk w b (ts.flatMap Tr.row)) (hn : ts.length ≤ 1000) (ht : ∀ t ∈ ts, TrW w t ∧ subsT t = [t] ∧ t.nd.atom.cs.length ≤ 1000000) : FlG w (gQ b ts) := by
  have hs : Sl w 9 ts.length (.slice (some ⟨b, 0, none⟩) ts.length ts.length) (ts.flatMap Tr.row) := sl_freshF h (rows9 ts) (by omega)
  have hsub : ∀ u ∈ subsT (gQ b ts).t, u = (gQ b ts).t ∨ u ∈ ts := fun u hu => by
    unfold gQ kdX at hu
    simp only [subsT, subsTL_flat, List.mem_cons, List.mem_flatMap] at hu
    rcases hu with rfl | ⟨t, h2, h3⟩
    · exact .inl rfl
    · rw [(ht t h2).2.1, List.mem_singleton] at h3
      exact .inr (h3 ▸ h2)
  refine ⟨⟨kdX_tr (by unfold okV; omega) hs fun t h2 => (ht t h2).1, (by show (0 : Int) ≤ 5 ∧ (5 : Int) < _; omega), Sl.nil _ _, Sl.nil _ _, (fun x hx => by cases hx), fun x hx => by cases hx⟩, ?_, (fun s hs => by cases hs), fun u hu => ?_⟩
  · show (subsT (kdX 3 (.slice (some ⟨b, 0, none⟩) ts.length ts.length) ts)).length ≤ _
    unfold kdX
    rw [subsT, subsTL_flat, List.length_cons]
    have := subs1 ts fun t h2 => (ht t h2).2.1
    omega
  · rcases hsub u hu with rfl | h2
    · unfold gQ kdX
      rw [nd_mk]
      exact Nat.zero_le _
    · exact (ht u h2).2.2
theorem lfX_ok {w : World} {k mn mx kd : Int} {bd : Bool} {bn : Int} (h : TrW w (lfX k mn mx kd bd bn)) : TrW w (lfX k mn mx kd bd bn) ∧ subsT (lfX k mn mx kd bd bn) = [lfX k mn mx kd bd bn] ∧ (lfX k mn mx kd bd bn).nd.atom.cs.length ≤ 1000000 :=
  ⟨h, by unfold lfX; simp [subsT, subsTL], by rw [lfX_nd]; exact Nat.zero_le _⟩
theorem first_fl {w : World} {b : Nat} (h : Blk w b (firstT.flatMap Tr.row)) : FlG w (gQ b firstT) := gQ_fl h (by decide) fun t ht => by
  unfold firstT at ht
  simp only [List.mem_cons, List.not_mem_nil, or_false] at ht
  rcases ht with rfl | rfl | rfl <;> exact lfX_ok (lfX_tr _ _ _ _ _ _ _ (by unfold okV; omega) (by unfold okV; omega) (by unfold okV; omega) (by unfold okV; omega) (by omega))
theorem second_fl {w : World} {b : Nat} (h : Blk w b (secondT.flatMap Tr.row)) : FlG w (gQ b secondT) := gQ_fl h (by decide) fun t ht => by
  unfold secondT at ht
  simp only [List.mem_cons, List.not_mem_nil, or_false] at ht
  rcases ht with rfl | rfl <;> exact lfX_ok (lfX_tr _ _ _ _ _ _ _ (by unfold okV; omega) (by unfold okV; omega) (by unfold okV; omega) (by unfold okV; omega) (by omega))
theorem first_wf : wfE fstQ = 0 := by decide +kernel
theorem second_wf : wfE sndQ = 0 := by decide +kernel
theorem first_read : flR fstQ 7 = 7 := by decide +kernel
theorem second_read : flR sndQ 7 = 3 := by decide +kernel
theorem first_check : flC fstQ 1 = 13 := by decide +kernel
def rowQ (b n : Nat) : Array Value := #[.int .i64 3, .int .i64 0, .int .i64 0, .int .i64 0, .bool false, .int .u64 0, .slice none 0 0, .string ⟨#[]⟩, .slice (some ⟨b, 0, none⟩) n n, .int .u64 5, .slice none 0 0, .slice none 0 0]
theorem gQ_row (b : Nat) (ts : List Tr) : (gQ b ts).row.toArray = rowQ b ts.length := rfl
set_option maxRecDepth 100000 in
set_option maxHeartbeats 8000000 in
theorem second_any (w : World) : Calls Tryz.prog 11 #[] w fun e w' => ∃ b : Nat, w.heap.size < b ∧ e = .returned (.agg (rowQ b 2)) ∧ Blk w' b (secondT.flatMap Tr.row) ∧ Below w.heap.size w w' := by
  have hs := fun kd bd bn w1 => single_any kd bd bn w1
  simp only [rowF] at hs
  have HS := Lib.hid hs
  clear hs
  go_enter Tryz.func11, Tryz.ntmps11
  go_wp2_with fail
  refine (HS.out 0 true 1 _).mono ?_
  rintro e w1 ⟨rfl, hb1⟩
  go_wp2_with fail
  refine (HS.out 1 true 2 _).mono ?_
  rintro e w2 ⟨rfl, hb2⟩
  have hK : Blk w2 w.heap.size [.int .i64 0, .int .i64 0, .int .i64 0, .int .i64 0, .bool false, .int .u64 0, .slice none 0 0, .string ⟨#[]⟩, .slice none 0 0, .int .u64 0, .slice none 0 0, .slice none 0 0] := ((Blk.new w [.int .i64 0, .int .i64 0, .int .i64 0, .int .i64 0, .bool false, .int .u64 0, .slice none 0 0, .string ⟨#[]⟩, .slice none 0 0, .int .u64 0, .slice none 0 0, .slice none 0 0] 35).later hb1).later hb2
  have hb02 : Below w.heap.size w w2 := bstep (bstep (b1 _ _) hb1) hb2
  clear hb1 hb2 HS
  have hs0 : w.heap.size < w2.heap.size := hK.lt
  have hk : Blk (w2.alloc (.cells #[.int .i64 1, .int .i64 1, .int .i64 1, .int .i64 0, .bool true, .int .u64 1, .slice none 0 0, .string ⟨#[]⟩, .slice none 0 0, .int .i64 1, .int .i64 1, .int .i64 1, .int .i64 1, .bool true, .int .u64 2, .slice none 0 0, .string ⟨#[]⟩, .slice none 0 0] 31)) w.heap.size [.int .i64 0, .int .i64 0, .int .i64 0, .int .i64 0, .bool false, .int .u64 0, .slice none 0 0, .string ⟨#[]⟩, .slice none 0 0, .int .u64 0, .slice none 0 0, .slice none 0 0] := hK.later (b1 _ _)
  have hN : Blk (w2.alloc (.cells #[.int .i64 1, .int .i64 1, .int .i64 1, .int .i64 0, .bool true, .int .u64 1, .slice none 0 0, .string ⟨#[]⟩, .slice none 0 0, .int .i64 1, .int .i64 1, .int .i64 1, .int .i64 1, .bool true, .int .u64 2, .slice none 0 0, .string ⟨#[]⟩, .slice none 0 0] 31)) w2.heap.size [.int .i64 1, .int .i64 1, .int .i64 1, .int .i64 0, .bool true, .int .u64 1, .slice none 0 0, .string ⟨#[]⟩, .slice none 0 0, .int .i64 1, .int .i64 1, .int .i64 1, .int .i64 1, .bool true, .int .u64 2, .slice none 0 0, .string ⟨#[]⟩, .slice none 0 0] := Blk.new w2 [.int .i64 1, .int .i64 1, .int .i64 1, .int .i64 0, .bool true, .int .u64 1, .slice none 0 0, .string ⟨#[]⟩, .slice none 0 0, .int .i64 1, .int .i64 1, .int .i64 1, .int .i64 1, .bool true, .int .u64 2, .slice none 0 0, .string ⟨#[]⟩, .slice none 0 0] 31
  have hbV : Below w.heap.size w (w2.alloc (.cells #[.int .i64 1, .int .i64 1, .int .i64 1, .int .i64 0, .bool true, .int .u64 1, .slice none 0 0, .string ⟨#[]⟩, .slice none 0 0, .int .i64 1, .int .i64 1, .int .i64 1, .int .i64 1, .bool true, .int .u64 2, .slice none 0 0, .string ⟨#[]⟩, .slice none 0 0] 31)) := bstep hb02 (b1 _ _)
  have HK := ((((((((((((hk.set 0 (.int .i64 3)).set 1 (.int .i64 0)).set 2 (.int .i64 0)).set 3 (.int .i64 0)).set 4 (.bool false)).set 5 (.int .u64 0)).set 6 (.slice none 0 0)).set 7 (.string ⟨#[]⟩)).set 8 (.slice (some ⟨w2.heap.size, 0, none⟩) 2 2)).set 9 (.int .u64 5)).set 10 (.slice none 0 0)).set 11 (.slice none 0 0))
  have HNN := Lib.hid ((((((((((((hN.other (p := ⟨w.heap.size, 0, none⟩) (by show w.heap.size ≠ w2.heap.size; omega) (.int .i64 3)).other (p := ⟨w.heap.size, 1, none⟩) (by show w.heap.size ≠ w2.heap.size; omega) (.int .i64 0)).other (p := ⟨w.heap.size, 2, none⟩) (by show w.heap.size ≠ w2.heap.size; omega) (.int .i64 0)).other (p := ⟨w.heap.size, 3, none⟩) (by show w.heap.size ≠ w2.heap.size; omega) (.int .i64 0)).other (p := ⟨w.heap.size, 4, none⟩) (by show w.heap.size ≠ w2.heap.size; omega) (.bool false)).other (p := ⟨w.heap.size, 5, none⟩) (by show w.heap.size ≠ w2.heap.size; omega) (.int .u64 0)).other (p := ⟨w.heap.size, 6, none⟩) (by show w.heap.size ≠ w2.heap.size; omega) (.slice none 0 0)).other (p := ⟨w.heap.size, 7, none⟩) (by show w.heap.size ≠ w2.heap.size; omega) (.string ⟨#[]⟩)).other (p := ⟨w.heap.size, 8, none⟩) (by show w.heap.size ≠ w2.heap.size; omega) (.slice (some ⟨w2.heap.size, 0, none⟩) 2 2)).other (p := ⟨w.heap.size, 9, none⟩) (by show w.heap.size ≠ w2.heap.size; omega) (.int .u64 5)).other (p := ⟨w.heap.size, 10, none⟩) (by show w.heap.size ≠ w2.heap.size; omega) (.slice none 0 0)).other (p := ⟨w.heap.size, 11, none⟩) (by show w.heap.size ≠ w2.heap.size; omega) (.slice none 0 0))
  have HBB := Lib.hid ((((((((((((hbV.setCell (p := ⟨w.heap.size, 0, none⟩) (Nat.le_refl _) (.int .i64 3)).setCell (p := ⟨w.heap.size, 1, none⟩) (Nat.le_refl _) (.int .i64 0)).setCell (p := ⟨w.heap.size, 2, none⟩) (Nat.le_refl _) (.int .i64 0)).setCell (p := ⟨w.heap.size, 3, none⟩) (Nat.le_refl _) (.int .i64 0)).setCell (p := ⟨w.heap.size, 4, none⟩) (Nat.le_refl _) (.bool false)).setCell (p := ⟨w.heap.size, 5, none⟩) (Nat.le_refl _) (.int .u64 0)).setCell (p := ⟨w.heap.size, 6, none⟩) (Nat.le_refl _) (.slice none 0 0)).setCell (p := ⟨w.heap.size, 7, none⟩) (Nat.le_refl _) (.string ⟨#[]⟩)).setCell (p := ⟨w.heap.size, 8, none⟩) (Nat.le_refl _) (.slice (some ⟨w2.heap.size, 0, none⟩) 2 2)).setCell (p := ⟨w.heap.size, 9, none⟩) (Nat.le_refl _) (.int .u64 5)).setCell (p := ⟨w.heap.size, 10, none⟩) (Nat.le_refl _) (.slice none 0 0)).setCell (p := ⟨w.heap.size, 11, none⟩) (Nat.le_refl _) (.slice none 0 0))
  have z0 := hk.cell 0 _ rfl
  have y0 := hk.fr 0 _ rfl
  have v0 := HK.cell 0 _ rfl
  have z1 := hk.cell 1 _ rfl
  have y1 := hk.fr 1 _ rfl
  have v1 := HK.cell 1 _ rfl
  have z2 := hk.cell 2 _ rfl
  have y2 := hk.fr 2 _ rfl
  have v2 := HK.cell 2 _ rfl
  have z3 := hk.cell 3 _ rfl
  have y3 := hk.fr 3 _ rfl
  have v3 := HK.cell 3 _ rfl
  have z4 := hk.cell 4 _ rfl
  have y4 := hk.fr 4 _ rfl
  have v4 := HK.cell 4 _ rfl
  have z5 := hk.cell 5 _ rfl
  have y5 := hk.fr 5 _ rfl
  have v5 := HK.cell 5 _ rfl
  have z6 := hk.cell 6 _ rfl
  have y6 := hk.fr 6 _ rfl
  have v6 := HK.cell 6 _ rfl
  have z7 := hk.cell 7 _ rfl
  have y7 := hk.fr 7 _ rfl
  have v7 := HK.cell 7 _ rfl
  have z8 := hk.cell 8 _ rfl
  have y8 := hk.fr 8 _ rfl
  have v8 := HK.cell 8 _ rfl
  have z9 := hk.cell 9 _ rfl
  have y9 := hk.fr 9 _ rfl
  have v9 := HK.cell 9 _ rfl
  have z10 := hk.cell 10 _ rfl
  have y10 := hk.fr 10 _ rfl
  have v10 := HK.cell 10 _ rfl
  have z11 := hk.cell 11 _ rfl
  have y11 := hk.fr 11 _ rfl
  have v11 := HK.cell 11 _ rfl
  have HS0 := Lib.hid hs0
  clear HK hk hN hbV hK hs0 hb02
  go_wp2
  refine bodyPost_ret (v := .agg #[.int .i64 3, .int .i64 0, .int .i64 0, .int .i64 0, .bool false, .int .u64 0, .slice none 0 0, .string ⟨#[]⟩, .slice (some ⟨w2.heap.size, 0, none⟩) 2 2, .int .u64 5, .slice none 0 0, .slice none 0 0]) (by simp [results, Tryz.results11, go_sem, v0, v1, v2, v3, v4, v5, v6, v7, v8, v9, v10, v11]; try rfl) rfl ?_
  exact ⟨_, HS0.out, rfl, HNN.out, HBB.out⟩
theorem first_end (w wx V : World) (hk : Blk wx w.heap.size [.int .i64 0, .int .i64 0, .int .i64 0, .int .i64 0, .bool false, .int .u64 0, .slice none 0 0, .string ⟨#[]⟩, .slice none 0 0, .int .u64 0, .slice none 0 0, .slice none 0 0]) (hb : Below w.heap.size w wx) (hV : V = (((((((((((((wx.setCell ⟨w.heap.size, 0, none⟩ (.int .i64 3)).setCell ⟨w.heap.size, 1, none⟩ (.int .i64 0)).setCell ⟨w.heap.size, 2, none⟩ (.int .i64 0)).setCell ⟨w.heap.size, 3, none⟩ (.int .i64 0)).setCell ⟨w.heap.size, 4, none⟩ (.bool false)).setCell ⟨w.heap.size, 5, none⟩ (.int .u64 0)).setCell ⟨w.heap.size, 6, none⟩ (.slice none 0 0)).setCell ⟨w.heap.size, 7, none⟩ (.string ⟨#[]⟩)).setCell ⟨w.heap.size, 8, none⟩ (.slice (some ⟨wx.heap.size, 0, none⟩) 3 3)).setCell ⟨w.heap.size, 9, none⟩ (.int .u64 5)).setCell ⟨w.heap.size, 10, none⟩ (.slice none 0 0)).setCell ⟨w.heap.size, 11, none⟩ (.slice none 0 0)).alloc (.cells #[.int .i64 1, .int .i64 1, .int .i64 1, .int .i64 0, .bool true, .int .u64 1, .slice none 0 0, .string ⟨#[]⟩, .slice none 0 0, .int .i64 2, .int .i64 0, .int .i64 0, .int .i64 1, .bool true, .int .u64 2, .slice none 0 0, .string ⟨#[]⟩, .slice none 0 0, .int .i64 1, .int .i64 1, .int .i64 1, .int .i64 2, .bool false, .int .u64 0, .slice none 0 0, .string ⟨#[]⟩, .slice none 0 0] 31))) :
    Blk V w.heap.size [.int .i64 3, .int .i64 0, .int .i64 0, .int .i64 0, .bool false, .int .u64 0, .slice none 0 0, .string ⟨#[]⟩, .slice (some ⟨wx.heap.size, 0, none⟩) 3 3, .int .u64 5, .slice none 0 0, .slice none 0 0] ∧ Blk V wx.heap.size [.int .i64 1, .int .i64 1, .int .i64 1, .int .i64 0, .bool true, .int .u64 1, .slice none 0 0, .string ⟨#[]⟩, .slice none 0 0, .int .i64 2, .int .i64 0, .int .i64 0, .int .i64 1, .bool true, .int .u64 2, .slice none 0 0, .string ⟨#[]⟩, .slice none 0 0, .int .i64 1, .int .i64 1, .int .i64 1, .int .i64 2, .bool false, .int .u64 0, .slice none 0 0, .string ⟨#[]⟩, .slice none 0 0] ∧ Below w.heap.size w V := by
  subst hV
  refine ⟨((((((((((((hk.set 0 (.int .i64 3)).set 1 (.int .i64 0)).set 2 (.int .i64 0)).set 3 (.int .i64 0)).set 4 (.bool false)).set 5 (.int .u64 0)).set 6 (.slice none 0 0)).set 7 (.string ⟨#[]⟩)).set 8 (.slice (some ⟨wx.heap.size, 0, none⟩) 3 3)).set 9 (.int .u64 5)).set 10 (.slice none 0 0)).set 11 (.slice none 0 0)).alloc _, Blk.is (us := [.int .i64 1, .int .i64 1, .int .i64 1, .int .i64 0, .bool true, .int .u64 1, .slice none 0 0, .string ⟨#[]⟩, .slice none 0 0, .int .i64 2, .int .i64 0, .int .i64 0, .int .i64 1, .bool true, .int .u64 2, .slice none 0 0, .string ⟨#[]⟩, .slice none 0 0, .int .i64 1, .int .i64 1, .int .i64 1, .int .i64 2, .bool false, .int .u64 0, .slice none 0 0, .string ⟨#[]⟩, .slice none 0 0]) _ (by simp [World.setCell]), ((((((((((((hb.setCell (p := ⟨w.heap.size, 0, none⟩) (Nat.le_refl _) (.int .i64 3)).setCell (p := ⟨w.heap.size, 1, none⟩) (Nat.le_refl _) (.int .i64 0)).setCell (p := ⟨w.heap.size, 2, none⟩) (Nat.le_refl _) (.int .i64 0)).setCell (p := ⟨w.heap.size, 3, none⟩) (Nat.le_refl _) (.int .i64 0)).setCell (p := ⟨w.heap.size, 4, none⟩) (Nat.le_refl _) (.bool false)).setCell (p := ⟨w.heap.size, 5, none⟩) (Nat.le_refl _) (.int .u64 0)).setCell (p := ⟨w.heap.size, 6, none⟩) (Nat.le_refl _) (.slice none 0 0)).setCell (p := ⟨w.heap.size, 7, none⟩) (Nat.le_refl _) (.string ⟨#[]⟩)).setCell (p := ⟨w.heap.size, 8, none⟩) (Nat.le_refl _) (.slice (some ⟨wx.heap.size, 0, none⟩) 3 3)).setCell (p := ⟨w.heap.size, 9, none⟩) (Nat.le_refl _) (.int .u64 5)).setCell (p := ⟨w.heap.size, 10, none⟩) (Nat.le_refl _) (.slice none 0 0)).setCell (p := ⟨w.heap.size, 11, none⟩) (Nat.le_refl _) (.slice none 0 0)).alloc (by have := hk.lt; simp [World.setCell]; omega) _⟩
set_option maxRecDepth 100000 in
set_option maxHeartbeats 8000000 in
theorem first_any (w : World) : Calls Tryz.prog 9 #[] w fun e w' => ∃ b : Nat, w.heap.size < b ∧ e = .returned (.agg (rowQ b 3)) ∧ Blk w' b (firstT.flatMap Tr.row) ∧ Below w.heap.size w w' := by
  have hs := fun kd bd bn w1 => single_any kd bd bn w1
  simp only [rowF] at hs
  have HS := Lib.hid hs
  clear hs
  obtain ⟨W2, hW2⟩ : ∃ W, W = (w.alloc (.cells #[.int .i64 0, .int .i64 0, .int .i64 0, .int .i64 0, .bool false, .int .u64 0, .slice none 0 0, .string ⟨#[]⟩, .slice none 0 0, .int .u64 0, .slice none 0 0, .slice none 0 0] 35)).alloc (.cells #[.int .i64 2, .int .i64 0, .int .i64 0, .int .i64 1, .bool true, .int .u64 2, .slice none 0 0, .string ⟨#[]⟩, .slice none 0 0] 31) := ⟨_, rfl⟩
  have hK : Blk W2 w.heap.size [.int .i64 0, .int .i64 0, .int .i64 0, .int .i64 0, .bool false, .int .u64 0, .slice none 0 0, .string ⟨#[]⟩, .slice none 0 0, .int .u64 0, .slice none 0 0, .slice none 0 0] := by rw [hW2]; exact (Blk.new w [.int .i64 0, .int .i64 0, .int .i64 0, .int .i64 0, .bool false, .int .u64 0, .slice none 0 0, .string ⟨#[]⟩, .slice none 0 0, .int .u64 0, .slice none 0 0, .slice none 0 0] 35).alloc _
  have hN2 : Blk W2 (w.heap.size + 1) [.int .i64 2, .int .i64 0, .int .i64 0, .int .i64 1, .bool true, .int .u64 2, .slice none 0 0, .string ⟨#[]⟩, .slice none 0 0] := by rw [hW2]; exact Blk.is (us := [.int .i64 2, .int .i64 0, .int .i64 0, .int .i64 1, .bool true, .int .u64 2, .slice none 0 0, .string ⟨#[]⟩, .slice none 0 0]) _ (by simp)
  have hb2 : Below w.heap.size w W2 := by rw [hW2]; exact b2 _ _ _
  go_enter Tryz.func9, Tryz.ntmps9
  go_upto_region 2 with fail
  rw [← hW2]
  clear hW2
  have n0 := hN2.cell 0 _ rfl
  have n1 := hN2.cell 1 _ rfl
  have n2 := hN2.cell 2 _ rfl
  have n3 := hN2.cell 3 _ rfl
  have n4 := hN2.cell 4 _ rfl
  have n5 := hN2.cell 5 _ rfl
  have n6 := hN2.cell 6 _ rfl
  have n7 := hN2.cell 7 _ rfl
  have n8 := hN2.cell 8 _ rfl
  have HK0 := Lib.hid hK
  have HB0 := Lib.hid hb2
  have HN0 := Lib.hid hN2
  clear hK hb2 hN2
  go_region_with (first
    | (go_at_call 45; with_reducible refine (HS.out 0 true 1 _).mono ?_; rintro e wa ⟨rfl, hba⟩; (first | (have hNa := HNb.out.later hba) | (have hNa := HNb.out.drew.later hba) | (have hNa := HN0.out.later hba) | (have hNa := HN0.out.drew.later hba)); (first | (have HKa := Lib.hid (HKb.out.later hba)) | (have HKa := Lib.hid (HKb.out.drew.later hba)) | (have HKa := Lib.hid (HK0.out.later hba)) | (have HKa := Lib.hid (HK0.out.drew.later hba))); (first | (have HBa := Lib.hid (bstep HBb.out hba)) | (have HBa := Lib.hid (bstep HBb.out.drew hba)) | (have HBa := Lib.hid (bstep HB0.out hba)) | (have HBa := Lib.hid (bstep HB0.out.drew hba))); have a0 := hNa.cell 0 _ rfl; have a1 := hNa.cell 1 _ rfl; have a2 := hNa.cell 2 _ rfl; have a3 := hNa.cell 3 _ rfl; have a4 := hNa.cell 4 _ rfl; have a5 := hNa.cell 5 _ rfl; have a6 := hNa.cell 6 _ rfl; have a7 := hNa.cell 7 _ rfl; have a8 := hNa.cell 8 _ rfl; have ca0 := HKa.out.cell 0 _ rfl; have fa0 := HKa.out.fr 0 _ rfl; have ca1 := HKa.out.cell 1 _ rfl; have fa1 := HKa.out.fr 1 _ rfl; have ca2 := HKa.out.cell 2 _ rfl; have fa2 := HKa.out.fr 2 _ rfl; have ca3 := HKa.out.cell 3 _ rfl; have fa3 := HKa.out.fr 3 _ rfl; have ca4 := HKa.out.cell 4 _ rfl; have fa4 := HKa.out.fr 4 _ rfl; have ca5 := HKa.out.cell 5 _ rfl; have fa5 := HKa.out.fr 5 _ rfl; have ca6 := HKa.out.cell 6 _ rfl; have fa6 := HKa.out.fr 6 _ rfl; have ca7 := HKa.out.cell 7 _ rfl; have fa7 := HKa.out.fr 7 _ rfl; have ca8 := HKa.out.cell 8 _ rfl; have fa8 := HKa.out.fr 8 _ rfl; have ca9 := HKa.out.cell 9 _ rfl; have fa9 := HKa.out.fr 9 _ rfl; have ca10 := HKa.out.cell 10 _ rfl; have fa10 := HKa.out.fr 10 _ rfl; have ca11 := HKa.out.cell 11 _ rfl; have fa11 := HKa.out.fr 11 _ rfl; have lta := HKa.out.lt; have HNa := Lib.hid hNa; clear hNa hba)
    | (go_at_call 45; with_reducible refine (HS.out 2 false 0 _).mono ?_; rintro e wb ⟨rfl, hbb⟩; (first | (have hNb := HNa.out.later hbb) | (have hNb := HNa.out.drew.later hbb) | (have hNb := HN0.out.later hbb) | (have hNb := HN0.out.drew.later hbb)); (first | (have HKb := Lib.hid (HKa.out.later hbb)) | (have HKb := Lib.hid (HKa.out.drew.later hbb)) | (have HKb := Lib.hid (HK0.out.later hbb)) | (have HKb := Lib.hid (HK0.out.drew.later hbb))); (first | (have HBb := Lib.hid (bstep HBa.out hbb)) | (have HBb := Lib.hid (bstep HBa.out.drew hbb)) | (have HBb := Lib.hid (bstep HB0.out hbb)) | (have HBb := Lib.hid (bstep HB0.out.drew hbb))); have b0 := hNb.cell 0 _ rfl; have b1 := hNb.cell 1 _ rfl; have b2 := hNb.cell 2 _ rfl; have b3 := hNb.cell 3 _ rfl; have b4 := hNb.cell 4 _ rfl; have b5 := hNb.cell 5 _ rfl; have b6 := hNb.cell 6 _ rfl; have b7 := hNb.cell 7 _ rfl; have b8 := hNb.cell 8 _ rfl; have cb0 := HKb.out.cell 0 _ rfl; have fb0 := HKb.out.fr 0 _ rfl; have cb1 := HKb.out.cell 1 _ rfl; have fb1 := HKb.out.fr 1 _ rfl; have cb2 := HKb.out.cell 2 _ rfl; have fb2 := HKb.out.fr 2 _ rfl; have cb3 := HKb.out.cell 3 _ rfl; have fb3 := HKb.out.fr 3 _ rfl; have cb4 := HKb.out.cell 4 _ rfl; have fb4 := HKb.out.fr 4 _ rfl; have cb5 := HKb.out.cell 5 _ rfl; have fb5 := HKb.out.fr 5 _ rfl; have cb6 := HKb.out.cell 6 _ rfl; have fb6 := HKb.out.fr 6 _ rfl; have cb7 := HKb.out.cell 7 _ rfl; have fb7 := HKb.out.fr 7 _ rfl; have cb8 := HKb.out.cell 8 _ rfl; have fb8 := HKb.out.fr 8 _ rfl; have cb9 := HKb.out.cell 9 _ rfl; have fb9 := HKb.out.fr 9 _ rfl; have cb10 := HKb.out.cell 10 _ rfl; have fb10 := HKb.out.fr 10 _ rfl; have cb11 := HKb.out.cell 11 _ rfl; have fb11 := HKb.out.fr 11 _ rfl; have ltb := HKb.out.lt; have HNb := Lib.hid hNb; clear hNb hbb))
  all_goals first
    | (obtain ⟨V, hV⟩ : ∃ V, V = (((((((((((((wb.setCell ⟨w.heap.size, 0, none⟩ (.int .i64 3)).setCell ⟨w.heap.size, 1, none⟩ (.int .i64 0)).setCell ⟨w.heap.size, 2, none⟩ (.int .i64 0)).setCell ⟨w.heap.size, 3, none⟩ (.int .i64 0)).setCell ⟨w.heap.size, 4, none⟩ (.bool false)).setCell ⟨w.heap.size, 5, none⟩ (.int .u64 0)).setCell ⟨w.heap.size, 6, none⟩ (.slice none 0 0)).setCell ⟨w.heap.size, 7, none⟩ (.string ⟨#[]⟩)).setCell ⟨w.heap.size, 8, none⟩ (.slice (some ⟨wb.heap.size, 0, none⟩) 3 3)).setCell ⟨w.heap.size, 9, none⟩ (.int .u64 5)).setCell ⟨w.heap.size, 10, none⟩ (.slice none 0 0)).setCell ⟨w.heap.size, 11, none⟩ (.slice none 0 0)).alloc (.cells #[.int .i64 1, .int .i64 1, .int .i64 1, .int .i64 0, .bool true, .int .u64 1, .slice none 0 0, .string ⟨#[]⟩, .slice none 0 0, .int .i64 2, .int .i64 0, .int .i64 0, .int .i64 1, .bool true, .int .u64 2, .slice none 0 0, .string ⟨#[]⟩, .slice none 0 0, .int .i64 1, .int .i64 1, .int .i64 1, .int .i64 2, .bool false, .int .u64 0, .slice none 0 0, .string ⟨#[]⟩, .slice none 0 0] 31)) := ⟨_, rfl⟩
       rw [← hV]
       obtain ⟨HK, HN, HB⟩ := first_end w wb V HKb.out HBb.out hV
       have HS0 := Lib.hid HKb.out.lt
       clear hV
       have v0 := HK.cell 0 _ rfl
       have v1 := HK.cell 1 _ rfl
       have v2 := HK.cell 2 _ rfl
       have v3 := HK.cell 3 _ rfl
       have v4 := HK.cell 4 _ rfl
       have v5 := HK.cell 5 _ rfl
       have v6 := HK.cell 6 _ rfl
       have v7 := HK.cell 7 _ rfl
       have v8 := HK.cell 8 _ rfl
       have v9 := HK.cell 9 _ rfl
       have v10 := HK.cell 10 _ rfl
       have v11 := HK.cell 11 _ rfl
       have HNN := Lib.hid HN
       have HBB := Lib.hid HB
       clear HK HN HB
       go_wp2
       refine bodyPost_ret (v := .agg #[.int .i64 3, .int .i64 0, .int .i64 0, .int .i64 0, .bool false, .int .u64 0, .slice none 0 0, .string ⟨#[]⟩, .slice (some ⟨wb.heap.size, 0, none⟩) 3 3, .int .u64 5, .slice none 0 0, .slice none 0 0]) (by simp [results, Tryz.results9, go_sem, v0, v1, v2, v3, v4, v5, v6, v7, v8, v9, v10, v11]; try rfl) rfl ?_
       exact ⟨_, HS0.out, rfl, HNN.out, HBB.out⟩)
    | (obtain ⟨V, hV⟩ : ∃ V, V = (((((((((((((wa.setCell ⟨w.heap.size, 0, none⟩ (.int .i64 3)).setCell ⟨w.heap.size, 1, none⟩ (.int .i64 0)).setCell ⟨w.heap.size, 2, none⟩ (.int .i64 0)).setCell ⟨w.heap.size, 3, none⟩ (.int .i64 0)).setCell ⟨w.heap.size, 4, none⟩ (.bool false)).setCell ⟨w.heap.size, 5, none⟩ (.int .u64 0)).setCell ⟨w.heap.size, 6, none⟩ (.slice none 0 0)).setCell ⟨w.heap.size, 7, none⟩ (.string ⟨#[]⟩)).setCell ⟨w.heap.size, 8, none⟩ (.slice (some ⟨wa.heap.size, 0, none⟩) 3 3)).setCell ⟨w.heap.size, 9, none⟩ (.int .u64 5)).setCell ⟨w.heap.size, 10, none⟩ (.slice none 0 0)).setCell ⟨w.heap.size, 11, none⟩ (.slice none 0 0)).alloc (.cells #[.int .i64 1, .int .i64 1, .int .i64 1, .int .i64 0, .bool true, .int .u64 1, .slice none 0 0, .string ⟨#[]⟩, .slice none 0 0, .int .i64 2, .int .i64 0, .int .i64 0, .int .i64 1, .bool true, .int .u64 2, .slice none 0 0, .string ⟨#[]⟩, .slice none 0 0, .int .i64 1, .int .i64 1, .int .i64 1, .int .i64 2, .bool false, .int .u64 0, .slice none 0 0, .string ⟨#[]⟩, .slice none 0 0] 31)) := ⟨_, rfl⟩
       rw [← hV]
       obtain ⟨HK, HN, HB⟩ := first_end w wa V HKa.out HBa.out hV
       have HS0 := Lib.hid HKa.out.lt
       clear hV
       have v0 := HK.cell 0 _ rfl
       have v1 := HK.cell 1 _ rfl
       have v2 := HK.cell 2 _ rfl
       have v3 := HK.cell 3 _ rfl
       have v4 := HK.cell 4 _ rfl
       have v5 := HK.cell 5 _ rfl
       have v6 := HK.cell 6 _ rfl
       have v7 := HK.cell 7 _ rfl
       have v8 := HK.cell 8 _ rfl
       have v9 := HK.cell 9 _ rfl
       have v10 := HK.cell 10 _ rfl
       have v11 := HK.cell 11 _ rfl
       have HNN := Lib.hid HN
       have HBB := Lib.hid HB
       clear HK HN HB
       go_wp2
       refine bodyPost_ret (v := .agg #[.int .i64 3, .int .i64 0, .int .i64 0, .int .i64 0, .bool false, .int .u64 0, .slice none 0 0, .string ⟨#[]⟩, .slice (some ⟨wa.heap.size, 0, none⟩) 3 3, .int .u64 5, .slice none 0 0, .slice none 0 0]) (by simp [results, Tryz.results9, go_sem, v0, v1, v2, v3, v4, v5, v6, v7, v8, v9, v10, v11]; try rfl) rfl ?_
       exact ⟨_, HS0.out, rfl, HNN.out, HBB.out⟩)
theorem read_first (b : Nat) (c y : Int) (w : World) (hK : Blk w b (firstT.flatMap Tr.row)) (hG : SG w) (h : flR fstQ c = y) : Calls Tryz.prog 21 #[.agg (rowQ b 3), .int .u64 c] w fun e w' => e = .returned (.tuple #[.int .u64 y, .int .i64 0]) ∧ Below w.heap.size w w' := by
  have h1 := read_any (gQ b firstT) c w (first_fl hK) hG
  rw [first_qu, first_wf, h, gQ_row] at h1
  exact h1
theorem read_second (b : Nat) (c y : Int) (w : World) (hK : Blk w b (secondT.flatMap Tr.row)) (hG : SG w) (h : flR sndQ c = y) : Calls Tryz.prog 21 #[.agg (rowQ b 2), .int .u64 c] w fun e w' => e = .returned (.tuple #[.int .u64 y, .int .i64 0]) ∧ Below w.heap.size w w' := by
  have h1 := read_any (gQ b secondT) c w (second_fl hK) hG
  rw [second_qu, second_wf, h, gQ_row] at h1
  exact h1
theorem check_first (b : Nat) (c y : Int) (w : World) (hK : Blk w b (firstT.flatMap Tr.row)) (hG : SG w) (h : flC fstQ c = y) : Calls Tryz.prog 12 #[.agg (rowQ b 3), .int .u64 c] w fun e w' => e = .returned (.int .i64 y) ∧ Below w.heap.size w w' := by
  have h1 := flcheck_any (gQ b firstT) c w (first_fl hK) hG
  rw [first_qu, h, gQ_row] at h1
  exact h1
set_option maxRecDepth 100000 in
set_option maxHeartbeats 8000000 in
theorem flawake_any (w : World) (hG : SG w) : Calls Tryz.prog 18 #[] w fun e w' => e = .returned (.bool true) ∧ Below w.heap.size w w' := by
  have HG := Lib.hid hG
  clear hG
  go_enter Tryz.func18, Tryz.ntmps18
  go_wp2_with fail
  refine (first_any w).mono ?_
  rintro e w1 ⟨b, -, rfl, hK, hb1⟩
  have HB1 := Lib.hid hb1
  have R1 := read_first b 7 7 w1 hK (HG.out.later hb1) first_read
  clear hK hb1
  go_wp2_with fail
  refine R1.mono ?_
  rintro e w2 ⟨rfl, hb2⟩
  have HB2 := Lib.hid (bstep HB1.out hb2)
  clear hb2 R1
  go_wp2_with fail
  refine (second_any w2).mono ?_
  rintro e w3 ⟨b', -, rfl, hK, hb3⟩
  have HB3 := Lib.hid (bstep HB2.out hb3)
  have R2 := read_second b' 7 3 w3 hK (HG.out.later HB3.out) second_read
  clear hK hb3
  go_wp2_with fail
  refine R2.mono ?_
  rintro e w4 ⟨rfl, hb4⟩
  have HB4 := Lib.hid (bstep HB3.out hb4)
  clear hb4 R2
  go_wp2_with fail
  refine (first_any w4).mono ?_
  rintro e w5 ⟨b'', -, rfl, hK, hb5⟩
  have HB5 := Lib.hid (bstep HB4.out hb5)
  have R3 := check_first b'' 1 13 w5 hK (HG.out.later HB5.out) first_check
  clear hK hb5
  go_wp2_with fail
  refine R3.mono ?_
  rintro e w6 ⟨rfl, hb6⟩
  have HB6 := Lib.hid (bstep HB5.out hb6)
  clear hb6 R3
  go_wp2
  go_ret
  exact ⟨rfl, HB6.out⟩
end Go.Proofs.YtdoioaeppepndaaGreatDoor
