/- Walks: what the writer writes of a node. Made by program (wip/tools/gen_astP.py). -/
import Derived.Test.YtfibmdbplfghcaaGreatDoorAstO
namespace Go.Proofs.YtfibmdbplfghcaaGreatDoor
open Go.RowKit Go.Shelf
open A8 Tk7 Lb

set_option maxRecDepth 100000 in
set_option maxHeartbeats 4000000 in
theorem kid_n (n0 b p r : Nat) (l T : List UInt8) (us : List Value) (kk mn mx kd : Int) (bd : Bool) (bn : Int) (sc : Value) (nm : ByteArray) (sk : Value) (k : Int) (h4 : ¬ kk = 4) (hk : ¬ kk = k) (w : World) (hW : Wt n0 b l w) (hl : l.length + T.length ≤ 1000000)
    (hp : Bx w p 28 (.int .i64 k :: us)) (hr : Bx w r 102 [.pointer (some ⟨b, 0, none⟩)])
    (hN : ∀ acc w1, Kept n0 b w w1 → Wt n0 b acc w1 → acc.length + T.length ≤ 1000000 → Calls Tryz.prog 41 #[.pointer (some ⟨b, 0, none⟩), .agg #[.int .i64 kk, .int .i64 mn, .int .i64 mx, .int .i64 kd, .bool bd, .int .u64 bn, sc, .string nm, sk]] w1 (WrP n0 b acc T w1)) :
    Calls Tryz.prog 108 #[.agg #[.int .i64 kk, .int .i64 mn, .int .i64 mx, .int .i64 kd, .bool bd, .int .u64 bn, sc, .string nm, sk], .pointer (some ⟨p, 0, none⟩), .pointer (some ⟨r, 0, none⟩)] w (WrP n0 b l (T) w) := by
  obtain ⟨W, hWW⟩ : ∃ W, W = w.alloc (.cells #[.int .i64 kk, .int .i64 mn, .int .i64 mx, .int .i64 kd, .bool bd, .int .u64 bn, sc, .string nm, sk] 28) := ⟨_, rfl⟩
  have hn0 := wt_le hW
  have hb1 : Below w.heap.size w W := hWW ▸ b1 _ _
  have hk1 : Kept n0 b w W := Kept.of hb1 hn0
  have hBx : Bx W w.heap.size 28 [.int .i64 kk, .int .i64 mn, .int .i64 mx, .int .i64 kd, .bool bd, .int .u64 bn, sc, .string nm, sk] := hWW ▸ Bx.new w _ _
  have hne : w.heap.size ≠ b := by have := wt_lt hW; omega
  have hW1 := hW.later hb1
  have p0 : W.cell? ⟨p, 0, none⟩ = some (.int .i64 k) := (hp.later hb1).blk.cell 0 _ rfl
  have r0 : W.cell? ⟨r, 0, none⟩ = some (.pointer (some ⟨b, 0, none⟩)) := (hr.later hb1).blk.cell 0 _ rfl
  have p1 : w.cell? ⟨p, 0, none⟩ = some (.int .i64 k) := hp.blk.cell 0 _ rfl
  have r1 : w.cell? ⟨r, 0, none⟩ = some (.pointer (some ⟨b, 0, none⟩)) := hr.blk.cell 0 _ rfl
  have p2 := hp.lt
  have r2 := hr.lt
  have e4 : (kk == 4) = false := by rw [beq_eq_false_iff_ne]; exact h4
  have e5 : (kk != 4) = true := by simp only [bne, e4]; rfl
  have ek : (kk == k) = false := by rw [beq_eq_false_iff_ne]; exact hk
  have ek5 : (kk != k) = true := by simp only [bne, ek]; rfl
  have hN1 := hN l W hk1 hW1 (by omega)
  have fin : ∀ w2, Wt n0 b (l ++ T) w2 → Kept n0 b W w2 → WrP n0 b l T w (.returned (.tuple #[])) w2 := fun w2 h1 h2 => ⟨rfl, h1, hk1.trans h2⟩
  unfold WrP at hN1
  clear hN hW1 hBx hb1 hk1 hW hl hp hr
  subst hWW
  go_enter Tryz.func108, Tryz.ntmps108
  go_wp2_with (go_at_call 41; refine hN1.mono ?_; rintro e w2 ⟨rfl, h1, h2⟩)
  go_end0
  exact fin _ h1 h2
set_option maxRecDepth 100000 in
set_option maxHeartbeats 4000000 in
theorem kid_a (n0 b p r : Nat) (l T : List UInt8) (us : List Value) (mn mx kd : Int) (bd : Bool) (bn : Int) (sc : Value) (nm : ByteArray) (sk : Value) (k : Int) (w : World) (hW : Wt n0 b l w) (hl : l.length + T.length + 2 ≤ 1000000)
    (hp : Bx w p 28 (.int .i64 k :: us)) (hr : Bx w r 102 [.pointer (some ⟨b, 0, none⟩)]) (hrb : r ≠ b)
    (hN : ∀ acc w1, Kept n0 b w w1 → Wt n0 b acc w1 → acc.length + T.length ≤ 1000000 → Calls Tryz.prog 41 #[.pointer (some ⟨b, 0, none⟩), .agg #[.int .i64 4, .int .i64 mn, .int .i64 mx, .int .i64 kd, .bool bd, .int .u64 bn, sc, .string nm, sk]] w1 (WrP n0 b acc T w1)) :
    Calls Tryz.prog 108 #[.agg #[.int .i64 4, .int .i64 mn, .int .i64 mx, .int .i64 kd, .bool bd, .int .u64 bn, sc, .string nm, sk], .pointer (some ⟨p, 0, none⟩), .pointer (some ⟨r, 0, none⟩)] w (WrP n0 b l ([40] ++ T ++ [41]) w) := by
  obtain ⟨W, hWW⟩ : ∃ W, W = w.alloc (.cells #[.int .i64 4, .int .i64 mn, .int .i64 mx, .int .i64 kd, .bool bd, .int .u64 bn, sc, .string nm, sk] 28) := ⟨_, rfl⟩
  have hn0 := wt_le hW
  have hb1 : Below w.heap.size w W := hWW ▸ b1 _ _
  have hk1 : Kept n0 b w W := Kept.of hb1 hn0
  have hBx : Bx W w.heap.size 28 [.int .i64 4, .int .i64 mn, .int .i64 mx, .int .i64 kd, .bool bd, .int .u64 bn, sc, .string nm, sk] := hWW ▸ Bx.new w _ _
  have hne : w.heap.size ≠ b := by have := wt_lt hW; omega
  have hW1 := hW.later hb1
  have p0 : W.cell? ⟨p, 0, none⟩ = some (.int .i64 k) := (hp.later hb1).blk.cell 0 _ rfl
  have r0 : W.cell? ⟨r, 0, none⟩ = some (.pointer (some ⟨b, 0, none⟩)) := (hr.later hb1).blk.cell 0 _ rfl
  have p1 : w.cell? ⟨p, 0, none⟩ = some (.int .i64 k) := hp.blk.cell 0 _ rfl
  have r1 : w.cell? ⟨r, 0, none⟩ = some (.pointer (some ⟨b, 0, none⟩)) := hr.blk.cell 0 _ rfl
  have p2 := hp.lt
  have r2 := hr.lt
  have hP := writeByte_any n0 b l 40 40 rfl W hW1 (by omega) (wt_le hW1)
  have hN1 := fun w1 (hk : Kept n0 b W w1) (h : Wt n0 b (l ++ [40]) w1) => hN (l ++ [40]) w1 (hk1.trans hk) h (by simp only [List.length_append, List.length_singleton]; omega)
  have hQ := fun w1 (h : Wt n0 b (l ++ [40] ++ T) w1) => writeByte_any n0 b (l ++ [40] ++ T) 41 41 rfl w1 h (by simp only [List.length_append, List.length_singleton]; omega) (wt_le h)
  have hcell : ∀ w1, Kept n0 b W w1 → Blk w1 w.heap.size [.int .i64 4, .int .i64 mn, .int .i64 mx, .int .i64 kd, .bool bd, .int .u64 bn, sc, .string nm, sk] ∧ Blk w1 r [.pointer (some ⟨b, 0, none⟩)] := fun w1 hk => ⟨(hBx.kept hk hne (by decide)).blk, ((hr.later hb1).kept hk hrb (by decide)).blk⟩
  have fin : ∀ w2, Wt n0 b (l ++ [40] ++ T ++ [41]) w2 → Kept n0 b W w2 → WrP n0 b l ([40] ++ T ++ [41]) w (.returned (.tuple #[])) w2 := fun w2 h1 h2 => ⟨rfl, by simpa only [List.append_assoc] using h1, hk1.trans h2⟩
  unfold WrP at hN1
  clear hN hW1 hBx hb1 hk1 hW hl hp hr
  subst hWW
  go_enter Tryz.func108, Tryz.ntmps108
  go_wp2_with (go_at_call 100; with_reducible refine hP.mono ?_; rintro e w2 ⟨rfl, hX2, hk2⟩; obtain ⟨HX, HR⟩ := hcell _ hk2; have q0 := HR.cell 0 _ rfl; have d0 := HX.cell 0 _ rfl; have d1 := HX.cell 1 _ rfl; have d2 := HX.cell 2 _ rfl; have d3 := HX.cell 3 _ rfl; have d4 := HX.cell 4 _ rfl; have d5 := HX.cell 5 _ rfl; have d6 := HX.cell 6 _ rfl; have d7 := HX.cell 7 _ rfl; have d8 := HX.cell 8 _ rfl; clear HX HR)
  go_wp2_with (go_at_call 41; refine (hN1 _ hk2 hX2).mono ?_; rintro e w3 ⟨rfl, hX3, hk3⟩; obtain ⟨-, HR⟩ := hcell _ (hk2.trans hk3); have s0 := HR.cell 0 _ rfl; clear HR)
  go_wp2_with (go_at_call 100; with_reducible refine (hQ _ hX3).mono ?_; rintro e w4 ⟨rfl, hX4, hk4⟩)
  go_end0
  exact fin _ hX4 ((hk2.trans hk3).trans hk4)
set_option maxRecDepth 100000 in
set_option maxHeartbeats 4000000 in
theorem kid_s (n0 b p r : Nat) (l T : List UInt8) (us : List Value) (kk mn mx kd : Int) (bd : Bool) (bn : Int) (sc : Value) (nm : ByteArray) (sk : Value) (h4 : ¬ kk = 4) (w : World) (hW : Wt n0 b l w) (hl : l.length + T.length + 2 ≤ 1000000)
    (hp : Bx w p 28 (.int .i64 kk :: us)) (hr : Bx w r 102 [.pointer (some ⟨b, 0, none⟩)]) (hrb : r ≠ b)
    (hN : ∀ acc w1, Kept n0 b w w1 → Wt n0 b acc w1 → acc.length + T.length ≤ 1000000 → Calls Tryz.prog 41 #[.pointer (some ⟨b, 0, none⟩), .agg #[.int .i64 kk, .int .i64 mn, .int .i64 mx, .int .i64 kd, .bool bd, .int .u64 bn, sc, .string nm, sk]] w1 (WrP n0 b acc T w1)) :
    Calls Tryz.prog 108 #[.agg #[.int .i64 kk, .int .i64 mn, .int .i64 mx, .int .i64 kd, .bool bd, .int .u64 bn, sc, .string nm, sk], .pointer (some ⟨p, 0, none⟩), .pointer (some ⟨r, 0, none⟩)] w (WrP n0 b l ([40] ++ T ++ [41]) w) := by
  obtain ⟨W, hWW⟩ : ∃ W, W = w.alloc (.cells #[.int .i64 kk, .int .i64 mn, .int .i64 mx, .int .i64 kd, .bool bd, .int .u64 bn, sc, .string nm, sk] 28) := ⟨_, rfl⟩
  have hn0 := wt_le hW
  have hb1 : Below w.heap.size w W := hWW ▸ b1 _ _
  have hk1 : Kept n0 b w W := Kept.of hb1 hn0
  have hBx : Bx W w.heap.size 28 [.int .i64 kk, .int .i64 mn, .int .i64 mx, .int .i64 kd, .bool bd, .int .u64 bn, sc, .string nm, sk] := hWW ▸ Bx.new w _ _
  have hne : w.heap.size ≠ b := by have := wt_lt hW; omega
  have hW1 := hW.later hb1
  have p0 : W.cell? ⟨p, 0, none⟩ = some (.int .i64 kk) := (hp.later hb1).blk.cell 0 _ rfl
  have r0 : W.cell? ⟨r, 0, none⟩ = some (.pointer (some ⟨b, 0, none⟩)) := (hr.later hb1).blk.cell 0 _ rfl
  have p1 : w.cell? ⟨p, 0, none⟩ = some (.int .i64 kk) := hp.blk.cell 0 _ rfl
  have r1 : w.cell? ⟨r, 0, none⟩ = some (.pointer (some ⟨b, 0, none⟩)) := hr.blk.cell 0 _ rfl
  have p2 := hp.lt
  have r2 := hr.lt
  have e4 : (kk == 4) = false := by rw [beq_eq_false_iff_ne]; exact h4
  have e5 : (kk != 4) = true := by simp only [bne, e4]; rfl
  have hP := writeByte_any n0 b l 40 40 rfl W hW1 (by omega) (wt_le hW1)
  have hN1 := fun w1 (hk : Kept n0 b W w1) (h : Wt n0 b (l ++ [40]) w1) => hN (l ++ [40]) w1 (hk1.trans hk) h (by simp only [List.length_append, List.length_singleton]; omega)
  have hQ := fun w1 (h : Wt n0 b (l ++ [40] ++ T) w1) => writeByte_any n0 b (l ++ [40] ++ T) 41 41 rfl w1 h (by simp only [List.length_append, List.length_singleton]; omega) (wt_le h)
  have hcell : ∀ w1, Kept n0 b W w1 → Blk w1 w.heap.size [.int .i64 kk, .int .i64 mn, .int .i64 mx, .int .i64 kd, .bool bd, .int .u64 bn, sc, .string nm, sk] ∧ Blk w1 r [.pointer (some ⟨b, 0, none⟩)] := fun w1 hk => ⟨(hBx.kept hk hne (by decide)).blk, ((hr.later hb1).kept hk hrb (by decide)).blk⟩
  have fin : ∀ w2, Wt n0 b (l ++ [40] ++ T ++ [41]) w2 → Kept n0 b W w2 → WrP n0 b l ([40] ++ T ++ [41]) w (.returned (.tuple #[])) w2 := fun w2 h1 h2 => ⟨rfl, by simpa only [List.append_assoc] using h1, hk1.trans h2⟩
  unfold WrP at hN1
  clear hN hW1 hBx hb1 hk1 hW hl hp hr
  subst hWW
  go_enter Tryz.func108, Tryz.ntmps108
  go_wp2_with (go_at_call 100; with_reducible refine hP.mono ?_; rintro e w2 ⟨rfl, hX2, hk2⟩; obtain ⟨HX, HR⟩ := hcell _ hk2; have q0 := HR.cell 0 _ rfl; have d0 := HX.cell 0 _ rfl; have d1 := HX.cell 1 _ rfl; have d2 := HX.cell 2 _ rfl; have d3 := HX.cell 3 _ rfl; have d4 := HX.cell 4 _ rfl; have d5 := HX.cell 5 _ rfl; have d6 := HX.cell 6 _ rfl; have d7 := HX.cell 7 _ rfl; have d8 := HX.cell 8 _ rfl; clear HX HR)
  go_wp2_with (go_at_call 41; refine (hN1 _ hk2 hX2).mono ?_; rintro e w3 ⟨rfl, hX3, hk3⟩; obtain ⟨-, HR⟩ := hcell _ (hk2.trans hk3); have s0 := HR.cell 0 _ rfl; clear HR)
  go_wp2_with (go_at_call 100; with_reducible refine (hQ _ hX3).mono ?_; rintro e w4 ⟨rfl, hX4, hk4⟩)
  go_end0
  exact fin _ hX4 ((hk2.trans hk3).trans hk4)
set_option maxRecDepth 100000 in
set_option maxHeartbeats 4000000 in
theorem kids_any (n0 b : Nat) (l : List UInt8) (w0 : World) (k mn mx kd : Int) (bd : Bool) (bn : Int) (sc : Value) (nm : ByteArray) (sk : Value) (ks : List Tr) (btw : List UInt8) (sS : ByteArray) (hS : sS = strOf btw) (w : World) (hn : n0 = w0.heap.size) (hB : Below n0 w0 w)
    (hsl : Sl w0 9 ks.length sk (ks.flatMap Tr.row)) (hone : ∀ t ∈ ks, OneT w0 t) (hW : Wt n0 b l w) (hl : l.length + (sepL btw (textL k (ndL ks))).length ≤ 1000000)
    (hN : ∀ t ∈ ks, ∀ acc w1, Below n0 w0 w1 → Wt n0 b acc w1 → acc.length + (textN t.nd).length ≤ 1000000 → Calls Tryz.prog 41 #[.pointer (some ⟨b, 0, none⟩), .agg t.row.toArray] w1 (WrP n0 b acc (textN t.nd) w1)) :
    Calls Tryz.prog 82 #[.pointer (some ⟨b, 0, none⟩), .agg #[.int .i64 k, .int .i64 mn, .int .i64 mx, .int .i64 kd, .bool bd, .int .u64 bn, sc, .string nm, sk], .string sS] w (WrP n0 b l (sepL btw (textL k (ndL ks))) w) := by
  obtain ⟨W, hWW⟩ : ∃ W, W = (w.alloc (.cells #[.pointer (some ⟨b, 0, none⟩)] 102)).alloc (.cells #[.int .i64 k, .int .i64 mn, .int .i64 mx, .int .i64 kd, .bool bd, .int .u64 bn, sc, .string nm, sk] 28) := ⟨_, rfl⟩
  have hn0 := wt_le hW
  have hlt := wt_lt hW
  have hb2 : Below w.heap.size w W := hWW ▸ b2 _ _ _
  have hX1 : Bx W w.heap.size 102 [.pointer (some ⟨b, 0, none⟩)] := by rw [hWW]; exact (Bx.new w [.pointer (some ⟨b, 0, none⟩)] _).later (b1 _ _)
  have hX2 : Bx W (w.heap.size + 1) 28 [.int .i64 k, .int .i64 mn, .int .i64 mx, .int .i64 kd, .bool bd, .int .u64 bn, sc, .string nm, sk] := by
    rw [hWW]
    have := Bx.new (w.alloc (.cells #[.pointer (some ⟨b, 0, none⟩)] 102)) [.int .i64 k, .int .i64 mn, .int .i64 mx, .int .i64 kd, .bool bd, .int .u64 bn, sc, .string nm, sk] 28
    rw [World.size_alloc] at this
    exact this
  have htx : textL k (ndL ks) = ks.map fun t => wrapT k t.nd.kind (textN t.nd) := by rw [textL_map, ndL_map, List.map_map]; rfl
  have hLT : sepL btw (textL k (ndL ks)) = listT [] (ks.map fun t => wrapT k t.nd.kind (textN t.nd)) btw [] := by
    rw [htx]
    unfold listT
    cases ks with
    | nil => rfl
    | cons t ts => simp
  rw [hLT] at hl ⊢
  have hq := writeListNode_any n0 b (w.heap.size + 1) w.heap.size (fun w1 => Below n0 w0 w1 ∧ Bx w1 w.heap.size 102 [.pointer (some ⟨b, 0, none⟩)] ∧ Bx w1 (w.heap.size + 1) 28 [.int .i64 k, .int .i64 mn, .int .i64 mx, .int .i64 kd, .bool bd, .int .u64 bn, sc, .string nm, sk])
    l [] btw [] ⟨#[]⟩ sS ⟨#[]⟩ rfl hS rfl sk ks (fun t => wrapT k t.nd.kind (textN t.nd)) w0 hone W ⟨hB.trans (hb2.mono hn0), hX1, hX2⟩
    (fun w1 w2 h kk => ⟨h.1.trans kk.1, h.2.1.kept kk (by omega) (by decide), h.2.2.kept kk (by omega) (by decide)⟩)
    (fun w1 h => hsl.later (hn ▸ h.1))
    (fun t ht acc w1 hI hW1 hl1 => by
      obtain ⟨kk, mn', mx', ⟨⟨kd', bd', bn', cs', nm'⟩, sc'⟩, sk', ks'⟩ := t
      have hN1 := hN _ ht
      have hkk : Nd.kind (Tr.nd (.mk kk mn' mx' ⟨⟨kd', bd', bn', cs', nm'⟩, sc'⟩ sk' ks')) = kk := by rw [nd_mk]; rfl
      simp only [hkk] at hl1 ⊢
      simp only [Tr.row] at hN1 ⊢
      obtain ⟨T, hT⟩ : ∃ T, T = textN (Tr.nd (.mk kk mn' mx' ⟨⟨kd', bd', bn', cs', nm'⟩, sc'⟩ sk' ks')) := ⟨_, rfl⟩
      rw [← hT] at hN1 hl1 ⊢
      have hN2 := fun acc w2 (hk2 : Kept n0 b w1 w2) (h : Wt n0 b acc w2) (h2 : acc.length + T.length ≤ 1000000) => hN1 acc w2 (hI.1.trans hk2.1) h h2
      by_cases e4 : kk = 4
      · subst e4
        have hw : wrapT k 4 T = [40] ++ T ++ [41] := if_pos (.inl rfl)
        rw [hw] at hl1 ⊢
        simp only [List.length_append, List.length_singleton] at hl1
        exact kid_a n0 b (w.heap.size + 1) w.heap.size acc T _ mn' mx' kd' bd' bn' sc' (strOf nm') sk' k w1 hW1 (by omega) hI.2.2 hI.2.1 (by omega) hN2
      · by_cases ek : kk = k
        · subst ek
          have hw : wrapT kk kk T = [40] ++ T ++ [41] := if_pos (.inr rfl)
          rw [hw] at hl1 ⊢
          simp only [List.length_append, List.length_singleton] at hl1
          exact kid_s n0 b (w.heap.size + 1) w.heap.size acc T _ kk mn' mx' kd' bd' bn' sc' (strOf nm') sk' e4 w1 hW1 (by omega) hI.2.2 hI.2.1 (by omega) hN2
        · have hw : wrapT k kk T = T := if_neg (fun h => h.elim e4 ek)
          rw [hw] at hl1 ⊢
          exact kid_n n0 b (w.heap.size + 1) w.heap.size acc T _ kk mn' mx' kd' bd' bn' sc' (strOf nm') sk' k e4 ek w1 hW1 hl1 hI.2.2 hI.2.1 hN2) (hW.later hb2) hl
  obtain ⟨x, hx⟩ : ∃ x, x = listT [] (ks.map fun t => wrapT k t.nd.kind (textN t.nd)) btw [] := ⟨_, rfl⟩
  rw [← hx] at hq ⊢
  have fin : ∀ w2, Wt n0 b (l ++ x) w2 → Kept n0 b W w2 → WrP n0 b l x w (.returned (.tuple #[])) w2 := fun w2 h1 h2 => ⟨rfl, h1, (Kept.of hb2 hn0).trans h2⟩
  unfold WrP at hq
  obtain ⟨A, c, rfl, -, -⟩ := sl_get (by decide) hsl
  clear hx hW hB hl hLT htx hX1 hX2 hb2 hlt hsl hone hN hS hn
  go_enter Tryz.func82, Tryz.ntmps82
  go_wp2_with fail
  rw [← hWW]
  clear hWW
  refine hq.mono ?_
  rintro e w2 ⟨rfl, h1, h2⟩
  go_wp2
  go_end0
  exact fin _ h1 h2
end Go.Proofs.YtfibmdbplfghcaaGreatDoor
