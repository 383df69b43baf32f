/- The law on the parts of a node's kids. -/
import Derived.Test.YtfibmdbplfghcaaGreatDoorAstAt
import Derived.Test.YtfibmdbplfghcaaGreatDoorAstKm
import Derived.Test.YtfibmdbplfghcaaGreatDoorAstU
import Derived.Test.YtfibmdbplfghcaaGreatDoorAppRun
import Derived.Deep.DeepCutAuto
namespace Go.Proofs.YtfibmdbplfghcaaGreatDoor
open Go.RowKit Go.Shelf
open A8 Tk7

theorem nodesL_snoc (l : List Nd) (t : Nd) : nodesL (l ++ [t]) = nodesL l + nodesN t := by
  induction l with
  | nil => simp [nodesL]
  | cons x xs ih => rw [List.cons_append, nodesL, nodesL, ih]; omega
theorem depthL_snoc (l : List Nd) (t : Nd) : depthL (l ++ [t]) = max (depthL l) (depthN t) := by
  induction l with
  | nil => simp [depthL]
  | cons x xs ih => rw [List.cons_append, depthL, depthL, ih]; omega
theorem nodesL_take (ks : List Nd) (i : Nat) : nodesL (ks.take i) ≤ nodesL ks := by
  have h : ∀ a b : List Nd, nodesL (a ++ b) = nodesL a + nodesL b := fun a b => by
    induction a with
    | nil => simp [nodesL]
    | cons x xs ih => rw [List.cons_append, nodesL, nodesL, ih]; omega
  have := h (ks.take i) (ks.drop i)
  rw [List.take_append_drop] at this
  omega
set_option maxRecDepth 100000 in
set_option maxHeartbeats 8000000 in
/-- Where there are too many nodes, or the node is not sound. -/
theorem kids_out (T : Tr) (w : World) (F S : Int) (h : F < 0 ∨ (¬ F < 0 ∧ S = 3))
    (hf : ∀ w1, Below w.heap.size w w1 → Calls Tryz.prog 20 #[.agg T.row.toArray, .int .i64 60, .int .i64 1] w1 fun e w' => e = .returned (.int .i64 F) ∧ Below w1.heap.size w1 w')
    (hs : ¬ F < 0 → ∀ w1, Below w.heap.size w w1 → Calls Tryz.prog 16 #[.agg T.row.toArray] w1 fun e w' => e = .returned (.int .i64 S) ∧ Below w1.heap.size w1 w')
    (hW : ∀ w1, Below w.heap.size w w1 → Calls Tryz.prog 9 #[] w1 fun e w' => e = .returned (.bool true) ∧ Below w1.heap.size w1 w') :
    Calls Tryz.prog 7 #[.agg T.row.toArray] w fun e w' => e = .returned (.bool true) ∧ Below w.heap.size w w' := by
  have hbx : ∀ w1, Below (w.alloc (.cells T.row.toArray 28)).heap.size (w.alloc (.cells T.row.toArray 28)) w1 → Blk w1 w.heap.size T.row := fun w1 hb => (Blk.new w _ _).later hb
  obtain ⟨k, mn, mx, ⟨⟨kd, bd, bn, cs, nm⟩, sc⟩, sk, ks⟩ := T
  simp only [Tr.row] at hf hs hbx ⊢
  have HX := Lib.hid hbx
  have HF := Lib.hid hf
  have HS := Lib.hid hs
  have HA := Lib.hid hW
  clear hbx hf hs hW
  rcases h with h | ⟨h, rfl⟩
  · go_enter Tryz.func7, Tryz.ntmps7
    go_wp2_with (first | (go_at_call 20; refine (HF.out _ (b1 _ _)).mono ?_; rintro e w2 ⟨rfl, hb2⟩; have HB := Lib.hid (bstep (b1 _ _) hb2); clear hb2) | (go_at_call 9; refine (HA.out _ HB.out).mono ?_; rintro e w3 ⟨rfl, hb3⟩; replace HB := Lib.hid (bstep HB.out hb3); clear hb3))
    go_ret
    exact ⟨rfl, HB.out⟩
  · have HS2 := Lib.hid (HS.out h)
    clear HS
    go_enter Tryz.func7, Tryz.ntmps7
    go_wp2_with (first | (go_at_call 20; refine (HF.out _ (b1 _ _)).mono ?_; rintro e w2 ⟨rfl, hb2⟩; have HB := Lib.hid (bstep (b1 _ _) hb2); have hB := HX.out _ hb2; have c0 := hB.cell 0 _ rfl; have c1 := hB.cell 1 _ rfl; have c2 := hB.cell 2 _ rfl; have c3 := hB.cell 3 _ rfl; have c4 := hB.cell 4 _ rfl; have c5 := hB.cell 5 _ rfl; have c6 := hB.cell 6 _ rfl; have c7 := hB.cell 7 _ rfl; have c8 := hB.cell 8 _ rfl; clear hB hb2) | (go_at_call 16; refine (HS2.out _ HB.out).mono ?_; rintro e w3 ⟨rfl, hb3⟩; replace HB := Lib.hid (bstep HB.out hb3); clear hb3) | (go_at_call 9; refine (HA.out _ HB.out).mono ?_; rintro e w3 ⟨rfl, hb3⟩; replace HB := Lib.hid (bstep HB.out hb3); clear hb3))
    go_ret
    exact ⟨rfl, HB.out⟩
/-! The cases -/
theorem ga_one {w : World} {v : Value} {gs : List GA} (h : Ats w v gs) : ∀ u ∈ gs.flatMap gaC, u.oneCell' = true := by
  intro u hu
  obtain ⟨g, hg, h1⟩ := List.mem_flatMap.1 hu
  obtain ⟨_, _, A, c, hsc, _⟩ := h.2 g hg
  simp only [gaC, List.mem_cons, List.not_mem_nil, or_false] at h1
  rcases h1 with rfl | rfl | rfl | rfl | rfl
  · rfl
  · rfl
  · rfl
  · rw [hsc]; rfl
  · rfl
theorem kids_cns {w3 w4 : World} {b b' : Nat} {v : Value} {n : Nat} {us : List Value} {hs gs : List GA} (h1 : ∀ g ∈ hs, w3.ownsRow b 59 2 g.sc g.a.cs.length (g.a.cs.flatMap cnC)) (h2 : ∀ g ∈ gs, w3.ownsRow b 59 2 g.sc g.a.cs.length (g.a.cs.flatMap cnC))
    (hO : w3.ownsRow b' 25 5 v n us) (hg : w3.grownBy w4 v.ownBlock) : ∀ g ∈ hs ++ gs, w4.ownsRow b 59 2 g.sc g.a.cs.length (g.a.cs.flatMap cnC) := by
  intro g hg'
  have h3 : w3.ownsRow b 59 2 g.sc g.a.cs.length (g.a.cs.flatMap cnC) := (List.mem_append.1 hg').elim (h1 g) (h2 g)
  exact h3.kept hg (own_block_ne h3 hO (by decide))
set_option maxRecDepth 100000 in
set_option maxHeartbeats 8000000 in
/-- One node without kids. -/
theorem kids_one (T : Tr) (w : World) (F : Int) (hF : ¬ F < 0) (hk : ∃ k mn mx g sk, T = .mk k mn mx g sk []) (hT : OneT w T)
    (hf : ∀ w1, Below w.heap.size w w1 → Calls Tryz.prog 20 #[.agg T.row.toArray, .int .i64 60, .int .i64 1] w1 fun e w' => e = .returned (.int .i64 F) ∧ Below w1.heap.size w1 w')
    (hs : ∀ w1, Below w.heap.size w w1 → Calls Tryz.prog 16 #[.agg T.row.toArray] w1 fun e w' => e = .returned (.int .i64 0) ∧ Below w1.heap.size w1 w')
    (hat : ∀ w1, Below w.heap.size w w1 → Calls Tryz.prog 21 #[.agg T.row.toArray] w1 fun e w' => ∃ (A : Option Addr) (c : Nat), e = .returned (.tuple #[.slice A 1 c, .int .i64 0]) ∧ Below w1.heap.size w1 w')
    (hno : ∀ w1, Below w.heap.size w w1 → Calls Tryz.prog 29 #[.agg T.row.toArray] w1 fun e w' => e = .returned (.tuple #[.int .i64 1, .int .i64 0]) ∧ Below w1.heap.size w1 w')
    (hde : ∀ w1, Below w.heap.size w w1 → Calls Tryz.prog 27 #[.agg T.row.toArray] w1 fun e w' => e = .returned (.tuple #[.int .i64 1, .int .i64 0]) ∧ Below w1.heap.size w1 w')
    (hW : ∀ w1, Below w.heap.size w w1 → Calls Tryz.prog 9 #[] w1 fun e w' => e = .returned (.bool true) ∧ Below w1.heap.size w1 w') :
    Calls Tryz.prog 7 #[.agg T.row.toArray] w fun e w' => e = .returned (.bool true) ∧ Below w.heap.size w w' := by
  obtain ⟨k, mn, mx, g, sk, rfl⟩ := hk
  obtain ⟨-, -, hsk⟩ := hT
  have hbx : ∀ w1, Below (w.alloc (.cells (Tr.mk k mn mx g sk []).row.toArray 28)).heap.size (w.alloc (.cells (Tr.mk k mn mx g sk []).row.toArray 28)) w1 → Blk w1 w.heap.size (Tr.mk k mn mx g sk []).row := fun w1 hb => (Blk.new w _ _).later hb
  obtain ⟨⟨kd, bd, bn, cs, nm⟩, sc⟩ := g
  obtain ⟨B, e9, rfl, -, -⟩ := sl_get (by decide) hsk
  simp only [Tr.row, List.length_nil] at hf hs hat hno hde hbx ⊢
  have HX := Lib.hid hbx
  have HF := Lib.hid hf
  have HS := Lib.hid hs
  have HT := Lib.hid hat
  have HN := Lib.hid hno
  have HD := Lib.hid hde
  have HA := Lib.hid hW
  clear hbx hf hs hat hno hde hW
  clear hsk
  go_enter Tryz.func7, Tryz.ntmps7
  go_wp2_with (first | (go_at_call 20; refine (HF.out _ (b1 _ _)).mono ?_; rintro e w2 ⟨rfl, hb2⟩; have HB := Lib.hid hb2; clear hb2; have hB := HX.out _ HB.out; have c0 := hB.cell 0 _ rfl; have c1 := hB.cell 1 _ rfl; have c2 := hB.cell 2 _ rfl; have c3 := hB.cell 3 _ rfl; have c4 := hB.cell 4 _ rfl; have c5 := hB.cell 5 _ rfl; have c6 := hB.cell 6 _ rfl; have c7 := hB.cell 7 _ rfl; have c8 := hB.cell 8 _ rfl; have clt := hB.lt; clear hB) | (go_at_call 16; refine (HS.out _ (bstep (b1 _ _) HB.out)).mono ?_; rintro e w2 ⟨rfl, hb2⟩; replace HB := Lib.hid (bstep HB.out hb2); clear c0 c1 c2 c3 c4 c5 c6 c7 c8 clt; clear hb2; have hB := HX.out _ HB.out; have c0 := hB.cell 0 _ rfl; have c1 := hB.cell 1 _ rfl; have c2 := hB.cell 2 _ rfl; have c3 := hB.cell 3 _ rfl; have c4 := hB.cell 4 _ rfl; have c5 := hB.cell 5 _ rfl; have c6 := hB.cell 6 _ rfl; have c7 := hB.cell 7 _ rfl; have c8 := hB.cell 8 _ rfl; have clt := hB.lt; clear hB) | (go_at_call 21; refine (HT.out _ (bstep (b1 _ _) HB.out)).mono ?_; rintro e w2 ⟨A, c, rfl, hb2⟩; replace HB := Lib.hid (bstep HB.out hb2); clear c0 c1 c2 c3 c4 c5 c6 c7 c8 clt; clear hb2; have hB := HX.out _ HB.out; have c0 := hB.cell 0 _ rfl; have c1 := hB.cell 1 _ rfl; have c2 := hB.cell 2 _ rfl; have c3 := hB.cell 3 _ rfl; have c4 := hB.cell 4 _ rfl; have c5 := hB.cell 5 _ rfl; have c6 := hB.cell 6 _ rfl; have c7 := hB.cell 7 _ rfl; have c8 := hB.cell 8 _ rfl; have clt := hB.lt; clear hB) | (go_at_call 29; refine (HN.out _ (bstep (b1 _ _) HB.out)).mono ?_; rintro e w2 ⟨rfl, hb2⟩; replace HB := Lib.hid (bstep HB.out hb2); clear c0 c1 c2 c3 c4 c5 c6 c7 c8 clt; clear hb2; have hB := HX.out _ HB.out; have c0 := hB.cell 0 _ rfl; have c1 := hB.cell 1 _ rfl; have c2 := hB.cell 2 _ rfl; have c3 := hB.cell 3 _ rfl; have c4 := hB.cell 4 _ rfl; have c5 := hB.cell 5 _ rfl; have c6 := hB.cell 6 _ rfl; have c7 := hB.cell 7 _ rfl; have c8 := hB.cell 8 _ rfl; have clt := hB.lt; clear hB) | (go_at_call 27; refine (HD.out _ (bstep (b1 _ _) HB.out)).mono ?_; rintro e w2 ⟨rfl, hb2⟩; replace HB := Lib.hid (bstep HB.out hb2); clear c0 c1 c2 c3 c4 c5 c6 c7 c8 clt; clear hb2; have hB := HX.out _ HB.out; have c0 := hB.cell 0 _ rfl; have c1 := hB.cell 1 _ rfl; have c2 := hB.cell 2 _ rfl; have c3 := hB.cell 3 _ rfl; have c4 := hB.cell 4 _ rfl; have c5 := hB.cell 5 _ rfl; have c6 := hB.cell 6 _ rfl; have c7 := hB.cell 7 _ rfl; have c8 := hB.cell 8 _ rfl; have clt := hB.lt; clear hB) | (go_at_call 9; refine (HA.out _ (bstep (b1 _ _) HB.out)).mono ?_; rintro e w2 ⟨rfl, hb2⟩; replace HB := Lib.hid (bstep HB.out hb2); clear c0 c1 c2 c3 c4 c5 c6 c7 c8 clt; clear hb2; have hB := HX.out _ HB.out; have c0 := hB.cell 0 _ rfl; have c1 := hB.cell 1 _ rfl; have c2 := hB.cell 2 _ rfl; have c3 := hB.cell 3 _ rfl; have c4 := hB.cell 4 _ rfl; have c5 := hB.cell 5 _ rfl; have c6 := hB.cell 6 _ rfl; have c7 := hB.cell 7 _ rfl; have c8 := hB.cell 8 _ rfl; have clt := hB.lt; clear hB))
  go_ret
  exact ⟨rfl, bstep (b1 _ _) HB.out⟩
set_option maxRecDepth 100000 in
set_option maxHeartbeats 16000000 in
/-- A node with kids. -/
theorem kids_in (T : Tr) (w : World) (F : Int) (hF : ¬ F < 0) (gs : List At) (nN dN : Nat) (ks : List Tr) (hk : ∃ k mn mx g sk, T = .mk k mn mx g sk ks) (hk0 : 0 < ks.length) (hkl : ks.length ≤ 60) (hT : OneT w T)
    (hgs : gs = (ndL ks).flatMap atomsN) (hnN : nN = 1 + nodesL (ndL ks)) (hn60 : nN ≤ 60) (hdN : dN = 1 + depthL (ndL ks)) (hdn : dN ≤ nN) (hgl : ∀ i ≤ ks.length, ((ndL (ks.take i)).flatMap atomsN).length ≤ 60)
    (hf : ∀ w1, Below w.heap.size w w1 → Calls Tryz.prog 20 #[.agg T.row.toArray, .int .i64 60, .int .i64 1] w1 fun e w' => e = .returned (.int .i64 F) ∧ Below w1.heap.size w1 w')
    (hs : ∀ w1, Below w.heap.size w w1 → Calls Tryz.prog 16 #[.agg T.row.toArray] w1 fun e w' => e = .returned (.int .i64 0) ∧ Below w1.heap.size w1 w')
    (hat : ∀ w1, Below w.heap.size w w1 → Calls Tryz.prog 21 #[.agg T.row.toArray] w1 fun e w' => ∃ (l : List GA) (A : Option Addr) (c : Nat), IsL (l.map (fun g => g.a)) gs ∧ e = .returned (.tuple #[.slice A l.length c, .int .i64 0]) ∧ Ats w' (.slice A l.length c) l ∧ Below w1.heap.size w1 w')
    (hno : ∀ w1, Below w.heap.size w w1 → Calls Tryz.prog 29 #[.agg T.row.toArray] w1 fun e w' => e = .returned (.tuple #[.int .i64 (nN : Int), .int .i64 0]) ∧ Below w1.heap.size w1 w')
    (hde : ∀ w1, Below w.heap.size w w1 → Calls Tryz.prog 27 #[.agg T.row.toArray] w1 fun e w' => e = .returned (.tuple #[.int .i64 (dN : Int), .int .i64 0]) ∧ Below w1.heap.size w1 w')
    (hW : ∀ w1, Below w.heap.size w w1 → Calls Tryz.prog 9 #[] w1 fun e w' => e = .returned (.bool true) ∧ Below w1.heap.size w1 w')
    (kat : ∀ t ∈ ks, ∀ w1, Below w.heap.size w w1 → Calls Tryz.prog 21 #[.agg t.row.toArray] w1 fun e w' => ∃ (l : List GA) (A : Option Addr) (c : Nat), IsL (l.map (fun g => g.a)) (atomsN t.nd) ∧ e = .returned (.tuple #[.slice A l.length c, .int .i64 0]) ∧ Ats w' (.slice A l.length c) l ∧ (∀ g ∈ l, w'.ownsRow w1.heap.size 59 2 g.sc g.a.cs.length (g.a.cs.flatMap cnC)) ∧ Below w1.heap.size w1 w')
    (kno : ∀ t ∈ ks, ∀ w1, Below w.heap.size w w1 → Calls Tryz.prog 29 #[.agg t.row.toArray] w1 fun e w' => e = .returned (.tuple #[.int .i64 (nodesN t.nd : Int), .int .i64 0]) ∧ Below w1.heap.size w1 w')
    (kde : ∀ t ∈ ks, ∀ w1, Below w.heap.size w w1 → Calls Tryz.prog 27 #[.agg t.row.toArray] w1 fun e w' => e = .returned (.tuple #[.int .i64 (depthN t.nd : Int), .int .i64 0]) ∧ Below w1.heap.size w1 w') :
    Calls Tryz.prog 7 #[.agg T.row.toArray] w fun e w' => e = .returned (.bool true) ∧ Below w.heap.size w w' := by
  obtain ⟨i0, hi0, hz0, hz1, hz2⟩ := info_parts infoAtom
  obtain ⟨k, mn, mx, g, sk, rfl⟩ := hk
  obtain ⟨-, -, hsk⟩ := hT
  have hbx : ∀ w1, Below (w.alloc (.cells (Tr.mk k mn mx g sk ks).row.toArray 28)).heap.size (w.alloc (.cells (Tr.mk k mn mx g sk ks).row.toArray 28)) w1 → Blk w1 w.heap.size (Tr.mk k mn mx g sk ks).row := fun w1 hb => (Blk.new w _ _).later hb
  obtain ⟨⟨kd, bd, bn, cs, nm⟩, sc⟩ := g
  obtain ⟨B, e9, rfl, -, hels⟩ := sl_els (by decide) row_len hsk
  simp only [Tr.row] at hf hs hat hno hde hbx ⊢
  have HX := Lib.hid hbx
  have HF := Lib.hid hf
  have HS := Lib.hid hs
  have HT := Lib.hid hat
  have HN := Lib.hid hno
  have HD := Lib.hid hde
  have HA := Lib.hid hW
  clear hbx hf hs hat hno hde hW
  have HEL := Lib.hid hels
  have KA := Lib.hid kat
  have KN := Lib.hid kno
  have KD := Lib.hid kde
  have HGS := Lib.hid hgs
  have HNN := Lib.hid hnN
  have HDN := Lib.hid hdN
  have HGL := Lib.hid hgl
  have h1 : ¬ ((ks.length : Int) = 0) := by omega
  have h2 : ¬ (nN : Int) < (dN : Int) := by omega
  have h3 : ¬ (dN : Int) < 1 := by omega
  have h2n : ¬ nN < dN := by omega
  have h2d : decide (nN < dN) = false := decide_eq_false h2n
  have h1b : ((ks.length : Int) == 0) = false := by rw [beq_eq_false_iff_ne]; exact h1
  have h3d : decide ((dN : Int) < 1) = false := decide_eq_false h3
  clear hsk hels kat kno kde hgs hnN hdN hgl
  go_enter Tryz.func7, Tryz.ntmps7
  go_wp2_with (first | (go_at_call 20; refine (HF.out _ (b1 _ _)).mono ?_; rintro e w2 ⟨rfl, hb2⟩; have HB := Lib.hid hb2; clear hb2; have hB := HX.out _ HB.out; have c0 := hB.cell 0 _ rfl; have c1 := hB.cell 1 _ rfl; have c2 := hB.cell 2 _ rfl; have c3 := hB.cell 3 _ rfl; have c4 := hB.cell 4 _ rfl; have c5 := hB.cell 5 _ rfl; have c6 := hB.cell 6 _ rfl; have c7 := hB.cell 7 _ rfl; have c8 := hB.cell 8 _ rfl; have clt := hB.lt; clear hB) | (go_at_call 16; refine (HS.out _ (bstep (b1 _ _) HB.out)).mono ?_; rintro e w2 ⟨rfl, hb2⟩; replace HB := Lib.hid (bstep HB.out hb2); clear c0 c1 c2 c3 c4 c5 c6 c7 c8 clt; clear hb2; have hB := HX.out _ HB.out; have c0 := hB.cell 0 _ rfl; have c1 := hB.cell 1 _ rfl; have c2 := hB.cell 2 _ rfl; have c3 := hB.cell 3 _ rfl; have c4 := hB.cell 4 _ rfl; have c5 := hB.cell 5 _ rfl; have c6 := hB.cell 6 _ rfl; have c7 := hB.cell 7 _ rfl; have c8 := hB.cell 8 _ rfl; have clt := hB.lt; clear hB) | (go_at_call 21; refine (HT.out _ (bstep (b1 _ _) HB.out)).mono ?_; rintro e w2 ⟨l, A, c, hl, rfl, hla, hb2⟩; have HL := Lib.hid hl; have HLA := Lib.hid hla; clear hl hla; replace HB := Lib.hid (bstep HB.out hb2); clear c0 c1 c2 c3 c4 c5 c6 c7 c8 clt; clear hb2; have hB := HX.out _ HB.out; have c0 := hB.cell 0 _ rfl; have c1 := hB.cell 1 _ rfl; have c2 := hB.cell 2 _ rfl; have c3 := hB.cell 3 _ rfl; have c4 := hB.cell 4 _ rfl; have c5 := hB.cell 5 _ rfl; have c6 := hB.cell 6 _ rfl; have c7 := hB.cell 7 _ rfl; have c8 := hB.cell 8 _ rfl; have clt := hB.lt; clear hB) | (go_at_call 29; refine (HN.out _ (bstep (b1 _ _) HB.out)).mono ?_; rintro e w2 ⟨rfl, hb2⟩; replace HLA := Lib.hid (HLA.out.later hb2); replace HB := Lib.hid (bstep HB.out hb2); clear c0 c1 c2 c3 c4 c5 c6 c7 c8 clt; clear hb2; have hB := HX.out _ HB.out; have c0 := hB.cell 0 _ rfl; have c1 := hB.cell 1 _ rfl; have c2 := hB.cell 2 _ rfl; have c3 := hB.cell 3 _ rfl; have c4 := hB.cell 4 _ rfl; have c5 := hB.cell 5 _ rfl; have c6 := hB.cell 6 _ rfl; have c7 := hB.cell 7 _ rfl; have c8 := hB.cell 8 _ rfl; have clt := hB.lt; clear hB) | (go_at_call 27; refine (HD.out _ (bstep (b1 _ _) HB.out)).mono ?_; rintro e w2 ⟨rfl, hb2⟩; replace HLA := Lib.hid (HLA.out.later hb2); replace HB := Lib.hid (bstep HB.out hb2); clear c0 c1 c2 c3 c4 c5 c6 c7 c8 clt; clear hb2; have hB := HX.out _ HB.out; have c0 := hB.cell 0 _ rfl; have c1 := hB.cell 1 _ rfl; have c2 := hB.cell 2 _ rfl; have c3 := hB.cell 3 _ rfl; have c4 := hB.cell 4 _ rfl; have c5 := hB.cell 5 _ rfl; have c6 := hB.cell 6 _ rfl; have c7 := hB.cell 7 _ rfl; have c8 := hB.cell 8 _ rfl; have clt := hB.lt; clear hB))
  have hw2s := HB.out.size
  go_loopg [9, 10, 11, 12] ks.length (fun g s9 s10 s11 s12 wr => ∃ (i Q D : Nat) (hs : List GA), i ≤ ks.length ∧ g = ks.length - i ∧ s12 = .int .i64 (i : Int) ∧ s10 = .int .i64 (Q : Int) ∧ s11 = .int .i64 (D : Int) ∧ Hid (Q = 1 + nodesL (ndL (ks.take i))) ∧ Hid (D = depthL (ndL (ks.take i))) ∧ Hid (IsL (hs.map (fun g => g.a)) ((ndL (ks.take i)).flatMap atomsN)) ∧ Hid (wr.ownsRow w2.heap.size 25 5 s9 hs.length (hs.flatMap gaC)) ∧ Hid (∀ g ∈ hs, wr.ownsRow w2.heap.size 59 2 g.sc g.a.cs.length (g.a.cs.flatMap cnC)) ∧ Hid (Below w2.heap.size w2 wr))
  case atStart => exact ⟨0, 1, 0, [], Nat.zero_le _, rfl, rfl, rfl, rfl, Lib.hid rfl, Lib.hid rfl, Lib.hid rfl, Lib.hid (World.ownsRow_nil _ _ _ _), Lib.hid (fun g hg => by cases hg), Lib.hid (Below.refl _ _)⟩
  case round =>
    obtain ⟨i, Q, D, hs, hi, hg, rfl, rfl, rfl, hQ, hD, hI, hO, hC, hR⟩ := hrel
    replace HB := Lib.hid (bstep HB.out hR.out)
    replace HLA := Lib.hid (HLA.out.later hR.out)
    clear c0 c1 c2 c3 c4 c5 c6 c7 c8 clt
    have hB := HX.out _ HB.out
    have c0 := hB.cell 0 _ rfl
    have c1 := hB.cell 1 _ rfl
    have c2 := hB.cell 2 _ rfl
    have c3 := hB.cell 3 _ rfl
    have c4 := hB.cell 4 _ rfl
    have c5 := hB.cell 5 _ rfl
    have c6 := hB.cell 6 _ rfl
    have c7 := hB.cell 7 _ rfl
    have c8 := hB.cell 8 _ rfl
    have clt := hB.lt
    clear hB
    have hBw := Lib.hid (bstep (b1 w (.cells #[.int .i64 k, .int .i64 mn, .int .i64 mx, .int .i64 kd, .bool bd, .int .u64 bn, sc, .string (strOf nm), .slice B ks.length e9] 28)) HB.out)
    have hls : hs.length ≤ 60 := by
      have h1 := congrArg List.length (show _ = _ from hI.out)
      rw [List.length_map] at h1
      have := HGL.out i hi
      omega
    by_cases hlt : i < ks.length
    · have g1 : (i : Int) < (ks.length : Int) := by omega
      obtain ⟨a, hBa, ha, E⟩ := HEL.out i hlt
      have htk : ndL (ks.take (i + 1)) = ndL (ks.take i) ++ [(ks[i]).nd] := by
        rw [take_snoc ks i hlt, ndL_map, ndL_map, List.map_append, List.map_cons, List.map_nil]
      have hq2 : nodesL (ndL (ks.take (i + 1))) = nodesL (ndL (ks.take i)) + nodesN (ks[i]).nd := by rw [htk, nodesL_snoc]
      have hd2 : depthL (ndL (ks.take (i + 1))) = max (depthL (ndL (ks.take i))) (depthN (ks[i]).nd) := by rw [htk, depthL_snoc]
      have ha2 : (ndL (ks.take (i + 1))).flatMap atomsN = (ndL (ks.take i)).flatMap atomsN ++ atomsN (ks[i]).nd := by rw [htk, List.flatMap_append]; simp
      have hle : nodesL (ndL (ks.take (i + 1))) ≤ nodesL (ndL ks) := by
        have e := nodesL_take (ndL ks) (i + 1)
        have e2 : (ndL ks).take (i + 1) = ndL (ks.take (i + 1)) := by rw [ndL_map, ndL_map, List.map_take]
        rw [e2] at e
        exact e
      have hdl : depthN (ks[i]).nd ≤ nodesN (ks[i]).nd := (depth_le _).2
      have hat := fun w1 hb => KA.out ks[i] (List.getElem_mem hlt) w1 (bstep hBw.out hb)
      have hno := fun w1 hb => KN.out ks[i] (List.getElem_mem hlt) w1 (bstep hBw.out hb)
      have hde := fun w1 hb => KD.out ks[i] (List.getElem_mem hlt) w1 (bstep hBw.out hb)
      have hel := fun w1 (hb : Below wr.heap.size wr w1) => (E.later hBw.out).later hb
      have hgl2 := HGL.out (i + 1) (by omega)
      rw [ha2, List.length_append] at hgl2
      have hn9 := HNN.out
      have hq9 := hQ.out
      have hd9 := hD.out
      obtain ⟨t, ht⟩ : ∃ t, t = ks[i] := ⟨_, rfl⟩
      rw [← ht] at hat hno hde hel hq2 hd2 ha2 hgl2 hdl
      obtain ⟨kN, hkN⟩ : ∃ x, x = nodesN t.nd := ⟨_, rfl⟩
      obtain ⟨kD, hkD⟩ : ∃ x, x = depthN t.nd := ⟨_, rfl⟩
      obtain ⟨kA, hkA⟩ : ∃ x, x = atomsN t.nd := ⟨_, rfl⟩
      rw [← hkN] at hno hq2 hdl
      rw [← hkD] at hde hd2 hdl
      rw [← hkA] at hat ha2 hgl2
      have HQ2 := Lib.hid (show Q + kN = 1 + nodesL (ndL (ks.take (i + 1))) by omega)
      have HD2 := Lib.hid (show max D kD = depthL (ndL (ks.take (i + 1))) by rw [hd2, hd9])
      have HA2 := Lib.hid ha2
      have hQ60 : Q + kN ≤ 60 := by omega
      have hwq : IntKind.i64.wrap ((Q : Int) + (kN : Int)) = (Q : Int) + (kN : Int) := IntWalk.i64_in _ ⟨by omega, by omega⟩
      have hwi : IntKind.i64.wrap ((i : Int) + 1) = (i : Int) + 1 := IntWalk.i64_in _ ⟨by omega, by omega⟩
      have hmx : (max (D : Int) (kD : Int)) = ((max D kD : Nat) : Int) := by omega
      have HMX := Lib.hid hmx
      have hil : (ndL (ks.take i)).flatMap atomsN = hs.map (fun g => g.a) := (show _ = _ from hI.out).symm
      rw [hil, List.length_map] at hgl2
      have elt0 := ha
      clear hmx hq2 hd2 ha2 hle hdl ht hkN hkD hkA htk hn9 hq9 hd9 hil E ha
      subst hBa
      obtain ⟨k', mn', mx', ⟨⟨kd', bd', bn', cs', nm'⟩, sc'⟩, sk', ks'⟩ := t
      simp only [Tr.row] at hat hno hde hel
      have HE := Lib.hid hel
      have KA1 := Lib.hid hat
      have KN1 := Lib.hid hno
      have KD1 := Lib.hid hde
      have HR := Lib.hid (Below.refl wr.heap.size wr)
      clear hel hat hno hde
      have E := HE.out _ HR.out
      have e0 := E.at0 _ rfl
      have e1 := E.at1 1 _ (by decide) rfl
      have e2 := E.at1 2 _ (by decide) rfl
      have e3 := E.at1 3 _ (by decide) rfl
      have e4 := E.at1 4 _ (by decide) rfl
      have e5 := E.at1 5 _ (by decide) rfl
      have e6 := E.at1 6 _ (by decide) rfl
      have e7 := E.at1 7 _ (by decide) rfl
      have e8 := E.at1 8 _ (by decide) rfl
      have elt := E.lt
      clear E
      go_wp2_with (first | (go_at_call 21; refine (KA1.out _ HR.out).mono ?_; rintro e w3 ⟨gs2, A2, cp2, hl2, rfl, ht2, hc2, hb3⟩; replace HB := Lib.hid (bstep HB.out hb3); replace HR := Lib.hid (bstep HR.out hb3); clear c0 c1 c2 c3 c4 c5 c6 c7 c8 e0 e1 e2 e3 e4 e5 e6 e7 e8 clt elt; have hB := HX.out _ HB.out; have c0 := hB.cell 0 _ rfl; have c1 := hB.cell 1 _ rfl; have c2 := hB.cell 2 _ rfl; have c3 := hB.cell 3 _ rfl; have c4 := hB.cell 4 _ rfl; have c5 := hB.cell 5 _ rfl; have c6 := hB.cell 6 _ rfl; have c7 := hB.cell 7 _ rfl; have c8 := hB.cell 8 _ rfl; have clt := hB.lt; clear hB; have E := HE.out _ HR.out; have e0 := E.at0 _ rfl; have e1 := E.at1 1 _ (by decide) rfl; have e2 := E.at1 2 _ (by decide) rfl; have e3 := E.at1 3 _ (by decide) rfl; have e4 := E.at1 4 _ (by decide) rfl; have e5 := E.at1 5 _ (by decide) rfl; have e6 := E.at1 6 _ (by decide) rfl; have e7 := E.at1 7 _ (by decide) rfl; have e8 := E.at1 8 _ (by decide) rfl; have elt := E.lt; clear E; have HL2 := Lib.hid hl2; have HT2 := Lib.hid ht2; have HC2 := Lib.hid hc2; have hgl3 : hs.length + gs2.length ≤ 60 := (by have h1 := congrArg List.length (show _ = _ from hl2); rw [List.length_map] at h1; omega); clear hl2 ht2 hc2; clear hb3) | (go_at_call 29; refine (KN1.out _ HR.out).mono ?_; rintro e w3 ⟨rfl, hb3⟩; replace HB := Lib.hid (bstep HB.out hb3); replace HR := Lib.hid (bstep HR.out hb3); clear c0 c1 c2 c3 c4 c5 c6 c7 c8 e0 e1 e2 e3 e4 e5 e6 e7 e8 clt elt; have hB := HX.out _ HB.out; have c0 := hB.cell 0 _ rfl; have c1 := hB.cell 1 _ rfl; have c2 := hB.cell 2 _ rfl; have c3 := hB.cell 3 _ rfl; have c4 := hB.cell 4 _ rfl; have c5 := hB.cell 5 _ rfl; have c6 := hB.cell 6 _ rfl; have c7 := hB.cell 7 _ rfl; have c8 := hB.cell 8 _ rfl; have clt := hB.lt; clear hB; have E := HE.out _ HR.out; have e0 := E.at0 _ rfl; have e1 := E.at1 1 _ (by decide) rfl; have e2 := E.at1 2 _ (by decide) rfl; have e3 := E.at1 3 _ (by decide) rfl; have e4 := E.at1 4 _ (by decide) rfl; have e5 := E.at1 5 _ (by decide) rfl; have e6 := E.at1 6 _ (by decide) rfl; have e7 := E.at1 7 _ (by decide) rfl; have e8 := E.at1 8 _ (by decide) rfl; have elt := E.lt; clear E; replace HT2 := Lib.hid (HT2.out.later hb3); replace HC2 := Lib.hid (fun g hg => own_later (HC2.out g hg) hb3); clear hb3) | (go_at_call 27; refine (KD1.out _ HR.out).mono ?_; rintro e w3 ⟨rfl, hb3⟩; replace HB := Lib.hid (bstep HB.out hb3); replace HR := Lib.hid (bstep HR.out hb3); clear c0 c1 c2 c3 c4 c5 c6 c7 c8 e0 e1 e2 e3 e4 e5 e6 e7 e8 clt elt; have hB := HX.out _ HB.out; have c0 := hB.cell 0 _ rfl; have c1 := hB.cell 1 _ rfl; have c2 := hB.cell 2 _ rfl; have c3 := hB.cell 3 _ rfl; have c4 := hB.cell 4 _ rfl; have c5 := hB.cell 5 _ rfl; have c6 := hB.cell 6 _ rfl; have c7 := hB.cell 7 _ rfl; have c8 := hB.cell 8 _ rfl; have clt := hB.lt; clear hB; have E := HE.out _ HR.out; have e0 := E.at0 _ rfl; have e1 := E.at1 1 _ (by decide) rfl; have e2 := E.at1 2 _ (by decide) rfl; have e3 := E.at1 3 _ (by decide) rfl; have e4 := E.at1 4 _ (by decide) rfl; have e5 := E.at1 5 _ (by decide) rfl; have e6 := E.at1 6 _ (by decide) rfl; have e7 := E.at1 7 _ (by decide) rfl; have e8 := E.at1 8 _ (by decide) rfl; have elt := E.lt; clear E; replace HT2 := Lib.hid (HT2.out.later hb3); replace HC2 := Lib.hid (fun g hg => own_later (HC2.out g hg) hb3); have hO3 := own_later hO.out HR.out; obtain ⟨A3, c3, w4, hrun, hown, hgrow⟩ := run_append_any (P := Tryz.prog) w3 w2.heap.size 44 44 25 i0 (.agg #[.int .i64 0, .bool false, .int .u64 0, .slice none 0 0, .string ⟨#[]⟩]) 5 64 Tryz.underlying44 hi0 hz0 hz1 hz2 rfl (by decide) _ hs.length (hs.flatMap gaC) hO3 _ gs2.length (gs2.flatMap gaC) HT2.out.1 (ga_one HT2.out) (by unfold maxLen; omega) (by omega) (bstep hR.out HR.out).size (hs ++ gs2).length ((hs ++ gs2).flatMap gaC) (List.length_append).symm (List.flatMap_append).symm; have HOW := Lib.hid hown; have HCW := Lib.hid (kids_cns (fun g hg => own_later (hC.out g hg) HR.out) (fun g hg => own_mono (HC2.out g hg) hR.out.size) hO3 hgrow); have HBW := Lib.hid ((bstep hR.out HR.out).grown hgrow (bstep hR.out HR.out).size (fun j e => (hO3.lt j e).1)); clear hO3 hown hgrow; clear hb3) | (at_builtin; refine wpList_append_run rfl _ _ _ rfl rfl rfl hrun ?_))
      go_roundg (ks.length - (i + 1))
      case rel =>
        refine ⟨i + 1, Q + kN, max D kD, hs ++ gs2, by omega, rfl, by go_num, by go_num, by rw [← HMX.out], HQ2, HD2, Lib.hid ?_, Lib.hid ?_, Lib.hid ?_, Lib.hid ?_⟩
        · show _ = _
          rw [HA2.out, List.map_append, show List.map (fun g => g.a) hs = _ from hI.out, show List.map (fun g => g.a) gs2 = _ from HL2.out]
        · have h := HOW.out
          rw [List.length_append] at h ⊢
          exact h
        · exact HCW.out
        · exact HBW.out
      case measure => omega
    · have g1 : ¬ (i : Int) < (ks.length : Int) := by omega
      have htk : ks.take i = ks := List.take_of_length_le (by omega)
      have hn9 := HNN.out
      have hq9 := hQ.out
      have hd9 := hD.out
      have hd8 := HDN.out
      rw [htk] at hq9 hd9
      have hsm := sameAtoms_same l hs _ _ wr HLA.out ⟨Sl.of_own hO.out, fun g hg => Sl.of_own (hC.out g hg)⟩ (by
        rw [show List.map (fun g => g.a) l = _ from HL.out, show List.map (fun g => g.a) hs = _ from hI.out, htk, HGS.out])
      have HSM := Lib.hid hsm
      obtain rfl : Q = nN := by omega
      have hwD : IntKind.i64.wrap ((D : Int) + 1) = (dN : Int) := by
        rw [IntWalk.i64_in _ ⟨by omega, by omega⟩]
        omega
      clear hsm htk hn9 hq9 hd9 hd8
      go_wp2_with (first | (go_at_call 23; refine HSM.out.mono ?_; rintro e w3 ⟨rfl, hb3⟩; replace hBw := Lib.hid (bstep hBw.out hb3); clear hb3) | (go_at_call 9; refine (HA.out _ hBw.out).mono ?_; rintro e w3 ⟨rfl, hb3⟩; replace hBw := Lib.hid (bstep hBw.out hb3); clear hb3))
      go_ret
      exact ⟨rfl, hBw.out⟩
/-! The law -/
theorem atoms_le (n : Nd) : (atomsN n).length ≤ nodesN n := by
  unfold atomsN
  split
  · rw [List.length_map, ← subs_len]
    unfold leavesN
    exact List.length_filter_le _ _
  · exact Nat.zero_le _
theorem atomsL_le (l : List Nd) : (l.flatMap atomsN).length ≤ nodesL l := by
  induction l with
  | nil => exact Nat.zero_le _
  | cons x xs ih =>
    have := atoms_le x
    rw [List.flatMap_cons, List.length_append, nodesL]
    omega
theorem len_nodesL (l : List Nd) : l.length ≤ nodesL l := by
  induction l with
  | nil => exact Nat.zero_le _
  | cons x xs ih =>
    have := depth_le x
    rw [List.length_cons, nodesL]
    omega
theorem atoms_kids {k mn mx : Int} {a : At} {ks : List Nd} (h : soundN 1 (.mk k mn mx a ks) = true) (hk : ks ≠ []) : atomsN (.mk k mn mx a ks) = ks.flatMap atomsN := by
  unfold atomsN
  rw [if_pos h, leaves_flat _ _ _ _ _ hk, List.map_flatMap]
  refine flat_congr fun t ht => ?_
  rw [if_pos (sound_kid h t ht)]
theorem lkids_any (N : Tr) (w : World) (hL : Lay w) (hN : TrW w N) :
    Calls Tryz.prog 7 #[.agg N.row.toArray] w fun e w' => e = .returned (.bool true) ∧ Below w.heap.size w w' := by
  have hf := fun w1 (hb : Below w.heap.size w w1) => few_any N 60 1 w1 (hN.later hb) ⟨by omega, by omega⟩ (by omega)
  have hW := fun w1 (hb : Below w.heap.size w w1) => awake_any w1 (hL.later hb)
  by_cases hF : fewN 60 1 N.nd < 0
  · exact kids_out N w _ (soundE N.nd) (.inl hF) hf (fun h => absurd hF h) hW
  · obtain ⟨hsl, hsm⟩ := few_tr N 60 (by omega) (by omega)
    have hlen : (subsT N).length ≤ 60 := hsl
    have hs := fun w1 (hb : Below w.heap.size w w1) => sound_any N w1 (hN.later hb) (by omega) (hL.sg.later hb)
    cases hso : soundN 1 N.nd with
    | false =>
      have hse : soundE N.nd = 3 := by unfold soundE; rw [hso]; rfl
      rw [hse] at hs
      exact kids_out N w _ 3 (.inr ⟨hF, rfl⟩) hf (fun _ => hs) hW
    | true =>
      have hse : soundE N.nd = 0 := by unfold soundE; rw [hso]; rfl
      rw [hse] at hs
      have hat := fun w1 (hb : Below w.heap.size w w1) => atoms_any N w1 (hN.later hb) (by omega) (hL.sg.later hb) (fun t ht => by have := (hsm t ht).1; omega)
      have hno := fun w1 (hb : Below w.heap.size w w1) => nodesp_any N w1 (hN.later hb) (by omega) (hL.sg.later hb)
      have hde := fun w1 (hb : Below w.heap.size w w1) => depthp_any N w1 (hN.later hb) (by omega) (hL.sg.later hb)
      simp only [hse, hso, if_true] at hat hno hde
      have hnl : nodesN N.nd = (subsT N).length := by rw [← subs_len, ← subsT_nd, List.length_map]
      obtain ⟨k, mn, mx, g, sk, ks⟩ := N
      rw [nd_mk] at hso
      by_cases hk : ks = []
      · subst hk
        refine kids_one _ w _ hF ⟨_, _, _, _, _, rfl⟩ hN.one hf hs (fun w1 hb => (hat w1 hb).mono ?_) hno hde hW
        rintro e w' ⟨gs, A, c, h1, h2, -, -, h5⟩
        have h3 : gs.length = 1 := by
          have h6 := congrArg List.length (show _ = _ from h1)
          rw [List.length_map] at h6
          rw [h6, nd_mk]
          unfold atomsN
          rw [if_pos hso]
          rfl
        rw [h3] at h2
        exact ⟨A, c, h2, h5⟩
      · have hkm : ks.map Tr.nd ≠ [] := fun e => hk (List.map_eq_nil_iff.1 e)
        have hna : atomsN (Tr.nd (.mk k mn mx g sk ks)) = (ndL ks).flatMap atomsN := by
          rw [nd_mk, ndL_map]
          exact atoms_kids hso hkm
        have hnn : nodesN (Tr.nd (.mk k mn mx g sk ks)) = 1 + nodesL (ndL ks) := by rw [Tr.nd, nodesN]
        have hkid : ∀ t ∈ ks, TrW w t ∧ (subsT t).length ≤ 60 ∧ (∀ u ∈ subsT t, u.nd.atom.cs.length ≤ 1000000) ∧ soundN 1 t.nd = true := fun t ht => by
          have hmem : ∀ u ∈ subsT t, u ∈ subsT (.mk k mn mx g sk ks) := fun u hu => by
            rw [subsT, subsTL_flat]
            exact List.mem_cons_of_mem _ (List.mem_flatMap.2 ⟨t, ht, hu⟩)
          refine ⟨hN.kid ht, ?_, fun u hu => by have := (hsm u (hmem u hu)).1; omega, sound_kid hso t.nd (List.mem_map_of_mem ht)⟩
          have h1 : (subsT t).length = nodesN t.nd := by rw [← subs_len, ← subsT_nd, List.length_map]
          have h2 : ∀ l : List Nd, ∀ x ∈ l, nodesN x ≤ nodesL l := fun l => by
            induction l with
            | nil => intro x hx; cases hx
            | cons y ys ih =>
              intro x hx
              rw [nodesL]
              rcases List.mem_cons.1 hx with rfl | hx
              · omega
              · have := ih x hx; omega
          have h3 := h2 (ndL ks) t.nd (by rw [ndL_map]; exact List.mem_map_of_mem ht)
          omega
        have hln : ks.length ≤ nodesL (ndL ks) := by
          have := len_nodesL (ndL ks)
          rw [ndL_map, List.length_map] at this
          rw [ndL_map]
          exact this
        have hp : 0 < ks.length := Nat.pos_of_ne_zero (fun e => hk (List.eq_nil_of_length_eq_zero e))
        refine kids_in _ w _ hF (atomsN (Tr.nd (.mk k mn mx g sk ks))) (nodesN (Tr.nd (.mk k mn mx g sk ks))) (depthN (Tr.nd (.mk k mn mx g sk ks))) ks ⟨_, _, _, _, _, rfl⟩ hp (by omega) hN.one hna hnn (by omega) (by rw [Tr.nd, depthN]) (depth_le _).2 (fun i hi => ?_) hf hs (fun w1 hb => (hat w1 hb).mono ?_) hno hde hW (fun t ht w1 hb => ?_) (fun t ht w1 hb => ?_) (fun t ht w1 hb => ?_)
        · have h1 := atomsL_le (ndL (ks.take i))
          have h2 := nodesL_take (ndL ks) i
          have e2 : (ndL ks).take i = ndL (ks.take i) := by rw [ndL_map, ndL_map, List.map_take]
          rw [e2] at h2
          omega
        · rintro e w' ⟨gs, A, c, h1, h2, h3, -, h5⟩
          exact ⟨gs, A, c, h1, h2, h3, h5⟩
        · obtain ⟨h1, h2, h3, h4⟩ := hkid t ht
          have h5 := atoms_any t w1 (h1.later hb) (by omega) (hL.sg.later hb) h3
          have h6 : soundE t.nd = 0 := by unfold soundE; rw [h4]; rfl
          rw [h6] at h5
          exact h5
        · obtain ⟨h1, h2, h3, h4⟩ := hkid t ht
          have h5 := nodesp_any t w1 (h1.later hb) (by omega) (hL.sg.later hb)
          have h6 : soundE t.nd = 0 := by unfold soundE; rw [h4]; rfl
          rw [h6, if_pos h4] at h5
          exact h5
        · obtain ⟨h1, h2, h3, h4⟩ := hkid t ht
          have h5 := depthp_any t w1 (h1.later hb) (by omega) (hL.sg.later hb)
          have h6 : soundE t.nd = 0 := by unfold soundE; rw [h4]; rfl
          rw [h6, if_pos h4] at h5
          exact h5
end Go.Proofs.YtfibmdbplfghcaaGreatDoor
