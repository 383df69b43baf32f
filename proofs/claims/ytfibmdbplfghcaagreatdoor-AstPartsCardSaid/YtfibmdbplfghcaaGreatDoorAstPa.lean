/- The law on the parts of a node. Made by program (wip/tools/gen_astPa.py). -/
import Derived.Test.YtfibmdbplfghcaaGreatDoorAstRp
import Derived.Test.YtfibmdbplfghcaaGreatDoorAstWr
import Derived.Test.YtfibmdbplfghcaaGreatDoorAstDe
namespace Go.Proofs.YtfibmdbplfghcaaGreatDoor
open Go.RowKit Go.Shelf
open A8 Tk7

set_option maxRecDepth 100000 in
set_option maxHeartbeats 8000000 in
theorem parts_out (T : Tr) (w : World) (F : Int) (h : F < 0)
    (hf : ∀ w1, Below w.heap.size w w1 → Calls Tryz.prog 20 #[.agg T.row.toArray, .int .i64 250, .int .i64 1] w1 fun e w' => e = .returned (.int .i64 F) ∧ Below w1.heap.size w1 w')
    (hW : ∀ w1, Below w.heap.size w w1 → Calls Tryz.prog 9 #[] w1 fun e w' => e = .returned (.bool true) ∧ Below w1.heap.size w1 w') :
    Calls Tryz.prog 4 #[.agg T.row.toArray] w fun e w' => e = .returned (.bool true) ∧ Below w.heap.size w w' := by
  obtain ⟨k, mn, mx, ⟨⟨kd, bd, bn, cs, nm⟩, sc⟩, sk, ks⟩ := T
  simp only [Tr.row] at hf ⊢
  have HF := Lib.hid hf
  have HA := Lib.hid hW
  clear hf hW
  go_enter Tryz.func4, Tryz.ntmps4
  go_wp2_with (first | (go_at_call 20; refine (HF.out _ (b1 _ _)).mono ?_; rintro e w2 ⟨rfl, hb2⟩; have HB := Lib.hid (bstep (b1 _ _) hb2); clear hb2) | (go_at_call 9; refine (HA.out _ HB.out).mono ?_; rintro e w3 ⟨rfl, hb3⟩; replace HB := Lib.hid (bstep HB.out hb3); clear hb3))
  go_ret
  exact ⟨rfl, HB.out⟩
set_option maxRecDepth 100000 in
set_option maxHeartbeats 16000000 in
theorem parts_in (T : Tr) (w : World) (F S D9 M9 : Int) (L9 : List At) (N9 : List Bool) (hF : ¬ F < 0)
    (hf : ∀ w1, Below w.heap.size w w1 → Calls Tryz.prog 20 #[.agg T.row.toArray, .int .i64 250, .int .i64 1] w1 fun e w' => e = .returned (.int .i64 F) ∧ Below w1.heap.size w1 w')
    (hat : ∀ w1, Below w.heap.size w w1 → Calls Tryz.prog 21 #[.agg T.row.toArray] w1 fun e w' => (∃ (l : List GA) (A : Option Addr) (c : Nat), IsL (l.map (fun g => g.a)) L9 ∧ e = .returned (.tuple #[.slice A l.length c, .int .i64 S]) ∧ Ats w' (.slice A l.length c) l) ∧ Below w1.heap.size w1 w')
    (rat : ∀ w1, Below w.heap.size w w1 → Calls Tryz.prog 22 #[.agg T.row.toArray] w1 fun e w' => (∃ (l : List GA) (A : Option Addr) (c : Nat), IsL (l.map (fun g => g.a)) L9 ∧ e = .returned (.tuple #[.slice A l.length c, .int .i64 S]) ∧ Ats w' (.slice A l.length c) l) ∧ Below w1.heap.size w1 w')
    (hng : ∀ w1, Below w.heap.size w w1 → Calls Tryz.prog 24 #[.agg T.row.toArray] w1 fun e w' => (∃ (l : List Bool) (A : Option Addr) (c : Nat), IsL l N9 ∧ e = .returned (.tuple #[.slice A l.length c, .int .i64 S]) ∧ Sl w' 1 l.length (.slice A l.length c) (l.flatMap blC)) ∧ Below w1.heap.size w1 w')
    (rng : ∀ w1, Below w.heap.size w w1 → Calls Tryz.prog 25 #[.agg T.row.toArray] w1 fun e w' => (∃ (l : List Bool) (A : Option Addr) (c : Nat), IsL l N9 ∧ e = .returned (.tuple #[.slice A l.length c, .int .i64 S]) ∧ Sl w' 1 l.length (.slice A l.length c) (l.flatMap blC)) ∧ Below w1.heap.size w1 w')
    (hde : ∀ w1, Below w.heap.size w w1 → Calls Tryz.prog 27 #[.agg T.row.toArray] w1 fun e w' => (e = .returned (.tuple #[.int .i64 D9, .int .i64 S])) ∧ Below w1.heap.size w1 w')
    (rde : ∀ w1, Below w.heap.size w w1 → Calls Tryz.prog 28 #[.agg T.row.toArray] w1 fun e w' => (e = .returned (.tuple #[.int .i64 D9, .int .i64 S])) ∧ Below w1.heap.size w1 w')
    (hno : ∀ w1, Below w.heap.size w w1 → Calls Tryz.prog 29 #[.agg T.row.toArray] w1 fun e w' => (e = .returned (.tuple #[.int .i64 M9, .int .i64 S])) ∧ Below w1.heap.size w1 w')
    (rno : ∀ w1, Below w.heap.size w w1 → Calls Tryz.prog 30 #[.agg T.row.toArray] w1 fun e w' => (e = .returned (.tuple #[.int .i64 M9, .int .i64 S])) ∧ Below w1.heap.size w1 w')
    (hW : ∀ w1, Below w.heap.size w w1 → Calls Tryz.prog 9 #[] w1 fun e w' => e = .returned (.bool true) ∧ Below w1.heap.size w1 w') :
    Calls Tryz.prog 4 #[.agg T.row.toArray] w fun e w' => e = .returned (.bool true) ∧ Below w.heap.size w w' := by
  have hbx : ∀ w1, Below (w.alloc (.cells T.row.toArray 28)).heap.size (w.alloc (.cells T.row.toArray 28)) w1 → Blk w1 w.heap.size T.row := fun w1 hb => (Blk.new w _ _).later hb
  obtain ⟨k, mn, mx, ⟨⟨kd, bd, bn, cs, nm⟩, sc⟩, sk, ks⟩ := T
  simp only [Tr.row] at hf hat rat hng rng hde rde hno rno hbx ⊢
  have HX := Lib.hid hbx
  have HF := Lib.hid hf
  have HT := Lib.hid hat
  have HR := Lib.hid rat
  have HT2 := Lib.hid hng
  have HR2 := Lib.hid rng
  have HD := Lib.hid hde
  have HD2 := Lib.hid rde
  have HN := Lib.hid hno
  have HN2 := Lib.hid rno
  have HA := Lib.hid hW
  have hss : (S != S) = false := by simp
  have hss2 : (S == S) = true := by simp
  have hdd : (D9 == D9) = true := by simp
  have hmm : (M9 == M9) = true := by simp
  clear hbx hf hat rat hng rng hde rde hno rno hW
  go_enter Tryz.func4, Tryz.ntmps4
  go_wp2_with (first | (go_at_call 20; refine (HF.out _ (b1 _ _)).mono ?_; rintro e w2 ⟨rfl, hb2⟩; have HB := Lib.hid hb2; clear hb2; have hB := HX.out _ HB.out; have c0 := hB.cell 0 _ rfl; have c1 := hB.cell 1 _ rfl; have c2 := hB.cell 2 _ rfl; have c3 := hB.cell 3 _ rfl; have c4 := hB.cell 4 _ rfl; have c5 := hB.cell 5 _ rfl; have c6 := hB.cell 6 _ rfl; have c7 := hB.cell 7 _ rfl; have c8 := hB.cell 8 _ rfl; clear hB) | (go_at_call 21; refine (HT.out _ (bstep (b1 _ _) HB.out)).mono ?_; rintro e w2 ⟨⟨l, A, c, hl, rfl, hla⟩, hb2⟩; have HL := Lib.hid hl; have HU := Lib.hid hla; clear hl hla; replace HB := Lib.hid (bstep HB.out hb2); clear c0 c1 c2 c3 c4 c5 c6 c7 c8; clear hb2; have hB := HX.out _ HB.out; have c0 := hB.cell 0 _ rfl; have c1 := hB.cell 1 _ rfl; have c2 := hB.cell 2 _ rfl; have c3 := hB.cell 3 _ rfl; have c4 := hB.cell 4 _ rfl; have c5 := hB.cell 5 _ rfl; have c6 := hB.cell 6 _ rfl; have c7 := hB.cell 7 _ rfl; have c8 := hB.cell 8 _ rfl; clear hB) | (go_at_call 22; refine (HR.out _ (bstep (b1 _ _) HB.out)).mono ?_; rintro e w2 ⟨⟨l2, A2, q2, hl2, rfl, hla2⟩, hb2⟩; have HL2 := Lib.hid hl2; replace HU := Lib.hid (And.intro (HU.out.later hb2) hla2); clear hl2 hla2; replace HB := Lib.hid (bstep HB.out hb2); clear c0 c1 c2 c3 c4 c5 c6 c7 c8; clear hb2; have hB := HX.out _ HB.out; have c0 := hB.cell 0 _ rfl; have c1 := hB.cell 1 _ rfl; have c2 := hB.cell 2 _ rfl; have c3 := hB.cell 3 _ rfl; have c4 := hB.cell 4 _ rfl; have c5 := hB.cell 5 _ rfl; have c6 := hB.cell 6 _ rfl; have c7 := hB.cell 7 _ rfl; have c8 := hB.cell 8 _ rfl; clear hB) | (go_at_call 23; refine (sameAtoms_same l l2 _ _ _ HU.out.1 HU.out.2 (HL.out.trans HL2.out.symm)).mono ?_; rintro e w2 ⟨rfl, hb2⟩; clear HU HL HL2; replace HB := Lib.hid (bstep HB.out hb2); clear c0 c1 c2 c3 c4 c5 c6 c7 c8; clear hb2; have hB := HX.out _ HB.out; have c0 := hB.cell 0 _ rfl; have c1 := hB.cell 1 _ rfl; have c2 := hB.cell 2 _ rfl; have c3 := hB.cell 3 _ rfl; have c4 := hB.cell 4 _ rfl; have c5 := hB.cell 5 _ rfl; have c6 := hB.cell 6 _ rfl; have c7 := hB.cell 7 _ rfl; have c8 := hB.cell 8 _ rfl; clear hB) | (go_at_call 24; refine (HT2.out _ (bstep (b1 _ _) HB.out)).mono ?_; rintro e w2 ⟨⟨bs, A3, q3, hl, rfl, hla⟩, hb2⟩; have hl2 : bs = N9 := hl; subst hl2; have HU := Lib.hid hla; clear hl hla; replace HB := Lib.hid (bstep HB.out hb2); clear c0 c1 c2 c3 c4 c5 c6 c7 c8; clear hb2; have hB := HX.out _ HB.out; have c0 := hB.cell 0 _ rfl; have c1 := hB.cell 1 _ rfl; have c2 := hB.cell 2 _ rfl; have c3 := hB.cell 3 _ rfl; have c4 := hB.cell 4 _ rfl; have c5 := hB.cell 5 _ rfl; have c6 := hB.cell 6 _ rfl; have c7 := hB.cell 7 _ rfl; have c8 := hB.cell 8 _ rfl; clear hB) | (go_at_call 25; refine (HR2.out _ (bstep (b1 _ _) HB.out)).mono ?_; rintro e w2 ⟨⟨bs2, A4, q4, hl, rfl, hla⟩, hb2⟩; have hl2 : bs2 = bs := hl; subst hl2; replace HU := Lib.hid (And.intro (HU.out.later hb2) hla); clear hl hla; replace HB := Lib.hid (bstep HB.out hb2); clear c0 c1 c2 c3 c4 c5 c6 c7 c8; clear hb2; have hB := HX.out _ HB.out; have c0 := hB.cell 0 _ rfl; have c1 := hB.cell 1 _ rfl; have c2 := hB.cell 2 _ rfl; have c3 := hB.cell 3 _ rfl; have c4 := hB.cell 4 _ rfl; have c5 := hB.cell 5 _ rfl; have c6 := hB.cell 6 _ rfl; have c7 := hB.cell 7 _ rfl; have c8 := hB.cell 8 _ rfl; clear hB) | (go_at_call 26; refine (sameBools_same _ _ _ _ HU.out.1 HU.out.2).mono ?_; rintro e w2 ⟨rfl, hb2⟩; clear HU; replace HB := Lib.hid (bstep HB.out hb2); clear c0 c1 c2 c3 c4 c5 c6 c7 c8; clear hb2; have hB := HX.out _ HB.out; have c0 := hB.cell 0 _ rfl; have c1 := hB.cell 1 _ rfl; have c2 := hB.cell 2 _ rfl; have c3 := hB.cell 3 _ rfl; have c4 := hB.cell 4 _ rfl; have c5 := hB.cell 5 _ rfl; have c6 := hB.cell 6 _ rfl; have c7 := hB.cell 7 _ rfl; have c8 := hB.cell 8 _ rfl; clear hB) | (go_at_call 27; refine (HD.out _ (bstep (b1 _ _) HB.out)).mono ?_; rintro e w2 ⟨rfl, hb2⟩; replace HB := Lib.hid (bstep HB.out hb2); clear c0 c1 c2 c3 c4 c5 c6 c7 c8; clear hb2; have hB := HX.out _ HB.out; have c0 := hB.cell 0 _ rfl; have c1 := hB.cell 1 _ rfl; have c2 := hB.cell 2 _ rfl; have c3 := hB.cell 3 _ rfl; have c4 := hB.cell 4 _ rfl; have c5 := hB.cell 5 _ rfl; have c6 := hB.cell 6 _ rfl; have c7 := hB.cell 7 _ rfl; have c8 := hB.cell 8 _ rfl; clear hB) | (go_at_call 28; refine (HD2.out _ (bstep (b1 _ _) HB.out)).mono ?_; rintro e w2 ⟨rfl, hb2⟩; replace HB := Lib.hid (bstep HB.out hb2); clear c0 c1 c2 c3 c4 c5 c6 c7 c8; clear hb2; have hB := HX.out _ HB.out; have c0 := hB.cell 0 _ rfl; have c1 := hB.cell 1 _ rfl; have c2 := hB.cell 2 _ rfl; have c3 := hB.cell 3 _ rfl; have c4 := hB.cell 4 _ rfl; have c5 := hB.cell 5 _ rfl; have c6 := hB.cell 6 _ rfl; have c7 := hB.cell 7 _ rfl; have c8 := hB.cell 8 _ rfl; clear hB) | (go_at_call 29; refine (HN.out _ (bstep (b1 _ _) HB.out)).mono ?_; rintro e w2 ⟨rfl, hb2⟩; replace HB := Lib.hid (bstep HB.out hb2); clear c0 c1 c2 c3 c4 c5 c6 c7 c8; clear hb2; have hB := HX.out _ HB.out; have c0 := hB.cell 0 _ rfl; have c1 := hB.cell 1 _ rfl; have c2 := hB.cell 2 _ rfl; have c3 := hB.cell 3 _ rfl; have c4 := hB.cell 4 _ rfl; have c5 := hB.cell 5 _ rfl; have c6 := hB.cell 6 _ rfl; have c7 := hB.cell 7 _ rfl; have c8 := hB.cell 8 _ rfl; clear hB) | (go_at_call 30; refine (HN2.out _ (bstep (b1 _ _) HB.out)).mono ?_; rintro e w2 ⟨rfl, hb2⟩; replace HB := Lib.hid (bstep HB.out hb2); clear c0 c1 c2 c3 c4 c5 c6 c7 c8; clear hb2; have hB := HX.out _ HB.out; have c0 := hB.cell 0 _ rfl; have c1 := hB.cell 1 _ rfl; have c2 := hB.cell 2 _ rfl; have c3 := hB.cell 3 _ rfl; have c4 := hB.cell 4 _ rfl; have c5 := hB.cell 5 _ rfl; have c6 := hB.cell 6 _ rfl; have c7 := hB.cell 7 _ rfl; have c8 := hB.cell 8 _ rfl; clear hB) | (go_at_call 9; refine (HA.out _ (bstep (b1 _ _) HB.out)).mono ?_; rintro e w2 ⟨rfl, hb2⟩; replace HB := Lib.hid (bstep HB.out hb2); clear c0 c1 c2 c3 c4 c5 c6 c7 c8; clear hb2; have hB := HX.out _ HB.out; have c0 := hB.cell 0 _ rfl; have c1 := hB.cell 1 _ rfl; have c2 := hB.cell 2 _ rfl; have c3 := hB.cell 3 _ rfl; have c4 := hB.cell 4 _ rfl; have c5 := hB.cell 5 _ rfl; have c6 := hB.cell 6 _ rfl; have c7 := hB.cell 7 _ rfl; have c8 := hB.cell 8 _ rfl; clear hB))
  go_ret
  exact ⟨rfl, bstep (b1 _ _) HB.out⟩
theorem lparts_any (N : Tr) (w : World) (hL : Lay w) (hN : TrW w N) :
    Calls Tryz.prog 4 #[.agg N.row.toArray] w fun e w' => e = .returned (.bool true) ∧ Below w.heap.size w w' := by
  have hf := fun w1 (hb : Below w.heap.size w w1) => few_any N 250 1 w1 (hN.later hb) ⟨by omega, by omega⟩ (by omega)
  have hW := fun w1 (hb : Below w.heap.size w w1) => awake_any w1 (hL.later hb)
  by_cases hF : fewN 250 1 N.nd < 0
  · exact parts_out N w _ hF hf hW
  · obtain ⟨hsl, hsm⟩ := few_tr N 250 (by omega) (by omega)
    have hlen : (subsT N).length ≤ 250 := hsl
    have hnl : nodesN N.nd = (subsT N).length := by rw [← subs_len, ← subsT_nd, List.length_map]
    have hcs : ∀ t ∈ subsT N, t.nd.atom.cs.length ≤ 1000000 := fun t ht => by have := (hsm t ht).1; omega
    exact parts_in N w _ (soundE N.nd) _ _ (atomsN N.nd) (negN N.nd) hF hf
      (fun w1 hb => (atoms_any N w1 (hN.later hb) (by omega) (hL.sg.later hb) hcs).mono (by rintro e w' ⟨gs, A, c, h1, h2, h3, -, h5⟩; exact ⟨⟨gs, A, c, h1, h2, h3⟩, h5⟩))
      (fun w1 hb => (rAtoms_any N w1 (hN.later hb) (by omega) hcs).mono (by rintro e w' ⟨gs, A, c, h1, h2, h3, h5⟩; exact ⟨⟨gs, A, c, h1, h2, h3⟩, h5⟩))
      (fun w1 hb => (negated_any N w1 (hN.later hb) (by omega) (hL.sg.later hb)).mono (by rintro e w' ⟨gs, A, c, h1, h2, h3, h5⟩; exact ⟨⟨gs, A, c, h1, h2, h3⟩, h5⟩))
      (fun w1 hb => (rNegated_any N w1 (hN.later hb) (by omega)).mono (by rintro e w' ⟨gs, A, c, h1, h2, h3, h5⟩; exact ⟨⟨gs, A, c, h1, h2, h3⟩, h5⟩))
      (fun w1 hb => depthp_any N w1 (hN.later hb) (by omega) (hL.sg.later hb))
      (fun w1 hb => rDepth_any N w1 (hN.later hb) (by omega))
      (fun w1 hb => nodesp_any N w1 (hN.later hb) (by omega) (hL.sg.later hb))
      (fun w1 hb => rNodes_any N w1 (hN.later hb) (by omega)) hW
end Go.Proofs.YtfibmdbplfghcaaGreatDoor
