/- Walks: the document's own text of an aggregate; short; Pattern. -/
import Derived.Test.YtfibmdbplfghcaaGreatDoorAstRg
import Derived.Test.YtfibmdbplfghcaaGreatDoorAstRv
namespace Go.Proofs.YtfibmdbplfghcaaGreatDoor
open Go.RowKit
open A8 Tk7 Lb

set_option maxRecDepth 100000 in
set_option maxHeartbeats 8000000 in
theorem raggText_any (fn : Int) (nm : List UInt8) (h : aggB ⟨fn, nm⟩ = true) (hnl : nm.length ≤ 1000) (w : World) :
    Calls Tryz.prog 38 #[.agg #[.int .i64 fn, .string (strOf nm)]] w fun e w' => e = .returned (.string (strOf (aggT ⟨fn, nm⟩))) ∧ Below w.heap.size w w' := by
  obtain ⟨⟨h1, h6⟩, -⟩ := aggB_iff.1 h
  simp only at h1 h6
  have hO := fun w1 => rfuns_any w1
  obtain ⟨k, hk⟩ : ∃ k : Nat, fn = (k : Int) + 1 := ⟨(fn - 1).toNat, by omega⟩
  have hk6 : k < 6 := by omega
  have hget := funs6_at k hk6
  have hT : aggT ⟨fn, nm⟩ = funsA.getD (k + 1) [] ++ [40] ++ nm ++ [41] := by
    unfold aggT
    have : fn.toNat = k + 1 := by omega
    simp only [this]
  have hf := funsK (k + 1)
  have s1 : ∀ w, (Op.stringOp .add (strOf (funsA.getD (k + 1) [])) ⟨#[40]⟩).run Tryz.prog w = .ok (.string (strOf (funsA.getD (k + 1) [] ++ [40]))) w := fun w => sum8 _ [40] (by simp only [List.length_cons, List.length_nil]; omega) w
  have s2 : ∀ w, (Op.stringOp .add (strOf (funsA.getD (k + 1) [] ++ [40])) (strOf nm)).run Tryz.prog w = .ok (.string (strOf (funsA.getD (k + 1) [] ++ [40] ++ nm))) w := fun w => sum8 _ _ (by simp only [List.length_append, List.length_cons, List.length_nil]; omega) w
  have s3 : ∀ w, (Op.stringOp .add (strOf (funsA.getD (k + 1) [] ++ [40] ++ nm)) ⟨#[41]⟩).run Tryz.prog w = .ok (.string (strOf (aggT ⟨fn, nm⟩))) w := fun w => by
    rw [hT]
    exact sum8 _ [41] (by simp only [List.length_append, List.length_cons, List.length_nil]; omega) w
  obtain ⟨R, hR⟩ : ∃ D, D = strOf (aggT ⟨fn, nm⟩) := ⟨_, rfl⟩
  obtain ⟨R1, hR1⟩ : ∃ D, D = strOf (funsA.getD (k + 1) [] ++ [40]) := ⟨_, rfl⟩
  obtain ⟨R2, hR2⟩ : ∃ D, D = strOf (funsA.getD (k + 1) [] ++ [40] ++ nm) := ⟨_, rfl⟩
  obtain ⟨V, hV⟩ : ∃ D, D = strOf nm := ⟨_, rfl⟩
  have hcl : ∀ (w' : World) (a : Addr), (∀ (i : Nat) (c : List UInt8), funs6[i]? = some c → w'.cell? (a.add i) = some (.string (strOf c))) → w'.cell? (a.add k) = some (.string (strOf (funsA.getD (k + 1) []))) := fun w' a hc => hc k _ hget
  obtain ⟨O, hOO⟩ : ∃ D, D = strOf (funsA.getD (k + 1) []) := ⟨_, rfl⟩
  rw [← hOO, ← hR1] at s1
  rw [← hR1, ← hR2, ← hV] at s2
  rw [← hR2, ← hR] at s3
  rw [← hR, ← hV]
  rw [← hOO] at hcl
  have hw : IntKind.i64.wrap (fn - 1) = (k : Int) := by rw [IntWalk.i64_in _ ⟨by omega, by omega⟩]; omega
  have hki : (k : Int) < 6 := by omega
  have hk0 : (0 : Int) ≤ (k : Int) := by omega
  obtain ⟨W, hWW⟩ : ∃ W, W = w.alloc (.cells #[.int .i64 fn, .string V] 57) := ⟨_, rfl⟩
  have HB := Lib.hid (show Below w.heap.size w W from hWW ▸ b1 _ _)
  have hBx : Blk W w.heap.size [.int .i64 fn, .string V] := hWW ▸ Blk.new w _ _
  have hlt := hBx.lt
  have c0 := hBx.cell 0 _ rfl
  have c1 := hBx.cell 1 _ rfl
  have HO : ∀ w1, Below W.heap.size W w1 → Calls Tryz.prog 77 #[] w1 fun e w' => ∃ a : Addr, e = .returned (.slice (some a) 6 6) ∧ w'.cell? (a.add k) = some (.string O) ∧ w'.cell? ⟨w.heap.size, 0, none⟩ = some (.int .i64 fn) ∧ w'.cell? ⟨w.heap.size, 1, none⟩ = some (.string V) ∧ Below w.heap.size w w' := fun w1 h1 => (hO w1).mono fun e w' ⟨a, he, hb2, hc2⟩ => ⟨a, he, hcl _ _ hc2, ((hBx.later h1).later hb2).cell 0 _ rfl, ((hBx.later h1).later hb2).cell 1 _ rfl, bstep (bstep HB.out h1) hb2⟩
  have HO' := Lib.hid HO
  clear hV hR hR1 hR2 hOO hT hget hk h h1 h6 hcl hBx HO hO hf hnl
  go_enter Tryz.func38, Tryz.ntmps38
  go_wp2_with fail
  rw [← hWW]
  clear hWW
  go_region_with ((go_at_call 77; refine (HO'.out _ (Below.refl _ _).drew).mono ?_; rintro e w2 ⟨a, rfl, hcc, d0, d1, hb2⟩))
  all_goals
    go_wp2
    go_ret
    exact ⟨rfl, hb2⟩
/-- What short gives. -/
def shS (l : List UInt8) : List UInt8 := if l.length ≤ 400 then l else []
def shE (l : List UInt8) : Int := if l.length ≤ 400 then 0 else 4
set_option maxRecDepth 100000 in
theorem rshort_any (l : List UInt8) (hl : l.length ≤ 100000000) (w : World) :
    Calls Tryz.prog 40 #[.string (strOf l)] w fun e w' => e = .returned (.tuple #[.string (strOf (shS l)), .int .i64 (shE l)]) ∧ Below w.heap.size w w' := by
  have hz : (strOf l).size = l.length := strOf_size l
  unfold shS shE
  by_cases h : l.length ≤ 400
  · rw [if_pos h, if_pos h]
    have g : ¬ (400 : Int) < ((strOf l).size : Int) := by rw [hz]; omega
    obtain ⟨s, hs⟩ : ∃ s, s = strOf l := ⟨_, rfl⟩
    rw [← hs] at g ⊢
    clear hs hz
    go_enter Tryz.func40, Tryz.ntmps40
    go_wp2
    go_ret2
    exact ⟨rfl, Below.refl _ _⟩
  · rw [if_neg h, if_neg h]
    have g : (400 : Int) < ((strOf l).size : Int) := by rw [hz]; omega
    obtain ⟨s, hs⟩ : ∃ s, s = strOf l := ⟨_, rfl⟩
    rw [← hs] at g ⊢
    clear hs hz
    go_enter Tryz.func40, Tryz.ntmps40
    go_wp2
    go_ret2
    exact ⟨rfl, Below.refl _ _⟩
set_option maxRecDepth 100000 in
theorem rPattern_any (T : Tr) (w : World) (hT : TrW w T) (hm : SmallN T.nd) (hn : nodesN T.nd ≤ 250) :
    Calls Tryz.prog 13 #[.agg T.row.toArray] w fun e w' => e = .returned (.tuple #[.string (strOf (patternS T.nd)), .int .i64 (patternE T.nd)]) ∧ Below w.heap.size w w' := by
  have hS := fun w1 (hb : Below w.heap.size w w1) => rSound_any T w1 (hT.later hb)
  have hse : soundE T.nd = if soundN 1 T.nd = true then 0 else 3 := rfl
  have hX := fun (hs : soundN 1 T.nd = true) w1 (hb : Below w.heap.size w w1) => rtext_any T w1 (hT.later hb) hs hm hn
  have hk := textK _ hm
  have hSh := fun w1 => rshort_any (textN T.nd) (by omega) w1
  rw [hse] at hS
  have hbx : ∀ w1, Below (w.alloc (.cells T.row.toArray 28)).heap.size (w.alloc (.cells T.row.toArray 28)) w1 → Blk w1 w.heap.size T.row := fun w1 hb => (Blk.new w _ _).later hb
  cases r : soundN 1 T.nd with
  | false =>
    have e1 : patternS T.nd = [] := by unfold patternS; rw [r]; rfl
    have e2 : patternE T.nd = 3 := by unfold patternE; rw [r]; rfl
    rw [e1, e2]
    rw [r] at hS
    obtain ⟨k, mn, mx, ⟨⟨kd, bd, bn, cs, nm⟩, sc⟩, sk, ks⟩ := T
    simp only [Tr.row] at hS ⊢
    have HS := Lib.hid hS
    clear hS hX hk hSh hbx e1 e2 r hse hT hm hn
    go_enter Tryz.func13, Tryz.ntmps13
    go_wp2_with (go_at_call 17; refine (HS.out _ (b1 _ _)).mono ?_; rintro e w2 ⟨rfl, hb2⟩)
    go_ret2
    exact ⟨rfl, bstep (b1 _ _) hb2⟩
  | true =>
    have e1 : patternS T.nd = shS (textN T.nd) := by unfold patternS shS; simp only [r, true_and]
    have e2 : patternE T.nd = shE (textN T.nd) := by unfold patternE shE; rw [r, if_pos rfl]
    rw [e1, e2]
    have hX2 := hX r
    rw [r] at hS
    obtain ⟨t, ht⟩ : ∃ t, t = strOf (textN T.nd) := ⟨_, rfl⟩
    obtain ⟨s, hs⟩ : ∃ t, t = strOf (shS (textN T.nd)) := ⟨_, rfl⟩
    obtain ⟨ee, hee⟩ : ∃ t, t = shE (textN T.nd) := ⟨_, rfl⟩
    rw [← ht] at hX2 hSh
    rw [← hs, ← hee] at hSh ⊢
    clear ht hs hee
    obtain ⟨k, mn, mx, ⟨⟨kd, bd, bn, cs, nm⟩, sc⟩, sk, ks⟩ := T
    simp only [Tr.row] at hS hX2 hbx ⊢
    have HS := Lib.hid hS
    have HT := Lib.hid hX2
    have HSh := Lib.hid hSh
    have HX := Lib.hid hbx
    clear hS hX hX2 hk hSh hbx e1 e2 r hse hT hm hn
    go_enter Tryz.func13, Tryz.ntmps13
    go_wp2_with (first | (go_at_call 17; refine (HS.out _ (b1 _ _)).mono ?_; rintro e w2 ⟨rfl, hb2⟩; have hB := HX.out _ hb2; have HB := Lib.hid (bstep (b1 _ _) hb2); have c0 := hB.cell 0 _ rfl; have c1 := hB.cell 1 _ rfl; have c2 := hB.cell 2 _ rfl; have c3 := hB.cell 3 _ rfl; have c4 := hB.cell 4 _ rfl; have c5 := hB.cell 5 _ rfl; have c6 := hB.cell 6 _ rfl; have c7 := hB.cell 7 _ rfl; have c8 := hB.cell 8 _ rfl; clear hB hb2) | (go_at_call 36; refine (HT.out _ HB.out).mono ?_; rintro e w3 ⟨rfl, hb3⟩; replace HB := Lib.hid (bstep HB.out hb3)) | (go_at_call 40; refine (HSh.out _).mono ?_; rintro e w4 ⟨rfl, hb4⟩; replace HB := Lib.hid (bstep HB.out hb4)))
    go_ret2
    exact ⟨rfl, HB.out⟩
end Go.Proofs.YtfibmdbplfghcaaGreatDoor
