/- Package flow: what queries read, whether they are allowed, open. -/
import Derived.Test.YtdoioaeppepndaaGreatDoorFlMx
import Derived.Test.YtdoioaeppepndaaGreatDoorWfM
import Derived.Test.YtdoioaeppepndaaGreatDoorAstAx
import Derived.Test.YtdoioaeppepndaaGreatDoorLabelOne
import Derived.Deep.LoopGhost
namespace Go.Proofs.YtdoioaeppepndaaGreatDoor
open Go.RowKit Go.Shelf
open A8 Tk7 W10 Lb F11

/-- A query in memory, small enough to be checked. -/
structure FlG (w : World) (q : GQ) : Prop where
  qw : QW w q
  len : (subsT q.t).length ≤ 999999
  nu : ∀ s ∈ useL q.qu, s.length ≤ maxLen
  cs : ∀ t ∈ subsT q.t, t.nd.atom.cs.length ≤ 1000000
theorem FlG.later {w w' : World} {q : GQ} (h : FlG w q) (hb : Below w.heap.size w w') : FlG w' q := ⟨h.qw.later hb, h.len, h.nu, h.cs⟩
theorem atom_any (g : GA) (c : Int) (w : World) :
    Calls Tryz.prog 55 #[.agg (gaC g).toArray, .int .u64 c] w fun e w' => e = .returned (.int .u64 (atR c g.a)) ∧ Below w.heap.size w w' := by
  obtain ⟨⟨kd, bd, bn, cs, nm⟩, sc⟩ := g
  unfold atR
  simp only [gaC]
  have hb := b1 w (.cells #[.int .i64 kd, .bool bd, .int .u64 bn, sc, .string (strOf nm)] 28)
  have HB := Lib.hid hb
  clear hb
  cases bd
  all_goals
    go_enter Tryz.func55, Tryz.ntmps55
    go_wp2
    go_ret
    exact ⟨by simp, HB.out⟩
theorem atMost_any (l c : Int) (w : World) :
    Calls Tryz.prog 95 #[.agg #[.int .u64 l], .int .u64 c] w fun e w' => e = .returned (.bool (belowI l c)) ∧ Below w.heap.size w w' := by
  have hb := b1 w (.cells #[.int .u64 l] 85)
  have HB := Lib.hid hb
  clear hb
  go_enter Tryz.func95, Tryz.ntmps95
  go_wp2_with fail
  refine (below_any _ _ _).mono ?_
  rintro e w1 ⟨rfl, rfl⟩
  go_wp2
  go_ret
  exact ⟨rfl, HB.out⟩
theorem allowed_any (l c : Int) (w : World) :
    Calls Tryz.prog 50 #[.agg #[.int .u64 l, .int .u64 c]] w fun e w' => e = .returned (.bool (belowI l c)) ∧ Below w.heap.size w w' := by
  have hb := b1 w (.cells #[.int .u64 l, .int .u64 c] 87)
  have HB := Lib.hid hb
  clear hb
  go_enter Tryz.func50, Tryz.ntmps50
  go_wp2_with fail
  refine (atMost_any _ _ _).mono ?_
  rintro e w1 ⟨rfl, hb1⟩
  have HB1 := Lib.hid (bstep HB.out hb1)
  go_wp2
  go_ret
  exact ⟨rfl, HB1.out⟩
theorem joinOf_any (v : Value) (l : List Int) (w : World) (h : Slc w v (vals .u64 l)) :
    Calls Tryz.prog 94 #[v] w fun e w' => e = .returned (.agg #[.int .u64 (joinI l)]) ∧ Below w.heap.size w w' := by
  obtain ⟨A, c, rfl, -, -⟩ := id h.ints
  have hj := fun w1 (hb : Below w.heap.size w w1) => join_any _ l w1 (h.below hb)
  have HJ := Lib.hid hj
  clear hj h
  go_enter Tryz.func94, Tryz.ntmps94
  go_wp2_with fail
  refine (HJ.out _ (b1 _ _)).mono ?_
  rintro e w1 ⟨rfl, rfl⟩
  go_wp2
  refine bodyPost_ret (v := .agg #[.int .u64 (joinI l)]) (by simp [results, Tryz.results94, go_sem]; try rfl) rfl ?_
  exact ⟨rfl, b1 _ _⟩
end Go.Proofs.YtdoioaeppepndaaGreatDoor
namespace Go.Proofs.YtdoioaeppepndaaGreatDoor
open Go.RowKit Go.Shelf
open A8 Tk7 W10 Lb F11

/-- What atomsOf answers. -/
def AtomsP (w0 : World) (L : List A8.At) (S : Int) (e : Ending) (w' : World) : Prop := ∃ (gs : List GA) (A : Option Addr) (c : Nat), IsL (gs.map (fun g => g.a)) L ∧ e = .returned (.tuple #[.slice A gs.length c, .int .i64 S]) ∧ Ats w' (.slice A gs.length c) gs ∧ Below w0.heap.size w0 w'
theorem AtomsP.of {w0 w' : World} {L : List A8.At} {gs : List GA} {S : Int} {A : Option Addr} {c n : Nat} (hn : n = gs.length) (h1 : gs.map (fun g => g.a) = L) (h2 : Ats w' (.slice A gs.length c) gs) (h3 : Below w0.heap.size w0 w') : AtomsP w0 L S (.returned (.tuple #[.slice A n c, .int .i64 S])) w' := by
  subst hn
  exact ⟨gs, A, c, h1, rfl, h2, h3⟩
set_option maxRecDepth 100000 in
set_option maxHeartbeats 8000000 in
theorem atomsOf_any (q : GQ) (w : World) (hq : FlG w q) (hG : SG w) :
    Calls Tryz.prog 46 #[.agg q.row.toArray] w (AtomsP w (atsQ q.qu) (wfE q.qu)) := by
  have hC := fun w1 (hb : Below w.heap.size w w1) => wcheck_any q w1 (hq.qw.later hb) hq.len (hG.later hb) hq.nu
  have hA := fun w1 (hb : Below w.heap.size w w1) => atoms_any q.t w1 ((hq.qw.later hb).tr) hq.len (hG.later hb) hq.cs
  by_cases hz : wfE q.qu = 0
  · have hs : soundN 1 q.t.nd = true := by
      have h0 : ¬ checkB q.qu = false := fun h => by unfold wfE at hz; rw [if_pos h] at hz; cases hz
      have h1 : checkB q.qu = true := by simpa using h0
      unfold checkB at h1
      simp only [Bool.and_eq_true] at h1
      exact h1.1.1.1
    have hL : atomsN q.t.nd = atsQ q.qu := by unfold atomsN; rw [if_pos hs, ats_ok hz]; rfl
    have hE : soundE q.t.nd = 0 := by unfold soundE; rw [if_pos hs]
    rw [hL, hE] at hA
    rw [hz] at hC ⊢
    obtain ⟨L, hLL⟩ : ∃ L, L = atsQ q.qu := ⟨_, rfl⟩
    rw [← hLL] at hA ⊢
    clear hs hL hE hLL hz hq hG
    obtain ⟨T, wi, sh, hv, se, em⟩ := q
    obtain ⟨k, mn, mx, ⟨⟨kd, bd, bn, cs, nm⟩, sc⟩, sk, ks⟩ := T
    simp only [GQ.row, Tr.row, List.cons_append, List.nil_append] at hC hA ⊢
    have HC := Lib.hid hC
    have HA := Lib.hid hA
    clear hC hA
    obtain ⟨W1, hW1⟩ : ∃ W1, W1 = w.alloc (.cells #[.int .i64 k, .int .i64 mn, .int .i64 mx, .int .i64 kd, .bool bd, .int .u64 bn, sc, .string (strOf nm), sk, .int .u64 wi, sh, se] 35) := ⟨_, rfl⟩
    have hK : Blk W1 w.heap.size [.int .i64 k, .int .i64 mn, .int .i64 mx, .int .i64 kd, .bool bd, .int .u64 bn, sc, .string (strOf nm), sk, .int .u64 wi, sh, se] := by rw [hW1]; exact Blk.new w [.int .i64 k, .int .i64 mn, .int .i64 mx, .int .i64 kd, .bool bd, .int .u64 bn, sc, .string (strOf nm), sk, .int .u64 wi, sh, se] 35
    have hb1 : Below w.heap.size w W1 := by rw [hW1]; exact b1 _ _
    go_enter Tryz.func46, Tryz.ntmps46
    go_wp2_with fail
    rw [← hW1]
    clear hW1
    refine (HC.out W1 hb1).mono ?_
    rintro e w2 ⟨rfl, hb2⟩
    have hK2 := hK.later hb2
    have x0 := hK2.cell 0 _ rfl
    have x1 := hK2.cell 1 _ rfl
    have x2 := hK2.cell 2 _ rfl
    have x3 := hK2.cell 3 _ rfl
    have x4 := hK2.cell 4 _ rfl
    have x5 := hK2.cell 5 _ rfl
    have x6 := hK2.cell 6 _ rfl
    have x7 := hK2.cell 7 _ rfl
    have x8 := hK2.cell 8 _ rfl
    have HB := Lib.hid (bstep hb1 hb2)
    clear hK hK2 hb1 hb2 HC
    go_wp2_with fail
    refine (HA.out w2 HB.out).mono ?_
    rintro e w3 ⟨gs, A, c, hl, rfl, ha, -, hb3⟩
    have HR := Lib.hid (And.intro hl ha)
    have HB3 := Lib.hid (bstep HB.out hb3)
    clear hl ha hb3 x0 x1 x2 x3 x4 x5 x6 x7 x8 HA
    go_wp2
    go_ret2
    exact AtomsP.of rfl HR.out.1 HR.out.2 HB3.out
  · have hL : atsQ q.qu = [] := ats_bad hz
    rw [hL]
    obtain ⟨E, hE⟩ : ∃ E, E = wfE q.qu := ⟨_, rfl⟩
    rw [← hE] at hC hz ⊢
    clear hL hE hq hG hA
    obtain ⟨T, wi, sh, hv, se, em⟩ := q
    obtain ⟨k, mn, mx, ⟨⟨kd, bd, bn, cs, nm⟩, sc⟩, sk, ks⟩ := T
    simp only [GQ.row, Tr.row, List.cons_append, List.nil_append] at hC ⊢
    have HC := Lib.hid hC
    have hz1 : (E != 0) = true := by simpa using hz
    clear hC
    go_enter Tryz.func46, Tryz.ntmps46
    go_wp2_with fail
    refine (HC.out _ (b1 _ _)).mono ?_
    rintro e w2 ⟨rfl, hb2⟩
    have HB := Lib.hid (bstep (b1 _ _) hb2)
    clear hb2 HC
    go_wp2
    go_ret2
    exact AtomsP.of (gs := []) rfl rfl ⟨Sl.nil _ _, fun g hg => by cases hg⟩ HB.out
end Go.Proofs.YtdoioaeppepndaaGreatDoor
namespace Go.Proofs.YtdoioaeppepndaaGreatDoor
open Go.RowKit Go.Shelf
open A8 Tk7 W10 Lb F11

theorem infoU64 : (Tryz.prog.info? 22).map (fun i => (i.zero, i.size, i.bytes)) = some (some (.int .u64 0), 1, 8) := by kernel_rfl
theorem ats_len {q : GQ} (h : (subsT q.t).length ≤ 999999) : (atsQ q.qu).length ≤ 999999 := by
  unfold atsQ
  split
  · rw [List.length_map]
    refine Nat.le_trans (List.length_filter_le _ _) ?_
    show (subsN q.t.nd).length ≤ _
    rw [← subsT_nd, List.length_map]
    exact h
  · exact Nat.zero_le _
set_option maxRecDepth 100000 in
set_option maxHeartbeats 8000000 in
theorem readingOf_any (q : GQ) (c : Int) (w : World) (hq : FlG w q) (hG : SG w) :
    Calls Tryz.prog 49 #[.agg q.row.toArray, .int .u64 c] w fun e w' => e = .returned (.tuple #[.agg #[.int .u64 (flR q.qu c), .int .u64 (flT q.qu c)], .int .i64 (wfE q.qu)]) ∧ Below w.heap.size w w' := by
  have hA := fun w1 (hb : Below w.heap.size w w1) => atomsOf_any q w1 (hq.later hb) (hG.later hb)
  have hlen := ats_len hq.len
  have hF : flR q.qu c = joinI ((atsQ q.qu).map (atR c)) := rfl
  have hbad := fun (h : wfE q.qu ≠ 0) => And.intro (flR_bad h c) (flT_bad h c)
  have hok := fun (h : wfE q.qu = 0) => flT_ok h c
  obtain ⟨L, hL⟩ : ∃ L, L = atsQ q.qu := ⟨_, rfl⟩
  obtain ⟨E, hE⟩ : ∃ E, E = wfE q.qu := ⟨_, rfl⟩
  obtain ⟨R, hR⟩ : ∃ R, R = flR q.qu c := ⟨_, rfl⟩
  obtain ⟨T0, hT0⟩ : ∃ R, R = flT q.qu c := ⟨_, rfl⟩
  rw [← hL] at hA hF hlen
  rw [← hR] at hF
  rw [← hE, ← hR, ← hT0] at hbad
  rw [← hE, ← hT0] at hok
  rw [← hE] at hA
  rw [← hE, ← hR, ← hT0]
  clear hL hE hR hT0 hq hG
  obtain ⟨T, wi, sh, hv, se, em⟩ := q
  obtain ⟨k, mn, mx, ⟨⟨kd, bd, bn, cs, nm⟩, sc⟩, sk, ks⟩ := T
  simp only [GQ.row, Tr.row, List.cons_append, List.nil_append] at hA ⊢
  obtain ⟨i0, hi0, hz0, hz1, hz2⟩ := info_parts infoU64
  obtain ⟨W1, hW1⟩ : ∃ W1, W1 = (w.alloc (.cells #[.int .i64 k, .int .i64 mn, .int .i64 mx, .int .i64 kd, .bool bd, .int .u64 bn, sc, .string (strOf nm), sk, .int .u64 wi, sh, se] 35)).alloc (.cells #[.int .u64 0, .int .u64 0] 87) := ⟨_, rfl⟩
  have hK : Blk W1 w.heap.size [.int .i64 k, .int .i64 mn, .int .i64 mx, .int .i64 kd, .bool bd, .int .u64 bn, sc, .string (strOf nm), sk, .int .u64 wi, sh, se] := by rw [hW1]; exact (Blk.new w [.int .i64 k, .int .i64 mn, .int .i64 mx, .int .i64 kd, .bool bd, .int .u64 bn, sc, .string (strOf nm), sk, .int .u64 wi, sh, se] 35).alloc _
  have hR : Blk W1 (w.heap.size + 1) [.int .u64 0, .int .u64 0] := by rw [hW1]; exact Blk.is (us := [.int .u64 0, .int .u64 0]) _ (by simp)
  have hb1 : Below w.heap.size w W1 := by rw [hW1]; exact b2 _ _ _
  have HA := Lib.hid hA
  have HF := Lib.hid hF
  have HL := Lib.hid hlen
  have HBAD := Lib.hid hbad
  have HOK := Lib.hid hok
  clear hA hF hlen hbad hok
  have x0 := hK.cell 0 _ rfl
  have x1 := hK.cell 1 _ rfl
  have x2 := hK.cell 2 _ rfl
  have x3 := hK.cell 3 _ rfl
  have x4 := hK.cell 4 _ rfl
  have x5 := hK.cell 5 _ rfl
  have x6 := hK.cell 6 _ rfl
  have x7 := hK.cell 7 _ rfl
  have x8 := hK.cell 8 _ rfl
  have x9 := hK.cell 9 _ rfl
  have x10 := hK.cell 10 _ rfl
  have x11 := hK.cell 11 _ rfl
  clear hK
  go_enter Tryz.func49, Tryz.ntmps49
  go_upto_region 1 with fail
  rw [← hW1]
  have HW1 := Lib.hid hW1
  clear hW1
  go_wp2_with fail
  refine (HA.out _ hb1).mono ?_
  rintro e w2 ⟨gs, A, cp, hl, rfl, ha, hb2⟩
  have hR2 := hR.later hb2
  have HB := Lib.hid (bstep hb1 hb2)
  clear hb1 hb2 hR x0 x1 x2 x3 x4 x5 x6 x7 x8 x9 x10 x11 HA
  have r0 := hR2.cell 0 _ rfl
  have r1 := hR2.cell 1 _ rfl
  have f0 := hR2.fr 0 _ rfl
  have f1 := hR2.fr 1 _ rfl
  have rlt := hR2.lt
  have HR := Lib.hid hR2
  have hgl : gs.length = L.length := by have := congrArg List.length hl; simpa using this
  have HJ := Lib.hid hl
  by_cases hz : E = 0
  · have hTc := HOK.out hz
    subst hTc
    rw [hz]
    have hE0 : (E != 0) = false := by simp [hz]
    have hE1 : (E == 0) = true := by simp [hz]
    have HZ := Lib.hid hz
    obtain ⟨hs, hcs⟩ := ha
    obtain ⟨A', cp', heq, hm, hc⟩ := sl_els (by decide) gaC_len hs
    injection heq with e1 e2 e3
    subst e1
    subst e3
    have HC := Lib.hid hc
    have HCS := Lib.hid hcs
    have HLG := Lib.hid (And.intro hgl HL.out)
    clear hs hcs hc hz hl hgl hR2
    go_wp2
    go_loopg [8, 22] gs.length (fun g v iv wr => ∃ (i : Nat) (B : Option Addr) (d : Nat), i ≤ gs.length ∧ g = gs.length - i ∧ v = .slice B i d ∧ iv = .int .i64 (i : Int) ∧ Hid (wr.ownsRow w2.heap.size 22 1 (.slice B i d) i (vals .u64 ((gs.take i).map fun g => atR T0 g.a))) ∧ Hid (Below w2.heap.size w2 wr))
    case atStart => exact ⟨0, none, 0, Nat.zero_le _, rfl, rfl, rfl, Lib.hid (World.ownsRow_nil _ _ _ _), Lib.hid (Below.refl _ _)⟩
    case round =>
      obtain ⟨i, B, d, hi, hg, rfl, rfl, hO, hb⟩ := hrel
      rename World => wr
      by_cases hlt : i < gs.length
      · have g1 : (i : Int) < (gs.length : Int) := by omega
        have hwk : IntKind.i64.wrap ((i : Int) + 1) = (i : Int) + 1 := IntWalk.i64_in _ ⟨by omega, by omega⟩
        obtain ⟨a, rfl, halt, E1⟩ := HC.out i hlt
        replace E1 := E1.later hb.out
        have hni : (gs.take (i + 1)).map (fun g => atR T0 g.a) = (gs.take i).map (fun g => atR T0 g.a) ++ [atR T0 gs[i].a] := by
          rw [List.take_succ_eq_append_getElem hlt, List.map_append]; rfl
        have hat := fun w1 => atom_any gs[i] T0 w1
        obtain ⟨y, hy⟩ : ∃ y, y = atR T0 gs[i].a := ⟨_, rfl⟩
        rw [← hy] at hni hat
        have hys := HCS.out gs[i] (List.getElem_mem hlt)
        obtain ⟨x, hx⟩ : ∃ x, x = gs[i] := ⟨_, rfl⟩
        rw [← hx] at E1 hat hys
        obtain ⟨⟨ykd, ybd, ybn, ycs, ynm⟩, ysc⟩ := x
        simp only at hys
        obtain ⟨YA, yc, rfl, -, -⟩ := sl_get (by decide) hys
        simp only [gaC] at E1 hat
        clear hys
        have c0 := E1.at0 _ rfl
        have c1 := E1.at1 1 _ (by decide) rfl
        have c2 := E1.at1 2 _ (by decide) rfl
        have c3 := E1.at1 3 _ (by decide) rfl
        have c4 := E1.at1 4 _ (by decide) rfl
        have elt := E1.lt
        obtain ⟨M, hM⟩ : ∃ M, M = (gs.take i).map fun g => atR T0 g.a := ⟨_, rfl⟩
        rw [← hM] at hO hni
        have HNI := Lib.hid hni
        have HI := Lib.hid (And.intro hi hlt)
        have HAT := Lib.hid hat
        clear hx hy hM hni hat E1 hi
        go_wp2_with fail
        refine (HAT.out _).mono ?_
        rintro r w3 ⟨rfl, hb3⟩
        have hb3' := bstep (b1 wr (.cells #[.int .i64 ykd, .bool ybd, .int .u64 ybn, .slice YA ycs.length yc, .string (strOf ynm)] 28)) hb3
        have hO3 := own_later hO.out hb3'
        have hB3 := bstep hb.out hb3'
        obtain ⟨A3, cp3, w4, hrun, hown, hgrow⟩ := run_append_any (P := Tryz.prog) (w3.alloc (.cells #[.int .u64 y] 22)) w2.heap.size 112 112 22 i0 (.int .u64 0) 1 8 Tryz.underlying112 hi0 hz0 hz1 hz2 rfl (by decide) _ i (vals .u64 M) (own_later hO3 (b1 _ _)) _ 1 [.int .u64 y] (Sl.lit (Blk.is (us := [.int .u64 y]) 22 rfl) 1 1 rfl (by decide)) (fun u hu => by rw [List.mem_singleton.1 hu]; rfl) (by have := HI.out; have := HLG.out; unfold maxLen; omega) (by have := HI.out; have := HLG.out; omega) (bstep hB3 (b1 _ _)).size (i + 1) (vals .u64 (M ++ [y])) rfl (by rw [vals_snoc])
        have HOW := Lib.hid hown
        have HBW := Lib.hid ((bstep hB3 (b1 _ _)).grown hgrow (bstep hB3 (b1 _ _)).size (fun j e => (hO3.lt j e).1))
        clear hown hgrow hO hb hb3 hb3' hO3 hB3 c0 c1 c2 c3 c4 HAT
        go_wp2_with (at_builtin; refine wpList_append_run rfl _ _ _ rfl rfl rfl hrun ?_)
        go_roundg (gs.length - (i + 1))
        case rel => exact ⟨i + 1, A3, cp3, by have := HI.out; omega, rfl, rfl, by go_num, Lib.hid (by rw [HNI.out]; exact HOW.out), HBW⟩
        case measure => have := HI.out; omega
      · have g1 : ¬ (i : Int) < (gs.length : Int) := by omega
        have hsl : Slc wr (.slice B i d) (vals .u64 (L.map (atR T0))) := by
          have h1 := Slc.of_own hO.out
          rw [List.take_of_length_le (by omega)] at h1
          have h2 : L.map (atR T0) = gs.map fun g => atR T0 g.a := by rw [← HJ.out, List.map_map]; rfl
          rw [h2]
          exact h1
        have hj := joinOf_any _ _ _ hsl
        rw [← HF.out] at hj
        have hRr := HR.out.later hb.out
        have HBr := Lib.hid (bstep HB.out hb.out)
        clear hO hb hsl r0 r1 f0 f1 rlt
        go_wp2_with fail
        refine hj.mono ?_
        rintro r w4 ⟨rfl, hb4⟩
        have hR4 := hRr.later hb4
        have r0 := hR4.cell 0 _ rfl
        have r1 := hR4.cell 1 _ rfl
        have f0 := hR4.fr 0 _ rfl
        have f1 := hR4.fr 1 _ rfl
        have rlt := hR4.lt
        have HB4 := Lib.hid (((bstep HBr.out hb4).setCell (p := ⟨w.heap.size + 1, 0, none⟩) (by simp) (.int .u64 R)).setCell (p := ⟨w.heap.size + 1, 1, none⟩) (by simp) (.int .u64 T0))
        have HK4 := (hR4.set 0 (.int .u64 R)).set 1 (.int .u64 T0)
        have v0 := HK4.cell 0 _ rfl
        have v1 := HK4.cell 1 _ rfl
        clear hb4 hj hRr hR4 HK4
        go_wp2
        refine bodyPost_ret (v := .tuple #[.agg #[.int .u64 R, .int .u64 T0], .int .i64 0]) (by simp [results, Tryz.results49, go_sem, v0, v1]; try rfl) rfl ?_
        exact ⟨by rw [HZ.out], HB4.out⟩
  · obtain ⟨hR0, hT0⟩ := HBAD.out hz
    subst hR0
    subst hT0
    have hE0 : (E != 0) = true := by simpa using hz
    have HB4 := Lib.hid ((HB.out.setCell (p := ⟨w.heap.size + 1, 0, none⟩) (by simp) (.int .u64 0)).setCell (p := ⟨w.heap.size + 1, 1, none⟩) (by simp) (.int .u64 0))
    have HK4 := (HR.out.set 0 (.int .u64 0)).set 1 (.int .u64 0)
    have v0 := HK4.cell 0 _ rfl
    have v1 := HK4.cell 1 _ rfl
    clear ha hl hgl HJ HF HL HBAD HOK hR2 HK4
    go_wp2
    refine bodyPost_ret (v := .tuple #[.agg #[.int .u64 0, .int .u64 0], .int .i64 E]) (by simp [results, Tryz.results49, go_sem, v0, v1]; try rfl) rfl ?_
    exact ⟨rfl, HB4.out⟩
set_option maxRecDepth 100000 in
set_option maxHeartbeats 8000000 in
theorem read_any (q : GQ) (c : Int) (w : World) (hq : FlG w q) (hG : SG w) :
    Calls Tryz.prog 21 #[.agg q.row.toArray, .int .u64 c] w fun e w' => e = .returned (.tuple #[.int .u64 (flR q.qu c), .int .i64 (wfE q.qu)]) ∧ Below w.heap.size w w' := by
  have hA := fun w1 (hb : Below w.heap.size w w1) => readingOf_any q c w1 (hq.later hb) (hG.later hb)
  obtain ⟨E, hE⟩ : ∃ E, E = wfE q.qu := ⟨_, rfl⟩
  obtain ⟨R, hR⟩ : ∃ R, R = flR q.qu c := ⟨_, rfl⟩
  obtain ⟨T0, hT0⟩ : ∃ R, R = flT q.qu c := ⟨_, rfl⟩
  rw [← hE, ← hR, ← hT0] at hA
  rw [← hE, ← hR]
  clear hE hR hT0 hq hG
  obtain ⟨T, wi, sh, hv, se, em⟩ := q
  obtain ⟨k, mn, mx, ⟨⟨kd, bd, bn, cs, nm⟩, sc⟩, sk, ks⟩ := T
  simp only [GQ.row, Tr.row, List.cons_append, List.nil_append] at hA ⊢
  have HA := Lib.hid hA
  clear hA
  go_enter Tryz.func21, Tryz.ntmps21
  go_wp2_with fail
  refine (HA.out _ (b1 _ _)).mono ?_
  rintro e w2 ⟨rfl, hb2⟩
  have HB := Lib.hid (bstep (bstep (b1 _ _) hb2) (b1 w2 (.cells #[.int .u64 R, .int .u64 T0] 87)))
  clear hb2 HA
  go_wp2
  go_ret2
  exact ⟨rfl, HB.out⟩
theorem least_any (q : GQ) (w : World) (hq : FlG w q) (hG : SG w) :
    Calls Tryz.prog 8 #[.agg q.row.toArray] w fun e w' => e = .returned (.tuple #[.int .u64 (flR q.qu 0), .int .i64 (wfE q.qu)]) ∧ Below w.heap.size w w' := by
  have hA := fun w1 (hb : Below w.heap.size w w1) => read_any q 0 w1 (hq.later hb) (hG.later hb)
  obtain ⟨E, hE⟩ : ∃ E, E = wfE q.qu := ⟨_, rfl⟩
  obtain ⟨R, hR⟩ : ∃ R, R = flR q.qu 0 := ⟨_, rfl⟩
  rw [← hE, ← hR] at hA
  rw [← hE, ← hR]
  clear hE hR hq hG
  obtain ⟨T, wi, sh, hv, se, em⟩ := q
  obtain ⟨k, mn, mx, ⟨⟨kd, bd, bn, cs, nm⟩, sc⟩, sk, ks⟩ := T
  simp only [GQ.row, Tr.row, List.cons_append, List.nil_append] at hA ⊢
  have HA := Lib.hid hA
  clear hA
  go_enter Tryz.func8, Tryz.ntmps8
  go_wp2_with fail
  refine (HA.out _ (b1 _ _)).mono ?_
  rintro e w2 ⟨rfl, hb2⟩
  have HB := Lib.hid (bstep (b1 _ _) hb2)
  clear hb2 HA
  go_wp2
  go_ret2
  exact ⟨rfl, HB.out⟩
set_option maxRecDepth 100000 in
set_option maxHeartbeats 8000000 in
theorem flcheck_any (q : GQ) (c : Int) (w : World) (hq : FlG w q) (hG : SG w) :
    Calls Tryz.prog 12 #[.agg q.row.toArray, .int .u64 c] w fun e w' => e = .returned (.int .i64 (flC q.qu c)) ∧ Below w.heap.size w w' := by
  have hA := fun w1 (hb : Below w.heap.size w w1) => readingOf_any q c w1 (hq.later hb) (hG.later hb)
  unfold flC
  have hT := fun (h : wfE q.qu = 0) => flT_ok h c
  obtain ⟨E, hE⟩ : ∃ E, E = wfE q.qu := ⟨_, rfl⟩
  obtain ⟨R, hR⟩ : ∃ R, R = flR q.qu c := ⟨_, rfl⟩
  obtain ⟨T0, hT0⟩ : ∃ R, R = flT q.qu c := ⟨_, rfl⟩
  rw [← hE, ← hR, ← hT0] at hA
  rw [← hE, ← hT0] at hT
  rw [← hE, ← hR]
  clear hE hR hT0 hq hG
  obtain ⟨T, wi, sh, hv, se, em⟩ := q
  obtain ⟨k, mn, mx, ⟨⟨kd, bd, bn, cs, nm⟩, sc⟩, sk, ks⟩ := T
  simp only [GQ.row, Tr.row, List.cons_append, List.nil_append] at hA ⊢
  have HA := Lib.hid hA
  clear hA
  by_cases hz : E = 0
  · have hT1 := hT hz
    clear hT
    subst hT1
    subst hz
    rw [if_pos rfl]
    have hl := fun w1 => allowed_any R T0 w1
    have hq2 : ∃ b, b = belowI R T0 := ⟨_, rfl⟩
    obtain ⟨b, hb⟩ := hq2
    rw [← hb] at hl ⊢
    clear hb
    have HL := Lib.hid hl
    clear hl
    go_enter Tryz.func12, Tryz.ntmps12
    go_wp2_with fail
    refine (HA.out _ (b1 _ _)).mono ?_
    rintro e w2 ⟨rfl, hb2⟩
    have HB := Lib.hid (bstep (bstep (b1 _ _) hb2) (b1 w2 (.cells #[.int .u64 R, .int .u64 T0] 87)))
    clear hb2 HA
    cases b
    all_goals
      go_wp2_with fail
      refine (HL.out _).mono ?_
      rintro e w3 ⟨rfl, hb3⟩
      have HB3 := Lib.hid (bstep HB.out hb3)
      clear hb3
      go_wp2
      go_ret
      exact ⟨by simp, HB3.out⟩
  · rw [if_neg hz]
    have hE0 : (E != 0) = true := by simpa using hz
    clear hT
    go_enter Tryz.func12, Tryz.ntmps12
    go_wp2_with fail
    refine (HA.out _ (b1 _ _)).mono ?_
    rintro e w2 ⟨rfl, hb2⟩
    have HB := Lib.hid (bstep (bstep (b1 _ _) hb2) (b1 w2 (.cells #[.int .u64 R, .int .u64 T0] 87)))
    clear hb2 HA
    go_wp2
    go_ret
    exact ⟨rfl, HB.out⟩
end Go.Proofs.YtdoioaeppepndaaGreatDoor
namespace Go.Proofs.YtdoioaeppepndaaGreatDoor
open Go.RowKit Go.Shelf
open A8 Tk7 W10 Lb F11

theorem open1_any (g : GA) (w : World) :
    Calls Tryz.prog 48 #[.agg (gaC g).toArray] w fun e w' => e = .returned (.bool (openB g.a)) ∧ Below w.heap.size w w' := by
  obtain ⟨⟨kd, bd, bn, cs, nm⟩, sc⟩ := g
  unfold openB
  simp only [gaC]
  have hb := b1 w (.cells #[.int .i64 kd, .bool bd, .int .u64 bn, sc, .string (strOf nm)] 28)
  have HB := Lib.hid hb
  clear hb
  go_enter Tryz.func48, Tryz.ntmps48
  go_wp2
  go_ret
  exact ⟨rfl, HB.out⟩
set_option maxRecDepth 100000 in
set_option maxHeartbeats 4000000 in
theorem indexOfOpen_any (v : Value) (l : List GA) (w : World) (hv : Sl w 5 l.length v (l.flatMap gaC)) :
    Calls Tryz.prog 93 #[v, .func (.func 48) #[] #[]] w fun e w' => ∃ j : Int, e = .returned (.int .i64 j) ∧ decide (0 ≤ j) = (l.any fun g => openB g.a) ∧ Below w.heap.size w w' := by
  obtain ⟨A, cap, rfl, hm, hc⟩ := sl_els (by decide) gaC_len hv
  have HC := Lib.hid hc

  clear hc hv 
  go_enter Tryz.func93, Tryz.ntmps93
  go_wp2
  go_loopg [5, 8] l.length (fun g tv iv wr => ∃ k : Nat, k ≤ l.length ∧ g = l.length - k ∧ iv = .int .i64 (k : Int) ∧ Hid (Below w.heap.size w wr) ∧ Hid ((l.any fun g => openB g.a) = ((l.drop k).any fun g => openB g.a)))
  case atStart => exact ⟨0, Nat.zero_le _, rfl, rfl, Lib.hid (Below.refl _ _), Lib.hid rfl⟩
  case round =>
    obtain ⟨k, hk, hg, rfl, hb, hS⟩ := hrel
    by_cases hlt : k < l.length
    · obtain ⟨a, rfl, ha, E⟩ := HC.out k hlt
      have hst : ((l.drop k).any fun g => openB g.a) = ((fun g : GA => openB g.a) l[k] || ((l.drop (k + 1)).any fun g => openB g.a)) := by
        rw [List.drop_eq_getElem_cons hlt, List.any_cons]
      rw [hst] at hS
      have hq := fun w1  => open1_any l[k] w1 
      obtain ⟨x, hx⟩ : ∃ x, x = l[k] := ⟨_, rfl⟩
      rw [← hx] at E hS hq
      obtain ⟨q, hqq⟩ : ∃ q, q = (fun g : GA => openB g.a) x := ⟨_, rfl⟩
      rw [← hqq] at hS
      simp only at hqq
      rw [← hqq] at hq
      replace E := E.same (SameB.of hb.out)

      clear hx hqq hst HC
      have c0 := E.at0 _ rfl
      have c1 := E.at1 1 _ (by decide) rfl
      have c2 := E.at1 2 _ (by decide) rfl
      have c3 := E.at1 3 _ (by decide) rfl
      have c4 := E.at1 4 _ (by decide) rfl
      simp only [gaC] at hq
      have h1 : (k : Int) < (l.length : Int) := by omega
      have hwk : IntKind.i64.wrap ((k : Int) + 1) = (k : Int) + 1 := IntWalk.i64_in _ ⟨by omega, by omega⟩
      clear E
      cases q with
      | false =>
        have HS2 := Lib.hid (show (l.any fun g => openB g.a) = ((l.drop (k + 1)).any fun g => openB g.a) by rw [hS.out, Bool.false_or])
        clear hS
        go_wp2_with (go_at_call 48; refine (hq _ ).mono ?_; rintro e w2 ⟨rfl, hb2⟩)
        go_roundg (l.length - (k + 1))
        case rel => exact ⟨k + 1, by omega, rfl, by go_num, Lib.hid (bstep hb.out hb2), HS2⟩
        case measure => omega
      | true =>
        have HS2 := Lib.hid (show decide (0 ≤ (k : Int)) = (l.any fun g => openB g.a) by rw [hS.out, Bool.true_or, decide_eq_true_iff]; omega)
        clear hS
        go_wp2_with (go_at_call 48; refine (hq _ ).mono ?_; rintro e w2 ⟨rfl, hb2⟩)
        go_ret
        exact ⟨_, rfl, HS2.out, bstep hb.out hb2⟩
    · have e1 := Lib.hid (show decide (0 ≤ (-1 : Int)) = (l.any fun g => openB g.a) by rw [hS.out, List.drop_eq_nil_of_le (by omega)]; rfl)
      have hi : ¬ (k : Int) < (l.length : Int) := by omega
      clear HC hS
      go_wp2
      go_ret
      exact ⟨_, rfl, e1.out, hb.out⟩
set_option maxRecDepth 100000 in
set_option maxHeartbeats 2000000 in
theorem containsOpen_any (v : Value) (l : List GA) (w : World) (hv : Sl w 5 l.length v (l.flatMap gaC)) :
    Calls Tryz.prog 47 #[v, .func (.func 48) #[] #[]] w fun e w' => e = .returned (.bool (l.any fun g => openB g.a)) ∧ Below w.heap.size w w' := by
  have hq := indexOfOpen_any v l w hv 
  obtain ⟨A, cap, rfl, hm, -⟩ := sl_els (by decide) gaC_len hv
  clear hv 
  obtain ⟨q, hqq⟩ : ∃ q, q = (l.any fun g => openB g.a) := ⟨_, rfl⟩
  rw [← hqq] at hq ⊢
  clear hqq
  go_enter Tryz.func47, Tryz.ntmps47
  go_wp2_with (go_at_call 93; refine hq.mono ?_; rintro e w2 ⟨j, rfl, hj, hb2⟩)
  go_ret
  exact ⟨rfl, hb2⟩
theorem any_atoms {gs : List GA} {L : List A8.At} (h : gs.map (fun g => g.a) = L) (f : A8.At → Bool) : (gs.any fun g => f g.a) = L.any f := by
  rw [← h, List.any_map]
  rfl
set_option maxRecDepth 100000 in
set_option maxHeartbeats 8000000 in
theorem open_any (q : GQ) (w : World) (hq : FlG w q) (hG : SG w) :
    Calls Tryz.prog 10 #[.agg q.row.toArray] w fun e w' => e = .returned (.tuple #[.bool (flO q.qu), .int .i64 (wfE q.qu)]) ∧ Below w.heap.size w w' := by
  have hA := fun w1 (hb : Below w.heap.size w w1) => atomsOf_any q w1 (hq.later hb) (hG.later hb)
  have hF : ∀ gs : List GA, gs.map (fun g => g.a) = atsQ q.qu → (gs.any fun g => openB g.a) = flO q.qu := fun gs h => any_atoms h openB
  obtain ⟨L, hL⟩ : ∃ L, L = atsQ q.qu := ⟨_, rfl⟩
  obtain ⟨E, hE⟩ : ∃ E, E = wfE q.qu := ⟨_, rfl⟩
  obtain ⟨X, hX⟩ : ∃ X, X = flO q.qu := ⟨_, rfl⟩
  rw [← hX, ← hE]
  rw [← hX, ← hL] at hF
  rw [← hL, ← hE] at hA
  clear hL hE hX hq hG
  obtain ⟨T, wi, sh, hv, se, em⟩ := q
  obtain ⟨k, mn, mx, ⟨⟨kd, bd, bn, cs, nm⟩, sc⟩, sk, ks⟩ := T
  simp only [GQ.row, Tr.row, List.cons_append, List.nil_append] at hA ⊢
  have HA := Lib.hid hA
  have HF := Lib.hid hF
  clear hA hF
  go_enter Tryz.func10, Tryz.ntmps10
  go_wp2_with fail
  refine (HA.out _ (b1 _ _)).mono ?_
  rintro e w2 ⟨gs, A, c, hl, rfl, ha, hb2⟩
  have hC := containsOpen_any _ gs w2 ha.1
  rw [HF.out gs hl] at hC
  have HB := Lib.hid (bstep (b1 _ _) hb2)
  clear hl ha hb2 HA HF
  go_wp2_with fail
  refine hC.mono ?_
  rintro e w3 ⟨rfl, hb3⟩
  have HB3 := Lib.hid (bstep HB.out hb3)
  clear hb3 hC
  go_wp2
  go_ret2
  exact ⟨rfl, HB3.out⟩
end Go.Proofs.YtdoioaeppepndaaGreatDoor
