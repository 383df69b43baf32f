/- Walks: a copy of conditions; what Atoms and Negated take of a leaf. -/
import Derived.Test.YtfibmdbplfghcaaGreatDoorAstMem
import Derived.Test.YtfibmdbplfghcaaGreatDoorProg
import Derived.Test.YtfibmdbplfghcaaGreatDoorAppRun
import Derived.Outline
import Derived.Handy
import Derived.Deep.RegionLaw
import Derived.Lib.SliceRun
namespace Go.Proofs.YtfibmdbplfghcaaGreatDoor
open Go.RowKit
open A8

theorem infoCond : (Tryz.prog.info? 59).map (fun i => (i.zero, i.size, i.bytes)) = some (some (.agg #[.int .i64 0, .int .i64 0]), 2, 16) := by kernel_rfl
theorem cn_one (l : List Cn) : ∀ u ∈ l.flatMap cnC, u.oneCell' = true := by
  intro u hu
  obtain ⟨c, _, h⟩ := List.mem_flatMap.1 hu
  simp only [cnC, List.mem_cons, List.not_mem_nil, or_false] at h
  rcases h with rfl | rfl <;> rfl
set_option maxRecDepth 100000 in
set_option maxHeartbeats 4000000 in
theorem clone_any (v : Value) (cs : List Cn) (w : World) (h : Sl w 2 cs.length v (cs.flatMap cnC)) (hs : cs.length ≤ 1000000) :
    Calls Tryz.prog 56 #[v] w fun e w' => ∃ (A : Option Addr) (c : Nat), e = .returned (.slice A cs.length c) ∧ w'.ownsRow w.heap.size 59 2 (.slice A cs.length c) cs.length (cs.flatMap cnC) ∧ Below w.heap.size w w' := by
  obtain ⟨i0, hi, hz0, hz1, hz2⟩ := info_parts infoCond
  have hq : ∀ (w : World) (a : Option Addr) (n c : Nat), (binOp .eql 23 (.slice a n c) (.slice none 0 0)).run Tryz.prog w = .ok (.bool a.isNone) w := fun w a n c => Lib.run_eql_slice_nil w _ _ a n c 0 0 Tryz.underlying23
  have hX := h
  obtain ⟨hl, hm, A, cap, rfl, hc, hn, hcell⟩ := h
  cases A with
  | none =>
    obtain rfl : cap = 0 := hn rfl
    have h0 : cs.length = 0 := by omega
    obtain rfl : cs = [] := List.eq_nil_of_length_eq_zero h0
    have own : w.ownsRow w.heap.size 59 2 (.slice none 0 0) 0 [] := World.ownsRow_nil _ _ _ _
    clear hcell hX hl
    simp only [List.length_nil]
    go_enter Tryz.func56, Tryz.ntmps56
    go_wp2
    go_ret
    exact ⟨_, _, rfl, own, Below.refl _ _⟩
  | some a =>
    have hb1 := b1 w (.cells #[] 59)
    have hown : (w.alloc (.cells #[] 59)).ownsRow w.heap.size 59 2 (.slice (some ⟨w.heap.size, 0, none⟩) 0 0) 0 [] := World.ownsRow_made w #[] 0 (Nat.le_refl _) (by unfold maxLen; omega) rfl
    obtain ⟨A', c', w', hrun, hown', hgrow⟩ := run_append_any (P := Tryz.prog) (w.alloc (.cells #[] 59)) w.heap.size 23 23 59 i0 (.agg #[.int .i64 0, .int .i64 0]) 2 16 Tryz.underlying23 hi hz0 hz1 hz2 rfl (by decide) _ 0 [] hown _ cs.length _ (hX.later hb1) (cn_one cs) (by unfold maxLen; omega) (by omega) (by simp) cs.length _ (Nat.zero_add _) rfl
    have hb : Below w.heap.size w w' := hb1.grown hgrow (by simp) (fun k e => by cases e; exact Nat.le_refl _)
    obtain ⟨xs, hxs⟩ : ∃ xs, xs = [] ++ cs.flatMap cnC := ⟨_, rfl⟩
    rw [← hxs] at hown'
    have HO := Lib.hid hown'
    have HX := Lib.hid hxs
    clear hX hcell hl hown hown' hgrow hxs
    go_enter Tryz.func56, Tryz.ntmps56
    go_wp2_with (at_builtin; refine wpList_append_run rfl _ _ _ rfl rfl rfl hrun ?_)
    go_ret
    refine ⟨A', c', rfl, ?_, hb⟩
    have := HO.out
    rw [HX.out, List.nil_append] at this
    exact this
set_option maxRecDepth 100000 in
set_option maxHeartbeats 4000000 in
/-- What Atoms takes of a leaf: its atom, with conditions of its own. -/
theorem atoms1_any (T : Tr) (g : GA) (w : World) (hg : ∃ k mn mx sk ks, T = .mk k mn mx g sk ks) (hT : OneA w g) (hs : g.a.cs.length ≤ 1000000) :
    Calls Tryz.prog 55 #[.agg T.row.toArray] w fun e w' => ∃ g' : GA, g'.a = g.a ∧ e = .returned (.agg (gaC g').toArray) ∧ w'.ownsRow w.heap.size 59 2 g'.sc g.a.cs.length (g.a.cs.flatMap cnC) ∧ Below w.heap.size w w' := by
  obtain ⟨k, mn, mx, sk, ks, rfl⟩ := hg
  obtain ⟨-, hsl⟩ := hT
  obtain ⟨⟨kd, bd, bn, cs, nm⟩, sc⟩ := g
  simp only at hsl hs
  have hC := fun w1 (hb : Below w.heap.size w w1) => clone_any sc cs w1 (hsl.later hb) hs
  obtain ⟨A, c, rfl, -, -⟩ := sl_get (by decide) hsl
  simp only [Tr.row]
  have HC := Lib.hid hC
  have HG : ∀ (A' : Option Addr) (c' : Nat), ∃ g' : GA, g' = ⟨⟨kd, bd, bn, cs, nm⟩, .slice A' cs.length c'⟩ := fun _ _ => ⟨_, rfl⟩
  have HL := Lib.hid hsl
  clear hC hsl hs
  obtain ⟨N, hN⟩ : ∃ N, N = cs.length := ⟨_, rfl⟩
  rw [← hN]
  rw [← hN] at HC HL
  clear hN
  obtain ⟨w3, hw3⟩ : ∃ w3, w3 = ((w.alloc (.cells #[.int .i64 k, .int .i64 mn, .int .i64 mx, .int .i64 kd, .bool bd, .int .u64 bn, .slice A N c, .string (strOf nm), sk] 28)).alloc (.cells #[.int .i64 0, .bool false, .int .u64 0, .slice none 0 0, .string ⟨#[]⟩] 25)).alloc (.cells #[.int .i64 kd, .bool bd, .int .u64 bn, .slice A N c, .string (strOf nm)] 25) := ⟨_, rfl⟩
  go_enter Tryz.func55, Tryz.ntmps55
  go_wp2_with fail
  rw [← hw3]
  have hb3 : Below w.heap.size w w3 := hw3 ▸ b3 w _ _ _
  have hs3 : w3.heap.size = w.heap.size + 3 := by rw [hw3]; simp
  have B1 : Blk w3 (w.heap.size + 1) [.int .i64 0, .bool false, .int .u64 0, .slice none 0 0, .string ⟨#[]⟩] := by rw [hw3]; exact (Blk.is (us := [.int .i64 0, .bool false, .int .u64 0, .slice none 0 0, .string ⟨#[]⟩]) _ (by simp)).alloc _
  have B2 : Blk w3 (w.heap.size + 2) [.int .i64 kd, .bool bd, .int .u64 bn, .slice A N c, .string (strOf nm)] := by rw [hw3]; exact Blk.is (us := [.int .i64 kd, .bool bd, .int .u64 bn, .slice A N c, .string (strOf nm)]) _ (by simp)
  clear hw3
  refine (HC.out w3 hb3).mono ?_
  rintro e w4 ⟨A', c', rfl, hown, hb4⟩
  replace B1 := B1.later hb4
  replace B2 := B2.later hb4
  have p0 := B1.fr 0 _ rfl
  have p1 := B1.fr 1 _ rfl
  have p2 := B1.fr 2 _ rfl
  have p3 := B1.fr 3 _ rfl
  have p4 := B1.fr 4 _ rfl
  have v0 := B1.cell 0 _ rfl
  have v1 := B1.cell 1 _ rfl
  have v2 := B1.cell 2 _ rfl
  have v3 := B1.cell 3 _ rfl
  have v4 := B1.cell 4 _ rfl
  have q0 := B2.cell 0 _ rfl
  have q1 := B2.cell 1 _ rfl
  have q2 := B2.cell 2 _ rfl
  have q3 := B2.cell 3 _ rfl
  have q4 := B2.cell 4 _ rfl
  have f3 := B2.fr 3 _ rfl
  have HO := Lib.hid hown
  have HB := Lib.hid (bstep hb3 hb4)
  have hlt := B2.lt
  clear HC hown hb3 hb4 B1 B2
  go_wp2
  refine bodyPost_ret (v := .agg #[.int .i64 kd, .bool bd, .int .u64 bn, .slice A' N c', .string (strOf nm)]) (by simp [results, Tryz.results55, go_sem, v0, v1, v2, v3, v4]; try rfl) rfl ?_
  refine ⟨⟨⟨kd, bd, bn, cs, nm⟩, .slice A' N c'⟩, rfl, rfl, ?_, ?_⟩
  · refine own_mono (base := w.heap.size + 3) ?_ (by omega)
    rw [← hs3]
    repeat (refine own_set ?_ (by omega) _ _)
    exact HO.out
  · repeat (refine Below.setCell (p := ⟨_, _, none⟩) ?_ (by simp <;> omega) _)
    exact HB.out
set_option maxRecDepth 100000 in
/-- What Negated takes of a leaf. -/
theorem negated1_any (T : Tr) (w : World) :
    Calls Tryz.prog 59 #[.agg T.row.toArray] w fun e w' => e = .returned (.bool (decide (T.nd.kind = 2))) ∧ Below w.heap.size w w' := by
  obtain ⟨k, mn, mx, ⟨⟨kd, bd, bn, cs, nm⟩, sc⟩, sk, ks⟩ := T
  simp only [Tr.row, Tr.nd, Nd.kind]
  have hb := b1 w (.cells #[.int .i64 k, .int .i64 mn, .int .i64 mx, .int .i64 kd, .bool bd, .int .u64 bn, sc, .string (strOf nm), sk] 28)
  have HB := Lib.hid hb
  clear hb
  go_enter Tryz.func59, Tryz.ntmps59
  go_wp2
  go_ret
  exact ⟨rfl, HB.out⟩
end Go.Proofs.YtfibmdbplfghcaaGreatDoor
