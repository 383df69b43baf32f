/- Walks: the document's own depth and nodes. Made by program (wip/tools/gen_astRd.py). -/
import Derived.Test.YtfibmdbplfghcaaGreatDoorAstKm
import Derived.Test.YtfibmdbplfghcaaGreatDoorProg
import Derived.Outline
import Derived.Deep.LoopGhost
import Derived.Handy
namespace Go.Proofs.YtfibmdbplfghcaaGreatDoor
open Go.RowKit
open A8

theorem nodesL_app (a b : List Nd) : nodesL (a ++ b) = nodesL a + nodesL b := by
  induction a with
  | nil => simp [nodesL]
  | cons x xs ih => rw [List.cons_append, nodesL, nodesL, ih]; omega
theorem depthL_app (a b : List Nd) : depthL (a ++ b) = max (depthL a) (depthL b) := by
  induction a with
  | nil => simp [depthL]
  | cons x xs ih => rw [List.cons_append, depthL, depthL, ih]; omega
theorem nodes_mem (l : List Nd) : ∀ x ∈ l, nodesN x ≤ nodesL l := by
  induction l with
  | nil => intro x hx; cases hx
  | cons y ys ih =>
    intro x hx
    rw [nodesL]
    rcases List.mem_cons.1 hx with rfl | hx
    · omega
    · have := ih x hx; omega
set_option maxRecDepth 100000 in
set_option maxHeartbeats 8000000 in
theorem rnodes_any (T : Tr) : ∀ (w : World), TrW w T → nodesN T.nd ≤ 1000000 →
    Calls Tryz.prog 61 #[.agg T.row.toArray] w fun e w' => e = .returned (.int .i64 (nodesN T.nd : Int)) ∧ Below w.heap.size w w' := by
  refine Tr.ind (P := fun T => ∀ (w : World), TrW w T → nodesN T.nd ≤ 1000000 →
    Calls Tryz.prog 61 #[.agg T.row.toArray] w fun e w' => e = .returned (.int .i64 (nodesN T.nd : Int)) ∧ Below w.heap.size w w') (fun k mn mx g sk ks ih => ?_) T
  intro w hT hn
  obtain ⟨-, -, hsl⟩ := hT.one
  obtain ⟨⟨kd, bd, bn, cs, nm⟩, sc⟩ := g
  have ihk := fun t (ht : t ∈ ks) w1 (hb : Below w.heap.size w w1) => ih t ht w1 ((hT.kid ht).later hb)
  rw [nd_mk, nodesN] at hn
  have hnk : ∀ t ∈ ks, nodesN t.nd ≤ nodesL (ks.map Tr.nd) := fun t ht => nodes_mem _ _ (List.mem_map_of_mem ht)
  have hdn : ∀ i, nodesL ((ks.take i).map Tr.nd) ≤ 1000000 := fun i => by
    have h1 := nodesL_app ((ks.take i).map Tr.nd) ((ks.drop i).map Tr.nd)
    rw [← List.map_append, List.take_append_drop] at h1
    skip
    skip
    omega
  rw [nd_mk, nodesN]
  obtain ⟨B, e, rfl, hm, hels⟩ := sl_els (by decide) row_len hsl
  simp only [Tr.row]
  obtain ⟨W, hWW⟩ : ∃ W, W = w.alloc (.cells #[.int .i64 k, .int .i64 mn, .int .i64 mx, .int .i64 kd, .bool bd, .int .u64 bn, sc, .string (strOf nm), .slice B ks.length e] 28) := ⟨_, rfl⟩
  have hb1 : Below w.heap.size w W := hWW ▸ b1 _ _
  have hBx : Blk W w.heap.size [.int .i64 k, .int .i64 mn, .int .i64 mx, .int .i64 kd, .bool bd, .int .u64 bn, sc, .string (strOf nm), .slice B ks.length e] := hWW ▸ Blk.new w _ _
  have HE := Lib.hid hels
  have HI := Lib.hid ihk
  have HX := Lib.hid hBx
  have HB := Lib.hid hb1
  have HNK := Lib.hid hnk
  have HDN := Lib.hid hdn
  clear ih ihk hT hels hsl hBx hb1 hnk hdn
  obtain ⟨R, hR⟩ : ∃ R, R = nodesL (ks.map Tr.nd) := ⟨_, rfl⟩
  rw [← hR]
  have HR := Lib.hid hR
  clear hR
  go_enter Tryz.func61, Tryz.ntmps61
  go_wp2
  rw [← hWW]
  go_loopg [3, 4] ks.length (fun gh lv iv wr => ∃ (i Q : Nat), i ≤ ks.length ∧ gh = ks.length - i ∧ lv = .int .i64 (Q : Int) ∧ iv = .int .i64 (i : Int) ∧ Hid (Q = 1 + nodesL ((ks.take i).map Tr.nd)) ∧ Hid (Below W.heap.size W wr))
  case atStart => exact ⟨0, 1, Nat.zero_le _, rfl, rfl, rfl, Lib.hid rfl, Lib.hid (Below.refl _ _)⟩
  case round =>
    obtain ⟨i, Q, hi, hg, rfl, rfl, hQ, hb⟩ := hrel
    have c8 := (HX.out.later hb.out).cell 8 _ rfl
    have hBw := bstep HB.out hb.out
    by_cases hlt : i < ks.length
    · have g1 : (i : Int) < (ks.length : Int) := by omega
      obtain ⟨a, hBa, ha, E⟩ := HE.out i hlt
      have hq := HI.out ks[i] (List.getElem_mem hlt) wr hBw (by have := HNK.out ks[i] (List.getElem_mem hlt); omega)
      have htk : (ks.take (i + 1)).map Tr.nd = (ks.take i).map Tr.nd ++ [(ks[i]).nd] := by rw [take_snoc ks i hlt, List.map_append]; rfl
      have hst : 1 + nodesL ((ks.take (i + 1)).map Tr.nd) = Q + nodesN (ks[i]).nd := by
        have h0 := hQ.out
        rw [htk, nodesL_app, nodesL, nodesL]
        omega
      have hle := HDN.out (i + 1)
      obtain ⟨t, ht⟩ : ∃ t, t = ks[i] := ⟨_, rfl⟩
      rw [← ht] at E hst hq
      obtain ⟨kN, hkN⟩ : ∃ x, x = nodesN t.nd := ⟨_, rfl⟩
      rw [← hkN] at hst hq
      have hwq : IntKind.i64.wrap ((Q : Int) + (kN : Int)) = (Q : Int) + (kN : Int) := IntWalk.i64_in _ ⟨by omega, by omega⟩
      have hmx : max (Q : Int) (kN : Int) = ((max Q kN : Nat) : Int) := by omega
      have HMX := Lib.hid hmx
      have HQ2 := Lib.hid hst.symm
      replace E := E.later hBw
      clear ht hkN hst htk hmx hle
      subst hBa
      obtain ⟨k', mn', mx', ⟨⟨kd', bd', bn', cs', nm'⟩, sc'⟩, sk', ks'⟩ := t
      simp only [Tr.row] at E hq
      have e0 := E.at0 _ rfl
      have e1 := E.at1 1 _ (by decide) rfl
      have e2 := E.at1 2 _ (by decide) rfl
      have e3 := E.at1 3 _ (by decide) rfl
      have e4 := E.at1 4 _ (by decide) rfl
      have e5 := E.at1 5 _ (by decide) rfl
      have e6 := E.at1 6 _ (by decide) rfl
      have e7 := E.at1 7 _ (by decide) rfl
      have e8 := E.at1 8 _ (by decide) rfl
      have hwk : IntKind.i64.wrap ((i : Int) + 1) = (i : Int) + 1 := IntWalk.i64_in _ ⟨by omega, by omega⟩
      clear E HE HI HX HB
      go_wp2_with (go_at_call 61; refine hq.mono ?_; rintro e w2 ⟨rfl, hb2⟩)
      all_goals
        go_roundg (ks.length - (i + 1))
        case rel => exact ⟨i + 1, Q + kN, by omega, rfl, by go_num, by go_num, HQ2, Lib.hid (bstep hb.out hb2)⟩
        case measure => omega
    · have g1 : ¬ (i : Int) < (ks.length : Int) := by omega
      have hRQ : Q = 1 + R := by
        have h0 := hQ.out
        rw [List.take_of_length_le (by omega)] at h0
        rw [HR.out]
        exact h0
      have hRl : R ≤ 1000000 := by
        have h0 := HDN.out ks.length
        rw [List.take_length] at h0
        rw [HR.out]
        exact h0
      subst hRQ
      skip
      clear HE HI HX HB hQ HR
      go_wp2
      go_ret
      exact ⟨rfl, hBw⟩
set_option maxRecDepth 100000 in
set_option maxHeartbeats 8000000 in
theorem rdepth_any (T : Tr) : ∀ (w : World), TrW w T → nodesN T.nd ≤ 1000000 →
    Calls Tryz.prog 60 #[.agg T.row.toArray] w fun e w' => e = .returned (.int .i64 (depthN T.nd : Int)) ∧ Below w.heap.size w w' := by
  refine Tr.ind (P := fun T => ∀ (w : World), TrW w T → nodesN T.nd ≤ 1000000 →
    Calls Tryz.prog 60 #[.agg T.row.toArray] w fun e w' => e = .returned (.int .i64 (depthN T.nd : Int)) ∧ Below w.heap.size w w') (fun k mn mx g sk ks ih => ?_) T
  intro w hT hn
  obtain ⟨-, -, hsl⟩ := hT.one
  obtain ⟨⟨kd, bd, bn, cs, nm⟩, sc⟩ := g
  have ihk := fun t (ht : t ∈ ks) w1 (hb : Below w.heap.size w w1) => ih t ht w1 ((hT.kid ht).later hb)
  rw [nd_mk, nodesN] at hn
  have hnk : ∀ t ∈ ks, nodesN t.nd ≤ nodesL (ks.map Tr.nd) := fun t ht => nodes_mem _ _ (List.mem_map_of_mem ht)
  have hdn : ∀ i, depthL ((ks.take i).map Tr.nd) ≤ 1000000 := fun i => by
    have h1 := nodesL_app ((ks.take i).map Tr.nd) ((ks.drop i).map Tr.nd)
    rw [← List.map_append, List.take_append_drop] at h1
    have h2 : ∀ l : List Nd, depthL l ≤ nodesL l := fun l => by
      induction l with
      | nil => exact Nat.le_refl _
      | cons x xs ih => have := depth_le x; rw [depthL, nodesL]; omega
    have h3 := h2 ((ks.take i).map Tr.nd)
    omega
  rw [nd_mk, depthN]
  obtain ⟨B, e, rfl, hm, hels⟩ := sl_els (by decide) row_len hsl
  simp only [Tr.row]
  obtain ⟨W, hWW⟩ : ∃ W, W = w.alloc (.cells #[.int .i64 k, .int .i64 mn, .int .i64 mx, .int .i64 kd, .bool bd, .int .u64 bn, sc, .string (strOf nm), .slice B ks.length e] 28) := ⟨_, rfl⟩
  have hb1 : Below w.heap.size w W := hWW ▸ b1 _ _
  have hBx : Blk W w.heap.size [.int .i64 k, .int .i64 mn, .int .i64 mx, .int .i64 kd, .bool bd, .int .u64 bn, sc, .string (strOf nm), .slice B ks.length e] := hWW ▸ Blk.new w _ _
  have HE := Lib.hid hels
  have HI := Lib.hid ihk
  have HX := Lib.hid hBx
  have HB := Lib.hid hb1
  have HNK := Lib.hid hnk
  have HDN := Lib.hid hdn
  clear ih ihk hT hels hsl hBx hb1 hnk hdn
  obtain ⟨R, hR⟩ : ∃ R, R = depthL (ks.map Tr.nd) := ⟨_, rfl⟩
  rw [← hR]
  have HR := Lib.hid hR
  clear hR
  go_enter Tryz.func60, Tryz.ntmps60
  go_wp2
  rw [← hWW]
  go_loopg [3, 4] ks.length (fun gh lv iv wr => ∃ (i Q : Nat), i ≤ ks.length ∧ gh = ks.length - i ∧ lv = .int .i64 (Q : Int) ∧ iv = .int .i64 (i : Int) ∧ Hid (Q = depthL ((ks.take i).map Tr.nd)) ∧ Hid (Below W.heap.size W wr))
  case atStart => exact ⟨0, 0, Nat.zero_le _, rfl, rfl, rfl, Lib.hid rfl, Lib.hid (Below.refl _ _)⟩
  case round =>
    obtain ⟨i, Q, hi, hg, rfl, rfl, hQ, hb⟩ := hrel
    have c8 := (HX.out.later hb.out).cell 8 _ rfl
    have hBw := bstep HB.out hb.out
    by_cases hlt : i < ks.length
    · have g1 : (i : Int) < (ks.length : Int) := by omega
      obtain ⟨a, hBa, ha, E⟩ := HE.out i hlt
      have hq := HI.out ks[i] (List.getElem_mem hlt) wr hBw (by have := HNK.out ks[i] (List.getElem_mem hlt); omega)
      have htk : (ks.take (i + 1)).map Tr.nd = (ks.take i).map Tr.nd ++ [(ks[i]).nd] := by rw [take_snoc ks i hlt, List.map_append]; rfl
      have hst : depthL ((ks.take (i + 1)).map Tr.nd) = max Q (depthN (ks[i]).nd) := by
        have h0 := hQ.out
        rw [htk, depthL_app, depthL, depthL]
        omega
      have hle := HDN.out (i + 1)
      obtain ⟨t, ht⟩ : ∃ t, t = ks[i] := ⟨_, rfl⟩
      rw [← ht] at E hst hq
      obtain ⟨kN, hkN⟩ : ∃ x, x = depthN t.nd := ⟨_, rfl⟩
      rw [← hkN] at hst hq
      have hwq : IntKind.i64.wrap ((Q : Int) + (kN : Int)) = (Q : Int) + (kN : Int) := IntWalk.i64_in _ ⟨by omega, by omega⟩
      have hmx : max (Q : Int) (kN : Int) = ((max Q kN : Nat) : Int) := by omega
      have HMX := Lib.hid hmx
      have HQ2 := Lib.hid hst.symm
      replace E := E.later hBw
      clear ht hkN hst htk hmx hle
      subst hBa
      obtain ⟨k', mn', mx', ⟨⟨kd', bd', bn', cs', nm'⟩, sc'⟩, sk', ks'⟩ := t
      simp only [Tr.row] at E hq
      have e0 := E.at0 _ rfl
      have e1 := E.at1 1 _ (by decide) rfl
      have e2 := E.at1 2 _ (by decide) rfl
      have e3 := E.at1 3 _ (by decide) rfl
      have e4 := E.at1 4 _ (by decide) rfl
      have e5 := E.at1 5 _ (by decide) rfl
      have e6 := E.at1 6 _ (by decide) rfl
      have e7 := E.at1 7 _ (by decide) rfl
      have e8 := E.at1 8 _ (by decide) rfl
      have hwk : IntKind.i64.wrap ((i : Int) + 1) = (i : Int) + 1 := IntWalk.i64_in _ ⟨by omega, by omega⟩
      clear E HE HI HX HB
      go_wp2_with (go_at_call 60; refine hq.mono ?_; rintro e w2 ⟨rfl, hb2⟩)
      all_goals
        go_roundg (ks.length - (i + 1))
        case rel => exact ⟨i + 1, max Q kN, by omega, rfl, by congr 1; omega, by go_num, HQ2, Lib.hid (bstep hb.out hb2)⟩
        case measure => omega
    · have g1 : ¬ (i : Int) < (ks.length : Int) := by omega
      have hRQ : Q = R := by
        have h0 := hQ.out
        rw [List.take_of_length_le (by omega)] at h0
        rw [HR.out]
        exact h0
      have hRl : R ≤ 1000000 := by
        have h0 := HDN.out ks.length
        rw [List.take_length] at h0
        rw [HR.out]
        exact h0
      subst hRQ
      have hwd : IntKind.i64.wrap ((Q : Int) + 1) = (Q : Int) + 1 := IntWalk.i64_in _ ⟨by omega, by omega⟩
      clear HE HI HX HB hQ HR
      go_wp2
      go_ret
      exact ⟨by show Ending.returned (Value.int .i64 ((Q : Int) + 1)) = Ending.returned (Value.int .i64 (1 + (Q : Int))); rw [Int.add_comm], hBw⟩
end Go.Proofs.YtfibmdbplfghcaaGreatDoor
