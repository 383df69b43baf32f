/- The document's own: depths, leaves. -/
import Derived.Test.YtdoioaeppepndaaGreatDoorAstKm
import Derived.Test.YtdoioaeppepndaaGreatDoorProg
import Derived.Outline
import Derived.Deep.LoopGhost
import Derived.Handy
import Derived.Test.YtdoioaeppepndaaGreatDoorAppRun
import Derived.Test.YtdoioaeppepndaaGreatDoorAstRf
namespace Go.Proofs.YtdoioaeppepndaaGreatDoor
open Go.RowKit
open A8

theorem nodesL_app (a b : List Nd) : nodesL (a ++ b) = nodesL a + nodesL b := by
  induction a with
  | nil => simp [nodesL]
  | cons x xs ih => rw [List.cons_append, nodesL, nodesL, ih]; omega
theorem depthL_app (a b : List Nd) : depthL (a ++ b) = max (depthL a) (depthL b) := by
  induction a with
  | nil => simp [depthL]
  | cons x xs ih => rw [List.cons_append, depthL, depthL, ih]; omega
theorem nodes_mem (l : List Nd) : ∀ x ∈ l, nodesN x ≤ nodesL l := by
  induction l with
  | nil => intro x hx; cases hx
  | cons y ys ih =>
    intro x hx
    rw [nodesL]
    rcases List.mem_cons.1 hx with rfl | hx
    · omega
    · have := ih x hx; omega
set_option maxRecDepth 100000 in
set_option maxHeartbeats 8000000 in
theorem rdepth_any (T : Tr) : ∀ (w : World), TrW w T → nodesN T.nd ≤ 1000000 →
    Calls Tryz.prog 115 #[.agg T.row.toArray] w fun e w' => e = .returned (.int .i64 (depthN T.nd : Int)) ∧ Below w.heap.size w w' := by
  refine Tr.ind (P := fun T => ∀ (w : World), TrW w T → nodesN T.nd ≤ 1000000 →
    Calls Tryz.prog 115 #[.agg T.row.toArray] w fun e w' => e = .returned (.int .i64 (depthN T.nd : Int)) ∧ Below w.heap.size w w') (fun k mn mx g sk ks ih => ?_) T
  intro w hT hn
  obtain ⟨-, -, hsl⟩ := hT.one
  obtain ⟨⟨kd, bd, bn, cs, nm⟩, sc⟩ := g
  have ihk := fun t (ht : t ∈ ks) w1 (hb : Below w.heap.size w w1) => ih t ht w1 ((hT.kid ht).later hb)
  rw [nd_mk, nodesN] at hn
  have hnk : ∀ t ∈ ks, nodesN t.nd ≤ nodesL (ks.map Tr.nd) := fun t ht => nodes_mem _ _ (List.mem_map_of_mem ht)
  have hdn : ∀ i, depthL ((ks.take i).map Tr.nd) ≤ 1000000 := fun i => by
    have h1 := nodesL_app ((ks.take i).map Tr.nd) ((ks.drop i).map Tr.nd)
    rw [← List.map_append, List.take_append_drop] at h1
    have h2 : ∀ l : List Nd, depthL l ≤ nodesL l := fun l => by
      induction l with
      | nil => exact Nat.le_refl _
      | cons x xs ih => have := depth_le x; rw [depthL, nodesL]; omega
    have h3 := h2 ((ks.take i).map Tr.nd)
    omega
  rw [nd_mk, depthN]
  obtain ⟨B, e, rfl, hm, hels⟩ := sl_els (by decide) row_len hsl
  simp only [Tr.row]
  obtain ⟨W, hWW⟩ : ∃ W, W = w.alloc (.cells #[.int .i64 k, .int .i64 mn, .int .i64 mx, .int .i64 kd, .bool bd, .int .u64 bn, sc, .string (strOf nm), .slice B ks.length e] 31) := ⟨_, rfl⟩
  have hb1 : Below w.heap.size w W := hWW ▸ b1 _ _
  have hBx : Blk W w.heap.size [.int .i64 k, .int .i64 mn, .int .i64 mx, .int .i64 kd, .bool bd, .int .u64 bn, sc, .string (strOf nm), .slice B ks.length e] := hWW ▸ Blk.new w _ _
  have HE := Lib.hid hels
  have HI := Lib.hid ihk
  have HX := Lib.hid hBx
  have HB := Lib.hid hb1
  have HNK := Lib.hid hnk
  have HDN := Lib.hid hdn
  clear ih ihk hT hels hsl hBx hb1 hnk hdn
  obtain ⟨R, hR⟩ : ∃ R, R = depthL (ks.map Tr.nd) := ⟨_, rfl⟩
  rw [← hR]
  have HR := Lib.hid hR
  clear hR
  go_enter Tryz.func115, Tryz.ntmps115
  go_wp2
  rw [← hWW]
  go_loopg [3, 4] ks.length (fun gh lv iv wr => ∃ (i Q : Nat), i ≤ ks.length ∧ gh = ks.length - i ∧ lv = .int .i64 (Q : Int) ∧ iv = .int .i64 (i : Int) ∧ Hid (Q = depthL ((ks.take i).map Tr.nd)) ∧ Hid (Below W.heap.size W wr))
  case atStart => exact ⟨0, 0, Nat.zero_le _, rfl, rfl, rfl, Lib.hid rfl, Lib.hid (Below.refl _ _)⟩
  case round =>
    obtain ⟨i, Q, hi, hg, rfl, rfl, hQ, hb⟩ := hrel
    have c8 := (HX.out.later hb.out).cell 8 _ rfl
    have hBw := bstep HB.out hb.out
    by_cases hlt : i < ks.length
    · have g1 : (i : Int) < (ks.length : Int) := by omega
      obtain ⟨a, hBa, ha, E⟩ := HE.out i hlt
      have hq := HI.out ks[i] (List.getElem_mem hlt) wr hBw (by have := HNK.out ks[i] (List.getElem_mem hlt); omega)
      have htk : (ks.take (i + 1)).map Tr.nd = (ks.take i).map Tr.nd ++ [(ks[i]).nd] := by rw [take_snoc ks i hlt, List.map_append]; rfl
      have hst : depthL ((ks.take (i + 1)).map Tr.nd) = max Q (depthN (ks[i]).nd) := by
        have h0 := hQ.out
        rw [htk, depthL_app, depthL, depthL]
        omega
      have hle := HDN.out (i + 1)
      obtain ⟨t, ht⟩ : ∃ t, t = ks[i] := ⟨_, rfl⟩
      rw [← ht] at E hst hq
      obtain ⟨kN, hkN⟩ : ∃ x, x = depthN t.nd := ⟨_, rfl⟩
      rw [← hkN] at hst hq
      have hwq : IntKind.i64.wrap ((Q : Int) + (kN : Int)) = (Q : Int) + (kN : Int) := IntWalk.i64_in _ ⟨by omega, by omega⟩
      have hmx : max (Q : Int) (kN : Int) = ((max Q kN : Nat) : Int) := by omega
      have HMX := Lib.hid hmx
      have HQ2 := Lib.hid hst.symm
      replace E := E.later hBw
      clear ht hkN hst htk hmx hle
      subst hBa
      obtain ⟨k', mn', mx', ⟨⟨kd', bd', bn', cs', nm'⟩, sc'⟩, sk', ks'⟩ := t
      simp only [Tr.row] at E hq
      have e0 := E.at0 _ rfl
      have e1 := E.at1 1 _ (by decide) rfl
      have e2 := E.at1 2 _ (by decide) rfl
      have e3 := E.at1 3 _ (by decide) rfl
      have e4 := E.at1 4 _ (by decide) rfl
      have e5 := E.at1 5 _ (by decide) rfl
      have e6 := E.at1 6 _ (by decide) rfl
      have e7 := E.at1 7 _ (by decide) rfl
      have e8 := E.at1 8 _ (by decide) rfl
      have hwk : IntKind.i64.wrap ((i : Int) + 1) = (i : Int) + 1 := IntWalk.i64_in _ ⟨by omega, by omega⟩
      clear E HE HI HX HB
      go_wp2_with (go_at_call 115; refine hq.mono ?_; rintro e w2 ⟨rfl, hb2⟩)
      all_goals
        go_roundg (ks.length - (i + 1))
        case rel => exact ⟨i + 1, max Q kN, by omega, rfl, by congr 1 <;> omega, by go_num, HQ2, Lib.hid (bstep hb.out hb2)⟩
        case measure => omega
    · have g1 : ¬ (i : Int) < (ks.length : Int) := by omega
      have hRQ : Q = R := by
        have h0 := hQ.out
        rw [List.take_of_length_le (by omega)] at h0
        rw [HR.out]
        exact h0
      have hRl : R ≤ 1000000 := by
        have h0 := HDN.out ks.length
        rw [List.take_length] at h0
        rw [HR.out]
        exact h0
      subst hRQ
      have hwd : IntKind.i64.wrap ((Q : Int) + 1) = (Q : Int) + 1 := IntWalk.i64_in _ ⟨by omega, by omega⟩
      clear HE HI HX HB hQ HR
      go_wp2
      go_ret
      exact ⟨by show Ending.returned (Value.int .i64 ((Q : Int) + 1)) = Ending.returned (Value.int .i64 (1 + (Q : Int))); rw [Int.add_comm], hBw⟩
end Go.Proofs.YtdoioaeppepndaaGreatDoor
namespace Go.Proofs.YtdoioaeppepndaaGreatDoor.A8
open Go.RowKit
mutual
/-- The nodes that are no Seq and no Alt. -/
def lvT : Tr → List Tr
  | .mk k mn mx g sk ks => if k = 1 ∨ k = 2 then [.mk k mn mx g sk ks] else lvL ks
def lvL : List Tr → List Tr
  | [] => []
  | t :: ts => lvT t ++ lvL ts
end
theorem lvL_flat (ks : List Tr) : lvL ks = ks.flatMap lvT := by
  induction ks with
  | nil => rfl
  | cons n ns ih => rw [lvL, ih, List.flatMap_cons]
theorem lv_sub (T : Tr) : ∀ t ∈ lvT T, t ∈ subsT T := by
  refine Tr.ind (P := fun T => ∀ t ∈ lvT T, t ∈ subsT T) (fun k mn mx g sk ks ih => ?_) T
  intro t ht
  rw [lvT] at ht
  split at ht
  · rw [List.mem_singleton.1 ht, subsT]; exact List.mem_cons_self
  · rw [lvL_flat] at ht
    obtain ⟨u, hu, h⟩ := List.mem_flatMap.1 ht
    rw [subsT, subsTL_flat]
    exact List.mem_cons_of_mem _ (List.mem_flatMap.2 ⟨u, hu, ih u hu t h⟩)
theorem lv_len (T : Tr) : (lvT T).length ≤ nodesN T.nd := by
  refine Tr.ind (P := fun T => (lvT T).length ≤ nodesN T.nd) (fun k mn mx g sk ks ih => ?_) T
  have h : ∀ l : List Tr, (∀ t ∈ l, (lvT t).length ≤ nodesN t.nd) → (lvL l).length ≤ nodesL (ndL l) := fun l => by
    induction l with
    | nil => intro _; exact Nat.le_refl _
    | cons t ts iht =>
      intro hl
      have h1 := hl t (by simp)
      have h2 := iht (fun u hu => hl u (List.mem_cons_of_mem _ hu))
      rw [lvL, ndL, nodesL, List.length_append]
      omega
  have := h ks ih
  rw [lvT, Tr.nd, nodesN]
  split
  · simp
  · omega
/-- Of a sound node they are those without kids. -/
theorem lv_sound (T : Tr) : soundN 1 T.nd = true → (lvT T).map Tr.nd = leavesN T.nd := by
  refine Tr.ind (P := fun T => soundN 1 T.nd = true → (lvT T).map Tr.nd = leavesN T.nd) (fun k mn mx g sk ks ih => ?_) T
  intro h
  rw [nd_mk] at h ⊢
  have hk := h
  rw [soundN] at hk
  simp only [Bool.and_eq_true] at hk
  have hb := hk.1.2
  unfold nodeB at hb
  rw [lvT]
  by_cases hc : k = 1 ∨ k = 2
  · rw [if_pos hc]
    have h0 : ks = [] := by
      rcases hc with rfl | rfl
      · simp at hb
        exact hb.2
      · simp at hb
        exact hb.2
    subst h0
    rfl
  · rw [if_neg hc]
    have h0 : ks.map Tr.nd ≠ [] := by
      intro e
      rw [e] at hb
      have h1 : ¬ k = 1 := fun e => hc (.inl e)
      have h2 : ¬ k = 2 := fun e => hc (.inr e)
      simp [h1, h2] at hb
    rw [leaves_flat _ _ _ _ _ h0, lvL_flat, List.map_flatMap, List.flatMap_map]
    exact flat_congr fun t ht => ih t ht (sound_kid h t.nd (List.mem_map_of_mem ht))
theorem row_one {w : World} {ts : List Tr} (h : ∀ t ∈ ts, OneT w t) : ∀ u ∈ ts.flatMap Tr.row, u.oneCell' = true := by
  intro u hu
  obtain ⟨t, ht, h1⟩ := List.mem_flatMap.1 hu
  have h2 := h t ht
  obtain ⟨k, mn, mx, ⟨⟨kd, bd, bn, cs, nm⟩, sc⟩, sk, ks⟩ := t
  obtain ⟨-, ⟨-, h3⟩, h4⟩ := h2
  obtain ⟨_, _, A, c, hsc, _⟩ := h3
  obtain ⟨_, _, B, e, hsk, _⟩ := h4
  simp only at hsc
  subst hsc
  subst hsk
  simp only [Tr.row, List.mem_cons, List.not_mem_nil, or_false] at h1
  rcases h1 with rfl | rfl | rfl | rfl | rfl | rfl | rfl | rfl | rfl <;> rfl
end Go.Proofs.YtdoioaeppepndaaGreatDoor.A8
namespace Go.Proofs.YtdoioaeppepndaaGreatDoor
open Go.RowKit
open A8
theorem infoNode : (Tryz.prog.info? 31).map (fun i => (i.zero, i.size, i.bytes)) = some (some (.agg #[.int .i64 0, .int .i64 0, .int .i64 0, .int .i64 0, .bool false, .int .u64 0, .slice none 0 0, .string ⟨#[]⟩, .slice none 0 0]), 9, 112) := by kernel_rfl
set_option maxRecDepth 100000 in
set_option maxHeartbeats 8000000 in
theorem rleaves_any (T : Tr) : ∀ (w : World), TrW w T → nodesN T.nd ≤ 1000000 →
    Calls Tryz.prog 120 #[.agg T.row.toArray] w fun e w' => ∃ (A : Option Addr) (c : Nat), e = .returned (.slice A (lvT T).length c) ∧ Sl w' 9 (lvT T).length (.slice A (lvT T).length c) ((lvT T).flatMap Tr.row) ∧ Below w.heap.size w w' := by
  refine Tr.ind (P := fun T => ∀ (w : World), TrW w T → nodesN T.nd ≤ 1000000 →
    Calls Tryz.prog 120 #[.agg T.row.toArray] w fun e w' => ∃ (A : Option Addr) (c : Nat), e = .returned (.slice A (lvT T).length c) ∧ Sl w' 9 (lvT T).length (.slice A (lvT T).length c) ((lvT T).flatMap Tr.row) ∧ Below w.heap.size w w') (fun k mn mx g sk ks ih => ?_) T
  intro w hT hn
  have hone := hT.one
  obtain ⟨-, ⟨-, hsc⟩, hsl⟩ := hT.one
  obtain ⟨⟨kd, bd, bn, cs, nm⟩, sc⟩ := g
  simp only at hsc
  obtain ⟨C, cc, rfl, -, -⟩ := sl_get (by decide) hsc
  obtain ⟨B, e, rfl, hm, hels⟩ := sl_els (by decide) row_len hsl
  by_cases hc : k = 1 ∨ k = 2
  · have hlv : lvT (.mk k mn mx ⟨⟨kd, bd, bn, cs, nm⟩, .slice C cs.length cc⟩ (.slice B ks.length e) ks) = [.mk k mn mx ⟨⟨kd, bd, bn, cs, nm⟩, .slice C cs.length cc⟩ (.slice B ks.length e) ks] := by rw [lvT, if_pos hc]
    rw [hlv]
    have HB := Lib.hid (b2 w (.cells #[.int .i64 k, .int .i64 mn, .int .i64 mx, .int .i64 kd, .bool bd, .int .u64 bn, .slice C cs.length cc, .string (strOf nm), .slice B ks.length e] 31) (.cells #[.int .i64 k, .int .i64 mn, .int .i64 mx, .int .i64 kd, .bool bd, .int .u64 bn, .slice C cs.length cc, .string (strOf nm), .slice B ks.length e] 31))
    have HX := Lib.hid (Blk.is (w := (w.alloc (.cells #[.int .i64 k, .int .i64 mn, .int .i64 mx, .int .i64 kd, .bool bd, .int .u64 bn, .slice C cs.length cc, .string (strOf nm), .slice B ks.length e] 31))) (us := [.int .i64 k, .int .i64 mn, .int .i64 mx, .int .i64 kd, .bool bd, .int .u64 bn, .slice C cs.length cc, .string (strOf nm), .slice B ks.length e]) (b := w.heap.size + 1) 31 (by simp))
    clear hlv ih hT hn hone hsc hels hsl
    simp only [Tr.row, List.flatMap_cons, List.flatMap_nil, List.append_nil, List.length_cons, List.length_nil]
    rcases hc with rfl | rfl
    all_goals
      go_enter Tryz.func120, Tryz.ntmps120
      go_wp2
      go_ret
      exact ⟨_, _, rfl, Sl.lit HX.out 9 1 rfl (by omega), HB.out⟩
  · have hk1 : (k == 1) = false := by rw [beq_eq_false_iff_ne]; exact fun e => hc (.inl e)
    have hk2 : (k == 2) = false := by rw [beq_eq_false_iff_ne]; exact fun e => hc (.inr e)
    obtain ⟨i0, hi0, hz0, hz1, hz2⟩ := info_parts infoNode
    have ihk := fun t (ht : t ∈ ks) w1 (hb : Below w.heap.size w w1) => ih t ht w1 ((hT.kid ht).later hb)
    rw [nd_mk, nodesN] at hn
    have hnk : ∀ t ∈ ks, nodesN t.nd ≤ nodesL (ks.map Tr.nd) := fun t ht => nodes_mem _ _ (List.mem_map_of_mem ht)
    have hlt' : ∀ i, (lvL (ks.take i)).length ≤ 1000000 := fun i => by
      have h1 := lv_len (.mk 0 mn mx ⟨⟨kd, bd, bn, cs, nm⟩, .slice C cs.length cc⟩ (.slice B ks.length e) (ks.take i))
      rw [lvT, if_neg (by omega), Tr.nd, nodesN] at h1
      have h2 := nodesL_app ((ks.take i).map Tr.nd) ((ks.drop i).map Tr.nd)
      rw [← List.map_append, List.take_append_drop] at h2
      rw [ndL_map] at h1
      omega
    have hka : ∀ t ∈ ks, ∀ w1, Below w.heap.size w w1 → ∀ u ∈ (lvT t).flatMap Tr.row, u.oneCell' = true := fun t ht w1 hb => row_one (w := w1) fun u hu => ((hT.kid ht).later hb) u (lv_sub t u hu)
    have hlv : lvT (.mk k mn mx ⟨⟨kd, bd, bn, cs, nm⟩, .slice C cs.length cc⟩ (.slice B ks.length e) ks) = lvL ks := by rw [lvT, if_neg hc]
    rw [hlv]
    simp only [Tr.row]
    obtain ⟨W, hWW⟩ : ∃ W, W = w.alloc (.cells #[.int .i64 k, .int .i64 mn, .int .i64 mx, .int .i64 kd, .bool bd, .int .u64 bn, .slice C cs.length cc, .string (strOf nm), .slice B ks.length e] 31) := ⟨_, rfl⟩
    have hb1 : Below w.heap.size w W := hWW ▸ b1 _ _
    have hBx : Blk W w.heap.size [.int .i64 k, .int .i64 mn, .int .i64 mx, .int .i64 kd, .bool bd, .int .u64 bn, .slice C cs.length cc, .string (strOf nm), .slice B ks.length e] := hWW ▸ Blk.new w _ _
    have HE := Lib.hid hels
    have HI := Lib.hid ihk
    have HX := Lib.hid hBx
    have HB := Lib.hid hb1
    have HNK := Lib.hid hnk
    have HL := Lib.hid hlt'
    have HKA := Lib.hid hka
    clear hlv ih ihk hT hone hsc hels hsl hBx hb1 hnk hlt' hka hc
    go_enter Tryz.func120, Tryz.ntmps120
    go_wp2
    rw [← hWW]
    clear hWW
    go_loopg [3, 4] ks.length (fun gh ov iv wr => ∃ (i : Nat), i ≤ ks.length ∧ gh = ks.length - i ∧ iv = .int .i64 (i : Int) ∧ Hid (wr.ownsRow W.heap.size 31 9 ov (lvL (ks.take i)).length ((lvL (ks.take i)).flatMap Tr.row)) ∧ Hid (Below W.heap.size W wr))
    case atStart => exact ⟨0, Nat.zero_le _, rfl, rfl, Lib.hid (World.ownsRow_nil _ _ _ _), Lib.hid (Below.refl _ _)⟩
    case round =>
      obtain ⟨i, hi, hg, rfl, hO, hb⟩ := hrel
      have c8 := (HX.out.later hb.out).cell 8 _ rfl
      have hBw := bstep HB.out hb.out
      by_cases hlt : i < ks.length
      · have g1 : (i : Int) < (ks.length : Int) := by omega
        obtain ⟨a, hBa, ha, E⟩ := HE.out i hlt
        have hq := HI.out ks[i] (List.getElem_mem hlt) wr hBw (by have := HNK.out ks[i] (List.getElem_mem hlt); omega)
        have hone := HKA.out ks[i] (List.getElem_mem hlt) w (Below.refl _ _)
        have htk : lvL (ks.take (i + 1)) = lvL (ks.take i) ++ lvT ks[i] := by
          rw [lvL_flat, lvL_flat, take_snoc ks i hlt, List.flatMap_append]
          simp
        have hle := HL.out (i + 1)
        obtain ⟨t, ht⟩ : ∃ t, t = ks[i] := ⟨_, rfl⟩
        rw [← ht] at E htk hq hone
        rw [htk] at hle
        rw [List.length_append] at hle
        obtain ⟨ls, hls⟩ : ∃ ls, ls = lvT t := ⟨_, rfl⟩
        rw [← hls] at hq htk hone hle
        obtain ⟨ds, hds⟩ : ∃ ds, ds = lvL (ks.take i) := ⟨_, rfl⟩
        rw [← hds] at hO htk hle
        replace E := E.later hBw
        have HTK := Lib.hid htk
        have HON := Lib.hid hone
        clear ht hls hds htk hone
        subst hBa
        obtain ⟨k', mn', mx', ⟨⟨kd', bd', bn', cs', nm'⟩, sc'⟩, sk', ks'⟩ := t
        simp only [Tr.row] at E hq
        have e0 := E.at0 _ rfl
        have e1 := E.at1 1 _ (by decide) rfl
        have e2 := E.at1 2 _ (by decide) rfl
        have e3 := E.at1 3 _ (by decide) rfl
        have e4 := E.at1 4 _ (by decide) rfl
        have e5 := E.at1 5 _ (by decide) rfl
        have e6 := E.at1 6 _ (by decide) rfl
        have e7 := E.at1 7 _ (by decide) rfl
        have e8 := E.at1 8 _ (by decide) rfl
        have hwk : IntKind.i64.wrap ((i : Int) + 1) = (i : Int) + 1 := IntWalk.i64_in _ ⟨by omega, by omega⟩
        clear E HE HI HX HB
        go_wp2_with (first | (go_at_call 120; refine hq.mono ?_; rintro e w2 ⟨A2, cp2, rfl, hs2, hb2⟩; have hO2 := own_later hO.out hb2; obtain ⟨A3, c3, w4, hrun, hown, hgrow⟩ := run_append_any (P := Tryz.prog) w2 W.heap.size 29 29 31 i0 (.agg #[.int .i64 0, .int .i64 0, .int .i64 0, .int .i64 0, .bool false, .int .u64 0, .slice none 0 0, .string ⟨#[]⟩, .slice none 0 0]) 9 112 Tryz.underlying29 hi0 hz0 hz1 hz2 rfl (by decide) _ ds.length (ds.flatMap Tr.row) hO2 _ ls.length (ls.flatMap Tr.row) hs2 HON.out (by unfold maxLen; omega) (by omega) (bstep hb.out hb2).size (ds ++ ls).length ((ds ++ ls).flatMap Tr.row) (List.length_append).symm (List.flatMap_append).symm; have HOW := Lib.hid hown; have HBW := Lib.hid ((bstep hb.out hb2).grown hgrow (bstep hb.out hb2).size (fun j e => (hO2.lt j e).1)); clear hO2 hown hgrow hs2) | (at_builtin; refine wpList_append_run rfl _ _ _ rfl rfl rfl hrun ?_))
        go_roundg (ks.length - (i + 1))
        case rel =>
          refine ⟨i + 1, by omega, rfl, by go_num, Lib.hid ?_, HBW⟩
          have h := HOW.out
          rw [HTK.out]
          rw [List.length_append] at h ⊢
          exact h
        case measure => omega
      · have g1 : ¬ (i : Int) < (ks.length : Int) := by omega
        have htk : ks.take i = ks := List.take_of_length_le (by omega)
        rw [htk] at hO
        obtain ⟨A, c, rfl⟩ := own_form hO.out
        clear HE HI HX HB htk
        go_wp2
        go_ret
        exact ⟨A, c, rfl, Sl.of_own hO.out, hBw⟩
end Go.Proofs.YtdoioaeppepndaaGreatDoor
namespace Go.Proofs.YtdoioaeppepndaaGreatDoor
open Go.RowKit
open A8 Tk7

set_option maxRecDepth 100000 in
theorem rDepth_any (T : Tr) (w : World) (hT : TrW w T) (hn : nodesN T.nd ≤ 1000000) :
    Calls Tryz.prog 79 #[.agg T.row.toArray] w fun e w' => e = .returned (.tuple #[.int .i64 ((if soundN 1 T.nd = true then depthN T.nd else 0 : Nat) : Int), .int .i64 (soundE T.nd)]) ∧ Below w.heap.size w w' := by
  have hS := fun w1 (hb : Below w.heap.size w w1) => rSound_any T w1 (hT.later hb)
  have hD := fun w1 (hb : Below w.heap.size w w1) => rdepth_any T w1 (hT.later hb) hn
  have hse : soundE T.nd = if soundN 1 T.nd = true then 0 else 3 := rfl
  rw [hse] at hS ⊢
  have hbx : ∀ w1, Below (w.alloc (.cells T.row.toArray 31)).heap.size (w.alloc (.cells T.row.toArray 31)) w1 → Blk w1 w.heap.size T.row := fun w1 hb => (Blk.new w _ _).later hb
  obtain ⟨r, hr⟩ : ∃ r, r = soundN 1 T.nd := ⟨_, rfl⟩
  obtain ⟨D, hDD⟩ : ∃ D, D = depthN T.nd := ⟨_, rfl⟩
  rw [← hr] at hS ⊢
  rw [← hDD] at hD ⊢
  clear hse hr hDD hT hn
  obtain ⟨k, mn, mx, ⟨⟨kd, bd, bn, cs, nm⟩, sc⟩, sk, ks⟩ := T
  simp only [Tr.row] at hS hD hbx ⊢
  have HS := Lib.hid hS
  have HD := Lib.hid hD
  have HX := Lib.hid hbx
  clear hS hD hbx
  cases r with
  | true =>
    go_enter Tryz.func79, Tryz.ntmps79
    go_wp2_with (first | (go_at_call 114; refine (HS.out _ (b1 _ _)).mono ?_; rintro e w2 ⟨rfl, hb2⟩; have hB := HX.out _ hb2; have HB := Lib.hid (bstep (b1 _ _) hb2); have c0 := hB.cell 0 _ rfl; have c1 := hB.cell 1 _ rfl; have c2 := hB.cell 2 _ rfl; have c3 := hB.cell 3 _ rfl; have c4 := hB.cell 4 _ rfl; have c5 := hB.cell 5 _ rfl; have c6 := hB.cell 6 _ rfl; have c7 := hB.cell 7 _ rfl; have c8 := hB.cell 8 _ rfl; clear hB hb2) | (go_at_call 115; refine (HD.out _ HB.out).mono ?_; rintro e w3 ⟨rfl, hb3⟩))
    go_ret2
    exact ⟨rfl, bstep HB.out hb3⟩
  | false =>
    go_enter Tryz.func79, Tryz.ntmps79
    go_wp2_with (go_at_call 114; refine (HS.out _ (b1 _ _)).mono ?_; rintro e w2 ⟨rfl, hb2⟩)
    go_ret2
    exact ⟨rfl, bstep (b1 _ _) hb2⟩
end Go.Proofs.YtdoioaeppepndaaGreatDoor
