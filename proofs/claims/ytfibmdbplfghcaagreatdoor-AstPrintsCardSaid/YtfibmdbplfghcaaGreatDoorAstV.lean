/- Walk: whether a pattern has few nodes. -/
import Derived.Test.YtfibmdbplfghcaaGreatDoorAstMem
import Derived.Test.YtfibmdbplfghcaaGreatDoorProg
import Derived.Outline
import Derived.Deep.LoopGhost
import Derived.BigQuiet
import Derived.Handy
namespace Go.Proofs.YtfibmdbplfghcaaGreatDoor.A8
mutual
/-- How many nodes are left. -/
def fewN : Int → Int → Nd → Int
  | left, d, .mk _ _ _ a ks => if left - 1 < 0 ∨ 210 < d ∨ 20 < a.cs.length ∨ 30 < a.nm.length then -1 else fewL (left - 1) (d + 1) ks
def fewL : Int → Int → List Nd → Int
  | left, _, [] => left
  | left, d, n :: ns => if left < 0 then left else fewL (fewN left d n) d ns
end
theorem fewL_neg {left d : Int} (h : left < 0) (ns : List Nd) : fewL left d ns = left := by
  cases ns with
  | nil => rfl
  | cons n ns => rw [fewL, if_pos h]
theorem fewN_le (n : Nd) : ∀ left d : Int, 0 ≤ left → fewN left d n ≤ left ∧ -1 ≤ fewN left d n := by
  refine Nd.ind (P := fun n => ∀ left d : Int, 0 ≤ left → fewN left d n ≤ left ∧ -1 ≤ fewN left d n) (fun k mn mx a ks ih => ?_) n
  intro left d h0
  rw [fewN]
  split
  · omega
  · rename_i hc
    have hl : ∀ (l : List Nd), (∀ t ∈ l, ∀ left d : Int, 0 ≤ left → fewN left d t ≤ left ∧ -1 ≤ fewN left d t) → ∀ L d : Int, -1 ≤ L → fewL L d l ≤ L ∧ -1 ≤ fewL L d l := fun l => by
      induction l with
      | nil => intro _ L d h; rw [fewL]; omega
      | cons t ts iht =>
        intro hl L d h
        rw [fewL]
        split
        · omega
        · have h1 := hl t (by simp) L d (by omega)
          have h2 := iht (fun u hu => hl u (by simp [hu])) (fewN L d t) d h1.2
          omega
    have := hl ks ih (left - 1) (d + 1) (by omega)
    omega
end Go.Proofs.YtfibmdbplfghcaaGreatDoor.A8
namespace Go.Proofs.YtfibmdbplfghcaaGreatDoor
open Go.RowKit
open A8
set_option maxRecDepth 100000 in
set_option maxHeartbeats 4000000 in
theorem few_out (left d : Int) (k mn mx kd : Int) (bd : Bool) (bn : Int) (A : Option Addr) (m c : Nat) (nm : ByteArray) (sk : Value) (w : World) (h0 : 0 ≤ left ∧ left ≤ 1000)
    (h : left - 1 < 0 ∨ 210 < d ∨ 20 < m ∨ 30 < nm.size) :
    Calls Tryz.prog 20 #[.agg #[.int .i64 k, .int .i64 mn, .int .i64 mx, .int .i64 kd, .bool bd, .int .u64 bn, .slice A m c, .string nm, sk], .int .i64 left, .int .i64 d] w fun e w' => e = .returned (.int .i64 (-1)) ∧ Below w.heap.size w w' := by
  have hw : IntKind.i64.wrap (left - 1) = left - 1 := IntWalk.i64_in _ ⟨by omega, by omega⟩
  by_cases h1 : left - 1 < 0
  · clear h
    go_enter Tryz.func20, Tryz.ntmps20
    go_wp2
    go_ret
    exact ⟨rfl, b1 _ _⟩
  · by_cases h2 : 210 < d
    · clear h
      go_enter Tryz.func20, Tryz.ntmps20
      go_wp2
      go_ret
      exact ⟨rfl, b1 _ _⟩
    · by_cases h3 : (20 : Int) < (m : Int)
      · clear h
        go_enter Tryz.func20, Tryz.ntmps20
        go_wp2
        go_ret
        exact ⟨rfl, b1 _ _⟩
      · have h4 : (30 : Int) < (nm.size : Int) := by omega
        clear h
        go_enter Tryz.func20, Tryz.ntmps20
        go_wp2
        go_ret
        exact ⟨rfl, b1 _ _⟩
set_option maxRecDepth 100000 in
set_option maxHeartbeats 8000000 in
theorem few_in (left d : Int) (k mn mx kd : Int) (bd : Bool) (bn : Int) (A : Option Addr) (m c : Nat) (nm : ByteArray) (sk : Value) (ks : List Tr) (w : World) (h0 : 0 ≤ left ∧ left ≤ 1000) (hd : 0 ≤ d)
    (hsl : Sl w 9 ks.length sk (ks.flatMap Tr.row))
    (h : ¬ (left - 1 < 0 ∨ 210 < d ∨ 20 < m ∨ 30 < nm.size))
    (ih : ∀ t ∈ ks, ∀ (left d : Int) (w1 : World), Below w.heap.size w w1 → 0 ≤ left ∧ left ≤ 1000 → 0 ≤ d → Calls Tryz.prog 20 #[.agg t.row.toArray, .int .i64 left, .int .i64 d] w1 fun e w' => e = .returned (.int .i64 (fewN left d t.nd)) ∧ Below w1.heap.size w1 w') :
    Calls Tryz.prog 20 #[.agg #[.int .i64 k, .int .i64 mn, .int .i64 mx, .int .i64 kd, .bool bd, .int .u64 bn, .slice A m c, .string nm, sk], .int .i64 left, .int .i64 d] w fun e w' => e = .returned (.int .i64 (fewL (left - 1) (d + 1) (ks.map Tr.nd))) ∧ Below w.heap.size w w' := by
  have hw : IntKind.i64.wrap (left - 1) = left - 1 := IntWalk.i64_in _ ⟨by omega, by omega⟩
  have hwd : IntKind.i64.wrap (d + 1) = d + 1 := IntWalk.i64_in _ ⟨by omega, by omega⟩
  have h1 : ¬ left - 1 < 0 := by omega
  have h2 : ¬ 210 < d := by omega
  have h3 : ¬ (20 : Int) < (m : Int) := by omega
  have h4 : ¬ (30 : Int) < (nm.size : Int) := by omega
  obtain ⟨B, e, rfl, hm, hels⟩ := sl_els (by decide) row_len hsl
  obtain ⟨W, hWW⟩ : ∃ W, W = w.alloc (.cells #[.int .i64 k, .int .i64 mn, .int .i64 mx, .int .i64 kd, .bool bd, .int .u64 bn, .slice A m c, .string nm, .slice B ks.length e] 28) := ⟨_, rfl⟩
  have hb1 : Below w.heap.size w W := hWW ▸ b1 _ _
  have hBx : Blk W w.heap.size [.int .i64 k, .int .i64 mn, .int .i64 mx, .int .i64 kd, .bool bd, .int .u64 bn, .slice A m c, .string nm, .slice B ks.length e] := hWW ▸ Blk.new w _ _
  have HE := Lib.hid hels
  have HI := Lib.hid ih
  have HX := Lib.hid hBx
  have HB := Lib.hid hb1
  clear h hels ih hsl hBx hb1
  have hl0 : -1 ≤ left - 1 ∧ left - 1 ≤ 1000 := by omega
  go_enter Tryz.func20, Tryz.ntmps20
  go_wp2
  rw [← hWW]
  go_loopg [1, 7] ks.length (fun gh lv iv wr => ∃ (i : Nat) (L : Int), i ≤ ks.length ∧ gh = ks.length - i ∧ lv = .int .i64 L ∧ iv = .int .i64 (i : Int) ∧ (-1 ≤ L ∧ L ≤ 1000) ∧ Hid (fewL (left - 1) (d + 1) (ks.map Tr.nd) = fewL L (d + 1) ((ks.drop i).map Tr.nd)) ∧ Hid (Below W.heap.size W wr))
  case atStart => exact ⟨0, left - 1, Nat.zero_le _, rfl, rfl, rfl, hl0, Lib.hid rfl, Lib.hid (Below.refl _ _)⟩
  case round =>
    obtain ⟨i, L, hi, hg, rfl, rfl, hL, hF, hb⟩ := hrel
    have c8 := (HX.out.later hb.out).cell 8 _ rfl
    have hBw := bstep HB.out hb.out
    by_cases hlt : i < ks.length
    · have g1 : (i : Int) < (ks.length : Int) := by omega
      by_cases hneg : L < 0
      · have g2 : ¬ 0 ≤ L := by omega
        have hR := Lib.hid (show fewL (left - 1) (d + 1) (ks.map Tr.nd) = L by rw [hF.out, fewL_neg hneg])
        clear HE HI HX HB hF
        go_wp2
        go_ret
        exact ⟨by rw [hR.out]; rfl, hBw⟩
      · have g2 : 0 ≤ L := by omega
        obtain ⟨a, rfl, ha, E⟩ := HE.out i hlt
        have hst : fewL L (d + 1) ((ks.drop i).map Tr.nd) = fewL (fewN L (d + 1) (ks[i]).nd) (d + 1) ((ks.drop (i + 1)).map Tr.nd) := by
          rw [List.drop_eq_getElem_cons hlt, List.map_cons, fewL, if_neg hneg]
        have hq := HI.out ks[i] (List.getElem_mem hlt) L (d + 1) wr hBw ⟨g2, hL.2⟩ (by omega)
        have hfl := fewN_le (ks[i]).nd L (d + 1) g2
        obtain ⟨t, ht⟩ : ∃ t, t = ks[i] := ⟨_, rfl⟩
        rw [← ht] at E hst hq hfl
        obtain ⟨R, hR⟩ : ∃ R, R = fewN L (d + 1) t.nd := ⟨_, rfl⟩
        rw [← hR] at hst hq hfl
        have hF2 := Lib.hid (show fewL (left - 1) (d + 1) (ks.map Tr.nd) = fewL R (d + 1) ((ks.drop (i + 1)).map Tr.nd) by rw [hF.out, hst])
        replace E := E.later hBw
        clear ht hR hst hF
        obtain ⟨k', mn', mx', ⟨⟨kd', bd', bn', cs', nm'⟩, sc'⟩, sk', ks'⟩ := t
        simp only [Tr.row] at E hq
        have e0 := E.at0 _ rfl
        have e1 := E.at1 1 _ (by decide) rfl
        have e2 := E.at1 2 _ (by decide) rfl
        have e3 := E.at1 3 _ (by decide) rfl
        have e4 := E.at1 4 _ (by decide) rfl
        have e5 := E.at1 5 _ (by decide) rfl
        have e6 := E.at1 6 _ (by decide) rfl
        have e7 := E.at1 7 _ (by decide) rfl
        have e8 := E.at1 8 _ (by decide) rfl
        have hwk : IntKind.i64.wrap ((i : Int) + 1) = (i : Int) + 1 := IntWalk.i64_in _ ⟨by omega, by omega⟩
        clear E HE HI HX HB
        go_wp2_with (go_at_call 20; refine hq.mono ?_; rintro e w2 ⟨rfl, hb2⟩)
        go_roundg (ks.length - (i + 1))
        case rel => exact ⟨i + 1, R, by omega, rfl, rfl, by go_num, ⟨hfl.2, by omega⟩, hF2, Lib.hid (bstep hb.out hb2)⟩
        case measure => omega
    · have g1 : ¬ (i : Int) < (ks.length : Int) := by omega
      have hR := Lib.hid (show fewL (left - 1) (d + 1) (ks.map Tr.nd) = L by rw [hF.out, List.drop_eq_nil_of_le (by omega), List.map_nil, fewL])
      clear HE HI HX HB hF
      go_wp2
      go_ret
      exact ⟨by rw [hR.out]; rfl, hBw⟩
theorem few_any (T : Tr) : ∀ (left d : Int) (w : World), TrW w T → 0 ≤ left ∧ left ≤ 1000 → 0 ≤ d →
    Calls Tryz.prog 20 #[.agg T.row.toArray, .int .i64 left, .int .i64 d] w fun e w' => e = .returned (.int .i64 (fewN left d T.nd)) ∧ Below w.heap.size w w' := by
  refine Tr.ind (P := fun T => ∀ (left d : Int) (w : World), TrW w T → 0 ≤ left ∧ left ≤ 1000 → 0 ≤ d →
    Calls Tryz.prog 20 #[.agg T.row.toArray, .int .i64 left, .int .i64 d] w fun e w' => e = .returned (.int .i64 (fewN left d T.nd)) ∧ Below w.heap.size w w') (fun k mn mx g sk ks ih => ?_) T
  intro left d w hT h0 hd
  obtain ⟨-, ⟨-, hsc⟩, hsl⟩ := hT.one
  obtain ⟨⟨kd, bd, bn, cs, nm⟩, sc⟩ := g
  simp only at hsc
  obtain ⟨A, c, rfl, -, -⟩ := sl_get (by decide) hsc
  have hsz : (strOf nm).size = nm.length := by simp [strOf, ByteArray.size]
  rw [nd_mk, fewN]
  simp only [Tr.row]
  by_cases h : left - 1 < 0 ∨ 210 < d ∨ 20 < cs.length ∨ 30 < nm.length
  · rw [if_pos h]
    exact few_out left d k mn mx kd bd bn A _ c (strOf nm) sk w h0 (by rw [hsz]; exact h)
  · rw [if_neg h]
    exact few_in left d k mn mx kd bd bn A _ c (strOf nm) sk ks w h0 hd hsl (by rw [hsz]; exact h) (fun t ht left d w1 hb h1 h2 => ih t ht left d w1 ((hT.kid ht).later hb) h1 h2)
end Go.Proofs.YtfibmdbplfghcaaGreatDoor
