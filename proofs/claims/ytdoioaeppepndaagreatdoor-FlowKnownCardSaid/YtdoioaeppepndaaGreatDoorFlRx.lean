/- Package flow: Restrict; small queries. -/
import Derived.Test.YtdoioaeppepndaaGreatDoorFlRn
import Derived.Test.YtdoioaeppepndaaGreatDoorFlAx
import Derived.Deep.CutBlock
import Derived.Deep.DeepCutAuto
import Derived.Deep.RegionWith
import Derived.Laws.EntriesVeiled
import Derived.Deep.RegionHeld3
import Derived.Test.YtdoioaeppepndaaGreatDoorFlMx
import Derived.Test.YtdoioaeppepndaaGreatDoorKitQw
import Derived.Test.YtdoioaeppepndaaGreatDoorWfPx
import Derived.Test.YtdoioaeppepndaaGreatDoorParSk
namespace Go.Proofs.YtdoioaeppepndaaGreatDoor
open Go.RowKit Go.Shelf
open A8 Tk7 P9 W10 Lb F11
attribute [local go_sem] Oper.semAt_some

/-- What Restrict does to the atom of a node in its box. -/
def ResAt (w : World) (b : Nat) (y : Int) (e : Ending) (w' : World) : Prop := (∃ v, e = .returned v) ∧ ∃ w2, Below w.heap.size w w2 ∧ w' = (w2.setCell ⟨b, 5, none⟩ (.int .u64 y)).setCell ⟨b, 4, none⟩ (.bool true)
set_option maxRecDepth 100000 in
set_option maxHeartbeats 8000000 in
theorem restrict1_any (b clb : Nat) (x0 x1 x2 x8 : Value) (kd : Int) (bd : Bool) (bn : Int) (B : Option Addr) (p q : Nat) (nm : List UInt8) (cs : List Cn) (c : Int) (w : World) (hB : Blk w b [x0, x1, x2, .int .i64 kd, .bool bd, .int .u64 bn, .slice B p q, .string (strOf nm), x8]) (hc : Blk w clb [.int .u64 c]) :
    Calls Tryz.prog 54 #[.pointer (some ⟨b, 3, none⟩), .pointer (some ⟨clb, 0, none⟩)] w (ResAt w b (atR c ⟨kd, bd, bn, cs, nm⟩)) := by
  have hA := fun w1 => atom_any ⟨⟨kd, bd, bn, cs, nm⟩, .slice B p q⟩ c w1
  simp only [gaC] at hA
  obtain ⟨y, hy⟩ : ∃ y, y = atR c ⟨kd, bd, bn, cs, nm⟩ := ⟨_, rfl⟩
  rw [← hy] at hA ⊢
  clear hy
  have HA := Lib.hid hA
  have HK := Lib.hid hB
  have q3 := hB.cell 3 _ rfl
  have q4 := hB.cell 4 _ rfl
  have q5 := hB.cell 5 _ rfl
  have q6 := hB.cell 6 _ rfl
  have q7 := hB.cell 7 _ rfl
  have r0 := hc.cell 0 _ rfl
  have qlt := hB.lt
  clear hA hB hc
  go_enter Tryz.func54, Tryz.ntmps54
  go_region_with (go_at_call 55; with_reducible refine (HA.out _).mono ?_; rintro e wa ⟨rfl, hba⟩; (first | (have hbw : Below w.heap.size w wa := hba) | (have hbw : Below w.heap.size w wa := drewB hba) | (have hbw : Below w.heap.size w wa := drewB (drewB hba)) | (have hbw : Below w.heap.size w wa := drewB (drewB (drewB hba)))); have hKa := HK.out.later hbw; have p4 := hKa.cell 4 _ rfl; have p5 := hKa.cell 5 _ rfl; have g4 := hKa.fr 4 _ rfl; have g5 := hKa.fr 5 _ rfl; have plt := hKa.lt; have HBW := Lib.hid hbw; clear hKa hba hbw)
  all_goals
    go_wp2
    go_end0
    exact ⟨⟨_, rfl⟩, _, HBW.out, rfl⟩
end Go.Proofs.YtdoioaeppepndaaGreatDoor
namespace Go.Proofs.YtdoioaeppepndaaGreatDoor
open Go.RowKit Go.Shelf
open A8 Tk7 P9 W10 Lb F11
attribute [local go_sem] Oper.semAt_some

/-- Lists short enough to be copied. -/
def Bn6 (N : Nd) : Prop := ∀ t ∈ subsN N, t.atom.cs.length ≤ 1000000 ∧ t.kids.length ≤ 1000000
theorem Bn6.kid {k mn mx : Int} {a : A8.At} {ks : List Nd} (h : Bn6 (.mk k mn mx a ks)) {n : Nd} (hn : n ∈ ks) : Bn6 n := fun t ht => h t (by rw [subsN]; exact List.mem_cons_of_mem _ (mem_subsL hn ht))
theorem ch_leaf {w wr w7 : World} {m : Nat} {k mn mx kd bn y : Int} {bd : Bool} {cs : List Cn} {nm : List UInt8} {sc v : Value} {Ks : List Tr} {c : Int} {ts : List Tr} (h : ChI w wr m [.int .i64 k, .int .i64 mn, .int .i64 mx, .int .i64 kd, .bool bd, .int .u64 bn, sc, .string (strOf nm), v] ⟨⟨kd, bd, bn, cs, nm⟩, sc⟩ v Ks c Ks.length ts) (hm : w.heap.size + 2 ≤ m) (hok : okV k ∧ okV mn ∧ okV mx) (hy : 0 ≤ y ∧ y < 18446744073709551616) (hb : Below wr.heap.size wr w7)
    {W6 : World} (hW : W6 = (w7.setCell ⟨w.heap.size, 5, none⟩ (.int .u64 y)).setCell ⟨w.heap.size, 4, none⟩ (.bool true)) :
    Blk W6 w.heap.size [.int .i64 k, .int .i64 mn, .int .i64 mx, .int .i64 kd, .bool true, .int .u64 y, sc, .string (strOf nm), v] ∧ Blk W6 (w.heap.size + 1) [.int .i64 0, .int .i64 0, .int .i64 0, .int .i64 0, .bool false, .int .u64 0, .slice none 0 0, .string ⟨#[]⟩, .slice none 0 0] ∧ Below w.heap.size w W6 ∧ OwnT m W6 k mn mx ⟨⟨kd, true, y, cs, nm⟩, sc⟩ v ts := by
  subst hW
  have h1 := h.done hok
  have h2 := ((h1.later hb).low (grown_setb _ w.heap.size 5 (.int .u64 y)) (by omega)).low (grown_setb _ w.heap.size 4 (.bool true)) (by omega)
  refine ⟨((h.blk.later hb).set 5 _).set 4 _, ((h.res.later hb).other (p := ⟨w.heap.size, 5, none⟩) (by simp) _).other (p := ⟨w.heap.size, 4, none⟩) (by simp) _, ((bstep h.bel hb).setCell (p := ⟨w.heap.size, 5, none⟩) (Nat.le_refl _) _).setCell (p := ⟨w.heap.size, 4, none⟩) (Nat.le_refl _) _, ⟨h2.ok, ?_, h2.own, h2.el⟩⟩
  exact ⟨⟨h2.atom.1.kd, hy, h2.atom.1.cs, h2.atom.1.nm⟩, h2.atom.2⟩
theorem ch_inner {w wr : World} {m : Nat} {k mn mx : Int} {R : List Value} {g : GA} {v : Value} {Ks : List Tr} {c : Int} {ts : List Tr} (h : ChI w wr m R g v Ks c Ks.length ts) (hok : okV k ∧ okV mn ∧ okV mx) {W6 : World} (hW : W6 = wr) :
    Blk W6 w.heap.size R ∧ Blk W6 (w.heap.size + 1) [.int .i64 0, .int .i64 0, .int .i64 0, .int .i64 0, .bool false, .int .u64 0, .slice none 0 0, .string ⟨#[]⟩, .slice none 0 0] ∧ Below w.heap.size w W6 ∧ OwnT m W6 k mn mx g v ts := by
  subst hW
  exact ⟨h.blk, h.res, h.bel, h.done hok⟩
/-- The end: the box is read, the result stored. -/
theorem ch_end {w W6 W8 : World} {k mn mx : Int} {g : GA} {v : Value} {ts : List Tr} (hR : Blk W6 (w.heap.size + 1) [.int .i64 0, .int .i64 0, .int .i64 0, .int .i64 0, .bool false, .int .u64 0, .slice none 0 0, .string ⟨#[]⟩, .slice none 0 0]) (hb : Below w.heap.size w W6) (hO : OwnT (w.heap.size + 2) W6 k mn mx g v ts) {v0 v1 v2 v3 v4 v5 v6 v7 v8 : Value} (hW : W8 = putB W6 (w.heap.size + 1) v0 v1 v2 v3 v4 v5 v6 v7 v8) :
    Blk W8 (w.heap.size + 1) [v0, v1, v2, v3, v4, v5, v6, v7, v8] ∧ Below w.heap.size w W8 ∧ TrW (hide (fun k => decide (k < w.heap.size)) W8) (.mk k mn mx g v ts) := by
  subst hW
  exact ⟨putB_blk hR _ _ _ _ _ _ _ _ _, putB_below hb (Nat.le_succ _) _ _ _ _ _ _ _ _ _, ((hO.low (putB_grown _ _ _ _ _ _ _ _ _ _ _) (by omega)).mono (m' := w.heap.size) (by omega)).tr⟩
theorem ch_nd {k mn mx : Int} {a : A8.At} {sc v : Value} {ks ts : List Tr} {c : Int} (hm : ts.map Tr.nd = (ks.take ks.length).map fun t => resN c t.nd) : (Tr.mk k mn mx ⟨a, sc⟩ v ts).nd = Nd.mk k mn mx a ((ks.map Tr.nd).map (resN c)) := by
  rw [List.take_length] at hm
  rw [nd_mk, hm, List.map_map]
  rfl
set_option maxRecDepth 100000 in
set_option maxHeartbeats 32000000 in
theorem changed1_any (c : Int) (hc0 : 0 ≤ c ∧ c < 18446744073709551616) (T : Tr) : ∀ (w : World) (rb cb clb : Nat), TrW w T → Bn6 T.nd → Blk w rb [.func (.func 96) #[] #[.pointer (some ⟨rb, 0, none⟩), .pointer (some ⟨cb, 0, none⟩)]] → Blk w cb [.func (.func 54) #[] #[.pointer (some ⟨clb, 0, none⟩)]] → Blk w clb [.int .u64 c] →
    Calls Tryz.prog 96 #[.agg T.row.toArray, .pointer (some ⟨rb, 0, none⟩), .pointer (some ⟨cb, 0, none⟩)] w (ChOut w (resN c T.nd)) := by
  refine Tr.ind (P := fun T => ∀ (w : World) (rb cb clb : Nat), TrW w T → Bn6 T.nd → Blk w rb [.func (.func 96) #[] #[.pointer (some ⟨rb, 0, none⟩), .pointer (some ⟨cb, 0, none⟩)]] → Blk w cb [.func (.func 54) #[] #[.pointer (some ⟨clb, 0, none⟩)]] → Blk w clb [.int .u64 c] →
    Calls Tryz.prog 96 #[.agg T.row.toArray, .pointer (some ⟨rb, 0, none⟩), .pointer (some ⟨cb, 0, none⟩)] w (ChOut w (resN c T.nd))) (fun k mn mx g sk ks ih => ?_) T
  intro w rb cb clb hT hB hRb hCb hCl
  have hB0 := hB (.mk k mn mx g.a (ks.map Tr.nd)) (by rw [nd_mk, subsN]; exact List.mem_cons_self)
  have hlen : ks.length ≤ 1000000 := by have := hB0.2; simpa [Nd.kids] using this
  have hcsl : g.a.cs.length ≤ 1000000 := hB0.1
  have hkid : ∀ t ∈ ks, Bn6 t.nd := fun t ht => by rw [nd_mk] at hB; exact hB.kid (List.mem_map_of_mem ht)
  have hih := fun (t : Tr) (ht : t ∈ ks) (w1 : World) (hb : Below w.heap.size w w1) => ih t ht w1 rb cb clb ((hT.kid ht).later hb) (hkid t ht) (hRb.later hb) (hCb.later hb) (hCl.later hb)
  have hone := hT.one
  have hrows := row_one11 (fun t ht => (hT.kid ht).one)
  have hok := hone.1
  rw [nd_mk, resN_mk]
  obtain ⟨⟨kd, bd, bn, cs, nm⟩, sc⟩ := g
  obtain ⟨-, ⟨hoa, hsc⟩, hsl⟩ := hone
  have hCC := fun w1 (hb : Below w.heap.size w w1) => clone_any sc cs w1 (hsc.later hb) hcsl
  have hCN := fun w1 (hb : Below w.heap.size w w1) => cloneNode_any sk ks w1 (hsl.later hb) hlen hrows
  obtain ⟨A1, n1, c1, rfl⟩ := sl_form hsc
  obtain ⟨A, n0, cap, rfl⟩ := sl_form hsl
  have hkr : ∀ t ∈ ks, ∃ (k2 mn2 mx2 kd2 : Int) (bd2 : Bool) (bn2 : Int) (cs2 : List Cn) (nm2 : List UInt8) (B2 : Option Addr) (p2 q2 : Nat) (D2 : Option Addr) (m2 e2 : Nat) (ks2 : List Tr), t = .mk k2 mn2 mx2 ⟨⟨kd2, bd2, bn2, cs2, nm2⟩, .slice B2 p2 q2⟩ (.slice D2 m2 e2) ks2 := fun t ht => by
    have h1 := (hT.kid ht).one
    obtain ⟨k2, mn2, mx2, ⟨⟨kd2, bd2, bn2, cs2, nm2⟩, sc2⟩, sk2, ks2⟩ := t
    obtain ⟨B2, p2, q2, rfl⟩ := sl_form h1.2.1.2
    obtain ⟨D2, m2, e2, rfl⟩ := sl_form h1.2.2
    exact ⟨_, _, _, _, _, _, _, _, _, _, _, _, _, _, _, rfl⟩
  obtain ⟨X, hX⟩ : ∃ X, X = (Nd.mk k mn mx (if (ks.map Tr.nd).isEmpty = true then resA c ⟨kd, bd, bn, cs, nm⟩ else ⟨kd, bd, bn, cs, nm⟩) ((ks.map Tr.nd).map (resN c))) := ⟨_, rfl⟩
  rw [← hX]
  have HX := Lib.hid hX
  clear ih hT hB hB0 hkid hsc hsl hrows hcsl hX
  simp only [Tr.row]
  have HIH := Lib.hid hih
  have HOA := Lib.hid hoa
  have HOK := Lib.hid hok
  have HCC := Lib.hid hCC
  have HCN := Lib.hid hCN
  have HKR := Lib.hid hkr
  have HRB := Lib.hid hRb
  have HCB := Lib.hid hCb
  have HCL := Lib.hid hCl
  have HLEN := Lib.hid hlen
  have HC0 := Lib.hid hc0
  clear hih hoa hok hCC hCN hkr hRb hCb hCl hlen hc0
  go_enter Tryz.func96, Tryz.ntmps96
  go_upto_region 1 with fail
  refine named_wp ?_
  intro W1 hW1
  have hK1 : Blk W1 w.heap.size [.int .i64 k, .int .i64 mn, .int .i64 mx, .int .i64 kd, .bool bd, .int .u64 bn, .slice A1 n1 c1, .string (strOf nm), .slice A n0 cap] := by rw [hW1]; exact (Blk.new w [.int .i64 k, .int .i64 mn, .int .i64 mx, .int .i64 kd, .bool bd, .int .u64 bn, .slice A1 n1 c1, .string (strOf nm), .slice A n0 cap] 31).alloc _
  have hF1 : Blk W1 (w.heap.size + 1) [.int .i64 0, .int .i64 0, .int .i64 0, .int .i64 0, .bool false, .int .u64 0, .slice none 0 0, .string ⟨#[]⟩, .slice none 0 0] := by rw [hW1]; exact Blk.is (us := [.int .i64 0, .int .i64 0, .int .i64 0, .int .i64 0, .bool false, .int .u64 0, .slice none 0 0, .string ⟨#[]⟩, .slice none 0 0]) 31 (by simp)
  have hb1 : Below w.heap.size w W1 := by rw [hW1]; exact b2 w _ _
  have hs1 : W1.heap.size = w.heap.size + 2 := by rw [hW1]; simp
  clear hW1
  have x0 := hK1.cell 0 _ rfl
  have f0 := hK1.fr 0 _ rfl
  have x1 := hK1.cell 1 _ rfl
  have f1 := hK1.fr 1 _ rfl
  have x2 := hK1.cell 2 _ rfl
  have f2 := hK1.fr 2 _ rfl
  have x3 := hK1.cell 3 _ rfl
  have f3 := hK1.fr 3 _ rfl
  have x4 := hK1.cell 4 _ rfl
  have f4 := hK1.fr 4 _ rfl
  have x5 := hK1.cell 5 _ rfl
  have f5 := hK1.fr 5 _ rfl
  have x6 := hK1.cell 6 _ rfl
  have f6 := hK1.fr 6 _ rfl
  have x7 := hK1.cell 7 _ rfl
  have f7 := hK1.fr 7 _ rfl
  have x8 := hK1.cell 8 _ rfl
  have f8 := hK1.fr 8 _ rfl
  have xlt := hK1.lt
  have HK0 := Lib.hid hK1
  have HF0 := Lib.hid hF1
  have HB0 := Lib.hid hb1
  have HS0 := Lib.hid (show w.heap.size + 2 ≤ W1.heap.size by omega)
  clear hK1 hF1 hb1 hs1
  go_cut [] (fun wx => Hid (∃ (B : Option Addr) (q : Nat) (A' : Option Addr) (cp : Nat), ChI w wx (w.heap.size + 2) [.int .i64 k, .int .i64 mn, .int .i64 mx, .int .i64 kd, .bool bd, .int .u64 bn, .slice B cs.length q, .string (strOf nm), .slice A' ks.length cp] ⟨⟨kd, bd, bn, cs, nm⟩, .slice B cs.length q⟩ (.slice A' ks.length cp) ks c 0 []))
  case first =>
    go_region_with (first | (go_at_call 97; with_reducible refine (HCC.out _ ?_).mono ?_; (first | exact HBn.out | exact belD HBn.out | exact HB0.out | exact belD HB0.out | exact belD (belD HB0.out)); rintro e wc ⟨Ac, cc, rfl, hoc, hbc⟩; (first | ((have gc : Below wn.heap.size wn wc := (by first | exact hbc | exact drewB hbc | exact drewB (drewB hbc))); have HKc := Lib.hid (HKn.out.later gc); have HFc := Lib.hid (HFn.out.later gc); have HBc := Lib.hid (bstep HBn.out gc); have HNc := Lib.hid (own_later HNn.out gc); have HCc := Lib.hid (own_mono hoc (Nat.le_trans HS0.out (by have := HZn.out; simpa using this)))) | ((have gc : Below W1.heap.size W1 wc := (by first | exact hbc | exact drewB hbc | exact drewB (drewB hbc))); have HKc := Lib.hid (HK0.out.later gc); have HFc := Lib.hid (HF0.out.later gc); have HBc := Lib.hid (bstep HB0.out gc); have HCc := Lib.hid (own_mono hoc HS0.out))); have HZc := Lib.hid (show W1.heap.size ≤ wc.heap.size from (by first | exact gc.size | exact Nat.le_trans HZn.out gc.size)); have c6 := HKc.out.cell 6 _ rfl; have c8 := HKc.out.cell 8 _ rfl; have cy6 := HKc.out.fr 6 _ rfl; have cy8 := HKc.out.fr 8 _ rfl; have clt := HKc.out.lt; clear hoc hbc gc) | (go_at_call 98; with_reducible refine (HCN.out _ ?_).mono ?_; (first | exact HBc.out | exact belD HBc.out | exact HB0.out | exact belD HB0.out | exact belD (belD HB0.out)); rintro e wn ⟨An, cn, rfl, hon, hbn⟩; (first | ((have gn : Below wc.heap.size wc wn := (by first | exact hbn | exact drewB hbn | exact drewB (drewB hbn))); have HKn := Lib.hid (HKc.out.later gn); have HFn := Lib.hid (HFc.out.later gn); have HBn := Lib.hid (bstep HBc.out gn); have HCn := Lib.hid (own_later HCc.out gn); have HNn := Lib.hid (own_mono hon (Nat.le_trans HS0.out (by have := HZc.out; simpa using this)))) | ((have gn : Below W1.heap.size W1 wn := (by first | exact hbn | exact drewB hbn | exact drewB (drewB hbn))); have HKn := Lib.hid (HK0.out.later gn); have HFn := Lib.hid (HF0.out.later gn); have HBn := Lib.hid (bstep HB0.out gn); have HNn := Lib.hid (own_mono hon HS0.out))); have HZn := Lib.hid (show W1.heap.size ≤ wn.heap.size from (by first | exact gn.size | exact Nat.le_trans HZc.out gn.size)); have n6 := HKn.out.cell 6 _ rfl; have n8 := HKn.out.cell 8 _ rfl; have ny6 := HKn.out.fr 6 _ rfl; have ny8 := HKn.out.fr 8 _ rfl; have nlt := HKn.out.lt; clear hon hbn gn))
    all_goals
      go_wp2_with fail
      go_meet
      case rel => first
        | exact Lib.hid ⟨_, _, _, _, ch_start HOA.out HKn.out HFn.out HBn.out HCn.out HNn.out⟩
        | exact Lib.hid ⟨_, _, _, _, ch_start HOA.out HKc.out HFc.out HBc.out HCc.out HNc.out⟩
  case rest =>
  obtain ⟨B, q, A', cp, hch⟩ := hcut.out
  have HI := Lib.hid hch
  have y8 := hch.blk.cell 8 _ rfl
  have ylt := hch.blk.lt
  clear hcut hch x0 x1 x2 x3 x4 x5 x6 x7 x8 f0 f1 f2 f3 f4 f5 f6 f7 f8 xlt HK0 HF0 HB0 HCC HCN
  go_wp2
  go_loopg [20] ks.length (fun g iv wr => ∃ (j : Nat) (ts : List Tr), j ≤ ks.length ∧ g = ks.length - j ∧ iv = .int .i64 (j : Int) ∧ Hid (ChI w wr (w.heap.size + 2) [.int .i64 k, .int .i64 mn, .int .i64 mx, .int .i64 kd, .bool bd, .int .u64 bn, .slice B cs.length q, .string (strOf nm), .slice A' ks.length cp] ⟨⟨kd, bd, bn, cs, nm⟩, .slice B cs.length q⟩ (.slice A' ks.length cp) ks c j ts))
  case atStart => exact ⟨0, _, by omega, rfl, rfl, HI⟩
  case round =>
    clear HI y8 ylt
    obtain ⟨j, ts, hj, hg, rfl, HI⟩ := hrel
    have hj0 : (0 : Int) ≤ (j : Int) := by omega
    rename World => wr
    by_cases hlt : j < ks.length
    · have hjlt : (j : Int) < (ks.length : Int) := by omega
      have hwj : IntKind.i64.wrap ((j : Int) + 1) = (j : Int) + 1 := IntWalk.i64_in _ ⟨by have := HLEN.out; omega, by have := HLEN.out; omega⟩
      obtain ⟨a, rfl, HPL⟩ := HI.out.some_ (by omega)
      have hel := HI.out.kid hlt
      obtain ⟨k2, mn2, mx2, kd2, bd2, bn2, cs2, nm2, B2, p2, q2, D2, m2, e2, ks2, hT2⟩ := HKR.out ks[j] (List.getElem_mem hlt)
      have hih2 := fun w4 (hb : Below wr.heap.size wr w4) => HIH.out ks[j] (List.getElem_mem hlt) w4 (bstep HI.out.bel hb)
      obtain ⟨N2, hN2⟩ : ∃ N, N = resN c ks[j].nd := ⟨_, rfl⟩
      rw [← hN2] at hih2
      rw [hT2] at hel hih2
      simp only [Tr.row] at hel hih2
      have HN2 := Lib.hid hN2
      clear hT2 hN2
      have x0 := hel.at0 _ rfl
      have x1 := hel.at1 1 _ (by omega) rfl
      have x2 := hel.at1 2 _ (by omega) rfl
      have x3 := hel.at1 3 _ (by omega) rfl
      have x4 := hel.at1 4 _ (by omega) rfl
      have x5 := hel.at1 5 _ (by omega) rfl
      have x6 := hel.at1 6 _ (by omega) rfl
      have x7 := hel.at1 7 _ (by omega) rfl
      have x8 := hel.at1 8 _ (by omega) rfl
      have xlt := hel.lt
      have HEL := Lib.hid hel
      have y8 := HI.out.blk.cell 8 _ rfl
      have ylt := HI.out.blk.lt
      have HIH2 := Lib.hid hih2
      have HJ := Lib.hid (And.intro hj hlt)
      clear hel hih2 hj
      go_upto_region 5 with fail
      refine named_wp ?_
      intro W5 hW5
      have hK5 : Blk W5 wr.heap.size [.int .i64 k2, .int .i64 mn2, .int .i64 mx2, .int .i64 kd2, .bool bd2, .int .u64 bn2, .slice B2 p2 q2, .string (strOf nm2), .slice D2 m2 e2] := by rw [hW5]; exact Blk.new wr [.int .i64 k2, .int .i64 mn2, .int .i64 mx2, .int .i64 kd2, .bool bd2, .int .u64 bn2, .slice B2 p2 q2, .string (strOf nm2), .slice D2 m2 e2] 31
      have hb5 : Below wr.heap.size wr W5 := by rw [hW5]; exact b1 _ _
      clear hW5 x0 x1 x2 x3 x4 x5 x6 x7 x8 xlt y8 ylt
      have u0 := hK5.cell 0 _ rfl
      have u1 := hK5.cell 1 _ rfl
      have u2 := hK5.cell 2 _ rfl
      have u3 := hK5.cell 3 _ rfl
      have u4 := hK5.cell 4 _ rfl
      have u5 := hK5.cell 5 _ rfl
      have u6 := hK5.cell 6 _ rfl
      have u7 := hK5.cell 7 _ rfl
      have u8 := hK5.cell 8 _ rfl
      have ult := hK5.lt
      have r0 := (HRB.out.later (bstep HI.out.bel hb5)).cell 0 _ rfl
      have rlt := (HRB.out.later (bstep HI.out.bel hb5)).lt
      have y8 := (HI.out.blk.later hb5).cell 8 _ rfl
      have ylt := (HI.out.blk.later hb5).lt
      have HB5 := Lib.hid hb5
      clear hK5 hb5
      go_region_with (go_at_call 96; (with_reducible refine (HIH2.out _ ?_).mono ?_); (first | exact HB5.out | exact belD HB5.out | exact belD (belD HB5.out)); rintro r w4 ⟨k5, mn5, mx5, kd5, bd5, bn5, cs5, nm5, B5, p5, q5, A5, n5, c5, ks5, rfl, hn5, hb4, hT5⟩; have hb6 : Below W5.heap.size W5 w4 := (by first | exact hb4 | exact drewB hb4 | exact drewB (drewB hb4)); have hA6 := (HI.out.blk.later HB5.out).later hb6; have t8 := hA6.cell 8 _ rfl; have tlt := hA6.lt; obtain ⟨⟨u0, s0⟩, f0, ⟨u1, s1⟩, f1, ⟨u2, s2⟩, f2, ⟨u3, s3⟩, f3, ⟨u4, s4⟩, f4, ⟨u5, s5⟩, f5, ⟨u6, s6⟩, f6, ⟨u7, s7⟩, f7, ⟨u8, s8⟩, f8⟩ := put_facts11 (i := j) HPL.out (HI.out.row (bstep HB5.out hb6)) hlt (.int .i64 k5) (.int .i64 mn5) (.int .i64 mx5) (.int .i64 kd5) (.bool bd5) (.int .u64 bn5) (.slice B5 p5 q5) (.string (strOf nm5)); have slt := (HEL.out.later (bstep HB5.out hb6)).lt; have HT5 := Lib.hid hT5; have HB6 := Lib.hid hb6; have HN5 := Lib.hid hn5; clear hT5 hb6 hn5 hb4 hA6)
      all_goals (go_wp2; go_roundg (ks.length - (j + 1)); (case rel => exact ⟨j + 1, _, by have := HJ.out; omega, rfl, by go_num, Lib.hid (HI.out.step HPL.out (Nat.le_refl _) HJ.out.2 HB5.out HB6.out HT5.out (HN5.out.trans HN2.out) rfl)⟩); (case measure => have := HJ.out; omega))
    · have hjlt : ¬ (j : Int) < (ks.length : Int) := by omega
      have hje : j = ks.length := by omega
      rw [hje] at HI
      clear hje hj hg hlt
      have y8 := HI.out.blk.cell 8 _ rfl
      have ylt := HI.out.blk.lt
      have hmp := HI.out.map
      by_cases hk0 : ks.length = 0
      · have hz : ((ks.length : Int) == 0) = true := by simp [hk0]
        have hX0 : (ks.map Tr.nd).isEmpty = true := by rw [empty_dec, List.length_map, hk0]; rfl
        have hXX := HX.out
        rw [if_pos hX0] at hXX
        obtain ⟨y, hy⟩ : ∃ y, y = atR c ⟨kd, bd, bn, cs, nm⟩ := ⟨_, rfl⟩
        have hy0 : 0 ≤ y ∧ y < 18446744073709551616 := by
          rw [hy]
          unfold atR
          split
          · exact HOA.out.bn
          · exact HC0.out
        have HND := Lib.hid (show (Tr.mk k mn mx ⟨⟨kd, true, y, cs, nm⟩, .slice B cs.length q⟩ (.slice A' ks.length cp) ts).nd = X by rw [hXX, ch_nd hmp, hy]; rfl)
        have HY := Lib.hid hy0
        have hR1 := restrict1_any w.heap.size clb _ _ _ _ kd bd bn B cs.length q nm cs c wr HI.out.blk (HCL.out.later HI.out.bel)
        rw [← hy] at hR1
        have r0 := (HCB.out.later HI.out.bel).cell 0 _ rfl
        clear hk0 hX0 hXX hy hy0 hmp
        go_wp2_with fail
        refine hR1.mono ?_
        rintro r w6 ⟨⟨vv, rfl⟩, w7, hb7, hw6⟩
        clear hR1 y8 ylt r0
        have hW6 := hw6
        obtain ⟨W6, hW6e⟩ : ∃ W, W = w6 := ⟨_, rfl⟩
        rw [← hW6e]
        rw [← hW6e] at hW6
        clear hW6e hw6
        obtain ⟨hK6, hF6, hB6, hO6⟩ := ch_leaf HI.out (Nat.le_refl _) HOK.out HY.out hb7 hW6
        have y0 := hK6.cell 0 _ rfl
        have y1 := hK6.cell 1 _ rfl
        have y2 := hK6.cell 2 _ rfl
        have y3 := hK6.cell 3 _ rfl
        have y4 := hK6.cell 4 _ rfl
        have y5 := hK6.cell 5 _ rfl
        have y6 := hK6.cell 6 _ rfl
        have y7 := hK6.cell 7 _ rfl
        have y8 := hK6.cell 8 _ rfl
        have d0 := hF6.cell 0 _ rfl
        have e0 := hF6.fr 0 _ rfl
        have d1 := hF6.cell 1 _ rfl
        have e1 := hF6.fr 1 _ rfl
        have d2 := hF6.cell 2 _ rfl
        have e2 := hF6.fr 2 _ rfl
        have d3 := hF6.cell 3 _ rfl
        have e3 := hF6.fr 3 _ rfl
        have d4 := hF6.cell 4 _ rfl
        have e4 := hF6.fr 4 _ rfl
        have d5 := hF6.cell 5 _ rfl
        have e5 := hF6.fr 5 _ rfl
        have d6 := hF6.cell 6 _ rfl
        have e6 := hF6.fr 6 _ rfl
        have d7 := hF6.cell 7 _ rfl
        have e7 := hF6.fr 7 _ rfl
        have d8 := hF6.cell 8 _ rfl
        have e8 := hF6.fr 8 _ rfl
        have ylt := hK6.lt
        have dlt := hF6.lt
        have HF6 := Lib.hid hF6
        have HB6 := Lib.hid hB6
        have HO6 := Lib.hid hO6
        clear hK6 hF6 hB6 hO6 hW6
        go_wp2
        refine named_post ?_
        intro W8 hW8
        clear y0 d0 e0 y1 d1 e1 y2 d2 e2 y3 d3 e3 y4 d4 e4 y5 d5 e5 y6 d6 e6 y7 d7 e7 y8 d8 e8 ylt dlt
        have hp8 : W8 = putB W6 (w.heap.size + 1) (.int .i64 k) (.int .i64 mn) (.int .i64 mx) (.int .i64 kd) (.bool true) (.int .u64 y) (.slice B cs.length q) (.string (strOf nm)) ((.slice A' ks.length cp)) := hW8
        obtain ⟨hZ, hB8, hT8⟩ := ch_end HF6.out HB6.out HO6.out hp8
        clear hW8 hp8
        have z0 := hZ.cell 0 _ rfl
        have z1 := hZ.cell 1 _ rfl
        have z2 := hZ.cell 2 _ rfl
        have z3 := hZ.cell 3 _ rfl
        have z4 := hZ.cell 4 _ rfl
        have z5 := hZ.cell 5 _ rfl
        have z6 := hZ.cell 6 _ rfl
        have z7 := hZ.cell 7 _ rfl
        have z8 := hZ.cell 8 _ rfl
        refine bodyPost_ret (by simp [results, Tryz.results96, go_sem, z0, z1, z2, z3, z4, z5, z6, z7, z8]; try rfl) rfl ?_
        exact ⟨k, mn, mx, kd, true, y, cs, nm, B, cs.length, q, A', ks.length, cp, ts, rfl, HND.out, hB8, hT8⟩
      · have hz : ((ks.length : Int) == 0) = false := by simpa using hk0
        have hX0 : ¬ (ks.map Tr.nd).isEmpty = true := by rw [empty_dec, List.length_map]; simpa using hk0
        have hXX := HX.out
        rw [if_neg hX0] at hXX
        have HND := Lib.hid (show (Tr.mk k mn mx ⟨⟨kd, bd, bn, cs, nm⟩, .slice B cs.length q⟩ (.slice A' ks.length cp) ts).nd = X by rw [hXX, ch_nd hmp])
        obtain ⟨W6, hW6⟩ : ∃ W, W = wr := ⟨_, rfl⟩
        clear hk0 hX0 hXX hmp y8 ylt
        rw [← hW6]
        obtain ⟨hK6, hF6, hB6, hO6⟩ := ch_inner (k := k) (mn := mn) (mx := mx) HI.out HOK.out hW6
        have y0 := hK6.cell 0 _ rfl
        have y1 := hK6.cell 1 _ rfl
        have y2 := hK6.cell 2 _ rfl
        have y3 := hK6.cell 3 _ rfl
        have y4 := hK6.cell 4 _ rfl
        have y5 := hK6.cell 5 _ rfl
        have y6 := hK6.cell 6 _ rfl
        have y7 := hK6.cell 7 _ rfl
        have y8 := hK6.cell 8 _ rfl
        have d0 := hF6.cell 0 _ rfl
        have e0 := hF6.fr 0 _ rfl
        have d1 := hF6.cell 1 _ rfl
        have e1 := hF6.fr 1 _ rfl
        have d2 := hF6.cell 2 _ rfl
        have e2 := hF6.fr 2 _ rfl
        have d3 := hF6.cell 3 _ rfl
        have e3 := hF6.fr 3 _ rfl
        have d4 := hF6.cell 4 _ rfl
        have e4 := hF6.fr 4 _ rfl
        have d5 := hF6.cell 5 _ rfl
        have e5 := hF6.fr 5 _ rfl
        have d6 := hF6.cell 6 _ rfl
        have e6 := hF6.fr 6 _ rfl
        have d7 := hF6.cell 7 _ rfl
        have e7 := hF6.fr 7 _ rfl
        have d8 := hF6.cell 8 _ rfl
        have e8 := hF6.fr 8 _ rfl
        have ylt := hK6.lt
        have dlt := hF6.lt
        have HF6 := Lib.hid hF6
        have HB6 := Lib.hid hB6
        have HO6 := Lib.hid hO6
        clear hK6 hF6 hB6 hO6 hW6
        go_wp2
        refine named_post ?_
        intro W8 hW8
        clear y0 d0 e0 y1 d1 e1 y2 d2 e2 y3 d3 e3 y4 d4 e4 y5 d5 e5 y6 d6 e6 y7 d7 e7 y8 d8 e8 ylt dlt
        have hp8 : W8 = putB W6 (w.heap.size + 1) (.int .i64 k) (.int .i64 mn) (.int .i64 mx) (.int .i64 kd) (.bool bd) (.int .u64 bn) (.slice B cs.length q) (.string (strOf nm)) ((.slice A' ks.length cp)) := hW8
        obtain ⟨hZ, hB8, hT8⟩ := ch_end HF6.out HB6.out HO6.out hp8
        clear hW8 hp8
        have z0 := hZ.cell 0 _ rfl
        have z1 := hZ.cell 1 _ rfl
        have z2 := hZ.cell 2 _ rfl
        have z3 := hZ.cell 3 _ rfl
        have z4 := hZ.cell 4 _ rfl
        have z5 := hZ.cell 5 _ rfl
        have z6 := hZ.cell 6 _ rfl
        have z7 := hZ.cell 7 _ rfl
        have z8 := hZ.cell 8 _ rfl
        refine bodyPost_ret (by simp [results, Tryz.results96, go_sem, z0, z1, z2, z3, z4, z5, z6, z7, z8]; try rfl) rfl ?_
        exact ⟨k, mn, mx, kd, bd, bn, cs, nm, B, cs.length, q, A', ks.length, cp, ts, rfl, HND.out, hB8, hT8⟩
end Go.Proofs.YtdoioaeppepndaaGreatDoor
namespace Go.Proofs.YtdoioaeppepndaaGreatDoor
open Go.RowKit Go.Shelf
open A8 Tk7 P9 W10 Lb F11
attribute [local go_sem] Oper.semAt_some

/-- A tree that lies in new memory of a later call, when a block below that is written. -/
theorem tr_end {w X W5 W8 : World} {b : Nat} {T : Tr} (hT : TrW (hide (fun k => decide (k < X.heap.size)) W5) T) (hX : w.heap.size ≤ X.heap.size) (hb : b < X.heap.size) (hg : W5.grownBy W8 (some b)) : TrW (hide (fun k => decide (k < w.heap.size)) W8) T :=
  trW_le hT (hide_le hg.size fun k hk hp => by
    simp only [decide_eq_false_iff_not] at hp ⊢
    exact ⟨by omega, hg.block k hk (fun e => by injection e with e; omega)⟩)
set_option maxRecDepth 100000 in
set_option maxHeartbeats 16000000 in
theorem changed_any (c : Int) (hc0 : 0 ≤ c ∧ c < 18446744073709551616) (T : Tr) (clb : Nat) (w : World) (hT : TrW w T) (hB : Bn6 T.nd) (hCl : Blk w clb [.int .u64 c]) :
    Calls Tryz.prog 53 #[.agg T.row.toArray, .func (.func 54) #[] #[.pointer (some ⟨clb, 0, none⟩)]] w (ChOut w (resN c T.nd)) := by
  have h1 := fun (w1 : World) (rb cb : Nat) (hb : Below w.heap.size w w1) hr hc => changed1_any c hc0 T w1 rb cb clb (hT.later hb) hB hr hc (hCl.later hb)
  have hone := hT.one
  obtain ⟨N, hN⟩ : ∃ N, N = resN c T.nd := ⟨_, rfl⟩
  rw [← hN] at h1 ⊢
  obtain ⟨k, mn, mx, ⟨⟨kd, bd, bn, cs, nm⟩, sc⟩, sk, ks⟩ := T
  obtain ⟨A1, n1, c1, rfl⟩ := sl_form hone.2.1.2
  obtain ⟨A, n0, cap, rfl⟩ := sl_form hone.2.2
  simp only [Tr.row] at h1 ⊢
  have H1 := Lib.hid h1
  clear h1 hN hT hB hone hCl hc0
  go_enter Tryz.func53, Tryz.ntmps53
  go_upto_region 2 with fail
  refine named_wp ?_
  intro W0 hW0
  have hA0 : Blk W0 w.heap.size [.int .i64 k, .int .i64 mn, .int .i64 mx, .int .i64 kd, .bool bd, .int .u64 bn, .slice A1 n1 c1, .string (strOf nm), .slice A n0 cap] := by rw [hW0]; exact (((Blk.new w [.int .i64 k, .int .i64 mn, .int .i64 mx, .int .i64 kd, .bool bd, .int .u64 bn, .slice A1 n1 c1, .string (strOf nm), .slice A n0 cap] 31).alloc _).alloc _).alloc _
  have hC0 : Blk W0 (w.heap.size + 1) [.func (.func 54) #[] #[.pointer (some ⟨clb, 0, none⟩)]] := by rw [hW0]; exact ((Blk.is (us := [.func (.func 54) #[] #[.pointer (some ⟨clb, 0, none⟩)]]) _ (by simp)).alloc _).alloc _
  have hF0 : Blk W0 (w.heap.size + 1 + 1) [.int .i64 0, .int .i64 0, .int .i64 0, .int .i64 0, .bool false, .int .u64 0, .slice none 0 0, .string ⟨#[]⟩, .slice none 0 0] := by rw [hW0]; exact (Blk.is (us := [.int .i64 0, .int .i64 0, .int .i64 0, .int .i64 0, .bool false, .int .u64 0, .slice none 0 0, .string ⟨#[]⟩, .slice none 0 0]) _ (by simp)).alloc _
  have hR0 : Blk W0 (w.heap.size + 1 + 1 + 1) [.nilFunc] := by rw [hW0]; exact Blk.is (us := [.nilFunc]) _ (by simp)
  have hb0 : Below w.heap.size w W0 := by rw [hW0]; exact (b3 w _ _ _).alloc (by simp; omega) _
  clear hW0
  obtain ⟨b, hbe⟩ : ∃ b, b = w.heap.size + 1 + 1 + 1 := ⟨_, rfl⟩
  obtain ⟨d, hde⟩ : ∃ d, d = w.heap.size + 1 + 1 := ⟨_, rfl⟩
  rw [← hbe, ← hde]
  rw [← hbe] at hR0
  rw [← hde] at hF0
  have HBE := Lib.hid (And.intro hbe hde)
  clear hbe hde
  have r0 := hR0.cell 0 _ rfl
  have rf0 := hR0.fr 0 _ rfl
  have rlt := hR0.lt
  have HH := Lib.hid (And.intro hA0 (And.intro hC0 (And.intro hF0 (And.intro hR0 hb0))))
  clear hA0 hC0 hF0 hR0 hb0
  go_upto_region 3 with fail
  refine named_wp ?_
  intro W1 hW1
  clear r0 rf0 rlt
  obtain ⟨hA0, hC0, hF0, hR0, hb0⟩ := HH.out
  have hA : Blk W1 w.heap.size [.int .i64 k, .int .i64 mn, .int .i64 mx, .int .i64 kd, .bool bd, .int .u64 bn, .slice A1 n1 c1, .string (strOf nm), .slice A n0 cap] := by rw [hW1]; exact hA0.other (p := ⟨b, 0, none⟩) (by show b ≠ w.heap.size; have := HBE.out.1; omega) _
  have hC : Blk W1 (w.heap.size + 1) [.func (.func 54) #[] #[.pointer (some ⟨clb, 0, none⟩)]] := by rw [hW1]; exact hC0.other (p := ⟨b, 0, none⟩) (by show b ≠ w.heap.size + 1; have := HBE.out.1; omega) _
  have hF : Blk W1 d [.int .i64 0, .int .i64 0, .int .i64 0, .int .i64 0, .bool false, .int .u64 0, .slice none 0 0, .string ⟨#[]⟩, .slice none 0 0] := by rw [hW1]; exact hF0.other (p := ⟨b, 0, none⟩) (by show b ≠ d; have := HBE.out; omega) _
  have hR : Blk W1 (b) [.func (.func 96) #[] #[.pointer (some ⟨b, 0, none⟩), .pointer (some ⟨w.heap.size + 1, 0, none⟩)]] := by rw [hW1]; exact hR0.set 0 _
  have hb1 : Below w.heap.size w W1 := by rw [hW1]; exact hb0.setCell (p := ⟨b, 0, none⟩) (by show w.heap.size ≤ b; have := HBE.out.1; omega) _
  have hs1 : w.heap.size + 3 < W1.heap.size := by have := hR.lt; have := HBE.out.1; omega
  clear hW1 hA0 hC0 hF0 hR0 hb0 HH
  have x0 := hA.cell 0 _ rfl
  have x1 := hA.cell 1 _ rfl
  have x2 := hA.cell 2 _ rfl
  have x3 := hA.cell 3 _ rfl
  have x4 := hA.cell 4 _ rfl
  have x5 := hA.cell 5 _ rfl
  have x6 := hA.cell 6 _ rfl
  have x7 := hA.cell 7 _ rfl
  have x8 := hA.cell 8 _ rfl
  have r0 := hR.cell 0 _ rfl
  have xlt := hA.lt
  have hcall := H1.out W1 (b) (w.heap.size + 1) hb1 hR hC
  have HF := Lib.hid hF
  have HB := Lib.hid hb1
  have HS := Lib.hid hs1
  clear hA hC hF hR hb1 hs1 H1
  go_wp2_with fail
  refine hcall.mono ?_
  rintro r w5 ⟨k5, mn5, mx5, kd5, bd5, bn5, cs5, nm5, B5, p5, q5, A5, n5, c5, ks5, rfl, hn5, hb5, hT5⟩
  clear hcall x0 x1 x2 x3 x4 x5 x6 x7 x8 r0 xlt
  have hF5 := HF.out.later hb5
  have d0 := hF5.cell 0 _ rfl
  have e0 := hF5.fr 0 _ rfl
  have d1 := hF5.cell 1 _ rfl
  have e1 := hF5.fr 1 _ rfl
  have d2 := hF5.cell 2 _ rfl
  have e2 := hF5.fr 2 _ rfl
  have d3 := hF5.cell 3 _ rfl
  have e3 := hF5.fr 3 _ rfl
  have d4 := hF5.cell 4 _ rfl
  have e4 := hF5.fr 4 _ rfl
  have d5 := hF5.cell 5 _ rfl
  have e5 := hF5.fr 5 _ rfl
  have d6 := hF5.cell 6 _ rfl
  have e6 := hF5.fr 6 _ rfl
  have d7 := hF5.cell 7 _ rfl
  have e7 := hF5.fr 7 _ rfl
  have d8 := hF5.cell 8 _ rfl
  have e8 := hF5.fr 8 _ rfl
  have dlt := hF5.lt
  have HF5 := Lib.hid hF5
  have HB5 := Lib.hid (bstep HB.out hb5)
  have HT5 := Lib.hid hT5
  have HN5 := Lib.hid hn5
  clear hF5 hb5 hT5 hn5
  go_wp2
  refine named_post ?_
  intro W8 hW8
  clear d0 e0 d1 e1 d2 e2 d3 e3 d4 e4 d5 e5 d6 e6 d7 e7 d8 e8 dlt
  have hp8 : W8 = putB w5 d (.int .i64 k5) (.int .i64 mn5) (.int .i64 mx5) (.int .i64 kd5) (.bool bd5) (.int .u64 bn5) (.slice B5 p5 q5) (.string (strOf nm5)) (.slice A5 n5 c5) := hW8
  have hg : w5.grownBy W8 (some d) := by rw [hp8]; exact putB_grown _ _ _ _ _ _ _ _ _ _ _
  have hZ : Blk W8 d [.int .i64 k5, .int .i64 mn5, .int .i64 mx5, .int .i64 kd5, .bool bd5, .int .u64 bn5, .slice B5 p5 q5, .string (strOf nm5), .slice A5 n5 c5] := by rw [hp8]; exact putB_blk HF5.out _ _ _ _ _ _ _ _ _
  have hB8 : Below w.heap.size w W8 := by rw [hp8]; exact putB_below HB5.out (by have := HBE.out.2; omega) _ _ _ _ _ _ _ _ _
  have hT8 := tr_end (w := w) HT5.out (by have := HS.out; omega) (by have := HS.out; have := HBE.out.2; omega) hg
  clear hW8 hp8 hg
  have z0 := hZ.cell 0 _ rfl
  have z1 := hZ.cell 1 _ rfl
  have z2 := hZ.cell 2 _ rfl
  have z3 := hZ.cell 3 _ rfl
  have z4 := hZ.cell 4 _ rfl
  have z5 := hZ.cell 5 _ rfl
  have z6 := hZ.cell 6 _ rfl
  have z7 := hZ.cell 7 _ rfl
  have z8 := hZ.cell 8 _ rfl
  refine bodyPost_ret (by simp [results, Tryz.results53, go_sem, z0, z1, z2, z3, z4, z5, z6, z7, z8]; try rfl) rfl ?_
  exact ⟨k5, mn5, mx5, kd5, bd5, bn5, cs5, nm5, B5, p5, q5, A5, n5, c5, ks5, rfl, HN5.out, hB8, hT8⟩
end Go.Proofs.YtdoioaeppepndaaGreatDoor
namespace Go.Proofs.YtdoioaeppepndaaGreatDoor
open Go.RowKit Go.Shelf
open A8 Tk7 P9 W10 Lb F11
attribute [local go_sem] Oper.semAt_some

/-- A query put into its box. -/
abbrev putQ (W : World) (b : Nat) (v0 v1 v2 v3 v4 v5 v6 v7 v8 v9 v10 v11 : Value) : World := ((((((((((((W.setCell ⟨b, 0, none⟩ v0).setCell ⟨b, 1, none⟩ v1).setCell ⟨b, 2, none⟩ v2).setCell ⟨b, 3, none⟩ v3).setCell ⟨b, 4, none⟩ v4).setCell ⟨b, 5, none⟩ v5).setCell ⟨b, 6, none⟩ v6).setCell ⟨b, 7, none⟩ v7).setCell ⟨b, 8, none⟩ v8).setCell ⟨b, 9, none⟩ v9).setCell ⟨b, 10, none⟩ v10).setCell ⟨b, 11, none⟩ v11)
theorem putQ_blk {W : World} {b : Nat} {x0 x1 x2 x3 x4 x5 x6 x7 x8 x9 x10 x11 : Value} (h : Blk W b [x0, x1, x2, x3, x4, x5, x6, x7, x8, x9, x10, x11]) (v0 v1 v2 v3 v4 v5 v6 v7 v8 v9 v10 v11 : Value) : Blk (putQ W b v0 v1 v2 v3 v4 v5 v6 v7 v8 v9 v10 v11) b [v0, v1, v2, v3, v4, v5, v6, v7, v8, v9, v10, v11] := ((((((((((((h.set 0 v0).set 1 v1).set 2 v2).set 3 v3).set 4 v4).set 5 v5).set 6 v6).set 7 v7).set 8 v8).set 9 v9).set 10 v10).set 11 v11)
theorem putQ_grown (W : World) (b : Nat) (v0 v1 v2 v3 v4 v5 v6 v7 v8 v9 v10 v11 : Value) : W.grownBy (putQ W b v0 v1 v2 v3 v4 v5 v6 v7 v8 v9 v10 v11) (some b) := (grown_s11 (grown_s11 (grown_s11 (grown_s11 (grown_s11 (grown_s11 (grown_s11 (grown_s11 (grown_s11 (grown_s11 (grown_s11 (grown_s11 (grown_i11 W b) 0 v0) 1 v1) 2 v2) 3 v3) 4 v4) 5 v5) 6 v6) 7 v7) 8 v8) 9 v9) 10 v10) 11 v11)
def zeroQ : Qu := ⟨.mk 0 0 0 ⟨0, false, 0, [], []⟩ [], 0, [], []⟩
def zeroG : GQ := ⟨.mk 0 0 0 ⟨⟨0, false, 0, [], []⟩, .slice none 0 0⟩ (.slice none 0 0) [], 0, .slice none 0 0, [], .slice none 0 0, []⟩
theorem zeroG_qu : zeroG.qu = zeroQ := by unfold zeroG GQ.qu zeroQ; simp only [nd_mk, List.map_nil]
theorem zeroG_qw (w : World) : QW w zeroG := by
  refine ⟨fun t ht => ?_, by show (0 : Int) ≤ 0 ∧ (0 : Int) < _; omega, Sl.nil _ _, Sl.nil _ _, (fun x hx => by cases hx), fun x hx => by cases hx⟩
  unfold zeroG at ht
  simp only [subsT, subsTL, List.mem_singleton] at ht
  subst ht
  exact ⟨⟨by unfold okV; omega, by unfold okV; omega, by unfold okV; omega⟩, ⟨⟨(show okV 0 by unfold okV; omega), by simp, (fun c hc => by cases hc), by unfold maxLen; simp⟩, Sl.nil _ _⟩, Sl.nil _ _⟩
def resE (c : Int) (q : Qu) : Qu := if wfE q = 0 then resQ c q else zeroQ
/-- What Restrict answers. -/
def OutR (w : World) (Q : Qu) (E : Int) (e : Ending) (w' : World) : Prop := ∃ G : GQ, G.qu = Q ∧ e = .returned (.tuple #[.agg G.row.toArray, .int .i64 E]) ∧ QW w' G ∧ Below w.heap.size w w'
theorem fl_bn6 {w : World} {q : GQ} (h : FlG w q) : Bn6 q.t.nd := by
  intro t ht
  rw [← subsT_nd] at ht
  obtain ⟨u, hu, rfl⟩ := List.mem_map.1 ht
  refine ⟨h.cs u hu, ?_⟩
  have h1 : ∀ v : Tr, v.nd.kids.length ≤ (subsT v).length := fun v => by
    obtain ⟨k, mn, mx, g, sk, ks⟩ := v
    rw [nd_mk, subsT, subsTL_flat]
    show (ks.map Tr.nd).length ≤ _
    rw [List.length_map, List.length_cons]
    have h2 : ∀ l : List Tr, l.length ≤ (l.flatMap subsT).length := fun l => by
      induction l with
      | nil => exact Nat.le_refl _
      | cons x l ih =>
        rw [List.flatMap_cons, List.length_append, List.length_cons]
        have : 1 ≤ (subsT x).length := by cases x; rw [subsT]; simp
        omega
    have := h2 ks
    omega
  have h2 : ∀ (T u : Tr), u ∈ subsT T → (subsT u).length ≤ (subsT T).length := fun T => by
    refine Tr.ind (P := fun T => ∀ u, u ∈ subsT T → (subsT u).length ≤ (subsT T).length) (fun k mn mx g sk ks ih => ?_) T
    intro u hu
    simp only [subsT, subsTL_flat, List.mem_cons, List.mem_flatMap] at hu
    rcases hu with rfl | ⟨t, ht, hu⟩
    · simp [subsT, subsTL_flat]
    · have h3 := ih t ht u hu
      rw [subsT, subsTL_flat, List.length_cons]
      have h4 : (subsT t).length ≤ (ks.flatMap subsT).length := by
        clear ih h3 hu
        induction ks with
        | nil => cases ht
        | cons x l ih =>
          rw [List.flatMap_cons, List.length_append]
          rcases List.mem_cons.1 ht with rfl | ht
          · omega
          · have := ih ht
            omega
      omega
  have := h1 u
  have := h2 q.t u hu
  have := h.len
  omega
/-- What stands ahead of the copies and between them. -/
structure StX (w X : World) (d : Nat) (row : List Value) (c : Int) : Prop where
  blk : Blk X w.heap.size row
  cl : Blk X (w.heap.size + 1) [.int .u64 c]
  res : Blk X d [.int .i64 0, .int .i64 0, .int .i64 0, .int .i64 0, .bool false, .int .u64 0, .slice none 0 0, .string ⟨#[]⟩, .slice none 0 0, .int .u64 0, .slice none 0 0, .slice none 0 0]
  bel : Below w.heap.size w X
theorem StX.later {w X Y : World} {d : Nat} {row : List Value} {c : Int} (h : StX w X d row c) (hb : Below X.heap.size X Y) : StX w Y d row c := ⟨h.blk.later hb, h.cl.later hb, h.res.later hb, bstep h.bel hb⟩
/-- What stands behind the copies. -/
structure RsI (w wx : World) (d b : Nat) (row : List Value) (c : Int) (wi : Int) (H E : Value) (hv : List Hv) (em : List Ag) : Prop where
  blk : Blk wx w.heap.size row
  cl : Blk wx (w.heap.size + 1) [.int .u64 c]
  res : Blk wx d [.int .i64 0, .int .i64 0, .int .i64 0, .int .i64 0, .bool false, .int .u64 0, .slice none 0 0, .string ⟨#[]⟩, .slice none 0 0, .int .u64 0, .slice none 0 0, .slice none 0 0]
  new : Blk wx b [.int .i64 0, .int .i64 0, .int .i64 0, .int .i64 0, .bool false, .int .u64 0, .slice none 0 0, .string ⟨#[]⟩, .slice none 0 0, .int .u64 wi, H, E]
  hvs : Sl wx 4 hv.length H (hv.flatMap hvC)
  ems : Sl wx 2 em.length E (em.flatMap agC)
  bel : Below w.heap.size w wx
  ne : d < b
  oh : ∀ (A : Option Addr) (p q : Nat), H = .slice A p q → ∀ a, A = some a → a.block ≠ b ∧ a.block ≠ d
  oe : ∀ (A : Option Addr) (p q : Nat), E = .slice A p q → ∀ a, A = some a → a.block ≠ b ∧ a.block ≠ d
theorem rs_alloc {w X : World} {d : Nat} {row : List Value} {c wi : Int} {A B : Option Addr} {p q r s : Nat} {hv : List Hv} {em : List Ag} (h : StX w X d row c) (hh : Sl X 4 hv.length (.slice A p q) (hv.flatMap hvC)) (he : Sl X 2 em.length (.slice B r s) (em.flatMap agC)) (oh : ∀ a, A = some a → a.block ≠ X.heap.size ∧ a.block ≠ d) (oe : ∀ a, B = some a → a.block ≠ X.heap.size ∧ a.block ≠ d) :
    RsI w (X.alloc (.cells #[.int .i64 0, .int .i64 0, .int .i64 0, .int .i64 0, .bool false, .int .u64 0, .slice none 0 0, .string ⟨#[]⟩, .slice none 0 0, .int .u64 wi, .slice A p q, .slice B r s] 35)) d X.heap.size row c wi (.slice A p q) (.slice B r s) hv em :=
  have hs := h.later (b1 X (.cells #[.int .i64 0, .int .i64 0, .int .i64 0, .int .i64 0, .bool false, .int .u64 0, .slice none 0 0, .string ⟨#[]⟩, .slice none 0 0, .int .u64 wi, .slice A p q, .slice B r s] 35))
  ⟨hs.blk, hs.cl, hs.res, Blk.new X [.int .i64 0, .int .i64 0, .int .i64 0, .int .i64 0, .bool false, .int .u64 0, .slice none 0 0, .string ⟨#[]⟩, .slice none 0 0, .int .u64 wi, .slice A p q, .slice B r s] 35, hh.later (b1 _ _), he.later (b1 _ _), hs.bel, h.res.lt, (fun A' p' q' e a ha => by cases e; exact oh a ha), fun A' p' q' e a ha => by cases e; exact oe a ha⟩
theorem blk_but {W W' : World} {b c : Nat} {us : List Value} (h : Blk W c us) (hg : W.grownBy W' (some b)) (hne : c ≠ b) : Blk W' c us := h.grown hg (fun e => hne (by cases e; rfl))
theorem sl_but11 {W W' : World} {b sz n : Nat} {A : Option Addr} {p q : Nat} {us : List Value} (h : Sl W sz n (.slice A p q) us) (hg : W.grownBy W' (some b)) (hne : ∀ a, A = some a → a.block ≠ b) : Sl W' sz n (.slice A p q) us := by
  obtain ⟨h1, h2, A', c, h3, h4, h5, h6⟩ := h
  refine ⟨h1, h2, A', c, h3, h4, h5, fun i u hu => ?_⟩
  obtain ⟨a, ha, hl, hc⟩ := h6 i u hu
  have hA : A = some a := by injection h3 with e1 e2 e3; rw [e1, ha]
  refine ⟨a, ha, Nat.lt_of_lt_of_le hl hg.size, ?_⟩
  exact (World.cell?_of_block (w := W) (a := a.add i) (by rw [add_block]; exact hg.block _ hl (fun e => hne a hA (by injection e with e)))).trans hc
theorem own_off {W : World} {base sz n b : Nat} {e : TypeId} {A : Option Addr} {p q : Nat} {us : List Value} (h : W.ownsRow base e sz (.slice A p q) n us) {d : Nat} (hb : ∀ g, (Value.slice A p q).ownBlock = some g → g ≠ b ∧ g ≠ d) : ∀ a, A = some a → a.block ≠ b ∧ a.block ≠ d := by
  rintro a rfl
  rcases h.2 with ⟨hv, _⟩ | ⟨g, cap, cur, hv, _⟩
  · cases hv
  · cases hv
    exact hb g rfl
theorem rs_set {w X : World} {d b : Nat} {row : List Value} {c wi : Int} {A B : Option Addr} {p q r s : Nat} {hv : List Hv} {em : List Ag} (h : StX w X d row c) (hn : Blk X b [.int .i64 0, .int .i64 0, .int .i64 0, .int .i64 0, .bool false, .int .u64 0, .slice none 0 0, .string ⟨#[]⟩, .slice none 0 0, .int .u64 0, .slice none 0 0, .slice none 0 0]) (hd : d < b) (hw : w.heap.size + 1 < d) (hh : Sl X 4 hv.length (.slice A p q) (hv.flatMap hvC)) (he : Sl X 2 em.length (.slice B r s) (em.flatMap agC)) (hA : ∀ a, A = some a → a.block ≠ b ∧ a.block ≠ d) (hB : ∀ a, B = some a → a.block ≠ b ∧ a.block ≠ d) :
    RsI w (putQ X b (.int .i64 0) (.int .i64 0) (.int .i64 0) (.int .i64 0) (.bool false) (.int .u64 0) (.slice none 0 0) (.string ⟨#[]⟩) (.slice none 0 0) (.int .u64 wi) (.slice A p q) (.slice B r s)) d b row c wi (.slice A p q) (.slice B r s) hv em := by
  have hg := putQ_grown X b (.int .i64 0) (.int .i64 0) (.int .i64 0) (.int .i64 0) (.bool false) (.int .u64 0) (.slice none 0 0) (.string ⟨#[]⟩) (.slice none 0 0) (.int .u64 wi) (.slice A p q) (.slice B r s)
  exact ⟨blk_but h.blk hg (by omega), blk_but h.cl hg (by omega), blk_but h.res hg (by omega), putQ_blk hn (.int .i64 0) (.int .i64 0) (.int .i64 0) (.int .i64 0) (.bool false) (.int .u64 0) (.slice none 0 0) (.string ⟨#[]⟩) (.slice none 0 0) (.int .u64 wi) (.slice A p q) (.slice B r s), sl_but11 hh hg (fun a ha => (hA a ha).1), sl_but11 he hg (fun a ha => (hB a ha).1), h.bel.grown hg h.bel.size (fun k e => by injection e with e; omega), hd, (fun A' p' q' e a ha => by cases e; exact hA a ha), fun A' p' q' e a ha => by cases e; exact hB a ha⟩
theorem tr_keep {m b : Nat} {W W' : World} {T : Tr} (hT : TrW (hide (fun k => decide (k < m)) W) T) (hb : b < m) (hg : W.grownBy W' (some b)) : TrW (hide (fun k => decide (k < m)) W') T :=
  trW_le hT (hide_le hg.size fun k hk hp => by
    simp only [decide_eq_false_iff_not] at hp ⊢
    exact ⟨hp, hg.block k hk (fun e => by injection e with e; omega)⟩)
theorem rs_fin {w wx w5 W6 W8 : World} {d b : Nat} {row : List Value} {c wi : Int} {A B : Option Addr} {p q r s : Nat} {hv : List Hv} {em : List Ag} {k mn mx : Int} {g : GA} {v : Value} {ks : List Tr} (h : RsI w wx d b row c wi (.slice A p q) (.slice B r s) hv em) (hb5 : Below wx.heap.size wx w5) (hg6 : w5.grownBy W6 (some b)) (hg8 : W6.grownBy W8 (some d)) (hd : w.heap.size ≤ d)
    (hT : TrW (hide (fun k => decide (k < wx.heap.size)) w5) (.mk k mn mx g v ks)) (hok : (∀ x ∈ hv, okC x.cn ∧ okV x.ag.fn) ∧ ∀ x ∈ em, okV x.fn) :
    (0 ≤ wi ∧ wi < 18446744073709551616 → QW W8 ⟨.mk k mn mx g v ks, wi, .slice A p q, hv, .slice B r s, em⟩) ∧ Below w.heap.size w W8 := by
  have hlb := h.new.lt
  have hld := h.res.lt
  have hne := h.ne
  refine ⟨fun hwi => ⟨?_, hwi, ?_, ?_, hok.1, hok.2⟩, ?_⟩
  · exact trW_le (tr_keep (tr_keep hT hlb hg6) hld hg8) (hide_out (Nat.le_refl _) fun _ _ _ => rfl)
  · exact sl_but11 (sl_but11 (h.hvs.later hb5) hg6 fun a ha => (h.oh _ _ _ rfl a ha).1) hg8 fun a ha => (h.oh _ _ _ rfl a ha).2
  · exact sl_but11 (sl_but11 (h.ems.later hb5) hg6 fun a ha => (h.oe _ _ _ rfl a ha).1) hg8 fun a ha => (h.oe _ _ _ rfl a ha).2
  · have h5 := bstep h.bel hb5
    have h6 := h5.grown hg6 h5.size (fun k e => by injection e with e; omega)
    exact h6.grown hg8 h6.size (fun k e => by injection e with e; omega)
set_option maxRecDepth 100000 in
set_option maxHeartbeats 32000000 in
theorem restrict_any (q : GQ) (c : Int) (w : World) (hq : FlG w q) (hG : SG w) (hc0 : 0 ≤ c ∧ c < 18446744073709551616) (hh : q.hv.length ≤ 1000000) (he : q.em.length ≤ 1000000) :
    Calls Tryz.prog 13 #[.agg q.row.toArray, .int .u64 c] w (OutR w (resE c q.qu) (wfE q.qu)) := by
  have hC := fun w1 (hb : Below w.heap.size w w1) => wcheck_any q w1 (hq.qw.later hb) hq.len (hG.later hb) hq.nu
  have hB6 := fl_bn6 hq
  have hCh := fun w1 clb (hb : Below w.heap.size w w1) hcl => changed_any c hc0 q.t clb w1 (hq.qw.tr.later hb) hB6 hcl
  have hCH := fun w1 (hb : Below w.heap.size w w1) => cloneHave_any q.sh q.hv w1 (hq.qw.hv.later hb) hh hv_one11
  have hCE := fun w1 (hb : Below w.heap.size w w1) => cloneAgg_any q.se q.em w1 (hq.qw.em.later hb) he ag_one11
  obtain ⟨X, hX⟩ : ∃ X, X = resE c q.qu := ⟨_, rfl⟩
  obtain ⟨E, hE⟩ : ∃ E, E = wfE q.qu := ⟨_, rfl⟩
  have hXX : (E = 0 → X = ⟨resN c q.t.nd, q.wi, q.hv, q.em⟩) ∧ (¬ E = 0 → X = zeroQ) := by
    rw [hX, hE]
    unfold resE
    exact ⟨fun h => by rw [if_pos h]; rfl, fun h => by rw [if_neg h]⟩
  rw [← hX, ← hE]
  rw [← hE] at hC
  have hone := hq.qw.tr.one
  have hsh := hq.qw.hv
  have hse := hq.qw.em
  have hwi := hq.qw.wi
  have hok := And.intro hq.qw.okh hq.qw.oke
  clear hX hE hq hG hh he hB6
  obtain ⟨T, wi, sh, hv, se, em⟩ := q
  simp only at hCh hCH hCE hXX hone hsh hse hwi hok
  obtain ⟨N, hN⟩ : ∃ N, N = resN c T.nd := ⟨_, rfl⟩
  rw [← hN] at hCh hXX
  clear hN
  obtain ⟨k, mn, mx, ⟨⟨kd, bd, bn, cs, nm⟩, sc⟩, sk, ks⟩ := T
  obtain ⟨A1, n1, c1, rfl⟩ := sl_form hone.2.1.2
  obtain ⟨A, n0, cap, rfl⟩ := sl_form hone.2.2
  obtain ⟨H1, h1, ch1, rfl⟩ := sl_form hsh
  obtain ⟨E1, e1, ce1, rfl⟩ := sl_form hse
  simp only [GQ.row, Tr.row, List.cons_append, List.nil_append] at hC hCh ⊢
  have HC := Lib.hid hC
  have HCH := Lib.hid hCH
  have HCE := Lib.hid hCE
  have HCh := Lib.hid hCh
  have HXX := Lib.hid hXX
  have HWI := Lib.hid (And.intro hwi hok)
  clear hone hsh hse hC hCH hCE hCh hXX hwi hok hc0
  go_enter Tryz.func13, Tryz.ntmps13
  go_upto_region 1 with fail
  refine named_wp ?_
  intro W1 hW1
  have hK1 : Blk W1 w.heap.size [.int .i64 k, .int .i64 mn, .int .i64 mx, .int .i64 kd, .bool bd, .int .u64 bn, .slice A1 n1 c1, .string (strOf nm), .slice A n0 cap, .int .u64 wi, .slice H1 h1 ch1, .slice E1 e1 ce1] := by rw [hW1]; exact ((Blk.new w [.int .i64 k, .int .i64 mn, .int .i64 mx, .int .i64 kd, .bool bd, .int .u64 bn, .slice A1 n1 c1, .string (strOf nm), .slice A n0 cap, .int .u64 wi, .slice H1 h1 ch1, .slice E1 e1 ce1] 35).alloc _).alloc _
  have hL1 : Blk W1 (w.heap.size + 1) [.int .u64 c] := by rw [hW1]; exact (Blk.is (us := [.int .u64 c]) 22 (by simp)).alloc _
  have hF1 : Blk W1 (w.heap.size + 1 + 1) [.int .i64 0, .int .i64 0, .int .i64 0, .int .i64 0, .bool false, .int .u64 0, .slice none 0 0, .string ⟨#[]⟩, .slice none 0 0, .int .u64 0, .slice none 0 0, .slice none 0 0] := by rw [hW1]; exact Blk.is (us := [.int .i64 0, .int .i64 0, .int .i64 0, .int .i64 0, .bool false, .int .u64 0, .slice none 0 0, .string ⟨#[]⟩, .slice none 0 0, .int .u64 0, .slice none 0 0, .slice none 0 0]) 35 (by simp)
  have hb1 : Below w.heap.size w W1 := by rw [hW1]; exact b3 w _ _ _
  clear hW1
  obtain ⟨d, hde⟩ : ∃ d, d = w.heap.size + 1 + 1 := ⟨_, rfl⟩
  rw [← hde]
  rw [← hde] at hF1
  have HDE := Lib.hid hde
  clear hde
  have x0 := hK1.cell 0 _ rfl
  have x1 := hK1.cell 1 _ rfl
  have x2 := hK1.cell 2 _ rfl
  have x3 := hK1.cell 3 _ rfl
  have x4 := hK1.cell 4 _ rfl
  have x5 := hK1.cell 5 _ rfl
  have x6 := hK1.cell 6 _ rfl
  have x7 := hK1.cell 7 _ rfl
  have x8 := hK1.cell 8 _ rfl
  have x9 := hK1.cell 9 _ rfl
  have x10 := hK1.cell 10 _ rfl
  have x11 := hK1.cell 11 _ rfl
  have HK1 := Lib.hid hK1
  have HL1 := Lib.hid hL1
  have HF1 := Lib.hid hF1
  have HB1 := Lib.hid hb1
  clear hK1 hL1 hF1 hb1
  go_wp2_with fail
  refine (HC.out W1 HB1.out).mono ?_
  rintro r w2 ⟨rfl, hb2⟩
  clear x0 x1 x2 x3 x4 x5 x6 x7 x8 x9 x10 x11 HC
  have hK2 := HK1.out.later hb2
  have hF2 := HF1.out.later hb2
  have HS2 := Lib.hid (StX.mk hK2 (HL1.out.later hb2) hF2 (bstep HB1.out hb2))
  clear hb2 HK1 HL1 HF1 HB1
  by_cases hz : E = 0
  · have hE0 : (E != 0) = false := by simp [hz]
    have hXe := HXX.out.1 hz
    have HX := Lib.hid hXe
    have HZ := Lib.hid hz
    clear hXe hz hF2 HXX
    have x0 := hK2.cell 0 _ rfl
    have x1 := hK2.cell 1 _ rfl
    have x2 := hK2.cell 2 _ rfl
    have x3 := hK2.cell 3 _ rfl
    have x4 := hK2.cell 4 _ rfl
    have x5 := hK2.cell 5 _ rfl
    have x6 := hK2.cell 6 _ rfl
    have x7 := hK2.cell 7 _ rfl
    have x8 := hK2.cell 8 _ rfl
    have x9 := hK2.cell 9 _ rfl
    have x10 := hK2.cell 10 _ rfl
    have x11 := hK2.cell 11 _ rfl
    have xlt := hK2.lt
    clear hK2
    have HDW := Lib.hid (show w.heap.size + 1 < d by have := HDE.out; omega)
    have na2 : ¬ w2.heap.size = w.heap.size := by omega
    have nb2 : ¬ w.heap.size = w2.heap.size := by omega
    go_upto_region 4 with fail
    go_cut [7] (fun s7 wx => ∃ b7 : Nat, s7 = .pointer (some ⟨b7, 0, none⟩) ∧ Hid (∃ (P1 : Option Addr) (q1 : Nat) (P2 : Option Addr) (q2 : Nat), RsI w wx d b7 [.int .i64 k, .int .i64 mn, .int .i64 mx, .int .i64 kd, .bool bd, .int .u64 bn, .slice A1 n1 c1, .string (strOf nm), .slice A n0 cap, .int .u64 wi, .slice H1 h1 ch1, .slice E1 e1 ce1] c wi (.slice P1 hv.length q1) (.slice P2 em.length q2) hv em))
    case first =>
      go_region_held3 (fun w' => w'.cell? ⟨w.heap.size, 9, none⟩ = some (.int .u64 wi) ∧ w'.cell? ⟨w.heap.size, 10, none⟩ = some (.slice H1 h1 ch1) ∧ w'.cell? ⟨w.heap.size, 11, none⟩ = some (.slice E1 e1 ce1)) (go_keep)
        (first | (go_at_call 51; (with_reducible refine (HCH.out _ ?_).mono ?_); (first | exact HSe.out.bel | exact belD HSe.out.bel | exact bstep HSe.out.bel (b1 _ _) | exact belD (bstep HSe.out.bel (b1 _ _)) | exact bstep HSe.out.bel (belD (b1 _ _)) | exact HS2.out.bel | exact belD HS2.out.bel | exact bstep HS2.out.bel (b1 _ _) | exact belD (bstep HS2.out.bel (b1 _ _)) | exact bstep HS2.out.bel (belD (b1 _ _))); rintro e wh ⟨Ph, ch, rfl, hoh, hbh⟩; (first | ((have gh : Below we.heap.size we wh := (by first | exact hbh | exact drewB hbh | exact drewB (drewB hbh) | exact bstep (b1 we _) hbh | exact bstep (b1 we _) (drewB hbh) | exact bstep (b1 we _) (drewB (drewB hbh)) | exact drewB (bstep (b1 we.drew _) hbh))); have HSh := Lib.hid (HSe.out.later gh); have HOeh := Lib.hid (own_later HOe.out gh); have HDh : Hid (∀ k, (Value.slice Ph (hv.length) ch).ownBlock = some k → d < k) := Lib.hid (fun k e => Nat.lt_of_lt_of_le (by have h0 := HSe.out.res.lt; first | exact h0 | (simp; omega)) (hoh.lt k e).1); (try have HNh := Lib.hid (And.intro ((Blk.new we [.int .i64 0, .int .i64 0, .int .i64 0, .int .i64 0, .bool false, .int .u64 0, .slice none 0 0, .string ⟨#[]⟩, .slice none 0 0, .int .u64 0, .slice none 0 0, .slice none 0 0] 35).later (by first | exact hbh | exact drewB hbh)) (And.intro HSe.out.res.lt hoh))); (try have HMh := Lib.hid (HNe.out.1.later gh))) | ((have gh : Below w2.heap.size w2 wh := (by first | exact hbh | exact drewB hbh | exact drewB (drewB hbh) | exact bstep (b1 w2 _) hbh | exact bstep (b1 w2 _) (drewB hbh) | exact bstep (b1 w2 _) (drewB (drewB hbh)) | exact drewB (bstep (b1 w2.drew _) hbh))); have HSh := Lib.hid (HS2.out.later gh); have HDh : Hid (∀ k, (Value.slice Ph (hv.length) ch).ownBlock = some k → d < k) := Lib.hid (fun k e => Nat.lt_of_lt_of_le (by have h0 := HS2.out.res.lt; first | exact h0 | (simp; omega)) (hoh.lt k e).1); (try have HNh := Lib.hid (And.intro ((Blk.new w2 [.int .i64 0, .int .i64 0, .int .i64 0, .int .i64 0, .bool false, .int .u64 0, .slice none 0 0, .string ⟨#[]⟩, .slice none 0 0, .int .u64 0, .slice none 0 0, .slice none 0 0] 35).later (by first | exact hbh | exact drewB hbh)) (And.intro HS2.out.res.lt hoh))))); have HOh := Lib.hid hoh; have h9 := HSh.out.blk.cell 9 _ rfl; have h10 := HSh.out.blk.cell 10 _ rfl; have h11 := HSh.out.blk.cell 11 _ rfl; have hlt := HSh.out.blk.lt; have hna : ¬ wh.heap.size = w.heap.size := (by omega); have hnb : ¬ w.heap.size = wh.heap.size := (by omega); (try (have hnh := HNh.out.1; have hn0 := hnh.cell 0 _ rfl; have hm0 := hnh.fr 0 _ rfl; have hn1 := hnh.cell 1 _ rfl; have hm1 := hnh.fr 1 _ rfl; have hn2 := hnh.cell 2 _ rfl; have hm2 := hnh.fr 2 _ rfl; have hn3 := hnh.cell 3 _ rfl; have hm3 := hnh.fr 3 _ rfl; have hn4 := hnh.cell 4 _ rfl; have hm4 := hnh.fr 4 _ rfl; have hn5 := hnh.cell 5 _ rfl; have hm5 := hnh.fr 5 _ rfl; have hn6 := hnh.cell 6 _ rfl; have hm6 := hnh.fr 6 _ rfl; have hn7 := hnh.cell 7 _ rfl; have hm7 := hnh.fr 7 _ rfl; have hn8 := hnh.cell 8 _ rfl; have hm8 := hnh.fr 8 _ rfl; have hn9 := hnh.cell 9 _ rfl; have hm9 := hnh.fr 9 _ rfl; have hn10 := hnh.cell 10 _ rfl; have hm10 := hnh.fr 10 _ rfl; have hn11 := hnh.cell 11 _ rfl; have hm11 := hnh.fr 11 _ rfl; have hnlt := hnh.lt; clear hnh)); (try (have hmh := HMh.out; have hk0 := hmh.cell 0 _ rfl; have hl0 := hmh.fr 0 _ rfl; have hk1 := hmh.cell 1 _ rfl; have hl1 := hmh.fr 1 _ rfl; have hk2 := hmh.cell 2 _ rfl; have hl2 := hmh.fr 2 _ rfl; have hk3 := hmh.cell 3 _ rfl; have hl3 := hmh.fr 3 _ rfl; have hk4 := hmh.cell 4 _ rfl; have hl4 := hmh.fr 4 _ rfl; have hk5 := hmh.cell 5 _ rfl; have hl5 := hmh.fr 5 _ rfl; have hk6 := hmh.cell 6 _ rfl; have hl6 := hmh.fr 6 _ rfl; have hk7 := hmh.cell 7 _ rfl; have hl7 := hmh.fr 7 _ rfl; have hk8 := hmh.cell 8 _ rfl; have hl8 := hmh.fr 8 _ rfl; have hk9 := hmh.cell 9 _ rfl; have hl9 := hmh.fr 9 _ rfl; have hk10 := hmh.cell 10 _ rfl; have hl10 := hmh.fr 10 _ rfl; have hk11 := hmh.cell 11 _ rfl; have hl11 := hmh.fr 11 _ rfl; have hklt := hmh.lt; clear hmh)); clear hoh hbh gh) | (go_at_call 52; (with_reducible refine (HCE.out _ ?_).mono ?_); (first | exact HSh.out.bel | exact belD HSh.out.bel | exact bstep HSh.out.bel (b1 _ _) | exact belD (bstep HSh.out.bel (b1 _ _)) | exact bstep HSh.out.bel (belD (b1 _ _)) | exact HS2.out.bel | exact belD HS2.out.bel | exact bstep HS2.out.bel (b1 _ _) | exact belD (bstep HS2.out.bel (b1 _ _)) | exact bstep HS2.out.bel (belD (b1 _ _))); rintro e we ⟨Pe, ce, rfl, hoe, hbe⟩; (first | ((have ge : Below wh.heap.size wh we := (by first | exact hbe | exact drewB hbe | exact drewB (drewB hbe) | exact bstep (b1 wh _) hbe | exact bstep (b1 wh _) (drewB hbe) | exact bstep (b1 wh _) (drewB (drewB hbe)) | exact drewB (bstep (b1 wh.drew _) hbe))); have HSe := Lib.hid (HSh.out.later ge); have HOhe := Lib.hid (own_later HOh.out ge); have HDe : Hid (∀ k, (Value.slice Pe (em.length) ce).ownBlock = some k → d < k) := Lib.hid (fun k e => Nat.lt_of_lt_of_le (by have h0 := HSh.out.res.lt; first | exact h0 | (simp; omega)) (hoe.lt k e).1); (try have HNe := Lib.hid (And.intro ((Blk.new wh [.int .i64 0, .int .i64 0, .int .i64 0, .int .i64 0, .bool false, .int .u64 0, .slice none 0 0, .string ⟨#[]⟩, .slice none 0 0, .int .u64 0, .slice none 0 0, .slice none 0 0] 35).later (by first | exact hbe | exact drewB hbe)) (And.intro HSh.out.res.lt hoe))); (try have HMe := Lib.hid (HNh.out.1.later ge))) | ((have ge : Below w2.heap.size w2 we := (by first | exact hbe | exact drewB hbe | exact drewB (drewB hbe) | exact bstep (b1 w2 _) hbe | exact bstep (b1 w2 _) (drewB hbe) | exact bstep (b1 w2 _) (drewB (drewB hbe)) | exact drewB (bstep (b1 w2.drew _) hbe))); have HSe := Lib.hid (HS2.out.later ge); have HDe : Hid (∀ k, (Value.slice Pe (em.length) ce).ownBlock = some k → d < k) := Lib.hid (fun k e => Nat.lt_of_lt_of_le (by have h0 := HS2.out.res.lt; first | exact h0 | (simp; omega)) (hoe.lt k e).1); (try have HNe := Lib.hid (And.intro ((Blk.new w2 [.int .i64 0, .int .i64 0, .int .i64 0, .int .i64 0, .bool false, .int .u64 0, .slice none 0 0, .string ⟨#[]⟩, .slice none 0 0, .int .u64 0, .slice none 0 0, .slice none 0 0] 35).later (by first | exact hbe | exact drewB hbe)) (And.intro HS2.out.res.lt hoe))))); have HOe := Lib.hid hoe; have e9 := HSe.out.blk.cell 9 _ rfl; have e10 := HSe.out.blk.cell 10 _ rfl; have e11 := HSe.out.blk.cell 11 _ rfl; have elt := HSe.out.blk.lt; have ena : ¬ we.heap.size = w.heap.size := (by omega); have enb : ¬ w.heap.size = we.heap.size := (by omega); (try (have hne := HNe.out.1; have en0 := hne.cell 0 _ rfl; have em0 := hne.fr 0 _ rfl; have en1 := hne.cell 1 _ rfl; have em1 := hne.fr 1 _ rfl; have en2 := hne.cell 2 _ rfl; have em2 := hne.fr 2 _ rfl; have en3 := hne.cell 3 _ rfl; have em3 := hne.fr 3 _ rfl; have en4 := hne.cell 4 _ rfl; have em4 := hne.fr 4 _ rfl; have en5 := hne.cell 5 _ rfl; have em5 := hne.fr 5 _ rfl; have en6 := hne.cell 6 _ rfl; have em6 := hne.fr 6 _ rfl; have en7 := hne.cell 7 _ rfl; have em7 := hne.fr 7 _ rfl; have en8 := hne.cell 8 _ rfl; have em8 := hne.fr 8 _ rfl; have en9 := hne.cell 9 _ rfl; have em9 := hne.fr 9 _ rfl; have en10 := hne.cell 10 _ rfl; have em10 := hne.fr 10 _ rfl; have en11 := hne.cell 11 _ rfl; have em11 := hne.fr 11 _ rfl; have enlt := hne.lt; clear hne)); (try (have hme := HMe.out; have ek0 := hme.cell 0 _ rfl; have el0 := hme.fr 0 _ rfl; have ek1 := hme.cell 1 _ rfl; have el1 := hme.fr 1 _ rfl; have ek2 := hme.cell 2 _ rfl; have el2 := hme.fr 2 _ rfl; have ek3 := hme.cell 3 _ rfl; have el3 := hme.fr 3 _ rfl; have ek4 := hme.cell 4 _ rfl; have el4 := hme.fr 4 _ rfl; have ek5 := hme.cell 5 _ rfl; have el5 := hme.fr 5 _ rfl; have ek6 := hme.cell 6 _ rfl; have el6 := hme.fr 6 _ rfl; have ek7 := hme.cell 7 _ rfl; have el7 := hme.fr 7 _ rfl; have ek8 := hme.cell 8 _ rfl; have el8 := hme.fr 8 _ rfl; have ek9 := hme.cell 9 _ rfl; have el9 := hme.fr 9 _ rfl; have ek10 := hme.cell 10 _ rfl; have el10 := hme.fr 10 _ rfl; have ek11 := hme.cell 11 _ rfl; have el11 := hme.fr 11 _ rfl; have eklt := hme.lt; clear hme)); clear hoe hbe ge))
      all_goals
        go_wp2_with fail
        go_meet
        case rel =>
          refine ⟨_, rfl, ?_⟩
          refine Lib.hid (Exists.intro ?_ (Exists.intro ?_ (Exists.intro ?_ (Exists.intro ?_ ?_))))
          rotate_left 4
          first
          | (have hx := rs_alloc (wi := wi) HSe.out (Sl.of_own HOhe.out) (Sl.of_own HOe.out) (own_off HOhe.out (fun g e => by have h1 := (HOhe.out.lt g e).2; have h2 := HDh.out g e; omega)) (own_off HOe.out (fun g e => by have h1 := (HOe.out.lt g e).2; have h2 := HDe.out g e; omega)); with_reducible exact hx)
          | (have hx := rs_set (wi := wi) HSe.out HNe.out.1 HNe.out.2.1 HDW.out (Sl.of_own HOhe.out) (Sl.of_own HOe.out) (own_off HOhe.out (fun g e => by have h1 := (HOh.out.lt g e).2; have h2 := HDh.out g e; omega)) (own_off HNe.out.2.2 (fun g e => by have h1 := (HNe.out.2.2.lt g e).1; have h3 := HDe.out g e; have h2 : wh.heap.size + 1 ≤ g := (by simpa using h1); omega)); with_reducible exact hx)
          | (have hx := rs_set (wi := wi) HSe.out HMe.out HNh.out.2.1 HDW.out (Sl.of_own HOhe.out) (Sl.of_own HOe.out) (own_off HOhe.out (fun g e => by have h1 := (HNh.out.2.2.lt g e).1; have h3 := HDh.out g e; have h2 : w2.heap.size + 1 ≤ g := (by simpa using h1); omega)) (own_off HOe.out (fun g e => by have h1 := (HOe.out.lt g e).1; have h2 := HNh.out.1.lt; have h4 := HDe.out g e; have h3 : wh.heap.size ≤ g := h1; omega)); with_reducible exact hx)
          | (have hx := rs_alloc (wi := wi) HSh.out (Sl.of_own HOh.out) (Sl.of_own HOeh.out) (own_off HOh.out (fun g e => by have h1 := (HOh.out.lt g e).2; have h2 := HDh.out g e; omega)) (own_off HOeh.out (fun g e => by have h1 := (HOeh.out.lt g e).2; have h2 := HDe.out g e; omega)); with_reducible exact hx)
          | (have hx := rs_set (wi := wi) HSh.out HNh.out.1 HNh.out.2.1 HDW.out (Sl.of_own HOh.out) (Sl.of_own HOeh.out) (own_off HNh.out.2.2 (fun g e => by have h1 := (HNh.out.2.2.lt g e).1; have h3 := HDh.out g e; have h2 : we.heap.size + 1 ≤ g := (by simpa using h1); omega)) (own_off HOeh.out (fun g e => by have h1 := (HOe.out.lt g e).2; have h2 := HDe.out g e; omega)); with_reducible exact hx)
          | (have hx := rs_set (wi := wi) HSh.out HMh.out HNe.out.2.1 HDW.out (Sl.of_own HOh.out) (Sl.of_own HOeh.out) (own_off HOh.out (fun g e => by have h1 := (HOh.out.lt g e).1; have h2 := HNe.out.1.lt; have h4 := HDh.out g e; have h3 : we.heap.size ≤ g := h1; omega)) (own_off HOeh.out (fun g e => by have h1 := (HNe.out.2.2.lt g e).1; have h3 := HDe.out g e; have h2 : w2.heap.size + 1 ≤ g := (by simpa using h1); omega)); with_reducible exact hx)
    case rest =>
    obtain ⟨b7, rfl, hcc⟩ := hcut
    obtain ⟨P1, q1, P2, q2, hR⟩ := hcc.out
    have hcall := HCh.out wc (w.heap.size + 1) hR.bel hR.cl
    clear hcc HCH HCE HCh HS2 x0 x1 x2 x3 x4 x5 x6 x7 x8 x9 x10 x11 xlt na2 nb2
    have y0 := hR.blk.cell 0 _ rfl
    have y1 := hR.blk.cell 1 _ rfl
    have y2 := hR.blk.cell 2 _ rfl
    have y3 := hR.blk.cell 3 _ rfl
    have y4 := hR.blk.cell 4 _ rfl
    have y5 := hR.blk.cell 5 _ rfl
    have y6 := hR.blk.cell 6 _ rfl
    have y7 := hR.blk.cell 7 _ rfl
    have y8 := hR.blk.cell 8 _ rfl
    have y9 := hR.blk.cell 9 _ rfl
    have y10 := hR.blk.cell 10 _ rfl
    have y11 := hR.blk.cell 11 _ rfl
    have ylt := hR.blk.lt
    have HR := Lib.hid hR
    clear hR
    go_wp2_with fail
    refine hcall.mono ?_
    rintro r w5 ⟨k5, mn5, mx5, kd5, bd5, bn5, cs5, nm5, B5, p5, q5, A5, n5, c5, ks5, rfl, hn5, hb5, hT5⟩
    clear hcall y0 y1 y2 y3 y4 y5 y6 y7 y8 y9 y10 y11 ylt
    have hN5 := HR.out.new.later hb5
    have n0 := hN5.cell 0 _ rfl
    have o0 := hN5.fr 0 _ rfl
    have n1 := hN5.cell 1 _ rfl
    have o1 := hN5.fr 1 _ rfl
    have n2 := hN5.cell 2 _ rfl
    have o2 := hN5.fr 2 _ rfl
    have n3 := hN5.cell 3 _ rfl
    have o3 := hN5.fr 3 _ rfl
    have n4 := hN5.cell 4 _ rfl
    have o4 := hN5.fr 4 _ rfl
    have n5 := hN5.cell 5 _ rfl
    have o5 := hN5.fr 5 _ rfl
    have n6 := hN5.cell 6 _ rfl
    have o6 := hN5.fr 6 _ rfl
    have n7 := hN5.cell 7 _ rfl
    have o7 := hN5.fr 7 _ rfl
    have n8 := hN5.cell 8 _ rfl
    have o8 := hN5.fr 8 _ rfl
    have n9 := hN5.cell 9 _ rfl
    have o9 := hN5.fr 9 _ rfl
    have n10 := hN5.cell 10 _ rfl
    have o10 := hN5.fr 10 _ rfl
    have n11 := hN5.cell 11 _ rfl
    have o11 := hN5.fr 11 _ rfl
    have nlt := hN5.lt
    have HB5 := Lib.hid hb5
    have HT5 := Lib.hid hT5
    have HN5 := Lib.hid hn5
    clear hN5 hb5 hT5 hn5
    go_upto_region 6 with fail
    refine named_wp ?_
    intro W6 hW6
    clear n0 o0 n1 o1 n2 o2 n3 o3 n4 o4 n5 o5 n6 o6 n7 o7 n8 o8 n9 o9 n10 o10 n11 o11 nlt
    have hp6 : W6 = putB w5 b7 (.int .i64 k5) (.int .i64 mn5) (.int .i64 mx5) (.int .i64 kd5) (.bool bd5) (.int .u64 bn5) (.slice B5 p5 q5) (.string (strOf nm5)) (.slice A5 n5 c5) := hW6
    clear hW6
    have hg6 : w5.grownBy W6 (some b7) := by rw [hp6]; exact putB_grown _ _ _ _ _ _ _ _ _ _ _
    have hM6 : Blk W6 b7 [.int .i64 k5, .int .i64 mn5, .int .i64 mx5, .int .i64 kd5, .bool bd5, .int .u64 bn5, .slice B5 p5 q5, .string (strOf nm5), .slice A5 n5 c5, .int .u64 wi, .slice P1 hv.length q1, .slice P2 em.length q2] := by
      rw [hp6]
      exact (((((((((HR.out.new.later HB5.out).set 0 _).set 1 _).set 2 _).set 3 _).set 4 _).set 5 _).set 6 _).set 7 _).set 8 _
    clear hp6
    have hD6 : Blk W6 d [.int .i64 0, .int .i64 0, .int .i64 0, .int .i64 0, .bool false, .int .u64 0, .slice none 0 0, .string ⟨#[]⟩, .slice none 0 0, .int .u64 0, .slice none 0 0, .slice none 0 0] := blk_but (HR.out.res.later HB5.out) hg6 (by have := HR.out.ne; omega)
    have m0 := hM6.cell 0 _ rfl
    have m1 := hM6.cell 1 _ rfl
    have m2 := hM6.cell 2 _ rfl
    have m3 := hM6.cell 3 _ rfl
    have m4 := hM6.cell 4 _ rfl
    have m5 := hM6.cell 5 _ rfl
    have m6 := hM6.cell 6 _ rfl
    have m7 := hM6.cell 7 _ rfl
    have m8 := hM6.cell 8 _ rfl
    have m9 := hM6.cell 9 _ rfl
    have m10 := hM6.cell 10 _ rfl
    have m11 := hM6.cell 11 _ rfl
    have mlt := hM6.lt
    have p0 := hD6.cell 0 _ rfl
    have e0 := hD6.fr 0 _ rfl
    have p1 := hD6.cell 1 _ rfl
    have e1 := hD6.fr 1 _ rfl
    have p2 := hD6.cell 2 _ rfl
    have e2 := hD6.fr 2 _ rfl
    have p3 := hD6.cell 3 _ rfl
    have e3 := hD6.fr 3 _ rfl
    have p4 := hD6.cell 4 _ rfl
    have e4 := hD6.fr 4 _ rfl
    have p5 := hD6.cell 5 _ rfl
    have e5 := hD6.fr 5 _ rfl
    have p6 := hD6.cell 6 _ rfl
    have e6 := hD6.fr 6 _ rfl
    have p7 := hD6.cell 7 _ rfl
    have e7 := hD6.fr 7 _ rfl
    have p8 := hD6.cell 8 _ rfl
    have e8 := hD6.fr 8 _ rfl
    have p9 := hD6.cell 9 _ rfl
    have e9 := hD6.fr 9 _ rfl
    have p10 := hD6.cell 10 _ rfl
    have e10 := hD6.fr 10 _ rfl
    have p11 := hD6.cell 11 _ rfl
    have e11 := hD6.fr 11 _ rfl
    have dlt := hD6.lt
    have HG6 := Lib.hid hg6
    have HD6 := Lib.hid hD6
    clear hM6 hD6 hg6
    go_wp2
    refine named_post ?_
    intro W8 hW8
    clear m0 m1 m2 m3 m4 m5 m6 m7 m8 m9 m10 m11 mlt p0 e0 p1 e1 p2 e2 p3 e3 p4 e4 p5 e5 p6 e6 p7 e7 p8 e8 p9 e9 p10 e10 p11 e11 dlt
    have hp8 : W8 = putQ W6 d (.int .i64 k5) (.int .i64 mn5) (.int .i64 mx5) (.int .i64 kd5) (.bool bd5) (.int .u64 bn5) (.slice B5 p5 q5) (.string (strOf nm5)) (.slice A5 n5 c5) (.int .u64 wi) (.slice P1 hv.length q1) (.slice P2 em.length q2) := hW8
    clear hW8
    have hg8 : W6.grownBy W8 (some d) := by rw [hp8]; exact putQ_grown _ _ _ _ _ _ _ _ _ _ _ _ _ _
    have hZ : Blk W8 d [.int .i64 k5, .int .i64 mn5, .int .i64 mx5, .int .i64 kd5, .bool bd5, .int .u64 bn5, .slice B5 p5 q5, .string (strOf nm5), .slice A5 n5 c5, .int .u64 wi, .slice P1 hv.length q1, .slice P2 em.length q2] := by rw [hp8]; exact putQ_blk HD6.out _ _ _ _ _ _ _ _ _ _ _ _
    clear hp8
    have z0 := hZ.cell 0 _ rfl
    have z1 := hZ.cell 1 _ rfl
    have z2 := hZ.cell 2 _ rfl
    have z3 := hZ.cell 3 _ rfl
    have z4 := hZ.cell 4 _ rfl
    have z5 := hZ.cell 5 _ rfl
    have z6 := hZ.cell 6 _ rfl
    have z7 := hZ.cell 7 _ rfl
    have z8 := hZ.cell 8 _ rfl
    have z9 := hZ.cell 9 _ rfl
    have z10 := hZ.cell 10 _ rfl
    have z11 := hZ.cell 11 _ rfl
    have hfin := rs_fin (k := k5) (mn := mn5) (mx := mx5) HR.out HB5.out HG6.out hg8 (by have := HDE.out; omega) HT5.out HWI.out.2
    have hqu : GQ.qu ⟨.mk k5 mn5 mx5 ⟨⟨kd5, bd5, bn5, cs5, nm5⟩, .slice B5 p5 q5⟩ (.slice A5 n5 c5) ks5, wi, .slice P1 hv.length q1, hv, .slice P2 em.length q2, em⟩ = X := by
      rw [HX.out]
      show Qu.mk _ _ _ _ = _
      rw [HN5.out]
    refine bodyPost_ret (v := .tuple #[.agg #[.int .i64 k5, .int .i64 mn5, .int .i64 mx5, .int .i64 kd5, .bool bd5, .int .u64 bn5, .slice B5 p5 q5, .string (strOf nm5), .slice A5 n5 c5, .int .u64 wi, .slice P1 hv.length q1, .slice P2 em.length q2], .int .i64 0]) (by simp [results, Tryz.results13, go_sem, z0, z1, z2, z3, z4, z5, z6, z7, z8, z9, z10, z11]; try rfl) rfl ?_
    exact ⟨_, hqu, by rw [HZ.out]; rfl, hfin.1 HWI.out.1, hfin.2⟩
  · have hE0 : (E != 0) = true := by simpa using hz
    have hXe := HXX.out.2 hz
    have HX := Lib.hid hXe
    clear hXe hz HXX HCH HCE HCh hK2
    have p0 := hF2.cell 0 _ rfl
    have e0 := hF2.fr 0 _ rfl
    have p1 := hF2.cell 1 _ rfl
    have e1 := hF2.fr 1 _ rfl
    have p2 := hF2.cell 2 _ rfl
    have e2 := hF2.fr 2 _ rfl
    have p3 := hF2.cell 3 _ rfl
    have e3 := hF2.fr 3 _ rfl
    have p4 := hF2.cell 4 _ rfl
    have e4 := hF2.fr 4 _ rfl
    have p5 := hF2.cell 5 _ rfl
    have e5 := hF2.fr 5 _ rfl
    have p6 := hF2.cell 6 _ rfl
    have e6 := hF2.fr 6 _ rfl
    have p7 := hF2.cell 7 _ rfl
    have e7 := hF2.fr 7 _ rfl
    have p8 := hF2.cell 8 _ rfl
    have e8 := hF2.fr 8 _ rfl
    have p9 := hF2.cell 9 _ rfl
    have e9 := hF2.fr 9 _ rfl
    have p10 := hF2.cell 10 _ rfl
    have e10 := hF2.fr 10 _ rfl
    have p11 := hF2.cell 11 _ rfl
    have e11 := hF2.fr 11 _ rfl
    have dlt := hF2.lt
    have HF2 := Lib.hid hF2
    clear hF2
    go_wp2
    refine named_post ?_
    intro W8 hW8
    clear p0 e0 p1 e1 p2 e2 p3 e3 p4 e4 p5 e5 p6 e6 p7 e7 p8 e8 p9 e9 p10 e10 p11 e11 dlt
    have hp8 : W8 = putQ w2 d (.int .i64 0) (.int .i64 0) (.int .i64 0) (.int .i64 0) (.bool false) (.int .u64 0) (.slice none 0 0) (.string ⟨#[]⟩) (.slice none 0 0) (.int .u64 0) (.slice none 0 0) (.slice none 0 0) := hW8
    clear hW8
    have hg8 : w2.grownBy W8 (some d) := by rw [hp8]; exact putQ_grown _ _ _ _ _ _ _ _ _ _ _ _ _ _
    have hZ : Blk W8 d [.int .i64 0, .int .i64 0, .int .i64 0, .int .i64 0, .bool false, .int .u64 0, .slice none 0 0, .string ⟨#[]⟩, .slice none 0 0, .int .u64 0, .slice none 0 0, .slice none 0 0] := by rw [hp8]; exact putQ_blk HF2.out _ _ _ _ _ _ _ _ _ _ _ _
    have hB8 : Below w.heap.size w W8 := HS2.out.bel.grown hg8 HS2.out.bel.size (fun k e => by injection e with e; have := HDE.out; omega)
    clear hp8 hg8
    have z0 := hZ.cell 0 _ rfl
    have z1 := hZ.cell 1 _ rfl
    have z2 := hZ.cell 2 _ rfl
    have z3 := hZ.cell 3 _ rfl
    have z4 := hZ.cell 4 _ rfl
    have z5 := hZ.cell 5 _ rfl
    have z6 := hZ.cell 6 _ rfl
    have z7 := hZ.cell 7 _ rfl
    have z8 := hZ.cell 8 _ rfl
    have z9 := hZ.cell 9 _ rfl
    have z10 := hZ.cell 10 _ rfl
    have z11 := hZ.cell 11 _ rfl
    refine bodyPost_ret (v := .tuple #[.agg #[.int .i64 0, .int .i64 0, .int .i64 0, .int .i64 0, .bool false, .int .u64 0, .slice none 0 0, .string ⟨#[]⟩, .slice none 0 0, .int .u64 0, .slice none 0 0, .slice none 0 0], .int .i64 E]) (by simp [results, Tryz.results13, go_sem, z0, z1, z2, z3, z4, z5, z6, z7, z8, z9, z10, z11]; try rfl) rfl ?_
    exact ⟨zeroG, by rw [zeroG_qu, HX.out], rfl, zeroG_qw _, hB8⟩
end Go.Proofs.YtdoioaeppepndaaGreatDoor
namespace Go.Proofs.YtdoioaeppepndaaGreatDoor
open Go.RowKit Go.Shelf
open A8 Tk7 W10 Lb F11 Kq

theorem fl_kit {w : World} {q : GQ} {l : List Int} (hq : QW w q) (h : q.qu = kitQ l) : FlG w q := by
  have hp : q.t.nd = (kitQ l).p := congrArg Qu.p h
  have h1 : (subsT q.t).length = lenN q.t.nd := by unfold lenN; rw [← subsT_nd, List.length_map]
  have h2 := kit_len l
  rw [← hp] at h2
  refine ⟨hq, by omega, fun s hs => ?_, fun t ht => ?_⟩
  · rw [h] at hs
    have := use_short l s hs
    unfold maxLen
    omega
  · have hm : t.nd ∈ subsN q.t.nd := by rw [← subsT_nd]; exact List.mem_map_of_mem ht
    rw [hp] at hm
    have := ((kit_pat l).small t.nd hm).1
    omega
theorem bn_ok {w : World} {q : GQ} (hq : QW w q) : BnOk (atsQ q.qu) := by
  intro a ha
  unfold atsQ at ha
  split at ha
  · obtain ⟨n, hn, rfl⟩ := List.mem_map.1 ha
    have h1 : n ∈ subsN q.t.nd := (List.mem_filter.1 hn).1
    rw [← subsT_nd] at h1
    obtain ⟨t, ht, rfl⟩ := List.mem_map.1 h1
    have := hq.tr t ht
    cases t with
    | mk k mn mx g sk ks =>
      rw [nd_mk]
      exact this.2.1.1.bn
  · cases ha
end Go.Proofs.YtdoioaeppepndaaGreatDoor
namespace Go.Proofs.YtdoioaeppepndaaGreatDoor
open Go.RowKit Go.Shelf
open A8 Tk7 P9 W10 Lb F11 Kq

/-- What the program wants of a query's size. -/
structure FlD (Q : Qu) : Prop where
  len : (subsN Q.p).length ≤ 999999
  nu : ∀ s ∈ useL Q, s.length ≤ maxLen
  cs : ∀ t ∈ subsN Q.p, t.atom.cs.length ≤ 1000000
  hl : Q.hv.length ≤ 1000000
  el : Q.em.length ≤ 1000000
theorem fl_of {w : World} {q : GQ} (hq : QW w q) (h : FlD q.qu) : FlG w q :=
  ⟨hq, by have := h.len; rw [← List.length_map (f := Tr.nd), subsT_nd]; exact this, h.nu, fun t ht => h.cs t.nd (by show t.nd ∈ subsN q.t.nd; rw [← subsT_nd]; exact List.mem_map_of_mem ht)⟩
theorem fld_res {Q : Qu} (h : FlD Q) (c : Int) : FlD (resQ c Q) := by
  refine ⟨?_, h.nu, fun t ht => ?_, h.hl, h.el⟩
  · show (subsN (resN c Q.p)).length ≤ _
    rw [subs_res, List.length_map]
    exact h.len
  · have ht2 : t ∈ subsN (resN c Q.p) := ht
    rw [subs_res] at ht2
    obtain ⟨u, hu, rfl⟩ := List.mem_map.1 ht2
    rw [res_cs]
    exact h.cs u hu
theorem fld_kit (l : List Int) : FlD (kitQ l) := by
  refine ⟨?_, fun s hs => ?_, fun t ht => ?_, ?_, ?_⟩
  · have := kit_len l
    unfold lenN at this
    omega
  · have := use_short l s hs
    unfold maxLen
    omega
  · have := ((kit_pat l).small t ht).1
    omega
  · have := (kitQ_ok l).hl; omega
  · have := (kitQ_ok l).el; omega
theorem row_form {w : World} {q : GQ} (h : QW w q) : ∃ (k mn mx kd : Int) (bd : Bool) (bn : Int) (A : Option Addr) (n c : Nat) (nm : ByteArray) (B : Option Addr) (m d : Nat) (wi : Int) (H : Option Addr) (h1 h2 : Nat) (E : Option Addr) (e1 e2 : Nat),
    q.row.toArray = #[.int .i64 k, .int .i64 mn, .int .i64 mx, .int .i64 kd, .bool bd, .int .u64 bn, .slice A n c, .string nm, .slice B m d, .int .u64 wi, .slice H h1 h2, .slice E e1 e2] := by
  have hone := h.tr.one
  have hsh := h.hv
  have hse := h.em
  obtain ⟨T, wi, sh, hv, se, em⟩ := q
  obtain ⟨k, mn, mx, ⟨⟨kd, bd, bn, cs, nm⟩, sc⟩, sk, ks⟩ := T
  simp only at hone hsh hse
  obtain ⟨A1, n1, c1, rfl⟩ := sl_form hone.2.1.2
  obtain ⟨A, n, c, rfl⟩ := sl_form hone.2.2
  obtain ⟨H1, h1, ch1, rfl⟩ := sl_form hsh
  obtain ⟨E1, e1, ce1, rfl⟩ := sl_form hse
  exact ⟨_, _, _, _, _, _, _, _, _, _, _, _, _, _, _, _, _, _, _, _, rfl⟩
theorem sameQ_refl (Q : Qu) : sameQ Q Q = true := by unfold sameQ; simp
theorem restrict_ok {q : GQ} {Q : Qu} (hQ : q.qu = Q) (c : Int) (w : World) (hq : QW w q) (hd : FlD Q) (hz : wfE Q = 0) (hG : SG w) (hc0 : 0 ≤ c ∧ c < 18446744073709551616) :
    Calls Tryz.prog 13 #[.agg q.row.toArray, .int .u64 c] w (OutR w (resQ c Q) 0) := by
  have h1 := restrict_any q c w (fl_of hq (hQ ▸ hd)) hG hc0 (hQ ▸ hd).hl (hQ ▸ hd).el
  rw [hQ, hz] at h1
  have h2 : resE c Q = resQ c Q := by unfold resE; rw [if_pos hz]
  rw [h2] at h1
  exact h1
end Go.Proofs.YtdoioaeppepndaaGreatDoor
