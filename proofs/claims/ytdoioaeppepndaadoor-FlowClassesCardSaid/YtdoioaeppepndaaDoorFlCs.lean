/- Walk: FlowClasses. -/
import Derived.Test.YtdoioaeppepndaaDoorFlS
import Derived.Test.YtdoioaeppepndaaDoorFlL
import Derived.Deep.RegionHeld3
namespace Go.Proofs.YtdoioaeppepndaaDoor
open Go.RowKit Go.Shelf
open A8 Tk7 W10 Lb F11

/-- What a region holds fast: the cells of an atom, and what lay. -/
theorem held5 {P : Program} {f : FuncId} {args : Array Value} {v : Value} {W wx : World} {a0 a1 a2 a3 a4 : Addr} {c0 c1 c2 c3 c4 : Value} (hc : ∀ w, Below W.heap.size W w → Calls P f args w fun e w' => e = .returned v ∧ Below w.heap.size w w')
    (h0 : wx.cell? a0 = some c0) (h1 : wx.cell? a1 = some c1) (h2 : wx.cell? a2 = some c2) (h3 : wx.cell? a3 = some c3) (h4 : wx.cell? a4 = some c4) (h : Below W.heap.size W wx) :
    Calls P f args wx fun e w' => e = .returned v ∧ w'.cell? a0 = some c0 ∧ w'.cell? a1 = some c1 ∧ w'.cell? a2 = some c2 ∧ w'.cell? a3 = some c3 ∧ w'.cell? a4 = some c4 ∧ Below W.heap.size W w' :=
  (hc wx h).mono fun _ w' hh =>
    have hl : ∀ {p : Addr} {v : Value}, wx.cell? p = some v → w'.cell? p = some v := fun {_ _} h => (hh.2.cell (World.block_lt_of_cell? wx _ h)).trans h
    ⟨hh.1, hl h0, hl h1, hl h2, hl h3, hl h4, bstep h hh.2⟩
theorem below_drew11 (n : Nat) (w w' : World) : Below n w w'.drew = Below n w w' := by
  apply propext
  constructor
  · intro h; exact ⟨h.os, h.tape, h.output, h.size, h.block⟩
  · intro h; exact ⟨h.os, h.tape, h.output, h.size, h.block⟩
attribute [local go_sem] below_drew11
attribute [local simp] below_drew11
set_option maxRecDepth 100000 in
set_option maxHeartbeats 16000000 in
theorem classes_any (g : GA) (v : Value) (l : List Cl) (t : Int) (W : World) (hL : SG W) (hg : OneA W g) (hv : Sl W 3 l.length v (l.flatMap clC)) :
    Calls Tryd.prog 3 #[.agg (gaC g).toArray, v, .int .u64 t] W fun r w' => r = .returned (.bool true) ∧ Below W.heap.size W w' := by
  have hS := fun w1 (hb : Below W.heap.size W w1) => sees_any v l t w1 (hv.later hb)
  have hR := fun w1 (hb : Below W.heap.size W w1) => rsees_any v l t w1 (hv.later hb)
  have hA := fun w1 => atom_any g t w1
  have hB := fun w1 => r11atom_any g t w1
  have hW := fun w1 (hb : Below W.heap.size W w1) => flawake_any w1 (hL.later hb)
  obtain ⟨A, cap, rfl, hm, -⟩ := sl_els (by decide) clC_len hv
  obtain ⟨S, hSS⟩ : ∃ S, S = seesL t l := ⟨_, rfl⟩
  obtain ⟨E, hE⟩ : ∃ S, S = seesE l := ⟨_, rfl⟩
  obtain ⟨R, hRR⟩ : ∃ S, S = atR t g.a := ⟨_, rfl⟩
  rw [← hSS, ← hE] at hS hR
  rw [← hRR] at hA hB
  obtain ⟨-, hsl⟩ := hg
  obtain ⟨⟨kd, bd, bn, cs, nm⟩, sc⟩ := g
  simp only at hsl
  obtain ⟨CA, cc, rfl, hcm, -⟩ := sl_get (by decide) hsl
  simp only [gaC] at hA hB ⊢
  have HS := Lib.hid hS
  have HR := Lib.hid hR
  have HA := Lib.hid hA
  have HB := Lib.hid hB
  have HW := Lib.hid hW
  clear hSS hE hRR hsl hv hL hS hR hA hB hW
  obtain ⟨W1, hW1⟩ : ∃ W1, W1 = W.alloc (.cells #[.int .i64 kd, .bool bd, .int .u64 bn, .slice CA cs.length cc, .string (strOf nm)] 25) := ⟨_, rfl⟩
  have hK : Blk W1 W.heap.size [.int .i64 kd, .bool bd, .int .u64 bn, .slice CA cs.length cc, .string (strOf nm)] := by rw [hW1]; exact Blk.new W [.int .i64 kd, .bool bd, .int .u64 bn, .slice CA cs.length cc, .string (strOf nm)] 25
  have hb1 : Below W.heap.size W W1 := by rw [hW1]; exact b1 _ _
  have HK := Lib.hid hK
  have HB1 := Lib.hid hb1
  clear hK hb1
  by_cases hsmall : cs.length ≤ 20 ∧ l.length ≤ 12
  · obtain ⟨h20, h12⟩ := hsmall
    have i20 : ¬ (20 : Int) < (cs.length : Int) := by omega
    have i12 : ¬ (12 : Int) < (l.length : Int) := by omega
    clear h20 h12
    go_enter Tryd.func3, Tryd.ntmps3
    go_wp2_with fail
    rw [← hW1]
    clear hW1
    refine (HS.out W1 HB1.out).mono ?_
    rintro r w2 ⟨v2, rfl, ho2, hb2⟩
    obtain ⟨A2, c2, rfl⟩ := own_form ho2
    have HO2 := Lib.hid (Slc.of_own ho2)
    have HB2 := Lib.hid (bstep HB1.out hb2)
    have HK2 := Lib.hid (HK.out.later hb2)
    clear ho2 hb2
    go_wp2_with fail
    refine (HR.out w2 HB2.out).mono ?_
    rintro r w3 ⟨v3, rfl, ho3, hb3⟩
    obtain ⟨A3, c3, rfl⟩ := own_form ho3
    have HO3 := Lib.hid (Slc.of_own ho3)
    have HO2' := Lib.hid (HO2.out.below hb3)
    have HB3 := Lib.hid (bstep HB2.out hb3)
    have hK3 := HK2.out.later hb3
    clear ho3 hb3
    have hSI : ∀ w1, Below w3.heap.size w3 w1 → Calls Tryd.prog 10 #[.slice A2 S.length c2, .slice A3 S.length c3] w1 fun e w' => e = .returned (.bool true) ∧ Below w1.heap.size w1 w' := fun w1 hb => (sameInts_any _ _ S S w1 (HO2'.out.below hb) (HO3.out.below hb)).mono fun e w' hh => by
      obtain ⟨he, n, hn⟩ := hh
      rw [decide_eq_true rfl] at he
      exact ⟨he, hn ▸ below_drewN (Below.refl _ _) n⟩
    have hA3 := fun w1 (_ : Below w3.heap.size w3 w1) => HA.out w1
    have hB3 := fun w1 (_ : Below w3.heap.size w3 w1) => HB.out w1
    have hW3 := fun w1 (hb : Below w3.heap.size w3 w1) => HW.out w1 (bstep HB3.out hb)
    have hSI2 := Lib.hid hSI
    have hA2 := Lib.hid hA3
    have hB2 := Lib.hid hB3
    have hW2 := Lib.hid hW3
    clear hSI hA3 hB3 hW3
    have q0 := hK3.cell 0 _ rfl
    have q1 := hK3.cell 1 _ rfl
    have q2 := hK3.cell 2 _ rfl
    have q3 := hK3.cell 3 _ rfl
    have q4 := hK3.cell 4 _ rfl
    have hbs : Below w3.heap.size w3 w3 := Below.refl _ _
    clear hK3
    go_wp2_with fail
    go_region_held3 (fun w' => w'.cell? ⟨W.heap.size, 0, none⟩ = some (.int .i64 kd) ∧ w'.cell? ⟨W.heap.size, 1, none⟩ = some (.bool bd) ∧ w'.cell? ⟨W.heap.size, 2, none⟩ = some (.int .u64 bn) ∧ w'.cell? ⟨W.heap.size, 3, none⟩ = some (.slice CA cs.length cc) ∧ w'.cell? ⟨W.heap.size, 4, none⟩ = some (.string (strOf nm)) ∧ Below w3.heap.size w3 w') (go_keep)
      (first | (go_at_call 8; with_reducible refine (held5 (W := w3) (a0 := ⟨W.heap.size, 0, none⟩) (c0 := .int .i64 kd) (a1 := ⟨W.heap.size, 1, none⟩) (c1 := .bool bd) (a2 := ⟨W.heap.size, 2, none⟩) (c2 := .int .u64 bn) (a3 := ⟨W.heap.size, 3, none⟩) (c3 := .slice CA cs.length cc) (a4 := ⟨W.heap.size, 4, none⟩) (c4 := .string (strOf nm)) hA2.out ?_ ?_ ?_ ?_ ?_ ?_ ).mono ?_; (simp [*]); (simp [*]); (simp [*]); (simp [*]); (simp [*]); (simp [*]); rintro e w9 ⟨rfl, g0, g1, g2, g3, g4, g5⟩) | (go_at_call 9; with_reducible refine (held5 (W := w3) (a0 := ⟨W.heap.size, 0, none⟩) (c0 := .int .i64 kd) (a1 := ⟨W.heap.size, 1, none⟩) (c1 := .bool bd) (a2 := ⟨W.heap.size, 2, none⟩) (c2 := .int .u64 bn) (a3 := ⟨W.heap.size, 3, none⟩) (c3 := .slice CA cs.length cc) (a4 := ⟨W.heap.size, 4, none⟩) (c4 := .string (strOf nm)) hB2.out ?_ ?_ ?_ ?_ ?_ ?_ ).mono ?_; (simp [*]); (simp [*]); (simp [*]); (simp [*]); (simp [*]); (simp [*]); rintro e w9 ⟨rfl, g0, g1, g2, g3, g4, g5⟩) | (go_at_call 10; with_reducible refine (held5 (W := w3) (a0 := ⟨W.heap.size, 0, none⟩) (c0 := .int .i64 kd) (a1 := ⟨W.heap.size, 1, none⟩) (c1 := .bool bd) (a2 := ⟨W.heap.size, 2, none⟩) (c2 := .int .u64 bn) (a3 := ⟨W.heap.size, 3, none⟩) (c3 := .slice CA cs.length cc) (a4 := ⟨W.heap.size, 4, none⟩) (c4 := .string (strOf nm)) hSI2.out ?_ ?_ ?_ ?_ ?_ ?_ ).mono ?_; (simp [*]); (simp [*]); (simp [*]); (simp [*]); (simp [*]); (simp [*]); rintro e w9 ⟨rfl, g0, g1, g2, g3, g4, g5⟩) | (go_at_call 5; with_reducible refine (held5 (W := w3) (a0 := ⟨W.heap.size, 0, none⟩) (c0 := .int .i64 kd) (a1 := ⟨W.heap.size, 1, none⟩) (c1 := .bool bd) (a2 := ⟨W.heap.size, 2, none⟩) (c2 := .int .u64 bn) (a3 := ⟨W.heap.size, 3, none⟩) (c3 := .slice CA cs.length cc) (a4 := ⟨W.heap.size, 4, none⟩) (c4 := .string (strOf nm)) hW2.out ?_ ?_ ?_ ?_ ?_ ?_ ).mono ?_; (simp [*]); (simp [*]); (simp [*]); (simp [*]); (simp [*]); (simp [*]); rintro e w9 ⟨rfl, g0, g1, g2, g3, g4, g5⟩))
    go_wp2
    go_ret
    exact ⟨rfl, bstep HB3.out (by first | assumption | (simp [*]))⟩
  · have hor : 20 < cs.length ∨ 12 < l.length := by omega
    have HWW := Lib.hid (HW.out W1 HB1.out)
    by_cases h20 : 20 < cs.length
    all_goals
      have i20 : (20 : Int) < (cs.length : Int) ∨ (¬ (20 : Int) < (cs.length : Int) ∧ (12 : Int) < (l.length : Int)) := by omega
    · have j20 : (20 : Int) < (cs.length : Int) := by omega
      clear hor i20 hsmall h20
      go_enter Tryd.func3, Tryd.ntmps3
      go_wp2_with fail
      rw [← hW1]
      clear hW1
      refine HWW.out.mono ?_
      rintro r w2 ⟨rfl, hb2⟩
      have HB2 := Lib.hid (bstep HB1.out hb2)
      clear hb2
      go_wp2
      go_ret
      exact ⟨rfl, HB2.out⟩
    · have j20 : ¬ (20 : Int) < (cs.length : Int) := by omega
      have j12 : (12 : Int) < (l.length : Int) := by omega
      clear hor i20 hsmall h20
      go_enter Tryd.func3, Tryd.ntmps3
      go_wp2_with fail
      rw [← hW1]
      clear hW1
      refine HWW.out.mono ?_
      rintro r w2 ⟨rfl, hb2⟩
      have HB2 := Lib.hid (bstep HB1.out hb2)
      clear hb2
      go_wp2
      go_ret
      exact ⟨rfl, HB2.out⟩
end Go.Proofs.YtdoioaeppepndaaDoor
