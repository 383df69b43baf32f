/- Walks: the program's Atoms and Negated. -/
import Derived.Test.YtfibmdbplfghcaaGreatDoorAstLa
import Derived.Test.YtfibmdbplfghcaaGreatDoorAstSa
namespace Go.Proofs.YtfibmdbplfghcaaGreatDoor
open Go.RowKit Go.Shelf
open A8 Tk7

/-- The atoms of a node. -/
def atomsN (n : Nd) : List At := if soundN 1 n = true then (leavesN n).map Nd.atom else []
theorem atoms_any (T : Tr) (w : World) (hT : TrW w T) (hlen : (subsT T).length ≤ 999999) (hG : SG w) (hcs : ∀ t ∈ subsT T, t.nd.atom.cs.length ≤ 1000000) :
    Calls Tryz.prog 21 #[.agg T.row.toArray] w fun e w' => ∃ (gs : List GA) (A : Option Addr) (c : Nat), IsL (gs.map (fun g => g.a)) (atomsN T.nd) ∧ e = .returned (.tuple #[.slice A gs.length c, .int .i64 (soundE T.nd)]) ∧ Ats w' (.slice A gs.length c) gs ∧ (∀ g ∈ gs, w'.ownsRow w.heap.size 59 2 g.sc g.a.cs.length (g.a.cs.flatMap cnC)) ∧ Below w.heap.size w w' := by
  have hA := fun w1 (hb : Below w.heap.size w w1) => leavesA_any T w1 (hT.later hb) hlen (hG.later hb) hcs
  obtain ⟨E, hE⟩ : ∃ E, E = soundE T.nd := ⟨_, rfl⟩
  obtain ⟨ats, hats⟩ : ∃ ats, ats = atomsN T.nd := ⟨_, rfl⟩
  unfold atomsN at hats
  rw [← hE, ← hats] at hA
  show Calls _ _ _ _ fun e w' => ∃ (gs : List GA) (A : Option Addr) (c : Nat), IsL (gs.map (fun g => g.a)) (atomsN T.nd) ∧ _
  have hA2 : ats = atomsN T.nd := hats
  rw [← hE, ← hA2]
  clear hE hats hA2 hT hlen hG hcs
  obtain ⟨k, mn, mx, ⟨⟨kd, bd, bn, cs, nm⟩, sc⟩, sk, ks⟩ := T
  simp only [Tr.row] at hA ⊢
  have HA := Lib.hid hA
  clear hA
  go_enter Tryz.func21, Tryz.ntmps21
  go_wp2_with (go_at_call 54; refine (HA.out _ (b1 _ _)).mono ?_; rintro e w2 ⟨gs, v, hgs, rfl, ho, hc, hb2⟩; obtain ⟨A, c, rfl⟩ := own_form ho; have HO := Lib.hid ho; have HC := Lib.hid hc; have HG := Lib.hid hgs; clear ho hc hgs)
  go_ret2
  exact ⟨gs, A, c, HG.out, rfl, ⟨Sl.of_own HO.out, fun g hg => Sl.of_own (HC.out g hg)⟩, fun g hg => own_mono (HC.out g hg) (by simp), bstep (b1 _ _) hb2⟩
end Go.Proofs.YtfibmdbplfghcaaGreatDoor
