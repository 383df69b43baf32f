/- A query in memory, each of its cells known. Nothing here speaks of the program. -/
import Derived.Test.YtdjaijhlhhnmeaaGreatDoorParF
import Derived.Test.YtdjaijhlhhnmeaaGreatDoorAstThr
namespace Go.Proofs.YtdjaijhlhhnmeaaGreatDoor
open Go.RowKit
open A8 Tk7 P9

theorem qform {w : World} {G : GQ} (h : QW w G) : ∃ (k mn mx kd bn wi : Int) (bd : Bool) (nm : ByteArray) (qA : Option Addr) (qn qc : Nat) (rA : Option Addr) (rn rc : Nat) (sA : Option Addr) (sn sc : Nat) (uA : Option Addr) (un uc : Nat), G.row = [.int .i64 k, .int .i64 mn, .int .i64 mx, .int .i64 kd, .bool bd, .int .u64 bn, .slice qA qn qc, .string nm, .slice rA rn rc, .int .u64 wi, .slice sA sn sc, .slice uA un uc] := by
  obtain ⟨⟨k, mn, mx, ⟨⟨kd, bd, bn, cs, nm⟩, sc⟩, sk, ks⟩, wi, sh, hv, se, em⟩ := G
  obtain ⟨⟨qA, qn, qc, h1⟩, ⟨rA, rn, rc, h2⟩⟩ := tr_form (show ndK.E _ _ from h.tr)
  obtain ⟨sA, sn, sc, h3⟩ := sl_form h.hv
  obtain ⟨uA, un, uc, h4⟩ := sl_form h.em
  simp only at h1 h2 h3 h4
  subst h1 h2 h3 h4
  exact ⟨k, mn, mx, kd, bn, wi, bd, strOf nm, qA, qn, qc, rA, rn, rc, sA, sn, sc, uA, un, uc, rfl⟩
end Go.Proofs.YtdjaijhlhhnmeaaGreatDoor
