/- Walk: the law's sameAtoms of two lists that are the same. -/
import Derived.Test.YtfibmdbplfghcaaGreatDoorAstMem
import Derived.Test.YtfibmdbplfghcaaGreatDoorProg
import Derived.Outline
import Derived.Deep.LoopGhost
import Derived.BigQuiet
import Derived.Handy
import Derived.Deep.QuietTactic
import Derived.Deep.DeepCutAuto
namespace Go.Proofs.YtfibmdbplfghcaaGreatDoor
open Go.RowKit
open A8

theorem gaC_len (g : GA) : (gaC g).length = 5 := rfl
/-- A row of atoms. -/
def Ats (w : World) (v : Value) (gs : List GA) : Prop := Sl w 5 gs.length v (gs.flatMap gaC) ∧ ∀ g ∈ gs, Sl w 2 g.a.cs.length g.sc (g.a.cs.flatMap cnC)
theorem Ats.later {w w' : World} {v : Value} {gs : List GA} (h : Ats w v gs) (hb : Below w.heap.size w w') : Ats w' v gs := ⟨h.1.later hb, fun g hg => (h.2 g hg).later hb⟩
set_option maxRecDepth 100000 in
set_option maxHeartbeats 8000000 in
theorem sameAtoms_same (gs hs : List GA) (u v : Value) (w : World) (hu : Ats w u gs) (hv : Ats w v hs) (he : gs.map (fun g => g.a) = hs.map (fun g => g.a)) :
    Calls Tryz.prog 23 #[u, v] w fun e w' => e = .returned (.bool true) ∧ Below w.heap.size w w' := by
  have hlen : gs.length = hs.length := by have := congrArg List.length he; simpa using this
  have hget : ∀ i (h : i < gs.length) (h' : i < hs.length), (gs[i]).a = (hs[i]).a := fun i h h' => by
    have h1 : (gs.map (fun g => g.a))[i]? = (hs.map (fun g => g.a))[i]? := by rw [he]
    simpa [h, h'] using h1
  obtain ⟨hu, hus⟩ := hu
  obtain ⟨hv, hvs⟩ := hv
  obtain ⟨A, c, rfl, hm, hc⟩ := sl_els (by decide) gaC_len hu
  obtain ⟨B, e, rfl, hm', hc'⟩ := sl_els (by decide) gaC_len hv
  have HC := Lib.hid hc
  have HC' := Lib.hid hc'
  have HU := Lib.hid hus
  have HV := Lib.hid hvs
  have HG := Lib.hid hget
  have HL := Lib.hid hlen
  have hbe : ((gs.length : Int) == (hs.length : Int)) = true := by simp [hlen]
  have hbe2 : ((gs.length : Int) != (hs.length : Int)) = false := by simp [hlen]
  clear hc hc' hu hv hus hvs hget hlen he
  go_enter Tryz.func23, Tryz.ntmps23
  go_wp2
  go_loopg [5] gs.length (fun g iv wr => ∃ i : Nat, i ≤ gs.length ∧ g = gs.length - i ∧ iv = .int .i64 (i : Int) ∧ Hid (Below w.heap.size w wr))
  case atStart => exact ⟨0, Nat.zero_le _, rfl, rfl, Lib.hid (Below.refl _ _)⟩
  case round =>
    obtain ⟨i, hi, hg, rfl, hb⟩ := hrel
    by_cases hz : i < gs.length
    · have hz' : i < hs.length := by have := HL.out; omega
      have h1 : (i : Int) < (gs.length : Int) := by omega
      have h2 : (i : Int) < (hs.length : Int) := by omega
      obtain ⟨a, rfl, _, E⟩ := HC.out i hz
      obtain ⟨a', rfl, _, E'⟩ := HC'.out i hz'
      have hwi : IntKind.i64.wrap ((i : Int) + 1) = (i : Int) + 1 := IntWalk.i64_in _ ⟨by omega, by omega⟩
      have hxy := HG.out i hz hz'
      have hx := HU.out gs[i] (List.getElem_mem hz)
      have hy := HV.out hs[i] (List.getElem_mem hz')
      obtain ⟨⟨⟨kd, bd, bn, cs, nm⟩, sc⟩, hX⟩ : ∃ x, x = gs[i] := ⟨_, rfl⟩
      obtain ⟨⟨ya, sc'⟩, hY⟩ : ∃ y, y = hs[i] := ⟨_, rfl⟩
      rw [← hX] at E hxy hx
      rw [← hY] at E' hxy hy
      simp only at hxy hx hy
      subst hxy
      simp only at hy
      clear hX hY
      replace E := E.later hb.out
      replace E' := E'.later hb.out
      have hxb := hx.later hb.out
      have hyb := hy.later hb.out
      obtain ⟨P, c1, rfl, hcl, hp⟩ := sl_els (by decide) cnC_len hxb
      obtain ⟨Q, c2, rfl, -, hq⟩ := sl_els (by decide) cnC_len hyb
      have HP := Lib.hid hp
      have HQ := Lib.hid hq
      simp only [gaC] at E E'
      have c0 := E.at0 _ rfl
      have c1' := E.at1 1 _ (by decide) rfl
      have c2' := E.at1 2 _ (by decide) rfl
      have c3 := E.at1 3 _ (by decide) rfl
      have c4 := E.at1 4 _ (by decide) rfl
      have d0 := E'.at0 _ rfl
      have d1 := E'.at1 1 _ (by decide) rfl
      have d2 := E'.at1 2 _ (by decide) rfl
      have d3 := E'.at1 3 _ (by decide) rfl
      have d4 := E'.at1 4 _ (by decide) rfl
      have l1 := E.lt
      have l2 := E'.lt
      clear E E' hx hy hxb hyb hp hq
      go_wp2
      go_cut [6, 7] (fun s6 s7 wx => ∃ bx bY : Nat, s6 = .pointer (some ⟨bx, 0, none⟩) ∧ s7 = .pointer (some ⟨bY, 0, none⟩) ∧ Blk wx bx [.int .i64 kd, .bool bd, .int .u64 bn, .slice P cs.length c1, .string (strOf nm)] ∧ Blk wx bY [.int .i64 kd, .bool bd, .int .u64 bn, .slice Q cs.length c2, .string (strOf nm)] ∧ Below wr.heap.size wr wx)
      case first =>
        clear HC HC' HU HV HG HP HQ
        go_region
        all_goals
          go_wp2_with fail
          go_meet
          case rel =>
            first
            | exact ⟨_, _, rfl, rfl, (Blk.is (us := [.int .i64 kd, .bool bd, .int .u64 bn, .slice P cs.length c1, .string (strOf nm)]) _ (by simp)).drew, ((Blk.new wr [.int .i64 kd, .bool bd, .int .u64 bn, .slice Q cs.length c2, .string (strOf nm)] 25).alloc _).drew, below_drewN (b2 _ _ _) 1⟩
            | exact ⟨_, _, rfl, rfl, ((Blk.new wr [.int .i64 kd, .bool bd, .int .u64 bn, .slice P cs.length c1, .string (strOf nm)] 25).alloc _).drew, (Blk.is (us := [.int .i64 kd, .bool bd, .int .u64 bn, .slice Q cs.length c2, .string (strOf nm)]) _ (by simp)).drew, below_drewN (b2 _ _ _) 1⟩
      case rest =>
        obtain ⟨bx, bY, rfl, rfl, BX, BY, hbc⟩ := hcut
        have x0 := BX.cell 0 _ rfl
        have x1 := BX.cell 1 _ rfl
        have x2 := BX.cell 2 _ rfl
        have x3 := BX.cell 3 _ rfl
        have x4 := BX.cell 4 _ rfl
        have y0 := BY.cell 0 _ rfl
        have y1 := BY.cell 1 _ rfl
        have y2 := BY.cell 2 _ rfl
        have y3 := BY.cell 3 _ rfl
        have y4 := BY.cell 4 _ rfl
        have HB2 := Lib.hid hbc
        clear BX BY hbc c0 c1' c2' c3 c4 d0 d1 d2 d3 d4 l1 l2
        go_wp2
        go_loopg [8] cs.length (fun g kv w2 => ∃ (k n : Nat), k ≤ cs.length ∧ g = cs.length - k ∧ kv = .int .i64 (k : Int) ∧ w2 = wc.drewN n)
        case atStart => exact ⟨0, 0, Nat.zero_le _, rfl, rfl, rfl⟩
        case round =>
          obtain ⟨k, n, hk, hgg, rfl, rfl⟩ := hrel
          by_cases hkz : k < cs.length
          · have h3 : (k : Int) < (cs.length : Int) := by omega
            have hwk : IntKind.i64.wrap ((k : Int) + 1) = (k : Int) + 1 := IntWalk.i64_in _ ⟨by omega, by omega⟩
            obtain ⟨p, rfl, _, F⟩ := HP.out k hkz
            obtain ⟨q, rfl, _, F'⟩ := HQ.out k hkz
            obtain ⟨⟨op, va⟩, hX⟩ : ∃ x, x = cs[k] := ⟨_, rfl⟩
            rw [← hX] at F F'
            replace F := F.later HB2.out
            replace F' := F'.later HB2.out
            simp only [cnC] at F F'
            have f0 := F.at0 _ rfl
            have f1 := F.at1 1 _ (by decide) rfl
            have g0 := F'.at0 _ rfl
            have g1 := F'.at1 1 _ (by decide) rfl
            clear F F' hX
            go_wp2
            go_quiet (fail)
            go_wp2
            go_roundg (cs.length - (k + 1))
            case rel => exact ⟨k + 1, _, by omega, rfl, by go_num, rfl⟩
            case measure => omega
          · have h3 : ¬ (k : Int) < (cs.length : Int) := by omega
            go_wp2
            go_roundg (gs.length - (i + 1))
            case rel => exact ⟨i + 1, by omega, rfl, by go_num, Lib.hid (below_drewN (bstep hb.out HB2.out) _)⟩
            case measure => omega
    · have h1 : ¬ (i : Int) < (gs.length : Int) := by omega
      clear HC HC' HU HV HG
      go_wp2
      go_ret
      exact ⟨rfl, hb.out⟩
end Go.Proofs.YtfibmdbplfghcaaGreatDoor
