/- Walks: the document's own Make. -/
import Derived.Test.YtkmkhegekonbmaaDoorRowII
import Derived.Deep.RegionLaw
namespace Go.Proofs.YtkmkhegekonbmaaDoor
open Go.RowKit
open Rw6

theorem mkrow_snoc {l : List ByteArray} {k : Nat} (h : k < l.length) : wcells ((l.take k).map mkW) ++ wcell (mkW l[k]) = wcells ((l.take (k + 1)).map mkW) := by
  rw [take_snoc l k h, List.map_append, wcells_app]
  simp [wcells]
/-- What an append leaves: all below, where the row is the call's own. -/
theorem below_grown {B : Nat} {w w1 : World} {o : Obj} {row : Option Nat} (hg : (w.drew.alloc o).grownBy w1 row) (hB : B ≤ w.heap.size) (h : ∀ g, row = some g → B ≤ g) : Below B w w1 := by
  have h1 : Below B w (w.drew.alloc o) := ((Below.refl _ _).drew).alloc (by simpa using hB) o
  refine h1.trans ⟨hg.os, hg.tape, hg.output, hg.size, fun k hk => hg.block k (Nat.lt_of_lt_of_le (by simp; omega) (Nat.le_refl _)) (fun e => ?_)⟩
  have := h k e.symm
  omega
set_option maxRecDepth 100000 in
set_option maxHeartbeats 8000000 in
theorem refMake_any (v : Value) (l : List ByteArray) (w : World) (hv : Slc w v (l.map Value.string)) (hl : l.length ≤ 1000) (hs : ∀ s ∈ l, s.size ≤ 100000) :
    Calls Tryd.prog 24 #[v] w fun e w' => ∃ A c, e = .returned (.agg #[.int .i64 0, .slice A l.length c]) ∧ Below w.heap.size w w' ∧ WSl w' (.slice A l.length c) (l.map mkW) := by
  obtain ⟨A, cap, rfl, _, _, hc⟩ := hv
  have hll : (l.map Value.string).length = l.length := by simp
  rw [hll]
  have HC := Lib.hid hc
  have HS := Lib.hid hs
  obtain ⟨i0, hi, hz0, hz1, hz2⟩ := info_parts infoWord6
  have hBa := fun (s : ByteArray) (h : s.size ≤ 100000) w => refBare_any s h w
  clear hc hll hs
  go_enter Tryd.func24, Tryd.ntmps24
  go_wp2
  go_loopw [4] (fun i wr => ∃ (k : Nat) (v : Value), k ≤ l.length ∧ i = .int .i64 (k : Int) ∧ Hid (Blk wr w.heap.size [.int .i64 0, .slice none 0 0]) ∧ Hid (Blk wr (w.heap.size + 1) [.int .i64 0, v]) ∧ Hid (wr.ownsRow (w.heap.size + 2) 31 3 v k (wcells ((l.take k).map mkW))) ∧ Below w.heap.size w wr) (fun i _ => l.length - (intOf i).toNat)
  case atStart =>
    exact ⟨0, _, Nat.zero_le _, rfl, Lib.hid ((Blk.is _ rfl).alloc _), Lib.hid (Blk.is _ (by simp)), Lib.hid (World.ownsRow_nil _ _ _ _), by go_grown⟩
  case round =>
    obtain ⟨k, v, hk, rfl, hK0, hK1, hO, hB⟩ := hrel
    obtain ⟨A', c', rfl⟩ := own_form hO.out
    by_cases hlt : k < l.length
    · obtain ⟨a, rfl, hab, hcell0⟩ := HC.out k (by simpa using hlt)
      rw [List.getElem_map] at hcell0
      have hcell : wr.cell? (a.add k) = some (.string l[k]) := (hB.cell (p := a.add k) (by rw [add_block]; exact hab)).trans hcell0
      have hi' : (k : Int) < (l.length : Int) := by omega
      have hBk := fun w => hBa l[k] (HS.out _ (List.getElem_mem hlt)) w
      have hsn := mkrow_snoc hlt
      have hmk : wcell (mkW l[k]) = [.bool (!bareB l[k].data.toList), .string l[k], .int .i64 0] := by
        have hss : strOf (mkW l[k]).2.1 = l[k] := (str_is rfl).symm
        show [_, Value.string (strOf (mkW l[k]).2.1), _] = _
        rw [hss]
        rfl
      rw [hmk] at hsn
      obtain ⟨b, hb⟩ : ∃ b, b = bareB l[k].data.toList := ⟨_, rfl⟩
      obtain ⟨s, hse⟩ : ∃ s, s = l[k] := ⟨_, rfl⟩
      rw [← hb] at hBk hsn
      rw [← hse] at hBk hsn hcell
      obtain ⟨us, hus⟩ : ∃ us, us = wcells ((l.take k).map mkW) := ⟨_, rfl⟩
      rw [← hus] at hsn hO
      have HSN := Lib.hid hsn
      have c0 := hK1.out.cell 0 _ rfl
      have c1 := hK1.out.cell 1 _ rfl
      have f1 := hK1.out.fr 1 _ rfl
      have hlt1 := hK1.out.lt
      clear hcell0 hb hse hus hsn hmk hBa
      go_wp2
      go_region_law (first
        | (refine step_append_lies _ rfl _ _ 41 rfl (w.heap.size + 2) 31 i0 (.agg #[.bool false, .string ⟨#[]⟩, .int .i64 0]) 3 32 Tryd.underlying41 hi hz0 hz1 hz2 rfl (by decide) _ _ _ rfl (hO.out.drew.alloc _) ⟨wr.heap.size, 0, none⟩ 1 1 [.bool (!b), .string s, .int .i64 0] rfl rfl (blk_cells (Blk.is (w := wr.drew) (us := [.bool (!b), .string s, .int .i64 0]) 31 rfl)) (by simp [Value.oneCell']) (by decide) (by unfold maxLen; omega) (by omega) (by have := hB.size; simp; omega) _ rfl ?_; intro g cap w1 hown' hgrow _ _; have hrw := Blk.grown ((hK1.out.drew).alloc _) hgrow (fun e => by have := (hO.out.lt _ e.symm).1; omega); have hrw0 := Blk.grown ((hK0.out.drew).alloc _) hgrow (fun e => by have := (hO.out.lt _ e.symm).1; omega); have d1 := hrw.cell 1 _ rfl; have e1 := hrw.fr 1 _ rfl; have ltd := hrw.lt; have HRW := Lib.hid hrw; have HRW0 := Lib.hid hrw0; have HOWN := Lib.hid hown'; have HGR := Lib.hid hgrow; clear hrw hrw0 hown' hgrow)
        | (go_simp; go_at_call 38; go_loud (refine (hBk _).mono ?_; rintro e w' ⟨rfl, rfl⟩)))
      all_goals
        have hb1 := HGR.out
        have hBn : Below w.heap.size wr w1 := below_grown hb1 hB.size fun g hg => by have := (hO.out.lt g hg).1; omega
        clear hb1
        go_wp2
        go_roundw
        case rel => exact ⟨k + 1, _, by omega, by go_num, Lib.hid (HRW0.out.other (by simp) _), Lib.hid (HRW.out.set 1 _), Lib.hid (own_set (by have := HOWN.out; rw [HSN.out] at this; exact this) (by omega) _ _), (hB.trans hBn).setCell (p := ⟨w.heap.size + 1, 1, none⟩) (by simp) _⟩
        case measure => simp [intOf]; omega
    · have hkz : k = l.length := by omega
      subst hkz
      have hi' : ¬ (l.length : Int) < (l.length : Int) := by omega
      have hO1 := hO.out
      rw [List.take_length] at hO1
      have HO1 := Lib.hid hO1
      have c0 := hK1.out.cell 0 _ rfl
      have c1 := hK1.out.cell 1 _ rfl
      have f0 := hK0.out.fr 0 _ rfl
      have f1 := hK0.out.fr 1 _ rfl
      have g0 := hK0.out.cell 0 _ rfl
      have g1 := hK0.out.cell 1 _ rfl
      clear hO1
      go_wp2
      refine named_post fun V hV => ?_
      have hV0 : Blk V w.heap.size [.int .i64 0, .slice A' l.length c'] := by rw [hV]; exact (hK0.out.set 0 _).set 1 _
      have hVB : Below w.heap.size w V := by rw [hV]; exact (hB.setCell (p := ⟨w.heap.size, 0, none⟩) (by simp) _).setCell (p := ⟨w.heap.size, 1, none⟩) (by simp) _
      have hVO : V.ownsRow (w.heap.size + 2) 31 3 (.slice A' l.length c') l.length (wcells (l.map mkW)) := by rw [hV]; exact own_set (own_set HO1.out (by omega) _ _) (by omega) _ _
      clear hV c0 c1 f0 f1 g0 g1
      have c0 := hV0.cell 0 _ rfl
      have c1 := hV0.cell 1 _ rfl
      refine bodyPost_ret (v := .agg #[.int .i64 0, .slice A' l.length c']) (by simp [results, Tryd.results24, go_sem, c0, c1]; try rfl) rfl ⟨_, _, rfl, hVB, ?_⟩
      have := Sl.of_own hVO
      unfold WSl
      rw [List.length_map]
      exact this
end Go.Proofs.YtkmkhegekonbmaaDoor
