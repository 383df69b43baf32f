/- Walks: the program's rows that are made of texts. -/
import Derived.Test.YtkmkhegekonbmaaDoorRowEE
import Derived.Laws.MakeOwn
namespace Go.Proofs.YtkmkhegekonbmaaDoor
open Go.RowKit
open Rw6

/-- make of a slice whose elements have several cells. -/
theorem run_make_many {P : Program} (t e : TypeId) (i : TypeInfo) (z : Value) (ht : P.underlying t = some (.slice e)) (hi : P.info? e = some i) (hz : i.zero = some z)
    (kl kc : IntKind) (n c : Nat) (hnc : n ≤ c) (hbytes : i.bytes * c ≤ 281474976710656) (h63 : c ≤ 9223372036854775807) (w : World) :
    (Instr.makeSlice t (.int kl (n : Int)) (.int kc (c : Int))).run P w = .ok (.slice (some ⟨w.heap.size, 0, none⟩) n c) (w.alloc (.cells (madeCells z.cells (c * i.size)) e)) := by
  have hb : (i.bytes : Int) * (c : Int) ≤ 281474976710656 := by
    have h : ((i.bytes * c : Nat) : Int) ≤ 281474976710656 := by omega
    rwa [Int.natCast_mul] at h
  have hr := run_make (P := P) w t e i z ht hi hz kl kc n c (by omega) (by omega) hb (by omega)
  simp only [Int.toNat_natCast] at hr
  exact hr
/-- The word that a text becomes. -/
def mkW (s : ByteArray) : Wd := (!bareB s.data.toList, s.data.toList, 0)
def zw : Wd := (false, [], 0)
theorem set3 (A R : List Wd) (x y : Wd) (k : Nat) (hk : A.length = k) : (((wcells (A ++ y :: R)).set (k * 3) (.bool x.1)).set (k * 3 + 1) (.string (strOf x.2.1))).set (k * 3 + 2) (.int .i64 x.2.2) = wcells (A ++ x :: R) := by
  rw [wcells_app, wcells_app]
  have hl : (wcells A).length = k * 3 := by rw [wcells_len, hk]
  have e : ∀ (z : Wd), wcells (z :: R) = wcell z ++ wcells R := fun z => rfl
  rw [e, e]
  rw [List.set_append_right _ _ (by omega), List.set_append_right _ _ (by omega), List.set_append_right _ _ (by omega), hl]
  have h0 : k * 3 - k * 3 = 0 := by omega
  have h1 : k * 3 + 1 - k * 3 = 1 := by omega
  have h2 : k * 3 + 2 - k * 3 = 2 := by omega
  rw [h0, h1, h2]
  rfl
theorem made_zero (n : Nat) : (madeCells #[.bool false, .string ⟨#[]⟩, .int .i64 0] (n * 3)).toList = wcells (List.replicate n zw) := by
  apply List.ext_getElem?
  intro j
  by_cases hj : j < n * 3
  · have hk : j / 3 < (List.replicate n zw).length := by rw [List.length_replicate]; omega
    have h1 := flat_get (f := wcell) (n := 3) (fun _ => rfl) (List.replicate n zw) (j / 3) hk (j % 3) (by omega)
    have e : j / 3 * 3 + j % 3 = j := by omega
    rw [e, List.getElem_replicate] at h1
    show _ = ((List.replicate n zw).flatMap wcell)[j]?
    rw [h1]
    have h3 : j % 3 = 0 ∨ j % 3 = 1 ∨ j % 3 = 2 := by omega
    rcases h3 with h | h | h
    all_goals
      simp only [madeCells, Array.toList_map, Array.toList_range, List.getElem?_map, List.getElem?_range hj, Option.map_some]
      have hs : (#[Value.bool false, Value.string ⟨#[]⟩, Value.int .i64 0] : Array Value).size = 3 := rfl
      rw [hs, h]
      rfl
  · rw [List.getElem?_eq_none (by rw [Array.length_toList, size_madeCells]; omega), List.getElem?_eq_none (by rw [wcells_len, List.length_replicate]; omega)]
theorem mk_take {l : List ByteArray} {k : Nat} (h : k < l.length) : wcells ((l.take k).map mkW ++ mkW l[k] :: List.replicate (l.length - (k + 1)) zw) = wcells ((l.take (k + 1)).map mkW ++ List.replicate (l.length - (k + 1)) zw) := by
  rw [take_snoc l k h, List.map_append, List.append_assoc]
  rfl
theorem mk_rest {l : List ByteArray} {k : Nat} (h : k < l.length) : (l.take k).map mkW ++ List.replicate (l.length - k) zw = (l.take k).map mkW ++ zw :: List.replicate (l.length - (k + 1)) zw := by
  have e : l.length - k = (l.length - (k + 1)) + 1 := by omega
  rw [e, List.replicate_succ]
theorem mk_at (A R : List Wd) (k : Nat) (hk : A.length = k) : (wcells (A ++ zw :: R))[k * 3]? = some (.bool false) ∧ (wcells (A ++ zw :: R))[k * 3 + 1]? = some (.string ⟨#[]⟩) ∧ (wcells (A ++ zw :: R))[k * 3 + 2]? = some (.int .i64 0) := by
  have hl : k < (A ++ zw :: R).length := by rw [List.length_append, List.length_cons]; omega
  have h := wcells_get hl
  have e : (A ++ zw :: R)[k] = zw := by
    rw [List.getElem_append_right (by omega)]
    simp [hk]
  rw [e] at h
  exact h
set_option maxRecDepth 100000 in
set_option maxHeartbeats 4000000 in
theorem make_is (v : Value) (l : List ByteArray) (w : World) (hv : Slc w v (l.map Value.string)) (hl : l.length ≤ 1000) (hs : ∀ s ∈ l, s.size ≤ 100000) :
    Calls Tryd.prog 23 #[v] w fun e w' => ∃ A c, e = .returned (.agg #[.int .i64 0, .slice A l.length c]) ∧ Below w.heap.size w w' ∧ w'.ownsRow w.heap.size 31 3 (.slice A l.length c) l.length (wcells (l.map mkW)) := by
  obtain ⟨A, cap, rfl, _, _, hc⟩ := hv
  have hll : (l.map Value.string).length = l.length := by simp
  rw [hll]
  have HC := Lib.hid hc
  have HS := Lib.hid hs
  obtain ⟨i0, hi, hz0, hz1, hz2⟩ := info_parts infoWord6
  have hmk := fun W => run_make_many (P := Tryd.prog) 41 31 i0 (.agg #[.bool false, .string ⟨#[]⟩, .int .i64 0]) Tryd.underlying41 hi hz0 .i64 .i64 l.length l.length (Nat.le_refl _) (by rw [hz2]; omega) (by omega) W
  rw [hz1] at hmk
  have hBa := fun (s : ByteArray) (h : s.size ≤ 100000) w => bare_any s h w
  clear hc hll hs
  go_enter Tryd.func23, Tryd.ntmps23
  go_wp2
  clear hmk
  go_loopw [11] (fun i wr => ∃ k : Nat, k ≤ l.length ∧ i = .int .i64 (k : Int) ∧ Hid (Blk wr w.heap.size [.int .i64 0, .slice none 0 0]) ∧ Hid (wr.ownsRow (w.heap.size + 1) 31 3 (.slice (some ⟨w.heap.size + 1, 0, none⟩) l.length l.length) l.length (wcells ((l.take k).map mkW ++ List.replicate (l.length - k) zw))) ∧ Below w.heap.size w wr) (fun i _ => l.length - (intOf i).toNat)
  case atStart =>
    refine ⟨0, Nat.zero_le _, rfl, Lib.hid ((Blk.is _ rfl).alloc _), Lib.hid ?_, by go_grown⟩
    have h1 := World.ownsRow_lit (base := w.heap.size + 1) (e := 31) (size := 3) (w.alloc (.cells #[.int .i64 0, .slice none 0 0] 43)) (madeCells #[.bool false, .string ⟨#[]⟩, .int .i64 0] (l.length * 3)) l.length (by simp) (by unfold maxLen; omega) (by rw [size_madeCells])
    rw [made_zero] at h1
    simp only [World.size_alloc] at h1
    exact h1
  case round =>
    obtain ⟨k, hk, rfl, hK, hO, hB⟩ := hrel
    by_cases hlt : k < l.length
    · obtain ⟨a, rfl, hab, hcell0⟩ := HC.out k (by simpa using hlt)
      rw [List.getElem_map] at hcell0
      have hcell : wr.cell? (a.add k) = some (.string l[k]) := (hB.cell (p := a.add k) (by rw [add_block]; exact hab)).trans hcell0
      have hi' : (k : Int) < (l.length : Int) := by omega
      have hBk := fun w => hBa l[k] (HS.out _ (List.getElem_mem hlt)) w
      have hO1 := hO.out
      rw [mk_rest hlt] at hO1
      have hkl : ((l.take k).map mkW).length = k := by rw [List.length_map, List.length_take]; omega
      obtain ⟨m0, m1, m2⟩ := mk_at ((l.take k).map mkW) (List.replicate (l.length - (k + 1)) zw) k hkl
      have d0 := (hO1.cellAt (k * 3) (by omega)).trans m0
      have d1 := (hO1.cellAt (k * 3 + 1) (by omega)).trans m1
      have d2 := (hO1.cellAt (k * 3 + 2) (by omega)).trans m2
      have e0 := hO1.frozenAt (k * 3)
      have e1 := hO1.frozenAt (k * 3 + 1)
      have e2 := hO1.frozenAt (k * 3 + 2)
      have hS3 := ((hO1.stored (k * 3) (.bool (mkW l[k]).1)).1.stored (k * 3 + 1) (.string (strOf (mkW l[k]).2.1))).1.stored (k * 3 + 2) (.int .i64 (mkW l[k]).2.2)
      rw [set3 _ _ _ _ k hkl, mk_take hlt] at hS3
      have hbs : (mkW l[k]).1 = !bareB l[k].data.toList := rfl
      have hss : strOf (mkW l[k]).2.1 = l[k] := (str_is rfl).symm
      have hzz : (mkW l[k]).2.2 = 0 := rfl
      rw [hbs, hss, hzz] at hS3
      have HS3 := Lib.hid hS3.1
      have hlw := (hO1.lt _ rfl).2
      obtain ⟨bb, hbb⟩ : ∃ bb, bb = bareB l[k].data.toList := ⟨_, rfl⟩
      rw [← hbb] at hBk HS3
      clear hcell0 hO1 m0 m1 m2 hS3 hbs hss hzz hkl hbb hBa
      go_wp2_with (go_at_call 29; refine (hBk _).mono ?_; rintro e w' ⟨rfl, rfl⟩)
      go_roundw
      case rel => exact ⟨k + 1, by omega, by go_num, Lib.hid (((hK.out.other (by simp) _).other (by simp) _).other (by simp) _), HS3, ((hB.setCell (p := ⟨w.heap.size + 1, _, none⟩) (by simp) _).setCell (p := ⟨w.heap.size + 1, _, none⟩) (by simp) _).setCell (p := ⟨w.heap.size + 1, _, none⟩) (by simp) _⟩
      case measure => simp [intOf]; omega
    · have hkz : k = l.length := by omega
      subst hkz
      have hi' : ¬ (l.length : Int) < (l.length : Int) := by omega
      have hO1 := hO.out
      rw [Nat.sub_self, List.replicate_zero, List.append_nil, List.take_length] at hO1
      have HO1 := Lib.hid hO1
      have c0 := hK.out.cell 0 _ rfl
      have c1 := hK.out.cell 1 _ rfl
      have f0 := hK.out.fr 0 _ rfl
      have f1 := hK.out.fr 1 _ rfl
      clear hO1
      go_wp2
      refine named_post fun V hV => ?_
      have hV0 : Blk V w.heap.size [.int .i64 0, .slice (some ⟨w.heap.size + 1, 0, none⟩) l.length l.length] := by rw [hV]; exact (hK.out.set 0 _).set 1 _
      have hVB : Below w.heap.size w V := by rw [hV]; exact (hB.setCell (p := ⟨w.heap.size, 0, none⟩) (by simp) _).setCell (p := ⟨w.heap.size, 1, none⟩) (by simp) _
      have hVO : V.ownsRow (w.heap.size + 1) 31 3 (.slice (some ⟨w.heap.size + 1, 0, none⟩) l.length l.length) l.length (wcells (l.map mkW)) := by rw [hV]; exact own_set (own_set HO1.out (by omega) _ _) (by omega) _ _
      clear hV c0 c1 f0 f1
      have c0 := hV0.cell 0 _ rfl
      have c1 := hV0.cell 1 _ rfl
      exact bodyPost_ret (v := .agg #[.int .i64 0, .slice (some ⟨w.heap.size + 1, 0, none⟩) l.length l.length]) (by simp [results, Tryd.results23, go_sem, c0, c1]; try rfl) rfl ⟨_, _, rfl, hVB, own_mono hVO (by omega)⟩
end Go.Proofs.YtkmkhegekonbmaaDoor
