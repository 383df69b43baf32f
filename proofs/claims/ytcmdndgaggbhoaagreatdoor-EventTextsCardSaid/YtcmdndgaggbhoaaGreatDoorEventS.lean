/- Walks: IdText, Read, ReadId. -/
import Derived.Test.YtcmdndgaggbhoaaGreatDoorEventQ
import Derived.Test.YtcmdndgaggbhoaaGreatDoorEventR
import Derived.Test.YtcmdndgaggbhoaaGreatDoorEventU
import Derived.Test.YtcmdndgaggbhoaaGreatDoorEventK
import Derived.Test.YtcmdndgaggbhoaaGreatDoorEventC
import Derived.Deep.RegionHeld3
namespace Go.Proofs.YtcmdndgaggbhoaaGreatDoor.Ev
open Go.RowKit Go.Shelf
open Lb

/-- The text of an Id. -/
def idT (l n : Nat) : List UInt8 := textOf (cats l) ++ [35] ++ Lib.decDigits n
def idTextE (l n : Nat) : ByteArray × Int := if isCountB n = true then (strOf (idT l n), 0) else (⟨#[]⟩, 2)
theorem dec_size (n : Nat) (h : n < 18446744073709551616) : (strOf (Lib.decDigits n)).size ≤ 20 := by
  have h1 : (strOf (Lib.decDigits n)).size = Lib.nDigits n := by
    show (Lib.decDigits n).toArray.size = _
    rw [List.size_toArray, Lib.decDigits_length]
  rw [h1]
  by_cases h0 : n = 0
  · subst h0; rw [Lib.nDigits_small (by decide)]; decide
  · have := Lib.numDigits_eq n (by omega) h
    split at this <;> omega
/-- What a region holds fast beside the tables and what lay: two cells. -/
theorem held2t {P : Program} {f : FuncId} {args : Array Value} {v : Value} {W wx : World} {a0 a1 : Addr} {c0 c1 : Value} (hc : ∀ w, Tab2 w → Calls P f args w fun e w' => e = .returned v ∧ Below w.heap.size w w')
    (h0 : wx.cell? a0 = some c0) (h1 : wx.cell? a1 = some c1) (ht : Tab2 wx) (h4 : Below W.heap.size W wx) :
    Calls P f args wx fun e w' => e = .returned v ∧ w'.cell? a0 = some c0 ∧ w'.cell? a1 = some c1 ∧ Tab2 w' ∧ Below W.heap.size W w' :=
  (hc wx ht).mono fun _ w' hh =>
    have hl : ∀ {p : Addr} {v : Value}, wx.cell? p = some v → w'.cell? p = some v := fun {_ _} h => (hh.2.cell (World.block_lt_of_cell? wx _ h)).trans h
    ⟨hh.1, hl h0, hl h1, ht.below hh.2, bstep h4 hh.2⟩
attribute [local go_sem] tab2_drew below_drew_eq
attribute [local simp] tab2_drew below_drew_eq
set_option maxHeartbeats 2000000 in
theorem idTextYes (l n : Nat) (hl : l < 18446744073709551616) (hn : n < 18446744073709551616) (hk : isCountB n = true) (w : World) (ht : Tab2 w) :
    Calls Tryz.prog 10 #[idv l n] w fun e w' => e = .returned (.tuple #[.string (strOf (idT l n)), .int .i64 0]) ∧ Below w.heap.size w w' := by
  have hC := checkId_is (l : Int) (by omega) (show checkIdI (n : Int) = 0 by simp [checkIdI, hk])
  have hT := labelText_any l hl
  have hTs := text_size l
  have hI := formatUint_any n hn
  have hIs := dec_size n hn
  have hres : (strOf (textOf (cats l)) ++ ⟨#[35]⟩ ++ strOf (Lib.decDigits n)) = strOf (idT l n) := by
    apply ByteArray.ext
    simp [strOf, idT]
  rw [← hres]
  clear hres hk hl hn
  obtain ⟨T, hTe⟩ : ∃ T, T = strOf (textOf (cats l)) := ⟨_, rfl⟩
  obtain ⟨I, hIe⟩ : ∃ T, T = strOf (Lib.decDigits n) := ⟨_, rfl⟩
  rw [← hTe, ← hIe]
  rw [← hTe] at hT hTs
  rw [← hIe] at hI hIs
  clear hTe hIe
  obtain ⟨A1, hA1⟩ : ∃ A, A = T ++ ⟨#[35]⟩ := ⟨_, rfl⟩
  obtain ⟨A2, hA2⟩ : ∃ A, A = A1 ++ I := ⟨_, rfl⟩
  have z1 : A1.size ≤ 195 := by rw [hA1, ByteArray.size_append']; show T.size + 1 ≤ 195; omega
  have s1 : ∀ w, (Op.stringOp .add T ⟨#[35]⟩).run Tryz.prog w = .ok (.string A1) w := fun w => by rw [hA1]; exact run_string_add_sum w T _ (by show T.size + 1 ≤ _; omega)
  have s2 : ∀ w, (Op.stringOp .add A1 I).run Tryz.prog w = .ok (.string A2) w := fun w => by rw [hA2]; exact run_string_add_sum w A1 _ (by omega)
  rw [show T ++ ⟨#[35]⟩ ++ I = A2 by rw [hA2, hA1]]
  clear hA1 hA2 z1 hTs hIs
  obtain ⟨m, hm⟩ : ∃ m : Int, m = (l : Int) := ⟨_, rfl⟩
  obtain ⟨q, hq⟩ : ∃ m : Int, m = (n : Int) := ⟨_, rfl⟩
  rw [← hm] at hT hC ⊢
  rw [← hq] at hI hC ⊢
  clear hm hq
  simp only [idv] at hC ⊢
  go_enter Tryz.func10, Tryz.ntmps10
  go_wp2_with fail
  refine named fun W hW => ?_
  have hB : Below w.heap.size w W := by rw [hW]; go_grown
  have hE : Blk W w.heap.size [.int .u64 m, .int .u64 q] := by rw [hW]; exact Blk.is _ rfl
  clear hW
  refine (hC _).mono ?_
  rintro e w1 ⟨rfl, hb1⟩
  replace hB := bstep hB hb1
  replace hE := hE.later hb1
  have ht1 : Tab2 w1 := ht.below hB
  clear hb1 hC ht
  go_wp2_with fail
  have c0 := hE.cell 0 _ rfl
  have c1 := hE.cell 1 _ rfl
  clear hE
  go_region_held3 (fun w' => w'.cell? ⟨w.heap.size, 0, none⟩ = some (.int .u64 m) ∧ w'.cell? ⟨w.heap.size, 1, none⟩ = some (.int .u64 q) ∧ Tab2 w' ∧ Below w.heap.size w w') (go_keep)
    (first
      | (go_at_call 32; refine (held2t (W := w) (a0 := ⟨w.heap.size, 0, none⟩) (a1 := ⟨w.heap.size, 1, none⟩) (c0 := .int .u64 m) (c1 := .int .u64 q) hT ?_ ?_ ?_ ?_).mono ?_; (simp [*]); (simp [*]); (simp [*]); (simp [*]); rintro e w9 ⟨rfl, g0, g1, g3, g4⟩)
      | (go_at_call 33; refine (held2t (W := w) (a0 := ⟨w.heap.size, 0, none⟩) (a1 := ⟨w.heap.size, 1, none⟩) (c0 := .int .u64 m) (c1 := .int .u64 q) hI ?_ ?_ ?_ ?_).mono ?_; (simp [*]); (simp [*]); (simp [*]); (simp [*]); rintro e w9 ⟨rfl, g0, g1, g3, g4⟩))
  go_wp2
  go_ret2
  exact ⟨rfl, g4⟩
set_option maxHeartbeats 1000000 in
theorem idTextNo (l n : Int) (hn : 0 ≤ n) (hk : isCountB n = false) (w : World) :
    Calls Tryz.prog 10 #[idv l n] w fun e w' => e = .returned (.tuple #[.string ⟨#[]⟩, .int .i64 2]) ∧ Below w.heap.size w w' := by
  have hC := checkId_is l hn (show checkIdI n = 2 by simp [checkIdI, hk])
  clear hk hn
  simp only [idv] at hC ⊢
  go_enter Tryz.func10, Tryz.ntmps10
  go_wp2_with fail
  refine (hC _).mono ?_
  rintro e w1 ⟨rfl, hb1⟩
  go_wp2
  go_ret2
  exact ⟨rfl, bstep (by go_grown) hb1⟩
theorem idText_any (l n : Nat) (hl : l < 18446744073709551616) (hn : n < 18446744073709551616) (w : World) (ht : Tab2 w) :
    Calls Tryz.prog 10 #[idv l n] w fun e w' => e = .returned (.tuple #[.string (idTextE l n).1, .int .i64 (idTextE l n).2]) ∧ Below w.heap.size w w' := by
  unfold idTextE
  by_cases hk : isCountB (n : Int) = true
  · rw [if_pos hk]
    exact idTextYes l n hl hn hk w ht
  · rw [if_neg hk]
    exact idTextNo l n (by omega) (by simpa using hk) w
theorem parseI_nat (s : ByteArray) : ∃ n : Nat, n < 18446744073709551616 ∧ (parseI s).1 = (n : Int) := by
  by_cases h : (parseI s).2.1 = 0
  · obtain ⟨n, h1, h2, _⟩ := parse_back s h
    exact ⟨n, h1, h2⟩
  · refine ⟨0, by decide, ?_⟩
    unfold parseI at h ⊢
    split
    · rfl
    · split
      · rfl
      · rename_i h1 h2
        rw [if_neg h1, if_neg h2] at h
        exact absurd rfl h
/-- What Read takes for the parts of a text. -/
def rK (s : ByteArray) : Int := (kindI (strOf (cutA s.data.toList 32))).1
def rL (s : ByteArray) : Nat := (parseI (strOf (cutA (cutR s.data.toList 32) 32))).1.toNat
def rV (s : ByteArray) : Int := valI (strOf (cutR (cutR s.data.toList 32) 32))
def readV (s : ByteArray) : Value := if strOf (evT (rL s) (rK s) (rV s)) = s then .tuple #[ev (rL s) (rK s) (rV s), .int .i64 0] else .tuple #[ev 0 0 0, .int .i64 3]
def iL (s : ByteArray) : Nat := (parseI (strOf (cutA s.data.toList 35))).1.toNat
def iN (s : ByteArray) : Nat := (valU (strOf (cutR s.data.toList 35))).toNat
def readIdV (s : ByteArray) : Value := if isCountB (iN s) = true ∧ strOf (idT (iL s) (iN s)) = s then .tuple #[idv (iL s) (iN s), .int .i64 0] else .tuple #[idv 0 0, .int .i64 3]
theorem rL_is (s : ByteArray) : (parseI (strOf (cutA (cutR s.data.toList 32) 32))).1 = (rL s : Int) ∧ rL s < 18446744073709551616 := by
  obtain ⟨n, h1, h2⟩ := parseI_nat (strOf (cutA (cutR s.data.toList 32) 32))
  unfold rL
  rw [h2]
  exact ⟨by omega, by omega⟩
theorem iL_is (s : ByteArray) : (parseI (strOf (cutA s.data.toList 35))).1 = (iL s : Int) ∧ iL s < 18446744073709551616 := by
  obtain ⟨n, h1, h2⟩ := parseI_nat (strOf (cutA s.data.toList 35))
  unfold iL
  rw [h2]
  exact ⟨by omega, by omega⟩
theorem iN_is (s : ByteArray) : valU (strOf (cutR s.data.toList 35)) = (iN s : Int) ∧ iN s < 18446744073709551616 := by
  have := valU_bounds (strOf (cutR s.data.toList 35))
  unfold iN
  exact ⟨by omega, by omega⟩
theorem rK_is (s : ByteArray) : isKindB (rK s) = true := by
  unfold rK
  rcases kindI_cases (strOf (cutA s.data.toList 32)) with ⟨j, hj, _, h⟩ | ⟨_, h⟩
  · rw [h]; exact isKindB_iff.2 (by omega)
  · rw [h]; decide
theorem cut_len (l : List UInt8) (c : UInt8) : (cutA l c).length ≤ l.length ∧ (cutR l c).length ≤ l.length := by
  by_cases h : c ∈ l
  · obtain ⟨_, h2⟩ := index_some h
    have := congrArg List.length h2
    rw [List.length_append, List.length_cons] at this
    omega
  · obtain ⟨_, h2, h3⟩ := index_none h
    rw [h2, h3]
    exact ⟨Nat.le_refl _, Nat.zero_le _⟩
theorem strOf_len (l : List UInt8) : (strOf l).size = l.length := by
  show l.toArray.size = _
  simp
set_option maxHeartbeats 4000000 in
theorem evRead_any (s : ByteArray) (w : World) (ht : Tab3 w) (hs : s.size ≤ 10000) :
    Calls Tryz.prog 9 #[.string s] w fun e w' => e = .returned (readV s) ∧ Below w.heap.size w w' := by
  have q0 : s.data.toList.length = s.size := bytes_size s
  have q1 := cut_len s.data.toList 32
  have q2 := cut_len (cutR s.data.toList 32) 32
  have hC1 := fun w => cut_any s 32 w (by omega)
  have hC2 := fun w => cut_any (strOf (cutR s.data.toList 32)) 32 w (by rw [strOf_len]; omega)
  rw [strOf_data] at hC2
  have hK := fun w => kind_any (strOf (cutA s.data.toList 32)) w
  have hP := fun w => Go.Proofs.YtcmdndgaggbhoaaGreatDoor.parse_any (strOf (cutA (cutR s.data.toList 32) 32)) w (by rw [strOf_len]; omega)
  have hV := fun w ht => parseInt_any (strOf (cutR (cutR s.data.toList 32) 32)) (by rw [strOf_len]; omega) w ht
  unfold OutSome at hV
  obtain ⟨hl, hl2⟩ := rL_is s
  have hkB := rK_is s
  have hvb := valI_bounds (strOf (cutR (cutR s.data.toList 32) 32))
  have hText := fun w ht => textYes (rL s) (rK s) (rV s) hl2 hkB hvb.1 hvb.2 w ht
  rw [hl] at hP
  unfold readV
  have hkE : (kindI (strOf (cutA s.data.toList 32))).1 = rK s := rfl
  have hvE : valI (strOf (cutR (cutR s.data.toList 32) 32)) = rV s := rfl
  rw [hkE] at hK
  rw [hvE] at hV
  obtain ⟨L, hL⟩ : ∃ L, L = strOf (cutA s.data.toList 32) := ⟨_, rfl⟩
  obtain ⟨M, hM⟩ : ∃ L, L = strOf (cutA (cutR s.data.toList 32) 32) := ⟨_, rfl⟩
  obtain ⟨D, hD⟩ : ∃ L, L = strOf (cutR (cutR s.data.toList 32) 32) := ⟨_, rfl⟩
  obtain ⟨R, hR0⟩ : ∃ L, L = strOf (cutR s.data.toList 32) := ⟨_, rfl⟩
  rw [← hL] at hC1 hK
  rw [← hR0] at hC1 hC2
  rw [← hM] at hC2 hP
  rw [← hD] at hC2 hV
  obtain ⟨l, hle⟩ : ∃ l : Int, l = (rL s : Int) := ⟨_, rfl⟩
  obtain ⟨k, hke⟩ : ∃ k, k = rK s := ⟨_, rfl⟩
  obtain ⟨v, hve⟩ : ∃ v, v = rV s := ⟨_, rfl⟩
  obtain ⟨t, hte⟩ : ∃ t, t = strOf (evT (rL s) (rK s) (rV s)) := ⟨_, rfl⟩
  rw [← hte, ← hle, ← hke, ← hve] at hText ⊢
  rw [← hle] at hP
  rw [← hke] at hK
  rw [← hve] at hV
  clear hle hke hve hte hL hM hD hR0 hl hl2 hkB hvb hkE hvE q0 q1 q2
  obtain ⟨b1, hb1⟩ : ∃ b, b = decide (32 ∈ s.data.toList) := ⟨_, rfl⟩
  obtain ⟨b2, hb2⟩ : ∃ b, b = decide (32 ∈ cutR s.data.toList 32) := ⟨_, rfl⟩
  rw [← hb1] at hC1
  rw [← hb2] at hC2
  clear hb1 hb2
  obtain ⟨ke, hke⟩ : ∃ z, z = (kindI L).2 := ⟨_, rfl⟩
  rw [← hke] at hK
  obtain ⟨pe, hpe⟩ : ∃ z, z = (parseI M).2.1 := ⟨_, rfl⟩
  obtain ⟨pa, hpa⟩ : ∃ z, z = (parseI M).2.2 := ⟨_, rfl⟩
  rw [← hpe, ← hpa] at hP
  clear hke hpe hpa
  by_cases h : t = s
  · subst h
    rw [if_pos rfl]
    simp only [ev] at hText ⊢
    go_enter Tryz.func9, Tryz.ntmps9
    go_wp2_with fail
    refine named fun W hW => ?_
    have hB : Below w.heap.size w W := by rw [hW]; go_grown
    have hR : Blk W w.heap.size [.int .u64 0, .int .i64 0, .int .i64 0] := by rw [hW]; exact Blk.is _ rfl
    have ht1 := ht.below hB
    clear hW ht
    refine (hC1 _).mono ?_
    rintro e w1 ⟨rfl, hb1⟩
    replace hB := bstep hB hb1
    replace hR := hR.later hb1
    replace ht1 := ht1.below hb1
    clear hb1
    go_wp2_with fail
    refine (hC2 _).mono ?_
    rintro e w2 ⟨rfl, hb2⟩
    replace hB := bstep hB hb2
    replace hR := hR.later hb2
    replace ht1 := ht1.below hb2
    clear hb2
    go_wp2_with fail
    refine (hK _).mono ?_
    rintro e w3 ⟨rfl, hb3⟩
    replace hB := bstep hB hb3
    replace hR := hR.later hb3
    replace ht1 := ht1.below hb3
    clear hb3
    go_wp2_with fail
    refine (hP _).mono ?_
    rintro e w4 ⟨rfl, hb4⟩
    replace hB := bstep hB hb4
    replace hR := hR.later hb4
    replace ht1 := ht1.below hb4
    clear hb4
    go_wp2_with fail
    refine named fun W1 hW => ?_
    replace hR : Blk W1 w.heap.size [.int .u64 0, .int .i64 0, .int .i64 0] := by rw [hW]; exact hR.alloc _
    have hB1 : Below w.heap.size w W1 := by rw [hW]; exact hB.alloc hB.size _
    replace ht1 : Tab3 W1 := by rw [hW]; exact ht1.alloc _
    clear hW hB
    have hB := hB1
    clear hB1
    refine (hV _ ht1).mono ?_
    rintro e w5 ⟨x, rfl, hb5⟩
    replace hB := bstep hB hb5
    replace hR := hR.later hb5
    replace ht1 := ht1.below hb5
    clear hb5
    go_wp2_with fail
    refine named fun W2 hW => ?_
    have hX : Blk W2 w5.heap.size [.int .u64 l, .int .i64 k, .int .i64 v] := by rw [hW]; exact Blk.is _ rfl
    have hltR := hR.lt
    replace hR : Blk W2 w.heap.size [.int .u64 0, .int .i64 0, .int .i64 0] := by rw [hW]; exact hR.alloc _
    have hB1 : Below w.heap.size w W2 := by rw [hW]; exact hB.alloc hB.size _
    replace ht1 : Tab3 W2 := by rw [hW]; exact ht1.alloc _
    obtain ⟨X, hXe⟩ : ∃ X, X = w5.heap.size := ⟨_, rfl⟩
    rw [← hXe] at hX ⊢ hltR
    clear hW hXe hB
    have hB := hB1
    clear hB1
    refine (hText _ ht1.1).mono ?_
    rintro e w8 ⟨rfl, hb8⟩
    replace hB := bstep hB hb8
    replace hR := hR.later hb8
    replace hX := hX.later hb8
    clear hb8 ht1
    have r0 := hR.cell 0 _ rfl
    have rf0 := hR.fr 0 _ rfl
    have x0 := hX.cell 0 _ rfl
    have r1 := hR.cell 1 _ rfl
    have rf1 := hR.fr 1 _ rfl
    have x1 := hX.cell 1 _ rfl
    have r2 := hR.cell 2 _ rfl
    have rf2 := hR.fr 2 _ rfl
    have x2 := hX.cell 2 _ rfl
    have hltR2 := hR.lt
    go_wp2
    refine named_post fun V hV => ?_
    have hVR : Blk V w.heap.size [.int .u64 l, .int .i64 k, .int .i64 v] := by rw [hV]; exact (((hR.set 0 _).set 1 _).set 2 _)
    have hVB : Below w.heap.size w V := by rw [hV]; exact (((hB).setCell (p := ⟨w.heap.size, 0, none⟩) (Nat.le_refl _) _).setCell (p := ⟨w.heap.size, 1, none⟩) (Nat.le_refl _) _).setCell (p := ⟨w.heap.size, 2, none⟩) (Nat.le_refl _) _
    clear hV r0 rf0 r1 rf1 r2 rf2 x0 x1 x2
    have d0 := hVR.cell 0 _ rfl
    have d1 := hVR.cell 1 _ rfl
    have d2 := hVR.cell 2 _ rfl
    refine bodyPost_ret (by simp [results, Tryz.results9, go_sem, d0, d1, d2]; try rfl) rfl ?_
    exact ⟨rfl, hVB⟩
  · rw [if_neg h]
    have hb : (t.toList == s.toList) = false := str_ne h
    clear h
    simp only [ev] at hText ⊢
    go_enter Tryz.func9, Tryz.ntmps9
    go_wp2_with fail
    refine named fun W hW => ?_
    have hB : Below w.heap.size w W := by rw [hW]; go_grown
    have hR : Blk W w.heap.size [.int .u64 0, .int .i64 0, .int .i64 0] := by rw [hW]; exact Blk.is _ rfl
    have ht1 := ht.below hB
    clear hW ht
    refine (hC1 _).mono ?_
    rintro e w1 ⟨rfl, hb1⟩
    replace hB := bstep hB hb1
    replace hR := hR.later hb1
    replace ht1 := ht1.below hb1
    clear hb1
    go_wp2_with fail
    refine (hC2 _).mono ?_
    rintro e w2 ⟨rfl, hb2⟩
    replace hB := bstep hB hb2
    replace hR := hR.later hb2
    replace ht1 := ht1.below hb2
    clear hb2
    go_wp2_with fail
    refine (hK _).mono ?_
    rintro e w3 ⟨rfl, hb3⟩
    replace hB := bstep hB hb3
    replace hR := hR.later hb3
    replace ht1 := ht1.below hb3
    clear hb3
    go_wp2_with fail
    refine (hP _).mono ?_
    rintro e w4 ⟨rfl, hb4⟩
    replace hB := bstep hB hb4
    replace hR := hR.later hb4
    replace ht1 := ht1.below hb4
    clear hb4
    go_wp2_with fail
    refine named fun W1 hW => ?_
    replace hR : Blk W1 w.heap.size [.int .u64 0, .int .i64 0, .int .i64 0] := by rw [hW]; exact hR.alloc _
    have hB1 : Below w.heap.size w W1 := by rw [hW]; exact hB.alloc hB.size _
    replace ht1 : Tab3 W1 := by rw [hW]; exact ht1.alloc _
    clear hW hB
    have hB := hB1
    clear hB1
    refine (hV _ ht1).mono ?_
    rintro e w5 ⟨x, rfl, hb5⟩
    replace hB := bstep hB hb5
    replace hR := hR.later hb5
    replace ht1 := ht1.below hb5
    clear hb5
    go_wp2_with fail
    refine named fun W2 hW => ?_
    have hX : Blk W2 w5.heap.size [.int .u64 l, .int .i64 k, .int .i64 v] := by rw [hW]; exact Blk.is _ rfl
    have hltR := hR.lt
    replace hR : Blk W2 w.heap.size [.int .u64 0, .int .i64 0, .int .i64 0] := by rw [hW]; exact hR.alloc _
    have hB1 : Below w.heap.size w W2 := by rw [hW]; exact hB.alloc hB.size _
    replace ht1 : Tab3 W2 := by rw [hW]; exact ht1.alloc _
    obtain ⟨X, hXe⟩ : ∃ X, X = w5.heap.size := ⟨_, rfl⟩
    rw [← hXe] at hX ⊢ hltR
    clear hW hXe hB
    have hB := hB1
    clear hB1
    refine (hText _ ht1.1).mono ?_
    rintro e w8 ⟨rfl, hb8⟩
    replace hB := bstep hB hb8
    replace hR := hR.later hb8
    replace hX := hX.later hb8
    clear hb8 ht1
    have r0 := hR.cell 0 _ rfl
    have rf0 := hR.fr 0 _ rfl
    have x0 := hX.cell 0 _ rfl
    have r1 := hR.cell 1 _ rfl
    have rf1 := hR.fr 1 _ rfl
    have x1 := hX.cell 1 _ rfl
    have r2 := hR.cell 2 _ rfl
    have rf2 := hR.fr 2 _ rfl
    have x2 := hX.cell 2 _ rfl
    have hltR2 := hR.lt
    go_wp2
    refine named_post fun V hV => ?_
    have hVR : Blk V w.heap.size [.int .u64 0, .int .i64 0, .int .i64 0] := by rw [hV]; exact (((hR.set 0 _).set 1 _).set 2 _)
    have hVB : Below w.heap.size w V := by rw [hV]; exact (((hB).setCell (p := ⟨w.heap.size, 0, none⟩) (Nat.le_refl _) _).setCell (p := ⟨w.heap.size, 1, none⟩) (Nat.le_refl _) _).setCell (p := ⟨w.heap.size, 2, none⟩) (Nat.le_refl _) _
    clear hV r0 rf0 r1 rf1 r2 rf2 x0 x1 x2
    have d0 := hVR.cell 0 _ rfl
    have d1 := hVR.cell 1 _ rfl
    have d2 := hVR.cell 2 _ rfl
    refine bodyPost_ret (by simp [results, Tryz.results9, go_sem, d0, d1, d2]; try rfl) rfl ?_
    exact ⟨rfl, hVB⟩
set_option maxHeartbeats 4000000 in
theorem evReadId_any (s : ByteArray) (w : World) (ht : Tab3 w) (hs : s.size ≤ 10000) :
    Calls Tryz.prog 11 #[.string s] w fun e w' => e = .returned (readIdV s) ∧ Below w.heap.size w w' := by
  have q0 : s.data.toList.length = s.size := bytes_size s
  have q1 := cut_len s.data.toList 35
  have hC1 := fun w => cut_any s 35 w (by omega)
  have hP := fun w => Go.Proofs.YtcmdndgaggbhoaaGreatDoor.parse_any (strOf (cutA s.data.toList 35)) w (by rw [strOf_len]; omega)
  have hV := fun w ht => parseUint_any (strOf (cutR s.data.toList 35)) (by rw [strOf_len]; omega) w ht
  unfold OutSome at hV
  obtain ⟨hl, hl2⟩ := iL_is s
  obtain ⟨hn, hn2⟩ := iN_is s
  have hText := fun w ht => idText_any (iL s) (iN s) hl2 hn2 w ht
  rw [hl] at hP
  rw [hn] at hV
  unfold readIdV
  unfold idTextE at hText
  obtain ⟨L, hL⟩ : ∃ L, L = strOf (cutA s.data.toList 35) := ⟨_, rfl⟩
  obtain ⟨D, hD⟩ : ∃ L, L = strOf (cutR s.data.toList 35) := ⟨_, rfl⟩
  rw [← hL] at hC1 hP
  rw [← hD] at hC1 hV
  obtain ⟨b1, hb1⟩ : ∃ b, b = decide (35 ∈ s.data.toList) := ⟨_, rfl⟩
  rw [← hb1] at hC1
  obtain ⟨pe, hpe⟩ : ∃ z, z = (parseI L).2.1 := ⟨_, rfl⟩
  obtain ⟨pa, hpa⟩ : ∃ z, z = (parseI L).2.2 := ⟨_, rfl⟩
  rw [← hpe, ← hpa] at hP
  clear hpe hpa hb1 hL hD hl hl2 hn hn2 q0 q1
  obtain ⟨t, hte⟩ : ∃ t, t = strOf (idT (iL s) (iN s)) := ⟨_, rfl⟩
  obtain ⟨c, hce⟩ : ∃ c, c = isCountB (iN s : Int) := ⟨_, rfl⟩
  obtain ⟨l, hle⟩ : ∃ l : Int, l = (iL s : Int) := ⟨_, rfl⟩
  obtain ⟨v, hve⟩ : ∃ l : Int, l = (iN s : Int) := ⟨_, rfl⟩
  rw [← hte, ← hce, ← hle, ← hve] at hText ⊢
  rw [← hle] at hP
  rw [← hve] at hV
  clear hle hve hte hce
  cases c
  · rw [if_neg (by simp)] at hText
    rw [if_neg (by simp)]
    simp only [idv] at hText ⊢
    go_enter Tryz.func11, Tryz.ntmps11
    go_wp2_with fail
    refine named fun W hW => ?_
    have hB : Below w.heap.size w W := by rw [hW]; go_grown
    have hR : Blk W w.heap.size [.int .u64 0, .int .u64 0] := by rw [hW]; exact Blk.is _ rfl
    have ht1 := ht.below hB
    clear hW ht
    refine (hC1 _).mono ?_
    rintro e w1 ⟨rfl, hb1⟩
    replace hB := bstep hB hb1
    replace hR := hR.later hb1
    replace ht1 := ht1.below hb1
    clear hb1
    go_wp2_with fail
    refine (hP _).mono ?_
    rintro e w2 ⟨rfl, hb2⟩
    replace hB := bstep hB hb2
    replace hR := hR.later hb2
    replace ht1 := ht1.below hb2
    clear hb2
    go_wp2_with fail
    refine named fun W1 hW => ?_
    replace hR : Blk W1 w.heap.size [.int .u64 0, .int .u64 0] := by rw [hW]; exact hR.alloc _
    have hB1 : Below w.heap.size w W1 := by rw [hW]; exact hB.alloc hB.size _
    replace ht1 : Tab3 W1 := by rw [hW]; exact ht1.alloc _
    clear hW hB
    have hB := hB1
    clear hB1
    refine (hV _ ht1).mono ?_
    rintro e w3 ⟨x, rfl, hb3⟩
    replace hB := bstep hB hb3
    replace hR := hR.later hb3
    replace ht1 := ht1.below hb3
    clear hb3
    go_wp2_with fail
    refine named fun W2 hW => ?_
    have hX : Blk W2 w3.heap.size [.int .u64 l, .int .u64 v] := by rw [hW]; exact Blk.is _ rfl
    have hltR := hR.lt
    replace hR : Blk W2 w.heap.size [.int .u64 0, .int .u64 0] := by rw [hW]; exact hR.alloc _
    have hB1 : Below w.heap.size w W2 := by rw [hW]; exact hB.alloc hB.size _
    replace ht1 : Tab3 W2 := by rw [hW]; exact ht1.alloc _
    obtain ⟨X, hXe⟩ : ∃ X, X = w3.heap.size := ⟨_, rfl⟩
    rw [← hXe] at hX ⊢ hltR
    clear hW hXe hB
    have hB := hB1
    clear hB1
    refine (hText _ ht1.1).mono ?_
    rintro e w8 ⟨rfl, hb8⟩
    replace hB := bstep hB hb8
    replace hR := hR.later hb8
    replace hX := hX.later hb8
    clear hb8 ht1
    have r0 := hR.cell 0 _ rfl
    have rf0 := hR.fr 0 _ rfl
    have x0 := hX.cell 0 _ rfl
    have r1 := hR.cell 1 _ rfl
    have rf1 := hR.fr 1 _ rfl
    have x1 := hX.cell 1 _ rfl
    have hltR2 := hR.lt
    go_wp2
    refine named_post fun V hV => ?_
    have hVR : Blk V w.heap.size [.int .u64 0, .int .u64 0] := by rw [hV]; exact ((hR.set 0 _).set 1 _)
    have hVB : Below w.heap.size w V := by rw [hV]; exact ((hB).setCell (p := ⟨w.heap.size, 0, none⟩) (Nat.le_refl _) _).setCell (p := ⟨w.heap.size, 1, none⟩) (Nat.le_refl _) _
    clear hV r0 rf0 r1 rf1 x0 x1
    have d0 := hVR.cell 0 _ rfl
    have d1 := hVR.cell 1 _ rfl
    refine bodyPost_ret (by simp [results, Tryz.results11, go_sem, d0, d1]; try rfl) rfl ?_
    exact ⟨rfl, hVB⟩
  · rw [if_pos rfl] at hText
    by_cases h : t = s
    · subst h
      rw [if_pos ⟨rfl, rfl⟩]
      simp only [idv] at hText ⊢
      go_enter Tryz.func11, Tryz.ntmps11
      go_wp2_with fail
      refine named fun W hW => ?_
      have hB : Below w.heap.size w W := by rw [hW]; go_grown
      have hR : Blk W w.heap.size [.int .u64 0, .int .u64 0] := by rw [hW]; exact Blk.is _ rfl
      have ht1 := ht.below hB
      clear hW ht
      refine (hC1 _).mono ?_
      rintro e w1 ⟨rfl, hb1⟩
      replace hB := bstep hB hb1
      replace hR := hR.later hb1
      replace ht1 := ht1.below hb1
      clear hb1
      go_wp2_with fail
      refine (hP _).mono ?_
      rintro e w2 ⟨rfl, hb2⟩
      replace hB := bstep hB hb2
      replace hR := hR.later hb2
      replace ht1 := ht1.below hb2
      clear hb2
      go_wp2_with fail
      refine named fun W1 hW => ?_
      replace hR : Blk W1 w.heap.size [.int .u64 0, .int .u64 0] := by rw [hW]; exact hR.alloc _
      have hB1 : Below w.heap.size w W1 := by rw [hW]; exact hB.alloc hB.size _
      replace ht1 : Tab3 W1 := by rw [hW]; exact ht1.alloc _
      clear hW hB
      have hB := hB1
      clear hB1
      refine (hV _ ht1).mono ?_
      rintro e w3 ⟨x, rfl, hb3⟩
      replace hB := bstep hB hb3
      replace hR := hR.later hb3
      replace ht1 := ht1.below hb3
      clear hb3
      go_wp2_with fail
      refine named fun W2 hW => ?_
      have hX : Blk W2 w3.heap.size [.int .u64 l, .int .u64 v] := by rw [hW]; exact Blk.is _ rfl
      have hltR := hR.lt
      replace hR : Blk W2 w.heap.size [.int .u64 0, .int .u64 0] := by rw [hW]; exact hR.alloc _
      have hB1 : Below w.heap.size w W2 := by rw [hW]; exact hB.alloc hB.size _
      replace ht1 : Tab3 W2 := by rw [hW]; exact ht1.alloc _
      obtain ⟨X, hXe⟩ : ∃ X, X = w3.heap.size := ⟨_, rfl⟩
      rw [← hXe] at hX ⊢ hltR
      clear hW hXe hB
      have hB := hB1
      clear hB1
      refine (hText _ ht1.1).mono ?_
      rintro e w8 ⟨rfl, hb8⟩
      replace hB := bstep hB hb8
      replace hR := hR.later hb8
      replace hX := hX.later hb8
      clear hb8 ht1
      have r0 := hR.cell 0 _ rfl
      have rf0 := hR.fr 0 _ rfl
      have x0 := hX.cell 0 _ rfl
      have r1 := hR.cell 1 _ rfl
      have rf1 := hR.fr 1 _ rfl
      have x1 := hX.cell 1 _ rfl
      have hltR2 := hR.lt
      go_wp2
      refine named_post fun V hV => ?_
      have hVR : Blk V w.heap.size [.int .u64 l, .int .u64 v] := by rw [hV]; exact ((hR.set 0 _).set 1 _)
      have hVB : Below w.heap.size w V := by rw [hV]; exact ((hB).setCell (p := ⟨w.heap.size, 0, none⟩) (Nat.le_refl _) _).setCell (p := ⟨w.heap.size, 1, none⟩) (Nat.le_refl _) _
      clear hV r0 rf0 r1 rf1 x0 x1
      have d0 := hVR.cell 0 _ rfl
      have d1 := hVR.cell 1 _ rfl
      refine bodyPost_ret (by simp [results, Tryz.results11, go_sem, d0, d1]; try rfl) rfl ?_
      exact ⟨rfl, hVB⟩
    · rw [if_neg (fun e => h e.2)]
      have hb : (t.toList == s.toList) = false := str_ne h
      clear h
      simp only [idv] at hText ⊢
      go_enter Tryz.func11, Tryz.ntmps11
      go_wp2_with fail
      refine named fun W hW => ?_
      have hB : Below w.heap.size w W := by rw [hW]; go_grown
      have hR : Blk W w.heap.size [.int .u64 0, .int .u64 0] := by rw [hW]; exact Blk.is _ rfl
      have ht1 := ht.below hB
      clear hW ht
      refine (hC1 _).mono ?_
      rintro e w1 ⟨rfl, hb1⟩
      replace hB := bstep hB hb1
      replace hR := hR.later hb1
      replace ht1 := ht1.below hb1
      clear hb1
      go_wp2_with fail
      refine (hP _).mono ?_
      rintro e w2 ⟨rfl, hb2⟩
      replace hB := bstep hB hb2
      replace hR := hR.later hb2
      replace ht1 := ht1.below hb2
      clear hb2
      go_wp2_with fail
      refine named fun W1 hW => ?_
      replace hR : Blk W1 w.heap.size [.int .u64 0, .int .u64 0] := by rw [hW]; exact hR.alloc _
      have hB1 : Below w.heap.size w W1 := by rw [hW]; exact hB.alloc hB.size _
      replace ht1 : Tab3 W1 := by rw [hW]; exact ht1.alloc _
      clear hW hB
      have hB := hB1
      clear hB1
      refine (hV _ ht1).mono ?_
      rintro e w3 ⟨x, rfl, hb3⟩
      replace hB := bstep hB hb3
      replace hR := hR.later hb3
      replace ht1 := ht1.below hb3
      clear hb3
      go_wp2_with fail
      refine named fun W2 hW => ?_
      have hX : Blk W2 w3.heap.size [.int .u64 l, .int .u64 v] := by rw [hW]; exact Blk.is _ rfl
      have hltR := hR.lt
      replace hR : Blk W2 w.heap.size [.int .u64 0, .int .u64 0] := by rw [hW]; exact hR.alloc _
      have hB1 : Below w.heap.size w W2 := by rw [hW]; exact hB.alloc hB.size _
      replace ht1 : Tab3 W2 := by rw [hW]; exact ht1.alloc _
      obtain ⟨X, hXe⟩ : ∃ X, X = w3.heap.size := ⟨_, rfl⟩
      rw [← hXe] at hX ⊢ hltR
      clear hW hXe hB
      have hB := hB1
      clear hB1
      refine (hText _ ht1.1).mono ?_
      rintro e w8 ⟨rfl, hb8⟩
      replace hB := bstep hB hb8
      replace hR := hR.later hb8
      replace hX := hX.later hb8
      clear hb8 ht1
      have r0 := hR.cell 0 _ rfl
      have rf0 := hR.fr 0 _ rfl
      have x0 := hX.cell 0 _ rfl
      have r1 := hR.cell 1 _ rfl
      have rf1 := hR.fr 1 _ rfl
      have x1 := hX.cell 1 _ rfl
      have hltR2 := hR.lt
      go_wp2
      refine named_post fun V hV => ?_
      have hVR : Blk V w.heap.size [.int .u64 0, .int .u64 0] := by rw [hV]; exact ((hR.set 0 _).set 1 _)
      have hVB : Below w.heap.size w V := by rw [hV]; exact ((hB).setCell (p := ⟨w.heap.size, 0, none⟩) (Nat.le_refl _) _).setCell (p := ⟨w.heap.size, 1, none⟩) (Nat.le_refl _) _
      clear hV r0 rf0 r1 rf1 x0 x1
      have d0 := hVR.cell 0 _ rfl
      have d1 := hVR.cell 1 _ rfl
      refine bodyPost_ret (by simp [results, Tryz.results11, go_sem, d0, d1]; try rfl) rfl ?_
      exact ⟨rfl, hVB⟩
end Go.Proofs.YtcmdndgaggbhoaaGreatDoor.Ev
