/- Walks: which event, or Id, the document's own Read and ReadId make of a text. -/
import Derived.Test.YtcmdndgaggbhoaaGreatDoorEventTb
namespace Go.Proofs.YtcmdndgaggbhoaaGreatDoor.Ev
open Go.RowKit Go.Shelf
open Lb

theorem find_any (s : ByteArray) (c : UInt8) (n d : Int) (hd : (c.toNat : Int) = d) (hn : ((cutA s.data.toList c).length : Int) = n) (hs : s.size ≤ 100000) (w : World) :
    Calls Tryz.prog 43 #[.string s, .int .u8 d] w fun e w' => e = .returned (.int .i64 n) ∧ w = w' := by
  subst hd hn
  exact refFind_any s c w hs
/-- What stands ahead of the first c, and behind it, by its place. -/
theorem cut_front (s : ByteArray) (c : UInt8) : s.extract 0 (cutA s.data.toList c).length = strOf (cutA s.data.toList c) := by
  rw [extract_take]
  by_cases h : c ∈ s.data.toList
  · have e := (index_some h).2
    conv => lhs; rw [e]
    congr 1
    have e2 : (cutA (cutA s.data.toList c ++ c :: cutR s.data.toList c) c) = cutA s.data.toList c := by rw [← e]
    rw [e2, List.take_left]
  · rw [(index_none h).2.1, List.take_length]
theorem cut_back (s : ByteArray) (c : UInt8) (h : c ∈ s.data.toList) : s.extract ((cutA s.data.toList c).length + 1) s.size = strOf (cutR s.data.toList c) := by
  have e := (index_some h).2
  have e2 : s.data.toList.drop ((cutA s.data.toList c).length + 1) = cutR s.data.toList c := by
    obtain ⟨A, hA⟩ : ∃ A, A = cutA s.data.toList c := ⟨_, rfl⟩
    obtain ⟨R, hR⟩ : ∃ A, A = cutR s.data.toList c := ⟨_, rfl⟩
    rw [← hA, ← hR] at e
    rw [← hA, ← hR]
    rw [e, show A.length + 1 = (A ++ [c]).length by simp, show A ++ c :: R = (A ++ [c]) ++ R by simp, List.drop_left]
  rw [extract_drop, e2]
theorem cut_place (s : ByteArray) (c : UInt8) : (cutA s.data.toList c).length ≤ s.size ∧ (c ∈ s.data.toList → (cutA s.data.toList c).length < s.size) ∧ (c ∉ s.data.toList → (cutA s.data.toList c).length = s.size) := by
  have h0 := (cut_len s.data.toList c).1
  have hb : s.data.toList.length = s.size := bytes_size s
  refine ⟨by omega, fun h => ?_, fun h => by rw [(index_none h).2.1, hb]⟩
  have e := congrArg List.length (index_some h).2
  rw [List.length_append, List.length_cons] at e
  omega
theorem big_not {n : Nat} (h : ¬ (n = 0 ∨ 9223372036854775808 < n)) : n ≤ 9223372036854775808 ∧ ¬ n = 0 ∧ ((n : Int) == 0) = false ∧ ¬ (9223372036854775808 : Int) < (n : Int) :=
  ⟨by omega, by omega, beq_eq_false_iff_ne.2 (by omega), by omega⟩
theorem big_yes {n : Nat} (h : n = 0 ∨ 9223372036854775808 < n) (hz : ¬ n = 0) : ((n : Int) == 0) = false ∧ (9223372036854775808 : Int) < (n : Int) ∧ 9223372036854775808 < n :=
  ⟨beq_eq_false_iff_ne.2 (by omega), by omega, by omega⟩
theorem half_yes {n : Nat} (h : 9223372036854775808 ≤ n) : (9223372036854775808 : Int) ≤ (n : Int) := by omega
theorem half_not {n : Nat} (h : ¬ 9223372036854775808 ≤ n) : ¬ (9223372036854775808 : Int) ≤ (n : Int) ∧ wrap64 (n : Int) = (n : Int) ∧ n < 9223372036854775808 :=
  ⟨by omega, IntWalk.wrap64_in _ ⟨by omega, by omega⟩, by omega⟩
theorem itoa_minus {n : Nat} {E : List UInt8} (hn : n ≤ 9223372036854775808) (hz : ¬ n = 0) (h : E = Lib.decDigits n) : (45 :: E = Lib.itoa (-(n : Int))) ∧ (-9223372036854775808 ≤ -(n : Int)) ∧ (-(n : Int) ≤ 9223372036854775807) := by
  refine ⟨?_, by omega, by omega⟩
  rw [itoa_neg (by omega), h, show (-(n : Int)).natAbs = n by omega]
theorem itoa_plus {n : Nat} {E : List UInt8} (hn : n < 9223372036854775808) (h : E = Lib.decDigits n) : (E = Lib.itoa (n : Int)) ∧ (-9223372036854775808 ≤ (n : Int)) ∧ ((n : Int) ≤ 9223372036854775807) := by
  refine ⟨?_, by omega, by omega⟩
  rw [itoa_pos (by omega), h, show (n : Int).toNat = n by omega]
theorem neg_wrap (n : Nat) (h : n ≤ 9223372036854775808) : wrap64 (-(wrap64 (n : Int))) = -(n : Int) := by
  by_cases e : n = 9223372036854775808
  · subst e
    unfold wrap64
    omega
  · rw [IntWalk.wrap64_in n ⟨by omega, by omega⟩, IntWalk.wrap64_in _ ⟨by omega, by omega⟩]
theorem not_int {D : List UInt8} (h : ∀ u, u < 18446744073709551616 → D ≠ Lib.decDigits u) (hm : D.head? ≠ some 45) (v : Int) (h0 : -9223372036854775808 ≤ v) (h1 : v ≤ 9223372036854775807) : D ≠ Lib.itoa v := fun e => by
  by_cases hv : 0 ≤ v
  · rw [itoa_pos hv] at e
    exact h v.toNat (by omega) e
  · rw [itoa_neg (by omega)] at e
    exact hm (by rw [e]; rfl)
theorem not_pos {D : List UInt8} {n : Nat} (h : D = Lib.decDigits n) (hn : 9223372036854775808 ≤ n) (v : Int) (h1 : v ≤ 9223372036854775807) : D ≠ Lib.itoa v := fun e => by
  rw [h] at e
  by_cases hv : 0 ≤ v
  · rw [itoa_pos hv] at e
    have := dec_inj e
    omega
  · rw [itoa_neg (by omega)] at e
    obtain ⟨d, ds, e2, hd⟩ := dec_cons n
    rw [e2] at e
    obtain ⟨rfl, _⟩ := List.cons.inj e
    exact absurd hd (by decide)
theorem minus_neg {D : List UInt8} {v : Int} (e : 45 :: D = Lib.itoa v) : v < 0 ∧ D = Lib.decDigits v.natAbs := by
  by_cases hv : 0 ≤ v
  · rw [itoa_pos hv] at e
    obtain ⟨d, ds, e2, hd⟩ := dec_cons v.toNat
    rw [e2] at e
    obtain ⟨rfl, _⟩ := List.cons.inj e
    exact absurd hd (by decide)
  · rw [itoa_neg (by omega)] at e
    exact ⟨by omega, (List.cons.inj e).2⟩
theorem not_minus {D : List UInt8} (h : ∀ u, u < 18446744073709551616 → D ≠ Lib.decDigits u) (v : Int) (h0 : -9223372036854775808 ≤ v) : 45 :: D ≠ Lib.itoa v := fun e => by
  obtain ⟨h1, h2⟩ := minus_neg e
  exact h v.natAbs (by omega) h2
theorem not_neg {D : List UInt8} {n : Nat} (h : D = Lib.decDigits n) (hn : n = 0 ∨ 9223372036854775808 < n) (v : Int) (h0 : -9223372036854775808 ≤ v) : 45 :: D ≠ Lib.itoa v := fun e => by
  obtain ⟨h1, h2⟩ := minus_neg e
  rw [h] at h2
  have := dec_inj h2
  omega
set_option maxRecDepth 100000 in
set_option maxHeartbeats 8000000 in
theorem refRead_is (s : ByteArray) (w : World) (hs : s.size ≤ 10000) :
    Calls Tryz.prog 19 #[.string s] w fun e w' => e = .returned (readV s) ∧ Below w.heap.size w w' := by
  obtain ⟨X, hX⟩ : ∃ X, X = readV s := ⟨_, rfl⟩
  rw [← hX]
  have HX := Lib.hid hX
  clear hX
  obtain ⟨m1, hm1⟩ : ∃ m, m = (cutA s.data.toList 32).length := ⟨_, rfl⟩
  have hF1 := find_any s 32 m1 32 rfl (by rw [hm1]) (by omega)
  obtain ⟨p1, p2, p3⟩ := cut_place s 32
  rw [← hm1] at p1 p2 p3
  obtain ⟨A, hA⟩ : ∃ A, A = strOf (cutA s.data.toList 32) := ⟨_, rfl⟩
  have e1 : s.extract 0 m1 = A := by rw [hm1, hA]; exact cut_front s 32
  have hK := fun w => refKind_any A w
  obtain ⟨j, hj⟩ : ∃ j, j = (kindI A).1 := ⟨_, rfl⟩
  obtain ⟨ke, hke⟩ : ∃ j, j = (kindI A).2 := ⟨_, rfl⟩
  rw [← hj, ← hke] at hK
  have HA := Lib.hid hA
  have HJ := Lib.hid hj
  have HKE := Lib.hid hke
  have HM1 := Lib.hid hm1
  have P2 := Lib.hid p2
  have P3 := Lib.hid p3
  clear hA hj hke hm1 p2 p3
  have g0m1 : (0 : Int) ≤ (m1 : Int) := by omega
  have g1m1 : (m1 : Int) ≤ (s.size : Int) := by omega
  have HS := Lib.hid hs
  have Pm1 := Lib.hid p1
  clear hs p1
  go_enter Tryz.func19, Tryz.ntmps19
  go_wp2_with fail
  refine named fun W hW => ?_
  have hB : Below w.heap.size w W := by rw [hW]; go_grown
  have hR : Blk W w.heap.size [.int .u64 0, .int .i64 0, .int .i64 0] := by rw [hW]; exact Blk.is _ rfl
  clear hW
  refine (hF1 _).mono ?_
  rintro e w' ⟨rfl, rfl⟩
  go_wp2_with fail
  refine (hK _).mono ?_
  rintro e w' ⟨rfl, rfl⟩
  clear hF1 hK
  by_cases hk : ke = 0
  case neg =>
    have r0 := hR.cell 0 _ rfl
    have rf0 := hR.fr 0 _ rfl
    have r1 := hR.cell 1 _ rfl
    have rf1 := hR.fr 1 _ rfl
    have r2 := hR.cell 2 _ rfl
    have rf2 := hR.fr 2 _ rfl
    have hltR := hR.lt
    go_wp2
    refine named_post fun V hV => ?_
    have hVR : Blk V w.heap.size [.int .u64 0, .int .i64 0, .int .i64 0] := by rw [hV]; exact ((((((hR).set 0 _)).set 1 _)).set 2 _)
    have hVB : Below w.heap.size w V := by rw [hV]; exact ((((((hB).setCell (p := ⟨w.heap.size, 0, none⟩) (Nat.le_refl _) _)).setCell (p := ⟨w.heap.size, 1, none⟩) (Nat.le_refl _) _)).setCell (p := ⟨w.heap.size, 2, none⟩) (Nat.le_refl _) _)
    clear hV r0 rf0 r1 rf1 r2 rf2
    have d0 := hVR.cell 0 _ rfl
    have d1 := hVR.cell 1 _ rfl
    have d2 := hVR.cell 2 _ rfl
    refine bodyPost_ret (by simp [results, Tryz.results19, go_sem, d0, d1, d2]; try rfl) rfl ?_
    exact ⟨by rw [HX.out, readV_kind (by rw [← HA.out, ← HKE.out]; exact hk)]; first | rfl | done, hVB⟩
  subst hk
  by_cases hm : 32 ∈ s.data.toList
  case neg =>
    have q1 : (m1 : Int) = (s.size : Int) := by have := P3.out hm; omega
    have r0 := hR.cell 0 _ rfl
    have rf0 := hR.fr 0 _ rfl
    have r1 := hR.cell 1 _ rfl
    have rf1 := hR.fr 1 _ rfl
    have r2 := hR.cell 2 _ rfl
    have rf2 := hR.fr 2 _ rfl
    have hltR := hR.lt
    go_wp2
    refine named_post fun V hV => ?_
    have hVR : Blk V w.heap.size [.int .u64 0, .int .i64 0, .int .i64 0] := by rw [hV]; exact ((((((hR).set 0 _)).set 1 _)).set 2 _)
    have hVB : Below w.heap.size w V := by rw [hV]; exact ((((((hB).setCell (p := ⟨w.heap.size, 0, none⟩) (Nat.le_refl _) _)).setCell (p := ⟨w.heap.size, 1, none⟩) (Nat.le_refl _) _)).setCell (p := ⟨w.heap.size, 2, none⟩) (Nat.le_refl _) _)
    clear hV r0 rf0 r1 rf1 r2 rf2
    have d0 := hVR.cell 0 _ rfl
    have d1 := hVR.cell 1 _ rfl
    have d2 := hVR.cell 2 _ rfl
    refine bodyPost_ret (by simp [results, Tryz.results19, go_sem, d0, d1, d2]; try rfl) rfl ?_
    exact ⟨by rw [HX.out, readV_blank hm]; first | rfl | done, hVB⟩
  have hlt := P2.out hm
  have hs := HS.out
  have g2m1 : (m1 : Int) + 1 ≤ (s.size : Int) := by omega
  have g3m1 : IntKind.i64.wrap ((m1 : Int) + 1) = (m1 : Int) + 1 := IntWalk.i64_in _ ⟨by omega, by omega⟩
  have g4m1 : (0 : Int) ≤ (m1 : Int) + 1 := by omega
  have g5m1 : ((m1 : Int) + 1).toNat = m1 + 1 := by omega
  have g6m1 : ¬ (m1 : Int) = (s.size : Int) := by omega
  obtain ⟨S1, hS1⟩ : ∃ A, A = strOf (cutR s.data.toList 32) := ⟨_, rfl⟩
  have e2 : s.extract (m1 + 1) s.size = S1 := by rw [HM1.out, hS1]; exact cut_back s 32 hm
  have hd1 : S1.data.toList = cutR s.data.toList 32 := by rw [hS1, strOf_data]
  have hz1 : S1.size ≤ 10000 := by have := (cut_len s.data.toList 32).2; rw [bytes_size s] at this; rw [hS1, strOf_len]; omega
  obtain ⟨m2, hm2⟩ : ∃ m, m = (cutA S1.data.toList 32).length := ⟨_, rfl⟩
  have hF2 := find_any S1 32 m2 32 rfl (by rw [hm2]) (by omega)
  obtain ⟨p1, p2, p3⟩ := cut_place S1 32
  rw [← hm2] at p1 p2 p3
  obtain ⟨B, hBe⟩ : ∃ A, A = strOf (cutA S1.data.toList 32) := ⟨_, rfl⟩
  have e3 : S1.extract 0 m2 = B := by rw [hm2, hBe]; exact cut_front S1 32
  have hbz : B.size ≤ 1000000 := by rw [hBe, strOf_len]; have := (cut_len S1.data.toList 32).1; rw [bytes_size S1] at this; omega
  have hP := fun w => Go.Proofs.YtcmdndgaggbhoaaGreatDoor.refParse_any B w hbz
  obtain ⟨pl, hpl⟩ : ∃ z, z = (parseI B).1 := ⟨_, rfl⟩
  obtain ⟨pe, hpe⟩ : ∃ z, z = (parseI B).2.1 := ⟨_, rfl⟩
  obtain ⟨pa, hpa⟩ : ∃ z, z = (parseI B).2.2 := ⟨_, rfl⟩
  rw [← hpl, ← hpe, ← hpa] at hP
  have HS1 := Lib.hid hS1
  have HD1 := Lib.hid hd1
  have HB := Lib.hid hBe
  have HPL := Lib.hid hpl
  have HPE := Lib.hid hpe
  have HM2 := Lib.hid hm2
  have Q2 := Lib.hid p2
  have Q3 := Lib.hid p3
  have HZ1 := Lib.hid hz1
  have HM := Lib.hid hm
  have g0m2 : (0 : Int) ≤ (m2 : Int) := by omega
  have g1m2 : (m2 : Int) ≤ (S1.size : Int) := by omega
  clear hS1 hd1 hBe hpl hpe hpa hm2 p2 p3 hz1 hbz hs hlt hm p1
  go_wp2_with fail
  clear g0m1 g1m1 g2m1 g3m1 g4m1 g5m1 g6m1
  refine (hF2 _).mono ?_
  rintro e w' ⟨rfl, rfl⟩
  go_wp2_with fail
  refine (hP _).mono ?_
  rintro e w1 ⟨rfl, hb1⟩
  replace hB := bstep hB hb1
  replace hR := hR.later hb1
  clear hb1 hF2 hP e1 e2 e3
  by_cases hpe : pe = 0
  case neg =>
    have r0 := hR.cell 0 _ rfl
    have rf0 := hR.fr 0 _ rfl
    have r1 := hR.cell 1 _ rfl
    have rf1 := hR.fr 1 _ rfl
    have r2 := hR.cell 2 _ rfl
    have rf2 := hR.fr 2 _ rfl
    have hltR := hR.lt
    go_wp2
    refine named_post fun V hV => ?_
    have hVR : Blk V w.heap.size [.int .u64 0, .int .i64 0, .int .i64 0] := by rw [hV]; exact (((((((hR).set 0 _)).set 1 _)).set 2 _)).alloc _
    have hVB : Below w.heap.size w V := by rw [hV]; exact (((((((hB).setCell (p := ⟨w.heap.size, 0, none⟩) (Nat.le_refl _) _)).setCell (p := ⟨w.heap.size, 1, none⟩) (Nat.le_refl _) _)).setCell (p := ⟨w.heap.size, 2, none⟩) (Nat.le_refl _) _)).alloc (by simpa [World.setCell] using hB.size) _
    clear hV r0 rf0 r1 rf1 r2 rf2
    have d0 := hVR.cell 0 _ rfl
    have d1 := hVR.cell 1 _ rfl
    have d2 := hVR.cell 2 _ rfl
    refine bodyPost_ret (by simp [results, Tryz.results19, go_sem, d0, d1, d2]; try rfl) rfl ?_
    exact ⟨by rw [HX.out, readV_label (by rw [← HD1.out, ← HB.out, ← HPE.out]; exact hpe)]; first | rfl | done, hVB⟩
  subst hpe
  by_cases hm : 32 ∈ S1.data.toList
  case neg =>
    have q1 : (m2 : Int) = (S1.size : Int) := by have := Q3.out hm; omega
    have r0 := hR.cell 0 _ rfl
    have rf0 := hR.fr 0 _ rfl
    have r1 := hR.cell 1 _ rfl
    have rf1 := hR.fr 1 _ rfl
    have r2 := hR.cell 2 _ rfl
    have rf2 := hR.fr 2 _ rfl
    have hltR := hR.lt
    go_wp2
    refine named_post fun V hV => ?_
    have hVR : Blk V w.heap.size [.int .u64 0, .int .i64 0, .int .i64 0] := by rw [hV]; exact (((((((hR).set 0 _)).set 1 _)).set 2 _)).alloc _
    have hVB : Below w.heap.size w V := by rw [hV]; exact (((((((hB).setCell (p := ⟨w.heap.size, 0, none⟩) (Nat.le_refl _) _)).setCell (p := ⟨w.heap.size, 1, none⟩) (Nat.le_refl _) _)).setCell (p := ⟨w.heap.size, 2, none⟩) (Nat.le_refl _) _)).alloc (by simpa [World.setCell] using hB.size) _
    clear hV r0 rf0 r1 rf1 r2 rf2
    have d0 := hVR.cell 0 _ rfl
    have d1 := hVR.cell 1 _ rfl
    have d2 := hVR.cell 2 _ rfl
    refine bodyPost_ret (by simp [results, Tryz.results19, go_sem, d0, d1, d2]; try rfl) rfl ?_
    exact ⟨by rw [HX.out, readV_blank2 (by rw [← HD1.out]; exact hm)]; first | rfl | done, hVB⟩
  have hlt := Q2.out hm
  have hz1 := HZ1.out
  have g2m2 : (m2 : Int) + 1 ≤ (S1.size : Int) := by omega
  have g3m2 : IntKind.i64.wrap ((m2 : Int) + 1) = (m2 : Int) + 1 := IntWalk.i64_in _ ⟨by omega, by omega⟩
  have g4m2 : (0 : Int) ≤ (m2 : Int) + 1 := by omega
  have g5m2 : ((m2 : Int) + 1).toNat = m2 + 1 := by omega
  have g6m2 : ¬ (m2 : Int) = (S1.size : Int) := by omega
  obtain ⟨Dl, hDl⟩ : ∃ D, D = cutR S1.data.toList 32 := ⟨_, rfl⟩
  have e4 : S1.extract (m2 + 1) S1.size = strOf Dl := by rw [HM2.out, hDl]; exact cut_back S1 32 hm
  have hzD : Dl.length ≤ 10000 := by rw [hDl]; have := (cut_len S1.data.toList 32).2; rw [bytes_size S1] at this; omega
  have HDl := Lib.hid (show cutR (cutR s.data.toList 32) 32 = Dl by rw [hDl, ← HD1.out])
  have HM2' := Lib.hid (show 32 ∈ cutR s.data.toList 32 by rw [← HD1.out]; exact hm)
  have hkL : ∃ k : Nat, k < 26 ∧ strOf (cutA s.data.toList 32) = letL k ∧ j = (k : Int) := by
    rcases kindI_cases A with ⟨i, hi, e, h2⟩ | ⟨_, h2⟩
    · exact ⟨i, hi, by rw [← HA.out]; exact e, by rw [HJ.out, h2]⟩
    · rw [h2] at HKE
      exact absurd HKE.out (by decide)
  obtain ⟨k, hk26, hkL, rfl⟩ := hkL
  have HYES := Lib.hid (fun (v : Int) (hv : Dl = Lib.itoa v) (h0 : -9223372036854775808 ≤ v) (h1 : v ≤ 9223372036854775807) =>
    readV_yes (s := s) (v := v) hk26 HM.out hkL HM2'.out (by rw [← HD1.out, ← HB.out, ← HPE.out]) (by rw [HDl.out]; exact hv) h0 h1)
  have hrl : (rL s : Int) = pl := by
    have := (rL_is s).1
    rw [← HD1.out, ← HB.out, ← HPL.out] at this
    exact this.symm
  rw [hrl] at HYES
  have HNO := Lib.hid (fun (h : ∀ v : Int, -9223372036854775808 ≤ v → v ≤ 9223372036854775807 → Dl ≠ Lib.itoa v) => readV_value (s := s) (by rw [HDl.out]; exact h))
  clear hk26 hkL hrl hlt hz1 hDl hm HA HJ HKE HM1 P2 P3 Q2 Q3 HM2 HPE HPL HB HM HM2' HDl
  obtain ⟨D, hD⟩ : ∃ D, D = strOf Dl := ⟨_, rfl⟩
  rw [← hD] at e4
  by_cases hmin : Dl.head? = some 45
  case pos =>
    obtain ⟨El, hEl⟩ : ∃ E, Dl = 45 :: E := by
      cases Dl with
      | nil => cases hmin
      | cons d E => exact ⟨E, by rw [show d = 45 from Option.some.inj hmin]⟩
    have HDm := Lib.hid hEl
    have hDs : 0 < D.size := by rw [hD, strOf_len, hEl]; simp
    have hdl : D.data.toList = Dl := by rw [hD, strOf_data]
    have hD0 : ((D[0]'hDs).toNat : Int) = 45 := by
      have h1 := byte_get D 0 hDs
      rw [hdl, hEl] at h1
      have h2 : (45 : UInt8) = D[0]'hDs := Option.some.inj h1
      rw [← h2]; rfl
    obtain ⟨E, hE⟩ : ∃ E, E = strOf El := ⟨_, rfl⟩
    have e5 : D.extract 1 D.size = E := by
      rw [extract_drop, hD, strOf_data, hEl, hE]
      rfl
    have hV := fun w => refValue_any E w (by rw [hE, strOf_len]; have := congrArg List.length hEl; rw [List.length_cons] at this; omega)
    unfold ValOut at hV
    have HE := Lib.hid hE
    have hDi : (0 : Int) < (D.size : Int) := by omega
    have hD1 : (1 : Int) ≤ (D.size : Int) := by omega
    clear hD hEl hE hmin hzD hdl
    go_wp2_with fail
    refine named fun W2 hW => ?_
    have hRl := hR.lt
    replace hR : Blk W2 w.heap.size [.int .u64 0, .int .i64 0, .int .i64 0] := by rw [hW]; exact hR.alloc _
    have hB2 : Below w.heap.size w W2 := by rw [hW]; exact hB.alloc hB.size _
    clear hW hB
    have hB := hB2
    clear hB2
    clear e4 e5 hDi hD1 hRl g0m2 g1m2 g2m2 g3m2 g4m2 g5m2 g6m2
    refine (hV _).mono ?_
    rintro e w2 ⟨n, b, rfl, hn, ht, hf, mm, hw2⟩
    have hR2 : Blk w2 w.heap.size [.int .u64 0, .int .i64 0, .int .i64 0] := by rw [hw2]; exact hR.drewN mm
    have hB2 : Below w.heap.size w w2 := by rw [hw2]; exact below_drewN hB mm
    clear hw2 hR hB
    have hR := hR2
    have hB := hB2
    clear hR2 hB2
    cases b
    case false =>
      have HF := Lib.hid (hf rfl)
      clear hf ht hn
      have r0 := hR.cell 0 _ rfl
      have rf0 := hR.fr 0 _ rfl
      have r1 := hR.cell 1 _ rfl
      have rf1 := hR.fr 1 _ rfl
      have r2 := hR.cell 2 _ rfl
      have rf2 := hR.fr 2 _ rfl
      have hltR := hR.lt
      go_wp2
      refine named_post fun V hV => ?_
      have hVR : Blk V w.heap.size [.int .u64 0, .int .i64 0, .int .i64 0] := by rw [hV]; exact ((((((hR).set 0 _)).set 1 _)).set 2 _)
      have hVB : Below w.heap.size w V := by rw [hV]; exact ((((((hB).setCell (p := ⟨w.heap.size, 0, none⟩) (Nat.le_refl _) _)).setCell (p := ⟨w.heap.size, 1, none⟩) (Nat.le_refl _) _)).setCell (p := ⟨w.heap.size, 2, none⟩) (Nat.le_refl _) _)
      clear hV r0 rf0 r1 rf1 r2 rf2
      have d0 := hVR.cell 0 _ rfl
      have d1 := hVR.cell 1 _ rfl
      have d2 := hVR.cell 2 _ rfl
      refine bodyPost_ret (by simp [results, Tryz.results19, go_sem, d0, d1, d2]; try rfl) rfl ?_
      exact ⟨by rw [HX.out, HNO.out (fun v h0 h1 => by rw [HDm.out]; exact not_minus (by have := HF.out; rwa [HE.out, strOf_data] at this) v h0)]; first | rfl | done, hVB⟩
    obtain ⟨y, hy⟩ : ∃ y : Int, y = (n : Int) := ⟨_, rfl⟩
    rw [← hy]
    have HY := Lib.hid hy
    have htr := ht rfl
    clear ht hf
    have HTR := Lib.hid htr
    have HN := Lib.hid hn
    clear htr hn
    by_cases hbig : n = 0 ∨ 9223372036854775808 < n
    case pos =>
      by_cases hz : n = 0
      · subst hz
        have c1 : y = 0 := hy
        subst c1
        clear hy
        have r0 := hR.cell 0 _ rfl
        have rf0 := hR.fr 0 _ rfl
        have r1 := hR.cell 1 _ rfl
        have rf1 := hR.fr 1 _ rfl
        have r2 := hR.cell 2 _ rfl
        have rf2 := hR.fr 2 _ rfl
        have hltR := hR.lt
        go_wp2
        refine named_post fun V hV => ?_
        have hVR : Blk V w.heap.size [.int .u64 0, .int .i64 0, .int .i64 0] := by rw [hV]; exact ((((((hR).set 0 _)).set 1 _)).set 2 _)
        have hVB : Below w.heap.size w V := by rw [hV]; exact ((((((hB).setCell (p := ⟨w.heap.size, 0, none⟩) (Nat.le_refl _) _)).setCell (p := ⟨w.heap.size, 1, none⟩) (Nat.le_refl _) _)).setCell (p := ⟨w.heap.size, 2, none⟩) (Nat.le_refl _) _)
        clear hV r0 rf0 r1 rf1 r2 rf2
        have d0 := hVR.cell 0 _ rfl
        have d1 := hVR.cell 1 _ rfl
        have d2 := hVR.cell 2 _ rfl
        refine bodyPost_ret (by simp [results, Tryz.results19, go_sem, d0, d1, d2]; try rfl) rfl ?_
        exact ⟨by rw [HX.out, HNO.out (fun v h0 h1 => by rw [HDm.out]; exact not_neg (by have := HTR.out; rwa [HE.out, strOf_data] at this) (.inl rfl) v h0)]; first | rfl | done, hVB⟩
      · have c1 := (big_yes hbig hz).1
        have c2 := (big_yes hbig hz).2.1
        have HBG := Lib.hid (big_yes hbig hz).2.2
        rw [← hy] at c1 c2
        clear hbig hy
        have r0 := hR.cell 0 _ rfl
        have rf0 := hR.fr 0 _ rfl
        have r1 := hR.cell 1 _ rfl
        have rf1 := hR.fr 1 _ rfl
        have r2 := hR.cell 2 _ rfl
        have rf2 := hR.fr 2 _ rfl
        have hltR := hR.lt
        go_wp2
        refine named_post fun V hV => ?_
        have hVR : Blk V w.heap.size [.int .u64 0, .int .i64 0, .int .i64 0] := by rw [hV]; exact ((((((hR).set 0 _)).set 1 _)).set 2 _)
        have hVB : Below w.heap.size w V := by rw [hV]; exact ((((((hB).setCell (p := ⟨w.heap.size, 0, none⟩) (Nat.le_refl _) _)).setCell (p := ⟨w.heap.size, 1, none⟩) (Nat.le_refl _) _)).setCell (p := ⟨w.heap.size, 2, none⟩) (Nat.le_refl _) _)
        clear hV r0 rf0 r1 rf1 r2 rf2
        have d0 := hVR.cell 0 _ rfl
        have d1 := hVR.cell 1 _ rfl
        have d2 := hVR.cell 2 _ rfl
        refine bodyPost_ret (by simp [results, Tryz.results19, go_sem, d0, d1, d2]; try rfl) rfl ?_
        exact ⟨by rw [HX.out, HNO.out (fun v h0 h1 => by rw [HDm.out]; exact not_neg (by have := HTR.out; rwa [HE.out, strOf_data] at this) (.inr HBG.out) v h0)]; first | rfl | done, hVB⟩
    have c1 := (big_not hbig).2.2.1
    have c2 := (big_not hbig).2.2.2
    have c3 := neg_wrap n (big_not hbig).1
    have HNZ := Lib.hid (big_not hbig).2.1
    have HNB := Lib.hid (big_not hbig).1
    rw [← hy] at c1 c2 c3
    clear hbig hy
    have r0 := hR.cell 0 _ rfl
    have rf0 := hR.fr 0 _ rfl
    have r1 := hR.cell 1 _ rfl
    have rf1 := hR.fr 1 _ rfl
    have r2 := hR.cell 2 _ rfl
    have rf2 := hR.fr 2 _ rfl
    have hltR := hR.lt
    go_wp2
    refine named_post fun V hV => ?_
    have hVR : Blk V w.heap.size [.int .u64 pl, .int .i64 (k : Int), .int .i64 (-y)] := by rw [hV]; exact ((((((hR).set 0 _)).set 1 _)).set 2 _)
    have hVB : Below w.heap.size w V := by rw [hV]; exact ((((((hB).setCell (p := ⟨w.heap.size, 0, none⟩) (Nat.le_refl _) _)).setCell (p := ⟨w.heap.size, 1, none⟩) (Nat.le_refl _) _)).setCell (p := ⟨w.heap.size, 2, none⟩) (Nat.le_refl _) _)
    clear hV r0 rf0 r1 rf1 r2 rf2
    have d0 := hVR.cell 0 _ rfl
    have d1 := hVR.cell 1 _ rfl
    have d2 := hVR.cell 2 _ rfl
    refine bodyPost_ret (by simp [results, Tryz.results19, go_sem, d0, d1, d2]; try rfl) rfl ?_
    exact ⟨by rw [HX.out, HY.out, HYES.out (-(n : Int)) (by rw [HDm.out]; exact (itoa_minus HNB.out HNZ.out (by have := HTR.out; rwa [HE.out, strOf_data] at this)).1) (itoa_minus HNB.out HNZ.out rfl).2.1 (itoa_minus HNB.out HNZ.out rfl).2.2]; first | rfl | done, hVB⟩
  case neg =>
    have HMIN := Lib.hid hmin
    have HDo := Lib.hid hD
    have hV := fun w => refValue_any D w (by rw [hD, strOf_len]; omega)
    unfold ValOut at hV
    have hdl : D.data.toList = Dl := by rw [hD, strOf_data]
    by_cases hDs : 0 < D.size
    · have hD0 : ¬ ((D[0]'hDs).toNat : Int) = 45 := fun h => HMIN.out (by
        have h1 := byte_get D 0 hDs
        rw [hdl] at h1
        rw [List.head?_eq_getElem?, h1]
        congr 1
        apply UInt8.toNat_inj.1
        have h45 : (45 : UInt8).toNat = 45 := rfl
        have h' : (D[0]'hDs).toNat = 45 := by omega
        rw [h45]
        exact h')
      have hDi : (0 : Int) < (D.size : Int) := by omega
      clear hD hmin hzD hdl
      go_wp2_with fail
      refine named fun W2 hW => ?_
      have hRl := hR.lt
      replace hR : Blk W2 w.heap.size [.int .u64 0, .int .i64 0, .int .i64 0] := by rw [hW]; exact hR.alloc _
      have hB2 : Below w.heap.size w W2 := by rw [hW]; exact hB.alloc hB.size _
      clear hW hB
      have hB := hB2
      clear hB2
      clear e4 hDi hRl g0m2 g1m2 g2m2 g3m2 g4m2 g5m2 g6m2
      refine (hV _).mono ?_
      rintro e w2 ⟨n, b, rfl, hn, ht, hf, mm, hw2⟩
      have hR2 : Blk w2 w.heap.size [.int .u64 0, .int .i64 0, .int .i64 0] := by rw [hw2]; exact hR.drewN mm
      have hB2 : Below w.heap.size w w2 := by rw [hw2]; exact below_drewN hB mm
      clear hw2 hR hB
      have hR := hR2
      have hB := hB2
      clear hR2 hB2
      cases b
      case false =>
        have HF := Lib.hid (hf rfl)
        clear hf ht hn
        have r0 := hR.cell 0 _ rfl
        have rf0 := hR.fr 0 _ rfl
        have r1 := hR.cell 1 _ rfl
        have rf1 := hR.fr 1 _ rfl
        have r2 := hR.cell 2 _ rfl
        have rf2 := hR.fr 2 _ rfl
        have hltR := hR.lt
        go_wp2
        refine named_post fun V hV => ?_
        have hVR : Blk V w.heap.size [.int .u64 0, .int .i64 0, .int .i64 0] := by rw [hV]; exact ((((((hR).set 0 _)).set 1 _)).set 2 _)
        have hVB : Below w.heap.size w V := by rw [hV]; exact ((((((hB).setCell (p := ⟨w.heap.size, 0, none⟩) (Nat.le_refl _) _)).setCell (p := ⟨w.heap.size, 1, none⟩) (Nat.le_refl _) _)).setCell (p := ⟨w.heap.size, 2, none⟩) (Nat.le_refl _) _)
        clear hV r0 rf0 r1 rf1 r2 rf2
        have d0 := hVR.cell 0 _ rfl
        have d1 := hVR.cell 1 _ rfl
        have d2 := hVR.cell 2 _ rfl
        refine bodyPost_ret (by simp [results, Tryz.results19, go_sem, d0, d1, d2]; try rfl) rfl ?_
        exact ⟨by rw [HX.out, HNO.out (fun v h0 h1 => not_int (by have := HF.out; rwa [HDo.out, strOf_data] at this) HMIN.out v h0 h1)]; first | rfl | done, hVB⟩
      obtain ⟨y, hy⟩ : ∃ y : Int, y = (n : Int) := ⟨_, rfl⟩
      rw [← hy]
      have HY := Lib.hid hy
      have htr := ht rfl
      clear ht hf
      have HTR := Lib.hid htr
      have HN := Lib.hid hn
      clear htr hn
      by_cases hbig : 9223372036854775808 ≤ n
      case pos =>
        have c1 := half_yes hbig
        rw [← hy] at c1
        clear hy
        have HBG := Lib.hid hbig
        have r0 := hR.cell 0 _ rfl
        have rf0 := hR.fr 0 _ rfl
        have r1 := hR.cell 1 _ rfl
        have rf1 := hR.fr 1 _ rfl
        have r2 := hR.cell 2 _ rfl
        have rf2 := hR.fr 2 _ rfl
        have hltR := hR.lt
        go_wp2
        refine named_post fun V hV => ?_
        have hVR : Blk V w.heap.size [.int .u64 0, .int .i64 0, .int .i64 0] := by rw [hV]; exact ((((((hR).set 0 _)).set 1 _)).set 2 _)
        have hVB : Below w.heap.size w V := by rw [hV]; exact ((((((hB).setCell (p := ⟨w.heap.size, 0, none⟩) (Nat.le_refl _) _)).setCell (p := ⟨w.heap.size, 1, none⟩) (Nat.le_refl _) _)).setCell (p := ⟨w.heap.size, 2, none⟩) (Nat.le_refl _) _)
        clear hV r0 rf0 r1 rf1 r2 rf2
        have d0 := hVR.cell 0 _ rfl
        have d1 := hVR.cell 1 _ rfl
        have d2 := hVR.cell 2 _ rfl
        refine bodyPost_ret (by simp [results, Tryz.results19, go_sem, d0, d1, d2]; try rfl) rfl ?_
        exact ⟨by rw [HX.out, HNO.out (fun v h0 h1 => not_pos (by have := HTR.out; rwa [HDo.out, strOf_data] at this) HBG.out v h1)]; first | rfl | done, hVB⟩
      have c1 := (half_not hbig).1
      have c3 := (half_not hbig).2.1
      rw [← hy] at c1 c3
      have HNB := Lib.hid (half_not hbig).2.2
      clear hbig hy
      have r0 := hR.cell 0 _ rfl
      have rf0 := hR.fr 0 _ rfl
      have r1 := hR.cell 1 _ rfl
      have rf1 := hR.fr 1 _ rfl
      have r2 := hR.cell 2 _ rfl
      have rf2 := hR.fr 2 _ rfl
      have hltR := hR.lt
      go_wp2
      refine named_post fun V hV => ?_
      have hVR : Blk V w.heap.size [.int .u64 pl, .int .i64 (k : Int), .int .i64 y] := by rw [hV]; exact ((((((hR).set 0 _)).set 1 _)).set 2 _)
      have hVB : Below w.heap.size w V := by rw [hV]; exact ((((((hB).setCell (p := ⟨w.heap.size, 0, none⟩) (Nat.le_refl _) _)).setCell (p := ⟨w.heap.size, 1, none⟩) (Nat.le_refl _) _)).setCell (p := ⟨w.heap.size, 2, none⟩) (Nat.le_refl _) _)
      clear hV r0 rf0 r1 rf1 r2 rf2
      have d0 := hVR.cell 0 _ rfl
      have d1 := hVR.cell 1 _ rfl
      have d2 := hVR.cell 2 _ rfl
      refine bodyPost_ret (by simp [results, Tryz.results19, go_sem, d0, d1, d2]; try rfl) rfl ?_
      exact ⟨by rw [HX.out, HY.out, HYES.out (n : Int) (itoa_plus HNB.out (by have := HTR.out; rwa [HDo.out, strOf_data] at this)).1 (itoa_plus HNB.out rfl).2.1 (itoa_plus HNB.out rfl).2.2]; first | rfl | done, hVB⟩
    · have hDi : ¬ (0 : Int) < (D.size : Int) := by omega
      clear hD hmin hzD hDs hdl
      go_wp2_with fail
      refine named fun W2 hW => ?_
      have hRl := hR.lt
      replace hR : Blk W2 w.heap.size [.int .u64 0, .int .i64 0, .int .i64 0] := by rw [hW]; exact hR.alloc _
      have hB2 : Below w.heap.size w W2 := by rw [hW]; exact hB.alloc hB.size _
      clear hW hB
      have hB := hB2
      clear hB2
      clear e4 hDi hRl g0m2 g1m2 g2m2 g3m2 g4m2 g5m2 g6m2
      refine (hV _).mono ?_
      rintro e w2 ⟨n, b, rfl, hn, ht, hf, mm, hw2⟩
      have hR2 : Blk w2 w.heap.size [.int .u64 0, .int .i64 0, .int .i64 0] := by rw [hw2]; exact hR.drewN mm
      have hB2 : Below w.heap.size w w2 := by rw [hw2]; exact below_drewN hB mm
      clear hw2 hR hB
      have hR := hR2
      have hB := hB2
      clear hR2 hB2
      cases b
      case false =>
        have HF := Lib.hid (hf rfl)
        clear hf ht hn
        have r0 := hR.cell 0 _ rfl
        have rf0 := hR.fr 0 _ rfl
        have r1 := hR.cell 1 _ rfl
        have rf1 := hR.fr 1 _ rfl
        have r2 := hR.cell 2 _ rfl
        have rf2 := hR.fr 2 _ rfl
        have hltR := hR.lt
        go_wp2
        refine named_post fun V hV => ?_
        have hVR : Blk V w.heap.size [.int .u64 0, .int .i64 0, .int .i64 0] := by rw [hV]; exact ((((((hR).set 0 _)).set 1 _)).set 2 _)
        have hVB : Below w.heap.size w V := by rw [hV]; exact ((((((hB).setCell (p := ⟨w.heap.size, 0, none⟩) (Nat.le_refl _) _)).setCell (p := ⟨w.heap.size, 1, none⟩) (Nat.le_refl _) _)).setCell (p := ⟨w.heap.size, 2, none⟩) (Nat.le_refl _) _)
        clear hV r0 rf0 r1 rf1 r2 rf2
        have d0 := hVR.cell 0 _ rfl
        have d1 := hVR.cell 1 _ rfl
        have d2 := hVR.cell 2 _ rfl
        refine bodyPost_ret (by simp [results, Tryz.results19, go_sem, d0, d1, d2]; try rfl) rfl ?_
        exact ⟨by rw [HX.out, HNO.out (fun v h0 h1 => not_int (by have := HF.out; rwa [HDo.out, strOf_data] at this) HMIN.out v h0 h1)]; first | rfl | done, hVB⟩
      obtain ⟨y, hy⟩ : ∃ y : Int, y = (n : Int) := ⟨_, rfl⟩
      rw [← hy]
      have HY := Lib.hid hy
      have htr := ht rfl
      clear ht hf
      have HTR := Lib.hid htr
      have HN := Lib.hid hn
      clear htr hn
      by_cases hbig : 9223372036854775808 ≤ n
      case pos =>
        have c1 := half_yes hbig
        rw [← hy] at c1
        clear hy
        have HBG := Lib.hid hbig
        have r0 := hR.cell 0 _ rfl
        have rf0 := hR.fr 0 _ rfl
        have r1 := hR.cell 1 _ rfl
        have rf1 := hR.fr 1 _ rfl
        have r2 := hR.cell 2 _ rfl
        have rf2 := hR.fr 2 _ rfl
        have hltR := hR.lt
        go_wp2
        refine named_post fun V hV => ?_
        have hVR : Blk V w.heap.size [.int .u64 0, .int .i64 0, .int .i64 0] := by rw [hV]; exact ((((((hR).set 0 _)).set 1 _)).set 2 _)
        have hVB : Below w.heap.size w V := by rw [hV]; exact ((((((hB).setCell (p := ⟨w.heap.size, 0, none⟩) (Nat.le_refl _) _)).setCell (p := ⟨w.heap.size, 1, none⟩) (Nat.le_refl _) _)).setCell (p := ⟨w.heap.size, 2, none⟩) (Nat.le_refl _) _)
        clear hV r0 rf0 r1 rf1 r2 rf2
        have d0 := hVR.cell 0 _ rfl
        have d1 := hVR.cell 1 _ rfl
        have d2 := hVR.cell 2 _ rfl
        refine bodyPost_ret (by simp [results, Tryz.results19, go_sem, d0, d1, d2]; try rfl) rfl ?_
        exact ⟨by rw [HX.out, HNO.out (fun v h0 h1 => not_pos (by have := HTR.out; rwa [HDo.out, strOf_data] at this) HBG.out v h1)]; first | rfl | done, hVB⟩
      have c1 := (half_not hbig).1
      have c3 := (half_not hbig).2.1
      rw [← hy] at c1 c3
      have HNB := Lib.hid (half_not hbig).2.2
      clear hbig hy
      have r0 := hR.cell 0 _ rfl
      have rf0 := hR.fr 0 _ rfl
      have r1 := hR.cell 1 _ rfl
      have rf1 := hR.fr 1 _ rfl
      have r2 := hR.cell 2 _ rfl
      have rf2 := hR.fr 2 _ rfl
      have hltR := hR.lt
      go_wp2
      refine named_post fun V hV => ?_
      have hVR : Blk V w.heap.size [.int .u64 pl, .int .i64 (k : Int), .int .i64 y] := by rw [hV]; exact ((((((hR).set 0 _)).set 1 _)).set 2 _)
      have hVB : Below w.heap.size w V := by rw [hV]; exact ((((((hB).setCell (p := ⟨w.heap.size, 0, none⟩) (Nat.le_refl _) _)).setCell (p := ⟨w.heap.size, 1, none⟩) (Nat.le_refl _) _)).setCell (p := ⟨w.heap.size, 2, none⟩) (Nat.le_refl _) _)
      clear hV r0 rf0 r1 rf1 r2 rf2
      have d0 := hVR.cell 0 _ rfl
      have d1 := hVR.cell 1 _ rfl
      have d2 := hVR.cell 2 _ rfl
      refine bodyPost_ret (by simp [results, Tryz.results19, go_sem, d0, d1, d2]; try rfl) rfl ?_
      exact ⟨by rw [HX.out, HY.out, HYES.out (n : Int) (itoa_plus HNB.out (by have := HTR.out; rwa [HDo.out, strOf_data] at this)).1 (itoa_plus HNB.out rfl).2.1 (itoa_plus HNB.out rfl).2.2]; first | rfl | done, hVB⟩
set_option maxRecDepth 100000 in
set_option maxHeartbeats 8000000 in
theorem refReadId_is (s : ByteArray) (w : World) (hs : s.size ≤ 10000) :
    Calls Tryz.prog 21 #[.string s] w fun e w' => e = .returned (readIdV s) ∧ Below w.heap.size w w' := by
  obtain ⟨X, hX⟩ : ∃ X, X = readIdV s := ⟨_, rfl⟩
  rw [← hX]
  have HX := Lib.hid hX
  clear hX
  obtain ⟨m1, hm1⟩ : ∃ m, m = (cutA s.data.toList 35).length := ⟨_, rfl⟩
  have hF1 := find_any s 35 m1 35 rfl (by rw [hm1]) (by omega)
  obtain ⟨p1, p2, p3⟩ := cut_place s 35
  rw [← hm1] at p1 p2 p3
  obtain ⟨B, hBe⟩ : ∃ A, A = strOf (cutA s.data.toList 35) := ⟨_, rfl⟩
  have e1 : s.extract 0 m1 = B := by rw [hm1, hBe]; exact cut_front s 35
  have hbz : B.size ≤ 1000000 := by rw [hBe, strOf_len]; have := (cut_len s.data.toList 35).1; rw [bytes_size s] at this; omega
  have hP := fun w => Go.Proofs.YtcmdndgaggbhoaaGreatDoor.refParse_any B w hbz
  obtain ⟨pl, hpl⟩ : ∃ z, z = (parseI B).1 := ⟨_, rfl⟩
  obtain ⟨pe, hpe⟩ : ∃ z, z = (parseI B).2.1 := ⟨_, rfl⟩
  obtain ⟨pa, hpa⟩ : ∃ z, z = (parseI B).2.2 := ⟨_, rfl⟩
  rw [← hpl, ← hpe, ← hpa] at hP
  have HB := Lib.hid hBe
  have HPL := Lib.hid hpl
  have HPE := Lib.hid hpe
  have HM1 := Lib.hid hm1
  have P2 := Lib.hid p2
  have P3 := Lib.hid p3
  have g0m1 : (0 : Int) ≤ (m1 : Int) := by omega
  have g1m1 : (m1 : Int) ≤ (s.size : Int) := by omega
  have HS := Lib.hid hs
  have Pm1 := Lib.hid p1
  clear hs p1 hBe hpl hpe hpa hm1 p2 p3 hbz
  go_enter Tryz.func21, Tryz.ntmps21
  go_wp2_with fail
  refine named fun W hW => ?_
  have hB : Below w.heap.size w W := by rw [hW]; go_grown
  have hR : Blk W w.heap.size [.int .u64 0, .int .u64 0] := by rw [hW]; exact Blk.is _ rfl
  clear hW
  refine (hF1 _).mono ?_
  rintro e w' ⟨rfl, rfl⟩
  go_wp2_with fail
  refine (hP _).mono ?_
  rintro e w1 ⟨rfl, hb1⟩
  replace hB := bstep hB hb1
  replace hR := hR.later hb1
  clear hb1 hF1 hP e1
  by_cases hpe : pe = 0
  case neg =>
    have r0 := hR.cell 0 _ rfl
    have rf0 := hR.fr 0 _ rfl
    have r1 := hR.cell 1 _ rfl
    have rf1 := hR.fr 1 _ rfl
    have hltR := hR.lt
    go_wp2
    refine named_post fun V hV => ?_
    have hVR : Blk V w.heap.size [.int .u64 0, .int .u64 0] := by rw [hV]; exact (((((hR).set 0 _)).set 1 _)).alloc _
    have hVB : Below w.heap.size w V := by rw [hV]; exact (((((hB).setCell (p := ⟨w.heap.size, 0, none⟩) (Nat.le_refl _) _)).setCell (p := ⟨w.heap.size, 1, none⟩) (Nat.le_refl _) _)).alloc (by simpa [World.setCell] using hB.size) _
    clear hV r0 rf0 r1 rf1
    have d0 := hVR.cell 0 _ rfl
    have d1 := hVR.cell 1 _ rfl
    refine bodyPost_ret (by simp [results, Tryz.results21, go_sem, d0, d1]; try rfl) rfl ?_
    exact ⟨by rw [HX.out, readIdV_label (by rw [← HB.out, ← HPE.out]; exact hpe)]; first | rfl | done, hVB⟩
  subst hpe
  by_cases hm : 35 ∈ s.data.toList
  case neg =>
    have q1 : (m1 : Int) = (s.size : Int) := by have := P3.out hm; omega
    have r0 := hR.cell 0 _ rfl
    have rf0 := hR.fr 0 _ rfl
    have r1 := hR.cell 1 _ rfl
    have rf1 := hR.fr 1 _ rfl
    have hltR := hR.lt
    go_wp2
    refine named_post fun V hV => ?_
    have hVR : Blk V w.heap.size [.int .u64 0, .int .u64 0] := by rw [hV]; exact (((((hR).set 0 _)).set 1 _)).alloc _
    have hVB : Below w.heap.size w V := by rw [hV]; exact (((((hB).setCell (p := ⟨w.heap.size, 0, none⟩) (Nat.le_refl _) _)).setCell (p := ⟨w.heap.size, 1, none⟩) (Nat.le_refl _) _)).alloc (by simpa [World.setCell] using hB.size) _
    clear hV r0 rf0 r1 rf1
    have d0 := hVR.cell 0 _ rfl
    have d1 := hVR.cell 1 _ rfl
    refine bodyPost_ret (by simp [results, Tryz.results21, go_sem, d0, d1]; try rfl) rfl ?_
    exact ⟨by rw [HX.out, readIdV_mark hm]; first | rfl | done, hVB⟩
  have hlt := P2.out hm
  have hs := HS.out
  have g2m1 : (m1 : Int) + 1 ≤ (s.size : Int) := by omega
  have g3m1 : IntKind.i64.wrap ((m1 : Int) + 1) = (m1 : Int) + 1 := IntWalk.i64_in _ ⟨by omega, by omega⟩
  have g4m1 : (0 : Int) ≤ (m1 : Int) + 1 := by omega
  have g5m1 : ((m1 : Int) + 1).toNat = m1 + 1 := by omega
  have g6m1 : ¬ (m1 : Int) = (s.size : Int) := by omega
  obtain ⟨D, hD⟩ : ∃ A, A = strOf (cutR s.data.toList 35) := ⟨_, rfl⟩
  have e2 : s.extract (m1 + 1) s.size = D := by rw [HM1.out, hD]; exact cut_back s 35 hm
  have hd1 : D.data.toList = cutR s.data.toList 35 := by rw [hD, strOf_data]
  have hz1 : D.size ≤ 10000 := by have := (cut_len s.data.toList 35).2; rw [bytes_size s] at this; rw [hD, strOf_len]; omega
  have hV := fun w => refValue_any D w (by omega)
  unfold ValOut at hV
  rw [hd1] at hV
  have HM := Lib.hid hm
  have hil : (iL s : Int) = pl := by
    have := (iL_is s).1
    rw [← HB.out, ← HPL.out] at this
    exact this.symm
  have HIL := Lib.hid hil
  have HP0 := Lib.hid (show (parseI (strOf (cutA s.data.toList 35))).2.1 = 0 by rw [← HB.out, ← HPE.out])
  clear hD hd1 hz1 hm hlt hs hil HPL HPE HB P2 P3 HM1
  go_wp2_with fail
  refine named fun W2 hW => ?_
  have hRl := hR.lt
  replace hR : Blk W2 w.heap.size [.int .u64 0, .int .u64 0] := by rw [hW]; exact hR.alloc _
  have hB2 : Below w.heap.size w W2 := by rw [hW]; exact hB.alloc hB.size _
  clear hW hB
  have hB := hB2
  clear hB2
  clear hRl e2 g0m1 g1m1 g2m1 g3m1 g4m1 g5m1 g6m1
  refine (hV _).mono ?_
  rintro e w2 ⟨n, b, rfl, hn, ht, hf, mm, hw2⟩
  have hR2 : Blk w2 w.heap.size [.int .u64 0, .int .u64 0] := by rw [hw2]; exact hR.drewN mm
  have hB2 : Below w.heap.size w w2 := by rw [hw2]; exact below_drewN hB mm
  clear hw2 hR hB
  have hR := hR2
  have hB := hB2
  clear hR2 hB2
  clear hV
  cases b
  case false =>
    have HF := Lib.hid (hf rfl)
    clear hf ht
    have r0 := hR.cell 0 _ rfl
    have rf0 := hR.fr 0 _ rfl
    have r1 := hR.cell 1 _ rfl
    have rf1 := hR.fr 1 _ rfl
    have hltR := hR.lt
    go_wp2
    refine named_post fun V hV => ?_
    have hVR : Blk V w.heap.size [.int .u64 0, .int .u64 0] := by rw [hV]; exact (((((hR).set 0 _)).set 1 _)).alloc _
    have hVB : Below w.heap.size w V := by rw [hV]; exact (((((hB).setCell (p := ⟨w.heap.size, 0, none⟩) (Nat.le_refl _) _)).setCell (p := ⟨w.heap.size, 1, none⟩) (Nat.le_refl _) _)).alloc (by simpa [World.setCell] using hB.size) _
    clear hV r0 rf0 r1 rf1
    have d0 := hVR.cell 0 _ rfl
    have d1 := hVR.cell 1 _ rfl
    refine bodyPost_ret (by simp [results, Tryz.results21, go_sem, d0, d1]; try rfl) rfl ?_
    exact ⟨by rw [HX.out, readIdV_value (fun n hn _ => HF.out n hn)]; first | rfl | done, hVB⟩
  have HT := Lib.hid (ht rfl)
  clear ht hf
  have hC := refCheckId_is pl (show (0 : Int) ≤ (n : Int) by omega) rfl
  simp only [idv] at hC
  obtain ⟨c, hc⟩ : ∃ c, c = checkIdI (n : Int) := ⟨_, rfl⟩
  rw [← hc] at hC
  have HC := Lib.hid hc
  have HN := Lib.hid hn
  clear hc hn
  go_wp2_with fail
  refine named fun W3 hW => ?_
  have hRl := hR.lt
  have hI : Blk W3 w2.heap.size [.int .u64 pl, .int .u64 (n : Int)] := by rw [hW]; exact Blk.is _ rfl
  replace hR : Blk W3 w.heap.size [.int .u64 0, .int .u64 0] := by rw [hW]; exact hR.alloc _
  have hB2 : Below w.heap.size w W3 := by rw [hW]; exact hB.alloc hB.size _
  obtain ⟨N, hNe⟩ : ∃ N, N = w2.heap.size := ⟨_, rfl⟩
  rw [← hNe] at hI hRl ⊢
  clear hW hB hNe
  have hB := hB2
  clear hB2
  refine (hC _).mono ?_
  rintro e w3 ⟨rfl, hb3⟩
  replace hB := bstep hB hb3
  replace hR := hR.later hb3
  replace hI := hI.later hb3
  clear hb3 hC
  by_cases hcz : c = 0
  case neg =>
    have r0 := hR.cell 0 _ rfl
    have rf0 := hR.fr 0 _ rfl
    have r1 := hR.cell 1 _ rfl
    have rf1 := hR.fr 1 _ rfl
    have hltR := hR.lt
    go_wp2
    refine named_post fun V hV => ?_
    have hVR : Blk V w.heap.size [.int .u64 0, .int .u64 0] := by rw [hV]; exact ((((hR).set 0 _)).set 1 _)
    have hVB : Below w.heap.size w V := by rw [hV]; exact ((((hB).setCell (p := ⟨w.heap.size, 0, none⟩) (Nat.le_refl _) _)).setCell (p := ⟨w.heap.size, 1, none⟩) (Nat.le_refl _) _)
    clear hV r0 rf0 r1 rf1
    have d0 := hVR.cell 0 _ rfl
    have d1 := hVR.cell 1 _ rfl
    refine bodyPost_ret (by simp [results, Tryz.results21, go_sem, d0, d1]; try rfl) rfl ?_
    exact ⟨by rw [HX.out, readIdV_value (fun u hu hc2 e => hcz (by rw [HC.out]; have h1 := HT.out; rw [e] at h1; rw [← dec_inj h1]; simp [checkIdI, hc2]))]; first | rfl | done, hVB⟩
  subst hcz
  have hcb : isCountB (n : Int) = true := by
    have h1 := HC.out
    unfold checkIdI at h1
    by_cases h : isCountB (n : Int) = true
    · exact h
    · rw [if_neg h] at h1
      exact absurd h1 (by decide)
  have HCB := Lib.hid hcb
  clear hcb
  have i0 := hI.cell 0 _ rfl
  have i1 := hI.cell 1 _ rfl
  have ltI := hI.lt
  have r0 := hR.cell 0 _ rfl
  have rf0 := hR.fr 0 _ rfl
  have r1 := hR.cell 1 _ rfl
  have rf1 := hR.fr 1 _ rfl
  have hltR := hR.lt
  go_wp2
  refine named_post fun V hV => ?_
  have hVR : Blk V w.heap.size [.int .u64 pl, .int .u64 (n : Int)] := by rw [hV]; exact ((((hR).set 0 _)).set 1 _)
  have hVB : Below w.heap.size w V := by rw [hV]; exact ((((hB).setCell (p := ⟨w.heap.size, 0, none⟩) (Nat.le_refl _) _)).setCell (p := ⟨w.heap.size, 1, none⟩) (Nat.le_refl _) _)
  clear hV r0 rf0 r1 rf1
  have d0 := hVR.cell 0 _ rfl
  have d1 := hVR.cell 1 _ rfl
  refine bodyPost_ret (by simp [results, Tryz.results21, go_sem, d0, d1]; try rfl) rfl ?_
  exact ⟨by rw [HX.out, readIdV_yes HM.out HP0.out HT.out HCB.out, HIL.out]; first | rfl | done, hVB⟩
end Go.Proofs.YtcmdndgaggbhoaaGreatDoor.Ev
