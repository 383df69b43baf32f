/- Walk: WireBack. -/
import Derived.Test.YtgcgoiaadigmfaaWireBackM
import Derived.Test.YtgcgoiaadigmfaaWireV
import Derived.Test.YtgcgoiaadigmfaaKitAt
import Derived.Test.YtgcgoiaadigmfaaKitShort
import Derived.Test.YtgcgoiaadigmfaaHeld
import Derived.Deep.LoopGhost
import Derived.Deep.RegionWith
import Derived.Deep.DeepCutAuto
namespace Go.Proofs.Ytgcgoiaadigmfaa
open Go.RowKit
open Wr

/-- What is written of one number, and of one string. -/
def nAt (l : List Int) (i : Nat) : Nat := (l.getD i 0).toNat
def pc1 (l ks : List Int) (i : Nat) : List UInt8 := digI ((nAt l i % 256 ^ szI (atI ks i) : Nat) : Int) (szI (atI ks i)) ++ digI (nAt l i : Int) 8
def sAt (ls : List ByteArray) (i : Nat) : ByteArray := ls.getD i ⟨#[]⟩
def pc2 (ls : List ByteArray) (i : Nat) : List UInt8 := digI (sAt ls i).size 2 ++ ((sAt ls i).data.toList ++ (sAt ls i).data.toList)
theorem szI_le (k : Int) : 1 ≤ szI k ∧ szI k ≤ 8 ∧ isSz (szI k) = true := by
  rcases szI_cases k with h | h | h | h <;> obtain ⟨_, h⟩ := h <;> rw [h] <;> decide
theorem pc1_len (l ks : List Int) (i : Nat) : (pc1 l ks i).length ≤ 16 := by
  have := szI_le (atI ks i)
  simp [pc1, digI_length]
  omega
theorem digI_wrap (n : Nat) : digI (IntKind.i64.wrap (n : Int)) 8 = digI (n : Int) 8 := by
  rw [← digI_u64 (IntKind.i64.wrap (n : Int)) 8 (by decide), ← digI_u64 (n : Int) 8 (by decide)]
  congr 1
  rw [IntKind.wrap_i64]
  omega
theorem slc_at {w : World} {us : List Value} {a : Addr} {n cap : Nat} (h : Slc w (.slice (some a) n cap) us) (i : Nat) (u : Value) (hu : us[i]? = some u) : w.cell? (a.add i) = some u := by
  obtain ⟨A, cap', he, _, _, hc⟩ := h
  simp only [Value.slice.injEq] at he
  obtain ⟨rfl, -, -⟩ := he
  obtain ⟨h1, h2⟩ := List.getElem?_eq_some_iff.1 hu
  obtain ⟨a', ha, _, hcell⟩ := hc i h1
  cases ha
  rw [hcell, h2]
def wCells (A : List UInt8) : List Value := [.string (strOf A), .int .i64 20000, .int .i64 0]
theorem sAt_le (ls : List ByteArray) (h : shortB ls 100 = true) (i : Nat) : (sAt ls i).size ≤ 100 := by
  unfold sAt
  rw [List.getD_eq_getElem?_getD]
  by_cases hi : i < ls.length
  · rw [List.getElem?_eq_getElem hi]
    unfold shortB at h
    rw [List.all_eq_true] at h
    simpa using h ls[i] (List.getElem_mem hi)
  · rw [List.getElem?_eq_none (by omega)]
    exact Nat.zero_le _
theorem pc2_len (ls : List ByteArray) (h : shortB ls 100 = true) (i : Nat) : (pc2 ls i).length ≤ 202 := by
  have := sAt_le ls h i
  simp [pc2, digI_length]
  omega
/-- What the second loop hands on. -/
def Bk2 (P : List UInt8) (ls : List ByteArray) (B : Nat) (w : World) (g : Nat) (i : Value) (wr : World) : Prop :=
  ∃ j : Nat, g = ls.length - j ∧ j ≤ ls.length ∧ i = .int .i64 j ∧ Blk wr B [.string (strOf (P ++ cat (pc2 ls) j)), .int .i64 20000, .int .i64 0] ∧ Below w.heap.size w wr
/-- What the third loop hands on. -/
def Bk3 (S : ByteArray) (l ks : List Int) (R : Nat) (w : World) (g : Nat) (i : Value) (wr : World) : Prop :=
  ∃ j : Nat, g = l.length - j ∧ j ≤ l.length ∧ i = .int .i64 j ∧ Blk wr R [.string S, .int .i64 ((cat (pc1 l ks) j).length : Nat), .int .i64 0, .int .i64 0] ∧ Below w.heap.size w wr
/-- What the fourth loop hands on. -/
def Bk4 (S : ByteArray) (P : List UInt8) (ls : List ByteArray) (R : Nat) (w : World) (g : Nat) (i : Value) (wr : World) : Prop :=
  ∃ j : Nat, g = ls.length - j ∧ j ≤ ls.length ∧ i = .int .i64 j ∧ Blk wr R [.string S, .int .i64 ((P ++ cat (pc2 ls) j).length : Nat), .int .i64 0, .int .i64 0] ∧ Below w.heap.size w wr
/-- What the reading of the bytes of a string hands on. -/
def BkCut (S s : ByteArray) (R : Nat) (w : World) (o1 o3 : Nat) (s26 s27 : Value) (wx : World) : Prop :=
  ∃ N : Nat, s26 = .pointer (some ⟨N, 0, none⟩) ∧ s27 = .string s ∧ N ≠ R ∧ Blk wx N [.string S, .int .i64 (o3 : Int), .int .i64 0, .int .i64 0] ∧ Blk wx R [.string S, .int .i64 (o1 : Int), .int .i64 0, .int .i64 0] ∧ Below w.heap.size w wx
theorem strOf_data (s : ByteArray) : strOf s.data.toList = s := by
  apply ByteArray.ext
  show s.data.toList.toArray = s.data
  simp
theorem end_r (S : ByteArray) : (endR ⟨S, (S.size : Int), 0, 0⟩).e = 0 ∧ (endR ⟨S, (S.size : Int), 0, 0⟩).a = 0 := by
  unfold endR
  rw [open_r S S.size (Nat.le_refl _), if_neg (by show ¬ (S.size : Int) < S.size; omega)]
  exact ⟨rfl, rfl⟩
/-- What the first loop hands on. -/
def Bk1 (l ks : List Int) (B : Nat) (w : World) (g : Nat) (i : Value) (wr : World) : Prop :=
  ∃ j : Nat, g = l.length - j ∧ j ≤ l.length ∧ i = .int .i64 j ∧ Blk wr B [.string (strOf (cat (pc1 l ks) j)), .int .i64 20000, .int .i64 0] ∧ Below w.heap.size w wr

set_option maxRecDepth 100000 in
set_option maxHeartbeats 40000000 in
theorem back_any (v0 v1 v2 : Value) (l ks : List Int) (ls : List ByteArray) (w : World) (hv0 : Slc w v0 (vals .u64 l)) (hv1 : Slc w v1 (vals .i64 ks)) (hv2 : Slc w v2 (ls.map Value.string)) (hwf : ∀ x ∈ l, 0 ≤ x ∧ x < 18446744073709551616) :
    Calls Try.prog 6 #[v0, v1, v2] w fun e w' => e = .returned (.bool true) ∧ Below w.heap.size w w' := by
  obtain ⟨A0, cap0, rfl, hm0, hc0⟩ := hv0.ints
  obtain ⟨A1, cap1, rfl, hm1, hc1⟩ := hv1.ints
  have hll : (ls.map Value.string).length = ls.length := by simp
  have hv2' := hv2
  obtain ⟨A2, cap2, rfl, hm2, _, hc2⟩ := hv2'
  rw [hll] at hv2 hm2 ⊢
  clear hc0 hc1 hc2
  unfold maxLen at hm2
  have HWF := Lib.hid hwf
  clear hwf
  have hMk := make_any 20000
  rw [show makeW 20000 = ⟨⟨#[]⟩, 20000, 0⟩ from makeW_ok 20000 (by decide)] at hMk
  simp only [Wt.val] at hMk
  by_cases hlen : l.length ≤ 20 ∧ ls.length ≤ 8 ∧ shortB ls 100 = true
  · obtain ⟨hl1, hl2, hsh⟩ := hlen
    have HS := Lib.hid hsh
    clear hsh
    have hk1 : decide ((20 : Int) < (l.length : Int)) = false := by simp; omega
    have hk2 : decide ((8 : Int) < (ls.length : Int)) = false := by simp; omega
    go_enter Try.func6, Try.ntmps6
    go_wp2_with fail
    refine named fun W1 hW => ?_
    have hB : Below w.heap.size w W1 := by rw [hW]; exact (Below.refl _ _)
    clear hW
    refine (known_any _).mono ?_
    rintro e w2 ⟨rfl, hb⟩
    replace hB := bstep hB hb
    clear hb
    go_wp2_with fail
    refine (short_any _ ls 100 _ (hv2.below hB)).mono ?_
    rintro e w' ⟨rfl, rfl⟩
    rw [HS.out]
    go_wp2_with fail
    refine (hMk _).mono ?_
    rintro e w3 ⟨rfl, hb⟩
    replace hB := bstep hB hb
    clear hb
    go_wp2_with fail
    have hBold := hB.size
    refine named_wp fun W4 hW => ?_
    have hKr : Blk W4 w3.heap.size [.string ⟨#[]⟩, .int .i64 20000, .int .i64 0] := by rw [hW]; exact (Blk.is (us := [.string ⟨#[]⟩, .int .i64 20000, .int .i64 0]) _ rfl)
    replace hB : Below w.heap.size w W4 := by rw [hW]; exact (hB).alloc hB.size _
    have hler : w.heap.size ≤ w3.heap.size := by have := hBold; omega
    clear hW hBold
    obtain ⟨B, hBd⟩ : ∃ B, B = w3.heap.size := ⟨_, rfl⟩
    rw [← hBd] at hKr hler ⊢
    clear hBd
    go_loopg [9] l.length (fun g i wr => Bk1 l ks B w g i wr)
    case atStart => exact ⟨0, rfl, by omega, rfl, hKr, hB⟩
    case round =>
      obtain ⟨j, hg, hj, rfl, hKr, hB⟩ := hrel
      have HG := Lib.hid hg
      clear hg
      by_cases hlt : j < l.length
      · have hil : (j : Int) < (l.length : Int) := by omega
        have hw0 := hv0.below hB
        have hw1 := hv1.below hB
        obtain ⟨A3, cap3, he3, _, hc3⟩ := hw0.ints
        simp only [Value.slice.injEq] at he3
        obtain ⟨rfl, -, rfl⟩ := he3
        obtain ⟨a, rfl, hab, hcell⟩ := hc3 j hlt
        obtain ⟨n, hn⟩ : ∃ n, n = nAt l j := ⟨_, rfl⟩
        have hnl : l[j] = (n : Int) ∧ n < 18446744073709551616 := by
          have h1 := HWF.out l[j] (List.getElem_mem hlt)
          have h2 : nAt l j = l[j].toNat := by unfold nAt; rw [List.getD_eq_getElem?_getD, List.getElem?_eq_getElem hlt]; rfl
          rw [hn, h2]; omega
        rw [hnl.1] at hcell
        have HNL := Lib.hid hnl.1
        have hn64 := hnl.2
        have hAt := fun w' h => at_any (.slice A1 ks.length cap1) ks w' h j
        obtain ⟨k, hkd⟩ : ∃ k, k = atI ks j := ⟨_, rfl⟩
        rw [← hkd] at hAt
        have hSz := fun w => size_any k n hn64 w
        obtain ⟨hz1, hz8, hzs⟩ := szI_le k
        have hx : n % 256 ^ szI k < 256 ^ szI k := Nat.mod_lt _ (Nat.pow_pos (by decide))
        have hA := cat_len (pc1 l ks) 16 (pc1_len l ks) j
        have hpc : pc1 l ks j = digI ((n % 256 ^ szI k : Nat) : Int) (szI k) ++ digI (n : Int) 8 := by unfold pc1; rw [← hn, ← hkd]
        have hsucc := Lib.hid (cat_succ (pc1 l ks) j)
        obtain ⟨A, hAd⟩ : ∃ A, A = cat (pc1 l ks) j := ⟨_, rfl⟩
        have hPut := fun w => put_any ⟨strOf A, 20000, 0⟩ (szI k) ((n % 256 ^ szI k : Nat) : Int) w
        have hPI := fun w => putInt64_any ⟨strOf (A ++ digI ((n % 256 ^ szI k : Nat) : Int) (szI k)), 20000, 0⟩ (IntKind.i64.wrap (n : Int)) w
        rw [← hAd] at hA hKr hsucc
        rw [put_w A (szI k) _ hzs hx (by omega)] at hPut
        rw [putInt_w _ _ (by rw [List.length_append, digI_length]; omega), digI_wrap n] at hPI
        rw [hpc, ← List.append_assoc] at hsucc
        simp only [Wt.val] at hPut hPI
        obtain ⟨x, hxd⟩ : ∃ x, x = n % 256 ^ szI k := ⟨_, rfl⟩
        obtain ⟨z, hzd⟩ : ∃ z, z = szI k := ⟨_, rfl⟩
        rw [← hxd] at hPut hPI hSz hsucc
        rw [← hzd] at hPut hPI hSz hsucc
        clear hxd hzd hz1 hz8 hzs hx hA hpc hAd hkd hn hnl hc3
        obtain ⟨s1, hs1⟩ : ∃ s, s = strOf A := ⟨_, rfl⟩
        obtain ⟨s2, hs2⟩ : ∃ s, s = strOf (A ++ digI (x : Int) z) := ⟨_, rfl⟩
        rw [← hs1] at hPut hKr
        rw [← hs2] at hPut hPI
        obtain ⟨s3, hs3⟩ : ∃ s, s = strOf (A ++ digI (x : Int) z ++ digI (n : Int) 8) := ⟨_, rfl⟩
        rw [← hs3] at hPI
        have hnew := Lib.hid (show strOf (cat (pc1 l ks) (j + 1)) = s3 by rw [hsucc.out, hs3])
        clear hs1 hs2 hs3
        have c0 := hKr.cell 0 _ rfl
        have c1 := hKr.cell 1 _ rfl
        have c2 := hKr.cell 2 _ rfl
        have kf0 := hKr.fr 0 _ rfl
        have kf1 := hKr.fr 1 _ rfl
        have kf2 := hKr.fr 2 _ rfl
        have HW1 := Lib.hid hw1
        clear hw0 hw1
        go_wp2_with fail
        go_quiet (first | (go_at_call 44; exact quiet_same (hAt _ (HW1.out.drewN _))) | (go_at_call 43; exact quiet_same (hSz _)))
        have hK1 := hKr.drewN nq
        have hB1 := below_drewN hB nq
        have hcl : (vals .u64 l)[j]? = some (.int .u64 (n : Int)) := by rw [← HNL.out]; simp [vals, hlt]
        have HCL := Lib.hid hcl
        clear hcl
        go_wp2_with fail
        refine (hPut _).mono ?_
        rintro e w1 ⟨rfl, hb⟩
        replace hK1 := hK1.later hb
        replace hB1 := bstep hB1 hb
        clear hb c0 c1 c2 kf0 kf1 kf2 hcell
        have c0 := hK1.cell 0 _ rfl
        have c1 := hK1.cell 1 _ rfl
        have c2 := hK1.cell 2 _ rfl
        have kf0 := hK1.fr 0 _ rfl
        have kf1 := hK1.fr 1 _ rfl
        have kf2 := hK1.fr 2 _ rfl
        go_wp2_with fail
        refine named_wp fun W3 hW => ?_
        replace hK1 : Blk W3 B [.string s2, .int .i64 20000, .int .i64 0] := by rw [hW]; exact ((hK1.set 0 _).set 1 _).set 2 _
        replace hB1 : Below w.heap.size w W3 := by rw [hW]; exact ((hB1.setCell (p := ⟨B, 0, none⟩) hler _).setCell (p := ⟨B, 1, none⟩) hler _).setCell (p := ⟨B, 2, none⟩) hler _
        clear hW c0 c1 c2 kf0 kf1 kf2
        have hcell := slc_at (hv0.below hB1) j _ HCL.out
        have c0 := hK1.cell 0 _ rfl
        have c1 := hK1.cell 1 _ rfl
        have c2 := hK1.cell 2 _ rfl
        go_region_with ((go_at_call 31; refine (hPI _).mono ?_; rintro e9 w9 ⟨rfl, hb9⟩; have hK9 := hK1.drew.later hb9; have hB9 := bstep hB1.drew hb9; have d0 := hK9.cell 0 _ rfl; have d1 := hK9.cell 1 _ rfl; have d2 := hK9.cell 2 _ rfl; have g0 := hK9.fr 0 _ rfl; have g1 := hK9.fr 1 _ rfl; have g2 := hK9.fr 2 _ rfl))
        all_goals
          go_wp2
          go_roundg (l.length - (j + 1))
          case measure => have := HG.out; omega
          case rel => exact ⟨j + 1, rfl, by omega, by go_num, by rw [hnew.out]; exact ((hK9.set 0 _).set 1 _).set 2 _, ((hB9.setCell (p := ⟨B, 0, none⟩) hler _).setCell (p := ⟨B, 1, none⟩) hler _).setCell (p := ⟨B, 2, none⟩) hler _⟩
      · obtain rfl : j = l.length := by omega
        have hA := cat_len (pc1 l ks) 16 (pc1_len l ks) l.length
        obtain ⟨P, hP⟩ : ∃ P, P = cat (pc1 l ks) l.length := ⟨_, rfl⟩
        rw [← hP] at hKr hA
        have HP := Lib.hid hP
        clear hP
        have hA2 : P.length ≤ 320 := by omega
        clear hA HG
        go_wp2_with fail
        go_loopg [12] ls.length (fun g i wr => Bk2 P ls B w g i wr)
        case atStart => exact ⟨0, rfl, by omega, rfl, by rw [show cat (pc2 ls) 0 = [] from rfl, List.append_nil]; exact hKr, hB⟩
        case round =>
          obtain ⟨j, hg, hj, rfl, hKr, hB⟩ := hrel
          have HG := Lib.hid hg
          clear hg
          by_cases hlt : j < ls.length
          · have hil : (j : Int) < (ls.length : Int) := by omega
            obtain ⟨A3, cap3, he3, _, _, hc3⟩ := hv2.below hB
            rw [hll] at he3
            simp only [Value.slice.injEq] at he3
            obtain ⟨rfl, -, rfl⟩ := he3
            obtain ⟨a, rfl, hab, hcell⟩ := hc3 j (by simpa using hlt)
            obtain ⟨s, hsd⟩ : ∃ s, s = sAt ls j := ⟨_, rfl⟩
            have hs100 := sAt_le ls HS.out j
            rw [← hsd] at hs100
            have hls : ls[j] = s := by rw [hsd]; unfold sAt; rw [List.getD_eq_getElem?_getD, List.getElem?_eq_getElem hlt]; rfl
            rw [List.getElem_map, hls] at hcell
            have hcl := Lib.hid (show (ls.map Value.string)[j]? = some (.string s) by rw [List.getElem?_map, List.getElem?_eq_getElem hlt, hls]; rfl)
            have hQ := cat_len (pc2 ls) 202 (pc2_len ls HS.out) j
            have hsucc := cat_succ (pc2 ls) j
            obtain ⟨Q, hQd⟩ : ∃ Q, Q = P ++ cat (pc2 ls) j := ⟨_, rfl⟩
            have hQl : Q.length ≤ 1936 := by rw [hQd, List.length_append]; omega
            have hPS := fun w => putSized_any ⟨strOf Q, 20000, 0⟩ s w (by omega)
            rw [putSized_w Q s (by omega) (by omega)] at hPS
            have hQ2 : (Q ++ (digI s.size 2 ++ s.data.toList)).length + s.size ≤ 20000 := by
              rw [List.length_append, List.length_append, digI_length, bytes_size]; omega
            have hAD := fun (w : World) (v : Value) (hv : Sln w v (strs [⟨#[]⟩, s])) => add_pub ⟨strOf (Q ++ (digI s.size 2 ++ s.data.toList)), 20000, 0⟩ v [⟨#[]⟩, s] w hv (by simp) (fun z hz => by
              rcases List.mem_cons.1 hz with h | h
              · rw [h]; decide
              · rw [List.mem_singleton.1 h]; omega)
            rw [add2_w _ s hQ2] at hAD
            rw [← hQd] at hKr
            have hfin : strOf (P ++ cat (pc2 ls) (j + 1)) = strOf (Q ++ (digI s.size 2 ++ s.data.toList) ++ s.data.toList) := by
              rw [hsucc, hQd]
              unfold pc2
              rw [← hsd]
              simp only [List.append_assoc]
            simp only [Wt.val] at hPS hAD
            obtain ⟨s1, hs1⟩ : ∃ x, x = strOf Q := ⟨_, rfl⟩
            obtain ⟨s2, hs2⟩ : ∃ x, x = strOf (Q ++ (digI s.size 2 ++ s.data.toList)) := ⟨_, rfl⟩
            obtain ⟨s3, hs3⟩ : ∃ x, x = strOf (Q ++ (digI s.size 2 ++ s.data.toList) ++ s.data.toList) := ⟨_, rfl⟩
            rw [← hs1] at hPS hKr
            rw [← hs2] at hPS hAD
            rw [← hs3] at hAD hfin
            have hnew := Lib.hid hfin
            clear hs1 hs2 hs3 hfin hQ2 hQl hQ hsucc hQd hls hsd hs100 hc3
            have c0 := hKr.cell 0 _ rfl
            have c1 := hKr.cell 1 _ rfl
            have c2 := hKr.cell 2 _ rfl
            go_wp2_with fail
            go_region_with ((go_at_call 35; refine (hPS _).mono ?_; rintro e9 w9 ⟨rfl, hb9⟩; have hK9 := hKr.drew.later hb9; have hB9 := bstep hB.drew hb9; have d0 := hK9.cell 0 _ rfl; have d1 := hK9.cell 1 _ rfl; have d2 := hK9.cell 2 _ rfl; have g0 := hK9.fr 0 _ rfl; have g1 := hK9.fr 1 _ rfl; have g2 := hK9.fr 2 _ rfl))
            all_goals
              go_wp2_with fail
              refine named_wp fun W5 hW => ?_
              have hK5 : Blk W5 B [.string s2, .int .i64 20000, .int .i64 0] := by rw [hW]; exact ((hK9.set 0 _).set 1 _).set 2 _
              have hB5 : Below w.heap.size w W5 := by rw [hW]; exact ((hB9.setCell (p := ⟨B, 0, none⟩) hler _).setCell (p := ⟨B, 1, none⟩) hler _).setCell (p := ⟨B, 2, none⟩) hler _
              clear hW c0 c1 c2 d0 d1 d2 g0 g1 g2 hcell hKr hB hK9 hB9
              have hcell := slc_at (hv2.below hB5) j _ hcl.out
              have hcA : (W5.alloc (.cells #[.string ⟨#[]⟩, .string s] 9)).cell? (a.add j) = some (.string s) := (World.cell?_alloc_lt _ _ _ (World.block_lt_of_cell? W5 _ hcell)).trans hcell
              have hltB := hK5.lt
              have c0 := hK5.cell 0 _ rfl
              have c1 := hK5.cell 1 _ rfl
              have c2 := hK5.cell 2 _ rfl
              have hSl := Lib.hid (show Sln ((W5.alloc (.cells #[.string ⟨#[]⟩, .string s] 9)).drew) (.slice (some ⟨W5.heap.size, 0, none⟩) 2 2) (strs [⟨#[]⟩, s]) from Sln.blk (w := W5.alloc (.cells #[.string ⟨#[]⟩, .string s] 9)) (Blk.is (us := strs [⟨#[]⟩, s]) (w := W5) 9 rfl) (show (2 : Nat) ≤ 1000000 by decide))
              go_region_with ((go_at_call 33; refine (hAD _ _ hSl.out).mono ?_; rintro e9 w9 ⟨rfl, hb9⟩; have hK9 := (hK5.alloc (.cells (strs [⟨#[]⟩, s]).toArray 9)).drew.later hb9; have hB9 := bstep (hB5.alloc hB5.size (.cells (strs [⟨#[]⟩, s]).toArray 9)).drew hb9; have d0 := hK9.cell 0 _ rfl; have d1 := hK9.cell 1 _ rfl; have d2 := hK9.cell 2 _ rfl; have g0 := hK9.fr 0 _ rfl; have g1 := hK9.fr 1 _ rfl; have g2 := hK9.fr 2 _ rfl))
              all_goals
                go_wp2
                go_roundg (ls.length - (j + 1))
                case measure => have := HG.out; omega
                case rel => exact ⟨j + 1, rfl, by omega, by go_num, by rw [hnew.out]; exact ((hK9.set 0 _).set 1 _).set 2 _, ((hB9.setCell (p := ⟨B, 0, none⟩) hler _).setCell (p := ⟨B, 1, none⟩) hler _).setCell (p := ⟨B, 2, none⟩) hler _⟩
          · obtain rfl : j = ls.length := by omega
            have hC := cat_len (pc2 ls) 202 (pc2_len ls HS.out) ls.length
            obtain ⟨C, hCd⟩ : ∃ C, C = cat (pc2 ls) ls.length := ⟨_, rfl⟩
            rw [← hCd] at hKr hC
            have HCd := Lib.hid hCd
            obtain ⟨S, hS⟩ : ∃ S, S = strOf (P ++ C) := ⟨_, rfl⟩
            rw [← hS] at hKr
            have hSs : S.size ≤ 20000 := by rw [hS, strOf_size, List.length_append]; omega
            have HSd := Lib.hid hS
            clear hCd hS hC HG
            have hDn := fun w => done_any ⟨S, 20000, 0⟩ w
            rw [show doneW ⟨S, 20000, 0⟩ = (S, 0) from doneW_ok S 20000 (by decide) hSs] at hDn
            have hRd := fun w => read_any S w
            rw [show (readR S).val = .agg #[.string S, .int .i64 0, .int .i64 0, .int .i64 0] from rfl] at hRd
            simp only [Wt.val] at hDn
            have cr0 := hKr.cell 0 _ rfl
            have fr0 := hKr.fr 0 _ rfl
            have cr1 := hKr.cell 1 _ rfl
            have fr1 := hKr.fr 1 _ rfl
            have cr2 := hKr.cell 2 _ rfl
            have fr2 := hKr.fr 2 _ rfl
            go_wp2_with fail
            clear cr0 fr0 cr1 fr1 cr2 fr2
            refine (hDn _).mono ?_
            rintro e w51 ⟨rfl, hb⟩
            replace hKr := hKr.later hb
            replace hB := bstep hB hb
            clear hb
            go_wp2_with fail
            refine (hRd _).mono ?_
            rintro e w52 ⟨rfl, hb⟩
            replace hKr := hKr.later hb
            replace hB := bstep hB hb
            clear hb
            go_wp2_with fail
            have hBold := hB.size
            have hltoldr := hKr.lt
            refine named_wp fun W53 hW => ?_
            replace hKr : Blk W53 B [.string S, .int .i64 20000, .int .i64 0] := by rw [hW]; exact (hKr.alloc _)
            have hKd : Blk W53 w52.heap.size [.string S, .int .i64 0, .int .i64 0, .int .i64 0] := by rw [hW]; exact (Blk.is (us := [.string S, .int .i64 0, .int .i64 0, .int .i64 0]) _ rfl)
            replace hB : Below w.heap.size w W53 := by rw [hW]; exact (hB).alloc hB.size _
            have hled : w.heap.size ≤ w52.heap.size := by have := hBold; omega
            have hltrd : B < w52.heap.size := by have := hltoldr; omega
            clear hW hBold hltoldr
            obtain ⟨R, hRe⟩ : ∃ R, R = w52.heap.size := ⟨_, rfl⟩
            rw [← hRe] at hKd hled ⊢
            clear hRe hltrd
            clear hDn hRd
            go_loopg [16] l.length (fun g i wr => Bk3 S l ks R w g i wr)
            case atStart => exact ⟨0, rfl, by omega, rfl, hKd, hB⟩
            case round =>
              obtain ⟨j, hg, hj, rfl, hKr, hB⟩ := hrel
              have HG := Lib.hid hg
              clear hg
              by_cases hlt : j < l.length
              · have hil : (j : Int) < (l.length : Int) := by omega
                have hw0 := hv0.below hB
                have hw1 := hv1.below hB
                obtain ⟨A3, cap3, he3, _, hc3⟩ := hw0.ints
                simp only [Value.slice.injEq] at he3
                obtain ⟨rfl, -, rfl⟩ := he3
                obtain ⟨a, rfl, hab, hcell⟩ := hc3 j hlt
                obtain ⟨n, hn⟩ : ∃ n, n = nAt l j := ⟨_, rfl⟩
                have hnl : l[j] = (n : Int) ∧ n < 18446744073709551616 := by
                  have h1 := HWF.out l[j] (List.getElem_mem hlt)
                  have h2 : nAt l j = l[j].toNat := by unfold nAt; rw [List.getD_eq_getElem?_getD, List.getElem?_eq_getElem hlt]; rfl
                  rw [hn, h2]; omega
                rw [hnl.1] at hcell
                have hn64 := hnl.2
                have HCL := Lib.hid (show (vals .u64 l)[j]? = some (.int .u64 (n : Int)) by rw [← hnl.1]; simp [vals, hlt])
                have hAt := fun w' h => at_any (.slice A1 ks.length cap1) ks w' h j
                obtain ⟨k, hkd⟩ : ∃ k, k = atI ks j := ⟨_, rfl⟩
                rw [← hkd] at hAt
                have hSz := fun w => size_any k n hn64 w
                obtain ⟨hz1, hz8, hzs⟩ := szI_le k
                have hx : n % 256 ^ szI k < 256 ^ szI k := Nat.mod_lt _ (Nat.pow_pos (by decide))
                have hpc : pc1 l ks j = digI ((n % 256 ^ szI k : Nat) : Int) (szI k) ++ digI (n : Int) 8 := by unfold pc1; rw [← hn, ← hkd]
                obtain ⟨r, hr⟩ := cat_le (pc1 l ks) (show j + 1 ≤ l.length by omega)
                have hsucc := cat_succ (pc1 l ks) j
                obtain ⟨A, hAd⟩ : ∃ A, A = cat (pc1 l ks) j := ⟨_, rfl⟩
                rw [← hAd] at hKr hsucc
                have hU := fun w => uint_any ⟨S, (A.length : Nat), 0, 0⟩ (szI k) w (by show S.size ≤ _; omega)
                have hI := fun w => int64_any ⟨S, ((A.length + szI k : Nat) : Int), 0, 0⟩ w (by show S.size ≤ _; omega)
                have hSd1 : S = strOf (A ++ (digI ((n % 256 ^ szI k : Nat) : Int) (szI k) ++ (digI (n : Int) 8 ++ (r ++ C)))) := by
                  rw [HSd.out, HP.out, hr, hsucc, hpc]; simp only [List.append_assoc]
                have hSd2 : S = strOf ((A ++ digI ((n % 256 ^ szI k : Nat) : Int) (szI k)) ++ (digI (n : Int) 8 ++ (r ++ C))) := by
                  rw [hSd1]; simp only [List.append_assoc]
                have hu := uint_r A (digI ((n % 256 ^ szI k : Nat) : Int) (szI k)) (digI (n : Int) 8 ++ (r ++ C)) (by rw [digI_length]; exact hzs)
                rw [← hSd1, digI_length, numOf_digI, Nat.mod_eq_of_lt hx] at hu
                have hi := int64_r (A ++ digI ((n % 256 ^ szI k : Nat) : Int) (szI k)) (digI (n : Int) 8) (r ++ C) (digI_length _ _)
                rw [← hSd2, List.length_append, digI_length, numOf_digI, Nat.mod_eq_of_lt (show n < 256 ^ 8 from hn64)] at hi
                rw [hu] at hU
                rw [hi] at hI
                simp only [Rd.val] at hU hI
                have hlen2 : (cat (pc1 l ks) (j + 1)).length = A.length + szI k + 8 := by rw [hsucc, hpc, List.length_append, List.length_append, digI_length, digI_length]; omega
                obtain ⟨x, hxd⟩ : ∃ x, x = n % 256 ^ szI k := ⟨_, rfl⟩
                obtain ⟨z, hzd⟩ : ∃ z, z = szI k := ⟨_, rfl⟩
                rw [← hxd] at hU hSz
                rw [← hzd] at hU hI hSz hlen2
                obtain ⟨o1, ho1⟩ : ∃ o : Nat, o = A.length := ⟨_, rfl⟩
                obtain ⟨o2, ho2⟩ : ∃ o : Nat, o = A.length + z := ⟨_, rfl⟩
                obtain ⟨o3, ho3⟩ : ∃ o : Nat, o = A.length + z + 8 := ⟨_, rfl⟩
                rw [← ho3] at hlen2 hI
                rw [← ho2] at hI hU
                rw [← ho1] at hKr hU
                have HL2 := Lib.hid hlen2
                clear hxd hzd hz1 hz8 hzs hx hpc hAd hkd hn hnl hc3 hu hi hSd1 hSd2 hlen2 ho1 ho2 ho3 hr hsucc
                have HW1 := Lib.hid hw1
                clear hw0 hw1
                have c0 := hKr.cell 0 _ rfl
                have c1 := hKr.cell 1 _ rfl
                have c2 := hKr.cell 2 _ rfl
                have c3 := hKr.cell 3 _ rfl
                go_wp2_with fail
                go_quiet (first | (go_at_call 44; exact quiet_same (hAt _ (HW1.out.drewN _))) | (go_at_call 43; exact quiet_same (hSz _)))
                replace hKr := hKr.drewN nq
                replace hB := below_drewN hB nq
                obtain ⟨V, hV⟩ : ∃ V, V = wr.drewN nq := ⟨_, rfl⟩
                rw [← hV] at hKr hB ⊢
                clear hV c0 c1 c2 c3 hcell
                have cr0 := hKr.cell 0 _ rfl
                have fr0 := hKr.fr 0 _ rfl
                have cr1 := hKr.cell 1 _ rfl
                have fr1 := hKr.fr 1 _ rfl
                have cr2 := hKr.cell 2 _ rfl
                have fr2 := hKr.fr 2 _ rfl
                have cr3 := hKr.cell 3 _ rfl
                have fr3 := hKr.fr 3 _ rfl
                go_wp2_with fail
                clear cr0 fr0 cr1 fr1 cr2 fr2 cr3 fr3
                refine (hU _).mono ?_
                rintro e w51 ⟨rfl, hb⟩
                replace hKr := hKr.later hb
                replace hB := bstep hB hb
                clear hb
                have cr0 := hKr.cell 0 _ rfl
                have fr0 := hKr.fr 0 _ rfl
                have cr1 := hKr.cell 1 _ rfl
                have fr1 := hKr.fr 1 _ rfl
                have cr2 := hKr.cell 2 _ rfl
                have fr2 := hKr.fr 2 _ rfl
                have cr3 := hKr.cell 3 _ rfl
                have fr3 := hKr.fr 3 _ rfl
                have lr := hKr.lt
                go_wp2_with fail
                have hBold := hB.size
                have hltoldr := hKr.lt
                refine named fun W52 hW => ?_
                replace hKr : Blk W52 R [.string S, .int .i64 (o1 : Int), .int .i64 0, .int .i64 0] := by rw [hW]; exact (hKr.alloc _)
                have hKp : Blk W52 w51.heap.size [.string S, .int .i64 (o2 : Int), .int .i64 0, .int .i64 0] := by rw [hW]; exact (Blk.is (us := [.string S, .int .i64 (o2 : Int), .int .i64 0, .int .i64 0]) _ rfl)
                replace hB : Below w.heap.size w W52 := by rw [hW]; exact (hB).alloc hB.size _
                have hlep : w.heap.size ≤ w51.heap.size := by have := hBold; omega
                have hltrp : R < w51.heap.size := by have := hltoldr; omega
                clear hW cr0 fr0 cr1 fr1 cr2 fr2 cr3 fr3 lr hBold hltoldr
                refine (hI _).mono ?_
                rintro e w53 ⟨rfl, hb⟩
                replace hKr := hKr.later hb
                replace hKp := hKp.later hb
                replace hB := bstep hB hb
                clear hb
                have hcell := slc_at (hv0.below hB) j _ HCL.out
                have hcA : (w53.alloc (.cells #[.string S, .int .i64 (o3 : Int), .int .i64 0, .int .i64 0] 26)).cell? (a.add j) = some (.int .u64 (n : Int)) := (World.cell?_alloc_lt _ _ _ (World.block_lt_of_cell? w53 _ hcell)).trans hcell
                have hwq : IntKind.i64.wrap (n : Int) = wrap64 (n : Int) := IntWalk.i64_left _
                have hkl := hKr.lt
                have cr0 := hKr.cell 0 _ rfl
                have fr0 := hKr.fr 0 _ rfl
                have cr1 := hKr.cell 1 _ rfl
                have fr1 := hKr.fr 1 _ rfl
                have cr2 := hKr.cell 2 _ rfl
                have fr2 := hKr.fr 2 _ rfl
                have cr3 := hKr.cell 3 _ rfl
                have fr3 := hKr.fr 3 _ rfl
                go_wp2
                go_roundg (l.length - (j + 1))
                case measure => have := HG.out; omega
                case rel => exact ⟨j + 1, rfl, by omega, by go_num, by rw [HL2.out]; exact ((((hKr.set 0 _).set 1 _).set 2 _).set 3 _).alloc _, ((((hB.setCell (p := ⟨R, 0, none⟩) hled _).setCell (p := ⟨R, 1, none⟩) hled _).setCell (p := ⟨R, 2, none⟩) hled _).setCell (p := ⟨R, 3, none⟩) hled _).alloc (by simpa [World.setCell] using hB.size) _⟩
              · obtain rfl : j = l.length := by omega
                rw [← HP.out] at hKr
                clear HG
                go_wp2_with fail
                go_loopg [23] ls.length (fun g i wr => Bk4 S P ls R w g i wr)
                case atStart => exact ⟨0, rfl, by omega, rfl, by rw [show cat (pc2 ls) 0 = [] from rfl, List.append_nil]; exact hKr, hB⟩
                case round =>
                  obtain ⟨j, hg, hj, rfl, hKr, hB⟩ := hrel
                  have HG := Lib.hid hg
                  clear hg
                  by_cases hlt : j < ls.length
                  · have hil : (j : Int) < (ls.length : Int) := by omega
                    obtain ⟨s, hsd⟩ : ∃ s, s = sAt ls j := ⟨_, rfl⟩
                    have hs100 := sAt_le ls HS.out j
                    rw [← hsd] at hs100
                    have hls : ls[j] = s := by rw [hsd]; unfold sAt; rw [List.getD_eq_getElem?_getD, List.getElem?_eq_getElem hlt]; rfl
                    have hcl := Lib.hid (show (ls.map Value.string)[j]? = some (.string s) by rw [List.getElem?_map, List.getElem?_eq_getElem hlt, hls]; rfl)
                    obtain ⟨A3, cap3, he3, _, _, hc3⟩ := hv2.below hB
                    rw [hll] at he3
                    simp only [Value.slice.injEq] at he3
                    obtain ⟨rfl, -, rfl⟩ := he3
                    obtain ⟨a, rfl, hab, -⟩ := hc3 j (by simpa using hlt)
                    clear hc3 hab
                    obtain ⟨r, hr⟩ := cat_le (pc2 ls) (show j + 1 ≤ ls.length by omega)
                    have hsucc := cat_succ (pc2 ls) j
                    have hpc : pc2 ls j = digI s.data.toList.length 2 ++ (s.data.toList ++ s.data.toList) := by unfold pc2; rw [← hsd, bytes_size]
                    obtain ⟨Q, hQd⟩ : ∃ Q, Q = P ++ cat (pc2 ls) j := ⟨_, rfl⟩
                    rw [← hQd] at hKr
                    have hS1 : S = strOf (Q ++ (digI s.data.toList.length 2 ++ (s.data.toList ++ (s.data.toList ++ r)))) := by
                      rw [HSd.out, HCd.out, hr, hsucc, hpc, hQd]; simp only [List.append_assoc]
                    have hS2 : S = strOf ((Q ++ (digI s.data.toList.length 2 ++ s.data.toList)) ++ (s.data.toList ++ r)) := by
                      rw [hS1]; simp only [List.append_assoc]
                    have hz := sized_r Q s.data.toList (s.data.toList ++ r) 100 (by rw [bytes_size]; omega) (by decide)
                    rw [← hS1, strOf_data, bytes_size] at hz
                    have hb := bytes_r (Q ++ (digI s.data.toList.length 2 ++ s.data.toList)) s.data.toList r
                    rw [← hS2, strOf_data, List.length_append, List.length_append, digI_length, bytes_size] at hb
                    have hZ := fun w => sizedR_any ⟨S, (Q.length : Nat), 0, 0⟩ 100 w (by show S.size ≤ _; omega)
                    have hBt := fun w => bytes_any ⟨S, ((Q.length + 2 + s.size : Nat) : Int), 0, 0⟩ s.size w (by show S.size ≤ _; omega) (by omega)
                    rw [hz] at hZ
                    rw [show Q.length + 2 + s.size = Q.length + (2 + s.size) by omega, hb] at hBt
                    rw [show Q.length + 2 + s.size = Q.length + (2 + s.size) by omega] at hZ
                    simp only [Rd.val] at hZ hBt
                    have hlen2 : (P ++ cat (pc2 ls) (j + 1)).length = Q.length + (2 + s.size) + s.size := by
                      rw [hsucc, hpc, ← List.append_assoc, ← hQd]
                      simp only [List.length_append, digI_length, bytes_size]
                      omega
                    obtain ⟨o1, ho1⟩ : ∃ o : Nat, o = Q.length := ⟨_, rfl⟩
                    obtain ⟨o2, ho2⟩ : ∃ o : Nat, o = Q.length + (2 + s.size) := ⟨_, rfl⟩
                    obtain ⟨o3, ho3⟩ : ∃ o : Nat, o = Q.length + (2 + s.size) + s.size := ⟨_, rfl⟩
                    rw [← ho3] at hlen2 hBt
                    rw [← ho2] at hZ hBt
                    rw [← ho1] at hKr hZ
                    have HL2 := Lib.hid hlen2
                    clear hz hb hS1 hS2 hQd hpc hsucc hr hsd hlen2 ho1 ho2 ho3 hls
                    have cr0 := hKr.cell 0 _ rfl
                    have fr0 := hKr.fr 0 _ rfl
                    have cr1 := hKr.cell 1 _ rfl
                    have fr1 := hKr.fr 1 _ rfl
                    have cr2 := hKr.cell 2 _ rfl
                    have fr2 := hKr.fr 2 _ rfl
                    have cr3 := hKr.cell 3 _ rfl
                    have fr3 := hKr.fr 3 _ rfl
                    go_wp2_with fail
                    clear cr0 fr0 cr1 fr1 cr2 fr2 cr3 fr3
                    refine (hZ _).mono ?_
                    rintro e w51 ⟨rfl, hb⟩
                    replace hKr := hKr.later hb
                    replace hB := bstep hB hb
                    clear hb
                    go_wp2_with fail
                    have hBold := hB.size
                    have hltoldr := hKr.lt
                    refine named_wp fun W52 hW => ?_
                    replace hKr : Blk W52 R [.string S, .int .i64 (o1 : Int), .int .i64 0, .int .i64 0] := by rw [hW]; exact (hKr.alloc _)
                    have hKp : Blk W52 w51.heap.size [.string S, .int .i64 (o2 : Int), .int .i64 0, .int .i64 0] := by rw [hW]; exact (Blk.is (us := [.string S, .int .i64 (o2 : Int), .int .i64 0, .int .i64 0]) _ rfl)
                    replace hB : Below w.heap.size w W52 := by rw [hW]; exact (hB).alloc hB.size _
                    have hlep : w.heap.size ≤ w51.heap.size := by have := hBold; omega
                    have hltrp : R < w51.heap.size := by have := hltoldr; omega
                    clear hW hBold hltoldr
                    have cp0 := hKp.cell 0 _ rfl
                    have fp0 := hKp.fr 0 _ rfl
                    have cp1 := hKp.cell 1 _ rfl
                    have fp1 := hKp.fr 1 _ rfl
                    have cp2 := hKp.cell 2 _ rfl
                    have fp2 := hKp.fr 2 _ rfl
                    have cp3 := hKp.cell 3 _ rfl
                    have fp3 := hKp.fr 3 _ rfl
                    have hcell := slc_at (hv2.below hB) j _ hcl.out
                    have hcellA : (W52.alloc (.cells #[.string ⟨#[]⟩, .int .i64 0, .int .i64 0, .int .i64 0] 26)).cell? (a.add j) = some (.string s) := (World.cell?_alloc_lt _ _ _ (World.block_lt_of_cell? W52 _ hcell)).trans hcell
                    have hltp := hKp.lt
                    have hltr := hKr.lt
                    have hne1 : ¬ W52.heap.size = R := by omega
                    go_cut [26, 27] (fun s26 s27 wx => BkCut S s R w o1 o3 s26 s27 wx)
                    case first =>
                      go_region_with ((go_at_call 14; refine (hBt _).mono ?_; rintro e9 w9 ⟨rfl, hb9⟩; first | (have hK9 := hKr.drew.later hb9; have hB9 := bstep hB.drew hb9; have hlt9 := hK9.lt; have hN1 : ¬ w9.heap.size = R := (by omega)) | (have hK9 := (hKr.alloc (.cells ([.string ⟨#[]⟩, .int .i64 0, .int .i64 0, .int .i64 0] : List Value).toArray 26)).drew.later hb9; have hB9 := bstep (hB.alloc hB.size (.cells ([.string ⟨#[]⟩, .int .i64 0, .int .i64 0, .int .i64 0] : List Value).toArray 26)).drew hb9; have hN9 := (Blk.is (us := [.string ⟨#[]⟩, .int .i64 0, .int .i64 0, .int .i64 0]) (w := W52) 26 rfl).drew.later hb9; have n0 := hN9.cell 0 _ rfl; have nf0 := hN9.fr 0 _ rfl; have n1 := hN9.cell 1 _ rfl; have nf1 := hN9.fr 1 _ rfl; have n2 := hN9.cell 2 _ rfl; have nf2 := hN9.fr 2 _ rfl; have n3 := hN9.cell 3 _ rfl; have nf3 := hN9.fr 3 _ rfl; have hlt9 := hK9.lt; have ltN := hN9.lt)))
                      all_goals
                        go_wp2_with fail
                        go_meet
                        case rel => first | exact ⟨_, rfl, rfl, hN1, Blk.is (us := [.string S, .int .i64 (o3 : Int), .int .i64 0, .int .i64 0]) _ rfl, hK9.alloc _, hB9.alloc hB9.size _⟩ | exact ⟨_, rfl, rfl, hne1, ((((hN9.set 0 _).set 1 _).set 2 _).set 3 _), ((((hK9.other hne1 _).other hne1 _).other hne1 _).other hne1 _), ((((hB9.setCell (p := ⟨W52.heap.size, 0, none⟩) hB.size _).setCell (p := ⟨W52.heap.size, 1, none⟩) hB.size _).setCell (p := ⟨W52.heap.size, 2, none⟩) hB.size _).setCell (p := ⟨W52.heap.size, 3, none⟩) hB.size _)⟩
                    case rest =>
                    clear hKr hB hKp hcell hcellA hltp hltr hne1 cp0 cp1 cp2 cp3 fp0 fp1 fp2 fp3
                    obtain ⟨N, rfl, rfl, hNR, hKn, hKr, hB⟩ := hcut
                    have hNR2 : ¬ R = N := fun h => hNR h.symm
                    have hcell := slc_at (hv2.below hB) j _ hcl.out
                    have n0 := hKn.cell 0 _ rfl
                    have r0 := hKr.cell 0 _ rfl
                    have rf0 := hKr.fr 0 _ rfl
                    have n1 := hKn.cell 1 _ rfl
                    have r1 := hKr.cell 1 _ rfl
                    have rf1 := hKr.fr 1 _ rfl
                    have n2 := hKn.cell 2 _ rfl
                    have r2 := hKr.cell 2 _ rfl
                    have rf2 := hKr.fr 2 _ rfl
                    have n3 := hKn.cell 3 _ rfl
                    have r3 := hKr.cell 3 _ rfl
                    have rf3 := hKr.fr 3 _ rfl
                    have hltn := hKn.lt
                    have hltr := hKr.lt
                    go_wp2
                    go_roundg (ls.length - (j + 1))
                    case measure => have := HG.out; omega
                    case rel => exact ⟨j + 1, rfl, by omega, by go_num, by rw [HL2.out]; exact ((((hKr.set 0 _).set 1 _).set 2 _).set 3 _), ((((hB.setCell (p := ⟨R, 0, none⟩) hled _).setCell (p := ⟨R, 1, none⟩) hled _).setCell (p := ⟨R, 2, none⟩) hled _).setCell (p := ⟨R, 3, none⟩) hled _)⟩
                  · obtain rfl : j = ls.length := by omega
                    rw [← HCd.out, show (P ++ C).length = S.size by rw [HSd.out, strOf_size]] at hKr
                    have hE := fun w => end_any ⟨S, (S.size : Int), 0, 0⟩ w (by show S.size ≤ _; omega)
                    rw [(end_r S).1, (end_r S).2] at hE
                    simp only [Rd.val] at hE
                    clear HG
                    have cr0 := hKr.cell 0 _ rfl
                    have fr0 := hKr.fr 0 _ rfl
                    have cr1 := hKr.cell 1 _ rfl
                    have fr1 := hKr.fr 1 _ rfl
                    have cr2 := hKr.cell 2 _ rfl
                    have fr2 := hKr.fr 2 _ rfl
                    have cr3 := hKr.cell 3 _ rfl
                    have fr3 := hKr.fr 3 _ rfl
                    go_wp2_with fail
                    clear cr0 fr0 cr1 fr1 cr2 fr2 cr3 fr3
                    refine (hE _).mono ?_
                    rintro e w51 ⟨rfl, hb⟩
                    replace hKr := hKr.later hb
                    replace hB := bstep hB hb
                    clear hb
                    go_wp2
                    go_ret
                    exact ⟨by first | rfl | simp, hB⟩
  · have hcs : 20 < l.length ∨ l.length ≤ 20 ∧ 8 < ls.length ∨ l.length ≤ 20 ∧ ls.length ≤ 8 ∧ shortB ls 100 = false := by
      by_cases h1 : l.length ≤ 20
      · by_cases h2 : ls.length ≤ 8
        · exact .inr (.inr ⟨h1, h2, by cases h : shortB ls 100; · rfl
                                       · exact absurd ⟨h1, h2, h⟩ hlen⟩)
        · exact .inr (.inl ⟨h1, by omega⟩)
      · exact .inl (by omega)
    rcases hcs with h1 | ⟨h1, h2⟩ | ⟨h1, h2, h3⟩
    · have hk1 : decide ((20 : Int) < (l.length : Int)) = true := by simp; omega
      go_enter Try.func6, Try.ntmps6
      go_wp2_with fail
      refine named fun W1 hW => ?_
      have hB : Below w.heap.size w W1 := by rw [hW]; exact (Below.refl _ _)
      clear hW
      refine (known_any _).mono ?_
      rintro e w2 ⟨rfl, hb⟩
      replace hB := bstep hB hb
      clear hb
      go_wp2
      go_ret
      exact ⟨by first | rfl | simp, hB⟩
    · have hk1 : decide ((20 : Int) < (l.length : Int)) = false := by simp; omega
      have hk2 : decide ((8 : Int) < (ls.length : Int)) = true := by simp; omega
      go_enter Try.func6, Try.ntmps6
      go_wp2_with fail
      refine named fun W1 hW => ?_
      have hB : Below w.heap.size w W1 := by rw [hW]; exact (Below.refl _ _)
      clear hW
      refine (known_any _).mono ?_
      rintro e w2 ⟨rfl, hb⟩
      replace hB := bstep hB hb
      clear hb
      go_wp2
      go_ret
      exact ⟨by first | rfl | simp, hB⟩
    · have hk1 : decide ((20 : Int) < (l.length : Int)) = false := by simp; omega
      have hk2 : decide ((8 : Int) < (ls.length : Int)) = false := by simp; omega
      have HS := Lib.hid h3
      clear h3
      go_enter Try.func6, Try.ntmps6
      go_wp2_with fail
      refine named fun W1 hW => ?_
      have hB : Below w.heap.size w W1 := by rw [hW]; exact (Below.refl _ _)
      clear hW
      refine (known_any _).mono ?_
      rintro e w2 ⟨rfl, hb⟩
      replace hB := bstep hB hb
      clear hb
      go_wp2_with fail
      refine (short_any _ ls 100 _ (hv2.below hB)).mono ?_
      rintro e w' ⟨rfl, rfl⟩
      rw [HS.out]
      go_wp2
      go_ret
      exact ⟨by first | rfl | simp, hB⟩
end Go.Proofs.Ytgcgoiaadigmfaa
