/- Walk: TokenJoined. -/
import Derived.Test.YtmdlndmibodimaaDoorTokK
import Derived.Test.YtmdlndmibodimaaDoorAppRun
namespace Go.Proofs.YtmdlndmibodimaaDoor
open Go.RowKit
open Tk7

theorem toksG_zero (t : List UInt8) (h : t.length ≤ 400) : toksR t = toksG t 0 := if_neg (by omega)
/-- The tokens of two texts with a blank between them. -/
theorem toks_two {a b : List UInt8} (ha : a.length ≤ 190) (hb : b.length ≤ 190) : toksR (a ++ 32 :: b) = both (toksR a) (movedR (a.length + 1) (toksR b)) := by
  have hl : (a ++ 32 :: b).length = a.length + 1 + b.length := by rw [List.length_append, List.length_cons]; omega
  have hm := toks_moved (a.length + 1) b.length b 0 (Nat.le_refl _)
  rw [toksG_zero _ (by omega), toksG_zero a (by omega), toksG_zero b (by omega), toks_both a.length a b 0 (Nat.le_refl _), ← hm, Nat.add_assoc]
theorem toks_fault {t : List UInt8} (ht : t.length ≤ 400) {e : Int × Nat} (h : toksR t = .error e) : e.1 = 3 ∧ e.2 < t.length := by
  rw [toksG_zero _ ht] at h
  obtain ⟨h1, _, h2⟩ := fault_of t.length t 0 e (Nat.le_refl _) h
  exact ⟨h1, by omega⟩
theorem strOf_app (a b : List UInt8) : (strOf (a ++ b) : ByteArray) = strOf a ++ strOf b := by
  apply ByteArray.ext
  simp [strOf]
/-- A token further behind by d. -/
def shiftK (d : Int) (x : TK) : TK := (x.1, x.2.1, x.2.2 + d)
theorem joined_rel {a b : List UInt8} (ha : a.length ≤ 190) (hb : b.length ≤ 190) :
    ((outE a).1 = 3 ∧ outE (a ++ 32 :: b) = outE a) ∨
    ((outE a).1 = 0 ∧ (outE b).1 = 3 ∧ (outE b).2 ≤ 190 ∧ outE (a ++ 32 :: b) = (3, a.length + 1 + (outE b).2)) ∨
    ((outE a).1 = 0 ∧ (outE b).1 = 0 ∧ outE (a ++ 32 :: b) = (0, 0) ∧ outK (a ++ 32 :: b) = outK a ++ (outK b).map (shiftK ((a.length : Int) + 1))) := by
  have h := toks_two ha hb
  unfold outE outK
  cases h1 : toksR a with
  | error e =>
    left
    rw [h1] at h
    rw [h]
    exact ⟨(toks_fault (by omega) h1).1, rfl⟩
  | ok l =>
    right
    cases h2 : toksR b with
    | error e =>
      left
      rw [h1, h2] at h
      rw [h]
      have h3 := toks_fault (by omega) h2
      refine ⟨rfl, h3.1, by have := h3.2; show e.2 ≤ 190; omega, ?_⟩
      show ((e.1 : Int), e.2 + (a.length + 1)) = _
      rw [h3.1, Nat.add_comm]
    | ok m =>
      right
      rw [h1, h2] at h
      rw [h]
      refine ⟨rfl, rfl, rfl, ?_⟩
      show (l ++ moved (a.length + 1) m).map tkOf = _
      rw [List.map_append]
      congr 1
      unfold moved
      rw [List.map_map, List.map_map]
      rfl
theorem kcells_one (xs : List TK) : ∀ u ∈ kcells xs, u.oneCell' = true := by
  intro u hu
  unfold kcells at hu
  obtain ⟨x, _, hu⟩ := List.mem_flatMap.1 hu
  unfold kcell at hu
  simp only [List.mem_cons, List.not_mem_nil, or_false] at hu
  rcases hu with rfl | rfl | rfl <;> rfl
/-- The first i tokens are moved. -/
def mixK (d : Int) (xs : List TK) (i : Nat) : List TK := (xs.take i).map (shiftK d) ++ xs.drop i
theorem mixK_len (d : Int) (xs : List TK) (i : Nat) : (mixK d xs i).length = xs.length := by
  unfold mixK; rw [List.length_append, List.length_map, ← List.length_append, List.take_append_drop]
theorem mixK_all (d : Int) (xs : List TK) : mixK d xs xs.length = xs.map (shiftK d) := by unfold mixK; rw [List.take_length, List.drop_length, List.append_nil]
theorem mixK_zero (d : Int) (xs : List TK) : mixK d xs 0 = xs := rfl
theorem mixK_at (d : Int) (xs : List TK) (i : Nat) (h : i < xs.length) : (mixK d xs i)[i]'(by rw [mixK_len]; exact h) = xs[i] := by
  unfold mixK
  rw [List.getElem_append_right (by rw [List.length_map, List.length_take]; omega)]
  simp only [List.length_map, List.length_take, List.getElem_drop]
  congr 1
  omega
theorem kcells_set {pre post : List TK} {x : TK} (u : Int) : kcells (pre ++ (x.1, x.2.1, u) :: post) = (kcells (pre ++ x :: post)).set (pre.length * 3 + 2) (.int .i64 u) := by
  have h := kcells_len pre
  have e : ∀ y : TK, kcells (pre ++ y :: post) = kcells pre ++ ([.int .i64 y.1, .string (strOf y.2.1), .int .i64 y.2.2] ++ kcells post) := fun y => by rw [kcells_app]; rfl
  rw [e, e, List.set_append_right _ _ (by omega), h, show pre.length * 3 + 2 - pre.length * 3 = 2 by omega]
  rfl
theorem mixK_step (d : Int) (xs : List TK) (i : Nat) (h : i < xs.length) : kcells (mixK d xs (i + 1)) = (kcells (mixK d xs i)).set (i * 3 + 2) (.int .i64 (xs[i].2.2 + d)) := by
  have h1 : mixK d xs i = (xs.take i).map (shiftK d) ++ xs[i] :: xs.drop (i + 1) := by unfold mixK; rw [List.drop_eq_getElem_cons h]
  have h2 : mixK d xs (i + 1) = (xs.take i).map (shiftK d) ++ (xs[i].1, xs[i].2.1, xs[i].2.2 + d) :: xs.drop (i + 1) := by
    unfold mixK; rw [take_snoc _ _ h, List.map_append, List.append_assoc]; rfl
  rw [h1, h2, kcells_set, List.length_map, List.length_take, Nat.min_eq_left (by omega)]
set_option maxRecDepth 100000 in
set_option maxHeartbeats 4000000 in
theorem joined_short (a b : List UInt8) (ha : a.length ≤ 190) (hb : b.length ≤ 190) (w : World) (hG : SG w) :
    Calls Tryd.prog 8 #[.string (strOf a), .string (strOf b)] w fun e w' => e = .returned (.bool true) ∧ Below w.heap.size w w' := by
  have hA := fun w hG => tokens_is a w hG
  have hB := fun w hG => tokens_is b w hG
  have hC := fun w hG => tokens_is (a ++ 32 :: b) w hG
  have hrel := joined_rel ha hb
  have hW := fun w hG => awake_any w hG
  have l1 := outK_len a
  have l2 := outK_len b
  have q2 := outK_at b
  have e1 : (strOf a).size = a.length := strOf_size a
  have e2 : (strOf b).size = b.length := strOf_size b
  have e3 : strOf a ++ (⟨#[32]⟩ : ByteArray) = strOf (a ++ [32]) := (strOf_app a [32]).symm
  have e4 : strOf (a ++ [32]) ++ strOf b = strOf (a ++ 32 :: b) := by rw [← strOf_app]; simp
  have e5 : (strOf (a ++ [32])).size = a.length + 1 := by rw [strOf_size]; simp
  obtain ⟨A, hAA⟩ : ∃ A, A = strOf a := ⟨_, rfl⟩
  obtain ⟨B, hBB⟩ : ∃ B, B = strOf b := ⟨_, rfl⟩
  obtain ⟨C, hCC⟩ : ∃ C, C = strOf (a ++ [32]) := ⟨_, rfl⟩
  obtain ⟨D, hDD⟩ : ∃ D, D = strOf (a ++ 32 :: b) := ⟨_, rfl⟩
  rw [← hAA] at hA e1 e3 ⊢
  rw [← hBB] at hB e2 e4 ⊢
  rw [← hCC] at e3 e4 e5
  rw [← hDD] at e4 hC
  obtain ⟨K1, hK1⟩ : ∃ K, K = outK a := ⟨_, rfl⟩
  obtain ⟨K2, hK2⟩ : ∃ K, K = outK b := ⟨_, rfl⟩
  obtain ⟨K3, hK3⟩ : ∃ K, K = outK (a ++ 32 :: b) := ⟨_, rfl⟩
  obtain ⟨⟨E1, P1⟩, hE1⟩ : ∃ E, E = outE a := ⟨_, rfl⟩
  obtain ⟨⟨E2, P2⟩, hE2⟩ : ∃ E, E = outE b := ⟨_, rfl⟩
  obtain ⟨⟨E3, P3⟩, hE3⟩ : ∃ E, E = outE (a ++ 32 :: b) := ⟨_, rfl⟩
  rw [← hK1, ← hE1] at hA
  rw [← hK2, ← hE2] at hB
  rw [← hK3, ← hE3] at hC
  rw [← hK1, ← hK2, ← hK3, ← hE1, ← hE2, ← hE3] at hrel
  rw [← hK1] at l1
  rw [← hK2] at l2 q2
  have Q2 := Lib.hid q2
  clear q2
  simp only [Prod.mk.injEq] at hA hB hC hrel
  have g1 : ¬ (190 : Int) < (a.length : Int) := by omega
  have g2 : ¬ (190 : Int) < (b.length : Int) := by omega
  have g3 : ¬ 9223372036854775807 < a.length + 1 := by omega
  have g4 : ¬ 9223372036854775807 < a.length + 1 + b.length := by omega
  clear hAA hBB hCC hDD hK1 hK2 hK3 hE1 hE2 hE3
  go_enter Tryd.func8, Tryd.ntmps8
  go_wp2_with fail
  refine (hA _ hG).mono ?_
  rintro e w1 ⟨A1, c1, rfl, hb1, ho1⟩
  have hG1 := hG.later (hb1.trans ((below1 w1 (.cells #[.int .i64 E1, .int .i64 (P1 : Int)] 25)).mono hb1.size))
  have HF1 := Lib.hid (Blk.is (w := w1) (us := [.int .i64 E1, .int .i64 (P1 : Int)]) 25 rfl)
  clear hA
  go_wp2_with fail
  refine (hB _ hG1).mono ?_
  rintro e w2 ⟨A2, c2, rfl, hb2, ho2⟩
  have hG2 := (hG1.later hb2).later (below1 w2 (.cells #[.int .i64 E2, .int .i64 (P2 : Int)] 25))
  have HF2 := Lib.hid (Blk.is (w := w2) (us := [.int .i64 E2, .int .i64 (P2 : Int)]) 25 rfl)
  clear hB
  go_wp2_with fail
  refine (hC _ hG2).mono ?_
  rintro e w3 ⟨A3, c3, rfl, hb3, ho3⟩
  have bw2 : Below w1.heap.size w1 w2 := (below1 w1 _).trans (hb2.mono (by simp))
  have bw3 : Below w2.heap.size w2 w3 := (below1 w2 _).trans (hb3.mono (by simp))
  obtain ⟨W, hWW⟩ : ∃ W, W = w3.alloc (.cells #[.int .i64 E3, .int .i64 (P3 : Int)] 25) := ⟨_, rfl⟩
  have bw4 : Below w3.heap.size w3 W := by rw [hWW]; exact below1 _ _
  have F3 : Blk W w3.heap.size [.int .i64 E3, .int .i64 (P3 : Int)] := by rw [hWW]; exact Blk.is _ rfl
  have F2 : Blk W w2.heap.size [.int .i64 E2, .int .i64 (P2 : Int)] := (HF2.out.later hb3).later bw4
  have F1 : Blk W w1.heap.size [.int .i64 E1, .int .i64 (P1 : Int)] := ((HF1.out.later hb2).later bw3).later bw4
  have O1 := own_later (own_later (own_later ho1 bw2) bw3) bw4
  have O2 := own_later (own_later ho2 bw3) bw4
  have O3 := own_later ho3 bw4
  have GW := (hG2.later hb3).later bw4
  have BW := Lib.hid (bstep (bstep (bstep hb1 bw2) bw3) bw4)
  have s1 := hb1.size
  have s2 : w1.heap.size + 1 ≤ w2.heap.size := by have := hb2.size; simpa using this
  have s3 : w2.heap.size + 1 ≤ w3.heap.size := by have := hb3.size; simpa using this
  have t1 := Lib.hid (fun k (e : (Value.slice A1 K1.length c1).ownBlock = some k) => (ho1.lt k e).2)
  have t2 := Lib.hid (fun k (e : (Value.slice A2 K2.length c2).ownBlock = some k) => (ho2.lt k e).2)
  simp only [World.size_alloc] at O2 O3
  clear hC ho1 ho2 ho3 hG1 hG2 HF1 HF2 hb1 hb2 hb3 bw2 bw3
  have f10 := F1.cell 0 _ rfl
  have f11 := F1.cell 1 _ rfl
  have f20 := F2.cell 0 _ rfl
  have f21 := F2.cell 1 _ rfl
  have f30 := F3.cell 0 _ rfl
  have f31 := F3.cell 1 _ rfl
  go_upto_region 6 with (fail)
  rw [← hWW]
  rcases hrel with ⟨rfl, rfl, rfl⟩ | ⟨rfl, rfl, hP2, rfl, rfl⟩ | ⟨rfl, rfl, ⟨rfl, rfl⟩, hK⟩
  · clear hWW bw4 O1 O2 O3
    go_wp2_with (go_at_call 17; refine (hW _ GW).mono ?_; rintro e w5 ⟨rfl, hb5⟩)
    go_ret
    exact ⟨rfl, bstep BW.out hb5⟩
  · have hw1 : IntKind.i64.wrap ((a.length : Int) + 1) = (a.length : Int) + 1 := IntWalk.i64_in _ ⟨by omega, by omega⟩
    have hw2 : IntKind.i64.wrap ((a.length : Int) + 1 + (P2 : Int)) = (a.length : Int) + 1 + (P2 : Int) := IntWalk.i64_in _ ⟨by omega, by omega⟩
    have hc : ((a.length + 1 + P2 : Nat) : Int) = (a.length : Int) + 1 + (P2 : Int) := by omega
    rw [hc] at f31
    clear hWW bw4 O1 O2 O3 hc F3
    go_wp2_with (go_at_call 17; refine (hW _ GW).mono ?_; rintro e w5 ⟨rfl, hb5⟩)
    go_ret
    exact ⟨rfl, bstep BW.out hb5⟩
  · obtain ⟨i0, hi, hz0, hz1, hz2⟩ := info_parts infoTok
    have hKl : K1.length + K2.length = K3.length := by rw [hK, List.length_append, List.length_map]
    have hKc : kcells K1 ++ kcells (K2.map (shiftK ((a.length : Int) + 1))) = kcells K3 := by rw [hK, kcells_app]
    have HKC := Lib.hid hKc
    have HKL := Lib.hid hKl
    clear hWW hK hKc hKl
    go_upto_region 10 with (fail)
    clear f10 f11 f20 f21 f30 f31 F1 F2
    go_wp2
    go_loopw [11] (fun iv wr => ∃ i : Nat, iv = .int .i64 (i : Int) ∧ i ≤ K2.length ∧ wr.ownsRow (w1.heap.size + 1) 30 3 (.slice A2 K2.length c2) K2.length (kcells (mixK ((a.length : Int) + 1) K2 i)) ∧ Hid (W.grownBy wr (Value.slice A2 K2.length c2).ownBlock)) (fun iv _ => K2.length - (intOf iv).toNat)
    case atStart => exact ⟨0, rfl, Nat.zero_le _, O2, Lib.hid own_grown_refl⟩
    case round =>
      obtain ⟨i, rfl, hil, hown, hgr⟩ := hrel
      by_cases hlt : i < K2.length
      · obtain ⟨g, cap, hv, hgb⟩ := hown.form (by omega)
        cases hv
        have hgot := kcells_get (xs := mixK ((a.length : Int) + 1) K2 i) (k := i) (by rw [mixK_len]; exact hlt)
        have hc := (hown.cellAt (i * 3 + 2) (by omega)).trans hgot.2.2
        have hf := hown.frozenAt (i * 3 + 2)
        rw [mixK_at _ _ _ hlt] at hc
        have hq := Q2.out K2[i] (List.getElem_mem hlt)
        have hms := Lib.hid (mixK_step ((a.length : Int) + 1) K2 i hlt)
        obtain ⟨y, hy⟩ : ∃ y, y = K2[i].2.2 := ⟨_, rfl⟩
        rw [← hy] at hc hq hms
        have hst := Lib.hid (hown.stored (i * 3 + 2) (.int .i64 (y + (a.length : Int) + 1)))
        have v1 : IntKind.i64.wrap (y + (a.length : Int)) = y + (a.length : Int) := IntWalk.i64_in _ ⟨by omega, by omega⟩
        have v2 : IntKind.i64.wrap (y + (a.length : Int) + 1) = y + (a.length : Int) + 1 := IntWalk.i64_in _ ⟨by omega, by omega⟩
        have v3 : (i : Int) < (K2.length : Int) := by omega
        have HO := Lib.hid hown
        clear hy hgot hown O1 O3 O2 F3
        go_wp2
        go_roundw
        case rel =>
          refine ⟨i + 1, by go_num, by omega, ?_, Lib.hid (hgr.out.trans hst.out.2)⟩
          rw [hms.out, ← Int.add_assoc]
          exact hst.out.1
        case measure => simp [intOf]; omega
      · obtain rfl : i = K2.length := by omega
        rw [mixK_all] at hown
        have far1 : (Value.slice A1 K1.length c1).ownBlock = none ∨ (Value.slice A1 K1.length c1).ownBlock ≠ (Value.slice A2 K2.length c2).ownBlock := by
          cases hx : (Value.slice A1 K1.length c1).ownBlock with
          | none => exact .inl rfl
          | some k =>
            refine .inr fun e => ?_
            have h1 := t1.out k hx
            have h2 := (hown.lt k e.symm).1
            omega
        have far3 : (Value.slice A3 K3.length c3).ownBlock = none ∨ (Value.slice A3 K3.length c3).ownBlock ≠ (Value.slice A2 K2.length c2).ownBlock := by
          cases hx : (Value.slice A3 K3.length c3).ownBlock with
          | none => exact .inl rfl
          | some k =>
            refine .inr fun e => ?_
            have h1 := t2.out k e.symm
            have h2 := (O3.lt k hx).1
            omega
        have R1 := O1.kept hgr.out far1
        have R3 := O3.kept hgr.out far3
        have RF := F3.grown hgr.out (fun e => by have := t2.out _ e.symm; omega)
        have RG := GW.grown hgr.out (fun e => by have := (hown.lt _ e.symm).1; have := hG.1; omega)
        have RB := BW.out.grown hgr.out BW.out.size (fun k e => by have := (hown.lt k e).1; omega)
        obtain ⟨A4, c4, w5, hrun, O4, hg4⟩ := run_append_any (P := Tryd.prog) wr w.heap.size 22 22 30 i0 (.agg #[.int .i64 0, .string ⟨#[]⟩, .int .i64 0]) 3 32 Tryd.underlying22 hi hz0 hz1 hz2 rfl (by decide) _ K1.length (kcells K1) R1 _ K2.length (kcells (K2.map (shiftK ((a.length : Int) + 1)))) (Sl.of_own hown) (kcells_one _) (by unfold maxLen; omega) (by omega) RB.size K3.length (kcells K3) HKL.out HKC.out
        have far4 : (Value.slice A3 K3.length c3).ownBlock = none ∨ (Value.slice A3 K3.length c3).ownBlock ≠ (Value.slice A1 K1.length c1).ownBlock := by
          cases hx : (Value.slice A3 K3.length c3).ownBlock with
          | none => exact .inl rfl
          | some k =>
            refine .inr fun e => ?_
            have h1 := t1.out k e.symm
            have h2 := (O3.lt k hx).1
            omega
        have M3 := own_k (R3.kept hg4 far4)
        have M4 := own_k O4
        have MG := RG.grown hg4 (fun e => by have := (R1.lt _ e.symm).1; have := hG.1; omega)
        have MB := Lib.hid (RB.grown hg4 RB.size (fun k e => (R1.lt k e).1))
        have hE := equal_same _ _ K3 w5 M3 M4
        have k0 := RF.cell 0 _ rfl
        have k1 := RF.cell 1 _ rfl
        have v3 : ¬ (K2.length : Int) < (K2.length : Int) := by omega
        clear far1 far3 far4 hown O1 O2 O3 F3 RG RB hg4 O4 R1 R3 M3 M4 RF hgr
        go_wp2_with (first
          | (at_builtin; refine wpList_append_run rfl _ _ _ rfl rfl rfl hrun ?_)
          | (go_at_call 10; with_reducible refine hE.mono ?_; rintro e w6 ⟨rfl, n, rfl⟩)
          | (go_at_call 17; with_reducible refine (hW _ (MG.drewN n)).mono ?_; rintro e w7 ⟨rfl, hb7⟩))
        go_ret
        exact ⟨rfl, bstep (below_drewN MB.out n) hb7⟩
theorem joined_any (a b : ByteArray) (w : World) (hG : SG w) :
    Calls Tryd.prog 8 #[.string a, .string b] w fun e w' => e = .returned (.bool true) ∧ Below w.heap.size w w' := by
  rw [str_is (s := a) rfl, str_is (s := b) rfl]
  by_cases h1 : a.data.toList.length ≤ 190
  · by_cases h2 : b.data.toList.length ≤ 190
    · exact joined_short _ _ h1 h2 w hG
    · have e1 : (strOf a.data.toList).size = a.data.toList.length := strOf_size _
      have e2 : (strOf b.data.toList).size = b.data.toList.length := strOf_size _
      obtain ⟨A, hA⟩ : ∃ A, A = strOf a.data.toList := ⟨_, rfl⟩
      obtain ⟨B, hB⟩ : ∃ B, B = strOf b.data.toList := ⟨_, rfl⟩
      rw [← hA] at e1 ⊢
      rw [← hB] at e2 ⊢
      have g1 : ¬ (190 : Int) < (A.size : Int) := by omega
      have g2 : (190 : Int) < (B.size : Int) := by omega
      clear hA hB e1 e2 h1 h2
      go_enter Tryd.func8, Tryd.ntmps8
      go_wp2_with (go_at_call 17; refine (awake_any _ hG).mono ?_; rintro e w7 ⟨rfl, hb7⟩)
      go_ret
      exact ⟨rfl, hb7⟩
  · have e1 : (strOf a.data.toList).size = a.data.toList.length := strOf_size _
    obtain ⟨A, hA⟩ : ∃ A, A = strOf a.data.toList := ⟨_, rfl⟩
    obtain ⟨B, hB⟩ : ∃ B, B = strOf b.data.toList := ⟨_, rfl⟩
    rw [← hA] at e1 ⊢
    rw [← hB]
    have g1 : (190 : Int) < (A.size : Int) := by omega
    clear hA hB e1 h1
    go_enter Tryd.func8, Tryd.ntmps8
    go_wp2_with (go_at_call 17; refine (awake_any _ hG).mono ?_; rintro e w7 ⟨rfl, hb7⟩)
    go_ret
    exact ⟨rfl, hb7⟩
end Go.Proofs.YtmdlndmibodimaaDoor
