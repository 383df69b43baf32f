/- Walks: the document's own next token. -/
import Derived.Test.YtmdlndmibodimaaDoorTokY
namespace Go.Proofs.YtmdlndmibodimaaDoor
open Go.RowKit
open Tk7

/-- The next token from the place k on, by the place p of its first byte. -/
theorem nextL {l : List UInt8} {k p : Nat} (hk : k ≤ l.length) (hp : p = k + ((l.drop k).takeWhile blankB).length) :
    p ≤ l.length ∧ nextX l (k : Int) = if p = l.length then ⟨0, [], 0, 0, 5, l.length⟩ else if (begG (l.drop p)).2 = 0 then ⟨0, [], 0, 0, 3, p⟩ else ⟨(begG (l.drop p)).1, (l.drop p).take (begG (l.drop p)).2, p, p + (begG (l.drop p)).2, 0, 0⟩ := by
  rw [nextX_nat hk]
  unfold nextG
  have h1 := drop_len (l.drop k)
  have hl : (l.drop k).length = l.length - k := List.length_drop
  have hdd : (l.drop k).dropWhile blankB = l.drop (k + ((l.drop k).takeWhile blankB).length) := by rw [drop_while, List.drop_drop]
  have htl : ((l.drop k).takeWhile blankB).length = (l.drop k).length - ((l.drop k).dropWhile blankB).length := by
    have := congrArg List.length (List.takeWhile_append_dropWhile (p := blankB) (l := l.drop k))
    rw [List.length_append] at this
    omega
  rw [← hp] at hdd
  cases hd : (l.drop k).dropWhile blankB with
  | nil =>
    rw [hd] at htl
    simp only [List.length_nil] at htl
    have hpl : p = l.length := by omega
    refine ⟨by omega, ?_⟩
    rw [if_pos hpl]
    simp only
    rw [hl, show k + (l.length - k) = l.length by omega]
    rfl
  | cons b r =>
    rw [hd] at h1 hdd htl
    have hpl : (b :: r).length = l.length - p := by rw [hdd, List.length_drop]
    simp only [List.length_cons] at hpl h1 htl
    refine ⟨by omega, ?_⟩
    rw [if_neg (by omega), ← hdd]
    simp only
    have e1 : k + ((l.drop k).length - (b :: r).length) = p := by rw [List.length_cons]; omega
    rw [e1]
    by_cases hz : (begG (b :: r)).2 = 0
    · rw [if_pos hz, if_pos hz]
      rfl
    · rw [if_neg hz, if_neg hz]
      simp only
      rw [hdd]
theorem ext_from (l : List UInt8) (p : Nat) : (strOf l).extract p l.length = strOf (l.drop p) := by
  rw [ext_take]
  unfold restAt
  rw [strOf_dat, List.take_of_length_le (by rw [List.length_drop]; omega)]
theorem toFour {P : Prop} (h : P) : P := h
set_option maxRecDepth 100000 in
set_option maxHeartbeats 4000000 in
theorem rnext_range (l : List UInt8) (a : Int) (h : a < 0 ∨ (l.length : Int) < a) (w : World) :
    Calls Tryd.prog 19 #[.string (strOf l), .int .i64 a] w fun e w' => e = .returned (nextX l a).val ∧ Below w.heap.size w w' := by
  have HX := Lib.hid (next_out h)
  have hsz : (strOf l).size = l.length := strOf_size l
  have h2 : a < 0 ∨ 0 ≤ a ∧ (l.length : Int) < a := by omega
  clear h
  rcases h2 with h2 | ⟨h2, h3⟩
  · go_enter Tryd.func19, Tryd.ntmps19
    go_wp2
    exact bodyPost_ret (v := .tuple #[.agg #[.int .i64 0, .string ⟨#[]⟩, .int .i64 0], .int .i64 0, .agg #[.int .i64 2, .int .i64 0]]) (by simp [results, Tryd.results19, go_sem]; try rfl) rfl ⟨by rw [HX.out]; rfl, below2 _ _ _⟩
  · go_enter Tryd.func19, Tryd.ntmps19
    go_wp2
    exact bodyPost_ret (v := .tuple #[.agg #[.int .i64 0, .string ⟨#[]⟩, .int .i64 0], .int .i64 0, .agg #[.int .i64 2, .int .i64 0]]) (by simp [results, Tryd.results19, go_sem]; try rfl) rfl ⟨by rw [HX.out]; rfl, below2 _ _ _⟩
set_option maxRecDepth 100000 in
set_option maxHeartbeats 4000000 in
theorem rnext_in (l : List UInt8) (hl : l.length ≤ 1000000) (k : Nat) (hk : k ≤ l.length) (w : World) :
    Calls Tryd.prog 19 #[.string (strOf l), .int .i64 (k : Int)] w fun e w' => e = .returned (nextX l (k : Int)).val ∧ Below w.heap.size w w' := by
  have hsz : (strOf l).size = l.length := strOf_size l
  obtain ⟨p, hp⟩ : ∃ p, p = k + ((l.drop k).takeWhile blankB).length := ⟨_, rfl⟩
  obtain ⟨hpl, hX⟩ := nextL hk hp
  have HX := Lib.hid hX
  have H0 := Lib.hid hp
  have h1 : ¬ (k : Int) < 0 := by omega
  have h2 : ¬ (l.length : Int) < (k : Int) := by omega
  clear hX hp
  obtain ⟨W, hW⟩ : ∃ W, W = (w.alloc (.cells #[.int .i64 0, .string ⟨#[]⟩, .int .i64 0] 30)).alloc (.cells #[.int .i64 0, .int .i64 0] 25) := ⟨_, rfl⟩
  have hZ0 : Blk W w.heap.size [.int .i64 0, .string ⟨#[]⟩, .int .i64 0] := by rw [hW]; exact (Blk.is _ rfl).alloc _
  have hZ1 : Blk W (w.heap.size + 1) [.int .i64 0, .int .i64 0] := by rw [hW]; exact Blk.is _ (by simp)
  have hZB : Below w.heap.size w W := by rw [hW]; exact below2 _ _ _
  go_enter Tryd.func19, Tryd.ntmps19
  go_wp2
  rw [← hW]
  clear hW
  go_loopg [1] (l.length - k) (fun g nv wr => ∃ j : Nat, k ≤ j ∧ j ≤ l.length ∧ g = l.length - j ∧ nv = .int .i64 (j : Int) ∧ W = wr ∧ Hid (p = j + ((l.drop j).takeWhile blankB).length))
  case atStart => exact ⟨k, by omega, by omega, rfl, rfl, by first | rfl | trivial, H0⟩
  case round =>
    obtain ⟨j, hj1, hj2, hg, rfl, rfl, hR⟩ := hrel
    by_cases hz : j < l.length
    · have hdr : l.drop j = (l[j]'hz) :: l.drop (j + 1) := List.drop_eq_getElem_cons hz
      have hRd := fun w => rblank_any (l[j]'hz) w
      obtain ⟨q, hq⟩ : ∃ q, q = blankB (l[j]'hz) := ⟨_, rfl⟩
      rw [← hq] at hRd
      have qj : j < (strOf l).size := by rw [hsz]; exact hz
      have hxj : ((strOf l)[j]'qj) = l[j]'hz := rfl
      rw [← hxj] at hRd
      have k1 : (0 : Int) ≤ (j : Int) := by omega
      have k2 : (j : Int) < (l.length : Int) := by omega
      cases q with
      | true =>
        have hR2 := Lib.hid (show p = (j + 1) + ((l.drop (j + 1)).takeWhile blankB).length by rw [hR.out, hdr, while_true hq.symm]; omega)
        have hw : IntKind.i64.wrap ((j : Int) + 1) = (j : Int) + 1 := IntWalk.i64_in _ ⟨by omega, by omega⟩
        clear hR hdr hq hxj
        go_wp2_with (go_at_call 37; refine (hRd _).mono ?_; rintro e w' ⟨rfl, rfl⟩)
        go_roundg (l.length - (j + 1))
        case rel => exact ⟨j + 1, by omega, by omega, rfl, by go_num, by first | rfl | trivial, hR2⟩
        case measure => omega
      | false =>
        have hJ : p = j := by rw [hR.out, hdr, while_false hq.symm]; rfl
        clear hR hdr hq hxj
        subst hJ
        have n1 : ((p : Int) == (l.length : Int)) = false := by rw [beq_eq_false_iff_ne]; omega
        have n2 : ¬ p = l.length := by omega
        have n3 : (p : Int) ≤ (l.length : Int) := by omega
        have hex := ext_from l p
        have hdl : (l.drop p).length = l.length - p := List.length_drop
        have HB := Lib.hid (rbegins_any (l.drop p) (by omega) (by omega))
        have hdl2 := begG_le (l.drop p)
        obtain ⟨X, hXX⟩ : ∃ X, X = strOf (l.drop p) := ⟨_, rfl⟩
        rw [← hXX] at hex HB
        obtain ⟨m, hm⟩ : ∃ m, m = (begG (l.drop p)).2 := ⟨_, rfl⟩
        have HX2 := HX.out
        rw [if_neg n2, ← hm] at HX2
        have HX3 := Lib.hid HX2
        have HBB := Lib.hid (show ∀ w : World, Calls Tryd.prog 38 #[.string X] w fun e w' => ∃ kd : Int, e = .returned (.agg #[.int .i64 kd, .string (strOf ((l.drop p).take m)), .int .i64 0]) ∧ (m ≠ 0 → kd = ((begG (l.drop p)).1 : Int)) ∧ Below w.heap.size w w' by rw [hm]; exact HB.out)
        rw [hdl, ← hm] at hdl2
        have htl : ((l.drop p).take m).length = m := by rw [List.length_take, hdl]; omega
        obtain ⟨T, hT⟩ : ∃ T, T = (l.drop p).take m := ⟨_, rfl⟩
        rw [← hT] at HBB HX3 htl
        have hts : (strOf T).size = m := by rw [strOf_size, htl]
        clear HX2 HX HB hm hXX hT n2
        go_wp2_with (first | (go_at_call 37; refine (hRd _).mono ?_; rintro e w' ⟨rfl, rfl⟩) | fail)
        refine (HBB.out _).mono ?_
        rintro e w1 ⟨kd, rfl, hkd, hb1⟩
        replace hZ0 := hZ0.later hb1
        replace hZ1 := hZ1.later hb1
        replace hZB := bstep hZB hb1
        have HKD := Lib.hid hkd
        obtain ⟨R, hRR⟩ : ∃ R, R = w1.heap.size := ⟨_, rfl⟩
        obtain ⟨w2, hw2⟩ : ∃ w2, w2 = w1.alloc (.cells #[.int .i64 kd, .string (strOf T), .int .i64 0] 30) := ⟨_, rfl⟩
        have hRk : Blk w2 R [.int .i64 kd, .string (strOf T), .int .i64 0] := by rw [hw2]; exact Blk.is _ hRR
        have hb2 : Below w1.heap.size w1 w2 := by rw [hw2]; exact below1 _ _
        have hlt1 := hZ1.lt
        have hrl : w.heap.size + 1 < R := by omega
        replace hZ0 := hZ0.later hb2
        replace hZ1 := hZ1.later hb2
        replace hZB := bstep hZB hb2
        clear hRd hkd hb1 HBB hb2 hlt1
        have r0 := hRk.cell 0 _ rfl
        have r1 := hRk.cell 1 _ rfl
        have r2 := hRk.cell 2 _ rfl
        have f0 := hRk.fr 0 _ rfl
        have f1 := hRk.fr 1 _ rfl
        have f2 := hRk.fr 2 _ rfl
        have hRlt := hRk.lt
        go_upto_region 8 with (fail)
        rw [← hRR, ← hw2]
        clear hw2 hRR
        by_cases hm0 : m = 0
        · have ht0 : T = [] := List.eq_nil_of_length_eq_zero (by rw [htl, hm0])
          subst ht0
          have hemp : (strOf ([] : List UInt8)).toList.isEmpty = true := by rw [strOf_toL]; rfl
          have HX4 := Lib.hid (by have h := HX3.out; rw [if_pos hm0] at h; exact h)
          clear HX3
          have k0 := hZ0.fr 0 _ rfl
          have k1 := hZ0.fr 1 _ rfl
          have k2 := hZ0.fr 2 _ rfl
          have d0 := hZ0.cell 0 _ rfl
          have d1 := hZ0.cell 1 _ rfl
          have d2 := hZ0.cell 2 _ rfl
          have k3 := hZ1.fr 0 _ rfl
          have k4 := hZ1.fr 1 _ rfl
          have d3 := hZ1.cell 0 _ rfl
          have d4 := hZ1.cell 1 _ rfl
          go_wp2
          refine named_post fun V hV => ?_
          obtain ⟨hVa, hVb, hVB⟩ := tf_out hZ0 hZ1 hZB _ _ _ _ _ V hV
          clear hV d0 d1 d2 d3 d4 k0 k1 k2 k3 k4
          have c0 := hVa.cell 0 _ rfl
          have c1 := hVa.cell 1 _ rfl
          have c2 := hVa.cell 2 _ rfl
          have c3 := hVb.cell 0 _ rfl
          have c4 := hVb.cell 1 _ rfl
          exact bodyPost_ret (v := .tuple #[.agg #[.int .i64 0, .string ⟨#[]⟩, .int .i64 0], .int .i64 0, .agg #[.int .i64 3, .int .i64 (p : Int)]]) (by simp [results, Tryd.results19, go_sem, c0, c1, c2, c3, c4]; try rfl) rfl ⟨by rw [HX4.out]; rfl, hVB⟩
        · have hemp : (strOf T).toList.isEmpty = false := by
            rw [strOf_toL]
            cases T with
            | nil => exact absurd htl.symm hm0
            | cons _ _ => rfl
          have HX4 := Lib.hid (by have h := HX3.out; rw [if_neg hm0] at h; exact h)
          clear HX3
          have hpw : IntKind.i64.wrap ((p : Int) + (m : Int)) = ((p + m : Nat) : Int) := by rw [IntWalk.i64_in _ ⟨by omega, by omega⟩]; omega
          obtain ⟨W3, hW3⟩ : ∃ W3, W3 = w2.setCell ⟨R, 2, none⟩ (.int .i64 (p : Int)) := ⟨_, rfl⟩
          have hR3 : Blk W3 R [.int .i64 kd, .string (strOf T), .int .i64 (p : Int)] := hW3 ▸ hRk.set 2 _
          have hY0 : Blk W3 w.heap.size [.int .i64 0, .string ⟨#[]⟩, .int .i64 0] := hW3 ▸ hZ0.other (p := ⟨R, 2, none⟩) (by simp only; omega) _
          have hY1 : Blk W3 (w.heap.size + 1) [.int .i64 0, .int .i64 0] := hW3 ▸ hZ1.other (p := ⟨R, 2, none⟩) (by simp only; omega) _
          have hYB : Below w.heap.size w W3 := hW3 ▸ hZB.setCell (p := ⟨R, 2, none⟩) (by simp only; omega) _
          go_upto_region 11 with (fail)
          rw [← hW3]
          clear hW3 r0 r1 r2 f0 f1 f2 hZ0 hZ1 hZB hRk hRlt
          go_cut [5] (fun s5 wx => s5 = .int .i64 ((p + m : Nat) : Int) ∧ Blk wx w.heap.size [.int .i64 kd, .string (strOf T), .int .i64 (p : Int)] ∧ Blk wx (w.heap.size + 1) [.int .i64 0, .int .i64 0] ∧ Below w.heap.size w wx)
          case first =>
            have r0 := hR3.cell 0 _ rfl
            have r1 := hR3.cell 1 _ rfl
            have r2 := hR3.cell 2 _ rfl
            have hRlt := hR3.lt
            have hZ0 := hY0
            have hZ1 := hY1
            have k0 := hZ0.fr 0 _ rfl
            have k1 := hZ0.fr 1 _ rfl
            have k2 := hZ0.fr 2 _ rfl
            have d0 := hZ0.cell 0 _ rfl
            have d1 := hZ0.cell 1 _ rfl
            have d2 := hZ0.cell 2 _ rfl
            have k3 := hZ1.fr 0 _ rfl
            have k4 := hZ1.fr 1 _ rfl
            have d3 := hZ1.cell 0 _ rfl
            have d4 := hZ1.cell 1 _ rfl
            go_region_with (fail)
            all_goals
              go_wp2_with fail
              go_meet
              obtain ⟨x0, x1, x2⟩ := tf_out hY0 hY1 hYB (.int .i64 kd) (.string (strOf T)) (.int .i64 (p : Int)) (.int .i64 0) (.int .i64 0) _ rfl
              exact ⟨by rw [Int.natCast_add], x0.drew, x1.drew, x2.drew⟩
          case rest =>
            obtain ⟨rfl, hZ0, hZ1, hVB⟩ := hcut
            have c0 := hZ0.cell 0 _ rfl
            have c1 := hZ0.cell 1 _ rfl
            have c2 := hZ0.cell 2 _ rfl
            have c3 := hZ1.cell 0 _ rfl
            have c4 := hZ1.cell 1 _ rfl
            go_wp2
            exact bodyPost_ret (v := .tuple #[.agg #[.int .i64 kd, .string (strOf T), .int .i64 (p : Int)], .int .i64 ((p + m : Nat) : Int), .agg #[.int .i64 0, .int .i64 0]]) (by simp [results, Tryd.results19, go_sem, c0, c1, c2, c3, c4]; try rfl) rfl ⟨by rw [HX4.out, HKD.out hm0]; rfl, hVB⟩
    · have hJ : p = l.length := by rw [hR.out, List.drop_eq_nil_of_le (by omega), show j = l.length by omega]; rfl
      have hjl : j = l.length := by omega
      have n1 : ((j : Int) == (l.length : Int)) = true := by rw [beq_iff_eq]; omega
      have k2 : ¬ (j : Int) < (l.length : Int) := by omega
      have HX2 := Lib.hid (by have h := HX.out; rw [if_pos hJ, ← hjl] at h; exact h)
      clear HX hJ hR hjl
      have k0 := hZ0.fr 0 _ rfl
      have k1 := hZ0.fr 1 _ rfl
      have k2 := hZ0.fr 2 _ rfl
      have d0 := hZ0.cell 0 _ rfl
      have d1 := hZ0.cell 1 _ rfl
      have d2 := hZ0.cell 2 _ rfl
      have k3 := hZ1.fr 0 _ rfl
      have k4 := hZ1.fr 1 _ rfl
      have d3 := hZ1.cell 0 _ rfl
      have d4 := hZ1.cell 1 _ rfl
      go_wp2
      refine named_post fun V hV => ?_
      obtain ⟨hVa, hVb, hVB⟩ := tf_out hZ0 hZ1 hZB _ _ _ _ _ V hV
      clear hV d0 d1 d2 d3 d4 k0 k1 k2 k3 k4
      have c0 := hVa.cell 0 _ rfl
      have c1 := hVa.cell 1 _ rfl
      have c2 := hVa.cell 2 _ rfl
      have c3 := hVb.cell 0 _ rfl
      have c4 := hVb.cell 1 _ rfl
      exact bodyPost_ret (v := .tuple #[.agg #[.int .i64 0, .string ⟨#[]⟩, .int .i64 0], .int .i64 0, .agg #[.int .i64 5, .int .i64 (j : Int)]]) (by simp [results, Tryd.results19, go_sem, c0, c1, c2, c3, c4]; try rfl) rfl ⟨by rw [HX2.out]; rfl, hVB⟩
theorem rnext_any (l : List UInt8) (hl : l.length ≤ 1000000) (a : Int) (w : World) :
    Calls Tryd.prog 19 #[.string (strOf l), .int .i64 a] w fun e w' => e = .returned (nextX l a).val ∧ Below w.heap.size w w' := by
  by_cases h : a < 0 ∨ (l.length : Int) < a
  · exact rnext_range l a h w
  · obtain ⟨k, rfl⟩ := Int.eq_ofNat_of_zero_le (show 0 ≤ a by omega)
    exact rnext_in l hl k (by omega) w
end Go.Proofs.YtmdlndmibodimaaDoor
