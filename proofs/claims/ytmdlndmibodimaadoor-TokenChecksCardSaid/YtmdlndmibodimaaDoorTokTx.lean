/- Walks: the document's own text of tokens, and lists that are the same. -/
import Derived.Test.YtmdlndmibodimaaDoorTokCk
import Derived.Test.YtmdlndmibodimaaDoorTokS
import Derived.Test.YtmdlndmibodimaaDoorTokP
import Derived.Test.YtmdlndmibodimaaDoorTokO
namespace Go.Proofs.YtmdlndmibodimaaDoor
open Go.RowKit
open Tk7

theorem join_snoc (xs : List (List UInt8)) (x : List UInt8) (h : xs ≠ []) : Lib.join (xs ++ [x]) [32] = Lib.join xs [32] ++ [32] ++ x := by
  cases xs with
  | nil => exact absurd rfl h
  | cons y ys =>
    rw [List.cons_append, Lib.join_cons, Lib.join_cons]
    unfold Lib.joinTail
    simp
theorem join_one (x : List UInt8) : Lib.join [x] [32] = x := by
  rw [Lib.join_cons]; unfold Lib.joinTail; simp
theorem errK_take {xs : List TK} {i : Nat} (h : i < xs.length) (h0 : ∀ x ∈ xs.take i, checkI x = 0) : errK xs = if checkI xs[i] = 0 then errK (xs.drop (i + 1)) else checkI xs[i] := by
  induction xs generalizing i with
  | nil => cases h
  | cons x xs ih =>
    cases i with
    | zero => rfl
    | succ i =>
      have h1 : checkI x = 0 := h0 x (by simp)
      have e : errK (x :: xs) = if checkI x = 0 then errK xs else checkI x := rfl
      rw [e, if_pos h1]
      exact ih (by simpa using h) (fun y hy => h0 y (by simp [hy]))
theorem errK_all {xs : List TK} (h0 : ∀ x ∈ xs, checkI x = 0) : errK xs = 0 := by
  induction xs with
  | nil => rfl
  | cons x xs ih => unfold errK; rw [if_pos (h0 x (by simp))]; exact ih (fun y hy => h0 y (by simp [hy]))
set_option maxRecDepth 100000 in
set_option maxHeartbeats 4000000 in
theorem rtext_any (v : Value) (xs : List TK) (w : World) (hv : KSl w v xs) (hn : xs.length ≤ 20) (hs : ∀ x ∈ xs, x.2.1.length ≤ 60) :
    Calls Tryd.prog 22 #[v] w fun e w' => e = .returned (.tuple #[.string (strOf (textK xs)), .int .i64 (errK xs)]) ∧ Below w.heap.size w w' := by
  have HV := Lib.hid hv
  obtain ⟨A, cap, rfl, hcap, hmax, _, _⟩ := hv.at_
  have HS := Lib.hid hs
  clear hv hs
  go_enter Tryd.func22, Tryd.ntmps22
  go_wp2
  go_loopg [4, 5] xs.length (fun g ov iv wr => ∃ (i : Nat) (O : ByteArray), i ≤ xs.length ∧ g = xs.length - i ∧ ov = .string O ∧ iv = .int .i64 (i : Int) ∧ Hid (Below w.heap.size w wr) ∧ O.size ≤ i * 61 ∧ Hid (O = strOf (Lib.join ((xs.take i).map (·.2.1)) [32])) ∧ Hid (∀ x ∈ xs.take i, checkI x = 0))
  case atStart => exact ⟨0, _, by omega, rfl, rfl, rfl, Lib.hid (Below.refl _ _), Nat.le_refl 0, Lib.hid rfl, Lib.hid (fun x hx => by cases hx)⟩
  case round =>
    obtain ⟨i, O, hi, hg, rfl, rfl, hB, hOs, hO, hC⟩ := hrel
    have h1b : (0 : Int) ≤ (i : Int) := by omega
    by_cases hz : i < xs.length
    · have h1 : (i : Int) < (xs.length : Int) := by omega
      obtain ⟨A', cap', hA, _, _, _, hc⟩ := (HV.out.later hB.out).at_
      have hA1 := (Value.slice.inj hA).1
      subst hA1
      obtain ⟨a, rfl, hal, c0, c1, c2⟩ := hc i hz
      have hwi : IntKind.i64.wrap ((i : Int) + 1) = (i : Int) + 1 := IntWalk.i64_in _ ⟨by omega, by omega⟩
      obtain ⟨x, hx⟩ : ∃ x, x = xs[i] := ⟨_, rfl⟩
      rw [← hx] at c0 c1 c2
      have hK := fun w => rcheck_any x.1 x.2.1 x.2.2 (by rw [hx]; have := HS.out _ (List.getElem_mem hz); omega) w
      have hx60 : x.2.1.length ≤ 60 := by rw [hx]; exact HS.out _ (List.getElem_mem hz)
      have hxz : (strOf x.2.1).size = x.2.1.length := strOf_size _
      have hxx : (x.1, x.2.1, x.2.2) = x := rfl
      rw [hxx] at hK
      have HE := Lib.hid (errK_take hz hC.out)
      obtain ⟨c, hcc⟩ : ∃ c, c = checkI x := ⟨_, rfl⟩
      rw [← hcc] at hK
      clear hA hc hxx
      by_cases h0 : c = 0
      · have hT : (xs.take (i + 1)).map (·.2.1) = (xs.take i).map (·.2.1) ++ [x.2.1] := by rw [take_snoc _ _ hz, List.map_append, hx]; rfl
        have hC2 := Lib.hid (show ∀ y ∈ xs.take (i + 1), checkI y = 0 from fun y hy => by
          rw [take_snoc _ _ hz, List.mem_append, List.mem_singleton] at hy
          rcases hy with hy | hy
          · exact hC.out y hy
          · rw [hy, ← hx, ← hcc]; exact h0)
        have hcell : ∀ w2 : World, Below wr.heap.size wr w2 → w2.cell? (a.add (i * 3)) = some (.int .i64 x.1) ∧ w2.cell? (a.add (i * 3 + 1)) = some (.string (strOf x.2.1)) ∧ w2.cell? (a.add (i * 3 + 2)) = some (.int .i64 x.2.2) ∧ Below w.heap.size w w2 := fun w2 hb => ⟨(hb.cell (by rw [add_block]; exact hal)).trans c0, (hb.cell (by rw [add_block]; exact hal)).trans c1, (hb.cell (by rw [add_block]; exact hal)).trans c2, bstep hB.out hb⟩
        have HCE := Lib.hid hcell
        rw [← add_at _ (i * 3) 1 (by decide)] at c1
        rw [← add_at _ (i * 3) 2 (by decide)] at c2
        subst h0
        obtain ⟨X, hX⟩ : ∃ X, X = strOf x.2.1 := ⟨_, rfl⟩
        rw [← hX] at c1 hxz
        rw [← hX] at hK HCE
        clear hcell hx hcc HE
        by_cases hi0 : i = 0
        · obtain ⟨Y, hY⟩ : ∃ Y, Y = O ++ X := ⟨_, rfl⟩
          have hO2 := Lib.hid (show Y = strOf (Lib.join ((xs.take (i + 1)).map (·.2.1)) [32]) by
            rw [hY, hX, hT, hO.out]
            subst hi0
            rw [List.take_zero, List.map_nil, List.nil_append, join_one, ← strOf_app]
            rfl)
          have hYs : Y.size = O.size + x.2.1.length := by rw [hY, ByteArray.size_append, hxz]
          have hY2 : Y.size ≤ (i + 1) * 61 := by omega
          have n1 : ¬ (0 : Int) < (i : Int) := by omega
          have hY1 := hY.symm
          clear hT hi0 hX hY
          go_wp2_with (go_at_call 27; refine (hK _).mono ?_; rintro e w2 ⟨rfl, hb2⟩; obtain ⟨e0, e1, e2, hB2⟩ := HCE.out _ hb2; rw [← add_at _ (i * 3) 1 (by decide)] at e1; rw [← add_at _ (i * 3) 2 (by decide)] at e2)
          go_roundg (xs.length - (i + 1))
          case rel => exact ⟨i + 1, _, by omega, rfl, rfl, by go_num, Lib.hid hB2, hY2, hO2, hC2⟩
          case measure => omega
        · obtain ⟨Z, hZ⟩ : ∃ Z, Z = O ++ (⟨#[32]⟩ : ByteArray) := ⟨_, rfl⟩
          obtain ⟨Y, hY⟩ : ∃ Y, Y = Z ++ X := ⟨_, rfl⟩
          have hO2 := Lib.hid (show Y = strOf (Lib.join ((xs.take (i + 1)).map (·.2.1)) [32]) by
            rw [hY, hZ, hX, hT, hO.out, join_snoc _ _ (fun e => hi0 (by have := congrArg List.length e; rw [List.length_map, List.length_take, List.length_nil] at this; omega)), strOf_app, strOf_app]
            rfl)
          have hZs : Z.size = O.size + 1 := by rw [hZ, ByteArray.size_append]; rfl
          have hYs : Y.size = Z.size + x.2.1.length := by rw [hY, ByteArray.size_append, hxz]
          have hY2 : Y.size ≤ (i + 1) * 61 := by omega
          have n1 : (0 : Int) < (i : Int) := by omega
          have hY1 := hY.symm
          have hZ1 := hZ.symm
          clear hT hi0 hX hY hZ
          go_wp2_with (go_at_call 27; refine (hK _).mono ?_; rintro e w2 ⟨rfl, hb2⟩; obtain ⟨e0, e1, e2, hB2⟩ := HCE.out _ hb2; rw [← add_at _ (i * 3) 1 (by decide)] at e1; rw [← add_at _ (i * 3) 2 (by decide)] at e2)
          go_roundg (xs.length - (i + 1))
          case rel => exact ⟨i + 1, _, by omega, rfl, rfl, by go_num, Lib.hid hB2, hY2, hO2, hC2⟩
          case measure => omega
      · have hE1 : errK xs = c := by rw [HE.out, ← hx, ← hcc, if_neg h0]
        have e3 := Lib.hid (show textK xs = [] by unfold textK; rw [if_neg (by rw [hE1]; exact h0)])
        have e4 := Lib.hid hE1
        have n1 : (c == 0) = false := by rw [beq_eq_false_iff_ne]; exact h0
        rw [← add_at _ (i * 3) 1 (by decide)] at c1
        rw [← add_at _ (i * 3) 2 (by decide)] at c2
        clear hE1 hx hcc HE
        go_wp2_with (go_at_call 27; refine (hK _).mono ?_; rintro e w2 ⟨rfl, hb2⟩)
        exact bodyPost_ret (v := .tuple #[.string ⟨#[]⟩, .int .i64 c]) (by simp [results, Tryd.results22, go_sem]; try rfl) rfl ⟨by rw [e3.out, e4.out]; rfl, bstep hB.out hb2⟩
    · have h1 : ¬ (i : Int) < (xs.length : Int) := by omega
      have hil : xs.take i = xs := List.take_of_length_le (by omega)
      have hE1 : errK xs = 0 := errK_all (by have := hC.out; rw [hil] at this; exact this)
      have e3 := Lib.hid (show O = strOf (textK xs) by unfold textK; rw [if_pos hE1, hO.out, hil])
      have e4 := Lib.hid hE1
      clear hE1 hil
      go_wp2
      exact bodyPost_ret (v := .tuple #[.string O, .int .i64 0]) (by simp [results, Tryd.results22, go_sem]; try rfl) rfl ⟨by rw [← e3.out, e4.out], hB.out⟩
theorem sameK_take {xs ys : List TK} (hl : xs.length = ys.length) {i : Nat} (h : i < xs.length) (h0 : sameK xs ys = sameK (xs.drop i) (ys.drop i)) : sameK xs ys = (sk xs[i] (ys[i]'(by omega)) && sameK (xs.drop (i + 1)) (ys.drop (i + 1))) := by
  rw [h0, List.drop_eq_getElem_cons h, List.drop_eq_getElem_cons (show i < ys.length by omega)]
  rfl
set_option maxRecDepth 100000 in
set_option maxHeartbeats 4000000 in
theorem rsame_any (u v : Value) (xs ys : List TK) (w : World) (hu : KSl w u xs) (hv : KSl w v ys) :
    Calls Tryd.prog 24 #[u, v] w fun e w' => e = .returned (.bool (sameK xs ys)) ∧ Below w.heap.size w w' := by
  obtain ⟨A, cap, rfl, hcap, hmax, _, hc⟩ := hu.at_
  obtain ⟨A', cap', rfl, hcap', hmax', _, hc'⟩ := hv.at_
  have HC := Lib.hid hc
  have HC' := Lib.hid hc'
  clear hc hc' hu hv
  by_cases hl : xs.length = ys.length
  · have H0 := Lib.hid (show sameK xs ys = sameK (xs.drop 0) (ys.drop 0) from rfl)
    have n0 : ((xs.length : Int) == (ys.length : Int)) = true := by rw [beq_iff_eq]; omega
    have HL := Lib.hid hl
    clear hl
    go_enter Tryd.func24, Tryd.ntmps24
    go_wp2
    go_loopg [5] xs.length (fun g iv wr => ∃ (i n : Nat), i ≤ xs.length ∧ g = xs.length - i ∧ iv = .int .i64 (i : Int) ∧ wr = w.drewN n ∧ Hid (sameK xs ys = sameK (xs.drop i) (ys.drop i)))
    case atStart => exact ⟨0, 0, by omega, rfl, rfl, rfl, H0⟩
    case round =>
      obtain ⟨i, n, hi, hg, rfl, rfl, hR⟩ := hrel
      have h1b : (0 : Int) ≤ (i : Int) := by omega
      by_cases hz : i < xs.length
      · have hz' : i < ys.length := by have := HL.out; omega
        have h1 : (i : Int) < (xs.length : Int) := by omega
        have h2 : (i : Int) < (ys.length : Int) := by omega
        obtain ⟨a, rfl, _, c0, c1, c2⟩ := HC.out i hz
        obtain ⟨a', rfl, _, c0', c1', c2'⟩ := HC'.out i hz'
        rw [← add_at _ (i * 3) 1 (by decide)] at c1 c1'
        clear c2 c2'
        have hwi : IntKind.i64.wrap ((i : Int) + 1) = (i : Int) + 1 := IntWalk.i64_in _ ⟨by omega, by omega⟩
        have hst := Lib.hid (sameK_take HL.out hz hR.out)
        obtain ⟨x, hx⟩ : ∃ x, x = xs[i] := ⟨_, rfl⟩
        obtain ⟨y, hy⟩ : ∃ y, y = ys[i] := ⟨_, rfl⟩
        rw [← hx] at c0 c1 hst
        rw [← hy] at c0' c1' hst
        obtain ⟨k1, s1, a1⟩ := x
        obtain ⟨k2, s2, a2⟩ := y
        have hsk : sk (k1, s1, a1) (k2, s2, a2) = (k1 == k2 && s1 == s2) := rfl
        rw [hsk] at hst
        have hs : ((strOf s1).toList == (strOf s2).toList) = (s1 == s2) := by rw [strOf_toL, strOf_toL]
        obtain ⟨p, hp⟩ : ∃ p, p = (s1 == s2) := ⟨_, rfl⟩
        obtain ⟨S1, h3⟩ : ∃ S, S = strOf s1 := ⟨_, rfl⟩
        obtain ⟨S2, h4⟩ : ∃ S, S = strOf s2 := ⟨_, rfl⟩
        simp only at c0 c1 c0' c1'
        rw [← hp] at hs hst
        rw [← h3] at hs c1
        rw [← h4] at hs c1'
        clear hp h3 h4 hx hy hsk hR
        by_cases he : k1 = k2
        · subst he
          cases p with
          | true =>
            have hR2 := Lib.hid (show sameK xs ys = sameK (xs.drop (i + 1)) (ys.drop (i + 1)) by rw [hst.out]; simp)
            go_wp2
            go_quiet (fail)
            go_wp2
            go_roundg (xs.length - (i + 1))
            case rel => exact ⟨i + 1, _, by omega, rfl, by go_num, rfl, hR2⟩
            case measure => omega
          | false =>
            have e1 := Lib.hid (show sameK xs ys = false by rw [hst.out]; simp)
            go_wp2
            go_quiet (fail)
            go_wp2
            go_ret
            exact ⟨by rw [e1.out]; rfl, below_drewN (below_drewN (Below.refl _ _) n) _⟩
        · have hb : (k1 == k2) = false := by rw [beq_eq_false_iff_ne]; exact he
          have e1 := Lib.hid (show sameK xs ys = false by rw [hst.out, hb]; simp)
          have hb2 : (k1 != k2) = true := by simp [bne, hb]
          clear hs
          go_wp2
          go_quiet (fail)
          go_wp2
          go_ret
          exact ⟨by rw [e1.out]; rfl, below_drewN (below_drewN (Below.refl _ _) n) _⟩
      · have h1 : ¬ (i : Int) < (xs.length : Int) := by omega
        have e1 := Lib.hid (show sameK xs ys = true by rw [hR.out, List.drop_eq_nil_of_le (by omega), List.drop_eq_nil_of_le (by have := HL.out; omega)]; rfl)
        clear hR
        go_wp2
        go_ret
        exact ⟨by rw [e1.out]; rfl, below_drewN (Below.refl _ _) n⟩
  · have n0 : ((xs.length : Int) == (ys.length : Int)) = false := by rw [beq_eq_false_iff_ne]; omega
    rw [sameK_len xs ys hl]
    go_enter Tryd.func24, Tryd.ntmps24
    go_wp2
    go_ret
    exact ⟨rfl, Below.refl _ _⟩
end Go.Proofs.YtmdlndmibodimaaDoor
