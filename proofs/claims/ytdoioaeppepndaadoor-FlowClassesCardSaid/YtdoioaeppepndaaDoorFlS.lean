/- Walks: which classes are seen, by the program and by the document's own; the document's own label of an atom. -/
import Derived.Test.YtdoioaeppepndaaDoorFlAx
import Derived.Test.YtdoioaeppepndaaDoorLabelD
namespace Go.Proofs.YtdoioaeppepndaaDoor
open Go.RowKit Go.Shelf
open A8 Tk7 W10 Lb F11

/-- A class, and its cells. -/
structure Cl where
  lb : Int
  sz : Int
  rt : Int
def clC (c : Cl) : List Value := [.int .u64 c.lb, .int .i64 c.sz, .int .i64 c.rt]
theorem clC_len (c : Cl) : (clC c).length = 3 := rfl
/-- The numbers of the classes that are seen, from a number on. -/
def seenF (t : Int) : List Cl → Nat → List Int
  | [], _ => []
  | c :: r, i => if belowI c.lb t = true then (i : Int) :: seenF t r (i + 1) else seenF t r (i + 1)
def seenL (t : Int) (l : List Cl) : List Int := seenF t l 0
theorem seenF_snoc (t : Int) (c : Cl) : ∀ (l : List Cl) (i : Nat), seenF t (l ++ [c]) i = seenF t l i ++ (if belowI c.lb t = true then [((i + l.length : Nat) : Int)] else [])
  | [], i => by
    show (if belowI c.lb t = true then (i : Int) :: seenF t [] (i + 1) else seenF t [] (i + 1)) = _
    split <;> rfl
  | d :: l, i => by
    rw [List.cons_append, seenF, seenF, seenF_snoc t c l (i + 1), List.length_cons, show i + 1 + l.length = i + (l.length + 1) by omega]
    split <;> rfl
theorem seenL_take (t : Int) (l : List Cl) (k : Nat) (h : k < l.length) : seenL t (l.take (k + 1)) = seenL t (l.take k) ++ (if belowI l[k].lb t = true then [(k : Int)] else []) := by
  unfold seenL
  rw [List.take_succ_eq_append_getElem h, seenF_snoc, List.length_take, Nat.zero_add, Nat.min_eq_left (by omega)]
theorem seenF_len (t : Int) : ∀ (l : List Cl) (i : Nat), (seenF t l i).length ≤ l.length
  | [], _ => Nat.le_refl _
  | c :: l, i => by
    have := seenF_len t l (i + 1)
    rw [seenF]
    split <;> simp only [List.length_cons] <;> omega
def seesL (t : Int) (l : List Cl) : List Int := if 8 < l.length then [] else seenL t l
def seesE (l : List Cl) : Int := if 8 < l.length then 6 else 0
theorem infoInt11 : (Tryd.prog.info? 3).map (fun i => (i.zero, i.size, i.bytes)) = some (some (.int .i64 0), 1, 8) := by kernel_rfl
theorem r11atom_any (g : GA) (c : Int) (w : World) :
    Calls Tryd.prog 9 #[.agg (gaC g).toArray, .int .u64 c] w fun e w' => e = .returned (.int .u64 (atR c g.a)) ∧ Below w.heap.size w w' := by
  obtain ⟨⟨kd, bd, bn, cs, nm⟩, sc⟩ := g
  unfold atR
  simp only [gaC]
  have hb := b1 w (.cells #[.int .i64 kd, .bool bd, .int .u64 bn, sc, .string (strOf nm)] 25)
  have HB := Lib.hid hb
  clear hb
  cases bd
  all_goals
    go_enter Tryd.func9, Tryd.ntmps9
    go_wp2
    go_ret
    exact ⟨by simp, HB.out⟩
theorem sees1_any (c : Cl) (t : Int) (b : Nat) (w : World) (hB : Blk w b [.int .u64 t]) :
    Calls Tryd.prog 19 #[.agg (clC c).toArray, .pointer (some ⟨b, 0, none⟩)] w fun e w' => e = .returned (.bool (belowI c.lb t)) ∧ Below w.heap.size w w' := by
  obtain ⟨lb, sz, rt⟩ := c
  simp only [clC]
  have c0 := (hB.alloc (.cells #[.int .u64 lb, .int .i64 sz, .int .i64 rt] 54)).cell 0 _ rfl
  have hb := b1 w (.cells #[.int .u64 lb, .int .i64 sz, .int .i64 rt] 54)
  have HB := Lib.hid hb
  clear hb hB
  go_enter Tryd.func19, Tryd.ntmps19
  go_wp2_with fail
  refine (below_any _ _ _).mono ?_
  rintro e w1 ⟨rfl, rfl⟩
  go_wp2
  go_ret
  exact ⟨rfl, HB.out⟩
/-- A row of numbers of the call's own. -/
def IntsP (w0 : World) (L : List Int) (e : Ending) (w' : World) : Prop := ∃ v, e = .returned v ∧ w'.ownsRow w0.heap.size 3 1 v L.length (vals .i64 L) ∧ Below w0.heap.size w0 w'
def IntsE (w0 : World) (L : List Int) (E : Int) (e : Ending) (w' : World) : Prop := ∃ v, e = .returned (.tuple #[v, .int .i64 E]) ∧ w'.ownsRow w0.heap.size 3 1 v L.length (vals .i64 L) ∧ Below w0.heap.size w0 w'
set_option maxRecDepth 100000 in
set_option maxHeartbeats 8000000 in
theorem numbersOf_any (v : Value) (l : List Cl) (t : Int) (b : Nat) (w : World) (hv : Sl w 3 l.length v (l.flatMap clC)) (hB : Blk w b [.int .u64 t]) (hn : l.length ≤ 1000) :
    Calls Tryd.prog 18 #[v, .func (.func 19) #[] #[.pointer (some ⟨b, 0, none⟩)]] w (IntsP w (seenL t l)) := by
  obtain ⟨A, cap, rfl, hm, hc⟩ := sl_els (by decide) clC_len hv
  obtain ⟨i0, hi0, hz0, hz1, hz2⟩ := info_parts infoInt11
  have HC := Lib.hid hc
  have HB := Lib.hid hB
  clear hc hv hB
  go_enter Tryd.func18, Tryd.ntmps18
  go_wp2
  go_loopg [5, 6, 10] l.length (fun g v d iv wr => ∃ (i n : Nat) (B : Option Addr) (cp : Nat), i ≤ l.length ∧ g = l.length - i ∧ v = .slice B n cp ∧ iv = .int .i64 (i : Int) ∧ Hid (wr.ownsRow w.heap.size 3 1 (.slice B n cp) n (vals .i64 (seenL t (l.take i)))) ∧ Hid (Below w.heap.size w wr) ∧ Hid (n ≤ i) ∧ Hid (n = (seenL t (l.take i)).length))
  case atStart => exact ⟨0, 0, none, 0, Nat.zero_le _, rfl, rfl, rfl, Lib.hid (World.ownsRow_nil _ _ _ _), Lib.hid (Below.refl _ _), Lib.hid (Nat.le_refl _), Lib.hid rfl⟩
  case round =>
    obtain ⟨i, n, B, cp, hi, hg, rfl, rfl, hO, hb, hle, hln⟩ := hrel
    rename World => wr
    by_cases hlt : i < l.length
    · have g1 : (i : Int) < (l.length : Int) := by omega
      have hwk : IntKind.i64.wrap ((i : Int) + 1) = (i : Int) + 1 := IntWalk.i64_in _ ⟨by omega, by omega⟩
      obtain ⟨a, rfl, halt, E1⟩ := HC.out i hlt
      replace E1 := E1.later hb.out
      have hst := seenL_take t l i hlt
      have hq := fun w1 (hb1 : Below wr.heap.size wr w1) => sees1_any l[i] t b w1 ((HB.out.later hb.out).later hb1)
      obtain ⟨x, hx⟩ : ∃ x, x = l[i] := ⟨_, rfl⟩
      rw [← hx] at E1 hst hq
      obtain ⟨q, hqq⟩ : ∃ q, q = belowI x.lb t := ⟨_, rfl⟩
      rw [← hqq] at hst hq
      obtain ⟨lb, sz, rt⟩ := x
      simp only [clC] at E1 hq
      have c0 := E1.at0 _ rfl
      have c1 := E1.at1 1 _ (by decide) rfl
      have c2 := E1.at1 2 _ (by decide) rfl
      have elt := E1.lt
      obtain ⟨M, hM⟩ : ∃ M, M = seenL t (l.take i) := ⟨_, rfl⟩
      rw [← hM] at hO hst hln
      have HQ := Lib.hid hq
      have HI := Lib.hid (And.intro hi hn)
      clear hx hqq hM hq E1 hi
      cases q with
      | false =>
        have HS := Lib.hid (show seenL t (l.take (i + 1)) = M by rw [hst]; simp)
        clear hst
        go_wp2_with fail
        refine (HQ.out _ (b1 _ _)).mono ?_
        rintro r w3 ⟨rfl, hb3⟩
        have HB3 := Lib.hid (bstep (b1 _ _) hb3)
        clear hb3 HQ
        go_wp2
        go_roundg (l.length - (i + 1))
        case rel => exact ⟨i + 1, n, B, cp, by have := HI.out; omega, rfl, rfl, by go_num, Lib.hid (by rw [HS.out]; exact own_later hO.out HB3.out), Lib.hid (bstep hb.out HB3.out), Lib.hid (by have := hle.out; omega), Lib.hid (by rw [HS.out]; exact hln.out)⟩
        case measure => have := HI.out; omega
      | true =>
        have HS := Lib.hid (show seenL t (l.take (i + 1)) = M ++ [(i : Int)] by rw [hst]; simp)
        clear hst
        go_wp2_with fail
        refine (HQ.out _ (b1 _ _)).mono ?_
        rintro r w3 ⟨rfl, hb3⟩
        have hb3' := bstep (b1 wr (.cells #[.int .u64 lb, .int .i64 sz, .int .i64 rt] 54)) hb3
        have hO3 := own_later hO.out hb3'
        have hB3 := bstep hb.out hb3'
        obtain ⟨A3, cp3, w4, hrun, hown, hgrow⟩ := run_append_any (P := Tryd.prog) (w3.alloc (.cells #[.int .i64 (i : Int)] 3)) w.heap.size 28 28 3 i0 (.int .i64 0) 1 8 Tryd.underlying28 hi0 hz0 hz1 hz2 rfl (by decide) _ n (vals .i64 M) (own_later hO3 (b1 _ _)) _ 1 [.int .i64 (i : Int)] (Sl.lit (Blk.is (us := [.int .i64 (i : Int)]) 3 rfl) 1 1 rfl (by decide)) (fun u hu => by rw [List.mem_singleton.1 hu]; rfl) (by have := HI.out; have := hle.out; unfold maxLen; omega) (by have := HI.out; have := hle.out; omega) (bstep hB3 (b1 _ _)).size (n + 1) (vals .i64 (M ++ [(i : Int)])) rfl (by rw [vals_snoc])
        have HOW := Lib.hid hown
        have HBW := Lib.hid ((bstep hB3 (b1 _ _)).grown hgrow (bstep hB3 (b1 _ _)).size (fun j e => (hO3.lt j e).1))
        have HLN := Lib.hid hln.out
        have HLE := Lib.hid hle.out
        clear hown hgrow hO hb hb3 hb3' hO3 hB3 c0 c1 c2 HQ hln hle
        go_wp2_with (at_builtin; refine wpList_append_run rfl _ _ _ rfl rfl rfl hrun ?_)
        go_roundg (l.length - (i + 1))
        case rel => exact ⟨i + 1, n + 1, A3, cp3, by have := HI.out; omega, rfl, rfl, by go_num, Lib.hid (by rw [HS.out]; exact HOW.out), HBW, Lib.hid (by have := HLE.out; omega), Lib.hid (by rw [HS.out, List.length_append, ← HLN.out]; rfl)⟩
        case measure => have := HI.out; omega
    · have g1 : ¬ (i : Int) < (l.length : Int) := by omega
      have hO2 : wr.ownsRow w.heap.size 3 1 (.slice B n cp) (seenL t l).length (vals .i64 (seenL t l)) := by
        have h1 := hO.out
        have h2 := hln.out
        rw [List.take_of_length_le (by omega)] at h1 h2
        rw [← h2]
        exact h1
      have HO2 := Lib.hid hO2
      clear hO2 hO hln hle
      go_wp2
      go_ret
      exact ⟨_, rfl, HO2.out, hb.out⟩
set_option maxRecDepth 100000 in
set_option maxHeartbeats 4000000 in
theorem sees_any (v : Value) (l : List Cl) (t : Int) (w : World) (hv : Sl w 3 l.length v (l.flatMap clC)) :
    Calls Tryd.prog 6 #[v, .int .u64 t] w (IntsE w (seesL t l) (seesE l)) := by
  have hN := fun (hn : l.length ≤ 1000) w1 (hb : Below w.heap.size w w1) (b : Nat) (hB : Blk w1 b [.int .u64 t]) => numbersOf_any v l t b w1 (hv.later hb) hB hn
  unfold seesL seesE
  obtain ⟨A, cap, rfl, hm, -⟩ := sl_els (by decide) clC_len hv
  obtain ⟨W1, hW1⟩ : ∃ W1, W1 = w.alloc (.cells #[.int .u64 t] 22) := ⟨_, rfl⟩
  have hK : Blk W1 w.heap.size [.int .u64 t] := by rw [hW1]; exact Blk.new w [.int .u64 t] 22
  have hb1 : Below w.heap.size w W1 := by rw [hW1]; exact b1 _ _
  have HN := Lib.hid hN
  have HK := Lib.hid hK
  have HB := Lib.hid hb1
  clear hN hv hK hb1
  by_cases h8 : 8 < l.length
  · have h8' : (8 : Int) < (l.length : Int) := by omega
    rw [if_pos h8, if_pos h8]
    have HNW := Lib.hid hW1
    go_enter Tryd.func6, Tryd.ntmps6
    clear hW1
    go_wp2
    go_ret2
    exact ⟨_, rfl, World.ownsRow_nil _ _ _ _, by rw [← HNW.out]; exact HB.out⟩
  · have h8' : ¬ (8 : Int) < (l.length : Int) := by omega
    rw [if_neg h8, if_neg h8]
    have HNW := Lib.hid hW1
    have hNum := HN.out (by omega) W1 HB.out w.heap.size HK.out
    go_enter Tryd.func6, Tryd.ntmps6
    clear hW1 HN
    go_wp2_with fail
    rw [← HNW.out]
    clear HNW
    refine hNum.mono ?_
    rintro e w2 ⟨v2, rfl, ho, hb2⟩
    obtain ⟨A2, c2, rfl⟩ := own_form ho
    have HO := Lib.hid (own_mono ho HB.out.size)
    have HB2 := Lib.hid (bstep HB.out hb2)
    clear ho hb2 hNum
    go_wp2
    go_ret2
    exact ⟨_, rfl, HO.out, HB2.out⟩
set_option maxRecDepth 100000 in
set_option maxHeartbeats 8000000 in
theorem rsees_any (v : Value) (l : List Cl) (t : Int) (w : World) (hv : Sl w 3 l.length v (l.flatMap clC)) :
    Calls Tryd.prog 7 #[v, .int .u64 t] w (IntsE w (seesL t l) (seesE l)) := by
  unfold seesL seesE
  obtain ⟨A, cap, rfl, hm, hc⟩ := sl_els (by decide) clC_len hv
  obtain ⟨i0, hi0, hz0, hz1, hz2⟩ := info_parts infoInt11
  have HC := Lib.hid hc
  clear hc hv
  by_cases h8 : 8 < l.length
  · have h8' : (8 : Int) < (l.length : Int) := by omega
    rw [if_pos h8, if_pos h8]
    go_enter Tryd.func7, Tryd.ntmps7
    go_wp2
    go_ret2
    exact ⟨_, rfl, World.ownsRow_nil _ _ _ _, Below.refl _ _⟩
  · have h8' : ¬ (8 : Int) < (l.length : Int) := by omega
    rw [if_neg h8, if_neg h8]
    have HN := Lib.hid (show l.length ≤ 8 by omega)
    clear h8
    go_enter Tryd.func7, Tryd.ntmps7
    go_wp2
    go_loopg [6, 7] l.length (fun g v iv wr => ∃ (i n : Nat) (B : Option Addr) (cp : Nat), i ≤ l.length ∧ g = l.length - i ∧ v = .slice B n cp ∧ iv = .int .i64 (i : Int) ∧ Hid (wr.ownsRow w.heap.size 3 1 (.slice B n cp) n (vals .i64 (seenL t (l.take i)))) ∧ Hid (Below w.heap.size w wr) ∧ Hid (n ≤ i) ∧ Hid (n = (seenL t (l.take i)).length))
    case atStart => exact ⟨0, 0, none, 0, Nat.zero_le _, rfl, rfl, rfl, Lib.hid (World.ownsRow_nil _ _ _ _), Lib.hid (Below.refl _ _), Lib.hid (Nat.le_refl _), Lib.hid rfl⟩
    case round =>
      obtain ⟨i, n, B, cp, hi, hg, rfl, rfl, hO, hb, hle, hln⟩ := hrel
      rename World => wr
      by_cases hlt : i < l.length
      · have g1 : (i : Int) < (l.length : Int) := by omega
        have hwk : IntKind.i64.wrap ((i : Int) + 1) = (i : Int) + 1 := IntWalk.i64_in _ ⟨by omega, by omega⟩
        obtain ⟨a, rfl, halt, E1⟩ := HC.out i hlt
        replace E1 := E1.later hb.out
        have hst := seenL_take t l i hlt
        obtain ⟨x, hx⟩ : ∃ x, x = l[i] := ⟨_, rfl⟩
        rw [← hx] at E1 hst
        obtain ⟨lb, sz, rt⟩ := x
        simp only [clC] at E1
        obtain ⟨q, hqq⟩ : ∃ q, q = belowI lb t := ⟨_, rfl⟩
        simp only [← hqq] at hst
        have hand : (bits .andNot .u64 lb t == 0) = q := by rw [hqq]; rfl
        have c0 := E1.at0 _ rfl
        have elt := E1.lt
        obtain ⟨M, hM⟩ : ∃ M, M = seenL t (l.take i) := ⟨_, rfl⟩
        rw [← hM] at hO hst hln
        have HI := Lib.hid (And.intro hi HN.out)
        clear hx hqq hM E1 hi
        cases q with
        | false =>
          have HS := Lib.hid (show seenL t (l.take (i + 1)) = M by rw [hst]; simp)
          clear hst
          go_wp2
          go_roundg (l.length - (i + 1))
          case rel => exact ⟨i + 1, n, B, cp, by have := HI.out; omega, rfl, rfl, by go_num, Lib.hid (by rw [HS.out]; exact hO.out), hb, Lib.hid (by have := hle.out; omega), Lib.hid (by rw [HS.out]; exact hln.out)⟩
          case measure => have := HI.out; omega
        | true =>
          have HS := Lib.hid (show seenL t (l.take (i + 1)) = M ++ [(i : Int)] by rw [hst]; simp)
          clear hst
          obtain ⟨A3, cp3, w4, hrun, hown, hgrow⟩ := run_append_any (P := Tryd.prog) (wr.alloc (.cells #[.int .i64 (i : Int)] 3)) w.heap.size 28 28 3 i0 (.int .i64 0) 1 8 Tryd.underlying28 hi0 hz0 hz1 hz2 rfl (by decide) _ n (vals .i64 M) (own_later hO.out (b1 _ _)) _ 1 [.int .i64 (i : Int)] (Sl.lit (Blk.is (us := [.int .i64 (i : Int)]) 3 rfl) 1 1 rfl (by decide)) (fun u hu => by rw [List.mem_singleton.1 hu]; rfl) (by have := HI.out; have := hle.out; unfold maxLen; omega) (by have := HI.out; have := hle.out; omega) (bstep hb.out (b1 _ _)).size (n + 1) (vals .i64 (M ++ [(i : Int)])) rfl (by rw [vals_snoc])
          have HOW := Lib.hid hown
          have HBW := Lib.hid ((bstep hb.out (b1 _ _)).grown hgrow (bstep hb.out (b1 _ _)).size (fun j e => (hO.out.lt j e).1))
          have HLN := Lib.hid hln.out
          have HLE := Lib.hid hle.out
          clear hown hgrow hO hb hln hle
          go_wp2_with (at_builtin; refine wpList_append_run rfl _ _ _ rfl rfl rfl hrun ?_)
          go_roundg (l.length - (i + 1))
          case rel => exact ⟨i + 1, n + 1, A3, cp3, by have := HI.out; omega, rfl, rfl, by go_num, Lib.hid (by rw [HS.out]; exact HOW.out), HBW, Lib.hid (by have := HLE.out; omega), Lib.hid (by rw [HS.out, List.length_append, ← HLN.out]; rfl)⟩
          case measure => have := HI.out; omega
      · have g1 : ¬ (i : Int) < (l.length : Int) := by omega
        have hO2 : wr.ownsRow w.heap.size 3 1 (.slice B n cp) (seenL t l).length (vals .i64 (seenL t l)) := by
          have h1 := hO.out
          have h2 := hln.out
          rw [List.take_of_length_le (by omega)] at h1 h2
          rw [← h2]
          exact h1
        have HO2 := Lib.hid hO2
        clear hO2 hO hln hle
        go_wp2
        go_ret2
        exact ⟨_, rfl, HO2.out, hb.out⟩
end Go.Proofs.YtdoioaeppepndaaDoor
