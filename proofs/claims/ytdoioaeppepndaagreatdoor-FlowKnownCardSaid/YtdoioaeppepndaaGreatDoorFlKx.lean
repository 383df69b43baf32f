/- Classes that are seen; labels that are read; the chapter's examples. -/
import Derived.Test.YtdoioaeppepndaaGreatDoorLabelOne
import Derived.Deep.QuietTactic
import Derived.BigQuiet
import Derived.Deep.Draws
import Derived.Test.YtdoioaeppepndaaGreatDoorFlAx
import Derived.Deep.RegionHeld3
import Derived.Test.YtdoioaeppepndaaGreatDoorFlRx
import Derived.Test.YtdoioaeppepndaaGreatDoorFlL
namespace Go.Proofs.YtdoioaeppepndaaGreatDoor
open Go.RowKit
open Lb

/-- The first k categories are no witness against 'a is at most b'. -/
def noneBelow (a b : Int) (k : Nat) : Prop := ∀ j : Nat, j < k → (hasI a j && !hasI b j) = false
theorem refBelowI_true {a b : Int} (h : noneBelow a b 64) : refBelowI a b = true := by
  unfold refBelowI upto64
  rw [List.all_eq_true]
  intro c hc
  obtain ⟨j, hj, rfl⟩ := List.mem_map.1 hc
  rw [h j (by simpa using hj)]
  rfl
theorem refBelowI_false {a b : Int} {k : Nat} (hk : k < 64) (h : hasI a k = true) (h' : hasI b k = false) : refBelowI a b = false := by
  unfold refBelowI upto64
  rw [List.all_eq_false]
  exact ⟨(k : Int), List.mem_map.2 ⟨k, by simpa using hk, rfl⟩, by simp [h, h']⟩

theorem sameInts_any (u v : Value) (xs ys : List Int) (w : World) (hu : Slc w u (vals .i64 xs)) (hv : Slc w v (vals .i64 ys)) :
    Calls Tryz.prog 16 #[u, v] w fun e w' => e = .returned (.bool (decide (xs = ys))) ∧ ∃ n, w' = w.drewN n := by
  obtain ⟨A, cap, rfl, hm, hc⟩ := hu.ints
  obtain ⟨A', cap', rfl, hm', hc'⟩ := hv.ints
  clear hu hv
  by_cases hl : xs.length = ys.length
  · have hlb : ((xs.length : Int) != (ys.length : Int)) = false := by simp [hl]
    have HL := Lib.hid hl
    clear hl
    go_enter Tryz.func16, Tryz.ntmps16
    go_wp2
    go_loopw [5] (fun i wr => ∃ k n : Nat, k ≤ xs.length ∧ i = .int .i64 k ∧ xs.take k = ys.take k ∧ wr = w.drewN n) (fun i _ => xs.length - (intOf i).toNat)
    case atStart => exact ⟨0, 0, by omega, rfl, by simp, rfl⟩
    case round =>
      obtain ⟨k, n, hk, rfl, ht, rfl⟩ := hrel
      have HT := Lib.hid ht
      clear ht
      by_cases hlt : k < xs.length
      · have hlt' : k < ys.length := by have := HL.out; omega
        obtain ⟨a, rfl, _, hcell⟩ := hc k hlt
        obtain ⟨a', rfl, _, hcell'⟩ := hc' k hlt'
        clear hc hc'
        have hi : (k : Int) < (xs.length : Int) := by omega
        have hi' : (k : Int) < (ys.length : Int) := by omega
        by_cases he : xs[k] = ys[k]
        · have heb : (xs[k] != ys[k]) = false := by simp [he]
          have hn := Lib.hid (show xs.take (k + 1) = ys.take (k + 1) by rw [take_snoc xs k hlt, take_snoc ys k hlt', HT.out, he])
          clear he
          go_wp2
          go_quiet (fail)
          go_wp2
          go_roundw
          case rel => exact ⟨k + 1, _, by omega, by go_num, hn.out, rfl⟩
          case measure => simp [intOf]; omega
        · have heb : (xs[k] != ys[k]) = true := by simpa using he
          have hd := Lib.hid (show decide (xs = ys) = false by
            rw [decide_eq_false_iff_not]; intro h; subst h; exact he rfl)
          clear he
          go_wp2
          go_quiet (fail)
          go_wp2
          go_ret
          exact ⟨by rw [hd.out]; rfl, _, World.drewN_drewN _ _ _⟩
      · have hd := Lib.hid (show decide (xs = ys) = true by
            have h1 := HT.out
            rw [List.take_of_length_le (by omega), List.take_of_length_le (by have := HL.out; omega)] at h1
            simpa using h1)
        go_wp2
        go_ret
        exact ⟨by rw [hd.out]; rfl, _, rfl⟩
  · have hlb : ((xs.length : Int) != (ys.length : Int)) = true := by simp; omega
    have hd := Lib.hid (show decide (xs = ys) = false by
            rw [decide_eq_false_iff_not]; intro h; subst h; exact hl rfl)
    clear hl
    go_enter Tryz.func16, Tryz.ntmps16
    go_wp2
    go_ret
    exact ⟨by rw [hd.out]; rfl, 0, rfl⟩
end Go.Proofs.YtdoioaeppepndaaGreatDoor
namespace Go.Proofs.YtdoioaeppepndaaGreatDoor
open Go.RowKit Go.Shelf
open A8 Tk7 W10 Lb F11

/-- A class, and its cells. -/
structure Cl where
  lb : Int
  sz : Int
  rt : Int
def clC (c : Cl) : List Value := [.int .u64 c.lb, .int .i64 c.sz, .int .i64 c.rt]
theorem clC_len (c : Cl) : (clC c).length = 3 := rfl
/-- The numbers of the classes that are seen, from a number on. -/
def seenF (t : Int) : List Cl → Nat → List Int
  | [], _ => []
  | c :: r, i => if belowI c.lb t = true then (i : Int) :: seenF t r (i + 1) else seenF t r (i + 1)
def seenL (t : Int) (l : List Cl) : List Int := seenF t l 0
theorem seenF_snoc (t : Int) (c : Cl) : ∀ (l : List Cl) (i : Nat), seenF t (l ++ [c]) i = seenF t l i ++ (if belowI c.lb t = true then [((i + l.length : Nat) : Int)] else [])
  | [], i => by
    show (if belowI c.lb t = true then (i : Int) :: seenF t [] (i + 1) else seenF t [] (i + 1)) = _
    split <;> rfl
  | d :: l, i => by
    rw [List.cons_append, seenF, seenF, seenF_snoc t c l (i + 1), List.length_cons, show i + 1 + l.length = i + (l.length + 1) by omega]
    split <;> rfl
theorem seenL_take (t : Int) (l : List Cl) (k : Nat) (h : k < l.length) : seenL t (l.take (k + 1)) = seenL t (l.take k) ++ (if belowI l[k].lb t = true then [(k : Int)] else []) := by
  unfold seenL
  rw [List.take_succ_eq_append_getElem h, seenF_snoc, List.length_take, Nat.zero_add, Nat.min_eq_left (by omega)]
theorem seenF_len (t : Int) : ∀ (l : List Cl) (i : Nat), (seenF t l i).length ≤ l.length
  | [], _ => Nat.le_refl _
  | c :: l, i => by
    have := seenF_len t l (i + 1)
    rw [seenF]
    split <;> simp only [List.length_cons] <;> omega
def seesL (t : Int) (l : List Cl) : List Int := if 8 < l.length then [] else seenL t l
def seesE (l : List Cl) : Int := if 8 < l.length then 6 else 0
theorem infoInt11 : (Tryz.prog.info? 3).map (fun i => (i.zero, i.size, i.bytes)) = some (some (.int .i64 0), 1, 8) := by kernel_rfl
theorem r11atom_any (g : GA) (c : Int) (w : World) :
    Calls Tryz.prog 64 #[.agg (gaC g).toArray, .int .u64 c] w fun e w' => e = .returned (.int .u64 (atR c g.a)) ∧ Below w.heap.size w w' := by
  obtain ⟨⟨kd, bd, bn, cs, nm⟩, sc⟩ := g
  unfold atR
  simp only [gaC]
  have hb := b1 w (.cells #[.int .i64 kd, .bool bd, .int .u64 bn, sc, .string (strOf nm)] 28)
  have HB := Lib.hid hb
  clear hb
  cases bd
  all_goals
    go_enter Tryz.func64, Tryz.ntmps64
    go_wp2
    go_ret
    exact ⟨by simp, HB.out⟩
theorem sees1_any (c : Cl) (t : Int) (b : Nat) (w : World) (hB : Blk w b [.int .u64 t]) :
    Calls Tryz.prog 57 #[.agg (clC c).toArray, .pointer (some ⟨b, 0, none⟩)] w fun e w' => e = .returned (.bool (belowI c.lb t)) ∧ Below w.heap.size w w' := by
  obtain ⟨lb, sz, rt⟩ := c
  simp only [clC]
  have c0 := (hB.alloc (.cells #[.int .u64 lb, .int .i64 sz, .int .i64 rt] 46)).cell 0 _ rfl
  have hb := b1 w (.cells #[.int .u64 lb, .int .i64 sz, .int .i64 rt] 46)
  have HB := Lib.hid hb
  clear hb hB
  go_enter Tryz.func57, Tryz.ntmps57
  go_wp2_with fail
  refine (below_any _ _ _).mono ?_
  rintro e w1 ⟨rfl, rfl⟩
  go_wp2
  go_ret
  exact ⟨rfl, HB.out⟩
/-- A row of numbers of the call's own. -/
def IntsP (w0 : World) (L : List Int) (e : Ending) (w' : World) : Prop := ∃ v, e = .returned v ∧ w'.ownsRow w0.heap.size 3 1 v L.length (vals .i64 L) ∧ Below w0.heap.size w0 w'
def IntsE (w0 : World) (L : List Int) (E : Int) (e : Ending) (w' : World) : Prop := ∃ v, e = .returned (.tuple #[v, .int .i64 E]) ∧ w'.ownsRow w0.heap.size 3 1 v L.length (vals .i64 L) ∧ Below w0.heap.size w0 w'
set_option maxRecDepth 100000 in
set_option maxHeartbeats 8000000 in
theorem numbersOf_any (v : Value) (l : List Cl) (t : Int) (b : Nat) (w : World) (hv : Sl w 3 l.length v (l.flatMap clC)) (hB : Blk w b [.int .u64 t]) (hn : l.length ≤ 1000) :
    Calls Tryz.prog 56 #[v, .func (.func 57) #[] #[.pointer (some ⟨b, 0, none⟩)]] w (IntsP w (seenL t l)) := by
  obtain ⟨A, cap, rfl, hm, hc⟩ := sl_els (by decide) clC_len hv
  obtain ⟨i0, hi0, hz0, hz1, hz2⟩ := info_parts infoInt11
  have HC := Lib.hid hc
  have HB := Lib.hid hB
  clear hc hv hB
  go_enter Tryz.func56, Tryz.ntmps56
  go_wp2
  go_loopg [5, 6, 10] l.length (fun g v d iv wr => ∃ (i n : Nat) (B : Option Addr) (cp : Nat), i ≤ l.length ∧ g = l.length - i ∧ v = .slice B n cp ∧ iv = .int .i64 (i : Int) ∧ Hid (wr.ownsRow w.heap.size 3 1 (.slice B n cp) n (vals .i64 (seenL t (l.take i)))) ∧ Hid (Below w.heap.size w wr) ∧ Hid (n ≤ i) ∧ Hid (n = (seenL t (l.take i)).length))
  case atStart => exact ⟨0, 0, none, 0, Nat.zero_le _, rfl, rfl, rfl, Lib.hid (World.ownsRow_nil _ _ _ _), Lib.hid (Below.refl _ _), Lib.hid (Nat.le_refl _), Lib.hid rfl⟩
  case round =>
    obtain ⟨i, n, B, cp, hi, hg, rfl, rfl, hO, hb, hle, hln⟩ := hrel
    rename World => wr
    by_cases hlt : i < l.length
    · have g1 : (i : Int) < (l.length : Int) := by omega
      have hwk : IntKind.i64.wrap ((i : Int) + 1) = (i : Int) + 1 := IntWalk.i64_in _ ⟨by omega, by omega⟩
      obtain ⟨a, rfl, halt, E1⟩ := HC.out i hlt
      replace E1 := E1.later hb.out
      have hst := seenL_take t l i hlt
      have hq := fun w1 (hb1 : Below wr.heap.size wr w1) => sees1_any l[i] t b w1 ((HB.out.later hb.out).later hb1)
      obtain ⟨x, hx⟩ : ∃ x, x = l[i] := ⟨_, rfl⟩
      rw [← hx] at E1 hst hq
      obtain ⟨q, hqq⟩ : ∃ q, q = belowI x.lb t := ⟨_, rfl⟩
      rw [← hqq] at hst hq
      obtain ⟨lb, sz, rt⟩ := x
      simp only [clC] at E1 hq
      have c0 := E1.at0 _ rfl
      have c1 := E1.at1 1 _ (by decide) rfl
      have c2 := E1.at1 2 _ (by decide) rfl
      have elt := E1.lt
      obtain ⟨M, hM⟩ : ∃ M, M = seenL t (l.take i) := ⟨_, rfl⟩
      rw [← hM] at hO hst hln
      have HQ := Lib.hid hq
      have HI := Lib.hid (And.intro hi hn)
      clear hx hqq hM hq E1 hi
      cases q with
      | false =>
        have HS := Lib.hid (show seenL t (l.take (i + 1)) = M by rw [hst]; simp)
        clear hst
        go_wp2_with fail
        refine (HQ.out _ (b1 _ _)).mono ?_
        rintro r w3 ⟨rfl, hb3⟩
        have HB3 := Lib.hid (bstep (b1 _ _) hb3)
        clear hb3 HQ
        go_wp2
        go_roundg (l.length - (i + 1))
        case rel => exact ⟨i + 1, n, B, cp, by have := HI.out; omega, rfl, rfl, by go_num, Lib.hid (by rw [HS.out]; exact own_later hO.out HB3.out), Lib.hid (bstep hb.out HB3.out), Lib.hid (by have := hle.out; omega), Lib.hid (by rw [HS.out]; exact hln.out)⟩
        case measure => have := HI.out; omega
      | true =>
        have HS := Lib.hid (show seenL t (l.take (i + 1)) = M ++ [(i : Int)] by rw [hst]; simp)
        clear hst
        go_wp2_with fail
        refine (HQ.out _ (b1 _ _)).mono ?_
        rintro r w3 ⟨rfl, hb3⟩
        have hb3' := bstep (b1 wr (.cells #[.int .u64 lb, .int .i64 sz, .int .i64 rt] 46)) hb3
        have hO3 := own_later hO.out hb3'
        have hB3 := bstep hb.out hb3'
        obtain ⟨A3, cp3, w4, hrun, hown, hgrow⟩ := run_append_any (P := Tryz.prog) (w3.alloc (.cells #[.int .i64 (i : Int)] 3)) w.heap.size 42 42 3 i0 (.int .i64 0) 1 8 Tryz.underlying42 hi0 hz0 hz1 hz2 rfl (by decide) _ n (vals .i64 M) (own_later hO3 (b1 _ _)) _ 1 [.int .i64 (i : Int)] (Sl.lit (Blk.is (us := [.int .i64 (i : Int)]) 3 rfl) 1 1 rfl (by decide)) (fun u hu => by rw [List.mem_singleton.1 hu]; rfl) (by have := HI.out; have := hle.out; unfold maxLen; omega) (by have := HI.out; have := hle.out; omega) (bstep hB3 (b1 _ _)).size (n + 1) (vals .i64 (M ++ [(i : Int)])) rfl (by rw [vals_snoc])
        have HOW := Lib.hid hown
        have HBW := Lib.hid ((bstep hB3 (b1 _ _)).grown hgrow (bstep hB3 (b1 _ _)).size (fun j e => (hO3.lt j e).1))
        have HLN := Lib.hid hln.out
        have HLE := Lib.hid hle.out
        clear hown hgrow hO hb hb3 hb3' hO3 hB3 c0 c1 c2 HQ hln hle
        go_wp2_with (at_builtin; refine wpList_append_run rfl _ _ _ rfl rfl rfl hrun ?_)
        go_roundg (l.length - (i + 1))
        case rel => exact ⟨i + 1, n + 1, A3, cp3, by have := HI.out; omega, rfl, rfl, by go_num, Lib.hid (by rw [HS.out]; exact HOW.out), HBW, Lib.hid (by have := HLE.out; omega), Lib.hid (by rw [HS.out, List.length_append, ← HLN.out]; rfl)⟩
        case measure => have := HI.out; omega
    · have g1 : ¬ (i : Int) < (l.length : Int) := by omega
      have hO2 : wr.ownsRow w.heap.size 3 1 (.slice B n cp) (seenL t l).length (vals .i64 (seenL t l)) := by
        have h1 := hO.out
        have h2 := hln.out
        rw [List.take_of_length_le (by omega)] at h1 h2
        rw [← h2]
        exact h1
      have HO2 := Lib.hid hO2
      clear hO2 hO hln hle
      go_wp2
      go_ret
      exact ⟨_, rfl, HO2.out, hb.out⟩
set_option maxRecDepth 100000 in
set_option maxHeartbeats 4000000 in
theorem sees_any (v : Value) (l : List Cl) (t : Int) (w : World) (hv : Sl w 3 l.length v (l.flatMap clC)) :
    Calls Tryz.prog 14 #[v, .int .u64 t] w (IntsE w (seesL t l) (seesE l)) := by
  have hN := fun (hn : l.length ≤ 1000) w1 (hb : Below w.heap.size w w1) (b : Nat) (hB : Blk w1 b [.int .u64 t]) => numbersOf_any v l t b w1 (hv.later hb) hB hn
  unfold seesL seesE
  obtain ⟨A, cap, rfl, hm, -⟩ := sl_els (by decide) clC_len hv
  obtain ⟨W1, hW1⟩ : ∃ W1, W1 = w.alloc (.cells #[.int .u64 t] 22) := ⟨_, rfl⟩
  have hK : Blk W1 w.heap.size [.int .u64 t] := by rw [hW1]; exact Blk.new w [.int .u64 t] 22
  have hb1 : Below w.heap.size w W1 := by rw [hW1]; exact b1 _ _
  have HN := Lib.hid hN
  have HK := Lib.hid hK
  have HB := Lib.hid hb1
  clear hN hv hK hb1
  by_cases h8 : 8 < l.length
  · have h8' : (8 : Int) < (l.length : Int) := by omega
    rw [if_pos h8, if_pos h8]
    have HNW := Lib.hid hW1
    go_enter Tryz.func14, Tryz.ntmps14
    clear hW1
    go_wp2
    go_ret2
    exact ⟨_, rfl, World.ownsRow_nil _ _ _ _, by rw [← HNW.out]; exact HB.out⟩
  · have h8' : ¬ (8 : Int) < (l.length : Int) := by omega
    rw [if_neg h8, if_neg h8]
    have HNW := Lib.hid hW1
    have hNum := HN.out (by omega) W1 HB.out w.heap.size HK.out
    go_enter Tryz.func14, Tryz.ntmps14
    clear hW1 HN
    go_wp2_with fail
    rw [← HNW.out]
    clear HNW
    refine hNum.mono ?_
    rintro e w2 ⟨v2, rfl, ho, hb2⟩
    obtain ⟨A2, c2, rfl⟩ := own_form ho
    have HO := Lib.hid (own_mono ho HB.out.size)
    have HB2 := Lib.hid (bstep HB.out hb2)
    clear ho hb2 hNum
    go_wp2
    go_ret2
    exact ⟨_, rfl, HO.out, HB2.out⟩
end Go.Proofs.YtdoioaeppepndaaGreatDoor
namespace Go.Proofs.YtdoioaeppepndaaGreatDoor
open Go.RowKit Go.Shelf
open A8 Tk7 W10 Lb F11

theorem drewB11 {X Y : World} (h : Below X.drew.heap.size X.drew Y) : Below X.heap.size X Y := ⟨h.os, h.tape, h.output, h.size, h.block⟩
theorem belD11 {n : Nat} {w X : World} (h : Below n w X) : Below n w X.drew := ⟨h.os, h.tape, h.output, h.size, h.block⟩
set_option maxRecDepth 100000 in
set_option maxHeartbeats 4000000 in
theorem reads1_any (g : GA) (l c : Int) (bl bc : Nat) (w : World) (hl : Blk w bl [.int .u64 l]) (hc : Blk w bc [.int .u64 c]) :
    Calls Tryz.prog 60 #[.agg (gaC g).toArray, .pointer (some ⟨bl, 0, none⟩), .pointer (some ⟨bc, 0, none⟩)] w fun e w' => e = .returned (.bool (meetB l c g.a)) ∧ Below w.heap.size w w' := by
  have hA := fun w1 => atom_any g c w1
  unfold meetB
  obtain ⟨R, hR⟩ : ∃ R, R = atR c g.a := ⟨_, rfl⟩
  rw [← hR] at hA ⊢
  clear hR
  obtain ⟨⟨kd, bd, bn, cs, nm⟩, sc⟩ := g
  simp only [gaC] at hA ⊢
  have HA := Lib.hid hA
  clear hA
  obtain ⟨W1, hW1⟩ : ∃ W1, W1 = w.alloc (.cells #[.int .i64 kd, .bool bd, .int .u64 bn, sc, .string (strOf nm)] 28) := ⟨_, rfl⟩
  have hK : Blk W1 w.heap.size [.int .i64 kd, .bool bd, .int .u64 bn, sc, .string (strOf nm)] := by rw [hW1]; exact Blk.new w [.int .i64 kd, .bool bd, .int .u64 bn, sc, .string (strOf nm)] 28
  have hb1 : Below w.heap.size w W1 := by rw [hW1]; exact b1 _ _
  have x0 := hK.cell 0 _ rfl
  have x1 := hK.cell 1 _ rfl
  have x2 := hK.cell 2 _ rfl
  have x3 := hK.cell 3 _ rfl
  have x4 := hK.cell 4 _ rfl
  have hl1 := (hl.later hb1).cell 0 _ rfl
  have hc1 := (hc.later hb1).cell 0 _ rfl
  have hl2 := fun w2 (hb : Below W1.heap.size W1 w2) => ((hl.later hb1).later hb).cell 0 _ rfl
  have hc2 := fun w2 (hb : Below W1.heap.size W1 w2) => ((hc.later hb1).later hb).cell 0 _ rfl
  have HB := Lib.hid hb1
  have HL := Lib.hid (And.intro hl2 hc2)
  have HK := Lib.hid hK
  clear hK hb1 hl hc hl2 hc2
  go_enter Tryz.func60, Tryz.ntmps60
  go_wp2_with fail
  rw [← hW1]
  clear hW1
  go_region_held3 (fun w' => w'.cell? ⟨w.heap.size, 0, none⟩ = some (.int .i64 kd) ∧ w'.cell? ⟨w.heap.size, 1, none⟩ = some (.bool bd) ∧ w'.cell? ⟨w.heap.size, 2, none⟩ = some (.int .u64 bn) ∧ w'.cell? ⟨w.heap.size, 3, none⟩ = some sc ∧ w'.cell? ⟨w.heap.size, 4, none⟩ = some (.string (strOf nm)) ∧ w'.cell? ⟨bl, 0, none⟩ = some (.int .u64 l) ∧ w'.cell? ⟨bc, 0, none⟩ = some (.int .u64 c) ∧ Below w.heap.size w w') (first | exact ⟨x0, x1, x2, x3, x4, hl1, hc1, HB.out⟩ | exact ⟨x0, x1, x2, x3, x4, hl1, hc1, belD11 HB.out⟩ | exact ⟨a0, a1, a2, a3, a4, al, ac, ab⟩ | go_keep)
    (first | (go_at_call 55; (with_reducible refine (HA.out _).mono ?_); rintro e wa ⟨rfl, hba⟩; have ga : Below W1.heap.size W1 wa := (by first | exact hba | exact drewB11 hba | exact drewB11 (drewB11 hba)); have a0 := (HK.out.later ga).cell 0 _ rfl; have a1 := (HK.out.later ga).cell 1 _ rfl; have a2 := (HK.out.later ga).cell 2 _ rfl; have a3 := (HK.out.later ga).cell 3 _ rfl; have a4 := (HK.out.later ga).cell 4 _ rfl; have al := HL.out.1 wa ga; have ac := HL.out.2 wa ga; have ab := bstep HB.out ga; clear hba ga) | (go_at_call 58; (with_reducible refine (below_any _ _ _).mono ?_); rintro e wb ⟨rfl, rfl⟩))
  go_wp2
  go_ret
  exact ⟨rfl, by first | assumption | (simp [*])⟩
set_option maxRecDepth 100000 in
set_option maxHeartbeats 4000000 in
theorem indexOfReads_any (v : Value) (l : List GA) (y c : Int) (bl bc : Nat) (w : World) (hv : Sl w 5 l.length v (l.flatMap gaC)) (hl : Blk w bl [.int .u64 y]) (hc2 : Blk w bc [.int .u64 c]) :
    Calls Tryz.prog 93 #[v, .func (.func 60) #[] #[.pointer (some ⟨bl, 0, none⟩), .pointer (some ⟨bc, 0, none⟩)]] w fun e w' => ∃ j : Int, e = .returned (.int .i64 j) ∧ decide (0 ≤ j) = (l.any fun g => meetB y c g.a) ∧ Below w.heap.size w w' := by
  obtain ⟨A, cap, rfl, hm, hc⟩ := sl_els (by decide) gaC_len hv
  have HC := Lib.hid hc
  have Hhl := Lib.hid hl
  have Hhc2 := Lib.hid hc2
  clear hc hv hl hc2
  go_enter Tryz.func93, Tryz.ntmps93
  go_wp2
  go_loopg [5, 8] l.length (fun g tv iv wr => ∃ k : Nat, k ≤ l.length ∧ g = l.length - k ∧ iv = .int .i64 (k : Int) ∧ Hid (Below w.heap.size w wr) ∧ Hid ((l.any fun g => meetB y c g.a) = ((l.drop k).any fun g => meetB y c g.a)))
  case atStart => exact ⟨0, Nat.zero_le _, rfl, rfl, Lib.hid (Below.refl _ _), Lib.hid rfl⟩
  case round =>
    obtain ⟨k, hk, hg, rfl, hb, hS⟩ := hrel
    by_cases hlt : k < l.length
    · obtain ⟨a, rfl, ha, E⟩ := HC.out k hlt
      have hst : ((l.drop k).any fun g => meetB y c g.a) = ((fun g : GA => meetB y c g.a) l[k] || ((l.drop (k + 1)).any fun g => meetB y c g.a)) := by
        rw [List.drop_eq_getElem_cons hlt, List.any_cons]
      rw [hst] at hS
      have hq := fun w1 hhl hhc2 => reads1_any l[k] y c bl bc w1 hhl hhc2
      obtain ⟨x, hx⟩ : ∃ x, x = l[k] := ⟨_, rfl⟩
      rw [← hx] at E hS hq
      obtain ⟨q, hqq⟩ : ∃ q, q = (fun g : GA => meetB y c g.a) x := ⟨_, rfl⟩
      rw [← hqq] at hS
      simp only at hqq
      rw [← hqq] at hq
      replace E := E.same (SameB.of hb.out)
      have hlr := Hhl.out.later hb.out
      have hc2r := Hhc2.out.later hb.out
      clear hx hqq hst HC
      have c0 := E.at0 _ rfl
      have c1 := E.at1 1 _ (by decide) rfl
      have c2 := E.at1 2 _ (by decide) rfl
      have c3 := E.at1 3 _ (by decide) rfl
      have c4 := E.at1 4 _ (by decide) rfl
      simp only [gaC] at hq
      have h1 : (k : Int) < (l.length : Int) := by omega
      have hwk : IntKind.i64.wrap ((k : Int) + 1) = (k : Int) + 1 := IntWalk.i64_in _ ⟨by omega, by omega⟩
      clear E
      cases q with
      | false =>
        have HS2 := Lib.hid (show (l.any fun g => meetB y c g.a) = ((l.drop (k + 1)).any fun g => meetB y c g.a) by rw [hS.out, Bool.false_or])
        clear hS
        go_wp2_with (go_at_call 60; refine (hq _ hlr hc2r).mono ?_; rintro e w2 ⟨rfl, hb2⟩)
        go_roundg (l.length - (k + 1))
        case rel => exact ⟨k + 1, by omega, rfl, by go_num, Lib.hid (bstep hb.out hb2), HS2⟩
        case measure => omega
      | true =>
        have HS2 := Lib.hid (show decide (0 ≤ (k : Int)) = (l.any fun g => meetB y c g.a) by rw [hS.out, Bool.true_or, decide_eq_true_iff]; omega)
        clear hS
        go_wp2_with (go_at_call 60; refine (hq _ hlr hc2r).mono ?_; rintro e w2 ⟨rfl, hb2⟩)
        go_ret
        exact ⟨_, rfl, HS2.out, bstep hb.out hb2⟩
    · have e1 := Lib.hid (show decide (0 ≤ (-1 : Int)) = (l.any fun g => meetB y c g.a) by rw [hS.out, List.drop_eq_nil_of_le (by omega)]; rfl)
      have hi : ¬ (k : Int) < (l.length : Int) := by omega
      clear HC hS
      go_wp2
      go_ret
      exact ⟨_, rfl, e1.out, hb.out⟩
set_option maxRecDepth 100000 in
set_option maxHeartbeats 2000000 in
theorem containsReads_any (v : Value) (l : List GA) (y c : Int) (bl bc : Nat) (w : World) (hv : Sl w 5 l.length v (l.flatMap gaC)) (hl : Blk w bl [.int .u64 y]) (hc2 : Blk w bc [.int .u64 c]) :
    Calls Tryz.prog 47 #[v, .func (.func 60) #[] #[.pointer (some ⟨bl, 0, none⟩), .pointer (some ⟨bc, 0, none⟩)]] w fun e w' => e = .returned (.bool (l.any fun g => meetB y c g.a)) ∧ Below w.heap.size w w' := by
  have hq := indexOfReads_any v l y c bl bc w hv hl hc2
  obtain ⟨A, cap, rfl, hm, -⟩ := sl_els (by decide) gaC_len hv
  clear hv hl hc2
  obtain ⟨q, hqq⟩ : ∃ q, q = (l.any fun g => meetB y c g.a) := ⟨_, rfl⟩
  rw [← hqq] at hq ⊢
  clear hqq
  go_enter Tryz.func47, Tryz.ntmps47
  go_wp2_with (go_at_call 93; refine hq.mono ?_; rintro e w2 ⟨j, rfl, hj, hb2⟩)
  go_ret
  exact ⟨rfl, hb2⟩
set_option maxRecDepth 100000 in
set_option maxHeartbeats 8000000 in
theorem flreads_any (q : GQ) (l c : Int) (w : World) (hq : FlG w q) (hG : SG w) :
    Calls Tryz.prog 17 #[.agg q.row.toArray, .int .u64 l, .int .u64 c] w fun e w' => e = .returned (.tuple #[.bool (flS q.qu l c), .int .i64 (wfE q.qu)]) ∧ Below w.heap.size w w' := by
  have hA := fun w1 (hb : Below w.heap.size w w1) => atomsOf_any q w1 (hq.later hb) (hG.later hb)
  have hF : ∀ gs : List GA, gs.map (fun g => g.a) = atsQ q.qu → (gs.any fun g => meetB l c g.a) = flS q.qu l c := fun gs h => any_atoms h (meetB l c)
  obtain ⟨L, hL⟩ : ∃ L, L = atsQ q.qu := ⟨_, rfl⟩
  obtain ⟨E, hE⟩ : ∃ E, E = wfE q.qu := ⟨_, rfl⟩
  obtain ⟨X, hX⟩ : ∃ X, X = flS q.qu l c := ⟨_, rfl⟩
  rw [← hX, ← hE]
  rw [← hX, ← hL] at hF
  rw [← hL, ← hE] at hA
  clear hL hE hX hq hG
  obtain ⟨T, wi, sh, hv, se, em⟩ := q
  obtain ⟨k, mn, mx, ⟨⟨kd, bd, bn, cs, nm⟩, sc⟩, sk, ks⟩ := T
  simp only [GQ.row, Tr.row, List.cons_append, List.nil_append] at hA ⊢
  have HA := Lib.hid hA
  have HF := Lib.hid hF
  clear hA hF
  go_enter Tryz.func17, Tryz.ntmps17
  go_upto_region 1 with fail
  refine named_wp ?_
  intro W1 hW1
  have hQ1 : Blk W1 w.heap.size [.int .i64 k, .int .i64 mn, .int .i64 mx, .int .i64 kd, .bool bd, .int .u64 bn, sc, .string (strOf nm), sk, .int .u64 wi, sh, se] := by rw [hW1]; exact ((Blk.new w [.int .i64 k, .int .i64 mn, .int .i64 mx, .int .i64 kd, .bool bd, .int .u64 bn, sc, .string (strOf nm), sk, .int .u64 wi, sh, se] 35).alloc _).alloc _
  have hL1 : Blk W1 (w.heap.size + 1) [.int .u64 l] := by rw [hW1]; exact (Blk.is (us := [.int .u64 l]) 22 (by simp)).alloc _
  have hC1 : Blk W1 (w.heap.size + 1 + 1) [.int .u64 c] := by rw [hW1]; exact Blk.is (us := [.int .u64 c]) 22 (by simp)
  have hb1 : Below w.heap.size w W1 := by rw [hW1]; exact b3 w _ _ _
  clear hW1
  obtain ⟨d, hde⟩ : ∃ d, d = w.heap.size + 1 + 1 := ⟨_, rfl⟩
  rw [← hde]
  rw [← hde] at hC1
  clear hde
  have x0 := hQ1.cell 0 _ rfl
  have x1 := hQ1.cell 1 _ rfl
  have x2 := hQ1.cell 2 _ rfl
  have x3 := hQ1.cell 3 _ rfl
  have x4 := hQ1.cell 4 _ rfl
  have x5 := hQ1.cell 5 _ rfl
  have x6 := hQ1.cell 6 _ rfl
  have x7 := hQ1.cell 7 _ rfl
  have x8 := hQ1.cell 8 _ rfl
  have x9 := hQ1.cell 9 _ rfl
  have x10 := hQ1.cell 10 _ rfl
  have x11 := hQ1.cell 11 _ rfl
  have HL1 := Lib.hid hL1
  have HC1 := Lib.hid hC1
  have HB1 := Lib.hid hb1
  clear hQ1 hL1 hC1 hb1
  go_wp2_with fail
  refine (HA.out _ HB1.out).mono ?_
  rintro e w2 ⟨gs, A, cp, hl, rfl, ha, hb2⟩
  clear x0 x1 x2 x3 x4 x5 x6 x7 x8 x9 x10 x11
  have hC := containsReads_any _ gs l c (w.heap.size + 1) d w2 ha.1 (HL1.out.later hb2) (HC1.out.later hb2)
  rw [HF.out gs hl] at hC
  have HB := Lib.hid (bstep HB1.out hb2)
  clear hl ha hb2 HA HF HL1 HC1
  go_wp2_with fail
  refine hC.mono ?_
  rintro e w3 ⟨rfl, hb3⟩
  have HB3 := Lib.hid (bstep HB.out hb3)
  clear hb3 hC
  go_wp2
  go_ret2
  exact ⟨rfl, HB3.out⟩
end Go.Proofs.YtdoioaeppepndaaGreatDoor
namespace Go.Proofs.YtdoioaeppepndaaGreatDoor
open Go.RowKit Go.Shelf
open A8 Tk7 P9 W10 Lb F11 Kq
attribute [local go_sem] Oper.semAt_some

theorem f_least : flR fstQ 0 = 3 := by decide +kernel
theorem f_open : flO fstQ = true := by decide +kernel
theorem s_open : flO sndQ = false := by decide +kernel
theorem f_check : flC fstQ 3 = 0 := by decide +kernel
theorem s_check : flC sndQ 7 = 0 := by decide +kernel
theorem s_reads0 : flS sndQ 0 3 = true := by decide +kernel
theorem s_reads2 : flS sndQ 2 3 = true := by decide +kernel
theorem s_reads3 : flS sndQ 3 3 = false := by decide +kernel
theorem f_reads3 : flS fstQ 3 3 = true := by decide +kernel
def badQ : Qu := ⟨fstQ.p, 10001, [], []⟩
theorem bad_check : flC badQ 3 = 2 := by decide +kernel
def wantT : List Tr := [lfX 1 1 1 0 true 1, lfX 2 0 0 1 true 2, lfX 1 1 1 2 true 3]
def wantQ : Qu := ⟨kdN11 3 [lfN11 1 1 1 0 true 1, lfN11 2 0 0 1 true 2, lfN11 1 1 1 2 true 3], 5, [], []⟩
theorem want_res : resQ 3 fstQ = wantQ := by unfold resQ fstQ wantQ kdN11 lfN11; simp [resN_mk, resA, atR]
theorem want_qu (b : Nat) : (gQ b wantT).qu = wantQ := by unfold gQ GQ.qu wantT wantQ; simp only [kdX_nd, List.map, lfX_nd]
theorem want_fl {w : World} {b : Nat} (h : Blk w b (wantT.flatMap Tr.row)) : FlG w (gQ b wantT) := gQ_fl h (by decide) fun t ht => by
  unfold wantT at ht
  simp only [List.mem_cons, List.not_mem_nil, or_false] at ht
  rcases ht with rfl | rfl | rfl <;> exact lfX_ok (lfX_tr _ _ _ _ _ _ _ (by unfold okV; omega) (by unfold okV; omega) (by unfold okV; omega) (by unfold okV; omega) (by omega))
theorem seen4 : seesL 1 [⟨0, 0, 0⟩, ⟨1, 0, 0⟩, ⟨3, 0, 0⟩, ⟨4, 0, 0⟩] = [0, 1] := by decide +kernel
def gB (b : Nat) : GQ := ⟨kdX 3 (.slice (some ⟨b, 0, none⟩) 3 3) firstT, 10001, .slice none 0 0, [], .slice none 0 0, []⟩
theorem gB_qu (b : Nat) : (gB b).qu = badQ := by unfold gB GQ.qu badQ fstQ firstT; simp only [kdX_nd, List.map, lfX_nd]
theorem gB_fl {w : World} {b : Nat} (h : Blk w b (firstT.flatMap Tr.row)) : FlG w (gB b) := by
  have h1 := first_fl h
  exact ⟨⟨h1.qw.tr, (by show (0 : Int) ≤ 10001 ∧ (10001 : Int) < _; omega), Sl.nil _ _, Sl.nil _ _, (fun x hx => by cases hx), fun x hx => by cases hx⟩, h1.len, (fun s hs => by cases hs), h1.cs⟩
theorem kLeast (b : Nat) (w : World) (hK : Blk w b (firstT.flatMap Tr.row)) (hG : SG w) : Calls Tryz.prog 8 #[.agg (rowQ b 3)] w fun e w' => e = .returned (.tuple #[.int .u64 3, .int .i64 0]) ∧ Below w.heap.size w w' := by
  have h1 := least_any (gQ b firstT)  w (first_fl hK) hG
  rw [first_qu, f_least, first_wf, gQ_row] at h1
  exact h1
theorem kOpenF (b : Nat) (w : World) (hK : Blk w b (firstT.flatMap Tr.row)) (hG : SG w) : Calls Tryz.prog 10 #[.agg (rowQ b 3)] w fun e w' => e = .returned (.tuple #[.bool true, .int .i64 0]) ∧ Below w.heap.size w w' := by
  have h1 := open_any (gQ b firstT)  w (first_fl hK) hG
  rw [first_qu, f_open, first_wf, gQ_row] at h1
  exact h1
theorem kOpenS (b : Nat) (w : World) (hK : Blk w b (secondT.flatMap Tr.row)) (hG : SG w) : Calls Tryz.prog 10 #[.agg (rowQ b 2)] w fun e w' => e = .returned (.tuple #[.bool false, .int .i64 0]) ∧ Below w.heap.size w w' := by
  have h1 := open_any (gQ b secondT)  w (second_fl hK) hG
  rw [second_qu, s_open, second_wf, gQ_row] at h1
  exact h1
theorem kChF (b : Nat) (w : World) (hK : Blk w b (firstT.flatMap Tr.row)) (hG : SG w) : Calls Tryz.prog 12 #[.agg (rowQ b 3), .int .u64 3] w fun e w' => e = .returned (.int .i64 0) ∧ Below w.heap.size w w' := by
  have h1 := flcheck_any (gQ b firstT) 3 w (first_fl hK) hG
  rw [first_qu, f_check, gQ_row] at h1
  exact h1
theorem kChS (b : Nat) (w : World) (hK : Blk w b (secondT.flatMap Tr.row)) (hG : SG w) : Calls Tryz.prog 12 #[.agg (rowQ b 2), .int .u64 7] w fun e w' => e = .returned (.int .i64 0) ∧ Below w.heap.size w w' := by
  have h1 := flcheck_any (gQ b secondT) 7 w (second_fl hK) hG
  rw [second_qu, s_check, gQ_row] at h1
  exact h1
theorem kRd0 (b : Nat) (w : World) (hK : Blk w b (secondT.flatMap Tr.row)) (hG : SG w) : Calls Tryz.prog 17 #[.agg (rowQ b 2), .int .u64 0, .int .u64 3] w fun e w' => e = .returned (.tuple #[.bool true, .int .i64 0]) ∧ Below w.heap.size w w' := by
  have h1 := flreads_any (gQ b secondT) 0 3 w (second_fl hK) hG
  rw [second_qu, s_reads0, second_wf, gQ_row] at h1
  exact h1
theorem kRd2 (b : Nat) (w : World) (hK : Blk w b (secondT.flatMap Tr.row)) (hG : SG w) : Calls Tryz.prog 17 #[.agg (rowQ b 2), .int .u64 2, .int .u64 3] w fun e w' => e = .returned (.tuple #[.bool true, .int .i64 0]) ∧ Below w.heap.size w w' := by
  have h1 := flreads_any (gQ b secondT) 2 3 w (second_fl hK) hG
  rw [second_qu, s_reads2, second_wf, gQ_row] at h1
  exact h1
theorem kRd3 (b : Nat) (w : World) (hK : Blk w b (secondT.flatMap Tr.row)) (hG : SG w) : Calls Tryz.prog 17 #[.agg (rowQ b 2), .int .u64 3, .int .u64 3] w fun e w' => e = .returned (.tuple #[.bool false, .int .i64 0]) ∧ Below w.heap.size w w' := by
  have h1 := flreads_any (gQ b secondT) 3 3 w (second_fl hK) hG
  rw [second_qu, s_reads3, second_wf, gQ_row] at h1
  exact h1
theorem kRdF (b : Nat) (w : World) (hK : Blk w b (firstT.flatMap Tr.row)) (hG : SG w) : Calls Tryz.prog 17 #[.agg (rowQ b 3), .int .u64 3, .int .u64 3] w fun e w' => e = .returned (.tuple #[.bool true, .int .i64 0]) ∧ Below w.heap.size w w' := by
  have h1 := flreads_any (gQ b firstT) 3 3 w (first_fl hK) hG
  rw [first_qu, f_reads3, first_wf, gQ_row] at h1
  exact h1
theorem kBad (b : Nat) (w : World) (hK : Blk w b (firstT.flatMap Tr.row)) (hG : SG w) : Calls Tryz.prog 12 #[.agg (gB b).row.toArray, .int .u64 3] w fun e w' => e = .returned (.int .i64 2) ∧ Below w.heap.size w w' := by
  have h1 := flcheck_any (gB b) 3 w (gB_fl hK) hG
  rw [gB_qu, bad_check] at h1
  exact h1
theorem kRes (b : Nat) (w : World) (hK : Blk w b (firstT.flatMap Tr.row)) (hG : SG w) : Calls Tryz.prog 13 #[.agg (rowQ b 3), .int .u64 3] w (OutR w wantQ 0) := by
  have h1 := restrict_any (gQ b firstT) 3 w (first_fl hK) hG (by omega) (by show (0 : Nat) ≤ _; omega) (by show (0 : Nat) ≤ _; omega)
  have h2 : resE 3 fstQ = wantQ := by unfold resE; rw [if_pos first_wf, want_res]
  rw [first_qu, first_wf, gQ_row, h2] at h1
  exact h1
theorem kSees4 (w : World) : Calls Tryz.prog 14 #[.slice (some ⟨w.heap.size, 0, none⟩) 4 4, .int .u64 1] (w.alloc (.cells #[.int .u64 0, .int .i64 0, .int .i64 0, .int .u64 1, .int .i64 0, .int .i64 0, .int .u64 3, .int .i64 0, .int .i64 0, .int .u64 4, .int .i64 0, .int .i64 0] 46)) fun e w' => ∃ A c, e = .returned (.tuple #[.slice A 2 c, .int .i64 0]) ∧ Slc w' (.slice A 2 c) (vals .i64 [0, 1]) ∧ Below w.heap.size w w' := by
  have h0 := Blk.new w [.int .u64 0, .int .i64 0, .int .i64 0, .int .u64 1, .int .i64 0, .int .i64 0, .int .u64 3, .int .i64 0, .int .i64 0, .int .u64 4, .int .i64 0, .int .i64 0] 46
  have h1 := sees_any _ [⟨0, 0, 0⟩, ⟨1, 0, 0⟩, ⟨3, 0, 0⟩, ⟨4, 0, 0⟩] 1 _ (sl_freshF (n := 4) (sz := 3) h0 rfl (by omega))
  rw [seen4] at h1
  refine h1.mono fun e w' hh => ?_
  obtain ⟨v, he, ho, hb⟩ := hh
  obtain ⟨A, c, rfl⟩ := own_form ho
  exact ⟨A, c, he, Slc.of_own ho, bstep (b1 _ _) hb⟩
theorem kMake (w : World) : (Instr.makeSlice 47 (.int .i64 9) (.int .i64 9)).run Tryz.prog w = .ok (.slice (some ⟨w.heap.size, 0, none⟩) 9 9) (w.alloc (.cells #[.int .u64 0, .int .i64 0, .int .i64 0, .int .u64 0, .int .i64 0, .int .i64 0, .int .u64 0, .int .i64 0, .int .i64 0, .int .u64 0, .int .i64 0, .int .i64 0, .int .u64 0, .int .i64 0, .int .i64 0, .int .u64 0, .int .i64 0, .int .i64 0, .int .u64 0, .int .i64 0, .int .i64 0, .int .u64 0, .int .i64 0, .int .i64 0, .int .u64 0, .int .i64 0, .int .i64 0] 46)) := by kernel_rfl
theorem kSees9 (w : World) : Calls Tryz.prog 14 #[.slice (some ⟨w.heap.size, 0, none⟩) 9 9, .int .u64 0] (w.alloc (.cells #[.int .u64 0, .int .i64 0, .int .i64 0, .int .u64 0, .int .i64 0, .int .i64 0, .int .u64 0, .int .i64 0, .int .i64 0, .int .u64 0, .int .i64 0, .int .i64 0, .int .u64 0, .int .i64 0, .int .i64 0, .int .u64 0, .int .i64 0, .int .i64 0, .int .u64 0, .int .i64 0, .int .i64 0, .int .u64 0, .int .i64 0, .int .i64 0, .int .u64 0, .int .i64 0, .int .i64 0] 46)) fun e w' => ∃ A n c, e = .returned (.tuple #[.slice A n c, .int .i64 6]) ∧ Below w.heap.size w w' := by
  have h0 := Blk.new w [.int .u64 0, .int .i64 0, .int .i64 0, .int .u64 0, .int .i64 0, .int .i64 0, .int .u64 0, .int .i64 0, .int .i64 0, .int .u64 0, .int .i64 0, .int .i64 0, .int .u64 0, .int .i64 0, .int .i64 0, .int .u64 0, .int .i64 0, .int .i64 0, .int .u64 0, .int .i64 0, .int .i64 0, .int .u64 0, .int .i64 0, .int .i64 0, .int .u64 0, .int .i64 0, .int .i64 0] 46
  have h1 := sees_any _ [⟨0, 0, 0⟩, ⟨0, 0, 0⟩, ⟨0, 0, 0⟩, ⟨0, 0, 0⟩, ⟨0, 0, 0⟩, ⟨0, 0, 0⟩, ⟨0, 0, 0⟩, ⟨0, 0, 0⟩, ⟨0, 0, 0⟩] 0 _ (sl_freshF (n := 9) (sz := 3) h0 rfl (by omega))
  refine h1.mono fun e w' hh => ?_
  obtain ⟨v, he, ho, hb⟩ := hh
  obtain ⟨A, c, rfl⟩ := own_form ho
  exact ⟨A, _, c, he, bstep (b1 _ _) hb⟩
theorem kSame (X : GQ) (Rw : Array Value) (b : Nat) (w : World) (hX : X.qu = wantQ) (hXW : QW w X) (hr : X.row.toArray = Rw) (hK : Blk w b (wantT.flatMap Tr.row)) : Calls Tryz.prog 15 #[.agg Rw, .agg #[.int .i64 3, .int .i64 0, .int .i64 0, .int .i64 0, .bool false, .int .u64 0, .slice none 0 0, .string ⟨#[]⟩, .slice (some ⟨b, 0, none⟩) 3 3, .int .u64 5, .slice none 0 0, .slice none 0 0]] w fun e w' => e = .returned (.bool true) ∧ Below w.heap.size w w' := by
  have h1 := ksameq_any X (gQ b wantT) w hXW (want_fl hK).qw
  rw [hX, want_qu, sameQ_refl, hr] at h1
  exact h1
theorem kInts (A : Option Addr) (c : Nat) (w : World) (h : Slc w (.slice A 2 c) (vals .i64 [0, 1])) : Calls Tryz.prog 16 #[.slice A 2 c, .slice (some ⟨w.heap.size, 0, none⟩) 2 2] (w.alloc (.cells #[.int .i64 0, .int .i64 1] 3)) fun e w' => e = .returned (.bool true) ∧ Below w.heap.size w w' := by
  have h0 := Slc.lit w (vals .i64 [0, 1]) 3 2 rfl (by omega)
  refine (sameInts_any _ _ [0, 1] [0, 1] _ (h.alloc _) h0).mono fun e w' hh => ?_
  obtain ⟨he, n, hn⟩ := hh
  exact ⟨he, hn ▸ below_drewN (b1 _ _) n⟩
set_option maxRecDepth 100000 in
set_option maxHeartbeats 32000000 in
theorem flknown_any (w : World) (hG : SG w) : Calls Tryz.prog 3 #[] w fun e w' => e = .returned (.bool true) ∧ Below w.heap.size w w' := by
  have HG := Lib.hid hG
  clear hG
  go_enter Tryz.func3, Tryz.ntmps3
  go_wp2_with fail
  refine (first_any w).mono ?_
  rintro e w1 ⟨p1, -, rfl, Kp1, h1⟩
  have HB1 := Lib.hid (bstep (Below.refl w.heap.size w) h1)
  have HKp1 := Lib.hid Kp1
  clear h1 Kp1
  go_wp2_with fail
  refine (kLeast p1 w1 HKp1.out (HG.out.later HB1.out)).mono ?_
  rintro e w2 ⟨rfl, h2⟩
  have HB2 := Lib.hid (bstep HB1.out h2)
  clear h2 HKp1
  go_wp2_with fail
  refine (first_any w2).mono ?_
  rintro e w3 ⟨p3, -, rfl, Kp3, h3⟩
  have HB3 := Lib.hid (bstep HB2.out h3)
  have HKp3 := Lib.hid Kp3
  clear h3 Kp3
  go_wp2_with fail
  refine (kOpenF p3 w3 HKp3.out (HG.out.later HB3.out)).mono ?_
  rintro e w4 ⟨rfl, h4⟩
  have HB4 := Lib.hid (bstep HB3.out h4)
  clear h4 HKp3
  go_wp2_with fail
  refine (second_any w4).mono ?_
  rintro e w5 ⟨p5, -, rfl, Kp5, h5⟩
  have HB5 := Lib.hid (bstep HB4.out h5)
  have HKp5 := Lib.hid Kp5
  clear h5 Kp5
  go_wp2_with fail
  refine (kOpenS p5 w5 HKp5.out (HG.out.later HB5.out)).mono ?_
  rintro e w6 ⟨rfl, h6⟩
  have HB6 := Lib.hid (bstep HB5.out h6)
  clear h6 HKp5
  go_wp2_with fail
  refine (first_any w6).mono ?_
  rintro e w7 ⟨p7, -, rfl, Kp7, h7⟩
  have HB7 := Lib.hid (bstep HB6.out h7)
  have HKp7 := Lib.hid Kp7
  clear h7 Kp7
  go_wp2_with fail
  refine (kChF p7 w7 HKp7.out (HG.out.later HB7.out)).mono ?_
  rintro e w8 ⟨rfl, h8⟩
  have HB8 := Lib.hid (bstep HB7.out h8)
  clear h8 HKp7
  go_wp2_with fail
  refine (second_any w8).mono ?_
  rintro e w9 ⟨p9, -, rfl, Kp9, h9⟩
  have HB9 := Lib.hid (bstep HB8.out h9)
  have HKp9 := Lib.hid Kp9
  clear h9 Kp9
  go_wp2_with fail
  refine (kChS p9 w9 HKp9.out (HG.out.later HB9.out)).mono ?_
  rintro e w10 ⟨rfl, h10⟩
  have HB10 := Lib.hid (bstep HB9.out h10)
  clear h10 HKp9
  go_wp2_with fail
  refine (first_any w10).mono ?_
  rintro e w11 ⟨p11, hlo, rfl, Kp11, h11⟩
  have HB11 := Lib.hid (bstep HB10.out h11)
  have HKp11 := Lib.hid Kp11
  have HLOp11 : Hid (w.heap.size ≤ p11) := Lib.hid (by have := (HB10.out).size; omega)
  have HLTp11 : Hid (p11 < w11.heap.size) := Lib.hid Kp11.lt
  clear h11 Kp11 hlo
  simp only [rowQ]
  go_upto_region 7 with fail
  refine named_wp ?_
  intro w12 hW
  have Wk : Blk w12 w11.heap.size [.int .i64 3, .int .i64 0, .int .i64 0, .int .i64 0, .bool false, .int .u64 0, .slice none 0 0, .string ⟨#[]⟩, .slice (some ⟨p11, 0, none⟩) 3 3, .int .u64 5, .slice none 0 0, .slice none 0 0] := by rw [hW]; exact Blk.new w11 [.int .i64 3, .int .i64 0, .int .i64 0, .int .i64 0, .bool false, .int .u64 0, .slice none 0 0, .string ⟨#[]⟩, .slice (some ⟨p11, 0, none⟩) 3 3, .int .u64 5, .slice none 0 0, .slice none 0 0] 35
  have h12 : Below w11.heap.size w11 w12 := by rw [hW]; exact b1 _ _
  clear hW
  have HB12 := Lib.hid (bstep HB11.out h12)
  have HKp11 := Lib.hid (HKp11.out.later h12)
  have HWk := Lib.hid Wk
  clear h12 Wk
  have Wk := HWk.out
  have x0 := Wk.cell 0 _ rfl
  have x1 := Wk.cell 1 _ rfl
  have x2 := Wk.cell 2 _ rfl
  have x3 := Wk.cell 3 _ rfl
  have x4 := Wk.cell 4 _ rfl
  have x5 := Wk.cell 5 _ rfl
  have x6 := Wk.cell 6 _ rfl
  have x7 := Wk.cell 7 _ rfl
  have x8 := Wk.cell 8 _ rfl
  have x9 := Wk.cell 9 _ rfl
  have x10 := Wk.cell 10 _ rfl
  have x11 := Wk.cell 11 _ rfl
  have xlt := Wk.lt
  clear Wk
  have Kk := HKp11.out
  have y0 := Kk.cell 0 _ rfl
  have f0 := Kk.fr 0 _ rfl
  have y1 := Kk.cell 1 _ rfl
  have f1 := Kk.fr 1 _ rfl
  have y2 := Kk.cell 2 _ rfl
  have f2 := Kk.fr 2 _ rfl
  have y3 := Kk.cell 3 _ rfl
  have f3 := Kk.fr 3 _ rfl
  have y4 := Kk.cell 4 _ rfl
  have f4 := Kk.fr 4 _ rfl
  have y5 := Kk.cell 5 _ rfl
  have f5 := Kk.fr 5 _ rfl
  have y6 := Kk.cell 6 _ rfl
  have f6 := Kk.fr 6 _ rfl
  have y7 := Kk.cell 7 _ rfl
  have f7 := Kk.fr 7 _ rfl
  have y8 := Kk.cell 8 _ rfl
  have f8 := Kk.fr 8 _ rfl
  have y9 := Kk.cell 9 _ rfl
  have f9 := Kk.fr 9 _ rfl
  have y10 := Kk.cell 10 _ rfl
  have f10 := Kk.fr 10 _ rfl
  have y11 := Kk.cell 11 _ rfl
  have f11 := Kk.fr 11 _ rfl
  have y12 := Kk.cell 12 _ rfl
  have f12 := Kk.fr 12 _ rfl
  have y13 := Kk.cell 13 _ rfl
  have f13 := Kk.fr 13 _ rfl
  have y14 := Kk.cell 14 _ rfl
  have f14 := Kk.fr 14 _ rfl
  have y15 := Kk.cell 15 _ rfl
  have f15 := Kk.fr 15 _ rfl
  have y16 := Kk.cell 16 _ rfl
  have f16 := Kk.fr 16 _ rfl
  have y17 := Kk.cell 17 _ rfl
  have f17 := Kk.fr 17 _ rfl
  have y18 := Kk.cell 18 _ rfl
  have f18 := Kk.fr 18 _ rfl
  have y19 := Kk.cell 19 _ rfl
  have f19 := Kk.fr 19 _ rfl
  have y20 := Kk.cell 20 _ rfl
  have f20 := Kk.fr 20 _ rfl
  have y21 := Kk.cell 21 _ rfl
  have f21 := Kk.fr 21 _ rfl
  have y22 := Kk.cell 22 _ rfl
  have f22 := Kk.fr 22 _ rfl
  have y23 := Kk.cell 23 _ rfl
  have f23 := Kk.fr 23 _ rfl
  have y24 := Kk.cell 24 _ rfl
  have f24 := Kk.fr 24 _ rfl
  have y25 := Kk.cell 25 _ rfl
  have f25 := Kk.fr 25 _ rfl
  have y26 := Kk.cell 26 _ rfl
  have f26 := Kk.fr 26 _ rfl
  have ylt := Kk.lt
  clear Kk
  go_upto_region 8 with fail
  refine named_wp ?_
  intro w13 hW
  clear x0 x1 x2 x3 x4 x5 x6 x7 x8 x9 x10 x11 xlt y0 f0 y1 f1 y2 f2 y3 f3 y4 f4 y5 f5 y6 f6 y7 f7 y8 f8 y9 f9 y10 f10 y11 f11 y12 f12 y13 f13 y14 f14 y15 f15 y16 f16 y17 f17 y18 f18 y19 f19 y20 f20 y21 f21 y22 f22 y23 f23 y24 f24 y25 f25 y26 f26 ylt
  have HKW := Lib.hid (show Blk w13 p11 (wantT.flatMap Tr.row) by rw [hW]; exact ((((HKp11.out.set 21 (.int .i64 2)).set 22 (.bool true)).set 23 (.int .u64 3)).set 24 (.slice none 0 0)).set 25 (.string ⟨#[]⟩))
  have HWk2 := Lib.hid (show Blk w13 w11.heap.size [.int .i64 3, .int .i64 0, .int .i64 0, .int .i64 0, .bool false, .int .u64 0, .slice none 0 0, .string ⟨#[]⟩, .slice (some ⟨p11, 0, none⟩) 3 3, .int .u64 5, .slice none 0 0, .slice none 0 0] by rw [hW]; exact (((((HWk.out.other (p := ⟨p11, 21, none⟩) (by show p11 ≠ w11.heap.size; have := HLTp11.out; omega) (.int .i64 2)).other (p := ⟨p11, 22, none⟩) (by show p11 ≠ w11.heap.size; have := HLTp11.out; omega) (.bool true)).other (p := ⟨p11, 23, none⟩) (by show p11 ≠ w11.heap.size; have := HLTp11.out; omega) (.int .u64 3)).other (p := ⟨p11, 24, none⟩) (by show p11 ≠ w11.heap.size; have := HLTp11.out; omega) (.slice none 0 0)).other (p := ⟨p11, 25, none⟩) (by show p11 ≠ w11.heap.size; have := HLTp11.out; omega) (.string ⟨#[]⟩)))
  have HB13 : Hid (Below w.heap.size w w13) := Lib.hid (by rw [hW]; exact (Below.setCell (Below.setCell (Below.setCell (Below.setCell (Below.setCell HB12.out (p := ⟨p11, 21, none⟩) (by show w.heap.size ≤ p11; have := HLOp11.out; omega) (.int .i64 2)) (p := ⟨p11, 22, none⟩) (by show w.heap.size ≤ p11; have := HLOp11.out; omega) (.bool true)) (p := ⟨p11, 23, none⟩) (by show w.heap.size ≤ p11; have := HLOp11.out; omega) (.int .u64 3)) (p := ⟨p11, 24, none⟩) (by show w.heap.size ≤ p11; have := HLOp11.out; omega) (.slice none 0 0)) (p := ⟨p11, 25, none⟩) (by show w.heap.size ≤ p11; have := HLOp11.out; omega) (.string ⟨#[]⟩)))
  clear hW
  clear HKp11 HWk
  go_wp2_with fail
  refine (first_any w13).mono ?_
  rintro e w14 ⟨p14, -, rfl, Kp14, h14⟩
  replace HKW := Lib.hid (HKW.out.later h14)
  replace HWk2 := Lib.hid (HWk2.out.later h14)
  have HB14 := Lib.hid (bstep HB13.out h14)
  have HKp14 := Lib.hid Kp14
  clear h14 Kp14
  go_wp2_with fail
  refine (kRes p14 w14 HKp14.out (HG.out.later HB14.out)).mono ?_
  rintro e w15 ⟨X, hX, rfl, hXW, h15⟩
  replace HKW := Lib.hid (HKW.out.later h15)
  replace HWk2 := Lib.hid (HWk2.out.later h15)
  have HB15 := Lib.hid (bstep HB14.out h15)
  clear h15 HKp14
  obtain ⟨kX, mnX, mxX, kdX, bdX, bnX, AX, nX, cX, nmX, BX, mX, dX, wiX, JX, gX, rX, EX, eX, fX, hrow⟩ := row_form hXW
  rw [hrow]
  have HXX := Lib.hid (And.intro hX hrow)
  have HXW := Lib.hid hXW
  clear hX hrow hXW
  go_upto_region 9 with fail
  refine named_wp ?_
  intro w16 hW
  have hXK : Blk w16 w15.heap.size [.int .i64 kX, .int .i64 mnX, .int .i64 mxX, .int .i64 kdX, .bool bdX, .int .u64 bnX, .slice AX nX cX, .string nmX, .slice BX mX dX, .int .u64 wiX, .slice JX gX rX, .slice EX eX fX] := by rw [hW]; exact Blk.new w15 [.int .i64 kX, .int .i64 mnX, .int .i64 mxX, .int .i64 kdX, .bool bdX, .int .u64 bnX, .slice AX nX cX, .string nmX, .slice BX mX dX, .int .u64 wiX, .slice JX gX rX, .slice EX eX fX] 35
  have h16 : Below w15.heap.size w15 w16 := by rw [hW]; exact b1 _ _
  clear hW
  have HXK := Lib.hid hXK
  clear hXK
  replace HKW := Lib.hid (HKW.out.later h16)
  replace HWk2 := Lib.hid (HWk2.out.later h16)
  replace HXW := Lib.hid (HXW.out.later h16)
  have HB16 := Lib.hid (bstep HB15.out h16)
  clear h16
  go_wp2_with fail
  refine (kSees4 w16).mono ?_
  rintro e w17 ⟨A9, c9, rfl, ho9, h17⟩
  have HI9 := Lib.hid ho9
  clear ho9
  replace HKW := Lib.hid (HKW.out.later h17)
  replace HWk2 := Lib.hid (HWk2.out.later h17)
  replace HXW := Lib.hid (HXW.out.later h17)
  replace HXK := Lib.hid (HXK.out.later h17)
  have HB17 := Lib.hid (bstep HB16.out h17)
  clear h17
  have hmk := kMake w17
  go_wp2_with fail
  refine (kSees9 w17).mono ?_
  rintro e w18 ⟨A10, n10, c10, rfl, h18⟩
  replace HKW := Lib.hid (HKW.out.later h18)
  replace HWk2 := Lib.hid (HWk2.out.later h18)
  replace HXW := Lib.hid (HXW.out.later h18)
  replace HXK := Lib.hid (HXK.out.later h18)
  replace HI9 := Lib.hid (HI9.out.below h18)
  have HB18 := Lib.hid (bstep HB17.out h18)
  clear h18 hmk
  have hx := HXK.out
  have x0 := hx.cell 0 _ rfl
  have x1 := hx.cell 1 _ rfl
  have x2 := hx.cell 2 _ rfl
  have x3 := hx.cell 3 _ rfl
  have x4 := hx.cell 4 _ rfl
  have x5 := hx.cell 5 _ rfl
  have x6 := hx.cell 6 _ rfl
  have x7 := hx.cell 7 _ rfl
  have x8 := hx.cell 8 _ rfl
  have x9 := hx.cell 9 _ rfl
  have x10 := hx.cell 10 _ rfl
  have x11 := hx.cell 11 _ rfl
  have hy := HWk2.out
  have y0 := hy.cell 0 _ rfl
  have y1 := hy.cell 1 _ rfl
  have y2 := hy.cell 2 _ rfl
  have y3 := hy.cell 3 _ rfl
  have y4 := hy.cell 4 _ rfl
  have y5 := hy.cell 5 _ rfl
  have y6 := hy.cell 6 _ rfl
  have y7 := hy.cell 7 _ rfl
  have y8 := hy.cell 8 _ rfl
  have y9 := hy.cell 9 _ rfl
  have y10 := hy.cell 10 _ rfl
  have y11 := hy.cell 11 _ rfl
  clear hx hy
  go_wp2_with fail
  refine (kSame X _ p11 w18 HXX.out.1 HXW.out HXX.out.2 HKW.out).mono ?_
  rintro e w19 ⟨rfl, h19⟩
  clear x0 y0 x1 y1 x2 y2 x3 y3 x4 y4 x5 y5 x6 y6 x7 y7 x8 y8 x9 y9 x10 y10 x11 y11
  replace HI9 := Lib.hid (HI9.out.below h19)
  have HB19 := Lib.hid (bstep HB18.out h19)
  clear h19 HXX HXW HXK HKW HWk2
  go_wp2_with fail
  refine (kInts _ _ w19 HI9.out).mono ?_
  rintro e w20 ⟨rfl, h20⟩
  have HB20 := Lib.hid (bstep HB19.out h20)
  clear h20 HI9
  go_wp2_with fail
  refine (second_any w20).mono ?_
  rintro e w21 ⟨p21, -, rfl, Kp21, h21⟩
  have HB21 := Lib.hid (bstep HB20.out h21)
  have HKp21 := Lib.hid Kp21
  clear h21 Kp21
  go_wp2_with fail
  refine (kRd0 p21 w21 HKp21.out (HG.out.later HB21.out)).mono ?_
  rintro e w22 ⟨rfl, h22⟩
  have HB22 := Lib.hid (bstep HB21.out h22)
  clear h22 HKp21
  go_wp2_with fail
  refine (second_any w22).mono ?_
  rintro e w23 ⟨p23, -, rfl, Kp23, h23⟩
  have HB23 := Lib.hid (bstep HB22.out h23)
  have HKp23 := Lib.hid Kp23
  clear h23 Kp23
  go_wp2_with fail
  refine (kRd2 p23 w23 HKp23.out (HG.out.later HB23.out)).mono ?_
  rintro e w24 ⟨rfl, h24⟩
  have HB24 := Lib.hid (bstep HB23.out h24)
  clear h24 HKp23
  go_wp2_with fail
  refine (second_any w24).mono ?_
  rintro e w25 ⟨p25, -, rfl, Kp25, h25⟩
  have HB25 := Lib.hid (bstep HB24.out h25)
  have HKp25 := Lib.hid Kp25
  clear h25 Kp25
  go_wp2_with fail
  refine (kRd3 p25 w25 HKp25.out (HG.out.later HB25.out)).mono ?_
  rintro e w26 ⟨rfl, h26⟩
  have HB26 := Lib.hid (bstep HB25.out h26)
  clear h26 HKp25
  go_wp2_with fail
  refine (first_any w26).mono ?_
  rintro e w27 ⟨p27, -, rfl, Kp27, h27⟩
  have HB27 := Lib.hid (bstep HB26.out h27)
  have HKp27 := Lib.hid Kp27
  clear h27 Kp27
  go_wp2_with fail
  refine (kRdF p27 w27 HKp27.out (HG.out.later HB27.out)).mono ?_
  rintro e w28 ⟨rfl, h28⟩
  have HB28 := Lib.hid (bstep HB27.out h28)
  clear h28 HKp27
  go_wp2_with fail
  refine (first_any w28).mono ?_
  rintro e w29 ⟨p29, hlo, rfl, Kp29, h29⟩
  have HB29 := Lib.hid (bstep HB28.out h29)
  have HKp29 := Lib.hid Kp29
  have HLOp29 : Hid (w.heap.size ≤ p29) := Lib.hid (by have := (HB28.out).size; omega)
  have HLTp29 : Hid (p29 < w29.heap.size) := Lib.hid Kp29.lt
  clear h29 Kp29 hlo
  simp only [rowQ]
  go_upto_region 18 with fail
  refine named_wp ?_
  intro w30 hW
  have Wz : Blk w30 w29.heap.size [.int .i64 3, .int .i64 0, .int .i64 0, .int .i64 0, .bool false, .int .u64 0, .slice none 0 0, .string ⟨#[]⟩, .slice (some ⟨p29, 0, none⟩) 3 3, .int .u64 5, .slice none 0 0, .slice none 0 0] := by rw [hW]; exact Blk.new w29 [.int .i64 3, .int .i64 0, .int .i64 0, .int .i64 0, .bool false, .int .u64 0, .slice none 0 0, .string ⟨#[]⟩, .slice (some ⟨p29, 0, none⟩) 3 3, .int .u64 5, .slice none 0 0, .slice none 0 0] 35
  have h30 : Below w29.heap.size w29 w30 := by rw [hW]; exact b1 _ _
  clear hW
  have HB30 := Lib.hid (bstep HB29.out h30)
  have HKp29 := Lib.hid (HKp29.out.later h30)
  have HWz := Lib.hid Wz
  clear h30 Wz
  have Wz := HWz.out
  have x9 := Wz.cell 9 _ rfl
  have f9 := Wz.fr 9 _ rfl
  have xlt := Wz.lt
  clear Wz
  go_upto_region 19 with fail
  refine named_wp ?_
  intro w31 hW
  clear x9 f9 xlt
  have hz : Blk w31 w29.heap.size [.int .i64 3, .int .i64 0, .int .i64 0, .int .i64 0, .bool false, .int .u64 0, .slice none 0 0, .string ⟨#[]⟩, .slice (some ⟨p29, 0, none⟩) 3 3, .int .u64 10001, .slice none 0 0, .slice none 0 0] := by rw [hW]; exact HWz.out.set 9 _
  have hk : Blk w31 p29 (firstT.flatMap Tr.row) := by rw [hW]; exact HKp29.out.other (p := ⟨w29.heap.size, 9, none⟩) (by show w29.heap.size ≠ p29; have := HLTp29.out; omega) _
  have HB31 : Hid (Below w.heap.size w w31) := Lib.hid (by rw [hW]; exact Below.setCell HB30.out (p := ⟨w29.heap.size, 9, none⟩) (by show w.heap.size ≤ w29.heap.size; have := HLOp29.out; have := HLTp29.out; omega) _)
  clear hW
  have x0 := hz.cell 0 _ rfl
  have x1 := hz.cell 1 _ rfl
  have x2 := hz.cell 2 _ rfl
  have x3 := hz.cell 3 _ rfl
  have x4 := hz.cell 4 _ rfl
  have x5 := hz.cell 5 _ rfl
  have x6 := hz.cell 6 _ rfl
  have x7 := hz.cell 7 _ rfl
  have x8 := hz.cell 8 _ rfl
  have x9 := hz.cell 9 _ rfl
  have x10 := hz.cell 10 _ rfl
  have x11 := hz.cell 11 _ rfl
  have hbad := kBad p29 w31 hk (HG.out.later HB31.out)
  clear hz hk HWz HKp29
  go_wp2_with fail
  refine hbad.mono ?_
  rintro e w32 ⟨rfl, h32⟩
  clear hbad x0 x1 x2 x3 x4 x5 x6 x7 x8 x9 x10 x11
  have HB32 := Lib.hid (bstep HB31.out h32)
  clear h32
  go_wp2_with fail
  refine (flawake_any w32 (HG.out.later HB32.out)).mono ?_
  rintro e w33 ⟨rfl, h33⟩
  have HB33 := Lib.hid (bstep HB32.out h33)
  clear h33
  go_wp2
  go_ret
  exact ⟨rfl, HB33.out⟩
end Go.Proofs.YtdoioaeppepndaaGreatDoor
