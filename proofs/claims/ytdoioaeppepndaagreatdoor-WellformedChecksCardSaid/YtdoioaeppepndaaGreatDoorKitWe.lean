/- The kit's weigh, LightNode: mathematics and walks. -/
import Derived.Test.YtdoioaeppepndaaGreatDoorAstSm
import Derived.Test.YtdoioaeppepndaaGreatDoorProg
import Derived.Outline
import Derived.Deep.LoopGhost
import Derived.Handy
import Derived.IntWalk
namespace Go.Proofs.YtdoioaeppepndaaGreatDoor
open Go.RowKit
open A8

mutual
/-- How many nodes a node has; 1000 or more if it is too deep or too wide. -/
def weighN : Nat → Nd → Nat
  | d, .mk _ _ _ a ks => if d = 0 ∨ 40 < ks.length ∨ 10 < a.cs.length ∨ 20 < a.nm.length then 1000 else weighL (d - 1) ks 1
def weighL : Nat → List Nd → Nat → Nat
  | _, [], acc => acc
  | d, n :: ns, acc => if acc ≤ 40 then weighL d ns (acc + weighN d n) else acc
end
def smallT (t : Nd) : Prop := t.kids.length ≤ 40 ∧ t.atom.cs.length ≤ 10 ∧ t.atom.nm.length ≤ 20
theorem weighL_over (d : Nat) : ∀ (ns : List Nd) (acc : Nat), 40 < acc → weighL d ns acc = acc
  | [], acc, _ => by rw [weighL]
  | n :: ns, acc, h => by rw [weighL, if_neg (by omega)]
theorem weighL_ge (d : Nat) : ∀ (ns : List Nd) (acc : Nat), acc ≤ weighL d ns acc
  | [], acc => by rw [weighL]; exact Nat.le_refl _
  | n :: ns, acc => by
    rw [weighL]
    split
    · have := weighL_ge d ns (acc + weighN d n); omega
    · exact Nat.le_refl _
theorem weighL_take (d : Nat) (ks : List Nd) (j : Nat) (h : j < ks.length) (acc : Nat) (h4 : weighL d (ks.take j) acc ≤ 40) : weighL d (ks.take (j + 1)) acc = weighL d (ks.take j) acc + weighN d ks[j] := by
  induction ks generalizing j acc with
  | nil => cases h
  | cons n ns ih =>
    cases j with
    | zero =>
      rw [List.take_zero, weighL] at h4
      rw [List.take_zero, weighL, List.take_succ_cons, List.take_zero, weighL, if_pos h4, weighL]
      rfl
    | succ j =>
      rw [List.take_succ_cons, weighL] at h4
      rw [List.take_succ_cons, List.take_succ_cons, weighL, weighL]
      split at h4
      · rename_i h5
        rw [if_pos h5, if_pos h5]
        exact ih j (by simpa using h) _ h4
      · rename_i h5
        omega
theorem weighL_stop (d : Nat) (ks : List Nd) (j : Nat) (acc : Nat) (h4 : 40 < weighL d (ks.take j) acc) : weighL d ks acc = weighL d (ks.take j) acc := by
  induction ks generalizing j acc with
  | nil => rw [List.take_nil]
  | cons n ns ih =>
    cases j with
    | zero =>
      rw [List.take_zero, weighL] at h4
      rw [List.take_zero, weighL_over d _ _ h4, weighL]
    | succ j =>
      rw [List.take_succ_cons, weighL] at h4
      rw [List.take_succ_cons, weighL, weighL]
      split
      · rename_i h5
        rw [if_pos h5] at h4
        exact ih j _ h4
      · rfl
mutual
theorem weighN_max : ∀ (n : Nd) (d : Nat), weighN d n ≤ 1000 + 41 * d
  | .mk k mn mx a ks, d => by
    rw [weighN]
    split
    · omega
    · have := weighL_max ks (d - 1) 1 (by omega)
      have h0 : d ≠ 0 := fun e => by rename_i h; exact h (.inl e)
      omega
theorem weighL_max : ∀ (ns : List Nd) (d acc : Nat), acc ≤ 1040 + 41 * d → weighL d ns acc ≤ 1040 + 41 * d
  | [], d, acc, h => by rw [weighL]; exact h
  | n :: ns, d, acc, h => by
    rw [weighL]
    split
    · have := weighN_max n d
      exact weighL_max ns d _ (by omega)
    · exact h
end
mutual
theorem weighN_is : ∀ (n : Nd) (d : Nat), weighN d n ≤ 40 → weighN d n = (subsN n).length ∧ ∀ t ∈ subsN n, smallT t
  | .mk k mn mx a ks, d, h => by
    rw [weighN] at h ⊢
    split at h
    · omega
    · rename_i hc
      rw [if_neg hc]
      obtain ⟨h1, h2⟩ := weighL_is ks (d - 1) 1 h
      rw [subsN, List.length_cons]
      refine ⟨by omega, fun t ht => ?_⟩
      rcases List.mem_cons.1 ht with rfl | ht
      · refine ⟨?_, ?_, ?_⟩
        · show ks.length ≤ 40
          omega
        · show a.cs.length ≤ 10
          omega
        · show a.nm.length ≤ 20
          omega
      · exact h2 t ht
theorem weighL_is : ∀ (ns : List Nd) (d acc : Nat), weighL d ns acc ≤ 40 → weighL d ns acc = acc + (subsL ns).length ∧ ∀ t ∈ subsL ns, smallT t
  | [], d, acc, _ => by rw [weighL, subsL]; exact ⟨rfl, fun t ht => by cases ht⟩
  | n :: ns, d, acc, h => by
    have h0 : acc ≤ 40 := Nat.le_trans (weighL_ge d (n :: ns) acc) h
    rw [weighL] at h ⊢
    rw [if_pos h0] at h ⊢
    obtain ⟨h1, h2⟩ := weighL_is ns d _ h
    have hge := weighL_ge d ns (acc + weighN d n)
    obtain ⟨h3, h4⟩ := weighN_is n d (by omega)
    rw [subsL, List.length_append]
    refine ⟨by omega, fun t ht => ?_⟩
    rcases List.mem_append.1 ht with ht | ht
    · exact h4 t ht
    · exact h2 t ht
end
def lightN (n : Nd) : Bool := decide (weighN 8 n ≤ 40)
set_option maxRecDepth 100000 in
set_option maxHeartbeats 4000000 in
theorem weigh_out (d : Nat) (k mn mx kd : Int) (bd : Bool) (bn : Int) (A : Option Addr) (n c : Nat) (s : ByteArray) (B : Option Addr) (m e : Nat) (w : World) (h : d = 0 ∨ 40 < m ∨ 10 < n ∨ 20 < s.size) :
    Calls Tryz.prog 101 #[.agg #[.int .i64 k, .int .i64 mn, .int .i64 mx, .int .i64 kd, .bool bd, .int .u64 bn, .slice A n c, .string s, .slice B m e], .int .i64 (d : Int)] w fun e w' => e = .returned (.int .i64 1000) ∧ Below w.heap.size w w' := by
  have HB := Lib.hid (b1 w (.cells #[.int .i64 k, .int .i64 mn, .int .i64 mx, .int .i64 kd, .bool bd, .int .u64 bn, .slice A n c, .string s, .slice B m e] 31))
  by_cases h0 : d = 0
  · have z : ((d : Int) == 0) = true := by simp [h0]
    clear h h0
    go_enter Tryz.func101, Tryz.ntmps101
    go_wp2
    go_ret
    exact ⟨rfl, HB.out⟩
  · have z : ((d : Int) == 0) = false := by simpa using h0
    by_cases h1 : 40 < m
    · have z1 : (40 : Int) < (m : Int) := by omega
      clear h h0 h1
      go_enter Tryz.func101, Tryz.ntmps101
      go_wp2
      go_ret
      exact ⟨rfl, HB.out⟩
    · have z1 : ¬ (40 : Int) < (m : Int) := by omega
      by_cases h2 : 10 < n
      · have z2 : (10 : Int) < (n : Int) := by omega
        clear h h0 h1 h2
        go_enter Tryz.func101, Tryz.ntmps101
        go_wp2
        go_ret
        exact ⟨rfl, HB.out⟩
      · have z2 : ¬ (10 : Int) < (n : Int) := by omega
        have z3 : (20 : Int) < (s.size : Int) := by omega
        clear h h0 h1 h2
        go_enter Tryz.func101, Tryz.ntmps101
        go_wp2
        go_ret
        exact ⟨rfl, HB.out⟩
set_option maxRecDepth 100000 in
set_option maxHeartbeats 8000000 in
theorem weigh_in (d : Nat) (hd : d ≤ 8) (k mn mx kd : Int) (bd : Bool) (bn : Int) (A : Option Addr) (n c : Nat) (s : ByteArray) (sk : Value) (ks : List Tr) (w : World) (hsl : Sl w 9 ks.length sk (ks.flatMap Tr.row)) (h : ¬ (d = 0 ∨ 40 < ks.length ∨ 10 < n ∨ 20 < s.size))
    (hih : ∀ t ∈ ks, ∀ w1, Below w.heap.size w w1 → Calls Tryz.prog 101 #[.agg t.row.toArray, .int .i64 ((d - 1 : Nat) : Int)] w1 fun e w' => e = .returned (.int .i64 ((weighN (d - 1) t.nd : Nat) : Int)) ∧ Below w1.heap.size w1 w') (hsc : ∀ t ∈ ks, ∃ A n c, (∃ k mn mx a sk' ks', t = .mk k mn mx ⟨a, .slice A n c⟩ sk' ks'))
    (hsk : ∀ t ∈ ks, ∃ A n c, (∃ k mn mx g ks', t = .mk k mn mx g (.slice A n c) ks')) :
    Calls Tryz.prog 101 #[.agg #[.int .i64 k, .int .i64 mn, .int .i64 mx, .int .i64 kd, .bool bd, .int .u64 bn, .slice A n c, .string s, sk], .int .i64 (d : Int)] w fun e w' => e = .returned (.int .i64 ((weighL (d - 1) (ks.map Tr.nd) 1 : Nat) : Int)) ∧ Below w.heap.size w w' := by
  obtain ⟨B, e, rfl, hm, hel⟩ := sl_els (by decide) row_len hsl
  have z0 : ((d : Int) == 0) = false := by
    rw [beq_eq_false_iff_ne]
    omega
  have z1 : ¬ (40 : Int) < (ks.length : Int) := by omega
  have z2 : ¬ (10 : Int) < (n : Int) := by omega
  have z3 : ¬ (20 : Int) < (s.size : Int) := by omega
  have hd1 : IntKind.i64.wrap ((d : Int) - 1) = ((d - 1 : Nat) : Int) := by
    rw [IntWalk.i64_in _ ⟨by omega, by omega⟩]
    omega
  obtain ⟨D, hD⟩ : ∃ D, D = d - 1 := ⟨_, rfl⟩
  rw [← hD] at hih hd1 ⊢
  have HD := Lib.hid (show D ≤ 7 by omega)
  have HEL := Lib.hid hel
  have HIH := Lib.hid hih
  have HSC := Lib.hid hsc
  have HSK := Lib.hid hsk
  have HN := Lib.hid (show ks.length ≤ 40 by omega)
  obtain ⟨K, hK⟩ : ∃ K, K = ks.map Tr.nd := ⟨_, rfl⟩
  rw [← hK]
  have HK := Lib.hid hK
  clear hsl h hih hel hD hd hK hsc hsk
  obtain ⟨W1, hW1⟩ : ∃ W1, W1 = w.alloc (.cells #[.int .i64 k, .int .i64 mn, .int .i64 mx, .int .i64 kd, .bool bd, .int .u64 bn, .slice A n c, .string s, .slice B ks.length e] 31) := ⟨_, rfl⟩
  have hX : Blk W1 w.heap.size [.int .i64 k, .int .i64 mn, .int .i64 mx, .int .i64 kd, .bool bd, .int .u64 bn, .slice A n c, .string s, .slice B ks.length e] := by rw [hW1]; exact Blk.new w [.int .i64 k, .int .i64 mn, .int .i64 mx, .int .i64 kd, .bool bd, .int .u64 bn, .slice A n c, .string s, .slice B ks.length e] 31
  have hb1 : Below w.heap.size w W1 := by rw [hW1]; exact b1 _ _
  have HX := Lib.hid hX
  have HB := Lib.hid hb1
  have HW := Lib.hid hW1
  clear hX hb1 hW1
  go_enter Tryz.func101, Tryz.ntmps101
  go_wp2_with fail
  rw [← HW.out]
  clear HW
  go_loopg [5, 6] ks.length (fun g av iv wr => ∃ (j a : Nat), j ≤ ks.length ∧ g = ks.length - j ∧ av = .int .i64 (a : Int) ∧ iv = .int .i64 (j : Int) ∧ Hid (Below W1.heap.size W1 wr) ∧ Hid (a = weighL D (K.take j) 1) ∧ Hid (a ≤ 5000))
  case atStart => exact ⟨0, 1, Nat.zero_le _, rfl, rfl, rfl, Lib.hid (Below.refl _ _), Lib.hid (by rw [List.take_zero, weighL]), Lib.hid (by omega)⟩
  case round =>
    obtain ⟨j, a, hj, hg, rfl, rfl, hb, ha, ha5⟩ := hrel
    rename World => wr
    have y8 := (HX.out.later hb.out).cell 8 _ rfl
    have ylt := (HX.out.later hb.out).lt
    have hkl : K.length = ks.length := by rw [HK.out, List.length_map]
    have hj0 : (0 : Int) ≤ (j : Int) := by omega
    by_cases hlt : j < ks.length
    · have g1 : (j : Int) < (ks.length : Int) := by omega
      by_cases h4 : a ≤ 40
      · have g2 : (a : Int) ≤ 40 := by omega
        have hwj : IntKind.i64.wrap ((j : Int) + 1) = (j : Int) + 1 := IntWalk.i64_in _ ⟨by omega, by have := HN.out; omega⟩
        obtain ⟨ad, rfl, hal, E⟩ := HEL.out j hlt
        replace E := E.later (bstep HB.out hb.out)
        have hc := HIH.out ks[j] (List.getElem_mem hlt) wr (bstep HB.out hb.out)
        have hst := weighL_take D K j (by omega) 1 (by rw [← ha.out]; exact h4)
        have hKj : K[j]'(by omega) = ks[j].nd := by simp [HK.out]
        rw [hKj, ← ha.out] at hst
        have hmx := weighN_max ks[j].nd D
        obtain ⟨A2, n2, c2, k2, mn2, mx2, a2, sk2, ks2, e2⟩ := HSC.out ks[j] (List.getElem_mem hlt)
        obtain ⟨A3, n3, c3, k3, mn3, mx3, g3, ks3, e3⟩ := HSK.out ks[j] (List.getElem_mem hlt)
        obtain ⟨y, hy⟩ : ∃ y, y = weighN D ks[j].nd := ⟨_, rfl⟩
        rw [← hy] at hc hst hmx
        obtain ⟨t, ht⟩ : ∃ t, t = ks[j] := ⟨_, rfl⟩
        rw [← ht] at E hc e2 e3
        obtain ⟨tk, tmn, tmx, ⟨⟨tkd, tbd, tbn, tcs, tnm⟩, tsc⟩, tsk, tks⟩ := t
        cases e2
        cases e3
        simp only [Tr.row] at E hc
        have x0 := E.at0 _ rfl
        have x1 := E.at1 1 _ (by omega) rfl
        have x2 := E.at1 2 _ (by omega) rfl
        have x3 := E.at1 3 _ (by omega) rfl
        have x4 := E.at1 4 _ (by omega) rfl
        have x5 := E.at1 5 _ (by omega) rfl
        have x6 := E.at1 6 _ (by omega) rfl
        have x7 := E.at1 7 _ (by omega) rfl
        have x8 := E.at1 8 _ (by omega) rfl
        have xlt := E.lt
        have hws : IntKind.i64.wrap ((a : Int) + (y : Int)) = ((a + y : Nat) : Int) := by
          have := HD.out
          rw [IntWalk.i64_in _ ⟨by omega, by omega⟩]
          omega
        have HST := Lib.hid (show a + y = weighL D (K.take (j + 1)) 1 ∧ a + y ≤ 5000 from ⟨hst.symm, by have := HD.out; omega⟩)
        have HJ := Lib.hid (And.intro hj hlt)
        clear E hst hmx hy ht hKj hkl ha ha5 h4 hj hlt
        go_wp2_with fail
        refine hc.mono ?_
        rintro r w3 ⟨rfl, hb3⟩
        have HB3 := Lib.hid (bstep hb.out hb3)
        clear hb3 x0 x1 x2 x3 x4 x5 x6 x7 x8 hc hb
        go_wp2
        go_roundg (ks.length - (j + 1))
        case rel => exact ⟨j + 1, a + y, by have := HJ.out; omega, rfl, by first | rfl | (rw [hws]) | go_num, by go_num, HB3, Lib.hid HST.out.1, Lib.hid HST.out.2⟩
        case measure => have := HJ.out; omega
      · have g2 : ¬ (a : Int) ≤ 40 := by omega
        have hst := weighL_stop D K j 1 (by rw [← ha.out]; omega)
        rw [← ha.out] at hst
        have HST := Lib.hid hst
        have HBB := Lib.hid (bstep HB.out hb.out)
        clear hst ha hb hkl h4
        go_wp2
        go_ret
        exact ⟨by first | rfl | (rw [HST.out]; rfl), HBB.out⟩
    · have g1 : ¬ (j : Int) < (ks.length : Int) := by omega
      have hst := ha.out
      rw [List.take_of_length_le (by omega)] at hst
      have HST := Lib.hid hst
      have HBB := Lib.hid (bstep HB.out hb.out)
      clear hst ha hb hkl
      go_wp2
      go_ret
      exact ⟨by first | rfl | (rw [HST.out]; rfl), HBB.out⟩
theorem weigh_any (T : Tr) : ∀ (d : Nat) (w : World), TrW w T → d ≤ 8 →
    Calls Tryz.prog 101 #[.agg T.row.toArray, .int .i64 (d : Int)] w fun e w' => e = .returned (.int .i64 ((weighN d T.nd : Nat) : Int)) ∧ Below w.heap.size w w' := by
  refine Tr.ind (P := fun T => ∀ (d : Nat) (w : World), TrW w T → d ≤ 8 →
    Calls Tryz.prog 101 #[.agg T.row.toArray, .int .i64 (d : Int)] w fun e w' => e = .returned (.int .i64 ((weighN d T.nd : Nat) : Int)) ∧ Below w.heap.size w w') (fun k mn mx g sk ks ih => ?_) T
  intro d w hT hd
  obtain ⟨-, ⟨-, hsc⟩, hsl⟩ := hT.one
  have hkid := fun t (ht : t ∈ ks) => (hT.kid ht).one
  obtain ⟨⟨kd, bd, bn, cs, nm⟩, sc⟩ := g
  simp only at hsc
  obtain ⟨A, c, rfl, -, -⟩ := sl_get (by decide) hsc
  have hsz : (strOf nm).size = nm.length := by simp [strOf, ByteArray.size]
  rw [nd_mk, weighN, List.length_map]
  simp only [Tr.row]
  by_cases h : d = 0 ∨ 40 < ks.length ∨ 10 < cs.length ∨ 20 < nm.length
  · rw [if_pos h]
    obtain ⟨B, e, rfl, -, -⟩ := sl_get (by decide) hsl
    exact weigh_out d k mn mx kd bd bn A cs.length c (strOf nm) B ks.length e w (by rw [hsz]; exact h)
  · rw [if_neg h]
    refine weigh_in d hd k mn mx kd bd bn A cs.length c (strOf nm) sk ks w hsl (by rw [hsz]; exact h) (fun t ht w1 hb => ih t ht (d - 1) w1 ((hT.kid ht).later hb) (by omega)) (fun t ht => ?_) (fun t ht => ?_)
    · have h1 := hkid t ht
      obtain ⟨k2, mn2, mx2, ⟨a2, sc2⟩, sk2, ks2⟩ := t
      obtain ⟨A', c', h3, -, -⟩ := sl_get (by decide) h1.2.1.2
      simp only at h3
      exact ⟨A', _, c', k2, mn2, mx2, a2, sk2, ks2, by rw [h3]⟩
    · have h1 := hkid t ht
      obtain ⟨k2, mn2, mx2, g2, sk2, ks2⟩ := t
      obtain ⟨A', c', h3, -, -⟩ := sl_get (by decide) h1.2.2
      exact ⟨A', _, c', k2, mn2, mx2, g2, ks2, by rw [h3]⟩
set_option maxRecDepth 100000 in
theorem lightNode_any (T : Tr) (w : World) (hT : TrW w T) :
    Calls Tryz.prog 61 #[.agg T.row.toArray] w fun e w' => e = .returned (.bool (lightN T.nd)) ∧ Below w.heap.size w w' := by
  have hW := fun w1 (hb : Below w.heap.size w w1) => weigh_any T 8 w1 (hT.later hb) (by omega)
  unfold lightN
  obtain ⟨y, hy⟩ : ∃ y, y = weighN 8 T.nd := ⟨_, rfl⟩
  rw [← hy] at hW ⊢
  obtain ⟨k, mn, mx, ⟨⟨kd, bd, bn, cs, nm⟩, sc⟩, sk, ks⟩ := T
  simp only [Tr.row] at hW ⊢
  have HW := Lib.hid hW
  have hq : (decide ((y : Int) ≤ 40)) = decide (y ≤ 40) := by
    by_cases h : y ≤ 40
    · rw [decide_eq_true h, decide_eq_true (by omega)]
    · rw [decide_eq_false h, decide_eq_false (by omega)]
  rw [← hq]
  clear hW hT hy hq
  go_enter Tryz.func61, Tryz.ntmps61
  go_wp2_with fail
  refine (HW.out _ (b1 _ _)).mono ?_
  rintro e w2 ⟨rfl, hb2⟩
  have HB := Lib.hid (bstep (b1 _ _) hb2)
  clear hb2
  go_wp2
  go_ret
  exact ⟨rfl, HB.out⟩
end Go.Proofs.YtdoioaeppepndaaGreatDoor
