/- Walks: Same. -/
import Derived.Test.YtmdlndmibodimaaDoorTokK
namespace Go.Proofs.YtmdlndmibodimaaDoor
open Go.RowKit
open Tk7

/-- Two tokens of one kind and text. -/
def sk (x y : TK) : Bool := x.1 == y.1 && x.2.1 == y.2.1
/-- As many tokens, of the same kinds and texts. -/
def sameK : List TK → List TK → Bool
  | [], [] => true
  | x :: xs, y :: ys => sk x y && sameK xs ys
  | _, _ => false
theorem sameK_len : ∀ (xs ys : List TK), xs.length ≠ ys.length → sameK xs ys = false
  | [], [], h => absurd rfl h
  | [], _ :: _, _ => rfl
  | _ :: _, [], _ => rfl
  | x :: xs, y :: ys, h => by
    have := sameK_len xs ys (fun e => h (by simp [e]))
    simp [sameK, this]
set_option maxRecDepth 100000 in
set_option maxHeartbeats 2000000 in
theorem same1_any (x y : TK) (w : World) :
    Calls Tryd.prog 41 #[.agg #[.int .i64 x.1, .string (strOf x.2.1), .int .i64 x.2.2], .agg #[.int .i64 y.1, .string (strOf y.2.1), .int .i64 y.2.2]] w fun e w' => e = .returned (.bool (sk x y)) ∧ Below w.heap.size w w' := by
  obtain ⟨k1, s1, a1⟩ := x
  obtain ⟨k2, s2, a2⟩ := y
  have hs : ((strOf s1).toList == (strOf s2).toList) = (s1 == s2) := by rw [strOf_toL, strOf_toL]
  have hk : sk (k1, s1, a1) (k2, s2, a2) = (k1 == k2 && s1 == s2) := rfl
  obtain ⟨p, hp⟩ : ∃ p, p = (s1 == s2) := ⟨_, rfl⟩
  obtain ⟨S1, h1⟩ : ∃ S, S = strOf s1 := ⟨_, rfl⟩
  obtain ⟨S2, h2⟩ : ∃ S, S = strOf s2 := ⟨_, rfl⟩
  rw [← hp] at hs hk
  rw [← h1, ← h2] at hs
  simp only
  rw [← h1, ← h2, hk]
  clear hp h1 h2 hk
  by_cases he : k1 = k2
  · subst he
    go_enter Tryd.func41, Tryd.ntmps41
    go_wp2
    go_ret
    exact ⟨ret_bool (by simp), below2 _ _ _⟩
  · have hb : (k1 == k2) = false := by rw [beq_eq_false_iff_ne]; exact he
    go_enter Tryd.func41, Tryd.ntmps41
    go_wp2
    go_ret
    exact ⟨ret_bool (by simp [hb]), below2 _ _ _⟩
theorem sameK_step {xs ys : List TK} {k : Nat} (h1 : k < xs.length) (h2 : k < ys.length) : sameK (xs.drop k) (ys.drop k) = (sk xs[k] ys[k] && sameK (xs.drop (k + 1)) (ys.drop (k + 1))) := by
  rw [List.drop_eq_getElem_cons h1, List.drop_eq_getElem_cons h2]
  rfl
set_option maxRecDepth 100000 in
set_option maxHeartbeats 4000000 in
theorem equalFunc_any (u v : Value) (xs ys : List TK) (w : World) (hu : KSl w u xs) (hv : KSl w v ys) :
    Calls Tryd.prog 40 #[u, v, .func (.func 41) #[] #[]] w fun e w' => e = .returned (.bool (sameK xs ys)) ∧ Below w.heap.size w w' := by
  obtain ⟨A, cap, rfl, hcap, hmax, _, hc⟩ := hu.at_
  obtain ⟨A', cap', rfl, hcap', hmax', _, hc'⟩ := hv.at_
  have HC := Lib.hid hc
  have HC' := Lib.hid hc'
  clear hc hc' hu hv
  by_cases hlen : xs.length = ys.length
  · have hne : ((xs.length : Int) != (ys.length : Int)) = false := by simp [hlen]
    have HL := Lib.hid hlen
    clear hlen
    go_enter Tryd.func40, Tryd.ntmps40
    go_wp2
    go_loopg [17] xs.length (fun g iv wr => ∃ k : Nat, k ≤ xs.length ∧ g = xs.length - k ∧ iv = .int .i64 (k : Int) ∧ Hid (Below w.heap.size w wr) ∧ Hid (sameK xs ys = sameK (xs.drop k) (ys.drop k)))
    case atStart => exact ⟨0, Nat.zero_le _, rfl, rfl, Lib.hid (Below.refl _ _), Lib.hid rfl⟩
    case round =>
      obtain ⟨k, hk, hg, rfl, hB, hS⟩ := hrel
      by_cases hlt : k < xs.length
      · obtain ⟨a, rfl, ha, c0, c1, c2⟩ := HC.out k hlt
        obtain ⟨a', rfl, ha', c0', c1', c2'⟩ := HC'.out k (by rw [← HL.out]; exact hlt)
        have hst := sameK_step hlt (show k < ys.length by rw [← HL.out]; exact hlt)
        have hm := fun w => same1_any xs[k] (ys[k]'(by rw [← HL.out]; exact hlt)) w
        obtain ⟨x, hx⟩ : ∃ x, x = xs[k] := ⟨_, rfl⟩
        obtain ⟨y, hy⟩ : ∃ y, y = ys[k]'(by rw [← HL.out]; exact hlt) := ⟨_, rfl⟩
        rw [← hx] at c0 c1 c2 hst hm
        rw [← hy] at c0' c1' c2' hst hm
        obtain ⟨q, hq⟩ : ∃ q, q = sk x y := ⟨_, rfl⟩
        rw [← hq] at hst hm
        have e0 : wr.cell? (a.add (k * 3)) = some (.int .i64 x.1) := (hB.out.cell (p := a.add (k * 3)) (by rw [add_block]; exact ha)).trans c0
        have e1 : wr.cell? (a.add (k * 3 + 1)) = some (.string (strOf x.2.1)) := (hB.out.cell (p := a.add (k * 3 + 1)) (by rw [add_block]; exact ha)).trans c1
        have e2 : wr.cell? (a.add (k * 3 + 2)) = some (.int .i64 x.2.2) := (hB.out.cell (p := a.add (k * 3 + 2)) (by rw [add_block]; exact ha)).trans c2
        have f0 : wr.cell? (a'.add (k * 3)) = some (.int .i64 y.1) := (hB.out.cell (p := a'.add (k * 3)) (by rw [add_block]; exact ha')).trans c0'
        have f1 : wr.cell? (a'.add (k * 3 + 1)) = some (.string (strOf y.2.1)) := (hB.out.cell (p := a'.add (k * 3 + 1)) (by rw [add_block]; exact ha')).trans c1'
        have f2 : wr.cell? (a'.add (k * 3 + 2)) = some (.int .i64 y.2.2) := (hB.out.cell (p := a'.add (k * 3 + 2)) (by rw [add_block]; exact ha')).trans c2'
        have hbl : a'.block < wr.heap.size := Nat.lt_of_lt_of_le ha' hB.out.size
        have hbl2 : a.block < wr.heap.size := Nat.lt_of_lt_of_le ha hB.out.size
        have h0 : ∀ o, (wr.alloc o).cell? (a'.add (k * 3)) = some (.int .i64 y.1) := fun o => ((below1 wr o).cell (p := a'.add (k * 3)) (by rw [add_block]; exact hbl)).trans f0
        rw [← add_at _ (k * 3) 1 (by decide)] at e1 f1
        rw [← add_at _ (k * 3) 2 (by decide)] at e2 f2
        have h1 := fun o => ((below1 wr o).cell (p := ⟨(a'.add (k * 3)).block, (a'.add (k * 3)).off + 1, none⟩) (by show (a'.add (k * 3)).block < _; rw [add_block]; exact hbl)).trans f1
        have h2 := fun o => ((below1 wr o).cell (p := ⟨(a'.add (k * 3)).block, (a'.add (k * 3)).off + 2, none⟩) (by show (a'.add (k * 3)).block < _; rw [add_block]; exact hbl)).trans f2
        clear f0 f1 f2
        have hi : (k : Int) < (xs.length : Int) := by omega
        have hi2 : (k : Int) < (ys.length : Int) := by have := HL.out; omega
        have hwk : IntKind.i64.wrap ((k : Int) + 1) = (k : Int) + 1 := IntWalk.i64_in _ ⟨by omega, by omega⟩
        have HS := Lib.hid hst
        clear hx hy hq c0 c1 c2 c0' c1' c2' hst
        cases q with
        | true =>
          have HS2 := Lib.hid (show sameK xs ys = sameK (xs.drop (k + 1)) (ys.drop (k + 1)) by rw [hS.out, HS.out, Bool.true_and])
          clear hS HS HC HC'
          go_wp2_with (go_at_call 41; refine (hm _).mono ?_; rintro e w2 ⟨rfl, hb2⟩)
          go_roundg (xs.length - (k + 1))
          case rel => exact ⟨k + 1, by omega, rfl, by go_num, Lib.hid (bstep (bstep hB.out (below2 _ _ _)) hb2), HS2⟩
          case measure => omega
        | false =>
          have HS2 := Lib.hid (show sameK xs ys = false by rw [hS.out, HS.out, Bool.false_and])
          clear hS HS HC HC'
          go_wp2_with (go_at_call 41; refine (hm _).mono ?_; rintro e w2 ⟨rfl, hb2⟩)
          go_ret
          exact ⟨by rw [HS2.out]; rfl, bstep (bstep hB.out (below2 _ _ _)) hb2⟩
      · have e1 := Lib.hid (show sameK xs ys = true by rw [hS.out, List.drop_eq_nil_of_le (by omega), List.drop_eq_nil_of_le (by have := HL.out; omega)]; rfl)
        have hi : ¬ (k : Int) < (xs.length : Int) := by omega
        clear HC HC' hS
        go_wp2
        go_ret
        exact ⟨by rw [e1.out]; rfl, hB.out⟩
  · have hne : ((xs.length : Int) != (ys.length : Int)) = true := by simp; omega
    have e1 := Lib.hid (sameK_len xs ys hlen)
    go_enter Tryd.func40, Tryd.ntmps40
    go_wp2
    go_ret
    exact ⟨by rw [e1.out]; rfl, Below.refl _ _⟩
theorem same_any (u v : Value) (xs ys : List TK) (w : World) (hu : KSl w u xs) (hv : KSl w v ys) :
    Calls Tryd.prog 23 #[u, v] w fun e w' => e = .returned (.bool (sameK xs ys)) ∧ Below w.heap.size w w' := by
  have h := equalFunc_any u v xs ys w hu hv
  go_enter Tryd.func23, Tryd.ntmps23
  go_wp2_with (go_at_call 40; refine h.mono ?_; rintro e w2 ⟨rfl, hb2⟩)
  go_ret
  exact ⟨rfl, hb2⟩
theorem sameK_of : ∀ (xs ys : List TK), xs.map (fun x => (x.1, x.2.1)) = ys.map (fun x => (x.1, x.2.1)) → sameK xs ys = true
  | [], [], _ => rfl
  | [], _ :: _, h => by simp at h
  | _ :: _, [], h => by simp at h
  | x :: xs, y :: ys, h => by
    simp only [List.map_cons, List.cons.injEq, Prod.mk.injEq] at h
    simp [sameK, sk, h.1.1, h.1.2, sameK_of xs ys h.2]
theorem sameK_toks {us ts : List T} (h : sameT us ts) : sameK (us.map tkOf) (ts.map tkOf) = true := by
  apply sameK_of
  unfold sameT at h
  rw [List.map_map, List.map_map]
  have e : ((fun x : TK => (x.1, x.2.1)) ∘ tkOf) = (fun p : Nat × List UInt8 => ((p.1 : Int), p.2)) ∘ fun t : T => (t.1, t.2.1) := rfl
  rw [e, ← List.map_map, ← List.map_map, h]
end Go.Proofs.YtmdlndmibodimaaDoor
