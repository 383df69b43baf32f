/- Walk: the program's iterator over the tokens of a text. -/
import Derived.RangeFuncNested
import Derived.RangeFuncFrom
import Derived.RangeFuncBox
import Derived.RangeFuncBound
import Derived.RangeFuncCalls
import Derived.RangeFuncLeaves
import Derived.Shelf.Abstract
import Derived.Shelf.RegionOpen
import Derived.WalkKit
import Derived.OwnWalkIn
import Derived.TacticsInMore
import Derived.LoopNIn
import Derived.LoopIn
import Derived.Outline
import Derived.Test.YtmdlndmibodimaaDoorTokL
import Derived.Test.YtmdlndmibodimaaDoorSl
namespace Go.Proofs.YtmdlndmibodimaaDoor
open Go.RowKit Go.Shelf
open Tk7
attribute [local go_sem] Oper.semAt_some

/-- What is kept from one round to the next: all below m, the block b, and from n on the blocks of a fault. -/
def KeepT (m b n : Nat) (W W' : World) : Prop :=
  W.heap.size ≤ W'.heap.size ∧ ∀ k, k < W.heap.size → (k < m ∨ k = b ∨ (n ≤ k ∧ ∃ cs fr, W.heap[k]? = some (.cells cs 25 fr))) → W'.heap[k]? = W.heap[k]?
theorem KeepT.trans {m b n : Nat} {A B C : World} (h : KeepT m b n A B) (k : KeepT m b n B C) : KeepT m b n A C := by
  refine ⟨Nat.le_trans h.1 k.1, fun i hi hx => ?_⟩
  have e := h.2 i hi hx
  refine (k.2 i (Nat.lt_of_lt_of_le hi h.1) ?_).trans e
  rcases hx with hx | hx | ⟨hx, cs, fr, ho⟩
  · exact .inl hx
  · exact .inr (.inl hx)
  · exact .inr (.inr ⟨hx, cs, fr, e.trans ho⟩)
theorem KeepT.put {m b n S : Nat} (hm : m ≤ S) (hb : b < S) (W : World) (l : Nat) (o o' : Obj) (hl : S ≤ l) (ho : W.heap[l]? = some o) (hc : o.isCells = false) : KeepT m b n W (W.putObj l o') := by
  refine ⟨by simp, fun k hk hx => World.putObj_heap_other ?_⟩
  rcases hx with hx | hx | ⟨hx, cs, fr, h⟩
  · omega
  · omega
  · rintro rfl
    rw [ho] at h
    cases h
    cases hc
/-- A block that is kept. -/
theorem KeepT.blk {m b n k : Nat} {W W' : World} {us : List Value} (h : KeepT m b n W W') (hB : Blk W k us) (hx : k < m ∨ k = b ∨ (n ≤ k ∧ ∃ cs fr, W.heap[k]? = some (.cells cs 25 fr))) : Blk W' k us := by
  have e := h.2 k hB.lt hx
  exact ⟨Nat.lt_of_lt_of_le hB.lt h.1, fun i v hv => (World.cell?_of_block (w := W) (a := ⟨k, i, none⟩) e).trans (hB.cell i v hv), fun i v hv => (World.frozen?_of_block (w := W) (a := ⟨k, i, none⟩) e).trans (hB.fr i v hv)⟩
theorem KeepT.sg {m b n : Nat} {W W' : World} (h : KeepT m b n W W') (hm : 0 < m) (hG : SG W) : SG W' := by
  refine ⟨Nat.lt_of_lt_of_le hG.1 h.1, fun i c hc => ?_⟩
  exact (World.cell?_of_block (w := W) (a := ⟨0, i, none⟩) (h.2 _ hG.1 (.inl hm))).trans (hG.2 i c hc)
def tokV (x : NX) : Value := .agg #[.int .i64 (x.kd : Int), .string (strOf x.tx), .int .i64 (x.at_ : Int)]
def fltV (x : NX) : Value := .agg #[.int .i64 x.er, .int .i64 (x.ea : Int)]
theorem abide {β : Type} {B : Nat} {J : β → World → Prop} (h : AbidesFrom B J) {s : β} {W W' : World} (hJ : J s W) (hb : Below W.heap.size W W') : J s W' :=
  h s W W' none hJ (grown_below _ _ hb) (fun r e => by cases e)
theorem below_two {w w2 : World} (hb : Below w.heap.size w w2) (o p : Obj) : Below w.heap.size w ((w2.alloc o).alloc p) := (hb.alloc hb.size o).alloc (by have := hb.size; simp; omega) p
set_option maxRecDepth 100000 in
set_option maxHeartbeats 4000000 in
theorem each_in (n : Nat) (hn : 1 ≤ n) (l m b n0 : Nat) (t : List UInt8) (ht : t.length ≤ 100000) (hm : 0 < m) (J Jx : List NX → World → Prop) (W : World) (hn0 : n0 ≤ W.heap.size) (hJa : AbidesFrom W.heap.size J)
    (hY : ∀ pre x W1, J pre W1 → pre.length < (seqA t).length → YieldAt Fence.wide (n - 1) Tryd.prog l #[tokV x, fltV x] W1 fun e W' =>
      (e = .returned (.bool true) ∧ J (pre ++ [x]) W' ∧ KeepT m b n0 W1 W') ∨ (e = .returned (.bool false) ∧ Jx (pre ++ [x]) W'))
    (hB : Blk W b [.string (strOf t)]) (hG : SG W) (h0 : J [] W) :
    CallsIn Fence.wide n Tryd.prog 43 #[.func (.yield l) #[] #[], .pointer (some ⟨b, 0, none⟩)] W fun e W' => (∃ v, e = .returned v) ∧
      ((∃ xs, xs = seqA t ∧ J xs W') ∨ ∃ pre, pre <+: seqA t ∧ Jx pre W') := by
  refine callsIn_of_wp Tryd.func43 rfl trivial ?_ rfl
  simp only [Tryd.ntmps43, List.size_toArray, List.length_cons, List.length_nil, Nat.reduceAdd, Nat.reduceSub, Array.replicate_succ, Array.replicate_zero, List.push_toArray, List.append_toArray, List.nil_append, List.cons_append]
  have hsz : (strOf t).size ≤ maxLen := by rw [strOf_size]; unfold maxLen; omega
  gi_wp2
  gi_loopw [3] (fun v wr => ∃ (pre : List NX) (k f : Nat), v = .int .i64 (k : Int) ∧ k ≤ t.length ∧ t.length - k < f ∧ Hid (seqA t = pre ++ seqX t f k) ∧ Hid (Blk wr b [.string (strOf t)]) ∧ Hid (SG wr) ∧ W.heap.size ≤ wr.heap.size ∧ J pre wr) (fun v _ => t.length + 1 - (intOf v).toNat)
  case atStart => exact ⟨[], 0, t.length + 1, rfl, Nat.zero_le _, by omega, Lib.hid rfl, Lib.hid hB, Lib.hid hG, Nat.le_refl _, h0⟩
  case round =>
    obtain ⟨pre, k, f, rfl, hk, hf, hS, hBb, hGr, hsz2, hJ⟩ := hrel
    have hN := next_any (strOf t) (k : Int) hsz wr hGr.out
    have c0 := hBb.out.cell 0 _ rfl
    obtain ⟨g, rfl⟩ : ∃ g, f = g + 1 := ⟨f - 1, by omega⟩
    have hx := next_cases hk
    obtain ⟨x, hxx⟩ : ∃ x, x = nextX t (k : Int) := ⟨_, rfl⟩
    have HS := Lib.hid (show seqX t (g + 1) k = if x.er = 5 then [] else if x.er = 0 then x :: seqX t g x.nx else [x] by rw [hxx]; rfl)
    have hN2 : ∀ w, w = wr → Calls Tryd.prog 12 #[.string (strOf t), .int .i64 (k : Int)] w fun e w' => e = .returned (.tuple #[tokV x, .int .i64 (x.nx : Int), fltV x]) ∧ Below wr.heap.size wr w' := by
      rintro w rfl
      rw [hxx]
      refine hN.mono ?_
      rintro e w' ⟨h1, h2⟩
      rw [strOf_dat] at h1
      exact ⟨h1, h2⟩
    unfold tokV fltV at hN2
    rw [← hxx] at hx
    clear hN hxx
    rcases hx with ⟨h1, h2⟩ | ⟨p, h1, h2⟩ | ⟨tk, h1, h2, h3, h4⟩
    · have hE := Lib.hid (show seqA t = pre by rw [hS.out, HS.out, h2, if_pos (by rfl), List.append_nil])
      have hN3 : ∀ w, w = wr → Calls Tryd.prog 12 #[.string (strOf t), .int .i64 (k : Int)] w fun e w' => e = .returned (.tuple #[.agg #[.int .i64 0, .string ⟨#[]⟩, .int .i64 0], .int .i64 0, .agg #[.int .i64 5, .int .i64 (t.length : Int)]]) ∧ Below wr.heap.size wr w' := by
        rw [h2] at hN2; exact hN2
      clear h1 h2 HS hN2 x
      gi_wp2_with (refine ⟨trivial, ?_⟩; gi_at_call 12; refine (callsIn_wide.2 (hN3 _ rfl)).mono ?_; rintro e w2 ⟨rfl, hb2⟩)
      refine ⟨(fun f h => by cases h), ?_⟩
      gi_wp2
      refine bodyPost_ret (results_none rfl _ _ _) rfl ?_
      exact ⟨⟨_, rfl⟩, .inl ⟨pre, hE.out.symm, abide hJa hJ (below_two hb2 _ _)⟩⟩
    · have hE := Lib.hid (show seqA t = pre ++ [badX (3, p)] by rw [hS.out, HS.out, h2, if_neg (by show ¬ (3 : Int) = 5; decide), if_neg (by show ¬ (3 : Int) = 0; decide)])
      have hN3 : ∀ w, w = wr → Calls Tryd.prog 12 #[.string (strOf t), .int .i64 (k : Int)] w fun e w' => e = .returned (.tuple #[.agg #[.int .i64 0, .string ⟨#[]⟩, .int .i64 0], .int .i64 0, .agg #[.int .i64 3, .int .i64 (p : Int)]]) ∧ Below wr.heap.size wr w' := by
        rw [h2] at hN2; exact hN2
      clear h1 h2 HS hN2 x
      have hlen : pre.length < (seqA t).length := by rw [hE.out]; simp
      have hY2 : ∀ (w2 : World) (hb2 : Below wr.heap.size wr w2) (W3 : World), W3 = ((w2.alloc (.cells #[.int .i64 0, .string ⟨#[]⟩, .int .i64 0] 30)).alloc (.cells #[.int .i64 3, .int .i64 (p : Int)] 25)) →
          YieldAt Fence.wide (n - 1) Tryd.prog l #[.agg #[.int .i64 0, .string ⟨#[]⟩, .int .i64 0], .agg #[.int .i64 3, .int .i64 (p : Int)]] W3 fun e W' =>
            (e = .returned (.bool true) ∧ J (pre ++ [badX (3, p)]) W' ∧ Blk W' (w2.heap.size + 1) [.int .i64 3, .int .i64 (p : Int)]) ∨ (e = .returned (.bool false) ∧ Jx (pre ++ [badX (3, p)]) W') := fun w2 hb2 W3 hW3 => by
        obtain ⟨fn, tmps, assign, body, hy, hR⟩ := hY pre (badX (3, p)) W3 (hW3 ▸ abide hJa hJ (below_two hb2 _ _)) hlen
        refine ⟨fn, tmps, assign, body, hy, hR.mono ?_⟩
        rintro e W' (⟨h1, h2, h3⟩ | h1)
        · refine .inl ⟨h1, h2, ?_⟩
          rw [hW3] at h3
          exact h3.blk (Blk.is (us := [.int .i64 3, .int .i64 (p : Int)]) _ (by simp)) (.inr (.inr ⟨by have := hb2.size; omega, _, _, by have := World.alloc_heap_new (w2.alloc (.cells #[.int .i64 0, .string ⟨#[]⟩, .int .i64 0] 30)) (.cells #[.int .i64 3, .int .i64 (p : Int)] 25); rw [World.size_alloc] at this; exact this⟩))
        · exact .inr h1
      gi_wp2_with (refine ⟨trivial, ?_⟩; gi_at_call 12; refine (callsIn_wide.2 (hN3 _ rfl)).mono ?_; rintro e w2 ⟨rfl, hb2⟩; obtain ⟨fn, tmps, assign, body, hy, hR⟩ := hY2 w2 hb2 _ rfl)
      refine hR.mono ?_
      rintro e W3 (⟨rfl, hJ3, hk3⟩ | ⟨rfl, hJx3⟩)
      · have k0 := hk3.cell 0 _ rfl
        have k1 := hk3.cell 1 _ rfl
        gi_wp2
        refine bodyPost_ret (results_none rfl _ _ _) rfl ?_
        exact ⟨⟨_, rfl⟩, .inl ⟨_, hE.out.symm, hJ3⟩⟩
      · gi_wp2
        refine bodyPost_ret (results_none rfl _ _ _) rfl ?_
        exact ⟨⟨_, rfl⟩, .inr ⟨_, ⟨[], by rw [List.append_nil]; exact hE.out.symm⟩, hJx3⟩⟩
    · obtain ⟨kd, tx, at_⟩ := tk
      simp only at h1 h2 h3 h4
      obtain ⟨N, hNN⟩ : ∃ N, N = at_ + tx.length := ⟨_, rfl⟩
      have hox : okX (kd, tx, at_) = ⟨kd, tx, at_, N, 0, 0⟩ := by unfold okX; rw [hNN]
      rw [hox] at h2
      rw [← hNN] at h3 h4
      have hE := Lib.hid (show seqA t = (pre ++ [⟨kd, tx, at_, N, 0, 0⟩]) ++ seqX t g N by rw [hS.out, HS.out, h2, if_neg (by show ¬ (0 : Int) = 5; decide), if_pos (by rfl), List.append_assoc]; rfl)
      have hN3 : ∀ w, w = wr → Calls Tryd.prog 12 #[.string (strOf t), .int .i64 (k : Int)] w fun e w' => e = .returned (.tuple #[.agg #[.int .i64 (kd : Int), .string (strOf tx), .int .i64 (at_ : Int)], .int .i64 (N : Int), .agg #[.int .i64 0, .int .i64 0]]) ∧ Below wr.heap.size wr w' := by
        rw [h2] at hN2; exact hN2
      clear h1 h2 HS hN2 x hox hNN
      have hlen : pre.length < (seqA t).length := by rw [hE.out]; simp
      have hY2 : ∀ (w2 : World) (hb2 : Below wr.heap.size wr w2) (W3 : World), W3 = ((w2.alloc (.cells #[.int .i64 (kd : Int), .string (strOf tx), .int .i64 (at_ : Int)] 30)).alloc (.cells #[.int .i64 0, .int .i64 0] 25)) →
          YieldAt Fence.wide (n - 1) Tryd.prog l #[.agg #[.int .i64 (kd : Int), .string (strOf tx), .int .i64 (at_ : Int)], .agg #[.int .i64 0, .int .i64 0]] W3 fun e W' =>
            (e = .returned (.bool true) ∧ J (pre ++ [⟨kd, tx, at_, N, 0, 0⟩]) W' ∧ Blk W' (w2.heap.size + 1) [.int .i64 0, .int .i64 0] ∧ Blk W' b [.string (strOf t)] ∧ SG W' ∧ W.heap.size ≤ W'.heap.size) ∨ (e = .returned (.bool false) ∧ Jx (pre ++ [⟨kd, tx, at_, N, 0, 0⟩]) W') := fun w2 hb2 W3 hW3 => by
        obtain ⟨fn, tmps, assign, body, hy, hR⟩ := hY pre ⟨kd, tx, at_, N, 0, 0⟩ W3 (hW3 ▸ abide hJa hJ (below_two hb2 _ _)) hlen
        refine ⟨fn, tmps, assign, body, hy, hR.mono ?_⟩
        rintro e W' (⟨h1, h2, h3⟩ | h1)
        · rw [hW3] at h3
          have hbb := below_two hb2 (.cells #[.int .i64 (kd : Int), .string (strOf tx), .int .i64 (at_ : Int)] 30) (.cells #[.int .i64 0, .int .i64 0] 25)
          refine .inl ⟨h1, h2, ?_, h3.blk (hBb.out.later hbb) (.inr (.inl rfl)), h3.sg hm (hGr.out.later hbb), Nat.le_trans hsz2 (Nat.le_trans hbb.size h3.1)⟩
          exact h3.blk (Blk.is (us := [.int .i64 0, .int .i64 0]) _ (by simp)) (.inr (.inr ⟨by have := hb2.size; omega, _, _, by have := World.alloc_heap_new (w2.alloc (.cells #[.int .i64 (kd : Int), .string (strOf tx), .int .i64 (at_ : Int)] 30)) (.cells #[.int .i64 0, .int .i64 0] 25); rw [World.size_alloc] at this; exact this⟩))
        · exact .inr h1
      gi_wp2_with (refine ⟨trivial, ?_⟩; gi_at_call 12; refine (callsIn_wide.2 (hN3 _ rfl)).mono ?_; rintro e w2 ⟨rfl, hb2⟩; obtain ⟨fn, tmps, assign, body, hy, hR⟩ := hY2 w2 hb2 _ rfl)
      refine hR.mono ?_
      rintro e W3 (⟨rfl, hJ3, hk3, hk4, hk5, hk6⟩ | ⟨rfl, hJx3⟩)
      · have k0 := hk3.cell 0 _ rfl
        have k1 := hk3.cell 1 _ rfl
        gi_wp2
        go_roundw
        case rel => exact ⟨_, N, g, rfl, h4, by omega, hE, Lib.hid hk4, Lib.hid hk5, hk6, hJ3⟩
        case measure => simp [intOf]; omega
      · gi_wp2
        refine bodyPost_ret (results_none rfl _ _ _) rfl ?_
        exact ⟨⟨_, rfl⟩, .inr ⟨_, ⟨_, hE.out.symm⟩, hJx3⟩⟩
/-- What the iterator owes a range over it. -/
theorem each_stops (n : Nat) (hn : 1 ≤ n) (m b n0 : Nat) (t : List UInt8) (ht : t.length ≤ 100000) (hm : 0 < m) (w : World) (hn0 : n0 ≤ w.heap.size) (hB : Blk w b [.string (strOf t)]) (hG : SG w) :
    SeqStopsK Fence.wide n Tryd.prog 43 #[.pointer (some ⟨b, 0, none⟩)] (fun x : NX => #[tokV x, fltV x]) (KeepT m b n0) (fun xs => xs = seqA t) (fun pre => pre <+: seqA t) (seqA t).length w :=
  fun l J Jx W hW hJa _ hY h0 => each_in n hn l m b n0 t ht hm J Jx W (Nat.le_trans hn0 hW.size) hJa hY (hB.later hW) (hG.later hW) h0
theorem each_any (s : ByteArray) (w : World) :
    Calls Tryd.prog 30 #[.string s] w fun e w' => e = .returned (.func (.func 43) #[] #[.pointer (some ⟨w.heap.size, 0, none⟩)]) ∧ w' = w.alloc (.cells #[.string s] 9) := by
  go_enter Tryd.func30, Tryd.ntmps30
  go_wp2
  go_ret
  exact ⟨rfl, rfl⟩
end Go.Proofs.YtmdlndmibodimaaDoor
