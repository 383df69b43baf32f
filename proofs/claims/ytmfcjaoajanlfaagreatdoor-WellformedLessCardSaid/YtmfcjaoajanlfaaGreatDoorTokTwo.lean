/- Package token: all tokens, checks, words. -/
import Derived.Test.YtmfcjaoajanlfaaGreatDoorTokOneB
import Derived.RangeFuncNested
import Derived.RangeFuncFrom
import Derived.RangeFuncBox
import Derived.RangeFuncBound
import Derived.RangeFuncCalls
import Derived.RangeFuncLeaves
import Derived.Shelf.Abstract
import Derived.Shelf.RegionOpen
import Derived.WalkKit
import Derived.OwnWalkIn
import Derived.TacticsInMore
import Derived.LoopNIn
import Derived.LoopIn
import Derived.Outline
import Derived.Test.YtmfcjaoajanlfaaGreatDoorSl
import Derived.Test.YtmfcjaoajanlfaaGreatDoorRg
import Derived.Deep.LoopGhost
import Derived.BigQuiet
import Derived.Deep.Slices
namespace Go.Proofs.YtmfcjaoajanlfaaGreatDoor
open Go.RowKit
open Tk7

def badX (e : Int × Nat) : NX := ⟨0, [], 0, 0, e.1, e.2⟩
theorem nextX_nat {l : List UInt8} {k : Nat} (hk : k ≤ l.length) : nextX l (k : Int) = match nextG (l.drop k) k with
    | .error e => badX e
    | .ok (kd, p, n) => ⟨kd, (l.drop p).take n, p, p + n, 0, 0⟩ := by
  unfold nextX
  rw [if_neg (by omega), Int.toNat_natCast]
  cases nextG (l.drop k) k with
  | error e => rfl
  | ok x => rfl
end Go.Proofs.YtmfcjaoajanlfaaGreatDoor
namespace Go.Proofs.YtmfcjaoajanlfaaGreatDoor
open Go.RowKit Go.Shelf
open Tk7
attribute [local go_sem] Oper.semAt_some

/-- What is kept from one round to the next: all below m, the block b, and from n on the blocks of a fault. -/
def KeepT (m b n : Nat) (W W' : World) : Prop :=
  W.heap.size ≤ W'.heap.size ∧ ∀ k, k < W.heap.size → (k < m ∨ k = b ∨ (n ≤ k ∧ ∃ cs fr, W.heap[k]? = some (.cells cs 143 fr))) → W'.heap[k]? = W.heap[k]?
theorem KeepT.trans {m b n : Nat} {A B C : World} (h : KeepT m b n A B) (k : KeepT m b n B C) : KeepT m b n A C := by
  refine ⟨Nat.le_trans h.1 k.1, fun i hi hx => ?_⟩
  have e := h.2 i hi hx
  refine (k.2 i (Nat.lt_of_lt_of_le hi h.1) ?_).trans e
  rcases hx with hx | hx | ⟨hx, cs, fr, ho⟩
  · exact .inl hx
  · exact .inr (.inl hx)
  · exact .inr (.inr ⟨hx, cs, fr, e.trans ho⟩)
theorem KeepT.put {m b n S : Nat} (hm : m ≤ S) (hb : b < S) (W : World) (l : Nat) (o o' : Obj) (hl : S ≤ l) (ho : W.heap[l]? = some o) (hc : o.isCells = false) : KeepT m b n W (W.putObj l o') := by
  refine ⟨by simp, fun k hk hx => World.putObj_heap_other ?_⟩
  rcases hx with hx | hx | ⟨hx, cs, fr, h⟩
  · omega
  · omega
  · rintro rfl
    rw [ho] at h
    cases h
    cases hc
/-- A block that is kept. -/
theorem KeepT.blk {m b n k : Nat} {W W' : World} {us : List Value} (h : KeepT m b n W W') (hB : Blk W k us) (hx : k < m ∨ k = b ∨ (n ≤ k ∧ ∃ cs fr, W.heap[k]? = some (.cells cs 143 fr))) : Blk W' k us := by
  have e := h.2 k hB.lt hx
  exact ⟨Nat.lt_of_lt_of_le hB.lt h.1, fun i v hv => (World.cell?_of_block (w := W) (a := ⟨k, i, none⟩) e).trans (hB.cell i v hv), fun i v hv => (World.frozen?_of_block (w := W) (a := ⟨k, i, none⟩) e).trans (hB.fr i v hv)⟩
theorem KeepT.sg {m b n : Nat} {W W' : World} (h : KeepT m b n W W') (hm : 4 < m) (hG : SG W) : SG W' := by
  refine ⟨Nat.lt_of_lt_of_le hG.1 h.1, fun i c hc => ?_⟩
  exact (World.cell?_of_block (w := W) (a := ⟨4, i, none⟩) (h.2 _ hG.1 (.inl hm))).trans (hG.2 i c hc)
end Go.Proofs.YtmfcjaoajanlfaaGreatDoor
namespace Go.Proofs.YtmfcjaoajanlfaaGreatDoor
open Go.RowKit Go.Shelf
open Tk7
attribute [local go_sem] Oper.semAt_some

/-- A token's three cells. -/
def tcell (x : NX) : List Value := [.int .i64 (x.kd : Int), .string (strOf x.tx), .int .i64 (x.at_ : Int)]
def tcells (xs : List NX) : List Value := xs.flatMap tcell
/-- What stands between two rounds. -/
structure TI (w : World) (pre : List NX) (W : World) : Prop where
  all : ∀ x ∈ pre, x.er = 0
  out : Blk W w.heap.size [.slice none 0 0]
  flt : Blk W (w.heap.size + 1) [.int .i64 0, .int .i64 0]
  row : ∃ v, Blk W (w.heap.size + 2) [v] ∧ W.ownsRow (w.heap.size + 4) 131 3 v pre.length (tcells pre)
  bel : Below w.heap.size w W
  big : w.heap.size + 4 ≤ W.heap.size
/-- What stands when a round has returned. -/
structure TX (w : World) (W : World) (er : Int) (ea : Nat) : Prop where
  out : Blk W w.heap.size [.slice none 0 0]
  flt : Blk W (w.heap.size + 1) [.int .i64 er, .int .i64 (ea : Int)]
  bel : Below w.heap.size w W
theorem TI.grown {w W W' : World} {pre : List NX} {row : Option Nat} (h : TI w pre W) (hg : W.grownBy W' row) (hr : ∀ j, row = some j → w.heap.size + 4 ≤ j ∧ ∃ o : Obj, W.heap[j]? = some o ∧ o.isCells = false) : TI w pre W' := by
  obtain ⟨v, h1, h2⟩ := h.row
  exact ⟨h.all, blk_noncells (by simp) h.out hg fun j e => (hr j e).2, blk_noncells (by simp) h.flt hg fun j e => (hr j e).2, ⟨v, blk_noncells (by simp) h1 hg fun j e => (hr j e).2, own_far h2 hg fun j e => .inr (hr j e).2⟩,
    h.bel.grown hg h.bel.size fun j e => by have := (hr j e).1; omega, Nat.le_trans h.big hg.size⟩
theorem TX.grown {w W W' : World} {er : Int} {ea : Nat} {row : Option Nat} (h : TX w W er ea) (hg : W.grownBy W' row) (hr : ∀ j, row = some j → w.heap.size + 4 ≤ j ∧ ∃ o : Obj, W.heap[j]? = some o ∧ o.isCells = false) : TX w W' er ea :=
  ⟨blk_noncells (by simp) h.out hg fun j e => (hr j e).2, blk_noncells (by simp) h.flt hg fun j e => (hr j e).2, h.bel.grown hg h.bel.size fun j e => by have := (hr j e).1; omega⟩
theorem keep_set {m b n c i : Nat} (W : World) (h1 : m ≤ c) (h2 : c ≠ b) (h3 : c < n) (u : Value) : KeepT m b n W (W.setCell ⟨c, i, none⟩ u) := by
  refine ⟨by simp [World.setCell], fun k _ hx => Below.heap_setCell _ _ _ _ ?_⟩
  show k ≠ c
  rcases hx with hx | hx | ⟨hx, _⟩ <;> omega
theorem keep_grown {m b n sz k : Nat} {W W1 : World} {v : Value} {us : List Value} (hv : W.ownsRow n 131 sz v k us) (hm : m ≤ n) (hb : b < n) (hg : W.grownBy W1 v.ownBlock) : KeepT m b n W W1 := by
  refine ⟨hg.size, fun j hj hx => hg.block j hj fun e => ?_⟩
  rcases hv.2 with ⟨rfl, _⟩ | ⟨g, cap, cur, rfl, hn, hh, _⟩
  · cases e
  · have : j = g := by simpa [Value.ownBlock] using e
    subst this
    rcases hx with hx | hx | ⟨_, cs, fr, ho⟩
    · omega
    · omega
    · rw [hh] at ho
      injection ho with ho
      injection ho with _ ht
      exact absurd ht (by decide)
end Go.Proofs.YtmfcjaoajanlfaaGreatDoor
namespace Go.Proofs.YtmfcjaoajanlfaaGreatDoor
open Go.RowKit
open Tk7

/-- A token: its kind, its text, and its offset, whatever they are. -/
abbrev TK := Int × List UInt8 × Int
def kcell (x : TK) : List Value := [.int .i64 x.1, .string (strOf x.2.1), .int .i64 x.2.2]
def kcells (xs : List TK) : List Value := xs.flatMap kcell
theorem kcells_get {xs : List TK} {k : Nat} (h : k < xs.length) : (kcells xs)[k * 3]? = some (.int .i64 xs[k].1) ∧ (kcells xs)[k * 3 + 1]? = some (.string (strOf xs[k].2.1)) ∧ (kcells xs)[k * 3 + 2]? = some (.int .i64 xs[k].2.2) :=
  ⟨flat_get (f := kcell) (n := 3) (fun _ => rfl) xs k h 0 (by decide), flat_get (f := kcell) (n := 3) (fun _ => rfl) xs k h 1 (by decide), flat_get (f := kcell) (n := 3) (fun _ => rfl) xs k h 2 (by decide)⟩
/-- The slice v holds these tokens. -/
def KSl (w : World) (v : Value) (xs : List TK) : Prop := Sl w 3 xs.length v (kcells xs)
theorem KSl.later {w w' : World} {v : Value} {xs : List TK} (h : KSl w v xs) (hb : Below w.heap.size w w') : KSl w' v xs := Sl.later h hb
theorem KSl.drewN {w : World} {v : Value} {xs : List TK} (h : KSl w v xs) (n : Nat) : KSl (w.drewN n) v xs := h.later (below_drewN (Below.refl _ _) n)
/-- What a slice of tokens gives a walk. -/
theorem KSl.at_ {w : World} {v : Value} {xs : List TK} (h : KSl w v xs) : ∃ (A : Option Addr) (cap : Nat), v = .slice A xs.length cap ∧ xs.length ≤ cap ∧ xs.length ≤ 9223372036854775807 ∧ (A = none → cap = 0) ∧
    ∀ (k : Nat) (hk : k < xs.length), ∃ a, A = some a ∧ a.block < w.heap.size ∧ w.cell? (a.add (k * 3)) = some (.int .i64 xs[k].1) ∧ w.cell? (a.add (k * 3 + 1)) = some (.string (strOf xs[k].2.1)) ∧ w.cell? (a.add (k * 3 + 2)) = some (.int .i64 xs[k].2.2) := by
  obtain ⟨h1, h2, A, cap, h3, h4, h5, h6⟩ := h
  refine ⟨A, cap, h3, h4, by unfold maxLen at h2; exact h2, h5, fun k hk => ?_⟩
  obtain ⟨g0, g1, g2⟩ := kcells_get hk
  obtain ⟨a, rfl, hlt, hc0⟩ := h6 _ _ g0
  obtain ⟨a', e1, _, hc1⟩ := h6 _ _ g1
  cases e1
  obtain ⟨a', e2, _, hc2⟩ := h6 _ _ g2
  cases e2
  exact ⟨a, rfl, hlt, hc0, hc1, hc2⟩
end Go.Proofs.YtmfcjaoajanlfaaGreatDoor
namespace Go.Proofs.YtmfcjaoajanlfaaGreatDoor
open Go.RowKit
open Tk7

/-- The error of a token. -/
def checkI (x : TK) : Int := if x.1 < 1 ∨ 4 < x.1 then 11 else if isTok x.1.toNat x.2.1 = false then 3 else if x.2.2 < 0 then 2 else 0
theorem next_tok {k : Nat} {l : List UInt8} (h : isTok k l = true) : nextX l (0 : Int) = ⟨k, l, 0, l.length, 0, 0⟩ := by
  have hn := nextX_nat (l := l) (k := 0) (Nat.zero_le _)
  rw [List.drop_zero] at hn
  refine hn.trans ?_
  cases l with
  | nil => simp [isTok] at h
  | cons b r =>
    have h1 := isTok_front h
    have h2 := (isTok_iff.1 h).1
    unfold nextG
    rw [List.dropWhile_cons, if_neg (by rw [h1]; decide)]
    simp only
    rw [h2]
    simp only
    rw [if_neg (by simp), Nat.sub_self]
    simp
theorem next_tok_only {k : Nat} {l : List UInt8} (hk : k ≠ 0) (h1 : (nextX l (0 : Int)).kd = k) (h2 : (nextX l (0 : Int)).tx = l) (h3 : (nextX l (0 : Int)).at_ = 0) : isTok k l = true := by
  have hn := nextX_nat (l := l) (k := 0) (Nat.zero_le _)
  rw [List.drop_zero] at hn
  have hn' : nextX l (0 : Int) = _ := hn
  rw [hn'] at h1 h2 h3
  unfold nextG at h1 h2 h3
  have hd := drop_len l
  cases hl : l.dropWhile blankB with
  | nil =>
    rw [hl] at h1
    exact absurd h1.symm hk
  | cons b r =>
    rw [hl] at h1 h2 h3 hd
    simp only at h1 h2 h3
    by_cases hz : (begG (b :: r)).2 = 0
    · rw [if_pos hz] at h1
      exact absurd h1.symm hk
    · rw [if_neg hz] at h1 h2 h3
      simp only at h1 h2 h3
      have hle := begG_le (b :: r)
      have hll : (b :: r).length = l.length := by omega
      have hbr : b :: r = l := by
        obtain ⟨g, hg1, _, hg3⟩ := dropWhile_split l
        rw [hl] at hg1 hg3
        have : g = [] := List.eq_nil_of_length_eq_zero (by omega)
        rw [this, List.nil_append] at hg1
        exact hg1.symm
      rw [hbr] at h1 h2 h3 hz hle
      rw [isTok_iff]
      refine ⟨?_, fun e => by rw [e] at hbr; cases hbr⟩
      have h4 := congrArg List.length h2
      rw [Nat.zero_add, Nat.sub_self, List.drop_zero, List.length_take] at h4
      have h5 : (begG l).2 = l.length := by omega
      rw [← h1, ← h5]
set_option maxRecDepth 100000 in
set_option maxHeartbeats 4000000 in
theorem check_any (K : Int) (l : List UInt8) (a : Int) (hl : l.length ≤ maxLen) (w : World) (hG : SG w) :
    Calls Tryz.prog 87 #[.agg #[.int .i64 K, .string (strOf l), .int .i64 a]] w fun e w' => e = .returned (.int .i64 (checkI (K, l, a))) ∧ Below w.heap.size w w' := by
  have hc : checkI (K, l, a) = if K < 1 ∨ 4 < K then 11 else if isTok K.toNat l = false then 3 else if a < 0 then 2 else 0 := rfl
  by_cases hk1 : K < 1
  · rw [hc, if_pos (Or.inl hk1)]
    clear hc
    go_enter Tryz.func87, Tryz.ntmps87
    go_wp2
    go_ret
    exact ⟨rfl, below1 _ _⟩
  · by_cases hk2 : 4 < K
    · rw [hc, if_pos (Or.inr hk2)]
      clear hc
      go_enter Tryz.func87, Tryz.ntmps87
      go_wp2
      go_ret
      exact ⟨rfl, below1 _ _⟩
    · rw [hc, if_neg (by omega)]
      have hN := fun w hG => next_any (strOf l) 0 (by rw [strOf_size]; exact hl) w hG
      unfold NextP at hN
      rw [strOf_dat] at hN
      obtain ⟨k, hk⟩ : ∃ k : Nat, k = K.toNat := ⟨_, rfl⟩
      have hKk : K = (k : Int) := by omega
      have hk0 : k ≠ 0 := by omega
      have hG1 := hG.later (below1 w (.cells #[.int .i64 K, .string (strOf l), .int .i64 a] 131))
      rw [← hk]
      clear hc hk
      subst hKk
      cases ht : isTok k l with
      | true =>
        rw [if_neg (by decide)]
        have hX := next_tok ht
        rw [hX] at hN
        have hN2 : ∀ w, SG w → Calls Tryz.prog 99 #[.string (strOf l), .int .i64 0] w fun e w' => e = .returned (.tuple #[.agg #[.int .i64 (k : Int), .string (strOf l), .int .i64 0], .int .i64 (l.length : Int), .agg #[.int .i64 0, .int .i64 0]]) ∧ Below w.heap.size w w' := hN
        clear hN ht hX
        obtain ⟨S, hS⟩ : ∃ S, S = strOf l := ⟨_, rfl⟩
        rw [← hS] at hN2 hG1 ⊢
        clear hS
        have hbx : ∀ w2 : World, Below (w.alloc (.cells #[.int .i64 (k : Int), .string S, .int .i64 a] 131)).heap.size (w.alloc (.cells #[.int .i64 (k : Int), .string S, .int .i64 a] 131)) w2 → Blk w2 w.heap.size [.int .i64 (k : Int), .string S, .int .i64 a] := fun w2 hb => (Blk.is _ rfl).later hb
        by_cases ha : a < 0
        · rw [if_pos ha]
          go_enter Tryz.func87, Tryz.ntmps87
          go_wp2_with (go_at_call 99; refine (hN2 _ hG1).mono ?_; rintro e w2 ⟨rfl, hb2⟩; have hq := hbx w2 hb2; have c0 := hq.cell 0 _ rfl; have c1 := hq.cell 1 _ rfl; have c2 := hq.cell 2 _ rfl; have hql := hq.lt)
          go_ret
          exact ⟨rfl, bstep (bstep (below1 _ _) hb2) (below2 _ _ _)⟩
        · rw [if_neg ha]
          go_enter Tryz.func87, Tryz.ntmps87
          go_wp2_with (go_at_call 99; refine (hN2 _ hG1).mono ?_; rintro e w2 ⟨rfl, hb2⟩; have hq := hbx w2 hb2; have c0 := hq.cell 0 _ rfl; have c1 := hq.cell 1 _ rfl; have c2 := hq.cell 2 _ rfl; have hql := hq.lt)
          go_ret
          exact ⟨rfl, bstep (bstep (below1 _ _) hb2) (below2 _ _ _)⟩
      | false =>
        rw [if_pos rfl]
        obtain ⟨X, hX⟩ : ∃ X, X = nextX l (0 : Int) := ⟨_, rfl⟩
        have hno : ¬ (X.kd = k ∧ X.tx = l ∧ X.at_ = 0) := fun h => by
          rw [hX] at h
          rw [next_tok_only hk0 h.1 h.2.1 h.2.2] at ht
          cases ht
        rw [← hX] at hN
        obtain ⟨kd, tx, at_, nx, er, ea⟩ := X
        simp only at hno
        have hN2 : ∀ w, SG w → Calls Tryz.prog 99 #[.string (strOf l), .int .i64 0] w fun e w' => e = .returned (.tuple #[.agg #[.int .i64 (kd : Int), .string (strOf tx), .int .i64 (at_ : Int)], .int .i64 (nx : Int), .agg #[.int .i64 er, .int .i64 (ea : Int)]]) ∧ Below w.heap.size w w' := hN
        clear hN hX ht
        have h3 : (kd ≠ k) ∨ (kd = k ∧ tx ≠ l) ∨ (kd = k ∧ tx = l ∧ at_ ≠ 0) := by
          by_cases h1 : kd = k
          · by_cases h2 : tx = l
            · exact .inr (.inr ⟨h1, h2, fun h => hno ⟨h1, h2, h⟩⟩)
            · exact .inr (.inl ⟨h1, h2⟩)
          · exact .inl h1
        have hbx : ∀ w2 : World, Below (w.alloc (.cells #[.int .i64 (k : Int), .string (strOf l), .int .i64 a] 131)).heap.size (w.alloc (.cells #[.int .i64 (k : Int), .string (strOf l), .int .i64 a] 131)) w2 → Blk w2 w.heap.size [.int .i64 (k : Int), .string (strOf l), .int .i64 a] := fun w2 hb => (Blk.is _ rfl).later hb
        have hl1 : (strOf tx).toList = tx := strOf_toL tx
        have hl2 : (strOf l).toList = l := strOf_toL l
        rcases h3 with h | ⟨rfl, h⟩ | ⟨rfl, rfl, h⟩
        · have b1 : ((kd : Int) == (k : Int)) = false := by rw [beq_eq_false_iff_ne]; omega
          have n1 : ¬ (kd : Int) = (k : Int) := by omega
          have n2 : ¬ kd = k := h
          obtain ⟨S, hS⟩ : ∃ S, S = strOf l := ⟨_, rfl⟩
          obtain ⟨S2, hS2⟩ : ∃ S, S = strOf tx := ⟨_, rfl⟩
          rw [← hS] at hN2 hG1 hbx ⊢
          rw [← hS2] at hN2
          clear hS hS2 hno hl1 hl2 h
          go_enter Tryz.func87, Tryz.ntmps87
          go_wp2_with (go_at_call 99; refine (hN2 _ hG1).mono ?_; rintro e w2 ⟨rfl, hb2⟩; have hq := hbx w2 hb2; have c0 := hq.cell 0 _ rfl; have c1 := hq.cell 1 _ rfl; have c2 := hq.cell 2 _ rfl; have hql := hq.lt)
          go_ret
          exact ⟨rfl, bstep (bstep (below1 _ _) hb2) (below2 _ _ _)⟩
        · have b1 : ((strOf tx).toList == (strOf l).toList) = false := by rw [hl1, hl2, beq_eq_false_iff_ne]; exact h
          have n1 : ¬ (strOf tx).toList = (strOf l).toList := by rw [hl1, hl2]; exact h
          obtain ⟨S, hS⟩ : ∃ S, S = strOf l := ⟨_, rfl⟩
          obtain ⟨S2, hS2⟩ : ∃ S, S = strOf tx := ⟨_, rfl⟩
          rw [← hS] at hN2 hG1 hbx b1 n1 ⊢
          rw [← hS2] at hN2 b1 n1
          clear hS hS2 hno hl1 hl2 h
          go_enter Tryz.func87, Tryz.ntmps87
          go_wp2_with (go_at_call 99; refine (hN2 _ hG1).mono ?_; rintro e w2 ⟨rfl, hb2⟩; have hq := hbx w2 hb2; have c0 := hq.cell 0 _ rfl; have c1 := hq.cell 1 _ rfl; have c2 := hq.cell 2 _ rfl; have hql := hq.lt)
          go_ret
          exact ⟨rfl, bstep (bstep (below1 _ _) hb2) (below2 _ _ _)⟩
        · have b1 : ((at_ : Int) == 0) = false := by rw [beq_eq_false_iff_ne]; omega
          have n1 : ¬ (at_ : Int) = 0 := by omega
          have n2 : ¬ at_ = 0 := h
          obtain ⟨S, hS⟩ : ∃ S, S = strOf tx := ⟨_, rfl⟩
          rw [← hS] at hN2 hG1 hbx ⊢
          clear hS hno hl1 hl2 h
          go_enter Tryz.func87, Tryz.ntmps87
          go_wp2_with (go_at_call 99; refine (hN2 _ hG1).mono ?_; rintro e w2 ⟨rfl, hb2⟩; have hq := hbx w2 hb2; have c0 := hq.cell 0 _ rfl; have c1 := hq.cell 1 _ rfl; have c2 := hq.cell 2 _ rfl; have hql := hq.lt)
          go_ret
          exact ⟨rfl, bstep (bstep (below1 _ _) hb2) (below2 _ _ _)⟩
end Go.Proofs.YtmfcjaoajanlfaaGreatDoor
namespace Go.Proofs.YtmfcjaoajanlfaaGreatDoor
open Go.RowKit
open Tk7

end Go.Proofs.YtmfcjaoajanlfaaGreatDoor
namespace Go.Proofs.YtmfcjaoajanlfaaGreatDoor
open Go.RowKit
open Tk7

/-- The words of the language. -/
def wordsL : List (List UInt8) := [[119, 105, 116, 104, 105, 110], [104, 97, 118, 105, 110, 103], [97, 110, 100], [101, 109, 105, 116], [110, 111, 116], [99, 111, 117, 110, 116], [115, 117, 109], [109, 105, 110], [109, 97, 120], [102, 105, 114, 115, 116], [108, 97, 115, 116]]
def wordB (s : ByteArray) : Bool := wordsL.any fun c => decide (s = strOf c)
end Go.Proofs.YtmfcjaoajanlfaaGreatDoor
namespace Go.Proofs.YtmfcjaoajanlfaaGreatDoor
open Go.RowKit
open Tk7

theorem word_is {s : ByteArray} {c : List UInt8} (hc : c ∈ wordsL) (h : s = strOf c) : wordB s = true := by
  unfold wordB
  rw [List.any_eq_true]
  exact ⟨c, hc, decide_eq_true h⟩
theorem str_nel {s : ByteArray} {l : List UInt8} (h : ¬ s = strOf l) : (s.toList == l) = false := by
  have := str_ne h
  rwa [strOf_toL] at this
theorem word_not {s : ByteArray} (h : ∀ c ∈ wordsL, ¬ s = strOf c) : wordB s = false := by
  cases hb : wordB s with
  | false => rfl
  | true =>
    unfold wordB at hb
    rw [List.any_eq_true] at hb
    obtain ⟨c, hc, hd⟩ := hb
    exact absurd (of_decide_eq_true hd) (h c hc)
set_option maxRecDepth 100000 in
theorem word_0 (w : World) : Calls Tryz.prog 86 #[.string ⟨#[119, 105, 116, 104, 105, 110]⟩] w fun e w' => e = .returned (.bool true) ∧ w = w' := by
  go_enter Tryz.func86, Tryz.ntmps86
  go_wp2
  go_ret
  exact ⟨rfl, by first | rfl | trivial⟩
set_option maxRecDepth 100000 in
theorem word_1 (w : World) : Calls Tryz.prog 86 #[.string ⟨#[104, 97, 118, 105, 110, 103]⟩] w fun e w' => e = .returned (.bool true) ∧ w = w' := by
  go_enter Tryz.func86, Tryz.ntmps86
  go_wp2
  go_ret
  exact ⟨rfl, by first | rfl | trivial⟩
set_option maxRecDepth 100000 in
theorem word_2 (w : World) : Calls Tryz.prog 86 #[.string ⟨#[97, 110, 100]⟩] w fun e w' => e = .returned (.bool true) ∧ w = w' := by
  go_enter Tryz.func86, Tryz.ntmps86
  go_wp2
  go_ret
  exact ⟨rfl, by first | rfl | trivial⟩
set_option maxRecDepth 100000 in
theorem word_3 (w : World) : Calls Tryz.prog 86 #[.string ⟨#[101, 109, 105, 116]⟩] w fun e w' => e = .returned (.bool true) ∧ w = w' := by
  go_enter Tryz.func86, Tryz.ntmps86
  go_wp2
  go_ret
  exact ⟨rfl, by first | rfl | trivial⟩
set_option maxRecDepth 100000 in
theorem word_4 (w : World) : Calls Tryz.prog 86 #[.string ⟨#[110, 111, 116]⟩] w fun e w' => e = .returned (.bool true) ∧ w = w' := by
  go_enter Tryz.func86, Tryz.ntmps86
  go_wp2
  go_ret
  exact ⟨rfl, by first | rfl | trivial⟩
set_option maxRecDepth 100000 in
theorem word_5 (w : World) : Calls Tryz.prog 86 #[.string ⟨#[99, 111, 117, 110, 116]⟩] w fun e w' => e = .returned (.bool true) ∧ w = w' := by
  go_enter Tryz.func86, Tryz.ntmps86
  go_wp2
  go_ret
  exact ⟨rfl, by first | rfl | trivial⟩
set_option maxRecDepth 100000 in
theorem word_6 (w : World) : Calls Tryz.prog 86 #[.string ⟨#[115, 117, 109]⟩] w fun e w' => e = .returned (.bool true) ∧ w = w' := by
  go_enter Tryz.func86, Tryz.ntmps86
  go_wp2
  go_ret
  exact ⟨rfl, by first | rfl | trivial⟩
set_option maxRecDepth 100000 in
theorem word_7 (w : World) : Calls Tryz.prog 86 #[.string ⟨#[109, 105, 110]⟩] w fun e w' => e = .returned (.bool true) ∧ w = w' := by
  go_enter Tryz.func86, Tryz.ntmps86
  go_wp2
  go_ret
  exact ⟨rfl, by first | rfl | trivial⟩
set_option maxRecDepth 100000 in
theorem word_8 (w : World) : Calls Tryz.prog 86 #[.string ⟨#[109, 97, 120]⟩] w fun e w' => e = .returned (.bool true) ∧ w = w' := by
  go_enter Tryz.func86, Tryz.ntmps86
  go_wp2
  go_ret
  exact ⟨rfl, by first | rfl | trivial⟩
set_option maxRecDepth 100000 in
theorem word_9 (w : World) : Calls Tryz.prog 86 #[.string ⟨#[102, 105, 114, 115, 116]⟩] w fun e w' => e = .returned (.bool true) ∧ w = w' := by
  go_enter Tryz.func86, Tryz.ntmps86
  go_wp2
  go_ret
  exact ⟨rfl, by first | rfl | trivial⟩
set_option maxRecDepth 100000 in
theorem word_10 (w : World) : Calls Tryz.prog 86 #[.string ⟨#[108, 97, 115, 116]⟩] w fun e w' => e = .returned (.bool true) ∧ w = w' := by
  go_enter Tryz.func86, Tryz.ntmps86
  go_wp2
  go_ret
  exact ⟨rfl, by first | rfl | trivial⟩
set_option maxRecDepth 100000 in
theorem word_no (s : ByteArray) (h0 : (s.toList == [119, 105, 116, 104, 105, 110]) = false) (h1 : (s.toList == [104, 97, 118, 105, 110, 103]) = false) (h2 : (s.toList == [97, 110, 100]) = false) (h3 : (s.toList == [101, 109, 105, 116]) = false) (h4 : (s.toList == [110, 111, 116]) = false) (h5 : (s.toList == [99, 111, 117, 110, 116]) = false) (h6 : (s.toList == [115, 117, 109]) = false) (h7 : (s.toList == [109, 105, 110]) = false) (h8 : (s.toList == [109, 97, 120]) = false) (h9 : (s.toList == [102, 105, 114, 115, 116]) = false) (h10 : (s.toList == [108, 97, 115, 116]) = false) (w : World) : Calls Tryz.prog 86 #[.string s] w fun e w' => e = .returned (.bool false) ∧ w = w' := by
  go_enter Tryz.func86, Tryz.ntmps86
  go_wp2
  go_ret
  exact ⟨rfl, by first | rfl | trivial⟩
theorem word_any (s : ByteArray) (w : World) : Calls Tryz.prog 86 #[.string s] w fun e w' => e = .returned (.bool (wordB s)) ∧ w = w' := by
  by_cases n0 : s = ⟨#[119, 105, 116, 104, 105, 110]⟩
  · subst n0
    rw [show wordB ⟨#[119, 105, 116, 104, 105, 110]⟩ = true from word_is (c := [119, 105, 116, 104, 105, 110]) (by decide) rfl]
    exact word_0 w
  by_cases n1 : s = ⟨#[104, 97, 118, 105, 110, 103]⟩
  · subst n1
    rw [show wordB ⟨#[104, 97, 118, 105, 110, 103]⟩ = true from word_is (c := [104, 97, 118, 105, 110, 103]) (by decide) rfl]
    exact word_1 w
  by_cases n2 : s = ⟨#[97, 110, 100]⟩
  · subst n2
    rw [show wordB ⟨#[97, 110, 100]⟩ = true from word_is (c := [97, 110, 100]) (by decide) rfl]
    exact word_2 w
  by_cases n3 : s = ⟨#[101, 109, 105, 116]⟩
  · subst n3
    rw [show wordB ⟨#[101, 109, 105, 116]⟩ = true from word_is (c := [101, 109, 105, 116]) (by decide) rfl]
    exact word_3 w
  by_cases n4 : s = ⟨#[110, 111, 116]⟩
  · subst n4
    rw [show wordB ⟨#[110, 111, 116]⟩ = true from word_is (c := [110, 111, 116]) (by decide) rfl]
    exact word_4 w
  by_cases n5 : s = ⟨#[99, 111, 117, 110, 116]⟩
  · subst n5
    rw [show wordB ⟨#[99, 111, 117, 110, 116]⟩ = true from word_is (c := [99, 111, 117, 110, 116]) (by decide) rfl]
    exact word_5 w
  by_cases n6 : s = ⟨#[115, 117, 109]⟩
  · subst n6
    rw [show wordB ⟨#[115, 117, 109]⟩ = true from word_is (c := [115, 117, 109]) (by decide) rfl]
    exact word_6 w
  by_cases n7 : s = ⟨#[109, 105, 110]⟩
  · subst n7
    rw [show wordB ⟨#[109, 105, 110]⟩ = true from word_is (c := [109, 105, 110]) (by decide) rfl]
    exact word_7 w
  by_cases n8 : s = ⟨#[109, 97, 120]⟩
  · subst n8
    rw [show wordB ⟨#[109, 97, 120]⟩ = true from word_is (c := [109, 97, 120]) (by decide) rfl]
    exact word_8 w
  by_cases n9 : s = ⟨#[102, 105, 114, 115, 116]⟩
  · subst n9
    rw [show wordB ⟨#[102, 105, 114, 115, 116]⟩ = true from word_is (c := [102, 105, 114, 115, 116]) (by decide) rfl]
    exact word_9 w
  by_cases n10 : s = ⟨#[108, 97, 115, 116]⟩
  · subst n10
    rw [show wordB ⟨#[108, 97, 115, 116]⟩ = true from word_is (c := [108, 97, 115, 116]) (by decide) rfl]
    exact word_10 w
  rw [show wordB s = false from word_not (fun c hc h => by
    subst h
    simp only [wordsL, List.mem_cons, List.not_mem_nil, or_false] at hc
    rcases hc with rfl | rfl | rfl | rfl | rfl | rfl | rfl | rfl | rfl | rfl | rfl
    · exact n0 rfl
    · exact n1 rfl
    · exact n2 rfl
    · exact n3 rfl
    · exact n4 rfl
    · exact n5 rfl
    · exact n6 rfl
    · exact n7 rfl
    · exact n8 rfl
    · exact n9 rfl
    · exact n10 rfl
    )]
  exact word_no s (str_nel n0) (str_nel n1) (str_nel n2) (str_nel n3) (str_nel n4) (str_nel n5) (str_nel n6) (str_nel n7) (str_nel n8) (str_nel n9) (str_nel n10) w
end Go.Proofs.YtmfcjaoajanlfaaGreatDoor
