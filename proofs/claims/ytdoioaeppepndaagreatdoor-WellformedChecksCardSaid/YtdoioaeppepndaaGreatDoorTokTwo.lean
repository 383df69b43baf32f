/- Package token: all tokens, checks, words. -/
import Derived.Test.YtdoioaeppepndaaGreatDoorTokOneB
import Derived.RangeFuncNested
import Derived.RangeFuncFrom
import Derived.RangeFuncBox
import Derived.RangeFuncBound
import Derived.RangeFuncCalls
import Derived.RangeFuncLeaves
import Derived.Shelf.Abstract
import Derived.Shelf.RegionOpen
import Derived.WalkKit
import Derived.OwnWalkIn
import Derived.TacticsInMore
import Derived.LoopNIn
import Derived.LoopIn
import Derived.Outline
import Derived.Test.YtdoioaeppepndaaGreatDoorSl
import Derived.Test.YtdoioaeppepndaaGreatDoorRg
import Derived.Deep.LoopGhost
import Derived.BigQuiet
import Derived.Deep.Slices
namespace Go.Proofs.YtdoioaeppepndaaGreatDoor
open Go.RowKit
open Tk7

/-- What is handed out from the place k on. -/
def seqX (l : List UInt8) : Nat → Nat → List NX
  | 0, _ => []
  | f + 1, k => if (nextX l (k : Int)).er = 5 then [] else if (nextX l (k : Int)).er = 0 then nextX l (k : Int) :: seqX l f (nextX l (k : Int)).nx else [nextX l (k : Int)]
def okX (t : T) : NX := ⟨t.1, t.2.1, t.2.2, t.2.2 + t.2.1.length, 0, 0⟩
def badX (e : Int × Nat) : NX := ⟨0, [], 0, 0, e.1, e.2⟩
theorem nextX_nat {l : List UInt8} {k : Nat} (hk : k ≤ l.length) : nextX l (k : Int) = match nextG (l.drop k) k with
    | .error e => badX e
    | .ok (kd, p, n) => ⟨kd, (l.drop p).take n, p, p + n, 0, 0⟩ := by
  unfold nextX
  rw [if_neg (by omega), Int.toNat_natCast]
  cases nextG (l.drop k) k with
  | error e => rfl
  | ok x => rfl
/-- The next token, read off the rest of the text. -/
theorem next_cases {l : List UInt8} {k : Nat} (hk : k ≤ l.length) :
    (toksG (l.drop k) k = .ok [] ∧ nextX l (k : Int) = badX (5, l.length)) ∨
    (∃ p, toksG (l.drop k) k = .error (3, p) ∧ nextX l (k : Int) = badX (3, p)) ∨
    (∃ t : T, toksG (l.drop k) k = glue t (toksG (l.drop (t.2.2 + t.2.1.length)) (t.2.2 + t.2.1.length)) ∧ nextX l (k : Int) = okX t ∧ k < t.2.2 + t.2.1.length ∧ t.2.2 + t.2.1.length ≤ l.length) := by
  rw [nextX_nat hk, toksG_eq]
  unfold nextG
  have h1 := drop_len (l.drop k)
  have hl : (l.drop k).length = l.length - k := List.length_drop
  have hdd : (l.drop k).dropWhile blankB = l.drop (k + ((l.drop k).takeWhile blankB).length) := by rw [drop_while, List.drop_drop]
  have htl : ((l.drop k).takeWhile blankB).length = (l.drop k).length - ((l.drop k).dropWhile blankB).length := by
    have := congrArg List.length (List.takeWhile_append_dropWhile (p := blankB) (l := l.drop k))
    rw [List.length_append] at this
    omega
  cases hd : (l.drop k).dropWhile blankB with
  | nil =>
    left
    refine ⟨rfl, ?_⟩
    simp only
    rw [hl, show k + (l.length - k) = l.length by omega]
  | cons b r =>
    rw [hd] at h1 hdd htl
    right
    simp only
    by_cases hz : (begG (b :: r)).2 = 0
    · left
      rw [if_pos hz, if_pos hz]
      exact ⟨_, rfl, rfl⟩
    · right
      rw [if_neg hz, if_neg hz]
      have hle := begG_le (b :: r)
      have e1 : k + ((l.drop k).length - (b :: r).length) = k + ((l.drop k).takeWhile blankB).length := by rw [htl]
      rw [e1]
      obtain ⟨p, hp⟩ : ∃ p, p = k + ((l.drop k).takeWhile blankB).length := ⟨_, rfl⟩
      rw [← hp] at hdd ⊢
      have hlen : ((b :: r).take (begG (b :: r)).2).length = (begG (b :: r)).2 := by rw [List.length_take]; exact Nat.min_eq_left hle
      have hpl : (b :: r).length = l.length - p := by rw [hdd, List.length_drop]
      refine ⟨((begG (b :: r)).1, (b :: r).take (begG (b :: r)).2, p), ?_, ?_, ?_, ?_⟩
      · simp only
        rw [hlen, hdd, List.drop_drop]
      · simp only
        unfold okX
        simp only
        rw [hlen, hdd]
      · show k < p + ((b :: r).take (begG (b :: r)).2).length
        rw [hlen]; omega
      · show p + ((b :: r).take (begG (b :: r)).2).length ≤ l.length
        rw [hlen]
        simp only [List.length_cons] at hpl hle h1
        omega
/-- What is handed out, against the tokens. -/
theorem seq_toks (l : List UInt8) : ∀ (f k : Nat), k ≤ l.length → l.length - k < f →
    (∃ ts : List T, toksG (l.drop k) k = .ok ts ∧ seqX l f k = ts.map okX) ∨ (∃ (e : Int × Nat) (ts : List T), toksG (l.drop k) k = .error e ∧ e.1 = 3 ∧ seqX l f k = ts.map okX ++ [badX e]) := by
  intro f
  induction f with
  | zero => intro k _ h; omega
  | succ f ih =>
    intro k hk hf
    rcases next_cases hk with ⟨h1, h2⟩ | ⟨p, h1, h2⟩ | ⟨t, h1, h2, h3, h4⟩
    · left
      refine ⟨[], h1, ?_⟩
      unfold seqX
      rw [h2, if_pos (by rfl)]
      rfl
    · right
      refine ⟨_, [], h1, rfl, ?_⟩
      unfold seqX
      rw [h2, if_neg (by show ¬ (3 : Int) = 5; decide), if_neg (by show ¬ (3 : Int) = 0; decide)]
      rfl
    · have hs : seqX l (f + 1) k = okX t :: seqX l f (t.2.2 + t.2.1.length) := by
        rw [seqX, h2, if_neg (by show ¬ (0 : Int) = 5; decide), if_pos (by rfl)]
        rfl
      rw [hs, h1]
      rcases ih _ h4 (by omega) with ⟨ts, h5, h6⟩ | ⟨e, ts, h5, h6, h7⟩
      · left
        exact ⟨t :: ts, by rw [h5]; rfl, by rw [h6]; rfl⟩
      · right
        exact ⟨e, t :: ts, by rw [h5]; rfl, h6, by rw [h7]; rfl⟩
/-- All that is handed out of a text. -/
def seqA (l : List UInt8) : List NX := seqX l (l.length + 1) 0
theorem seqX_len (l : List UInt8) : ∀ (f k : Nat), (seqX l f k).length ≤ f := by
  intro f
  induction f with
  | zero => intro k; exact Nat.le_refl _
  | succ f ih =>
    intro k
    unfold seqX
    split
    · simp
    · split
      · have := ih (nextX l (k : Int)).nx
        simp only [List.length_cons]; omega
      · simp
end Go.Proofs.YtdoioaeppepndaaGreatDoor
namespace Go.Proofs.YtdoioaeppepndaaGreatDoor
open Go.RowKit Go.Shelf
open Tk7
attribute [local go_sem] Oper.semAt_some

/-- What is kept from one round to the next: all below m, the block b, and from n on the blocks of a fault. -/
def KeepT (m b n : Nat) (W W' : World) : Prop :=
  W.heap.size ≤ W'.heap.size ∧ ∀ k, k < W.heap.size → (k < m ∨ k = b ∨ (n ≤ k ∧ ∃ cs fr, W.heap[k]? = some (.cells cs 184 fr))) → W'.heap[k]? = W.heap[k]?
theorem KeepT.trans {m b n : Nat} {A B C : World} (h : KeepT m b n A B) (k : KeepT m b n B C) : KeepT m b n A C := by
  refine ⟨Nat.le_trans h.1 k.1, fun i hi hx => ?_⟩
  have e := h.2 i hi hx
  refine (k.2 i (Nat.lt_of_lt_of_le hi h.1) ?_).trans e
  rcases hx with hx | hx | ⟨hx, cs, fr, ho⟩
  · exact .inl hx
  · exact .inr (.inl hx)
  · exact .inr (.inr ⟨hx, cs, fr, e.trans ho⟩)
theorem KeepT.put {m b n S : Nat} (hm : m ≤ S) (hb : b < S) (W : World) (l : Nat) (o o' : Obj) (hl : S ≤ l) (ho : W.heap[l]? = some o) (hc : o.isCells = false) : KeepT m b n W (W.putObj l o') := by
  refine ⟨by simp, fun k hk hx => World.putObj_heap_other ?_⟩
  rcases hx with hx | hx | ⟨hx, cs, fr, h⟩
  · omega
  · omega
  · rintro rfl
    rw [ho] at h
    cases h
    cases hc
/-- A block that is kept. -/
theorem KeepT.blk {m b n k : Nat} {W W' : World} {us : List Value} (h : KeepT m b n W W') (hB : Blk W k us) (hx : k < m ∨ k = b ∨ (n ≤ k ∧ ∃ cs fr, W.heap[k]? = some (.cells cs 184 fr))) : Blk W' k us := by
  have e := h.2 k hB.lt hx
  exact ⟨Nat.lt_of_lt_of_le hB.lt h.1, fun i v hv => (World.cell?_of_block (w := W) (a := ⟨k, i, none⟩) e).trans (hB.cell i v hv), fun i v hv => (World.frozen?_of_block (w := W) (a := ⟨k, i, none⟩) e).trans (hB.fr i v hv)⟩
theorem KeepT.sg {m b n : Nat} {W W' : World} (h : KeepT m b n W W') (hm : 0 < m) (hG : SG W) : SG W' := by
  refine ⟨Nat.lt_of_lt_of_le hG.1 h.1, fun i c hc => ?_⟩
  exact (World.cell?_of_block (w := W) (a := ⟨0, i, none⟩) (h.2 _ hG.1 (.inl hm))).trans (hG.2 i c hc)
def tokV (x : NX) : Value := .agg #[.int .i64 (x.kd : Int), .string (strOf x.tx), .int .i64 (x.at_ : Int)]
def fltV (x : NX) : Value := .agg #[.int .i64 x.er, .int .i64 (x.ea : Int)]
theorem abide {β : Type} {B : Nat} {J : β → World → Prop} (h : AbidesFrom B J) {s : β} {W W' : World} (hJ : J s W) (hb : Below W.heap.size W W') : J s W' :=
  h s W W' none hJ (grown_below _ _ hb) (fun r e => by cases e)
theorem below_two {w w2 : World} (hb : Below w.heap.size w w2) (o p : Obj) : Below w.heap.size w ((w2.alloc o).alloc p) := (hb.alloc hb.size o).alloc (by have := hb.size; simp; omega) p
end Go.Proofs.YtdoioaeppepndaaGreatDoor
namespace Go.Proofs.YtdoioaeppepndaaGreatDoor
open Go.RowKit Go.Shelf
open Tk7
attribute [local go_sem] Oper.semAt_some

/-- A token's three cells. -/
def tcell (x : NX) : List Value := [.int .i64 (x.kd : Int), .string (strOf x.tx), .int .i64 (x.at_ : Int)]
def tcells (xs : List NX) : List Value := xs.flatMap tcell
theorem tcells_len (xs : List NX) : (tcells xs).length = xs.length * 3 := by
  induction xs with
  | nil => rfl
  | cons x xs ih => show (tcell x ++ tcells xs).length = _; rw [List.length_append, ih, List.length_cons]; show 3 + _ = _; omega
theorem tcells_snoc (xs : List NX) (x : NX) : tcells (xs ++ [x]) = tcells xs ++ tcell x := by unfold tcells; simp
theorem infoTok : (Tryz.prog.info? 179).map (fun i => (i.zero, i.size, i.bytes)) = some (some (.agg #[.int .i64 0, .string ⟨#[]⟩, .int .i64 0]), 3, 32) := by kernel_rfl
/-- What stands between two rounds. -/
structure TI (w : World) (pre : List NX) (W : World) : Prop where
  all : ∀ x ∈ pre, x.er = 0
  out : Blk W w.heap.size [.slice none 0 0]
  flt : Blk W (w.heap.size + 1) [.int .i64 0, .int .i64 0]
  row : ∃ v, Blk W (w.heap.size + 2) [v] ∧ W.ownsRow (w.heap.size + 4) 179 3 v pre.length (tcells pre)
  bel : Below w.heap.size w W
  big : w.heap.size + 4 ≤ W.heap.size
/-- What stands when a round has returned. -/
structure TX (w : World) (W : World) (er : Int) (ea : Nat) : Prop where
  out : Blk W w.heap.size [.slice none 0 0]
  flt : Blk W (w.heap.size + 1) [.int .i64 er, .int .i64 (ea : Int)]
  bel : Below w.heap.size w W
theorem TI.grown {w W W' : World} {pre : List NX} {row : Option Nat} (h : TI w pre W) (hg : W.grownBy W' row) (hr : ∀ j, row = some j → w.heap.size + 4 ≤ j ∧ ∃ o : Obj, W.heap[j]? = some o ∧ o.isCells = false) : TI w pre W' := by
  obtain ⟨v, h1, h2⟩ := h.row
  exact ⟨h.all, blk_noncells (by simp) h.out hg fun j e => (hr j e).2, blk_noncells (by simp) h.flt hg fun j e => (hr j e).2, ⟨v, blk_noncells (by simp) h1 hg fun j e => (hr j e).2, own_far h2 hg fun j e => .inr (hr j e).2⟩,
    h.bel.grown hg h.bel.size fun j e => by have := (hr j e).1; omega, Nat.le_trans h.big hg.size⟩
theorem TX.grown {w W W' : World} {er : Int} {ea : Nat} {row : Option Nat} (h : TX w W er ea) (hg : W.grownBy W' row) (hr : ∀ j, row = some j → w.heap.size + 4 ≤ j ∧ ∃ o : Obj, W.heap[j]? = some o ∧ o.isCells = false) : TX w W' er ea :=
  ⟨blk_noncells (by simp) h.out hg fun j e => (hr j e).2, blk_noncells (by simp) h.flt hg fun j e => (hr j e).2, h.bel.grown hg h.bel.size fun j e => by have := (hr j e).1; omega⟩
/-- What the tokens of a text are, or its fault. -/
def toksR (l : List UInt8) : Except (Int × Nat) (List T) := if 400 < l.length then .error (4, 400) else toksG l 0
/-- What asking for the tokens of a text gives. -/
def ToksP (w : World) (t : List UInt8) (e : Ending) (w' : World) : Prop :=
  Below w.heap.size w w' ∧
  ((∃ (er : Int) (a : Nat), toksR t = .error (er, a) ∧ e = .returned (.tuple #[.slice none 0 0, .agg #[.int .i64 er, .int .i64 (a : Int)]])) ∨
   (∃ ts v, toksR t = .ok ts ∧ e = .returned (.tuple #[v, .agg #[.int .i64 0, .int .i64 0]]) ∧ w'.ownsRow w.heap.size 179 3 v ts.length (tcells (ts.map okX))))
/-- The two results, written. -/
theorem rf_out {w W : World} {B : Nat} {x0 y0 y1 : Value} (h0 : Blk W B [x0]) (h1 : Blk W (B + 1) [y0, y1]) (hB : Below B w W) (u0 v0 v1 : Value) (V : World)
    (hV : V = ((W.setCell ⟨B, 0, none⟩ u0).setCell ⟨B + 1, 0, none⟩ v0).setCell ⟨B + 1, 1, none⟩ v1) :
    Blk V B [u0] ∧ Blk V (B + 1) [v0, v1] ∧ Below B w V ∧ KeepsOthers W V ∧ (W.heap.size = V.heap.size) ∧ (∀ {base sz n : Nat} {e : TypeId} {v : Value} {us : List Value}, B + 2 ≤ base → W.ownsRow base e sz v n us → V.ownsRow base e sz v n us) ∧ (∀ k, k ≠ B → k ≠ B + 1 → V.heap[k]? = W.heap[k]?) := by
  subst hV
  refine ⟨((h0.set 0 u0).other (by simp) _).other (by simp) _, ((h1.other (p := ⟨B, 0, none⟩) (by simp) _).set 0 v0).set 1 v1, ?_, ?_, by simp [World.setCell], fun hb ho => ?_, fun k hk hk1 => ?_⟩
  · exact ((hB.setCell (p := ⟨B, 0, none⟩) (by simp) _).setCell (p := ⟨B + 1, 0, none⟩) (by simp) _).setCell (p := ⟨B + 1, 1, none⟩) (by simp) _
  · exact ((KeepsOthers.setCell _ _ _).trans (KeepsOthers.setCell _ _ _)).trans (KeepsOthers.setCell _ _ _)
  · exact own_set (own_set (own_set ho (by omega) _ _) (by omega) _ _) (by omega) _ _
  · exact (Below.heap_setCell _ _ _ _ hk1).trans ((Below.heap_setCell _ _ _ _ hk1).trans (Below.heap_setCell _ _ _ _ hk))
theorem keep_below {m b n : Nat} (W W' : World) (h : Below W.heap.size W W') : KeepT m b n W W' := ⟨h.size, fun k hk _ => h.block k hk⟩
theorem keep_set {m b n c i : Nat} (W : World) (h1 : m ≤ c) (h2 : c ≠ b) (h3 : c < n) (u : Value) : KeepT m b n W (W.setCell ⟨c, i, none⟩ u) := by
  refine ⟨by simp [World.setCell], fun k _ hx => Below.heap_setCell _ _ _ _ ?_⟩
  show k ≠ c
  rcases hx with hx | hx | ⟨hx, _⟩ <;> omega
theorem keep_grown {m b n sz k : Nat} {W W1 : World} {v : Value} {us : List Value} (hv : W.ownsRow n 179 sz v k us) (hm : m ≤ n) (hb : b < n) (hg : W.grownBy W1 v.ownBlock) : KeepT m b n W W1 := by
  refine ⟨hg.size, fun j hj hx => hg.block j hj fun e => ?_⟩
  rcases hv.2 with ⟨rfl, _⟩ | ⟨g, cap, cur, rfl, hn, hh, _⟩
  · cases e
  · have : j = g := by simpa [Value.ownBlock] using e
    subst this
    rcases hx with hx | hx | ⟨_, cs, fr, ho⟩
    · omega
    · omega
    · rw [hh] at ho
      injection ho with ho
      injection ho with _ ht
      exact absurd ht (by decide)
end Go.Proofs.YtdoioaeppepndaaGreatDoor
namespace Go.Proofs.YtdoioaeppepndaaGreatDoor
open Go.RowKit
open Tk7

/-- A token: its kind, its text, and its offset, whatever they are. -/
abbrev TK := Int × List UInt8 × Int
def kcell (x : TK) : List Value := [.int .i64 x.1, .string (strOf x.2.1), .int .i64 x.2.2]
def kcells (xs : List TK) : List Value := xs.flatMap kcell
theorem kcells_len (xs : List TK) : (kcells xs).length = xs.length * 3 := by
  induction xs with
  | nil => rfl
  | cons x xs ih => show (kcell x ++ kcells xs).length = _; rw [List.length_append, ih, List.length_cons]; show 3 + _ = _; omega
theorem kcells_app (a b : List TK) : kcells (a ++ b) = kcells a ++ kcells b := by unfold kcells; simp
theorem kcells_get {xs : List TK} {k : Nat} (h : k < xs.length) : (kcells xs)[k * 3]? = some (.int .i64 xs[k].1) ∧ (kcells xs)[k * 3 + 1]? = some (.string (strOf xs[k].2.1)) ∧ (kcells xs)[k * 3 + 2]? = some (.int .i64 xs[k].2.2) :=
  ⟨flat_get (f := kcell) (n := 3) (fun _ => rfl) xs k h 0 (by decide), flat_get (f := kcell) (n := 3) (fun _ => rfl) xs k h 1 (by decide), flat_get (f := kcell) (n := 3) (fun _ => rfl) xs k h 2 (by decide)⟩
def tkOf (t : T) : TK := ((t.1 : Int), t.2.1, (t.2.2 : Int))
theorem tcells_k (ts : List T) : tcells (ts.map okX) = kcells (ts.map tkOf) := by
  unfold tcells kcells
  rw [List.flatMap_map, List.flatMap_map]
  rfl
/-- The slice v holds these tokens. -/
def KSl (w : World) (v : Value) (xs : List TK) : Prop := Sl w 3 xs.length v (kcells xs)
theorem KSl.later {w w' : World} {v : Value} {xs : List TK} (h : KSl w v xs) (hb : Below w.heap.size w w') : KSl w' v xs := Sl.later h hb
theorem KSl.drewN {w : World} {v : Value} {xs : List TK} (h : KSl w v xs) (n : Nat) : KSl (w.drewN n) v xs := h.later (below_drewN (Below.refl _ _) n)
/-- What a slice of tokens gives a walk. -/
theorem KSl.at_ {w : World} {v : Value} {xs : List TK} (h : KSl w v xs) : ∃ (A : Option Addr) (cap : Nat), v = .slice A xs.length cap ∧ xs.length ≤ cap ∧ xs.length ≤ 9223372036854775807 ∧ (A = none → cap = 0) ∧
    ∀ (k : Nat) (hk : k < xs.length), ∃ a, A = some a ∧ a.block < w.heap.size ∧ w.cell? (a.add (k * 3)) = some (.int .i64 xs[k].1) ∧ w.cell? (a.add (k * 3 + 1)) = some (.string (strOf xs[k].2.1)) ∧ w.cell? (a.add (k * 3 + 2)) = some (.int .i64 xs[k].2.2) := by
  obtain ⟨h1, h2, A, cap, h3, h4, h5, h6⟩ := h
  refine ⟨A, cap, h3, h4, by unfold maxLen at h2; exact h2, h5, fun k hk => ?_⟩
  obtain ⟨g0, g1, g2⟩ := kcells_get hk
  obtain ⟨a, rfl, hlt, hc0⟩ := h6 _ _ g0
  obtain ⟨a', e1, _, hc1⟩ := h6 _ _ g1
  cases e1
  obtain ⟨a', e2, _, hc2⟩ := h6 _ _ g2
  cases e2
  exact ⟨a, rfl, hlt, hc0, hc1, hc2⟩
/-- The cells behind an element's first, as a walk names them. -/
theorem add_at (a : Addr) (n m : Nat) (hm : 0 < m) : (⟨(a.add n).block, (a.add n).off + m, none⟩ : Addr) = a.add (n + m) := by
  rw [← Go.Deep.add_add]
  conv => rhs; unfold Addr.add
  rw [if_neg (by omega)]
  rfl
theorem toks_lt {t : List UInt8} {ts : List T} (h : toksR t = .ok ts) : t.length ≤ 400 ∧ toksG t 0 = .ok ts := by
  unfold toksR at h
  split at h
  · cases h
  · exact ⟨by omega, h⟩
theorem own_k {w : World} {base : Nat} {A : Option Addr} {c : Nat} {xs : List TK} (h : w.ownsRow base 179 3 (.slice A xs.length c) xs.length (kcells xs)) : KSl w (.slice A xs.length c) xs := Sl.of_own h
theorem own_ts {w : World} {base : Nat} {A : Option Addr} {c : Nat} {ts : List T} (h : w.ownsRow base 179 3 (.slice A ts.length c) ts.length (kcells (ts.map tkOf))) : KSl w (.slice A ts.length c) (ts.map tkOf) := by
  have := Sl.of_own h
  unfold KSl
  rw [List.length_map]
  exact this
/-- The tokens of a text as they are given, and the error and its place. -/
def outK (t : List UInt8) : List TK := match toksR t with | .error _ => [] | .ok ts => ts.map tkOf
def outE (t : List UInt8) : Int × Nat := match toksR t with | .error e => e | .ok _ => (0, 0)
theorem toksR_len {t : List UInt8} {ts : List T} (h : toksR t = .ok ts) : ts.length ≤ t.length := by
  have hl := (toks_lt h).2
  have h1 := laid_of t.length t 0 ts (Nat.le_refl _) hl
  have h2 := laid_len ts t 0 h1
  have h3 := laid_tok ts t 0 h1
  have h4 : ∀ us : List T, (∀ x ∈ us, isTok x.1 x.2.1 = true) → us.length ≤ (us.map fun t => t.2.1.length).sum := by
    intro us
    induction us with
    | nil => intro _; exact Nat.le_refl _
    | cons u us ih =>
      intro hu
      have h5 := (isTok_iff.1 (hu u (by simp))).2
      have h6 := ih (fun x hx => hu x (by simp [hx]))
      have h7 : 0 < u.2.1.length := List.length_pos_iff.2 h5
      rw [List.map_cons, List.sum_cons, List.length_cons]
      omega
  exact Nat.le_trans (h4 ts h3) h2
theorem outK_len (t : List UInt8) : (outK t).length ≤ t.length := by
  unfold outK
  cases h : toksR t with
  | error e => simp
  | ok ts => rw [List.length_map]; exact toksR_len h
theorem laid_at : ∀ (ts : List T) (l : List UInt8) (k : Nat), Laid l k ts → ∀ t ∈ ts, k ≤ t.2.2 ∧ t.2.2 + t.2.1.length ≤ k + l.length := by
  intro ts
  induction ts with
  | nil => intro l k _ t ht; cases ht
  | cons x ts ih =>
    rintro l k ⟨g, e, rfl, h1, h2, h3, h4⟩ t ht
    have hl : (g ++ (x.2.1 ++ e)).length = g.length + (x.2.1.length + e.length) := by rw [List.length_append, List.length_append]
    rw [hl]
    rcases List.mem_cons.1 ht with rfl | ht
    · omega
    · have := ih e _ h4 t ht
      omega
theorem outK_at (t : List UInt8) : ∀ x ∈ outK t, 0 ≤ x.2.2 ∧ x.2.2 ≤ (t.length : Int) := by
  unfold outK
  cases h : toksR t with
  | error e => intro x hx; cases hx
  | ok ts =>
    intro x hx
    obtain ⟨y, hy, rfl⟩ := List.mem_map.1 hx
    have hl := (toks_lt h).2
    have := laid_at ts t 0 (laid_of t.length t 0 ts (Nat.le_refl _) hl) y hy
    unfold tkOf
    simp only
    omega
/-- The tokens of the example. -/
def awT : List T := [(2, [65], 0), (4, [59], 1), (1, [110, 111, 116], 2), (2, [66], 6), (1, [119, 105, 116, 104, 105, 110], 8), (3, [49, 48], 15)]
theorem awR : toksR [65, 59, 110, 111, 116, 32, 66, 32, 119, 105, 116, 104, 105, 110, 32, 49, 48] = .ok awT := by rfl
def awC : List Value := [.int .i64 2, .string ⟨#[65]⟩, .int .i64 0, .int .i64 4, .string ⟨#[59]⟩, .int .i64 1, .int .i64 1, .string ⟨#[110, 111, 116]⟩, .int .i64 2, .int .i64 2, .string ⟨#[66]⟩, .int .i64 6, .int .i64 1, .string ⟨#[119, 105, 116, 104, 105, 110]⟩, .int .i64 8, .int .i64 3, .string ⟨#[49, 48]⟩, .int .i64 15]
theorem awC_is : kcells (awT.map tkOf) = awC := rfl
theorem aw_lit (w : World) (b : Nat) (h : Blk w b awC) : KSl w (.slice (some ⟨b, 0, none⟩) 6 6) (awT.map tkOf) := Sl.lit h 3 6 rfl (by decide)
end Go.Proofs.YtdoioaeppepndaaGreatDoor
namespace Go.Proofs.YtdoioaeppepndaaGreatDoor
open Go.RowKit
open Tk7

/-- The error of a token. -/
def checkI (x : TK) : Int := if x.1 < 1 ∨ 4 < x.1 then 11 else if isTok x.1.toNat x.2.1 = false then 3 else if x.2.2 < 0 then 2 else 0
theorem next_tok {k : Nat} {l : List UInt8} (h : isTok k l = true) : nextX l (0 : Int) = ⟨k, l, 0, l.length, 0, 0⟩ := by
  have hn := nextX_nat (l := l) (k := 0) (Nat.zero_le _)
  rw [List.drop_zero] at hn
  refine hn.trans ?_
  cases l with
  | nil => simp [isTok] at h
  | cons b r =>
    have h1 := isTok_front h
    have h2 := (isTok_iff.1 h).1
    unfold nextG
    rw [List.dropWhile_cons, if_neg (by rw [h1]; decide)]
    simp only
    rw [h2]
    simp only
    rw [if_neg (by simp), Nat.sub_self]
    simp
theorem next_tok_only {k : Nat} {l : List UInt8} (hk : k ≠ 0) (h1 : (nextX l (0 : Int)).kd = k) (h2 : (nextX l (0 : Int)).tx = l) (h3 : (nextX l (0 : Int)).at_ = 0) : isTok k l = true := by
  have hn := nextX_nat (l := l) (k := 0) (Nat.zero_le _)
  rw [List.drop_zero] at hn
  have hn' : nextX l (0 : Int) = _ := hn
  rw [hn'] at h1 h2 h3
  unfold nextG at h1 h2 h3
  have hd := drop_len l
  cases hl : l.dropWhile blankB with
  | nil =>
    rw [hl] at h1
    exact absurd h1.symm hk
  | cons b r =>
    rw [hl] at h1 h2 h3 hd
    simp only at h1 h2 h3
    by_cases hz : (begG (b :: r)).2 = 0
    · rw [if_pos hz] at h1
      exact absurd h1.symm hk
    · rw [if_neg hz] at h1 h2 h3
      simp only at h1 h2 h3
      have hle := begG_le (b :: r)
      have hll : (b :: r).length = l.length := by omega
      have hbr : b :: r = l := by
        obtain ⟨g, hg1, _, hg3⟩ := dropWhile_split l
        rw [hl] at hg1 hg3
        have : g = [] := List.eq_nil_of_length_eq_zero (by omega)
        rw [this, List.nil_append] at hg1
        exact hg1.symm
      rw [hbr] at h1 h2 h3 hz hle
      rw [isTok_iff]
      refine ⟨?_, fun e => by rw [e] at hbr; cases hbr⟩
      have h4 := congrArg List.length h2
      rw [Nat.zero_add, Nat.sub_self, List.drop_zero, List.length_take] at h4
      have h5 : (begG l).2 = l.length := by omega
      rw [← h1, ← h5]
set_option maxRecDepth 100000 in
set_option maxHeartbeats 4000000 in
theorem check_any (K : Int) (l : List UInt8) (a : Int) (hl : l.length ≤ maxLen) (w : World) (hG : SG w) :
    Calls Tryz.prog 153 #[.agg #[.int .i64 K, .string (strOf l), .int .i64 a]] w fun e w' => e = .returned (.int .i64 (checkI (K, l, a))) ∧ Below w.heap.size w w' := by
  have hc : checkI (K, l, a) = if K < 1 ∨ 4 < K then 11 else if isTok K.toNat l = false then 3 else if a < 0 then 2 else 0 := rfl
  by_cases hk1 : K < 1
  · rw [hc, if_pos (Or.inl hk1)]
    clear hc
    go_enter Tryz.func153, Tryz.ntmps153
    go_wp2
    go_ret
    exact ⟨rfl, below1 _ _⟩
  · by_cases hk2 : 4 < K
    · rw [hc, if_pos (Or.inr hk2)]
      clear hc
      go_enter Tryz.func153, Tryz.ntmps153
      go_wp2
      go_ret
      exact ⟨rfl, below1 _ _⟩
    · rw [hc, if_neg (by omega)]
      have hN := fun w hG => next_any (strOf l) 0 (by rw [strOf_size]; exact hl) w hG
      unfold NextP at hN
      rw [strOf_dat] at hN
      obtain ⟨k, hk⟩ : ∃ k : Nat, k = K.toNat := ⟨_, rfl⟩
      have hKk : K = (k : Int) := by omega
      have hk0 : k ≠ 0 := by omega
      have hG1 := hG.later (below1 w (.cells #[.int .i64 K, .string (strOf l), .int .i64 a] 179))
      rw [← hk]
      clear hc hk
      subst hKk
      cases ht : isTok k l with
      | true =>
        rw [if_neg (by decide)]
        have hX := next_tok ht
        rw [hX] at hN
        have hN2 : ∀ w, SG w → Calls Tryz.prog 157 #[.string (strOf l), .int .i64 0] w fun e w' => e = .returned (.tuple #[.agg #[.int .i64 (k : Int), .string (strOf l), .int .i64 0], .int .i64 (l.length : Int), .agg #[.int .i64 0, .int .i64 0]]) ∧ Below w.heap.size w w' := hN
        clear hN ht hX
        obtain ⟨S, hS⟩ : ∃ S, S = strOf l := ⟨_, rfl⟩
        rw [← hS] at hN2 hG1 ⊢
        clear hS
        have hbx : ∀ w2 : World, Below (w.alloc (.cells #[.int .i64 (k : Int), .string S, .int .i64 a] 179)).heap.size (w.alloc (.cells #[.int .i64 (k : Int), .string S, .int .i64 a] 179)) w2 → Blk w2 w.heap.size [.int .i64 (k : Int), .string S, .int .i64 a] := fun w2 hb => (Blk.is _ rfl).later hb
        by_cases ha : a < 0
        · rw [if_pos ha]
          go_enter Tryz.func153, Tryz.ntmps153
          go_wp2_with (go_at_call 157; refine (hN2 _ hG1).mono ?_; rintro e w2 ⟨rfl, hb2⟩; have hq := hbx w2 hb2; have c0 := hq.cell 0 _ rfl; have c1 := hq.cell 1 _ rfl; have c2 := hq.cell 2 _ rfl; have hql := hq.lt)
          go_ret
          exact ⟨rfl, bstep (bstep (below1 _ _) hb2) (below2 _ _ _)⟩
        · rw [if_neg ha]
          go_enter Tryz.func153, Tryz.ntmps153
          go_wp2_with (go_at_call 157; refine (hN2 _ hG1).mono ?_; rintro e w2 ⟨rfl, hb2⟩; have hq := hbx w2 hb2; have c0 := hq.cell 0 _ rfl; have c1 := hq.cell 1 _ rfl; have c2 := hq.cell 2 _ rfl; have hql := hq.lt)
          go_ret
          exact ⟨rfl, bstep (bstep (below1 _ _) hb2) (below2 _ _ _)⟩
      | false =>
        rw [if_pos rfl]
        obtain ⟨X, hX⟩ : ∃ X, X = nextX l (0 : Int) := ⟨_, rfl⟩
        have hno : ¬ (X.kd = k ∧ X.tx = l ∧ X.at_ = 0) := fun h => by
          rw [hX] at h
          rw [next_tok_only hk0 h.1 h.2.1 h.2.2] at ht
          cases ht
        rw [← hX] at hN
        obtain ⟨kd, tx, at_, nx, er, ea⟩ := X
        simp only at hno
        have hN2 : ∀ w, SG w → Calls Tryz.prog 157 #[.string (strOf l), .int .i64 0] w fun e w' => e = .returned (.tuple #[.agg #[.int .i64 (kd : Int), .string (strOf tx), .int .i64 (at_ : Int)], .int .i64 (nx : Int), .agg #[.int .i64 er, .int .i64 (ea : Int)]]) ∧ Below w.heap.size w w' := hN
        clear hN hX ht
        have h3 : (kd ≠ k) ∨ (kd = k ∧ tx ≠ l) ∨ (kd = k ∧ tx = l ∧ at_ ≠ 0) := by
          by_cases h1 : kd = k
          · by_cases h2 : tx = l
            · exact .inr (.inr ⟨h1, h2, fun h => hno ⟨h1, h2, h⟩⟩)
            · exact .inr (.inl ⟨h1, h2⟩)
          · exact .inl h1
        have hbx : ∀ w2 : World, Below (w.alloc (.cells #[.int .i64 (k : Int), .string (strOf l), .int .i64 a] 179)).heap.size (w.alloc (.cells #[.int .i64 (k : Int), .string (strOf l), .int .i64 a] 179)) w2 → Blk w2 w.heap.size [.int .i64 (k : Int), .string (strOf l), .int .i64 a] := fun w2 hb => (Blk.is _ rfl).later hb
        have hl1 : (strOf tx).toList = tx := strOf_toL tx
        have hl2 : (strOf l).toList = l := strOf_toL l
        rcases h3 with h | ⟨rfl, h⟩ | ⟨rfl, rfl, h⟩
        · have b1 : ((kd : Int) == (k : Int)) = false := by rw [beq_eq_false_iff_ne]; omega
          have n1 : ¬ (kd : Int) = (k : Int) := by omega
          have n2 : ¬ kd = k := h
          obtain ⟨S, hS⟩ : ∃ S, S = strOf l := ⟨_, rfl⟩
          obtain ⟨S2, hS2⟩ : ∃ S, S = strOf tx := ⟨_, rfl⟩
          rw [← hS] at hN2 hG1 hbx ⊢
          rw [← hS2] at hN2
          clear hS hS2 hno hl1 hl2 h
          go_enter Tryz.func153, Tryz.ntmps153
          go_wp2_with (go_at_call 157; refine (hN2 _ hG1).mono ?_; rintro e w2 ⟨rfl, hb2⟩; have hq := hbx w2 hb2; have c0 := hq.cell 0 _ rfl; have c1 := hq.cell 1 _ rfl; have c2 := hq.cell 2 _ rfl; have hql := hq.lt)
          go_ret
          exact ⟨rfl, bstep (bstep (below1 _ _) hb2) (below2 _ _ _)⟩
        · have b1 : ((strOf tx).toList == (strOf l).toList) = false := by rw [hl1, hl2, beq_eq_false_iff_ne]; exact h
          have n1 : ¬ (strOf tx).toList = (strOf l).toList := by rw [hl1, hl2]; exact h
          obtain ⟨S, hS⟩ : ∃ S, S = strOf l := ⟨_, rfl⟩
          obtain ⟨S2, hS2⟩ : ∃ S, S = strOf tx := ⟨_, rfl⟩
          rw [← hS] at hN2 hG1 hbx b1 n1 ⊢
          rw [← hS2] at hN2 b1 n1
          clear hS hS2 hno hl1 hl2 h
          go_enter Tryz.func153, Tryz.ntmps153
          go_wp2_with (go_at_call 157; refine (hN2 _ hG1).mono ?_; rintro e w2 ⟨rfl, hb2⟩; have hq := hbx w2 hb2; have c0 := hq.cell 0 _ rfl; have c1 := hq.cell 1 _ rfl; have c2 := hq.cell 2 _ rfl; have hql := hq.lt)
          go_ret
          exact ⟨rfl, bstep (bstep (below1 _ _) hb2) (below2 _ _ _)⟩
        · have b1 : ((at_ : Int) == 0) = false := by rw [beq_eq_false_iff_ne]; omega
          have n1 : ¬ (at_ : Int) = 0 := by omega
          have n2 : ¬ at_ = 0 := h
          obtain ⟨S, hS⟩ : ∃ S, S = strOf tx := ⟨_, rfl⟩
          rw [← hS] at hN2 hG1 hbx ⊢
          clear hS hno hl1 hl2 h
          go_enter Tryz.func153, Tryz.ntmps153
          go_wp2_with (go_at_call 157; refine (hN2 _ hG1).mono ?_; rintro e w2 ⟨rfl, hb2⟩; have hq := hbx w2 hb2; have c0 := hq.cell 0 _ rfl; have c1 := hq.cell 1 _ rfl; have c2 := hq.cell 2 _ rfl; have hql := hq.lt)
          go_ret
          exact ⟨rfl, bstep (bstep (below1 _ _) hb2) (below2 _ _ _)⟩
end Go.Proofs.YtdoioaeppepndaaGreatDoor
namespace Go.Proofs.YtdoioaeppepndaaGreatDoor
open Go.RowKit
open Tk7

/-- How many bytes the number has that begins at the offset F; 0 if there is none, -1 if it is not written as said. -/
def numF (l : List UInt8) (F : Nat) : Int :=
  if ((l.drop F).takeWhile digB).length = 0 then 0 else if (l.drop F).head? = some 48 ∧ (1 < ((l.drop F).takeWhile digB).length ∨ F = 1) then -1 else ((F + ((l.drop F).takeWhile digB).length : Nat) : Int)
theorem numF_none {l : List UInt8} {F : Nat} (h : ((l.drop F).takeWhile digB).length = 0) : numF l F = 0 := if_pos h
theorem numF_bad {l : List UInt8} {F : Nat} (h : ((l.drop F).takeWhile digB).length ≠ 0) (h1 : (l.drop F).head? = some 48) (h2 : 1 < ((l.drop F).takeWhile digB).length ∨ F = 1) : numF l F = -1 := by
  unfold numF; rw [if_neg h, if_pos ⟨h1, h2⟩]
theorem numF_good {l : List UInt8} {F : Nat} (h : ((l.drop F).takeWhile digB).length ≠ 0) (h1 : ¬ ((l.drop F).head? = some 48 ∧ (1 < ((l.drop F).takeWhile digB).length ∨ F = 1))) : numF l F = ((F + ((l.drop F).takeWhile digB).length : Nat) : Int) := by
  unfold numF; rw [if_neg h, if_neg h1]
theorem head_drop {l : List UInt8} {F : Nat} (h : F < l.length) : (l.drop F).head? = some l[F] := by rw [List.drop_eq_getElem_cons h]; rfl
theorem while_pos {l : List UInt8} {F : Nat} (h : ((l.drop F).takeWhile digB).length ≠ 0) : F < l.length := by
  have h1 := (List.takeWhile_sublist digB (l := l.drop F)).length_le
  rw [List.length_drop] at h1
  omega
end Go.Proofs.YtdoioaeppepndaaGreatDoor
namespace Go.Proofs.YtdoioaeppepndaaGreatDoor
open Go.RowKit
open Tk7

/-- The signs in the document's own order. -/
def signsR : List (List UInt8) := [[33, 61], [60, 61], [62, 61], [59], [124], [123], [125], [44], [40], [41], [91], [93], [64], [58], [61], [60], [62]]
def findR (b : UInt8) (q : Bool) : List UInt8 := ((([33, 61], 33 == b && q) :: ([60, 61], 60 == b && q) :: ([62, 61], 62 == b && q) :: ([59], 59 == b) :: ([124], 124 == b) :: ([123], 123 == b) :: ([125], 125 == b) :: ([44], 44 == b) :: ([40], 40 == b) :: ([41], 41 == b) :: ([91], 91 == b) :: ([93], 93 == b) :: ([64], 64 == b) :: ([58], 58 == b) :: ([61], 61 == b) :: ([60], 60 == b) :: ([62], 62 == b) :: [] : List (List UInt8 × Bool)).find? (·.2)).elim [] (·.1)
theorem firstR_find (b : UInt8) (r : List UInt8) : firstS signsR (b :: r) = findR b (r.head? == some 61) := by
  unfold firstS
  rw [find_map]
  unfold signsR findR
  simp only [List.map_cons, List.map_nil, prefix1, prefix2]
theorem findR_Q : ∀ b : Fin 256, ∀ q : Bool, findR (UInt8.ofNat b.val) q = findQ (UInt8.ofNat b.val) q := by decide +kernel
theorem findR_Q' (b : UInt8) (q : Bool) : findR b q = findQ b q := by
  have := findR_Q ⟨b.toNat, b.toNat_lt⟩ q
  simpa using this
theorem firstR_sign (l : List UInt8) : firstS signsR l = l.take (signG l) := by
  cases l with
  | nil => decide
  | cons b r => rw [firstR_find, findR_Q', ← first_find, first_sign]
theorem signsR_len : ∀ (i : Nat) (c : List UInt8), signsR[i]? = some c → c.length ≤ 2 ∧ 1 ≤ c.length := by
  intro i c h
  have h1 : c ∈ signsR := List.mem_of_getElem? h
  clear h
  revert c
  decide
theorem dropR_sign {i : Nat} {c : List UInt8} (h : signsR[i]? = some c) : signsR.drop i = c :: signsR.drop (i + 1) := by
  obtain ⟨h1, h2⟩ := List.getElem?_eq_some_iff.1 h
  rw [List.drop_eq_getElem_cons h1, h2]

theorem numF_min (r : List UInt8) : (numF (45 :: r) 1 = 0 ∨ numF (45 :: r) 1 = -1) ∧ numG 45 r = 0 ∨ numF (45 :: r) 1 = ((numG 45 r : Nat) : Int) ∧ numG 45 r ≠ 0 := by
  have h1 : (45 :: r).drop 1 = r := rfl
  have h2 : numG 45 r = if rightD true (r.takeWhile digB) then (r.takeWhile digB).length + 1 else 0 := rfl
  rw [h2]
  cases r with
  | nil => exact .inl ⟨.inl (numF_none (by rw [h1]; rfl)), rfl⟩
  | cons c r =>
    cases hc : digB c with
    | false =>
      have h3 : (c :: r).takeWhile digB = [] := by rw [List.takeWhile_cons, if_neg (by rw [hc]; decide)]
      exact .inl ⟨.inl (numF_none (by rw [h1, h3]; rfl)), by rw [h3]; rfl⟩
    | true =>
      have h3 : (c :: r).takeWhile digB = c :: r.takeWhile digB := by rw [List.takeWhile_cons, if_pos hc]
      have h4 : ((45 :: c :: r).drop 1).takeWhile digB = c :: r.takeWhile digB := by rw [h1, h3]
      by_cases hz : c = 48
      · subst hz
        refine .inl ⟨.inr (numF_bad (by rw [h4]; simp) rfl (.inr rfl)), ?_⟩
        rw [h3]
        unfold rightD
        rw [if_neg]
        simp
      · refine .inr ⟨?_, ?_⟩
        · rw [numF_good (by rw [h4]; simp) (by rw [h1]; simp [hz]), h4, h3, if_pos]
          · simp; omega
          · unfold rightD; simp [hz]
        · rw [h3, if_pos]
          · simp
          · unfold rightD; simp [hz]
theorem numF_dig (b : UInt8) (r : List UInt8) (h : digB b = true) : numF (b :: r) 0 = -1 ∧ numG b r = 0 ∨ numF (b :: r) 0 = ((numG b r : Nat) : Int) ∧ numG b r ≠ 0 := by
  have hne : ¬ b = 45 := by rintro rfl; exact absurd h (by decide)
  have h2 : numG b r = if rightD false (b :: r.takeWhile digB) then (r.takeWhile digB).length + 1 else 0 := by
    unfold numG; rw [if_neg (by rw [beq_iff_eq]; exact hne)]
  rw [h2]
  have h4 : ((b :: r).drop 0).takeWhile digB = b :: r.takeWhile digB := by rw [List.drop_zero, List.takeWhile_cons, if_pos h]
  by_cases hz : b = 48
  · subst hz
    cases hd : r.takeWhile digB with
    | nil =>
      rw [hd] at h4
      refine .inr ⟨?_, by decide⟩
      rw [numF_good (by rw [h4]; simp) (by rw [h4]; simp), h4]
      decide
    | cons c d =>
      rw [hd] at h4
      refine .inl ⟨numF_bad (by rw [h4]; simp) rfl (.inl (by rw [h4]; simp)), ?_⟩
      rw [if_neg]
      unfold rightD
      simp
  · have hr : rightD false (b :: r.takeWhile digB) = true := by unfold rightD; simp [hz]
    rw [if_pos hr]
    refine .inr ⟨?_, by omega⟩
    rw [numF_good (by rw [h4]; simp) (by simp [hz]), h4]
    simp
theorem numF_not (b : UInt8) (r : List UInt8) (h : digB b = false) : numF (b :: r) 0 = 0 := by
  apply numF_none
  rw [List.drop_zero, List.takeWhile_cons, if_neg (by rw [h]; decide)]
  rfl
theorem begL_1 {l : List UInt8} (h0 : 0 < l.length) (h : smallB (l[0]'h0) = true) : begG l = (1, (l.takeWhile smallB).length) := by
  cases l with
  | nil => cases h0
  | cons b r => have h : smallB b = true := h; rw [while_true h]; exact beg_1 h
theorem begL_2 {l : List UInt8} (h0 : 0 < l.length) (h1 : smallB (l[0]'h0) = false) (h : largeB (l[0]'h0) = true) : begG l = (2, 1) := by
  cases l with
  | nil => cases h0
  | cons b r => exact beg_2 h1 h
/-- The words of the language. -/
def wordsL : List (List UInt8) := [[119, 105, 116, 104, 105, 110], [104, 97, 118, 105, 110, 103], [97, 110, 100], [101, 109, 105, 116], [110, 111, 116], [99, 111, 117, 110, 116], [115, 117, 109], [109, 105, 110], [109, 97, 120], [102, 105, 114, 115, 116], [108, 97, 115, 116]]
def wordB (s : ByteArray) : Bool := wordsL.any fun c => decide (s = strOf c)
end Go.Proofs.YtdoioaeppepndaaGreatDoor
namespace Go.Proofs.YtdoioaeppepndaaGreatDoor
open Go.RowKit
open Tk7

theorem word_is {s : ByteArray} {c : List UInt8} (hc : c ∈ wordsL) (h : s = strOf c) : wordB s = true := by
  unfold wordB
  rw [List.any_eq_true]
  exact ⟨c, hc, decide_eq_true h⟩
theorem str_nel {s : ByteArray} {l : List UInt8} (h : ¬ s = strOf l) : (s.toList == l) = false := by
  have := str_ne h
  rwa [strOf_toL] at this
theorem word_not {s : ByteArray} (h : ∀ c ∈ wordsL, ¬ s = strOf c) : wordB s = false := by
  cases hb : wordB s with
  | false => rfl
  | true =>
    unfold wordB at hb
    rw [List.any_eq_true] at hb
    obtain ⟨c, hc, hd⟩ := hb
    exact absurd (of_decide_eq_true hd) (h c hc)
set_option maxRecDepth 100000 in
theorem word_0 (w : World) : Calls Tryz.prog 152 #[.string ⟨#[119, 105, 116, 104, 105, 110]⟩] w fun e w' => e = .returned (.bool true) ∧ w = w' := by
  go_enter Tryz.func152, Tryz.ntmps152
  go_wp2
  go_ret
  exact ⟨rfl, by first | rfl | trivial⟩
set_option maxRecDepth 100000 in
theorem word_1 (w : World) : Calls Tryz.prog 152 #[.string ⟨#[104, 97, 118, 105, 110, 103]⟩] w fun e w' => e = .returned (.bool true) ∧ w = w' := by
  go_enter Tryz.func152, Tryz.ntmps152
  go_wp2
  go_ret
  exact ⟨rfl, by first | rfl | trivial⟩
set_option maxRecDepth 100000 in
theorem word_2 (w : World) : Calls Tryz.prog 152 #[.string ⟨#[97, 110, 100]⟩] w fun e w' => e = .returned (.bool true) ∧ w = w' := by
  go_enter Tryz.func152, Tryz.ntmps152
  go_wp2
  go_ret
  exact ⟨rfl, by first | rfl | trivial⟩
set_option maxRecDepth 100000 in
theorem word_3 (w : World) : Calls Tryz.prog 152 #[.string ⟨#[101, 109, 105, 116]⟩] w fun e w' => e = .returned (.bool true) ∧ w = w' := by
  go_enter Tryz.func152, Tryz.ntmps152
  go_wp2
  go_ret
  exact ⟨rfl, by first | rfl | trivial⟩
set_option maxRecDepth 100000 in
theorem word_4 (w : World) : Calls Tryz.prog 152 #[.string ⟨#[110, 111, 116]⟩] w fun e w' => e = .returned (.bool true) ∧ w = w' := by
  go_enter Tryz.func152, Tryz.ntmps152
  go_wp2
  go_ret
  exact ⟨rfl, by first | rfl | trivial⟩
set_option maxRecDepth 100000 in
theorem word_5 (w : World) : Calls Tryz.prog 152 #[.string ⟨#[99, 111, 117, 110, 116]⟩] w fun e w' => e = .returned (.bool true) ∧ w = w' := by
  go_enter Tryz.func152, Tryz.ntmps152
  go_wp2
  go_ret
  exact ⟨rfl, by first | rfl | trivial⟩
set_option maxRecDepth 100000 in
theorem word_6 (w : World) : Calls Tryz.prog 152 #[.string ⟨#[115, 117, 109]⟩] w fun e w' => e = .returned (.bool true) ∧ w = w' := by
  go_enter Tryz.func152, Tryz.ntmps152
  go_wp2
  go_ret
  exact ⟨rfl, by first | rfl | trivial⟩
set_option maxRecDepth 100000 in
theorem word_7 (w : World) : Calls Tryz.prog 152 #[.string ⟨#[109, 105, 110]⟩] w fun e w' => e = .returned (.bool true) ∧ w = w' := by
  go_enter Tryz.func152, Tryz.ntmps152
  go_wp2
  go_ret
  exact ⟨rfl, by first | rfl | trivial⟩
set_option maxRecDepth 100000 in
theorem word_8 (w : World) : Calls Tryz.prog 152 #[.string ⟨#[109, 97, 120]⟩] w fun e w' => e = .returned (.bool true) ∧ w = w' := by
  go_enter Tryz.func152, Tryz.ntmps152
  go_wp2
  go_ret
  exact ⟨rfl, by first | rfl | trivial⟩
set_option maxRecDepth 100000 in
theorem word_9 (w : World) : Calls Tryz.prog 152 #[.string ⟨#[102, 105, 114, 115, 116]⟩] w fun e w' => e = .returned (.bool true) ∧ w = w' := by
  go_enter Tryz.func152, Tryz.ntmps152
  go_wp2
  go_ret
  exact ⟨rfl, by first | rfl | trivial⟩
set_option maxRecDepth 100000 in
theorem word_10 (w : World) : Calls Tryz.prog 152 #[.string ⟨#[108, 97, 115, 116]⟩] w fun e w' => e = .returned (.bool true) ∧ w = w' := by
  go_enter Tryz.func152, Tryz.ntmps152
  go_wp2
  go_ret
  exact ⟨rfl, by first | rfl | trivial⟩
set_option maxRecDepth 100000 in
theorem word_no (s : ByteArray) (h0 : (s.toList == [119, 105, 116, 104, 105, 110]) = false) (h1 : (s.toList == [104, 97, 118, 105, 110, 103]) = false) (h2 : (s.toList == [97, 110, 100]) = false) (h3 : (s.toList == [101, 109, 105, 116]) = false) (h4 : (s.toList == [110, 111, 116]) = false) (h5 : (s.toList == [99, 111, 117, 110, 116]) = false) (h6 : (s.toList == [115, 117, 109]) = false) (h7 : (s.toList == [109, 105, 110]) = false) (h8 : (s.toList == [109, 97, 120]) = false) (h9 : (s.toList == [102, 105, 114, 115, 116]) = false) (h10 : (s.toList == [108, 97, 115, 116]) = false) (w : World) : Calls Tryz.prog 152 #[.string s] w fun e w' => e = .returned (.bool false) ∧ w = w' := by
  go_enter Tryz.func152, Tryz.ntmps152
  go_wp2
  go_ret
  exact ⟨rfl, by first | rfl | trivial⟩
theorem word_any (s : ByteArray) (w : World) : Calls Tryz.prog 152 #[.string s] w fun e w' => e = .returned (.bool (wordB s)) ∧ w = w' := by
  by_cases n0 : s = ⟨#[119, 105, 116, 104, 105, 110]⟩
  · subst n0
    rw [show wordB ⟨#[119, 105, 116, 104, 105, 110]⟩ = true from word_is (c := [119, 105, 116, 104, 105, 110]) (by decide) rfl]
    exact word_0 w
  by_cases n1 : s = ⟨#[104, 97, 118, 105, 110, 103]⟩
  · subst n1
    rw [show wordB ⟨#[104, 97, 118, 105, 110, 103]⟩ = true from word_is (c := [104, 97, 118, 105, 110, 103]) (by decide) rfl]
    exact word_1 w
  by_cases n2 : s = ⟨#[97, 110, 100]⟩
  · subst n2
    rw [show wordB ⟨#[97, 110, 100]⟩ = true from word_is (c := [97, 110, 100]) (by decide) rfl]
    exact word_2 w
  by_cases n3 : s = ⟨#[101, 109, 105, 116]⟩
  · subst n3
    rw [show wordB ⟨#[101, 109, 105, 116]⟩ = true from word_is (c := [101, 109, 105, 116]) (by decide) rfl]
    exact word_3 w
  by_cases n4 : s = ⟨#[110, 111, 116]⟩
  · subst n4
    rw [show wordB ⟨#[110, 111, 116]⟩ = true from word_is (c := [110, 111, 116]) (by decide) rfl]
    exact word_4 w
  by_cases n5 : s = ⟨#[99, 111, 117, 110, 116]⟩
  · subst n5
    rw [show wordB ⟨#[99, 111, 117, 110, 116]⟩ = true from word_is (c := [99, 111, 117, 110, 116]) (by decide) rfl]
    exact word_5 w
  by_cases n6 : s = ⟨#[115, 117, 109]⟩
  · subst n6
    rw [show wordB ⟨#[115, 117, 109]⟩ = true from word_is (c := [115, 117, 109]) (by decide) rfl]
    exact word_6 w
  by_cases n7 : s = ⟨#[109, 105, 110]⟩
  · subst n7
    rw [show wordB ⟨#[109, 105, 110]⟩ = true from word_is (c := [109, 105, 110]) (by decide) rfl]
    exact word_7 w
  by_cases n8 : s = ⟨#[109, 97, 120]⟩
  · subst n8
    rw [show wordB ⟨#[109, 97, 120]⟩ = true from word_is (c := [109, 97, 120]) (by decide) rfl]
    exact word_8 w
  by_cases n9 : s = ⟨#[102, 105, 114, 115, 116]⟩
  · subst n9
    rw [show wordB ⟨#[102, 105, 114, 115, 116]⟩ = true from word_is (c := [102, 105, 114, 115, 116]) (by decide) rfl]
    exact word_9 w
  by_cases n10 : s = ⟨#[108, 97, 115, 116]⟩
  · subst n10
    rw [show wordB ⟨#[108, 97, 115, 116]⟩ = true from word_is (c := [108, 97, 115, 116]) (by decide) rfl]
    exact word_10 w
  rw [show wordB s = false from word_not (fun c hc h => by
    subst h
    simp only [wordsL, List.mem_cons, List.not_mem_nil, or_false] at hc
    rcases hc with rfl | rfl | rfl | rfl | rfl | rfl | rfl | rfl | rfl | rfl | rfl
    · exact n0 rfl
    · exact n1 rfl
    · exact n2 rfl
    · exact n3 rfl
    · exact n4 rfl
    · exact n5 rfl
    · exact n6 rfl
    · exact n7 rfl
    · exact n8 rfl
    · exact n9 rfl
    · exact n10 rfl
    )]
  exact word_no s (str_nel n0) (str_nel n1) (str_nel n2) (str_nel n3) (str_nel n4) (str_nel n5) (str_nel n6) (str_nel n7) (str_nel n8) (str_nel n9) (str_nel n10) w
end Go.Proofs.YtdoioaeppepndaaGreatDoor
