/- What stands while the kit makes a query: rows of the call's own, and trees that lie elsewhere. Nothing here speaks of the program. -/
import Derived.Test.YtdoioaeppepndaaGreatDoorParF
import Derived.Test.YtdoioaeppepndaaGreatDoorKitQs
namespace Go.Proofs.YtdoioaeppepndaaGreatDoor
open Go.RowKit
open A8 Tk7 P9

/-- The blocks below m, and those of two slices. -/
def two (m : Nat) (x y : Value) : Nat → Bool := fun k => decide (k < m) || ((x.ownBlock == some k) || (y.ownBlock == some k))
/-- The tree lies in W from m on, and not in the blocks of x and y. -/
def Fr (m : Nat) (x y : Value) (W : World) (T : Tr) : Prop := TrW (hide (two m x y) W) T
theorem two_no {m : Nat} {x y : Value} {k : Nat} (h : two m x y k = false) : x.ownBlock ≠ some k ∧ y.ownBlock ≠ some k ∧ m ≤ k := by
  unfold two at h
  simp only [Bool.or_eq_false_iff, decide_eq_false_iff_not, beq_eq_false_iff_ne] at h
  exact ⟨h.2.1, h.2.2, by omega⟩
theorem two_is {m : Nat} {x y : Value} {k : Nat} (h1 : x.ownBlock ≠ some k) (h2 : y.ownBlock ≠ some k) (h3 : m ≤ k) : two m x y k = false := by
  unfold two
  simp only [Bool.or_eq_false_iff, decide_eq_false_iff_not, beq_eq_false_iff_ne]
  exact ⟨by omega, h1, h2⟩
theorem fr_swap {m : Nat} {x y : Value} {W : World} {T : Tr} (h : Fr m x y W T) : Fr m y x W T :=
  trW_le h (hide_le (Nat.le_refl _) fun _ _ hp => ⟨two_is (two_no hp).2.1 (two_no hp).1 (two_no hp).2.2, rfl⟩)
theorem fr_out {m : Nat} {x y : Value} {W : World} {T : Tr} (h : Fr m x y W T) : TrW (hide (fun k => decide (k < m)) W) T :=
  trW_le h (hide_le (Nat.le_refl _) fun k _ hp => ⟨by have := (two_no hp).2.2; simp only [decide_eq_false_iff_not]; omega, rfl⟩)
theorem fr_new {n : Nat} {x y : Value} {W : World} {T : Tr} {m : Nat} (h : TrW (hide (fun k => decide (k < m)) W) T) (hn : n ≤ m) (hx : ∀ k, x.ownBlock = some k → k < m) (hy : ∀ k, y.ownBlock = some k → k < m) : Fr n x y W T :=
  trW_le h (hide_le (Nat.le_refl _) fun k _ hp => by
    simp only [decide_eq_false_iff_not] at hp
    exact ⟨two_is (fun e => by have := hx k e; omega) (fun e => by have := hy k e; omega) (by omega), rfl⟩)
theorem fr_later {m : Nat} {x y : Value} {W W' : World} {T : Tr} (h : Fr m x y W T) (hb : Below W.heap.size W W') : Fr m x y W' T :=
  trW_le h (hide_le hb.size fun k hk hp => ⟨hp, hb.block k hk⟩)
/-- What stands behind an append to x. -/
theorem fr_app {m : Nat} {x y x' : Value} {W w3 : World} {o : Obj} {T : Tr} (h : Fr m x y W T) (hg : (W.alloc o).grownBy w3 x.ownBlock) (hloc : x'.ownBlock = x.ownBlock ∨ x'.ownBlock = some (W.alloc o).heap.size) : Fr m x' y w3 T := by
  have hs : W.heap.size + 1 ≤ w3.heap.size := by have := hg.size; rw [World.size_alloc] at this; exact this
  refine trW_le h (hide_le (by omega) fun k hk hp => ⟨two_is (fun e => ?_) (two_no hp).2.1 (two_no hp).2.2, ?_⟩)
  · rcases hloc with h1 | h1
    · rw [h1] at e
      exact (two_no hp).1 e
    · rw [h1, World.size_alloc] at e
      injection e with e
      omega
  · exact (hg.block k (by rw [World.size_alloc]; omega) (fun e => (two_no hp).1 e.symm)).trans ((b1 W o).block k hk)
/-- The blocks of two rows of different types are two. -/
theorem rows_apart {w : World} {a b s t n m : Nat} {e f : TypeId} {x y : Value} {us vs : List Value} (h1 : w.ownsRow a e s x n us) (h2 : w.ownsRow b f t y m vs) (hne : e ≠ f) : x.ownBlock = none ∨ x.ownBlock ≠ y.ownBlock := own_block_ne h1 h2 hne
theorem own_alloc {w : World} {base s n : Nat} {e : TypeId} {v : Value} {us : List Value} (h : w.ownsRow base e s v n us) (o : Obj) : (w.alloc o).ownsRow base e s v n us := own_later h (b1 w o)
theorem below_app {w W w3 : World} {o : Obj} {x : Value} (hb : Below w.heap.size w W) (hx : ∀ k, x.ownBlock = some k → w.heap.size ≤ k) (hg : (W.alloc o).grownBy w3 x.ownBlock) : Below w.heap.size w w3 := by
  have h2 := bstep hb (b1 W o)
  exact h2.grown hg h2.size fun k e => hx k e
def nmC (s : List UInt8) : List Value := [.string (strOf s)]
/-- What stands between the rounds: kids and names. -/
structure QI (w wr : World) (v vn : Value) (cs : List Tr) (ns : List (List UInt8)) : Prop where
  bel : Below w.heap.size w wr
  own : wr.ownsRow w.heap.size 31 9 v cs.length (cs.flatMap Tr.row)
  nms : wr.ownsRow w.heap.size 9 1 vn ns.length (ns.flatMap nmC)
  el : ∀ c ∈ cs, Fr w.heap.size v vn wr c
theorem QI.later {w wr W : World} {v vn : Value} {cs : List Tr} {ns : List (List UInt8)} (h : QI w wr v vn cs ns) (hb : Below wr.heap.size wr W) : QI w W v vn cs ns :=
  ⟨bstep h.bel hb, own_later h.own hb, own_later h.nms hb, fun c hc => fr_later (h.el c hc) hb⟩
theorem QI.nil (w : World) : QI w w (.slice none 0 0) (.slice none 0 0) [] [] :=
  ⟨Below.refl _ _, World.ownsRow_nil _ _ _ _, World.ownsRow_nil _ _ _ _, fun c hc => by cases hc⟩
theorem QI.vlt {w wr : World} {v vn : Value} {cs : List Tr} {ns : List (List UInt8)} (h : QI w wr v vn cs ns) : ∀ k, v.ownBlock = some k → k < wr.heap.size := fun k e => (h.own.lt k e).2
theorem QI.nlt {w wr : World} {v vn : Value} {cs : List Tr} {ns : List (List UInt8)} (h : QI w wr v vn cs ns) : ∀ k, vn.ownBlock = some k → k < wr.heap.size := fun k e => (h.nms.lt k e).2
theorem QI.kid {w wr w3 : World} {v vn v' : Value} {cs : List Tr} {ns : List (List UInt8)} (h : QI w wr v vn cs ns) {c : Tr} (hc : Fr w.heap.size v vn wr c) {o : Obj} (hown : w3.ownsRow w.heap.size 31 9 v' (cs.length + 1) (cs.flatMap Tr.row ++ c.row)) (hg : (wr.alloc o).grownBy w3 v.ownBlock) (hloc : v'.ownBlock = v.ownBlock ∨ v'.ownBlock = some (wr.alloc o).heap.size) :
    QI w w3 v' vn (cs ++ [c]) ns := by
  refine ⟨below_app h.bel (fun k e => (h.own.lt k e).1) hg, ?_, ?_, fun d hd => ?_⟩
  · rw [List.length_append, List.flatMap_append]
    simpa using hown
  · have h1 := own_alloc h.nms o
    exact h1.kept hg (own_block_ne h.nms h.own (by decide))
  · rcases List.mem_append.1 hd with hd | hd
    · exact fr_app (h.el d hd) hg hloc
    · rw [List.mem_singleton.1 hd]
      exact fr_app hc hg hloc
theorem QI.name {w wr w3 : World} {v vn vn' : Value} {cs : List Tr} {ns : List (List UInt8)} (h : QI w wr v vn cs ns) {s : List UInt8} {o : Obj} (hown : w3.ownsRow w.heap.size 9 1 vn' (ns.length + 1) (ns.flatMap nmC ++ nmC s)) (hg : (wr.alloc o).grownBy w3 vn.ownBlock) (hloc : vn'.ownBlock = vn.ownBlock ∨ vn'.ownBlock = some (wr.alloc o).heap.size) :
    QI w w3 v vn' cs (ns ++ [s]) ∧ ∀ c, Fr w.heap.size v vn wr c → Fr w.heap.size v vn' w3 c := by
  have hf : ∀ c, Fr w.heap.size v vn wr c → Fr w.heap.size v vn' w3 c := fun c hc => fr_swap (fr_app (fr_swap hc) hg hloc)
  refine ⟨⟨below_app h.bel (fun k e => (h.nms.lt k e).1) hg, ?_, ?_, fun d hd => hf d (h.el d hd)⟩, hf⟩
  · have h1 := own_alloc h.own o
    exact h1.kept hg (own_block_ne h.own h.nms (by decide))
  · rw [List.length_append, List.flatMap_append]
    simpa using hown
/-- A block that is newer than the row appended to is kept. -/
theorem blk_app {W w3 : World} {o : Obj} {x : Value} {b : Nat} {us : List Value} (h : Blk W b us) (hg : (W.alloc o).grownBy w3 x.ownBlock) (hx : ∀ k, x.ownBlock = some k → k ≠ b) : Blk w3 b us :=
  (h.alloc o).grown hg fun e => hx b e.symm rfl
/-- What stands while conditions and aggregates are made, behind the world V in which the pattern and the names lie: both rows, the query's block. -/
structure QJ (V wr : World) (x y : Value) (hs : List Hv) (es : List Ag) (row : List Value) : Prop where
  bel : Below V.heap.size V wr
  hv : wr.ownsRow V.heap.size 96 4 x hs.length (hs.flatMap hvC)
  em : wr.ownsRow V.heap.size 92 2 y es.length (es.flatMap agC)
  blk : Blk wr V.heap.size (row ++ [x, y])
  nx : ∀ k, x.ownBlock = some k → k ≠ V.heap.size
  ny : ∀ k, y.ownBlock = some k → k ≠ V.heap.size
theorem QJ.later {V wr W : World} {x y : Value} {hs : List Hv} {es : List Ag} {row : List Value} (h : QJ V wr x y hs es row) (hb : Below wr.heap.size wr W) : QJ V W x y hs es row :=
  ⟨bstep h.bel hb, own_later h.hv hb, own_later h.em hb, h.blk.later hb, h.nx, h.ny⟩
theorem only_grown {W W' : World} {b : Nat} (ho : Only b W W') : W.grownBy W' (some b) := ⟨ho.os, ho.tape, ho.output, Nat.le_of_eq ho.size.symm, fun k _ hne => ho.block k (fun e => hne (by rw [e]))⟩
theorem set_x {row : List Value} {x y x' : Value} {n : Nat} (hn : row.length = n) : (row ++ [x, y]).set n x' = row ++ [x', y] := by
  subst hn
  rw [List.set_append_right _ _ (Nat.le_refl _), Nat.sub_self]
  rfl
theorem set_y {row : List Value} {x y y' : Value} {n : Nat} (hn : row.length + 1 = n) : (row ++ [x, y]).set n y' = row ++ [x, y'] := by
  subst hn
  rw [List.set_append_right _ _ (by omega), Nat.add_sub_cancel_left]
  rfl
theorem QJ.have_ {V wr w3 : World} {x y x' : Value} {hs : List Hv} {es : List Ag} {row : List Value} (h : QJ V wr x y hs es row) (hrow : row.length = 10) {z : Hv} {o : Obj} (hown : w3.ownsRow V.heap.size 96 4 x' (hs.length + 1) (hs.flatMap hvC ++ hvC z)) (hg : (wr.alloc o).grownBy w3 x.ownBlock) (hloc : x'.ownBlock = x.ownBlock ∨ x'.ownBlock = some (wr.alloc o).heap.size) :
    QJ V (w3.setCell ⟨V.heap.size, 10, none⟩ x') x' y (hs ++ [z]) es row := by
  have hlt := h.blk.lt
  have hx' : ∀ k, x'.ownBlock = some k → k ≠ V.heap.size := fun k e => by
    rcases hloc with h1 | h1
    · exact h.nx k (h1 ▸ e)
    · rw [h1, World.size_alloc] at e
      injection e with e
      omega
  have ho : Only V.heap.size w3 (w3.setCell ⟨V.heap.size, 10, none⟩ x') := (Only.refl _ w3).setCell 10 x'
  have hset := only_grown ho
  have hk : ∀ v : Value, (∀ k, v.ownBlock = some k → k ≠ V.heap.size) → v.ownBlock = none ∨ v.ownBlock ≠ some V.heap.size := fun v hv => .inr fun e => hv _ e rfl
  have hb3 := below_app h.bel (fun k e => (h.hv.lt k e).1) hg
  refine ⟨hb3.trans ho.below, ?_, ((own_alloc h.em o).kept hg (own_block_ne h.em h.hv (by decide))).kept hset (hk _ h.ny), ?_, hx', h.ny⟩
  · rw [List.length_append, List.flatMap_append]
    have : w3.ownsRow V.heap.size 96 4 x' (hs.length + [z].length) (hs.flatMap hvC ++ [z].flatMap hvC) := by simpa using hown
    exact this.kept hset (hk _ hx')
  · have h1 := blk_app h.blk hg h.nx
    have h2 := h1.set 10 x'
    rw [set_x hrow] at h2
    exact h2
theorem QJ.emit_ {V wr w3 : World} {x y y' : Value} {hs : List Hv} {es : List Ag} {row : List Value} (h : QJ V wr x y hs es row) (hrow : row.length = 10) {z : Ag} {o : Obj} (hown : w3.ownsRow V.heap.size 92 2 y' (es.length + 1) (es.flatMap agC ++ agC z)) (hg : (wr.alloc o).grownBy w3 y.ownBlock) (hloc : y'.ownBlock = y.ownBlock ∨ y'.ownBlock = some (wr.alloc o).heap.size) :
    QJ V (w3.setCell ⟨V.heap.size, 11, none⟩ y') x y' hs (es ++ [z]) row := by
  have hlt := h.blk.lt
  have hy' : ∀ k, y'.ownBlock = some k → k ≠ V.heap.size := fun k e => by
    rcases hloc with h1 | h1
    · exact h.ny k (h1 ▸ e)
    · rw [h1, World.size_alloc] at e
      injection e with e
      omega
  have ho : Only V.heap.size w3 (w3.setCell ⟨V.heap.size, 11, none⟩ y') := (Only.refl _ w3).setCell 11 y'
  have hset := only_grown ho
  have hk : ∀ v : Value, (∀ k, v.ownBlock = some k → k ≠ V.heap.size) → v.ownBlock = none ∨ v.ownBlock ≠ some V.heap.size := fun v hv => .inr fun e => hv _ e rfl
  have hb3 := below_app h.bel (fun k e => (h.em.lt k e).1) hg
  refine ⟨hb3.trans ho.below, ((own_alloc h.hv o).kept hg (own_block_ne h.hv h.em (by decide))).kept hset (hk _ h.nx), ?_, ?_, h.nx, hy'⟩
  · rw [List.length_append, List.flatMap_append]
    have : w3.ownsRow V.heap.size 92 2 y' (es.length + [z].length) (es.flatMap agC ++ [z].flatMap agC) := by simpa using hown
    exact this.kept hset (hk _ hy')
  · have h1 := blk_app h.blk hg h.ny
    have h2 := h1.set 11 y'
    rw [set_y (by omega)] at h2
    exact h2
end Go.Proofs.YtdoioaeppepndaaGreatDoor
