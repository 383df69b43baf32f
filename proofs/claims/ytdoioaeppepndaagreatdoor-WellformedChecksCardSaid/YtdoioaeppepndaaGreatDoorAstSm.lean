/- Queries as data, and in memory. -/
import Derived.Test.YtdoioaeppepndaaGreatDoorWords
import Derived.Test.YtdoioaeppepndaaGreatDoorTokSm
import Derived.Test.YtdoioaeppepndaaGreatDoorLabSm
import Derived.Lib.ItoaNum
import Derived.Lib.Join
import Derived.Test.YtdoioaeppepndaaGreatDoorSl
import Derived.Deep.Slices
namespace Go.Proofs.YtdoioaeppepndaaGreatDoor.A8
open Go.Proofs.YtdoioaeppepndaaGreatDoor.Tk7 Go.Proofs.YtdoioaeppepndaaGreatDoor.Lb

/-- A condition, an atom, a node, an aggregate, a condition on one, a query. -/
structure Cn where
  op : Int
  va : Int
deriving DecidableEq
structure At where
  kd : Int
  bd : Bool
  bn : Int
  cs : List Cn
  nm : List UInt8
deriving DecidableEq
inductive Nd where
  | mk (k mn mx : Int) (a : At) (ks : List Nd)
structure Ag where
  fn : Int
  nm : List UInt8
deriving DecidableEq
structure Hv where
  ag : Ag
  cn : Cn
deriving DecidableEq
structure Qu where
  p : Nd
  wi : Int
  hv : List Hv
  em : List Ag

theorem Nd.ind {P : Nd → Prop} (h : ∀ k mn mx a ks, (∀ t ∈ ks, P t) → P (.mk k mn mx a ks)) : ∀ t, P t
  | .mk k mn mx a ks => h k mn mx a ks fun t _ => Nd.ind h t
termination_by t => SizeOf.sizeOf t
decreasing_by
  have := List.sizeOf_lt_of_mem ‹t ∈ ks›
  simp only [Nd.mk.sizeOf_spec]
  omega

/-- The words of the language. -/
def wordsA : List (List UInt8) := [[119, 105, 116, 104, 105, 110], [104, 97, 118, 105, 110, 103], [97, 110, 100], [101, 109, 105, 116], [110, 111, 116], [99, 111, 117, 110, 116], [115, 117, 109], [109, 105, 110], [109, 97, 120], [102, 105, 114, 115, 116], [108, 97, 115, 116]]
/-- Whether this is a name. -/
def nameB (s : List UInt8) : Bool := decide (1 ≤ s.length) && decide (s.length ≤ 8) && s.all smallB && !wordsA.contains s
def condB (c : Cn) : Bool := decide (1 ≤ c.op) && decide (c.op ≤ 6)
def atomB (a : At) : Bool := (decide (0 ≤ a.kd) && decide (a.kd ≤ 25)) && (a.bd || decide (a.bn = 0)) && a.cs.all condB && (a.nm.isEmpty || nameB a.nm)
def zeroB (a : At) : Bool := decide (a.kd = 0) && !a.bd && decide (a.bn = 0) && a.nm.isEmpty && a.cs.isEmpty
/-- Whether a node is sound if its kids are. -/
def nodeB (k mn mx : Int) (a : At) (n : Nat) : Bool :=
  if k = 1 then atomB a && (decide (0 ≤ mn) && decide (mn ≤ 99)) && (decide (0 ≤ mx) && decide (mx ≤ 99)) && decide (n = 0)
  else if k = 2 then atomB a && (decide (mn = 0) && decide (mx = 0)) && decide (n = 0)
  else if k = 3 ∨ k = 4 then zeroB a && (decide (mn = 0) && decide (mx = 0)) && decide (2 ≤ n)
  else false
mutual
def soundN : Nat → Nd → Bool
  | d, .mk k mn mx a ks => decide (d ≤ 200) && nodeB k mn mx a ks.length && soundL (d + 1) ks
def soundL : Nat → List Nd → Bool
  | _, [] => true
  | d, n :: ns => soundN d n && soundL d ns
end
theorem soundL_all (d : Nat) (ks : List Nd) : soundL d ks = ks.all (soundN d) := by
  induction ks with
  | nil => rfl
  | cons n ns ih => rw [soundL, ih, List.all_cons]
def soundE (n : Nd) : Int := if soundN 1 n = true then 0 else 3
def aggB (a : Ag) : Bool := (decide (1 ≤ a.fn) && decide (a.fn ≤ 6)) && nameB a.nm
def haveB (h : Hv) : Bool := aggB h.ag && condB h.cn
def checkB (q : Qu) : Bool := soundN 1 q.p && decide (q.wi ≤ 99999) && q.hv.all haveB && q.em.all aggB
def checkE (q : Qu) : Int := if checkB q = true then 0 else 3

/-! Texts -/
/-- Lists with something between them. -/
def sepL (s : List UInt8) : List (List UInt8) → List UInt8
  | [] => []
  | [x] => x
  | x :: y :: r => x ++ s ++ sepL s (y :: r)
def listT (bef : List UInt8) (l : List (List UInt8)) (btw aft : List UInt8) : List UInt8 := if l.isEmpty then [] else bef ++ sepL btw l ++ aft
def opsA : List (List UInt8) := [[], [61], [33, 61], [60], [60, 61], [62], [62, 61]]
def funsA : List (List UInt8) := [[], [99, 111, 117, 110, 116], [115, 117, 109], [109, 105, 110], [109, 97, 120], [102, 105, 114, 115, 116], [108, 97, 115, 116]]
def condT (c : Cn) : List UInt8 := opsA.getD c.op.toNat [] ++ Lib.itoa c.va
def labelT (x : Int) : List UInt8 := [123] ++ Lib.join ((cats x.toNat).map Lib.decDigits) [44] ++ [125]
def atomT (a : At) : List UInt8 :=
  [UInt8.ofNat (65 + a.kd.toNat)] ++ (if a.bd = true then 64 :: labelT a.bn else []) ++ listT [91] (a.cs.map condT) [44] [93] ++ (if a.nm.isEmpty = true then [] else 58 :: a.nm)
def timesT (mn mx : Int) : List UInt8 := if mn = 1 ∧ mx = 1 then [] else [123] ++ (Lib.itoa mn ++ [44] ++ Lib.itoa mx) ++ [125]
def Nd.kind : Nd → Int | .mk k _ _ _ _ => k
/-- A kid, in parentheses or not. -/
def wrapT (k : Int) (kk : Int) (t : List UInt8) : List UInt8 := if kk = 4 ∨ kk = k then [40] ++ t ++ [41] else t
mutual
def textN : Nd → List UInt8
  | .mk k mn mx a ks =>
    if k = 1 then atomT a ++ timesT mn mx
    else if k = 2 then [110, 111, 116, 32] ++ atomT a
    else if k = 3 then sepL [32, 59, 32] (textL k ks)
    else if k = 4 then sepL [32, 124, 32] (textL k ks)
    else []
def textL : Int → List Nd → List (List UInt8)
  | _, [] => []
  | k, n :: ns => wrapT k n.kind (textN n) :: textL k ns
end
theorem textL_map (k : Int) (ks : List Nd) : textL k ks = ks.map fun n => wrapT k n.kind (textN n) := by
  induction ks with
  | nil => rfl
  | cons n ns ih => rw [textL, ih, List.map_cons]
def aggT (a : Ag) : List UInt8 := funsA.getD a.fn.toNat [] ++ [40] ++ a.nm ++ [41]
def haveT (h : Hv) : List UInt8 := aggT h.ag ++ [32] ++ condT h.cn
def queryT (q : Qu) : List UInt8 :=
  textN q.p ++ [32, 119, 105, 116, 104, 105, 110, 32] ++ Lib.itoa q.wi ++ listT [32, 104, 97, 118, 105, 110, 103, 32] (q.hv.map haveT) [32, 97, 110, 100, 32] [] ++ listT [32, 101, 109, 105, 116, 32] (q.em.map aggT) [44, 32] []
/-- A text, or the error. -/
def patternS (n : Nd) : List UInt8 := if soundN 1 n = true ∧ (textN n).length ≤ 400 then textN n else []
def patternE (n : Nd) : Int := if soundN 1 n = true then (if (textN n).length ≤ 400 then 0 else 4) else 3
def printS (q : Qu) : List UInt8 := if checkB q = true ∧ (queryT q).length ≤ 400 then queryT q else []
def printE (q : Qu) : Int := if checkB q = true then (if (queryT q).length ≤ 400 then 0 else 4) else 3

/-! Parts -/
mutual
def nodesN : Nd → Nat
  | .mk _ _ _ _ ks => 1 + nodesL ks
def nodesL : List Nd → Nat
  | [] => 0
  | n :: ns => nodesN n + nodesL ns
end
mutual
def depthN : Nd → Nat
  | .mk _ _ _ _ ks => 1 + depthL ks
def depthL : List Nd → Nat
  | [] => 0
  | n :: ns => max (depthN n) (depthL ns)
end
mutual
/-- The nodes of a node, each before its kids. -/
def subsN : Nd → List Nd
  | .mk k mn mx a ks => .mk k mn mx a ks :: subsL ks
def subsL : List Nd → List Nd
  | [] => []
  | n :: ns => subsN n ++ subsL ns
end
def Nd.kids : Nd → List Nd | .mk _ _ _ _ ks => ks
def Nd.atom : Nd → At | .mk _ _ _ a _ => a
/-- The nodes without kids. -/
def leavesN (n : Nd) : List Nd := (subsN n).filter fun t => t.kids.isEmpty
end Go.Proofs.YtdoioaeppepndaaGreatDoor.A8
namespace Go.Proofs.YtdoioaeppepndaaGreatDoor.A8
open Go.RowKit

/-- An atom, and the slice of its conditions. -/
structure GA where
  a : At
  sc : Value
/-- A node, and the slice of its kids. -/
inductive Tr where
  | mk (k mn mx : Int) (g : GA) (sk : Value) (ks : List Tr)
theorem Tr.ind {P : Tr → Prop} (h : ∀ k mn mx g sk ks, (∀ t ∈ ks, P t) → P (.mk k mn mx g sk ks)) : ∀ t, P t
  | .mk k mn mx g sk ks => h k mn mx g sk ks fun t _ => Tr.ind h t
termination_by t => SizeOf.sizeOf t
decreasing_by
  have := List.sizeOf_lt_of_mem ‹t ∈ ks›
  simp only [Tr.mk.sizeOf_spec]
  omega
mutual
def Tr.nd : Tr → Nd
  | .mk k mn mx g _ ks => .mk k mn mx g.a (ndL ks)
def ndL : List Tr → List Nd
  | [] => []
  | t :: ts => t.nd :: ndL ts
end
theorem ndL_map (ks : List Tr) : ndL ks = ks.map Tr.nd := by
  induction ks with
  | nil => rfl
  | cons n ns ih => rw [ndL, ih, List.map_cons]
theorem nd_mk (k mn mx : Int) (g : GA) (sk : Value) (ks : List Tr) : (Tr.mk k mn mx g sk ks).nd = .mk k mn mx g.a (ks.map Tr.nd) := by rw [Tr.nd, ndL_map]
/-- The cells of a condition, an atom, a node, an aggregate, a condition on one. -/
def cnC (c : Cn) : List Value := [.int .i64 c.op, .int .i64 c.va]
def gaC (g : GA) : List Value := [.int .i64 g.a.kd, .bool g.a.bd, .int .u64 g.a.bn, g.sc, .string (strOf g.a.nm)]
def Tr.row : Tr → List Value
  | .mk k mn mx g sk _ => [.int .i64 k, .int .i64 mn, .int .i64 mx, .int .i64 g.a.kd, .bool g.a.bd, .int .u64 g.a.bn, g.sc, .string (strOf g.a.nm), sk]
def agC (a : Ag) : List Value := [.int .i64 a.fn, .string (strOf a.nm)]
def hvC (h : Hv) : List Value := [.int .i64 h.ag.fn, .string (strOf h.ag.nm), .int .i64 h.cn.op, .int .i64 h.cn.va]
theorem cnC_len (c : Cn) : (cnC c).length = 2 := rfl
theorem agC_len (c : Ag) : (agC c).length = 2 := rfl
theorem hvC_len (c : Hv) : (hvC c).length = 4 := rfl
def Tr.mn : Tr → Int | .mk _ m _ _ _ _ => m
def Tr.mx : Tr → Int | .mk _ _ m _ _ _ => m
theorem row_len (t : Tr) : t.row.length = 9 := by cases t; rfl
/-- What a number of 64 bits is. -/
def okV (x : Int) : Prop := -9223372036854775808 ≤ x ∧ x ≤ 9223372036854775807
def okC (c : Cn) : Prop := okV c.op ∧ okV c.va
structure OkA (a : At) : Prop where
  kd : okV a.kd
  bn : 0 ≤ a.bn ∧ a.bn < 18446744073709551616
  cs : ∀ c ∈ a.cs, okC c
  nm : a.nm.length ≤ maxLen
/-- What lies in memory of an atom, of a node without its kids. -/
def OneA (w : World) (g : GA) : Prop := OkA g.a ∧ Sl w 2 g.a.cs.length g.sc (g.a.cs.flatMap cnC)
def OneT (w : World) : Tr → Prop
  | .mk k mn mx g sk ks => (okV k ∧ okV mn ∧ okV mx) ∧ OneA w g ∧ Sl w 9 ks.length sk (ks.flatMap Tr.row)
mutual
def subsT : Tr → List Tr
  | .mk k mn mx g sk ks => .mk k mn mx g sk ks :: subsTL ks
def subsTL : List Tr → List Tr
  | [] => []
  | t :: ts => subsT t ++ subsTL ts
end
theorem subsTL_flat (ks : List Tr) : subsTL ks = ks.flatMap subsT := by
  induction ks with
  | nil => rfl
  | cons n ns ih => rw [subsTL, ih, List.flatMap_cons]
theorem subs_trans {T : Tr} : ∀ {u v : Tr}, u ∈ subsT T → v ∈ subsT u → v ∈ subsT T := by
  refine Tr.ind (P := fun T => ∀ {u v : Tr}, u ∈ subsT T → v ∈ subsT u → v ∈ subsT T) (fun k mn mx g sk ks ih => ?_) T
  intro u v hu hv
  simp only [subsT, subsTL_flat, List.mem_cons, List.mem_flatMap] at hu ⊢
  rcases hu with rfl | ⟨t, ht, hu⟩
  · simp only [subsT, subsTL_flat, List.mem_cons, List.mem_flatMap] at hv
    exact hv
  · exact .inr ⟨t, ht, ih t ht hu hv⟩
/-- The tree lies in memory. -/
def TrW (w : World) (T : Tr) : Prop := ∀ t ∈ subsT T, OneT w t
theorem OneA.later {w w' : World} {g : GA} (h : OneA w g) (hb : Below w.heap.size w w') : OneA w' g := ⟨h.1, h.2.later hb⟩
theorem OneT.later {w w' : World} {t : Tr} (h : OneT w t) (hb : Below w.heap.size w w') : OneT w' t := by
  cases t with
  | mk k mn mx g sk ks => exact ⟨h.1, h.2.1.later hb, h.2.2.later hb⟩
theorem TrW.later {w w' : World} {T : Tr} (h : TrW w T) (hb : Below w.heap.size w w') : TrW w' T := fun t ht => (h t ht).later hb
theorem TrW.one {w : World} {T : Tr} (h : TrW w T) : OneT w T := h T (by cases T; simp [subsT])
theorem TrW.kid {w : World} {k mn mx : Int} {g : GA} {sk : Value} {ks : List Tr} (h : TrW w (.mk k mn mx g sk ks)) {t : Tr} (ht : t ∈ ks) : TrW w t := fun u hu => by
  refine h u ?_
  simp only [subsT, subsTL_flat, List.mem_cons, List.mem_flatMap]
  exact .inr ⟨t, ht, hu⟩
/-- The blocks below m are as they were. -/
def SameB (m : Nat) (w w' : World) : Prop := w.heap.size ≤ w'.heap.size ∧ ∀ k, k < m → w'.heap[k]? = w.heap[k]?
theorem SameB.refl (m : Nat) (w : World) : SameB m w w := ⟨Nat.le_refl _, fun _ _ => rfl⟩
theorem SameB.trans {m : Nat} {a b c : World} (h : SameB m a b) (k : SameB m b c) : SameB m a c := ⟨Nat.le_trans h.1 k.1, fun i hi => (k.2 i hi).trans (h.2 i hi)⟩
theorem SameB.of {m : Nat} {w w' : World} (h : Below m w w') : SameB m w w' := ⟨h.size, h.block⟩
theorem sl_same {w w' : World} {sz n : Nat} {v : Value} {us : List Value} (h : Sl w sz n v us) (hb : SameB w.heap.size w w') : Sl w' sz n v us := by
  obtain ⟨h1, h2, A, cap, h3, h4, h5, h6⟩ := h
  refine ⟨h1, h2, A, cap, h3, h4, h5, fun i u hu => ?_⟩
  obtain ⟨a, ha, hlt, hc⟩ := h6 i u hu
  refine ⟨a, ha, Nat.lt_of_lt_of_le hlt hb.1, ?_⟩
  have hbl := hb.2 _ hlt
  exact (World.cell?_of_block (w := w) (a := a.add i) (by rw [add_block]; exact hbl)).trans hc
theorem OneA.same {w w' : World} {g : GA} (h : OneA w g) (hb : SameB w.heap.size w w') : OneA w' g := ⟨h.1, sl_same h.2 hb⟩
theorem OneT.same {w w' : World} {t : Tr} (h : OneT w t) (hb : SameB w.heap.size w w') : OneT w' t := by
  cases t with
  | mk k mn mx g sk ks => exact ⟨h.1, h.2.1.same hb, sl_same h.2.2 hb⟩
theorem TrW.same {w w' : World} {T : Tr} (h : TrW w T) (hb : SameB w.heap.size w w') : TrW w' T := fun t ht => (h t ht).same hb
/-- What a slice of cells gives a walk: its address and its length. -/
theorem sl_get {w : World} {sz n : Nat} {v : Value} {us : List Value} (hz : 0 < sz) (h : Sl w sz n v us) : ∃ (A : Option Addr) (cap : Nat), v = .slice A n cap ∧ n ≤ 9223372036854775807 ∧ (n = 0 ∨ ∃ a, A = some a ∧ a.block < w.heap.size ∧ ∀ (i : Nat) (u : Value), us[i]? = some u → w.cell? (a.add i) = some u) := by
  obtain ⟨h1, h2, A, cap, h3, h4, h5, h6⟩ := h
  refine ⟨A, cap, h3, by unfold maxLen at h2; exact h2, ?_⟩
  rcases Nat.eq_zero_or_pos n with h0 | h0
  · exact .inl h0
  · have hu : 0 < us.length := by rw [h1]; exact Nat.mul_pos h0 hz
    obtain ⟨a, ha, hb, _⟩ := h6 0 us[0] (by simp [hu])
    exact .inr ⟨a, ha, hb, fun i u hi => by
      obtain ⟨a', ha', _, hc⟩ := h6 i u hi
      rw [ha] at ha'
      cases ha'
      exact hc⟩

/-- An element of a slice: its cells, as a walk names them. -/
structure El (w : World) (p : Addr) (us : List Value) : Prop where
  lt : p.block < w.heap.size
  at0 : ∀ v, us[0]? = some v → w.cell? p = some v
  at1 : ∀ (j : Nat) (v : Value), 0 < j → us[j]? = some v → w.cell? ⟨p.block, p.off + j, none⟩ = some v
theorem El.later {w w' : World} {p : Addr} {us : List Value} (h : El w p us) (hb : Below w.heap.size w w') : El w' p us :=
  ⟨Nat.lt_of_lt_of_le h.lt hb.size, fun v hv => (hb.cell (p := p) h.lt).trans (h.at0 v hv), fun j v h0 hv => (hb.cell (p := ⟨p.block, p.off + j, none⟩) h.lt).trans (h.at1 j v h0 hv)⟩
theorem El.same {w w' : World} {p : Addr} {us : List Value} (h : El w p us) (hb : SameB w.heap.size w w') : El w' p us :=
  ⟨Nat.lt_of_lt_of_le h.lt hb.1, fun v hv => (World.cell?_of_block (w := w) (a := p) (hb.2 _ h.lt)).trans (h.at0 v hv), fun j v h0 hv => (World.cell?_of_block (w := w) (a := ⟨p.block, p.off + j, none⟩) (hb.2 _ h.lt)).trans (h.at1 j v h0 hv)⟩
theorem addAt (a : Addr) (n m : Nat) (hm : 0 < m) : (⟨(a.add n).block, (a.add n).off + m, none⟩ : Addr) = a.add (n + m) := by
  rw [← Go.Deep.add_add]
  conv => rhs; unfold Addr.add
  rw [if_neg (by omega)]
  rfl
theorem sl_els {α : Type} {f : α → List Value} {sz : Nat} (hz : 0 < sz) (hf : ∀ x, (f x).length = sz) {w : World} {v : Value} {l : List α} (h : Sl w sz l.length v (l.flatMap f)) :
    ∃ (A : Option Addr) (cap : Nat), v = .slice A l.length cap ∧ l.length ≤ 9223372036854775807 ∧ ∀ (k : Nat) (hk : k < l.length), ∃ a, A = some a ∧ a.block < w.heap.size ∧ El w (a.add (k * sz)) (f l[k]) := by
  obtain ⟨A, cap, rfl, hm, hc⟩ := sl_get hz h
  refine ⟨A, cap, rfl, hm, fun k hk => ?_⟩
  rcases hc with h0 | ⟨a, rfl, hb, hc⟩
  · omega
  · have hlt : ∀ j v, (f l[k])[j]? = some v → j < sz := fun j v hv => by
      have := (List.getElem?_eq_some_iff.1 hv).1
      rw [hf] at this
      exact this
    refine ⟨a, rfl, hb, by rw [add_block]; exact hb, fun v hv => ?_, fun j v h0 hv => ?_⟩
    · have := hc (k * sz) v (by rw [← Nat.add_zero (k * sz), flat_get hf l k hk 0 (hlt 0 v hv)]; exact hv)
      exact this
    · rw [addAt _ _ _ h0]
      exact hc (k * sz + j) v (by rw [flat_get hf l k hk j (hlt j v hv)]; exact hv)
theorem b1 (w : World) (o : Obj) : Below w.heap.size w (w.alloc o) := (Below.refl _ _).alloc (Nat.le_refl _) o
theorem b2 (w : World) (o p : Obj) : Below w.heap.size w ((w.alloc o).alloc p) := (b1 w o).alloc (by simp) p
theorem b3 (w : World) (o p q : Obj) : Below w.heap.size w (((w.alloc o).alloc p).alloc q) := (b2 w o p).alloc (by simp; omega) q

/-! What a walk of a tree yields -/
mutual
def preT : Nat → Tr → List (Nat × Tr)
  | d, .mk k mn mx g sk ks => (d, .mk k mn mx g sk ks) :: preTL (d + 1) ks
def preTL : Nat → List Tr → List (Nat × Tr)
  | _, [] => []
  | d, t :: ts => preT d t ++ preTL d ts
end
theorem preTL_flat (d : Nat) (ks : List Tr) : preTL d ks = ks.flatMap (preT d) := by
  induction ks with
  | nil => rfl
  | cons n ns ih => rw [preTL, ih, List.flatMap_cons]
theorem preTL_app (d : Nat) (a b : List Tr) : preTL d (a ++ b) = preTL d a ++ preTL d b := by rw [preTL_flat, preTL_flat, preTL_flat, List.flatMap_append]
theorem flat_congr {α β : Type} {l : List α} {f g : α → List β} (h : ∀ x ∈ l, f x = g x) : l.flatMap f = l.flatMap g := by
  show (l.map f).flatten = (l.map g).flatten
  rw [List.map_congr_left h]
theorem preT_snd (T : Tr) : ∀ d, (preT d T).map Prod.snd = subsT T := by
  refine Tr.ind (P := fun T => ∀ d, (preT d T).map Prod.snd = subsT T) (fun k mn mx g sk ks ih d => ?_) T
  rw [preT, subsT, preTL_flat, subsTL_flat, List.map_cons, List.map_flatMap]
  congr 1
  exact flat_congr fun t ht => ih t ht (d + 1)
theorem preT_mem {d : Nat} {T : Tr} {x : Nat × Tr} (h : x ∈ preT d T) : x.2 ∈ subsT T := by
  rw [← preT_snd T d]
  exact List.mem_map_of_mem h
theorem subsT_nd (T : Tr) : (subsT T).map Tr.nd = subsN T.nd := by
  refine Tr.ind (P := fun T => (subsT T).map Tr.nd = subsN T.nd) (fun k mn mx g sk ks ih => ?_) T
  have hl : ∀ l : List Nd, subsL l = l.flatMap subsN := fun l => by
    induction l with
    | nil => rfl
    | cons n ns ih => rw [subsL, ih, List.flatMap_cons]
  rw [subsT, subsTL_flat, nd_mk, subsN, hl, List.map_cons, List.map_flatMap, List.flatMap_map, nd_mk]
  congr 1
  exact flat_congr fun t ht => ih t ht
end Go.Proofs.YtdoioaeppepndaaGreatDoor.A8
