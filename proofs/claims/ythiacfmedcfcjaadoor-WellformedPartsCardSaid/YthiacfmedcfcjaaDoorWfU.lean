/- What the law WellformedFew builds: rows of letters, and nodes as deep as asked; and boxes of nodes. -/
import Derived.Test.YthiacfmedcfcjaaDoorWfT
namespace Go.Proofs.YthiacfmedcfcjaaDoor
open Go.RowKit Go.Shelf Go.Maps
open A8 W10
attribute [local go_sem] Oper.semAt_some

def ltX (i : Nat) : Tr := leafX 1 1 1 ((i % 26 : Nat) : Int) []
def ltL (k : Nat) : List Tr := (List.range k).map ltX
def ltN (k : Nat) : List Nd := (List.range k).map fun i => leafNd 1 1 1 ((i % 26 : Nat) : Int) []
theorem ltL_len (k : Nat) : (ltL k).length = k := by unfold ltL; simp
theorem ltL_succ (k : Nat) : ltL (k + 1) = ltL k ++ [ltX k] := by unfold ltL; rw [List.range_succ, List.map_append]; rfl
theorem ltL_nd (k : Nat) : (ltL k).map Tr.nd = ltN k := by
  unfold ltL ltN
  rw [List.map_map]
  apply List.map_congr_left
  intro i _
  exact leafX_nd _ _ _ _ _
theorem ltX_tr (i : Nat) (w : World) : TrW w (ltX i) := leafX_tr 1 1 1 _ [] w (by unfold okV; omega) (by unfold okV; omega) (by unfold okV; omega) (by unfold okV; omega) (by unfold maxLen; simp)
theorem ltL_tr {k : Nat} {w : World} : ∀ t ∈ ltL k, TrW w t := by
  intro t ht
  unfold ltL at ht
  obtain ⟨i, -, rfl⟩ := List.mem_map.1 ht
  exact ltX_tr i w
def flatNd (n : Nat) : Nd := kidsNd 4 (ltN n)
def wideNd (n : Nat) : Nd := if n = 1 then leafNd 1 1 1 0 [] else if n ≤ 8 then flatNd n else kidsNd 3 [kidsNd 4 ((ltN n).take 7), kidsNd 4 ((ltN n).drop 7)]
def deepNd : Nat → Nd
  | 0 => leafNd 1 1 1 0 []
  | k + 1 => kidsNd 3 [deepNd k, leafNd 1 1 1 1 []]
theorem few_wide : ∀ n, n < 15 → 1 ≤ n → wfE ⟨wideNd n, 5, [], []⟩ = (if n ≤ 12 then 0 else 6) := by decide +kernel
theorem few_flat : ∀ n, n < 15 → 1 ≤ n → (n ≤ 8 → 1 < n → wfE ⟨flatNd n, 5, [], []⟩ = 0) ∧ (8 < n → (wfE ⟨flatNd n, 5, [], []⟩ == 0) = false) := by decide +kernel
theorem few_deep : ∀ n, n < 9 → wfE ⟨deepNd n, 5, [], []⟩ = (if n < 6 then 0 else 22) := by decide +kernel
theorem few_len : ∀ n, n < 15 → nodesN (wideNd n) ≤ 100 ∧ nodesN (flatNd n) ≤ 100 ∧ nodesN (deepNd n) ≤ 100 := by decide +kernel
/-- A node put into its box. -/
def put9 (W : World) (b : Nat) (v0 v1 v2 v3 v4 v5 v6 v7 v8 : Value) : World :=
  ((((((((W.setCell ⟨b, 0, none⟩ v0).setCell ⟨b, 1, none⟩ v1).setCell ⟨b, 2, none⟩ v2).setCell ⟨b, 3, none⟩ v3).setCell ⟨b, 4, none⟩ v4).setCell ⟨b, 5, none⟩ v5).setCell ⟨b, 6, none⟩ v6).setCell ⟨b, 7, none⟩ v7).setCell ⟨b, 8, none⟩ v8
theorem put9_blk {W : World} {b : Nat} {x0 x1 x2 x3 x4 x5 x6 x7 x8 : Value} (h : Blk W b [x0, x1, x2, x3, x4, x5, x6, x7, x8]) (v0 v1 v2 v3 v4 v5 v6 v7 v8 : Value) : Blk (put9 W b v0 v1 v2 v3 v4 v5 v6 v7 v8) b [v0, v1, v2, v3, v4, v5, v6, v7, v8] :=
  (((((((((h.set 0 v0).set 1 v1).set 2 v2).set 3 v3).set 4 v4).set 5 v5).set 6 v6).set 7 v7).set 8 v8)
theorem put9_grown (W : World) (b : Nat) (v0 v1 v2 v3 v4 v5 v6 v7 v8 : Value) : W.grownBy (put9 W b v0 v1 v2 v3 v4 v5 v6 v7 v8) (some b) :=
  grown_set10 (grown_set10 (grown_set10 (grown_set10 (grown_set10 (grown_set10 (grown_set10 (grown_set10 (grown_set10 (grown_id W b) 0 v0) 1 v1) 2 v2) 3 v3) 4 v4) 5 v5) 6 v6) 7 v7) 8 v8
theorem put9_below {w W : World} {m b : Nat} (h : Below m w W) (hb : m ≤ b) (v0 v1 v2 v3 v4 v5 v6 v7 v8 : Value) : Below m w (put9 W b v0 v1 v2 v3 v4 v5 v6 v7 v8) :=
  ((((((((h.setCell (p := ⟨b, 0, none⟩) hb _).setCell (p := ⟨b, 1, none⟩) hb _).setCell (p := ⟨b, 2, none⟩) hb _).setCell (p := ⟨b, 3, none⟩) hb _).setCell (p := ⟨b, 4, none⟩) hb _).setCell (p := ⟨b, 5, none⟩) hb _).setCell (p := ⟨b, 6, none⟩) hb _).setCell (p := ⟨b, 7, none⟩) hb _).setCell (p := ⟨b, 8, none⟩) hb _
theorem below_g {w W : World} (h : Below w.heap.size w W) (o : Option Nat) : w.grownBy W o := ⟨h.os, h.tape, h.output, h.size, fun k hk _ => h.block k hk⟩
theorem grown_t {w V W : World} {o : Option Nat} (h : w.grownBy V o) (g : V.grownBy W o) : w.grownBy W o := h.trans g
/-- A tree that stays whatever becomes of the block b. -/
def Held (b : Nat) (w : World) (T : Tr) : Prop := ∀ W, w.grownBy W (some b) → TrW W T
theorem Held.now {b : Nat} {w : World} {T : Tr} (h : Held b w T) : TrW w T := h w (grown_id w b)
theorem Held.to {b : Nat} {w W : World} {T : Tr} (h : Held b w T) (g : w.grownBy W (some b)) : Held b W T := fun V hV => h V (g.trans hV)
theorem Held.leaf (b : Nat) (w : World) (k : Nat) (hk : k < 26) : Held b w (leafX 1 1 1 (k : Int) []) := fun W _ => leafX_tr 1 1 1 _ [] W (by unfold okV; omega) (by unfold okV; omega) (by unfold okV; omega) (by unfold okV; omega) (by unfold maxLen; simp)
/-- Two nodes in a new row. -/
theorem Held.two {b : Nat} {w : World} {T U : Tr} (h : Held b w T) (h2 : Held b w U) (hb : b < w.heap.size) :
    Held b (w.alloc (.cells ([T, U].flatMap Tr.row).toArray 30)) (kidsX 3 (.slice (some ⟨w.heap.size, 0, none⟩) 2 2) [T, U]) := by
  intro W hW
  have hg : w.grownBy W (some b) := (below_g (b1 _ _) _).trans hW
  exact kidsX_tr (by unfold okV; omega) (sl_but (sl_fresh w 2 9 ([T, U].flatMap Tr.row) 30 (by simp [List.flatMap, row_len]) (by decide)) hW (by omega)) (kids_of2 (h W hg) (h2 W hg))
end Go.Proofs.YthiacfmedcfcjaaDoor
