/- Package label. -/
import Derived.Test.YtdoioaeppepndaaGreatDoorProg
import Derived.Shelf.Spec.TrailingZeros
import Derived.RangeFuncNested
import Derived.RangeFuncFrom
import Derived.RangeFuncBox
import Derived.RangeFuncBound
import Derived.RangeFuncCalls
import Derived.RangeFuncLeaves
import Derived.Shelf.Abstract
import Derived.Shelf.RegionOpen
import Derived.WalkKit
import Derived.OwnWalkIn
import Derived.TacticsInMore
import Derived.LoopNIn
import Derived.LoopIn
import Derived.Outline
import Derived.Test.YtdoioaeppepndaaGreatDoorWords
import Derived.Test.YtdoioaeppepndaaGreatDoorLabSm
import Derived.RangeFuncWrites
import Derived.Lib.ItoaNum
import Derived.Lib.Join
import Derived.Test.YtdoioaeppepndaaGreatDoorShelf
namespace Go.Proofs.YtdoioaeppepndaaGreatDoor
open Go.Shelf
end Go.Proofs.YtdoioaeppepndaaGreatDoor
namespace Go.Proofs.YtdoioaeppepndaaGreatDoor
open Go.RowKit Go.Shelf
open Lb
attribute [local go_sem] Oper.semAt_some

theorem tabAt_below {g n₀ : Nat} {tab : List Nat} {w w' : World} (h : TabAt g tab w) (hb : Below n₀ w w') (hg : g < n₀) : TabAt g tab w' :=
  fun j hj => (hb.cell (p := ⟨g, j, none⟩) hg).trans (h j hj)

theorem tabAt_alloc {g : Nat} {tab : List Nat} {w : World} (h : TabAt g tab w) (hg : g < w.heap.size) (o : Obj) : TabAt g tab (w.alloc o) :=
  tabAt_below h ((Below.refl w.heap.size w).alloc (Nat.le_refl _) o) hg

theorem box_at {W : World} {B : Nat} {v : Value} {t : TypeId} (h : W.heap[B]? = some (.cells #[v] t (0, 0))) : W.cell? ⟨B, 0, none⟩ = some v ∧ W.frozen? ⟨B, 0, none⟩ = false := by
  constructor <;> simp [World.cell?, World.frozen?, h]
theorem box_new (W : World) (v : Value) (t : TypeId) : (W.alloc (.cells #[v] t)).cell? ⟨W.heap.size, 0, none⟩ = some v ∧ (W.alloc (.cells #[v] t)).frozen? ⟨W.heap.size, 0, none⟩ = false :=
  box_at (World.alloc_heap_new W _)
theorem cell_past {W : World} {a : Addr} {v : Value} (o : Obj) (h : W.cell? a = some v) : (W.alloc o).cell? a = some v := cell_kept h (World.grownBy_alloc W o none) (fun r e => by cases e)
theorem frozen_past {W : World} {a : Addr} {v : Value} (o : Obj) (h : W.cell? a = some v) (hf : W.frozen? a = false) : (W.alloc o).frozen? a = false := (frozen_kept h (World.grownBy_alloc W o none) (fun r e => by cases e)).trans hf

theorem cell_set_two {w : World} {a b : Addr} {u v : Value} (ha : w.cell? a = some u) (hb : w.cell? b = some v) (hne : a ≠ b) (x y : Value) :
    ((w.setCell a x).setCell b y).cell? a = some x ∧ ((w.setCell a x).setCell b y).cell? b = some y := by
  have e0 : (w.setCell a x).cell? a = some x := World.cell?_setCell_same' _ _ _ (by rw [ha]; rfl)
  have e1 : (w.setCell a x).cell? b = some v := (World.cell?_setCell_other _ _ _ _ (fun h => hne (by first | exact h | exact h.symm))).trans hb
  exact ⟨(World.cell?_setCell_other _ _ _ _ (fun h => hne (by first | exact h | exact h.symm))).trans e0, World.cell?_setCell_same' _ _ _ (by rw [e1]; rfl)⟩

theorem leastI_nat (r : Nat) (hr : r < 18446744073709551616) : leastI (r : Int) = match cats r with | [] => (0, 2) | c :: _ => ((c : Int), 0) := by
  unfold leastI
  rw [catsI_nat r hr]
  cases cats r with
  | nil => rfl
  | cons c t => rfl

end Go.Proofs.YtdoioaeppepndaaGreatDoor
namespace Go.Proofs.YtdoioaeppepndaaGreatDoor
open Go.RowKit
open Lb

theorem without_any (a b : Int) (w : World) :
    Calls Tryz.prog 99 #[.int .u64 a, .int .u64 b] w fun e w' => e = .returned (.int .u64 (bits .andNot .u64 a b)) ∧ w = w' := by
  go_enter Tryz.func99, Tryz.ntmps99
  go_wp2
  go_ret
  exact ⟨rfl, rfl⟩
theorem below_any (a b : Int) (w : World) :
    Calls Tryz.prog 58 #[.int .u64 a, .int .u64 b] w fun e w' => e = .returned (.bool (belowI a b)) ∧ w = w' := by
  go_enter Tryz.func58, Tryz.ntmps58
  go_wp2
  go_ret
  exact ⟨rfl, rfl⟩
theorem join_any (v : Value) (l : List Int) (w : World) (h : Slc w v (vals .u64 l)) :
    Calls Tryz.prog 127 #[v] w fun e w' => e = .returned (.int .u64 (joinI l)) ∧ w = w' := by
  obtain ⟨A, cap, rfl, hm, hc⟩ := h.ints
  clear h
  go_enter Tryz.func127, Tryz.ntmps127
  go_wp2
  go_loop [3, 8] (fun t i => ∃ k : Nat, k ≤ l.length ∧ i = .int .i64 k ∧ t = .int .u64 (joinI (l.take k))) (fun _ i => l.length - (intOf i).toNat)
  case atStart => exact ⟨0, Nat.zero_le _, rfl, rfl⟩
  case round =>
    obtain ⟨k, hk, rfl, rfl⟩ := hrel
    by_cases hlt : k < l.length
    · obtain ⟨a, rfl, _, hcell⟩ := hc k hlt
      have hj := Lib.hid (joinI_snoc (l.take k) l[k])
      have ht := Lib.hid (take_snoc l k hlt)
      go_wp2
      go_round
      case rel => exact ⟨k + 1, by omega, by go_num, by rw [ht.out, hj.out]⟩
      case measure => simp [intOf]; omega
    · go_wp2
      go_ret
      exact ⟨by rw [List.take_of_length_le (by omega)]; rfl, rfl⟩
end Go.Proofs.YtdoioaeppepndaaGreatDoor
namespace Go.Proofs.YtdoioaeppepndaaGreatDoor
open Go.RowKit
open Lb

theorem ofI_bad {l : List Int} {k : Nat} (h : k < l.length) (hc : isCat l[k] = false) : ofI l = (0, 2) := by
  unfold ofI
  rw [if_neg]
  intro ha
  have := List.all_eq_true.1 ha l[k] (List.getElem_mem h)
  rw [hc] at this
  cases this
theorem ofI_good {l : List Int} (h : l.all isCat = true) : ofI l = (orAll l, 0) := by unfold ofI; rw [if_pos h]
theorem all_take_succ {l : List Int} {k : Nat} (h : k < l.length) (ha : (l.take k).all isCat = true) (hc : isCat l[k] = true) : (l.take (k + 1)).all isCat = true := by
  rw [take_snoc l k h, List.all_append, ha]; simp [hc]
theorem isCat_iff {c : Int} : isCat c = true ↔ 0 ≤ c ∧ c ≤ 63 := by simp [isCat]

end Go.Proofs.YtdoioaeppepndaaGreatDoor
namespace Go.Proofs.YtdoioaeppepndaaGreatDoor
open Go.RowKit
open Lb

theorem infoInt : (Tryz.prog.info? 3).map (fun i => (i.zero, i.size, i.bytes)) = some (some (.int .i64 0), 1, 8) := by kernel_rfl

end Go.Proofs.YtdoioaeppepndaaGreatDoor
namespace Go.Proofs.YtdoioaeppepndaaGreatDoor
open Go.RowKit Go.Shelf
open Lb
attribute [local go_sem] Oper.semAt_some

def ints (zs : List Nat) : List Value := vals .i64 (zs.map fun (k : Nat) => (k : Int))
theorem ints_length (zs : List Nat) : (ints zs).length = zs.length := by simp [ints, vals]
theorem ints_snoc (zs : List Nat) (x : Nat) : ints (zs ++ [x]) = ints zs ++ [.int .i64 (x : Int)] := by simp [ints, vals]

end Go.Proofs.YtdoioaeppepndaaGreatDoor
namespace Go.Proofs.YtdoioaeppepndaaGreatDoor
open Go.RowKit Go.Shelf
open Lb
attribute [local go_sem] Oper.semAt_some

/-- An append onto a row of the call's own, as a step of a region that draws its order, inside a fence. -/
theorem stepIn_append_own {F : Fence} {n : Nat} {P : Program} {w : World} {ops : Array Oper} {o : Oper} {a : Act} {K : Act → World → Prop} {Q : Exit → Act → World → Prop} {E : Prop}
    (hg : o.guard = none) (s x : Operand) (t : TypeId) (hop : o.op = Op.call { callee := Callee.builtin Builtin.append, args := #[s, x], argTypes := #[t, t] })
    (base : Nat) (e : TypeId) (i : TypeInfo) (z : Value) (size bytes : Nat) (h1 : P.underlying t = some (.slice e)) (h2 : P.info? e = some i) (h3 : i.zero = some z) (h4 : i.size = size) (h5 : i.bytes = bytes) (h6 : z.cells.size = size) (h7 : 0 < size)
    (v : Value) (k : Nat) (xs : List Value) (hs : a.eval s = v) (hown : w.ownsRow base e size v k xs) (ad : Addr) (m c : Nat) (news : List Value) (hx : a.eval x = .slice (some ad) m c) (hn : news.length = m * size)
    (hc : ∀ j u, news[j]? = some u → w.cell? (ad.add j) = some u) (h1c : ∀ u ∈ news, u.oneCell' = true) (b1 : k + m ≤ maxLen) (b2 : (k + m) * bytes ≤ 140737488355328) (b3 : base ≤ w.heap.size)
    (hK : ∀ v' w', w'.ownsRow base e size v' (k + m) (xs ++ news) → w.grownBy w' v.ownBlock → (v' = .slice none 0 0 ↔ v = .slice none 0 0 ∧ m = 0) → K (a.put o.dst v') w') :
    if Region.wanted o (yielded ops a.tmps) = true then Oper.wpIn F n P o a w K Q else E := by
  have hw : Region.wanted o (yielded ops a.tmps) = true := by simp [Region.wanted, hg]
  rw [if_pos hw]
  obtain ⟨v', w', hrun, r1, r2, r3⟩ := run_append_own (P := P) w base t o.type e i z size bytes h1 h2 h3 h4 h5 h6 h7 v k xs hown ad m c news hn hc h1c b1 b2 b3
  unfold Oper.wpIn
  refine ⟨?_, ?_⟩
  · simp [Oper.about, hop, resolve, Target.leads, Sem.run_pure]
  · rw [Oper.semAt_plain F _ _ (by rw [hop]; intro c hc'; cases hc')]
    simp [execOp, hop, resolve, invoke, builtin, hs, hx, hrun, Result.andThen]
    exact hK v' w' r1 r2 r3

theorem infoStr : (Tryz.prog.info? 9).map (fun i => (i.zero, i.size, i.bytes)) = some (some (.string ByteArray.empty), 1, 16) := by kernel_rfl

/-- The texts of categories. -/
abbrev decStr (k : Nat) : ByteArray := ⟨(Lib.decDigits k).toArray⟩
def strs (zs : List Nat) : List Value := zs.map fun k => Value.string (decStr k)
theorem strs_snoc (zs : List Nat) (x : Nat) : strs (zs ++ [x]) = strs zs ++ [.string (decStr x)] := by simp [strs]
/-- The bytes of the text of a label with these categories. -/
def textOf (zs : List Nat) : List UInt8 := [123] ++ Lib.join (zs.map Lib.decDigits) [44] ++ [125]

theorem textOf_str (zs : List Nat) : (({ data := #[123] } : ByteArray) ++ strOf (Lib.join (zs.map Lib.decDigits) [44]) ++ { data := #[125] }) = strOf (textOf zs) := by
  apply ByteArray.ext
  simp [strOf, textOf]

theorem textOf_length (zs : List Nat) (h : ∀ k ∈ zs, k < 64) : (Lib.join (zs.map Lib.decDigits) [44]).length ≤ 3 * zs.length := by
  have hd : ∀ k : Nat, k < 64 → (Lib.decDigits k).length ≤ 2 := fun k hk => by
    by_cases h1 : k < 10
    · rw [Lib.decDigits_one h1]; simp
    · rw [Lib.decDigits_two h1 (by omega)]; simp
  cases zs with
  | nil => simp [Lib.join_nil]
  | cons x r =>
    rw [List.map_cons, Lib.join_cons, List.length_append, Lib.joinTail_length]
    have hx := hd x (h x (by simp))
    have hr : ∀ l : List Nat, (∀ k ∈ l, k < 64) → Lib.lens (l.map Lib.decDigits) ≤ 2 * l.length := fun l => by
      induction l with
      | nil => intro _; simp [Lib.lens]
      | cons y t ih =>
        intro hl
        have h1 := hd y (hl y (by simp))
        have h2 := ih (fun k hk => hl k (by simp [hk]))
        simp [Lib.lens] at h2 ⊢
        omega
    have := hr r (fun k hk => h k (by simp [hk]))
    simp only [List.length_map, List.length_cons, List.length_nil] at this ⊢
    omega

end Go.Proofs.YtdoioaeppepndaaGreatDoor
