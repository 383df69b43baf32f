/- A number put into an ascending list; rows that grow. Nothing here speaks of the program. -/
import Derived.Test.YtlembnpplnbagaaLatE
namespace Go.Proofs.Ytlembnpplnbagaa.Lt
open Go.RowKit

/-- A number put into an ascending list, if it is not there. -/
def ins : List Nat → Nat → List Nat
  | [], x => [x]
  | y :: l, x => if y < x then y :: ins l x else if y = x then y :: l else x :: y :: l
theorem ins_at (x : Nat) : ∀ (l : List Nat) (n : Nat), n ≤ l.length → (∀ (k : Nat) (hl : k < l.length), k < n → l[k] < x) → (∀ (hl : n < l.length), x < l[n]) → ins l x = l.take n ++ x :: l.drop n := by
  intro l
  induction l with
  | nil =>
    intro n hn _ _
    obtain rfl : n = 0 := by simpa using hn
    rfl
  | cons y l ih =>
    intro n hn h1 h2
    cases n with
    | zero =>
      have hy : x < y := h2 (by simp)
      unfold ins
      rw [if_neg (by omega), if_neg (by omega)]
      rfl
    | succ n =>
      have hy : y < x := h1 0 (by simp) (by omega)
      unfold ins
      rw [if_pos hy, ih n (by simpa using hn) (fun k hl hk => h1 (k + 1) (by simpa using hl) (by omega)) (fun hl => h2 (by simpa using hl))]
      rfl
theorem ins_same (x : Nat) : ∀ (l : List Nat) (n : Nat) (hn : n < l.length), (∀ (k : Nat) (hl : k < l.length), k < n → l[k] < x) → l[n] = x → ins l x = l := by
  intro l
  induction l with
  | nil => intro n hn _ _; simp at hn
  | cons y l ih =>
    intro n hn h1 h2
    cases n with
    | zero =>
      have hy : y = x := h2
      unfold ins
      rw [if_neg (by omega), if_pos hy]
    | succ n =>
      have hy : y < x := h1 0 (by simp) (by omega)
      unfold ins
      rw [if_pos hy, ih n (by simpa using hn) (fun k hl hk => h1 (k + 1) (by simpa using hl) (by omega)) h2]
theorem own1_more {B : Nat} {e : TypeId} {w wr w1 : World} {us news : List Value} {v v1 : Value} {m : Nat} (h : Own1 B e w us v wr) (h1 : w1.ownsRow B e 1 v1 (us.length + m) (us ++ news)) (hm : news.length = m) (hg : wr.grownBy w1 v.ownBlock) :
    Own1 B e w (us ++ news) v1 w1 :=
  ⟨by rw [List.length_append, hm]; exact h1, h.2.1.grown hg h.2.2 (fun k hk => (h.1.lt k hk).1), Nat.le_trans h.2.2 hg.size⟩
theorem lv_append (a b : List Nat) : lv (a ++ b) = lv a ++ lv b := by simp [lv]
theorem lv_get {l : List Nat} {i : Nat} {u : Value} (h : (lv l)[i]? = some u) : ∃ hl : i < l.length, u = .int .u64 (l[i] : Int) := by
  unfold lv at h
  rw [List.getElem?_map] at h
  by_cases hl : i < l.length
  · rw [List.getElem?_eq_getElem hl] at h
    exact ⟨hl, (Option.some.inj h).symm⟩
  · rw [List.getElem?_eq_none (by omega)] at h
    cases h
end Go.Proofs.Ytlembnpplnbagaa.Lt
