/- A slice of rows appended to a row of the call's own; the law RowAgain. -/
import Derived.Test.YtkmkhegekonbmaaDoorRowNN
import Derived.Test.YtkmkhegekonbmaaDoorRowSS
import Derived.Laws.AppendOwnNone
namespace Go.Proofs.YtkmkhegekonbmaaDoor
open Go.RowKit
open Rw6

theorem own_grown_refl {w : World} {row : Option Nat} : w.grownBy w row := ⟨rfl, rfl, rfl, Nat.le_refl _, fun _ _ _ => rfl⟩
/-- A slice appended to a row of the call's own, nil or not. -/
theorem wpList_append_any {P : Program} {w : World} {ops : Array Oper} {rest : List Oper} {o : Oper} {a : Act} {Q : Exit → Act → World → Prop} (hgd : o.guard = none) (s x : Operand) (t : TypeId)
    (ho : o.op = .call { callee := .builtin .append, args := #[s, x], argTypes := #[t, t] })
    (base : Nat) (e : TypeId) (i : TypeInfo) (z : Value) (size bytes : Nat) (ht : P.underlying t = some (.slice e)) (hi : P.info? e = some i) (hz : i.zero = some z)
    (hsize : i.size = size) (hby : i.bytes = bytes) (hzs : z.cells.size = size) (hsz : 0 < size)
    (v : Value) (n : Nat) (xs : List Value) (hs : a.eval s = v) (hown : w.ownsRow base e size v n xs)
    (X : Value) (m : Nat) (news : List Value) (hx : a.eval x = X) (hX : Sl w size m X news) (h1 : ∀ u ∈ news, u.oneCell' = true)
    (h63 : n + m ≤ maxLen) (hbytes : (n + m) * bytes ≤ 140737488355328) (hbase : base ≤ w.heap.size) (N : Nat) (us : List Value) (hN : n + m = N) (hus : xs ++ news = us)
    (h : ∀ A c w', w'.ownsRow base e size (.slice A N c) N us → w.grownBy w' v.ownBlock → wpList P ops Q rest (a.put o.dst (.slice A N c)) w') : wpList P ops Q (o :: rest) a w := by
  subst hN
  subst hus
  obtain ⟨hl, _, A, cap, rfl, hc, hn, hcell⟩ := hX
  cases A with
  | none =>
    obtain rfl : cap = 0 := hn rfl
    obtain rfl : m = 0 := by omega
    obtain rfl : news = [] := List.eq_nil_of_length_eq_zero (by omega)
    obtain ⟨A', c', rfl⟩ := own_form hown
    refine wpList_append_own_none hgd s x t ho base e i size ht hi _ n xs hs hown hx ?_
    have hk := h A' c' w (by rw [List.append_nil]; exact hown) own_grown_refl
    exact hk
  | some ad =>
    refine wpList_append_own _ hgd s x t ho base e i z size bytes ht hi hz hsize hby hzs hsz v n xs hs hown ad m cap news hx hl (fun j u hu => ?_) h1 h63 hbytes hbase ?_
    · obtain ⟨a', ha, _, hc'⟩ := hcell j u hu
      cases ha
      exact hc'
    · intro v' w' ho' hg _
      obtain ⟨A', c', rfl⟩ := own_form ho'
      exact h A' c' w' ho' hg
theorem own_empty (w : World) (b : Nat) (hb : b = w.heap.size) : (w.alloc (.cells #[] 43)).ownsRow b 43 2 (.slice (some ⟨b, 0, none⟩) 0 0) 0 [] := hb ▸
  World.ownsRow_lit (base := w.heap.size) (e := 43) (size := 2) w #[] 0 (Nat.le_refl _) (by unfold maxLen; omega) (by simp)
theorem rcells_one {ps : List (Int × Value)} (h : ∀ p ∈ ps, p.2.oneCell' = true) : ∀ u ∈ rcells ps, u.oneCell' = true := by
  intro u hu
  unfold rcells at hu
  obtain ⟨p, hp, hu⟩ := List.mem_flatMap.1 hu
  unfold rcell at hu
  simp only [List.mem_cons, List.not_mem_nil, or_false] at hu
  rcases hu with rfl | rfl
  · rfl
  · exact h p hp
theorem RSl.one {w : World} {rs : List (Int × List Wd)} {vs : List Value} (hl : vs.length = rs.length) (h : ∀ (i : Nat) (u : Value) (r : Int × List Wd), vs[i]? = some u → rs[i]? = some r → WSl w u r.2) :
    ∀ u ∈ rcells ((rs.map (·.1)).zip vs), u.oneCell' = true := rcells_one fun p hp => by
  obtain ⟨k, hk, rfl⟩ := List.getElem_of_mem hp
  have hz : k < vs.length := by rw [List.length_zip] at hk; omega
  rw [List.getElem_zip]
  obtain ⟨A, cap, e, _⟩ := (h k _ _ (List.getElem?_eq_getElem hz) (List.getElem?_eq_getElem (by omega))).at_
  show (vs[k]).oneCell' = true
  rw [e]; rfl
theorem zip_two {α β : Type} (a b : List α) (x y : List β) (h : x.length = a.length) : (a ++ b).zip (x ++ y) = a.zip x ++ b.zip y := List.zip_append h.symm
/-- Two lists of rows behind one another, in a row of the call's own. -/
theorem rsl_both {w : World} {b : Nat} {v : Value} {r1 r2 : List (Int × List Wd)} {v1 v2 : List Value} (h1 : v1.length = r1.length) (h2 : v2.length = r2.length)
    (k1 : ∀ (i : Nat) (u : Value) (r : Int × List Wd), v1[i]? = some u → r1[i]? = some r → WSl w u r.2) (k2 : ∀ (i : Nat) (u : Value) (r : Int × List Wd), v2[i]? = some u → r2[i]? = some r → WSl w u r.2)
    (h : w.ownsRow b 43 2 v (r1.length + r2.length) (rcells ((r1.map (·.1)).zip v1) ++ rcells ((r2.map (·.1)).zip v2))) : RSl w v (r1 ++ r2) := by
  refine ⟨v1 ++ v2, by rw [List.length_append, List.length_append, h1, h2], ?_, fun i u r hu hr => ?_⟩
  · rw [List.map_append, zip_two _ _ _ _ (by rw [h1, List.length_map]), rcells_app, List.length_append]
    exact Sl.of_own h
  · rw [List.getElem?_append] at hu hr
    rw [h1] at hu
    by_cases hi : i < r1.length
    · rw [if_pos hi] at hu hr
      exact k1 i u r hu hr
    · rw [if_neg hi] at hu hr
      exact k2 _ u r hu hr
theorem wideL_str (s t : List UInt8) : ((((⟨#[35, 32, 111, 110, 101, 10, 10, 32, 9]⟩ : ByteArray) ++ strOf s) ++ ⟨#[10, 32, 10, 35, 10]⟩) ++ strOf t) ++ ⟨#[32, 35, 32, 116, 119, 111]⟩ = strOf (wideL s t) := by
  unfold wideL
  rw [strOf_app, strOf_app, strOf_app, strOf_app]
  rfl
theorem twoL_str (s t : List UInt8) : (strOf s ++ (⟨#[10]⟩ : ByteArray)) ++ strOf t = strOf (s ++ 10 :: t) := by
  have e : s ++ 10 :: t = (s ++ [10]) ++ t := by simp
  rw [e, strOf_app, strOf_app]
  rfl
theorem rsI_app (a b : List (Nat × List W)) : rsI (a ++ b) = rsI a ++ rsI b := by unfold rsI; rw [List.map_append]
theorem readG_err {t : List UInt8} {er : Int} {a : Nat} (h : readG t = .error (er, a)) : er = 3 ∨ er = 4 := by
  have key : ∀ (ls : List (List UInt8)) (x : Nat), rowsG ls x = .error (er, a) → er = 3 ∨ er = 4 := by
    intro ls
    induction ls with
    | nil => intro x h; cases h
    | cons l ls ih =>
      intro x h
      unfold rowsG at h
      split at h
      · cases h; right; rfl
      · cases h1 : lineG l x with
        | error e => rw [h1] at h; cases h; left; rfl
        | ok ws =>
          rw [h1] at h
          simp only at h
          cases h2 : rowsG ls (x + l.length + 1) with
          | error e => rw [h2] at h; cases h; exact ih _ h2
          | ok rs2 => rw [h2] at h; cases h
  unfold readG at h
  split at h
  · cases h; right; rfl
  · exact key _ _ h
theorem rows_some {t : List UInt8} (ht : t.length ≤ 20000) (w : World) :
    Calls Tryd.prog 25 #[.string (strOf t)] w fun e w' => Below w.heap.size w w' ∧ ∃ A n c er a, e = .returned (.tuple #[.slice A n c, .agg #[.int .i64 er, .int .i64 a]]) := by
  refine (rowsQ t ht w).mono ?_
  rintro e w' ⟨h1, h2⟩
  refine ⟨h1, ?_⟩
  rcases h2 with ⟨er, a, _, rfl⟩ | ⟨rs', A, c, _, rfl, _⟩
  · exact ⟨_, _, _, _, _, rfl⟩
  · exact ⟨_, _, _, _, _, rfl⟩
end Go.Proofs.YtkmkhegekonbmaaDoor
