/- What an append to a row of the call's own runs to, whatever is appended. Nothing here speaks of the program. -/
import Derived.Test.YtdoioaeppepndaaGreatDoorSl
import Derived.Laws.AppendOwnNone
import Derived.Laws.OwnMore
namespace Go.Proofs.YtdoioaeppepndaaGreatDoor
open Go.RowKit

theorem own_grown_refl {w : World} {row : Option Nat} : w.grownBy w row := ⟨rfl, rfl, rfl, Nat.le_refl _, fun _ _ _ => rfl⟩
/-- A slice appended to a row of the call's own, nil or not: the run. -/
theorem run_append_any {P : Program} (w : World) (base : Nat) (t ty e : TypeId) (i : TypeInfo) (z : Value) (size bytes : Nat) (ht : P.underlying t = some (.slice e)) (hi : P.info? e = some i) (hz : i.zero = some z)
    (hsize : i.size = size) (hby : i.bytes = bytes) (hzs : z.cells.size = size) (hsz : 0 < size)
    (v : Value) (n : Nat) (xs : List Value) (hown : w.ownsRow base e size v n xs)
    (X : Value) (m : Nat) (news : List Value) (hX : Sl w size m X news) (h1 : ∀ u ∈ news, u.oneCell' = true)
    (h63 : n + m ≤ maxLen) (hbytes : (n + m) * bytes ≤ 140737488355328) (hbase : base ≤ w.heap.size) (N : Nat) (us : List Value) (hN : n + m = N) (hus : xs ++ news = us) :
    ∃ A c w', (Builtin.append_ #[t, t] ty #[v, X]).run P w = .ok (.slice A N c) w' ∧ w'.ownsRow base e size (.slice A N c) N us ∧ w.grownBy w' v.ownBlock := by
  subst hN
  subst hus
  obtain ⟨hl, _, A, cap, rfl, hc, hn, hcell⟩ := hX
  cases A with
  | none =>
    obtain rfl : cap = 0 := hn rfl
    obtain rfl : m = 0 := by omega
    obtain rfl : news = [] := List.eq_nil_of_length_eq_zero (by omega)
    obtain ⟨A', c', rfl⟩ := own_form hown
    exact ⟨A', c', w, run_append_owned_none w base t ty e i size ht hi _ n xs hown, by rw [List.append_nil]; exact hown, own_grown_refl⟩
  | some ad =>
    obtain ⟨v', w', hr, h2, h3, _⟩ := run_append_own (P := P) w base t ty e i z size bytes ht hi hz hsize hby hzs hsz v n xs hown ad m cap news hl (fun j u hu => by
      obtain ⟨a', ha, _, hc'⟩ := hcell j u hu
      cases ha
      exact hc') h1 h63 hbytes hbase
    obtain ⟨A', c', rfl⟩ := own_form h2
    exact ⟨A', c', w', hr, h2, h3⟩
/-- An append whose run is known, guarded or not. -/
theorem wpList_append_run {P : Program} {ops : Array Oper} {rest : List Oper} {o : Oper} {a : Act} {w w' : World} {r v X : Value} {Q : Exit → Act → World → Prop} (hw : Region.wanted o (yielded ops a.tmps) = true) (s x : Operand) (t : TypeId)
    (ho : o.op = .call { callee := .builtin .append, args := #[s, x], argTypes := #[t, t] }) (hs : a.eval s = v) (hx : a.eval x = X) (hrun : (Builtin.append_ #[t, t] o.type #[v, X]).run P w = .ok r w')
    (h : wpList P ops Q rest (a.put o.dst r) w') : wpList P ops Q (o :: rest) a w :=
  wpList_step fun K hK => by
    rw [if_pos hw]
    unfold Oper.wp execOp
    simp only [ho, resolve, invoke, builtin, Sem.run_bind, Sem.run_pure, Result.andThen_ok, List.map_toArray, List.map_cons, List.map_nil, hs, hx, hrun]
    exact hK _ _ h
end Go.Proofs.YtdoioaeppepndaaGreatDoor
