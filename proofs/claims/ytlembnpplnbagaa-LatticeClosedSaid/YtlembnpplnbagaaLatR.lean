/- The program's closure of a family, given that rows of up to K are sorted. -/
import Derived.Test.YtlembnpplnbagaaLatQ
import Derived.Test.YtlembnpplnbagaaLatL
import Derived.Test.YtlembnpplnbagaaLabelA
import Derived.Maps.Own
namespace Go.Proofs.Ytlembnpplnbagaa.Lt
open Go.RowKit Go.Maps
open Lb

theorem nats_at {w : World} {A : Option Addr} {n cap : Nat} {l : List Nat} (h : Slc w (.slice A n cap) (lv l)) : ∀ (i : Nat) (hi : i < l.length), ∃ a, A = some a ∧ a.block < w.heap.size ∧ w.cell? (a.add i) = some (.int .u64 (l[i] : Int)) := by
  obtain ⟨A', cap', e, _, hc⟩ := nats h
  cases e
  exact hc
theorem isFamily_any {w : World} {v : Value} {l : List Nat} (h : Slc w v (lv l)) :
    Calls Try.prog 20 #[v] w fun e w' => e = .returned (.bool (decide (l.length ≤ 64))) ∧ w = w' := by
  obtain ⟨A, cap, rfl, hm, hc⟩ := nats h
  clear h hc
  go_enter Try.func20, Try.ntmps20
  go_wp2
  go_ret
  exact ⟨by simp; omega, rfl⟩
theorem isFamily_is {w : World} {v : Value} {l : List Nat} {c : Bool} (h : Slc w v (lv l)) (hc : decide (l.length ≤ 64) = c) :
    Calls Try.prog 20 #[v] w fun e w' => e = .returned (.bool c) ∧ w = w' := hc ▸ isFamily_any h
theorem joinI_two {a b : Nat} (ha : a < 18446744073709551616) (hb : b < 18446744073709551616) : joinI [(a : Int), (b : Int)] = ((a ||| b : Nat) : Int) := by
  have h1 := u64_or_nat 0 a (by decide) ha
  have h2 := u64_or_nat a b ha hb
  simp only [joinI, List.foldl_cons, List.foldl_nil]
  rw [Nat.zero_or] at h1
  rw [show (0 : Int) = ((0 : Nat) : Int) from rfl, h1, h2]
theorem join_two (a b : Nat) (ha : a < 18446744073709551616) (hb : b < 18446744073709551616) (w : World) :
    Calls Try.prog 22 #[.int .u64 (a : Int), .int .u64 (b : Int)] w fun e w' => e = .returned (.int .u64 ((a ||| b : Nat) : Int)) ∧ w' = w.alloc (.cells #[.int .u64 (a : Int), .int .u64 (b : Int)] 23) := by
  have hs := Slc.lit w (vals .u64 [(a : Int), (b : Int)]) 23 2 rfl (by decide)
  have hJ := join_any _ _ _ hs
  rw [joinI_two ha hb] at hJ
  have e0 : (vals .u64 [(a : Int), (b : Int)]).toArray = #[.int .u64 (a : Int), .int .u64 (b : Int)] := rfl
  rw [e0] at hJ
  clear hs e0
  obtain ⟨r, hr⟩ : ∃ r : Int, r = ((a ||| b : Nat) : Int) := ⟨_, rfl⟩
  rw [← hr] at hJ ⊢
  clear hr
  go_enter Try.func22, Try.ntmps22
  go_wp2_with (go_at_call 29; refine hJ.mono ?_; rintro e w' ⟨rfl, rfl⟩)
  go_ret
  exact ⟨rfl, rfl⟩

/-- One label more, in the program's order. -/
def prStep (s : List Nat) (x : Nat) : List Nat := ins (s.foldl (fun o b => ins o (x ||| b)) s) x
theorem prFold (x : Nat) (s o : List Nat) : s.foldl (fun o b => ins o (x ||| b)) o = s.foldl (fun o b => ins o (b ||| x)) o := by
  induction s generalizing o with
  | nil => rfl
  | cons y s ih => rw [List.foldl_cons, List.foldl_cons, Nat.or_comm x y, ih]
theorem prStep_eq {s : List Nat} {x : Nat} (h : Asc s) : prStep s x = clStep s x := by
  unfold prStep
  rw [prFold]
  obtain ⟨h1, h2, _⟩ := fold_spec x s s
  refine asc_ext (ins_asc (h2 h)) (clStep_asc h) fun z => ?_
  rw [mem_ins, h1, mem_clStep]
theorem clGo_append : ∀ (a b o : List Nat), clGo o (a ++ b) = match clGo o a with | none => none | some r => clGo r b := by
  intro a
  induction a with
  | nil => intro b o; rfl
  | cons x a ih =>
    intro b o
    show (if 256 < (clStep o x).length then none else clGo (clStep o x) (a ++ b)) = match (if 256 < (clStep o x).length then none else clGo (clStep o x) a) with | none => none | some r => clGo r b
    split
    · rfl
    · exact ih b _
theorem clGo_snoc {l s : List Nat} {k : Nat} (hk : k < l.length) (h : clGo [] (l.take k) = some s) : clGo [] (l.take (k + 1)) = if 256 < (clStep s l[k]).length then none else some (clStep s l[k]) := by
  rw [take_snoc l k hk, clGo_append, h]
  rfl
theorem clGo_ends {l : List Nat} {k : Nat} (h : clGo [] (l.take k) = none) : clGo [] l = none := by
  have e := List.take_append_drop k l
  rw [← e, clGo_append, h]
theorem fold_snoc {s : List Nat} {x m : Nat} {o : List Nat} (hm : m < s.length) : (s.take (m + 1)).foldl (fun o b => ins o (x ||| b)) o = ins ((s.take m).foldl (fun o b => ins o (x ||| b)) o) (x ||| s[m]) := by
  rw [take_snoc s m hm, List.foldl_append]
  rfl
theorem set_put {w' : World} {b n : Nat} {t : List Nat} {z : Nat} (ha : Asc t) (h : w'.ownsMap Try.prog 23 (plainElem Try.prog 4) b n ((setD t).put (.int .u64 (z : Int)) (.lit (.bool true)))) : SetAt w' b (ins t z) := by
  rw [put_set ha] at h
  exact setD_tight h
theorem set_cell {w : World} {b : Nat} {s : List Nat} (h : SetAt w b s) {p : Addr} (hp : p.block = b) : w.cell? p = none := by
  obtain ⟨es, clock, h1, _⟩ := h
  unfold World.cell?
  rw [hp, h1]
theorem slc_put {w w' : World} {b : Nat} {s s' : List Nat} {v : Value} {us : List Value} (h : Slc w v us) (hs : SetAt w b s) (hs' : SetAt w' b s') (hg : w.grownBy w' (some b)) : Slc w' v us := by
  refine h.keep hg.size fun p hp => ?_
  by_cases hb : p.block = b
  · rw [set_cell hs hb, set_cell hs' hb]
  · have := hg.block p.block hp (fun e => hb (Option.some.inj e))
    unfold World.cell?
    rw [this]
end Go.Proofs.Ytlembnpplnbagaa.Lt
