/- Package wire, as far as the events' package calls it: readers. -/
import Derived.Test.YtcmdndgaggbhoaaDoorCommon
import Derived.Test.YtcmdndgaggbhoaaDoorProg
import Derived.Outline
import Derived.Handy
import Derived.Deep.QuietTactic
import Derived.BigQuiet
import Derived.WalkSmall
import Derived.Laws.BitsAllLaws
import Derived.IntWalk
import Derived.RegionTactic
import Derived.BigRegion
namespace Go.Proofs.YtcmdndgaggbhoaaDoor
open Go.RowKit
namespace Wr

/-- A reader, or a writer: api.WireReader as data. -/
structure Rd where
  s : ByteArray
  at_ : Int
  err : Int
  fat : Int
def Rd.val (r : Rd) : Value := .agg #[.string r.s, .int .i64 r.at_, .int .i64 r.err, .int .i64 r.fat]

/-- The five numbers of a reader's or a writer's block: used, most, error, its place, string. -/
structure Sp where
  u : Int
  m : Int
  e : Int
  a : Int
  s : ByteArray
def Sp.val (x : Sp) : Value := .agg #[.int .i64 x.u, .int .i64 x.m, .int .i64 x.e, .int .i64 x.a, .string x.s]

def within (n most : Int) : Bool := decide (0 ≤ n) && decide (n ≤ most)
def isErr (e : Int) : Bool := decide (0 < e) && decide (e ≤ 23)
def Sp.sound (x : Sp) : Bool := within x.u x.m && (if x.e = 0 then decide (x.a = 0) else isErr x.e && within x.a x.m)
def Sp.failAt (x : Sp) (err a : Int) : Sp := if x.e = 0 then { x with e := err, a := a } else x
def Sp.claim (x : Sp) (n err : Int) : Sp × Bool := if x.e ≠ 0 then (x, false) else if x.m - x.u < n then (x.failAt err x.u, false) else ({ x with u := x.u + n }, true)
def Sp.given (x : Sp) : Rd := ⟨x.s, x.u, x.e, x.a⟩
def Sp.bad : Sp := ⟨0, 0, 10, 0, ⟨#[]⟩⟩
def Rd.sp (r : Rd) : Sp := ⟨r.at_, r.s.size, r.err, r.fat, r.s⟩
def Rd.opened (r : Rd) : Sp := if r.sp.sound then r.sp else Sp.bad

/-- A reader's or writer's numbers are in order: what is sound, and as long as its string says. -/
structure Sp.Ok (x : Sp) : Prop where
  u0 : 0 ≤ x.u
  um : x.u ≤ x.m
theorem Sp.ok_of_sound {x : Sp} (h : x.sound = true) : x.Ok := by
  unfold Sp.sound within at h
  simp at h
  exact ⟨h.1.1, h.1.2⟩
theorem Sp.Ok.failAt {x : Sp} (h : x.Ok) (e a : Int) : (x.failAt e a).Ok := by
  unfold Sp.failAt; split
  · exact ⟨h.u0, h.um⟩
  · exact h
theorem Sp.Ok.claim {x : Sp} (h : x.Ok) {n : Int} (h0 : 0 ≤ n) (e : Int) : (x.claim n e).1.Ok := by
  unfold Sp.claim
  split
  · exact h
  · split
    · exact h.failAt _ _
    · exact ⟨by have := h.u0; show 0 ≤ x.u + n; omega, by show x.u + n ≤ x.m; omega⟩
/-- n bytes are taken. -/
def Sp.take (x : Sp) (n : Int) : Sp × ByteArray := ((x.claim n 5).1, if (x.claim n 5).2 then x.s.extract x.u.toNat (x.u + n).toNat else ⟨#[]⟩)

theorem take_size {x : Sp} (h : x.Ok) {n : Int} (h0 : 0 ≤ n) : ((x.take n).2.size : Int) ≤ n := by
  unfold Sp.take
  have := h.u0
  split
  · show ((x.s.extract x.u.toNat (x.u + n).toNat).size : Int) ≤ n
    rw [ByteArray.size_extract]; omega
  · exact h0
theorem take_m (x : Sp) (n : Int) : (x.take n).1.m = x.m := by
  unfold Sp.take Sp.claim Sp.failAt
  split
  · rfl
  · split
    · split <;> rfl
    · rfl
theorem take_s (x : Sp) (n : Int) : (x.take n).1.s = x.s := by
  unfold Sp.take Sp.claim Sp.failAt
  split
  · rfl
  · split
    · split <;> rfl
    · rfl
theorem Sp.Ok.take {x : Sp} (h : x.Ok) {n : Int} (h0 : 0 ≤ n) : (x.take n).1.Ok := h.claim h0 5
def isSz (n : Int) : Bool := decide (n = 1 ∨ n = 2 ∨ n = 4 ∨ n = 8)
theorem isSz_iff {n : Int} : isSz n = true ↔ n = 1 ∨ n = 2 ∨ n = 4 ∨ n = 8 := by simp [isSz]
def Sp.refuse (x : Sp) (e from_ : Int) : Sp := ({ x with u := from_ } : Sp).failAt e from_

/-- A writer: api.WireWriter as data. -/
structure Wt where
  s : ByteArray
  most : Int
  err : Int
def Wt.val (w : Wt) : Value := .agg #[.string w.s, .int .i64 w.most, .int .i64 w.err]
def Wt.sp (w : Wt) : Sp := ⟨w.s.size, w.most, w.err, 0, w.s⟩
def Wt.opened (w : Wt) : Sp := if w.most ≤ 20000 ∧ w.sp.sound = true then w.sp else Sp.bad
def Sp.wgiven (x : Sp) : Wt := ⟨x.s, x.m, x.e⟩

/-- The block b holds this. -/
structure At (w : World) (b : Nat) (x : Sp) : Prop where
  lt : b < w.heap.size
  c0 : w.cell? ⟨b, 0, none⟩ = some (.int .i64 x.u)
  c1 : w.cell? ⟨b, 1, none⟩ = some (.int .i64 x.m)
  c2 : w.cell? ⟨b, 2, none⟩ = some (.int .i64 x.e)
  c3 : w.cell? ⟨b, 3, none⟩ = some (.int .i64 x.a)
  c4 : w.cell? ⟨b, 4, none⟩ = some (.string x.s)
  f0 : w.frozen? ⟨b, 0, none⟩ = false
  f1 : w.frozen? ⟨b, 1, none⟩ = false
  f2 : w.frozen? ⟨b, 2, none⟩ = false
  f3 : w.frozen? ⟨b, 3, none⟩ = false
  f4 : w.frozen? ⟨b, 4, none⟩ = false

theorem At.below {w w' : World} {b : Nat} {x : Sp} (h : At w b x) (hb : Below (b + 1) w w') : At w' b x := by
  have hc : ∀ o, w'.cell? ⟨b, o, none⟩ = w.cell? ⟨b, o, none⟩ := fun o => hb.cell (p := ⟨b, o, none⟩) (Nat.lt_succ_self b)
  have hf : ∀ o, w'.frozen? ⟨b, o, none⟩ = w.frozen? ⟨b, o, none⟩ := fun o => hb.frozen (p := ⟨b, o, none⟩) (Nat.lt_succ_self b)
  obtain ⟨hlt, c0, c1, c2, c3, c4, f0, f1, f2, f3, f4⟩ := h
  exact ⟨Nat.lt_of_lt_of_le hlt hb.size, (hc 0).trans c0, (hc 1).trans c1, (hc 2).trans c2, (hc 3).trans c3, (hc 4).trans c4, (hf 0).trans f0, (hf 1).trans f1, (hf 2).trans f2, (hf 3).trans f3, (hf 4).trans f4⟩
theorem At.later {w w' : World} {b : Nat} {x : Sp} (h : At w b x) (hb : Below w.heap.size w w') : At w' b x := h.below (hb.mono h.lt)
theorem At.alloc {w : World} {b : Nat} {x : Sp} (h : At w b x) (o : Obj) : At (w.alloc o) b x := h.later ((Below.refl _ _).alloc (Nat.le_refl _) o)
theorem At.drew {w : World} {b : Nat} {x : Sp} (h : At w b x) : At w.drew b x := h.later (Below.refl _ _).drew
theorem At.drewN {w : World} {b : Nat} {x : Sp} (h : At w b x) (n : Nat) : At (w.drewN n) b x := by
  have hb : Below w.heap.size w (w.drewN n) := ⟨rfl, rfl, rfl, Nat.le_refl _, fun _ _ => rfl⟩
  exact h.later hb
theorem At.new (w : World) (x : Sp) (t : TypeId) : At (w.alloc (.cells #[.int .i64 x.u, .int .i64 x.m, .int .i64 x.e, .int .i64 x.a, .string x.s] t)) w.heap.size x :=
  ⟨by simp, by go_simp, by go_simp, by go_simp, by go_simp, by go_simp, by go_simp, by go_simp, by go_simp, by go_simp, by go_simp⟩

theorem set_same {w : World} {p : Addr} {v u : Value} (h : w.cell? p = some v) : (w.setCell p u).cell? p = some u := World.cell?_setCell_same' _ _ _ (by rw [h]; rfl)
theorem set_other {w : World} {b i j : Nat} (u : Value) (h : i ≠ j) : (w.setCell ⟨b, i, none⟩ u).cell? ⟨b, j, none⟩ = w.cell? ⟨b, j, none⟩ := World.cell?_setCell_other _ _ _ _ (fun e => h (by cases e; rfl))
theorem At.set0 {w : World} {b : Nat} {x : Sp} (h : At w b x) (n : Int) : At (w.setCell ⟨b, 0, none⟩ (.int .i64 n)) b { x with u := n } := by
  obtain ⟨hlt, c0, c1, c2, c3, c4, f0, f1, f2, f3, f4⟩ := h
  exact ⟨by simpa [World.setCell] using hlt, set_same c0, (set_other _ (by decide)).trans c1, (set_other _ (by decide)).trans c2, (set_other _ (by decide)).trans c3, (set_other _ (by decide)).trans c4, by simpa using f0, by simpa using f1, by simpa using f2, by simpa using f3, by simpa using f4⟩
theorem At.set1 {w : World} {b : Nat} {x : Sp} (h : At w b x) (n : Int) : At (w.setCell ⟨b, 1, none⟩ (.int .i64 n)) b { x with m := n } := by
  obtain ⟨hlt, c0, c1, c2, c3, c4, f0, f1, f2, f3, f4⟩ := h
  exact ⟨by simpa [World.setCell] using hlt, (set_other _ (by decide)).trans c0, set_same c1, (set_other _ (by decide)).trans c2, (set_other _ (by decide)).trans c3, (set_other _ (by decide)).trans c4, by simpa using f0, by simpa using f1, by simpa using f2, by simpa using f3, by simpa using f4⟩
theorem At.set2 {w : World} {b : Nat} {x : Sp} (h : At w b x) (n : Int) : At (w.setCell ⟨b, 2, none⟩ (.int .i64 n)) b { x with e := n } := by
  obtain ⟨hlt, c0, c1, c2, c3, c4, f0, f1, f2, f3, f4⟩ := h
  exact ⟨by simpa [World.setCell] using hlt, (set_other _ (by decide)).trans c0, (set_other _ (by decide)).trans c1, set_same c2, (set_other _ (by decide)).trans c3, (set_other _ (by decide)).trans c4, by simpa using f0, by simpa using f1, by simpa using f2, by simpa using f3, by simpa using f4⟩
theorem At.set3 {w : World} {b : Nat} {x : Sp} (h : At w b x) (n : Int) : At (w.setCell ⟨b, 3, none⟩ (.int .i64 n)) b { x with a := n } := by
  obtain ⟨hlt, c0, c1, c2, c3, c4, f0, f1, f2, f3, f4⟩ := h
  exact ⟨by simpa [World.setCell] using hlt, (set_other _ (by decide)).trans c0, (set_other _ (by decide)).trans c1, (set_other _ (by decide)).trans c2, set_same c3, (set_other _ (by decide)).trans c4, by simpa using f0, by simpa using f1, by simpa using f2, by simpa using f3, by simpa using f4⟩
theorem At.set4 {w : World} {b : Nat} {x : Sp} (h : At w b x) (n : ByteArray) : At (w.setCell ⟨b, 4, none⟩ (.string n)) b { x with s := n } := by
  obtain ⟨hlt, c0, c1, c2, c3, c4, f0, f1, f2, f3, f4⟩ := h
  exact ⟨by simpa [World.setCell] using hlt, (set_other _ (by decide)).trans c0, (set_other _ (by decide)).trans c1, (set_other _ (by decide)).trans c2, (set_other _ (by decide)).trans c3, set_same c4, by simpa using f0, by simpa using f1, by simpa using f2, by simpa using f3, by simpa using f4⟩
end Wr
end Go.Proofs.YtcmdndgaggbhoaaDoor
namespace Go.Proofs.YtcmdndgaggbhoaaDoor
open Go.RowKit
open Wr

theorem within_any (n m : Int) (w : World) :
    Calls Tryd.prog 81 #[.int .i64 n, .int .i64 m] w fun e w' => e = .returned (.bool (within n m)) ∧ w = w' := by
  by_cases h : 0 ≤ n
  all_goals
    go_enter Tryd.func81, Tryd.ntmps81
    go_wp2
    go_ret
    exact ⟨ret_bool (by simp [within]; try omega), rfl⟩
theorem isError_any (e : Int) (w : World) :
    Calls Tryd.prog 82 #[.int .i64 e] w fun r w' => r = .returned (.bool (isErr e)) ∧ w = w' := by
  by_cases h : 0 < e
  all_goals
    go_enter Tryd.func82, Tryd.ntmps82
    go_wp2
    go_ret
    exact ⟨ret_bool (by simp [isErr]; try omega), rfl⟩
theorem within_is {n m : Int} {b : Bool} (h : within n m = b) (w : World) :
    Calls Tryd.prog 81 #[.int .i64 n, .int .i64 m] w fun e w' => e = .returned (.bool b) ∧ w = w' := h ▸ within_any n m w
theorem isError_is {n : Int} {b : Bool} (h : isErr n = b) (w : World) :
    Calls Tryd.prog 82 #[.int .i64 n] w fun e w' => e = .returned (.bool b) ∧ w = w' := h ▸ isError_any n w
theorem failed_any {w : World} {b : Nat} {x : Sp} (h : At w b x) :
    Calls Tryd.prog 49 #[.pointer (some ⟨b, 0, none⟩)] w fun r w' => r = .returned (.bool (x.e != 0)) ∧ w = w' := by
  obtain ⟨hlt, c0, c1, c2, c3, c4, f0, f1, f2, f3, f4⟩ := h
  go_enter Tryd.func49, Tryd.ntmps49
  go_wp2
  go_ret
  exact ⟨rfl, rfl⟩
end Go.Proofs.YtcmdndgaggbhoaaDoor
namespace Go.Proofs.YtcmdndgaggbhoaaDoor
open Go.RowKit
open Wr

theorem failAt_only {w : World} {b : Nat} {x : Sp} (h : At w b x) (er at_ : Int) :
    Calls Tryd.prog 79 #[.pointer (some ⟨b, 0, none⟩), .int .i64 er, .int .i64 at_] w fun r w' => r = .returned (.tuple #[]) ∧ Only b w w' ∧ At w' b (x.failAt er at_) := by
  obtain ⟨hlt, c0, c1, c2, c3, c4, f0, f1, f2, f3, f4⟩ := id h
  by_cases he : x.e = 0
  · have hb : (x.e != 0) = false := by simp [he]
    have hx := Lib.hid (show x.failAt er at_ = { x with e := er, a := at_ } by unfold Sp.failAt; rw [if_pos he])
    clear he
    go_enter Tryd.func79, Tryd.ntmps79
    go_wp2_with (go_at_call 49; refine (failed_any h).mono ?_; rintro e w' ⟨rfl, rfl⟩; rw [hb])
    go_returns
    refine ⟨rfl, ((Only.refl _ _).setCell _ _).setCell _ _, ?_⟩
    rw [hx.out]
    exact (h.set2 er).set3 at_
  · have hb : (x.e != 0) = true := by simpa using he
    have hx := Lib.hid (show x.failAt er at_ = x by unfold Sp.failAt; rw [if_neg he])
    clear he
    go_enter Tryd.func79, Tryd.ntmps79
    go_wp2_with (go_at_call 49; refine (failed_any h).mono ?_; rintro e w' ⟨rfl, rfl⟩; rw [hb])
    go_returns
    exact ⟨rfl, Only.refl _ _, by rw [hx.out]; exact h⟩
theorem fail_only {w : World} {b : Nat} {x : Sp} (h : At w b x) (er : Int) :
    Calls Tryd.prog 60 #[.pointer (some ⟨b, 0, none⟩), .int .i64 er] w fun r w' => r = .returned (.tuple #[]) ∧ Only b w w' ∧ At w' b (x.failAt er x.u) := by
  obtain ⟨hlt, c0, c1, c2, c3, c4, f0, f1, f2, f3, f4⟩ := id h
  go_enter Tryd.func60, Tryd.ntmps60
  go_wp2_with (go_at_call 79; refine (failAt_only h _ _).mono ?_; rintro e w' ⟨rfl, h1, h2⟩)
  go_returns
  exact ⟨rfl, h1, h2⟩
theorem claim_only {w : World} {b : Nat} {x : Sp} (h : At w b x) (n er : Int) (h0 : 0 ≤ n) (hu : 0 ≤ x.u) (hm : x.u ≤ x.m) (h63 : x.m ≤ 9223372036854775807) (hn : n ≤ 9223372036854775807) (her : er ≠ 0) :
    Calls Tryd.prog 80 #[.pointer (some ⟨b, 0, none⟩), .int .i64 n, .int .i64 er] w fun r w' => r = .returned (.bool (x.claim n er).2) ∧ Only b w w' ∧ At w' b (x.claim n er).1 := by
  obtain ⟨hlt, c0, c1, c2, c3, c4, f0, f1, f2, f3, f4⟩ := id h
  have hxe : (x.claim n er) = if x.e ≠ 0 then (x, false) else if x.m - x.u < n then ({ x with e := er, a := x.u }, false) else ({ x with u := x.u + n }, true) := by
    unfold Sp.claim Sp.failAt
    by_cases he : x.e = 0
    · simp only [he, ne_eq, not_true_eq_false, if_true, if_false]
    · simp only [he, ne_eq, not_false_eq_true, if_true]
  by_cases he : x.e = 0
  · rw [if_neg (by omega)] at hxe
    by_cases hg : x.m - x.u < n
    · have hx := Lib.hid (hxe.trans (if_pos hg))
      have hfa := Lib.hid (show x.failAt er x.u = { x with e := er, a := x.u } by unfold Sp.failAt; rw [if_pos he])
      have her' : (er != 0) = true := by simpa using her
      clear hxe he her
      go_enter Tryd.func80, Tryd.ntmps80
      go_wp2
      go_quiet (fail)
      have h1 := h.drewN nq
      go_wp2_with (first | (go_at_call 60; refine (fail_only h1 _).mono ?_; rintro e w' ⟨rfl, hb2, h2⟩; rw [hfa.out] at h2) | (go_at_call 49; refine (failed_any h2).mono ?_; rintro e w' ⟨rfl, rfl⟩; rw [her']))
      go_returns
      exact ⟨by rw [hx.out]; rfl, ((Only.refl _ _).drewN _).trans hb2, by rw [hx.out]; exact h2⟩
    · have hx := Lib.hid (hxe.trans (if_neg hg))
      have he' : (x.e != 0) = false := by simp [he]
      clear hxe he her
      go_enter Tryd.func80, Tryd.ntmps80
      go_wp2
      go_quiet (fail)
      have h1 := h.drewN nq
      go_wp2_with (go_at_call 49; refine (failed_any h1).mono ?_; rintro e w' ⟨rfl, rfl⟩; rw [he'])
      go_returns
      exact ⟨by rw [hx.out]; rfl, ((Only.refl _ _).drewN _).setCell _ _, by rw [hx.out]; exact h1.set0 _⟩
  · rw [if_pos he] at hxe
    have hx := Lib.hid hxe
    have hfa := Lib.hid (show x.failAt er x.u = x by unfold Sp.failAt; rw [if_neg he])
    have he' : (x.e != 0) = true := by simpa using he
    clear hxe he her
    by_cases hg : x.m - x.u < n
    all_goals
      go_enter Tryd.func80, Tryd.ntmps80
      go_wp2
      go_quiet (fail)
      have h1 := h.drewN nq
    · go_wp2_with (first | (go_at_call 60; refine (fail_only h1 _).mono ?_; rintro e w' ⟨rfl, hb2, h2⟩; rw [hfa.out] at h2) | (go_at_call 49; refine (failed_any h2).mono ?_; rintro e w' ⟨rfl, rfl⟩; rw [he']))
      go_returns
      exact ⟨by rw [hx.out]; rfl, ((Only.refl _ _).drewN _).trans hb2, by rw [hx.out]; exact h2⟩
    · go_wp2_with (go_at_call 49; refine (failed_any h1).mono ?_; rintro e w' ⟨rfl, rfl⟩; rw [he'])
      go_returns
      exact ⟨by rw [hx.out]; rfl, (Only.refl _ _).drewN _, by rw [hx.out]; exact h1⟩
theorem failAt_any {w : World} {b : Nat} {x : Sp} (h : At w b x) (er at_ : Int) :
    Calls Tryd.prog 79 #[.pointer (some ⟨b, 0, none⟩), .int .i64 er, .int .i64 at_] w fun r w' => r = .returned (.tuple #[]) ∧ Below b w w' ∧ At w' b (x.failAt er at_) :=
  (failAt_only h er at_).mono fun _ _ ⟨h1, h2, h3⟩ => ⟨h1, h2.below, h3⟩
theorem fail_any {w : World} {b : Nat} {x : Sp} (h : At w b x) (er : Int) :
    Calls Tryd.prog 60 #[.pointer (some ⟨b, 0, none⟩), .int .i64 er] w fun r w' => r = .returned (.tuple #[]) ∧ Below b w w' ∧ At w' b (x.failAt er x.u) :=
  (fail_only h er).mono fun _ _ ⟨h1, h2, h3⟩ => ⟨h1, h2.below, h3⟩
theorem claim_any {w : World} {b : Nat} {x : Sp} (h : At w b x) (n er : Int) (h0 : 0 ≤ n) (hu : 0 ≤ x.u) (hm : x.u ≤ x.m) (h63 : x.m ≤ 9223372036854775807) (hn : n ≤ 9223372036854775807) (her : er ≠ 0) :
    Calls Tryd.prog 80 #[.pointer (some ⟨b, 0, none⟩), .int .i64 n, .int .i64 er] w fun r w' => r = .returned (.bool (x.claim n er).2) ∧ Below b w w' ∧ At w' b (x.claim n er).1 :=
  (claim_only h n er h0 hu hm h63 hn her).mono fun _ _ ⟨h1, h2, h3⟩ => ⟨h1, h2.below, h3⟩
theorem invalid_any (w : World) :
    Calls Tryd.prog 64 #[] w fun r w' => r = .returned (.agg #[.int .i64 0, .int .i64 0, .int .i64 10, .int .i64 0]) ∧ Below w.heap.size w w' := by
  go_enter Tryd.func64, Tryd.ntmps64
  go_wp2
  go_returns
  exact ⟨rfl, by go_grown⟩
theorem sound_any {w : World} {b : Nat} {x : Sp} (h : At w b x) :
    Calls Tryd.prog 63 #[.pointer (some ⟨b, 0, none⟩)] w fun r w' => r = .returned (.bool x.sound) ∧ ∃ n, w' = w.drewN n := by
  obtain ⟨hlt, c0, c1, c2, c3, c4, f0, f1, f2, f3, f4⟩ := id h
  by_cases h1 : within x.u x.m = true
  · by_cases he : x.e = 0
    · have hx := Lib.hid (show x.sound = (x.a == 0) by unfold Sp.sound; rw [h1, if_pos he]; simp; rfl)
      have he' : (x.e != 0) = false := by simp [he]
      clear he
      go_enter Tryd.func63, Tryd.ntmps63
      go_wp2
      go_quiet ((go_at_call 81; exact quiet_same (within_any _ _ _)))
      have hA := h.drewN nq
      go_wp2_with (go_at_call 49; refine (failed_any hA).mono ?_; rintro e w' ⟨rfl, rfl⟩; rw [he'])
      go_returns
      exact ⟨by rw [hx.out]; rfl, _, rfl⟩
    · have he' : (x.e != 0) = true := by simpa using he
      have hs : x.sound = (isErr x.e && within x.a x.m) := by unfold Sp.sound; rw [h1, if_neg he]; simp
      clear he
      cases hi : isErr x.e
      · have hx := Lib.hid (show x.sound = false by rw [hs, hi]; rfl)
        have H1 := Lib.hid h1
        have HI := Lib.hid hi
        clear hs h1 hi
        go_enter Tryd.func63, Tryd.ntmps63
        go_wp2
        go_quiet ((go_at_call 81; exact quiet_same (within_is H1.out _)))
        have hA := h.drewN nq
        go_wp2_with (go_at_call 49; refine (failed_any hA).mono ?_; rintro e w' ⟨rfl, rfl⟩; rw [he'])
        obtain ⟨W, hW⟩ : ∃ W, W = w.drewN nq := ⟨_, rfl⟩
        rw [← hW] at hA ⊢
        have HW := Lib.hid hW
        clear hW c0 c1 c2 c3 c4 f0 f1 f2 f3 f4 hlt
        obtain ⟨hlt, c0, c1, c2, c3, c4, f0, f1, f2, f3, f4⟩ := id hA
        go_quiet (first | (go_at_call 81; exact quiet_same (within_any _ _ _)) | (go_at_call 82; exact quiet_same (isError_is HI.out _)))
        go_wp2
        go_returns
        exact ⟨by rw [hx.out]; rfl, _, by rw [HW.out]; exact World.drewN_drewN _ _ _⟩
      · have hx := Lib.hid (show x.sound = within x.a x.m by rw [hs, hi]; rfl)
        have H1 := Lib.hid h1
        have HI := Lib.hid hi
        clear hs h1 hi
        go_enter Tryd.func63, Tryd.ntmps63
        go_wp2
        go_quiet ((go_at_call 81; exact quiet_same (within_is H1.out _)))
        have hA := h.drewN nq
        go_wp2_with (go_at_call 49; refine (failed_any hA).mono ?_; rintro e w' ⟨rfl, rfl⟩; rw [he'])
        obtain ⟨W, hW⟩ : ∃ W, W = w.drewN nq := ⟨_, rfl⟩
        rw [← hW] at hA ⊢
        have HW := Lib.hid hW
        clear hW c0 c1 c2 c3 c4 f0 f1 f2 f3 f4 hlt
        obtain ⟨hlt, c0, c1, c2, c3, c4, f0, f1, f2, f3, f4⟩ := id hA
        go_quiet (first | (go_at_call 81; exact quiet_same (within_any _ _ _)) | (go_at_call 82; exact quiet_same (isError_is HI.out _)))
        go_wp2
        go_returns
        exact ⟨by rw [hx.out]; rfl, _, by rw [HW.out]; exact World.drewN_drewN _ _ _⟩
  · have hx := Lib.hid (show x.sound = false by unfold Sp.sound; simp [h1])
    have h1' : within x.u x.m = false := by simpa using h1
    clear h1
    go_enter Tryd.func63, Tryd.ntmps63
    go_wp2
    go_quiet ((go_at_call 81; exact quiet_same (within_any _ _ _)))
    go_wp2
    go_returns
    exact ⟨by rw [hx.out]; rfl, _, rfl⟩
end Go.Proofs.YtcmdndgaggbhoaaDoor
namespace Go.Proofs.YtcmdndgaggbhoaaDoor.Wr
open Go

/-- The number that these bytes stand for. -/
def numOf (l : List UInt8) : Nat := l.foldl (fun n b => 256 * n + b.toNat) 0
theorem numOf_snoc (l : List UInt8) (b : UInt8) : numOf (l ++ [b]) = 256 * numOf l + b.toNat := by simp [numOf]
theorem foldl_start (l : List UInt8) (n : Nat) : l.foldl (fun n (b : UInt8) => 256 * n + b.toNat) n = n * 256 ^ l.length + numOf l := by
  induction l generalizing n with
  | nil => simp [numOf]
  | cons b r ih =>
    simp only [List.foldl_cons, numOf, List.length_cons]
    rw [ih, ih (256 * 0 + b.toNat), Nat.pow_succ, Nat.add_mul, Nat.mul_zero, Nat.zero_add]
    have h1 : 256 * n * 256 ^ r.length = n * (256 ^ r.length * 256) := by rw [Nat.mul_comm 256 n, Nat.mul_assoc, Nat.mul_comm 256]
    omega
theorem numOf_cons (b : UInt8) (l : List UInt8) : numOf (b :: l) = b.toNat * 256 ^ l.length + numOf l := by
  simp only [numOf, List.foldl_cons]
  rw [foldl_start]
  simp [numOf]
theorem numOf_lt (l : List UInt8) : numOf l < 256 ^ l.length := by
  induction l with
  | nil => simp [numOf]
  | cons b r ih =>
    rw [numOf_cons, List.length_cons, Nat.pow_succ]
    have hb := b.toNat_lt
    have h1 : b.toNat * 256 ^ r.length ≤ 255 * 256 ^ r.length := Nat.mul_le_mul_right _ (by omega)
    have h2 : 256 ^ r.length * 256 = 255 * 256 ^ r.length + 256 ^ r.length := by omega
    omega
theorem pow_le {a b : Nat} (h : a ≤ b) : 256 ^ a ≤ 256 ^ b := Nat.pow_le_pow_right (by decide) h
theorem numOf_take_lt (l : List UInt8) (k j : Nat) (h : k ≤ j) : numOf (l.take k) < 256 ^ j :=
  Nat.lt_of_lt_of_le (numOf_lt _) (pow_le (by simp; omega))

/-- One byte more, behind: in words. -/
theorem stepU (n b : Nat) (hn : n < 72057594037927936) (hb : b < 256) : bits .or .u64 (IntKind.u64.wrap ((n : Int) * 256)) (b : Int) = ((256 * n + b : Nat) : Int) := by
  have h1 : IntKind.u64.wrap ((n : Int) * 256) = ((n * 256 : Nat) : Int) := by rw [IntKind.wrap_u64]; omega
  rw [h1, u64_or_nat _ _ (by omega) (by omega), nat_join 8 _ _ (by omega) (by omega)]
  congr 1
  omega
theorem ofInt_wrap64 (n : Int) : BitVec.ofInt 64 (IntKind.i64.wrap n) = BitVec.ofInt 64 n := by
  apply BitVec.eq_of_toNat_eq
  simp only [BitVec.toNat_ofInt, IntKind.wrap_i64]
  omega
theorem stepI (n b : Nat) (hn : n < 72057594037927936) (hb : b < 256) : bits .or .i64 (IntKind.i64.wrap ((n : Int) * 256)) (b : Int) = IntKind.i64.wrap ((256 * n + b : Nat) : Int) := by
  show IntKind.i64.wrap ((BitVec.ofInt 64 (IntKind.i64.wrap ((n : Int) * 256)) ||| BitVec.ofInt 64 (b : Int)).toNat : Int) = _
  rw [ofInt_wrap64, BitVec.toNat_or, show ((n : Int) * 256) = ((n * 256 : Nat) : Int) by omega, ofInt_u64 _ (by omega), ofInt_u64 _ (by omega), nat_join 8 _ _ (by omega) (by omega)]
  congr 2
  omega

/-- The last k bytes of a number. -/
def byteAt (n : Int) (k : Nat) : UInt8 := UInt8.ofNat (n / 256 ^ k % 256).toNat
theorem byteAt_val (n : Int) (k : Nat) : ((byteAt n k).toNat : Int) = n / 256 ^ k % 256 := by
  rw [byteAt, UInt8.toNat_ofNat']
  have h1 := Int.emod_nonneg (n / 256 ^ k) (b := 256) (by decide)
  have h2 := Int.emod_lt_of_pos (n / 256 ^ k) (b := 256) (by decide)
  omega
def digI (n : Int) : Nat → List UInt8
  | 0 => []
  | k + 1 => byteAt n k :: digI n k
theorem digI_length (n : Int) (k : Nat) : (digI n k).length = k := by
  induction k with
  | zero => rfl
  | succ k ih => simp [digI, ih]
theorem digI_succ (n : Int) (k : Nat) : digI n (k + 1) = byteAt n k :: digI n k := rfl
theorem numOf_digI (n k : Nat) : numOf (digI n k) = n % 256 ^ k := by
  induction k with
  | zero => simp [digI, numOf]; omega
  | succ k ih =>
    rw [digI_succ, numOf_cons, ih, digI_length, Nat.pow_succ, Nat.mod_mul, Nat.add_comm, Nat.mul_comm (byteAt n k).toNat]
    congr 2
    have h := byteAt_val n k
    have e : ((n : Int) / 256 ^ k % 256) = ((n / 256 ^ k % 256 : Nat) : Int) := by simp
    rw [e] at h
    omega
theorem digI_numOf (l : List UInt8) : digI (numOf l) l.length = l := by
  induction l with
  | nil => rfl
  | cons b r ih =>
    rw [List.length_cons, digI_succ]
    have hlt := numOf_lt r
    have hpos : 0 < 256 ^ r.length := Nat.pow_pos (by decide)
    have hq : numOf (b :: r) / 256 ^ r.length = b.toNat := by
      rw [numOf_cons, Nat.mul_comm, Nat.mul_add_div hpos, Nat.div_eq_of_lt hlt]; rfl
    have h1 : byteAt (numOf (b :: r)) r.length = b := by
      apply UInt8.toNat_inj.1
      have h := byteAt_val (numOf (b :: r)) r.length
      have e : ((numOf (b :: r) : Int) / 256 ^ r.length % 256) = ((numOf (b :: r) / 256 ^ r.length % 256 : Nat) : Int) := by simp
      rw [e, hq] at h
      have := b.toNat_lt
      omega
    have h2 : ∀ k, k ≤ r.length → digI (numOf (b :: r)) k = digI (numOf r) k := by
      intro k
      induction k with
      | zero => intro _; rfl
      | succ k ihk =>
        intro hk
        rw [digI_succ, digI_succ, ihk (by omega)]
        congr 1
        apply UInt8.toNat_inj.1
        have ha := byteAt_val (numOf (b :: r)) k
        have hb := byteAt_val (numOf r) k
        have e1 : ((numOf (b :: r) : Int) / 256 ^ k % 256) = ((numOf (b :: r) / 256 ^ k % 256 : Nat) : Int) := by simp
        have e2 : ((numOf r : Int) / 256 ^ k % 256) = ((numOf r / 256 ^ k % 256 : Nat) : Int) := by simp
        rw [e1] at ha
        rw [e2] at hb
        have hsplit : 256 ^ r.length = 256 ^ k * (256 * 256 ^ (r.length - k - 1)) := by
          rw [← Nat.pow_succ', ← Nat.pow_add]; congr 1; omega
        have : numOf (b :: r) / 256 ^ k % 256 = numOf r / 256 ^ k % 256 := by
          rw [numOf_cons, hsplit, show b.toNat * (256 ^ k * (256 * 256 ^ (r.length - k - 1))) = 256 ^ k * (256 * (b.toNat * 256 ^ (r.length - k - 1))) by
            rw [Nat.mul_left_comm, Nat.mul_left_comm b.toNat 256]]
          rw [Nat.mul_add_div (Nat.pow_pos (by decide)), Nat.mul_add_mod]
        omega
    rw [h1, h2 _ (Nat.le_refl _), ih]

/-- A field of n bytes is read as a number. -/
def Sp.field (x : Sp) (n : Int) : Sp × Nat := if isSz n then ((x.take n).1, numOf (x.take n).2.data.toList) else (x.failAt 2 x.u, 0)
def Sp.sized (x : Sp) (most : Int) : Sp × ByteArray :=
  if within most 65535 then
    if most < (x.field 2).2 then ((x.field 2).1.refuse 4 x.u, ⟨#[]⟩) else (x.field 2).1.take (x.field 2).2
  else (x.failAt 2 x.u, ⟨#[]⟩)
theorem field2 (x : Sp) : x.field 2 = ((x.take 2).1, numOf (x.take 2).2.data.toList) := rfl
theorem field2_lt {x : Sp} (h : x.Ok) : (x.field 2).2 < 65536 := by
  rw [field2]
  have h1 := take_size h (n := 2) (by decide)
  have h2 := numOf_lt (x.take 2).2.data.toList
  have h3 : (x.take 2).2.data.toList.length ≤ 2 := by rw [bytes_size]; omega
  have := pow_le h3
  have e : (256 : Nat) ^ 2 = 65536 := rfl
  show numOf (x.take 2).2.data.toList < 65536
  omega
end Go.Proofs.YtcmdndgaggbhoaaDoor.Wr
namespace Go.Proofs.YtcmdndgaggbhoaaDoor
open Go.RowKit
open Wr

theorem wrapb (b : UInt8) : IntKind.u64.wrap (b.toNat : Int) = (b.toNat : Int) := by have := b.toNat_lt; rw [IntKind.wrap_u64]; omega
theorem wrapbI (b : UInt8) : IntKind.i64.wrap (b.toNat : Int) = (b.toNat : Int) := by have := b.toNat_lt; rw [IntKind.wrap_i64]; omega
theorem numU_any (s : ByteArray) (w : World) (hs : s.size ≤ 8) :
    Calls Tryd.prog 97 #[.string s] w fun e w' => e = .returned (.int .u64 (numOf s.data.toList)) ∧ w = w' := by
  go_enter Tryd.func97, Tryd.ntmps97
  go_wp2
  go_loop [3, 7] (fun t i => ∃ k : Nat, k ≤ s.size ∧ i = .int .i64 k ∧ t = .int .u64 (numOf (s.data.toList.take k))) (fun _ i => s.size - (intOf i).toNat)
  case atStart => exact ⟨0, by omega, rfl, rfl⟩
  case round =>
    obtain ⟨k, hk, rfl, rfl⟩ := hrel
    by_cases hlt : k < s.size
    · have hn := Lib.hid (show (numOf (s.data.toList.take (k + 1)) : Int) = bits .or .u64 (IntKind.u64.wrap ((numOf (s.data.toList.take k) : Int) * 256)) (IntKind.u64.wrap (s[k].toNat : Int)) by
        rw [bytes_take s k hlt, numOf_snoc, wrapb, stepU _ _ (numOf_take_lt _ k 7 (by omega)) s[k].toNat_lt])
      go_wp2
      go_round
      case rel => exact ⟨k + 1, by omega, by go_num, by rw [hn.out]⟩
      case measure => simp [intOf]; omega
    · go_wp2
      go_ret
      exact ⟨by rw [List.take_of_length_le (by rw [bytes_size]; omega)]; rfl, rfl⟩
theorem isSize_any (n : Int) (w : World) :
    Calls Tryd.prog 58 #[.int .i64 n] w fun e w' => e = .returned (.bool (isSz n)) ∧ w = w' := by
  cases h1 : n == 1 <;> cases h2 : n == 2 <;> cases h3 : n == 4 <;> cases h4 : n == 8
  all_goals
    go_enter Tryd.func58, Tryd.ntmps58
    go_wp2
    go_ret
    exact ⟨ret_bool (by unfold isSz; simp at h1 h2 h3 h4; first | (simp [h1, h2, h3, h4]; done) | (subst_vars; simp; done) | (subst_vars; rfl) | skip), rfl⟩
theorem isSize_is {n : Int} {b : Bool} (h : isSz n = b) (w : World) :
    Calls Tryd.prog 58 #[.int .i64 n] w fun e w' => e = .returned (.bool b) ∧ w = w' := h ▸ isSize_any n w
theorem fits_any (n size : Int) (w : World) (hs : 0 ≤ size) (hs' : size ≤ 8) :
    Calls Tryd.prog 59 #[.int .u64 n, .int .i64 size] w fun e w' => e = .returned (.bool (n / 2 ^ (8 * size).toNat == 0)) ∧ w = w' := by
  go_enter Tryd.func59, Tryd.ntmps59
  go_wp2
  go_ret
  exact ⟨ret_bool (by simp), rfl⟩
end Go.Proofs.YtcmdndgaggbhoaaDoor
namespace Go.Proofs.YtcmdndgaggbhoaaDoor
open Go.RowKit
open Wr

set_option maxRecDepth 100000 in
theorem rgiven_any {w : World} {b : Nat} {x : Sp} (h : At w b x) :
    Calls Tryd.prog 93 #[.pointer (some ⟨b, 0, none⟩)] w fun r w' => r = .returned x.given.val ∧ Below w.heap.size w w' := by
  obtain ⟨hlt, c0, c1, c2, c3, c4, f0, f1, f2, f3, f4⟩ := id h
  go_enter Tryd.func93, Tryd.ntmps93
  go_wp2
  go_region
  go_wp2
  go_returns
  exact ⟨rfl, by go_grown⟩
theorem open_any (r : Rd) (w : World) :
    Calls Tryd.prog 68 #[r.val] w fun e w' => e = .returned r.opened.val ∧ Below w.heap.size w w' := by
  obtain ⟨s, at_, err, fat⟩ := r
  simp only [Rd.val]
  cases hs : (Rd.sp ⟨s, at_, err, fat⟩).sound
  · have hx := Lib.hid (show Rd.opened ⟨s, at_, err, fat⟩ = Sp.bad by unfold Rd.opened; rw [if_neg (by rw [hs]; decide)])
    have HS := Lib.hid hs
    clear hs
    go_enter Tryd.func68, Tryd.ntmps68
    go_wp2_with fail
    refine named fun W hW => ?_
    have hA : At W (w.heap.size + 2) (Rd.sp ⟨s, at_, err, fat⟩) := by rw [hW]; constructor <;> (try simp only [Rd.sp]) <;> go_simp
    have hZ : At W (w.heap.size + 1) ⟨0, 0, 0, 0, ⟨#[]⟩⟩ := by rw [hW]; constructor <;> go_simp
    have hB : Below w.heap.size w W := by rw [hW]; go_grown
    clear hW
    refine (sound_any hA).mono ?_
    rintro e w1 ⟨rfl, nq, rfl⟩
    rw [HS.out]
    go_wp2_with fail
    refine (invalid_any _).mono ?_
    rintro e w2 ⟨rfl, hb2⟩
    have hZ2 := (hZ.drewN nq).later hb2
    have hB2 := (below_drewN hB nq).trans (hb2.mono (by simpa using hB.size))
    clear hb2 hZ hB hA
    obtain ⟨hlt, c0, c1, c2, c3, c4, f0, f1, f2, f3, f4⟩ := id hZ2
    go_wp2
    refine named_post fun V hV => ?_
    have hV2 : At V (w.heap.size + 1) Sp.bad := by rw [hV]; exact ((((hZ2.set0 0).set1 0).set2 10).set3 0).set4 _
    have hVB : Below w.heap.size w V := by rw [hV]; go_grown
    clear hV c0 c1 c2 c3 c4 f0 f1 f2 f3 f4
    obtain ⟨_, c0, c1, c2, c3, c4, _⟩ := hV2
    refine bodyPost_ret (by simp [results, Tryd.results68, go_sem, c0, c1, c2, c3, c4]; try rfl) rfl ?_
    exact ⟨by rw [hx.out]; rfl, hVB⟩
  · have hx := Lib.hid (show Rd.opened ⟨s, at_, err, fat⟩ = Rd.sp ⟨s, at_, err, fat⟩ by unfold Rd.opened; rw [if_pos hs])
    have HS := Lib.hid hs
    clear hs
    go_enter Tryd.func68, Tryd.ntmps68
    go_wp2_with fail
    refine named fun W hW => ?_
    have hA : At W (w.heap.size + 2) (Rd.sp ⟨s, at_, err, fat⟩) := by rw [hW]; constructor <;> (try simp only [Rd.sp]) <;> go_simp
    have hZ : At W (w.heap.size + 1) ⟨0, 0, 0, 0, ⟨#[]⟩⟩ := by rw [hW]; constructor <;> go_simp
    have hB : Below w.heap.size w W := by rw [hW]; go_grown
    clear hW
    refine (sound_any hA).mono ?_
    rintro e w1 ⟨rfl, nq, rfl⟩
    rw [HS.out]
    have hZ2 := hZ.drewN nq
    have hA2 := hA.drewN nq
    have hB2 := below_drewN hB nq
    obtain ⟨V, hV⟩ : ∃ V, V = W.drewN nq := ⟨_, rfl⟩
    rw [← hV] at hZ2 hA2 hB2 ⊢
    clear hV hZ hA hB
    obtain ⟨hlt, c0, c1, c2, c3, c4, f0, f1, f2, f3, f4⟩ := id hZ2
    obtain ⟨hlt', d0, d1, d2, d3, d4, g0, g1, g2, g3, g4⟩ := id hA2
    simp only [Rd.sp] at d0 d1 d2 d3 d4
    go_wp2
    refine named_post fun V hV => ?_
    have hV2 : At V (w.heap.size + 1) (Rd.sp ⟨s, at_, err, fat⟩) := by rw [hV]; exact ((((hZ2.set0 at_).set1 s.size).set2 err).set3 fat).set4 s
    have hVB : Below w.heap.size w V := by rw [hV]; go_grown
    clear hV c0 c1 c2 c3 c4 f0 f1 f2 f3 f4 d0 d1 d2 d3 d4 g0 g1 g2 g3 g4
    obtain ⟨_, c0, c1, c2, c3, c4, _⟩ := hV2
    simp only [Rd.sp] at c0 c1 c2 c3 c4
    refine bodyPost_ret (by simp [results, Tryd.results68, go_sem, c0, c1, c2, c3, c4]; try rfl) rfl ?_
    exact ⟨by rw [hx.out]; rfl, hVB⟩
set_option maxRecDepth 100000 in
theorem wgiven_any {w : World} {b : Nat} {x : Sp} (h : At w b x) :
    Calls Tryd.prog 48 #[.pointer (some ⟨b, 0, none⟩)] w fun r w' => r = .returned x.wgiven.val ∧ Below w.heap.size w w' := by
  obtain ⟨hlt, c0, c1, c2, c3, c4, f0, f1, f2, f3, f4⟩ := id h
  go_enter Tryd.func48, Tryd.ntmps48
  go_wp2
  go_region
  go_wp2
  go_returns
  exact ⟨rfl, by go_grown⟩
theorem resume_any (r : Wt) (w : World) :
    Calls Tryd.prog 47 #[r.val] w fun e w' => e = .returned r.opened.val ∧ Below w.heap.size w w' := by
  obtain ⟨s, most, err⟩ := r
  simp only [Wt.val]
  by_cases hm : most ≤ 20000
  · cases hs : (Wt.sp ⟨s, most, err⟩).sound
    · have hx := Lib.hid (show Wt.opened ⟨s, most, err⟩ = Sp.bad by unfold Wt.opened; rw [if_neg (by rw [hs]; simp)])
      have HS := Lib.hid hs
      clear hs
      go_enter Tryd.func47, Tryd.ntmps47
      go_wp2_with fail
      refine named fun W hW => ?_
      have hA : At W (w.heap.size + 2) (Wt.sp ⟨s, most, err⟩) := by rw [hW]; constructor <;> (try simp only [Wt.sp]) <;> go_simp
      have hZ : At W (w.heap.size + 1) ⟨0, 0, 0, 0, ⟨#[]⟩⟩ := by rw [hW]; constructor <;> go_simp
      have hB : Below w.heap.size w W := by rw [hW]; go_grown
      clear hW
      refine (sound_any hA).mono ?_
      rintro e w1 ⟨rfl, nq, rfl⟩
      rw [HS.out]
      go_wp2_with fail
      refine (invalid_any _).mono ?_
      rintro e w2 ⟨rfl, hb2⟩
      have hZ2 := (hZ.drewN nq).later hb2
      have hB2 := (below_drewN hB nq).trans (hb2.mono (by simpa using hB.size))
      clear hb2 hZ hB hA
      obtain ⟨hlt, c0, c1, c2, c3, c4, f0, f1, f2, f3, f4⟩ := id hZ2
      go_wp2
      refine named_post fun V hV => ?_
      have hV2 : At V (w.heap.size + 1) Sp.bad := by rw [hV]; exact ((((hZ2.set0 0).set1 0).set2 10).set3 0).set4 _
      have hVB : Below w.heap.size w V := by rw [hV]; go_grown
      clear hV c0 c1 c2 c3 c4 f0 f1 f2 f3 f4
      obtain ⟨_, c0, c1, c2, c3, c4, _⟩ := hV2
      refine bodyPost_ret (by simp [results, Tryd.results47, go_sem, c0, c1, c2, c3, c4]; try rfl) rfl ?_
      exact ⟨by rw [hx.out]; rfl, hVB⟩
    · have hx := Lib.hid (show Wt.opened ⟨s, most, err⟩ = Wt.sp ⟨s, most, err⟩ by unfold Wt.opened; rw [if_pos ⟨hm, hs⟩])
      have HS := Lib.hid hs
      clear hs
      go_enter Tryd.func47, Tryd.ntmps47
      go_wp2_with fail
      refine named fun W hW => ?_
      have hA : At W (w.heap.size + 2) (Wt.sp ⟨s, most, err⟩) := by rw [hW]; constructor <;> (try simp only [Wt.sp]) <;> go_simp
      have hZ : At W (w.heap.size + 1) ⟨0, 0, 0, 0, ⟨#[]⟩⟩ := by rw [hW]; constructor <;> go_simp
      have hB : Below w.heap.size w W := by rw [hW]; go_grown
      clear hW
      refine (sound_any hA).mono ?_
      rintro e w1 ⟨rfl, nq, rfl⟩
      rw [HS.out]
      have hZ2 := hZ.drewN nq
      have hA2 := hA.drewN nq
      have hB2 := below_drewN hB nq
      obtain ⟨V, hV⟩ : ∃ V, V = W.drewN nq := ⟨_, rfl⟩
      rw [← hV] at hZ2 hA2 hB2 ⊢
      clear hV hZ hA hB
      obtain ⟨hlt, c0, c1, c2, c3, c4, f0, f1, f2, f3, f4⟩ := id hZ2
      obtain ⟨hlt', d0, d1, d2, d3, d4, g0, g1, g2, g3, g4⟩ := id hA2
      simp only [Wt.sp] at d0 d1 d2 d3 d4
      go_wp2
      refine named_post fun V hV => ?_
      have hV2 : At V (w.heap.size + 1) (Wt.sp ⟨s, most, err⟩) := by rw [hV]; exact ((((hZ2.set0 s.size).set1 most).set2 err).set3 0).set4 s
      have hVB : Below w.heap.size w V := by rw [hV]; go_grown
      clear hV c0 c1 c2 c3 c4 f0 f1 f2 f3 f4 d0 d1 d2 d3 d4 g0 g1 g2 g3 g4
      obtain ⟨_, c0, c1, c2, c3, c4, _⟩ := hV2
      simp only [Wt.sp] at c0 c1 c2 c3 c4
      refine bodyPost_ret (by simp [results, Tryd.results47, go_sem, c0, c1, c2, c3, c4]; try rfl) rfl ?_
      exact ⟨by rw [hx.out]; rfl, hVB⟩
  · have hx := Lib.hid (show Wt.opened ⟨s, most, err⟩ = Sp.bad by unfold Wt.opened; rw [if_neg (fun h => hm h.1)])
    go_enter Tryd.func47, Tryd.ntmps47
    go_wp2_with fail
    refine named fun W hW => ?_
    have hZ : At W (w.heap.size + 1) ⟨0, 0, 0, 0, ⟨#[]⟩⟩ := by rw [hW]; constructor <;> go_simp
    have hB : Below w.heap.size w W := by rw [hW]; go_grown
    clear hW
    refine (invalid_any _).mono ?_
    rintro e w2 ⟨rfl, hb2⟩
    have hZ2 := hZ.later hb2
    have hB2 := hB.trans (hb2.mono (by simpa using hB.size))
    clear hb2 hZ hB
    obtain ⟨hlt, c0, c1, c2, c3, c4, f0, f1, f2, f3, f4⟩ := id hZ2
    go_wp2
    refine named_post fun V hV => ?_
    have hV2 : At V (w.heap.size + 1) Sp.bad := by rw [hV]; exact ((((hZ2.set0 0).set1 0).set2 10).set3 0).set4 _
    have hVB : Below w.heap.size w V := by rw [hV]; go_grown
    clear hV c0 c1 c2 c3 c4 f0 f1 f2 f3 f4
    obtain ⟨_, c0, c1, c2, c3, c4, _⟩ := hV2
    refine bodyPost_ret (by simp [results, Tryd.results47, go_sem, c0, c1, c2, c3, c4]; try rfl) rfl ?_
    exact ⟨by rw [hx.out]; rfl, hVB⟩
end Go.Proofs.YtcmdndgaggbhoaaDoor
namespace Go.Proofs.YtcmdndgaggbhoaaDoor
open Go.RowKit
open Wr

theorem claim_yes {x : Sp} {n e : Int} (h : (x.claim n e).2 = true) : (x.claim n e).1 = { x with u := x.u + n } ∧ n ≤ x.m - x.u := by
  unfold Sp.claim at h ⊢
  split at h
  · cases h
  · split at h
    · cases h
    · rename_i h1 h2
      rw [if_neg h1, if_neg h2]
      exact ⟨rfl, by omega⟩
theorem take_any {w : World} {b : Nat} {x : Sp} (h : At w b x) (hk : x.Ok) (hm : x.m = x.s.size) (n : Int) (h0 : 0 ≤ n) (hn : n ≤ 9223372036854775807) (hs : x.s.size ≤ 9223372036854775807) :
    Calls Tryd.prog 98 #[.pointer (some ⟨b, 0, none⟩), .int .i64 n] w fun r w' => r = .returned (.string (x.take n).2) ∧ Below b w w' ∧ At w' b (x.take n).1 := by
  have hu := hk.u0
  have hum := hk.um
  obtain ⟨hlt, c0, c1, c2, c3, c4, f0, f1, f2, f3, f4⟩ := id h
  cases hc : (x.claim n 5).2
  · have hx := Lib.hid (show x.take n = ((x.claim n 5).1, ⟨#[]⟩) by unfold Sp.take; rw [hc]; rfl)
    have HC := Lib.hid hc
    have HM := Lib.hid hm
    have hm' : x.m ≤ 9223372036854775807 := by omega
    clear hc hm
    go_enter Tryd.func98, Tryd.ntmps98
    go_wp2_with (go_at_call 80; refine (claim_any h _ _ h0 hu hum hm' hn (by decide)).mono ?_; rintro e w' ⟨rfl, hb1, h1⟩; rw [HC.out])
    go_returns
    exact ⟨by rw [hx.out]; rfl, hb1, by rw [hx.out]; exact h1⟩
  · obtain ⟨hy, hle⟩ := claim_yes hc
    obtain ⟨u, m, er, a, s⟩ := x
    simp only at *
    obtain ⟨U, rfl⟩ := Int.eq_ofNat_of_zero_le hu
    obtain ⟨N, rfl⟩ := Int.eq_ofNat_of_zero_le h0
    subst hm
    have hx := Lib.hid (show Sp.take ⟨U, s.size, er, a, s⟩ N = (⟨(U + N : Nat), s.size, er, a, s⟩, s.extract U (U + N)) by unfold Sp.take; rw [hc, hy]; rfl)
    have HC := Lib.hid hc
    have HY := Lib.hid hy
    have hs' : (s.size : Int) ≤ 9223372036854775807 := by omega
    clear hc hy
    go_enter Tryd.func98, Tryd.ntmps98
    go_wp2_with (go_at_call 80; refine (claim_any h _ _ h0 hu hum hs' hn (by decide)).mono ?_; rintro e w' ⟨rfl, hb1, h1⟩; rw [HC.out]; rw [HY.out] at h1)
    obtain ⟨hlt, d0, d1, d2, d3, d4, g0, g1, g2, g3, g4⟩ := id h1
    simp only at d0 d1 d2 d3 d4
    go_quiet (fail)
    go_wp2
    go_returns
    exact ⟨by rw [hx.out]; rfl, below_drewN hb1 _, by rw [hx.out]; exact h1.drewN _⟩
theorem fieldU_any {w : World} {b : Nat} {x : Sp} (h : At w b x) (hk : x.Ok) (hm : x.m = x.s.size) (n : Int) (hs : x.s.size ≤ 9223372036854775807) :
    Calls Tryd.prog 92 #[.pointer (some ⟨b, 0, none⟩), .int .i64 n] w fun r w' => r = .returned (.int .u64 (x.field n).2) ∧ Below b w w' ∧ At w' b (x.field n).1 := by
  obtain ⟨hlt, c0, c1, c2, c3, c4, f0, f1, f2, f3, f4⟩ := id h
  cases hz : isSz n
  · have hx := Lib.hid (show x.field n = (x.failAt 2 x.u, 0) by unfold Sp.field; rw [hz]; rfl)
    have HZ := Lib.hid hz
    clear hz hm
    go_enter Tryd.func92, Tryd.ntmps92
    go_wp2_with (first | (go_at_call 58; refine (isSize_is HZ.out _).mono ?_; rintro e w' ⟨rfl, rfl⟩) | (go_at_call 60; refine (fail_any h _).mono ?_; rintro e w' ⟨rfl, hb1, h1⟩))
    go_returns
    exact ⟨by rw [hx.out]; rfl, hb1, by rw [hx.out]; exact h1⟩
  · have hx := Lib.hid (show x.field n = ((x.take n).1, numOf (x.take n).2.data.toList) by unfold Sp.field; rw [hz]; rfl)
    have h0 : 0 ≤ n := by have := isSz_iff.1 hz; omega
    have h8 : n ≤ 8 := by have := isSz_iff.1 hz; omega
    have hsz : (x.take n).2.size ≤ 8 := by have := take_size hk h0; omega
    have HZ := Lib.hid hz
    have HM := Lib.hid hm
    clear hz hm
    go_enter Tryd.func92, Tryd.ntmps92
    go_wp2_with (first | (go_at_call 58; refine (isSize_is HZ.out _).mono ?_; rintro e w' ⟨rfl, rfl⟩) | (go_at_call 98; refine (take_any h hk HM.out _ h0 (by omega) hs).mono ?_; rintro e w' ⟨rfl, hb1, h1⟩) | (go_at_call 97; refine (numU_any _ _ hsz).mono ?_; rintro e w' ⟨rfl, rfl⟩))
    go_returns
    exact ⟨by rw [hx.out]; rfl, hb1, by rw [hx.out]; exact h1⟩
end Go.Proofs.YtcmdndgaggbhoaaDoor
namespace Go.Proofs.YtcmdndgaggbhoaaDoor
open Go.RowKit
open Wr

end Go.Proofs.YtcmdndgaggbhoaaDoor
namespace Go.Proofs.YtcmdndgaggbhoaaDoor
open Go.RowKit
open Wr

theorem opened_ok (r : Rd) : r.opened.Ok := by
  unfold Rd.opened
  split
  · rename_i h; exact Sp.ok_of_sound h
  · exact ⟨by decide, by decide⟩
theorem opened_m (r : Rd) : r.opened.m = r.opened.s.size := by
  unfold Rd.opened
  split <;> rfl
theorem opened_s (r : Rd) : r.opened.s.size ≤ r.s.size := by
  unfold Rd.opened
  split
  · exact Nat.le_refl _
  · exact Nat.zero_le _
def uintR (r : Rd) (n : Int) : Rd × Nat := ((r.opened.field n).1.given, (r.opened.field n).2)
def int64R (r : Rd) : Rd × Int := ((r.opened.field 8).1.given, IntKind.i64.wrap (r.opened.field 8).2)
def bytesR (r : Rd) (n : Int) : Rd × ByteArray := if n < 0 then ((r.opened.failAt 2 r.opened.u).given, ⟨#[]⟩) else ((r.opened.take n).1.given, (r.opened.take n).2)
def sizedR (r : Rd) (n : Int) : Rd × ByteArray := ((r.opened.sized n).1.given, (r.opened.sized n).2)
def wantR (r : Rd) (s : ByteArray) : Rd := (if (r.opened.take s.size).2 = s then (r.opened.take s.size).1 else (r.opened.take s.size).1.refuse 3 r.opened.u).given
def failR (r : Rd) (e a : Int) : Rd := (r.opened.failAt (if isErr e then e else 3) (min (max a 0) r.opened.m)).given
def endR (r : Rd) : Sp := if r.opened.u < r.opened.m then r.opened.failAt 4 r.opened.u else r.opened
def readR (s : ByteArray) : Rd := ⟨s, 0, 0, 0⟩

theorem uint_any (r : Rd) (n : Int) (w : World) (hs : r.s.size ≤ 9223372036854775807) :
    Calls Tryd.prog 83 #[r.val, .int .i64 n] w fun e w' => e = .returned (.tuple #[(uintR r n).1.val, .int .u64 (uintR r n).2]) ∧ Below w.heap.size w w' := by
  have hk := opened_ok r
  have hm := Lib.hid (opened_m r)
  have hs' := Nat.le_trans (opened_s r) hs
  have hopen := open_any r
  obtain ⟨s, at_, err, fat⟩ := r
  obtain ⟨x, hx⟩ : ∃ x, x = Rd.opened ⟨s, at_, err, fat⟩ := ⟨_, rfl⟩
  have hu := Lib.hid (show uintR ⟨s, at_, err, fat⟩ n = ((x.field n).1.given, (x.field n).2) by rw [hx]; rfl)
  rw [← hx] at hk hm hs' hopen
  clear hx
  simp only [Rd.val, Sp.val] at hopen ⊢
  go_enter Tryd.func83, Tryd.ntmps83
  go_wp2_with fail
  refine named fun W hW => ?_
  have hB : Below w.heap.size w W := by rw [hW]; go_grown
  have hR : Blk W (w.heap.size + 1) [.string ⟨#[]⟩, .int .i64 0, .int .i64 0, .int .i64 0] := by
    rw [hW]; exact Blk.is (us := [.string ⟨#[]⟩, .int .i64 0, .int .i64 0, .int .i64 0]) _ (by simp)
  clear hW
  refine (hopen _).mono ?_
  rintro e w1 ⟨rfl, hb1⟩
  have hB1 := bstep hB hb1
  have hR1 := hR.later hb1
  clear hB hR hb1
  go_wp2_with fail
  refine named fun W hW => ?_
  have hA : At W w1.heap.size x := by rw [hW]; exact At.new _ _ _
  have hB : Below w.heap.size w W := by rw [hW]; exact hB1.alloc hB1.size _
  have hR : Blk W (w.heap.size + 1) [.string ⟨#[]⟩, .int .i64 0, .int .i64 0, .int .i64 0] := by rw [hW]; exact hR1.alloc _
  have hlt := hR1.lt
  obtain ⟨b, hb⟩ : ∃ b, b = w1.heap.size := ⟨_, rfl⟩
  rw [← hb] at hA ⊢ hlt
  clear hW hB1 hR1 hb
  refine (fieldU_any hA hk hm.out n hs').mono ?_
  rintro e w2 ⟨rfl, hb2, hA2⟩
  go_wp2_with fail
  refine (rgiven_any hA2).mono ?_
  rintro e w3 ⟨rfl, hb3⟩
  simp only [Sp.given, Rd.val]
  have hR3 := (hR.under hb2 hlt).later hb3
  have hB3 : Below w.heap.size w w3 := bstep (hB.trans (hb2.mono (by omega))) hb3
  clear hB hR hb2 hb3 hA2 hA hlt
  obtain ⟨hlt, c, f⟩ := id hR3
  have c0 := c 0 _ rfl
  have c1 := c 1 _ rfl
  have c2 := c 2 _ rfl
  have c3 := c 3 _ rfl
  have f0 := f 0 _ rfl
  have f1 := f 1 _ rfl
  have f2 := f 2 _ rfl
  have f3 := f 3 _ rfl
  clear c f
  go_wp2
  refine named_post fun V hV => ?_
  have hVR : Blk V (w.heap.size + 1) [.string ((x.field n).1).s, .int .i64 ((x.field n).1).u, .int .i64 ((x.field n).1).e, .int .i64 ((x.field n).1).a] := by
    rw [hV]; exact (((hR3.set 0 _).set 1 _).set 2 _).set 3 _
  have hVB : Below w.heap.size w V := by rw [hV]; exact (((hB3.setCell (p := ⟨w.heap.size + 1, 0, none⟩) (by simp) _).setCell (p := ⟨w.heap.size + 1, 1, none⟩) (by simp) _).setCell (p := ⟨w.heap.size + 1, 2, none⟩) (by simp) _).setCell (p := ⟨w.heap.size + 1, 3, none⟩) (by simp) _
  clear hV c0 c1 c2 c3 f0 f1 f2 f3
  have c0 := hVR.cell 0 _ rfl
  have c1 := hVR.cell 1 _ rfl
  have c2 := hVR.cell 2 _ rfl
  have c3 := hVR.cell 3 _ rfl
  refine bodyPost_ret (by simp [results, Tryd.results83, go_sem, c0, c1, c2, c3]; try rfl) rfl ?_
  exact ⟨by rw [hu.out]; rfl, hVB⟩
end Go.Proofs.YtcmdndgaggbhoaaDoor
namespace Go.Proofs.YtcmdndgaggbhoaaDoor
open Go.RowKit
open Wr

theorem failR_any (r : Rd) (er a : Int) (w : World) (hs : r.s.size ≤ 9223372036854775807) :
    Calls Tryd.prog 84 #[r.val, .int .i64 er, .int .i64 a] w fun e w' => e = .returned (failR r er a).val ∧ Below w.heap.size w w' := by
  have hk := opened_ok r
  have hm := Lib.hid (opened_m r)
  have hs' := Nat.le_trans (opened_s r) hs
  have hopen := open_any r
  obtain ⟨s, at_, err, fat⟩ := r
  obtain ⟨x, hx⟩ : ∃ x, x = Rd.opened ⟨s, at_, err, fat⟩ := ⟨_, rfl⟩
  have hu := (show failR ⟨s, at_, err, fat⟩ er a = (x.failAt (if isErr er then er else 3) (min (max a 0) x.m)).given by rw [hx]; rfl)
  rw [← hx] at hk hm hs' hopen
  clear hx
  simp only [Rd.val, Sp.val] at hopen ⊢
  have hm0 : 0 ≤ x.m := by have h1 := hk.u0; have h2 := hk.um; omega
  cases hi : isErr er
  · rcases Int.lt_or_le a 0 with ha | ha
    · rw [hi, if_neg (by decide), show min (max a 0) x.m = 0 by omega] at hu
      replace hu := Lib.hid hu
      have HI := Lib.hid hi
      clear hi
      go_enter Tryd.func84, Tryd.ntmps84
      go_wp2_with fail
      refine (isError_is HI.out _).mono ?_
      rintro e w' ⟨rfl, rfl⟩
      go_wp2_with fail
      refine named fun W hW => ?_
      have hB : Below w.heap.size w W := by rw [hW]; go_grown
      have hR : Blk W (w.heap.size + 1) [.string ⟨#[]⟩, .int .i64 0, .int .i64 0, .int .i64 0] := by
        rw [hW]; exact Blk.is (us := [.string ⟨#[]⟩, .int .i64 0, .int .i64 0, .int .i64 0]) _ (by simp)
      clear hW
      refine (hopen _).mono ?_
      rintro e w1 ⟨rfl, hb1⟩
      have hB1 := bstep hB hb1
      have hR1 := hR.later hb1
      clear hB hR hb1
      go_wp2_with fail
      refine named fun W hW => ?_
      have hA : At W w1.heap.size x := by rw [hW]; exact At.new _ _ _
      have hB : Below w.heap.size w W := by rw [hW]; exact hB1.alloc hB1.size _
      have hR : Blk W (w.heap.size + 1) [.string ⟨#[]⟩, .int .i64 0, .int .i64 0, .int .i64 0] := by rw [hW]; exact hR1.alloc _
      have hlt := hR1.lt
      obtain ⟨b, hb⟩ : ∃ b, b = w1.heap.size := ⟨_, rfl⟩
      rw [← hb] at hA ⊢ hlt
      clear hW hB1 hR1 hb
      refine (failAt_any hA 3 0).mono ?_
      rintro e w2 ⟨rfl, hb2, hA2⟩
      go_wp2_with fail
      refine (rgiven_any hA2).mono ?_
      rintro e w3 ⟨rfl, hb3⟩
      simp only [Sp.given, Rd.val]
      have hR3 := (hR.under hb2 hlt).later hb3
      have hB3 : Below w.heap.size w w3 := bstep (hB.trans (hb2.mono (by omega))) hb3
      clear hB hR hb2 hb3 hA2 hA hlt
      obtain ⟨hlt, c, f⟩ := id hR3
      have c0 := c 0 _ rfl
      have c1 := c 1 _ rfl
      have c2 := c 2 _ rfl
      have c3 := c 3 _ rfl
      have f0 := f 0 _ rfl
      have f1 := f 1 _ rfl
      have f2 := f 2 _ rfl
      have f3 := f 3 _ rfl
      clear c f
      go_wp2
      refine named_post fun V hV => ?_
      have hVR : Blk V (w.heap.size + 1) [.string (x.failAt 3 0).s, .int .i64 (x.failAt 3 0).u, .int .i64 (x.failAt 3 0).e, .int .i64 (x.failAt 3 0).a] := by
        rw [hV]; exact (((hR3.set 0 _).set 1 _).set 2 _).set 3 _
      have hVB : Below w.heap.size w V := by rw [hV]; exact (((hB3.setCell (p := ⟨w.heap.size + 1, 0, none⟩) (by simp) _).setCell (p := ⟨w.heap.size + 1, 1, none⟩) (by simp) _).setCell (p := ⟨w.heap.size + 1, 2, none⟩) (by simp) _).setCell (p := ⟨w.heap.size + 1, 3, none⟩) (by simp) _
      clear hV c0 c1 c2 c3 f0 f1 f2 f3
      have c0 := hVR.cell 0 _ rfl
      have c1 := hVR.cell 1 _ rfl
      have c2 := hVR.cell 2 _ rfl
      have c3 := hVR.cell 3 _ rfl
      refine bodyPost_ret (by simp [results, Tryd.results84, go_sem, c0, c1, c2, c3]; try rfl) rfl ?_
      exact ⟨by rw [hu.out]; rfl, hVB⟩
    · rcases Int.lt_or_le x.m a with hb0 | hb0
      · rw [hi, if_neg (by decide), show min (max a 0) x.m = x.m by omega] at hu
        replace hu := Lib.hid hu
        have HI := Lib.hid hi
        clear hi
        go_enter Tryd.func84, Tryd.ntmps84
        go_wp2_with fail
        refine (isError_is HI.out _).mono ?_
        rintro e w' ⟨rfl, rfl⟩
        go_wp2_with fail
        refine named fun W hW => ?_
        have hB : Below w.heap.size w W := by rw [hW]; go_grown
        have hR : Blk W (w.heap.size + 1) [.string ⟨#[]⟩, .int .i64 0, .int .i64 0, .int .i64 0] := by
          rw [hW]; exact Blk.is (us := [.string ⟨#[]⟩, .int .i64 0, .int .i64 0, .int .i64 0]) _ (by simp)
        clear hW
        refine (hopen _).mono ?_
        rintro e w1 ⟨rfl, hb1⟩
        have hB1 := bstep hB hb1
        have hR1 := hR.later hb1
        clear hB hR hb1
        go_wp2_with fail
        refine named fun W hW => ?_
        have hA : At W w1.heap.size x := by rw [hW]; exact At.new _ _ _
        have hB : Below w.heap.size w W := by rw [hW]; exact hB1.alloc hB1.size _
        have hR : Blk W (w.heap.size + 1) [.string ⟨#[]⟩, .int .i64 0, .int .i64 0, .int .i64 0] := by rw [hW]; exact hR1.alloc _
        have hlt := hR1.lt
        obtain ⟨b, hb⟩ : ∃ b, b = w1.heap.size := ⟨_, rfl⟩
        rw [← hb] at hA ⊢ hlt
        clear hW hB1 hR1 hb
        refine (failAt_any hA 3 x.m).mono ?_
        rintro e w2 ⟨rfl, hb2, hA2⟩
        go_wp2_with fail
        refine (rgiven_any hA2).mono ?_
        rintro e w3 ⟨rfl, hb3⟩
        simp only [Sp.given, Rd.val]
        have hR3 := (hR.under hb2 hlt).later hb3
        have hB3 : Below w.heap.size w w3 := bstep (hB.trans (hb2.mono (by omega))) hb3
        clear hB hR hb2 hb3 hA2 hA hlt
        obtain ⟨hlt, c, f⟩ := id hR3
        have c0 := c 0 _ rfl
        have c1 := c 1 _ rfl
        have c2 := c 2 _ rfl
        have c3 := c 3 _ rfl
        have f0 := f 0 _ rfl
        have f1 := f 1 _ rfl
        have f2 := f 2 _ rfl
        have f3 := f 3 _ rfl
        clear c f
        go_wp2
        refine named_post fun V hV => ?_
        have hVR : Blk V (w.heap.size + 1) [.string (x.failAt 3 x.m).s, .int .i64 (x.failAt 3 x.m).u, .int .i64 (x.failAt 3 x.m).e, .int .i64 (x.failAt 3 x.m).a] := by
          rw [hV]; exact (((hR3.set 0 _).set 1 _).set 2 _).set 3 _
        have hVB : Below w.heap.size w V := by rw [hV]; exact (((hB3.setCell (p := ⟨w.heap.size + 1, 0, none⟩) (by simp) _).setCell (p := ⟨w.heap.size + 1, 1, none⟩) (by simp) _).setCell (p := ⟨w.heap.size + 1, 2, none⟩) (by simp) _).setCell (p := ⟨w.heap.size + 1, 3, none⟩) (by simp) _
        clear hV c0 c1 c2 c3 f0 f1 f2 f3
        have c0 := hVR.cell 0 _ rfl
        have c1 := hVR.cell 1 _ rfl
        have c2 := hVR.cell 2 _ rfl
        have c3 := hVR.cell 3 _ rfl
        refine bodyPost_ret (by simp [results, Tryd.results84, go_sem, c0, c1, c2, c3]; try rfl) rfl ?_
        exact ⟨by rw [hu.out]; rfl, hVB⟩
      · rw [hi, if_neg (by decide), show min (max a 0) x.m = a by omega] at hu
        replace hu := Lib.hid hu
        have HI := Lib.hid hi
        clear hi
        go_enter Tryd.func84, Tryd.ntmps84
        go_wp2_with fail
        refine (isError_is HI.out _).mono ?_
        rintro e w' ⟨rfl, rfl⟩
        go_wp2_with fail
        refine named fun W hW => ?_
        have hB : Below w.heap.size w W := by rw [hW]; go_grown
        have hR : Blk W (w.heap.size + 1) [.string ⟨#[]⟩, .int .i64 0, .int .i64 0, .int .i64 0] := by
          rw [hW]; exact Blk.is (us := [.string ⟨#[]⟩, .int .i64 0, .int .i64 0, .int .i64 0]) _ (by simp)
        clear hW
        refine (hopen _).mono ?_
        rintro e w1 ⟨rfl, hb1⟩
        have hB1 := bstep hB hb1
        have hR1 := hR.later hb1
        clear hB hR hb1
        go_wp2_with fail
        refine named fun W hW => ?_
        have hA : At W w1.heap.size x := by rw [hW]; exact At.new _ _ _
        have hB : Below w.heap.size w W := by rw [hW]; exact hB1.alloc hB1.size _
        have hR : Blk W (w.heap.size + 1) [.string ⟨#[]⟩, .int .i64 0, .int .i64 0, .int .i64 0] := by rw [hW]; exact hR1.alloc _
        have hlt := hR1.lt
        obtain ⟨b, hb⟩ : ∃ b, b = w1.heap.size := ⟨_, rfl⟩
        rw [← hb] at hA ⊢ hlt
        clear hW hB1 hR1 hb
        refine (failAt_any hA 3 a).mono ?_
        rintro e w2 ⟨rfl, hb2, hA2⟩
        go_wp2_with fail
        refine (rgiven_any hA2).mono ?_
        rintro e w3 ⟨rfl, hb3⟩
        simp only [Sp.given, Rd.val]
        have hR3 := (hR.under hb2 hlt).later hb3
        have hB3 : Below w.heap.size w w3 := bstep (hB.trans (hb2.mono (by omega))) hb3
        clear hB hR hb2 hb3 hA2 hA hlt
        obtain ⟨hlt, c, f⟩ := id hR3
        have c0 := c 0 _ rfl
        have c1 := c 1 _ rfl
        have c2 := c 2 _ rfl
        have c3 := c 3 _ rfl
        have f0 := f 0 _ rfl
        have f1 := f 1 _ rfl
        have f2 := f 2 _ rfl
        have f3 := f 3 _ rfl
        clear c f
        go_wp2
        refine named_post fun V hV => ?_
        have hVR : Blk V (w.heap.size + 1) [.string (x.failAt 3 a).s, .int .i64 (x.failAt 3 a).u, .int .i64 (x.failAt 3 a).e, .int .i64 (x.failAt 3 a).a] := by
          rw [hV]; exact (((hR3.set 0 _).set 1 _).set 2 _).set 3 _
        have hVB : Below w.heap.size w V := by rw [hV]; exact (((hB3.setCell (p := ⟨w.heap.size + 1, 0, none⟩) (by simp) _).setCell (p := ⟨w.heap.size + 1, 1, none⟩) (by simp) _).setCell (p := ⟨w.heap.size + 1, 2, none⟩) (by simp) _).setCell (p := ⟨w.heap.size + 1, 3, none⟩) (by simp) _
        clear hV c0 c1 c2 c3 f0 f1 f2 f3
        have c0 := hVR.cell 0 _ rfl
        have c1 := hVR.cell 1 _ rfl
        have c2 := hVR.cell 2 _ rfl
        have c3 := hVR.cell 3 _ rfl
        refine bodyPost_ret (by simp [results, Tryd.results84, go_sem, c0, c1, c2, c3]; try rfl) rfl ?_
        exact ⟨by rw [hu.out]; rfl, hVB⟩
  · rcases Int.lt_or_le a 0 with ha | ha
    · rw [hi, if_pos rfl, show min (max a 0) x.m = 0 by omega] at hu
      replace hu := Lib.hid hu
      have HI := Lib.hid hi
      clear hi
      go_enter Tryd.func84, Tryd.ntmps84
      go_wp2_with fail
      refine (isError_is HI.out _).mono ?_
      rintro e w' ⟨rfl, rfl⟩
      go_wp2_with fail
      refine named fun W hW => ?_
      have hB : Below w.heap.size w W := by rw [hW]; go_grown
      have hR : Blk W (w.heap.size + 1) [.string ⟨#[]⟩, .int .i64 0, .int .i64 0, .int .i64 0] := by
        rw [hW]; exact Blk.is (us := [.string ⟨#[]⟩, .int .i64 0, .int .i64 0, .int .i64 0]) _ (by simp)
      clear hW
      refine (hopen _).mono ?_
      rintro e w1 ⟨rfl, hb1⟩
      have hB1 := bstep hB hb1
      have hR1 := hR.later hb1
      clear hB hR hb1
      go_wp2_with fail
      refine named fun W hW => ?_
      have hA : At W w1.heap.size x := by rw [hW]; exact At.new _ _ _
      have hB : Below w.heap.size w W := by rw [hW]; exact hB1.alloc hB1.size _
      have hR : Blk W (w.heap.size + 1) [.string ⟨#[]⟩, .int .i64 0, .int .i64 0, .int .i64 0] := by rw [hW]; exact hR1.alloc _
      have hlt := hR1.lt
      obtain ⟨b, hb⟩ : ∃ b, b = w1.heap.size := ⟨_, rfl⟩
      rw [← hb] at hA ⊢ hlt
      clear hW hB1 hR1 hb
      refine (failAt_any hA er 0).mono ?_
      rintro e w2 ⟨rfl, hb2, hA2⟩
      go_wp2_with fail
      refine (rgiven_any hA2).mono ?_
      rintro e w3 ⟨rfl, hb3⟩
      simp only [Sp.given, Rd.val]
      have hR3 := (hR.under hb2 hlt).later hb3
      have hB3 : Below w.heap.size w w3 := bstep (hB.trans (hb2.mono (by omega))) hb3
      clear hB hR hb2 hb3 hA2 hA hlt
      obtain ⟨hlt, c, f⟩ := id hR3
      have c0 := c 0 _ rfl
      have c1 := c 1 _ rfl
      have c2 := c 2 _ rfl
      have c3 := c 3 _ rfl
      have f0 := f 0 _ rfl
      have f1 := f 1 _ rfl
      have f2 := f 2 _ rfl
      have f3 := f 3 _ rfl
      clear c f
      go_wp2
      refine named_post fun V hV => ?_
      have hVR : Blk V (w.heap.size + 1) [.string (x.failAt er 0).s, .int .i64 (x.failAt er 0).u, .int .i64 (x.failAt er 0).e, .int .i64 (x.failAt er 0).a] := by
        rw [hV]; exact (((hR3.set 0 _).set 1 _).set 2 _).set 3 _
      have hVB : Below w.heap.size w V := by rw [hV]; exact (((hB3.setCell (p := ⟨w.heap.size + 1, 0, none⟩) (by simp) _).setCell (p := ⟨w.heap.size + 1, 1, none⟩) (by simp) _).setCell (p := ⟨w.heap.size + 1, 2, none⟩) (by simp) _).setCell (p := ⟨w.heap.size + 1, 3, none⟩) (by simp) _
      clear hV c0 c1 c2 c3 f0 f1 f2 f3
      have c0 := hVR.cell 0 _ rfl
      have c1 := hVR.cell 1 _ rfl
      have c2 := hVR.cell 2 _ rfl
      have c3 := hVR.cell 3 _ rfl
      refine bodyPost_ret (by simp [results, Tryd.results84, go_sem, c0, c1, c2, c3]; try rfl) rfl ?_
      exact ⟨by rw [hu.out]; rfl, hVB⟩
    · rcases Int.lt_or_le x.m a with hb0 | hb0
      · rw [hi, if_pos rfl, show min (max a 0) x.m = x.m by omega] at hu
        replace hu := Lib.hid hu
        have HI := Lib.hid hi
        clear hi
        go_enter Tryd.func84, Tryd.ntmps84
        go_wp2_with fail
        refine (isError_is HI.out _).mono ?_
        rintro e w' ⟨rfl, rfl⟩
        go_wp2_with fail
        refine named fun W hW => ?_
        have hB : Below w.heap.size w W := by rw [hW]; go_grown
        have hR : Blk W (w.heap.size + 1) [.string ⟨#[]⟩, .int .i64 0, .int .i64 0, .int .i64 0] := by
          rw [hW]; exact Blk.is (us := [.string ⟨#[]⟩, .int .i64 0, .int .i64 0, .int .i64 0]) _ (by simp)
        clear hW
        refine (hopen _).mono ?_
        rintro e w1 ⟨rfl, hb1⟩
        have hB1 := bstep hB hb1
        have hR1 := hR.later hb1
        clear hB hR hb1
        go_wp2_with fail
        refine named fun W hW => ?_
        have hA : At W w1.heap.size x := by rw [hW]; exact At.new _ _ _
        have hB : Below w.heap.size w W := by rw [hW]; exact hB1.alloc hB1.size _
        have hR : Blk W (w.heap.size + 1) [.string ⟨#[]⟩, .int .i64 0, .int .i64 0, .int .i64 0] := by rw [hW]; exact hR1.alloc _
        have hlt := hR1.lt
        obtain ⟨b, hb⟩ : ∃ b, b = w1.heap.size := ⟨_, rfl⟩
        rw [← hb] at hA ⊢ hlt
        clear hW hB1 hR1 hb
        refine (failAt_any hA er x.m).mono ?_
        rintro e w2 ⟨rfl, hb2, hA2⟩
        go_wp2_with fail
        refine (rgiven_any hA2).mono ?_
        rintro e w3 ⟨rfl, hb3⟩
        simp only [Sp.given, Rd.val]
        have hR3 := (hR.under hb2 hlt).later hb3
        have hB3 : Below w.heap.size w w3 := bstep (hB.trans (hb2.mono (by omega))) hb3
        clear hB hR hb2 hb3 hA2 hA hlt
        obtain ⟨hlt, c, f⟩ := id hR3
        have c0 := c 0 _ rfl
        have c1 := c 1 _ rfl
        have c2 := c 2 _ rfl
        have c3 := c 3 _ rfl
        have f0 := f 0 _ rfl
        have f1 := f 1 _ rfl
        have f2 := f 2 _ rfl
        have f3 := f 3 _ rfl
        clear c f
        go_wp2
        refine named_post fun V hV => ?_
        have hVR : Blk V (w.heap.size + 1) [.string (x.failAt er x.m).s, .int .i64 (x.failAt er x.m).u, .int .i64 (x.failAt er x.m).e, .int .i64 (x.failAt er x.m).a] := by
          rw [hV]; exact (((hR3.set 0 _).set 1 _).set 2 _).set 3 _
        have hVB : Below w.heap.size w V := by rw [hV]; exact (((hB3.setCell (p := ⟨w.heap.size + 1, 0, none⟩) (by simp) _).setCell (p := ⟨w.heap.size + 1, 1, none⟩) (by simp) _).setCell (p := ⟨w.heap.size + 1, 2, none⟩) (by simp) _).setCell (p := ⟨w.heap.size + 1, 3, none⟩) (by simp) _
        clear hV c0 c1 c2 c3 f0 f1 f2 f3
        have c0 := hVR.cell 0 _ rfl
        have c1 := hVR.cell 1 _ rfl
        have c2 := hVR.cell 2 _ rfl
        have c3 := hVR.cell 3 _ rfl
        refine bodyPost_ret (by simp [results, Tryd.results84, go_sem, c0, c1, c2, c3]; try rfl) rfl ?_
        exact ⟨by rw [hu.out]; rfl, hVB⟩
      · rw [hi, if_pos rfl, show min (max a 0) x.m = a by omega] at hu
        replace hu := Lib.hid hu
        have HI := Lib.hid hi
        clear hi
        go_enter Tryd.func84, Tryd.ntmps84
        go_wp2_with fail
        refine (isError_is HI.out _).mono ?_
        rintro e w' ⟨rfl, rfl⟩
        go_wp2_with fail
        refine named fun W hW => ?_
        have hB : Below w.heap.size w W := by rw [hW]; go_grown
        have hR : Blk W (w.heap.size + 1) [.string ⟨#[]⟩, .int .i64 0, .int .i64 0, .int .i64 0] := by
          rw [hW]; exact Blk.is (us := [.string ⟨#[]⟩, .int .i64 0, .int .i64 0, .int .i64 0]) _ (by simp)
        clear hW
        refine (hopen _).mono ?_
        rintro e w1 ⟨rfl, hb1⟩
        have hB1 := bstep hB hb1
        have hR1 := hR.later hb1
        clear hB hR hb1
        go_wp2_with fail
        refine named fun W hW => ?_
        have hA : At W w1.heap.size x := by rw [hW]; exact At.new _ _ _
        have hB : Below w.heap.size w W := by rw [hW]; exact hB1.alloc hB1.size _
        have hR : Blk W (w.heap.size + 1) [.string ⟨#[]⟩, .int .i64 0, .int .i64 0, .int .i64 0] := by rw [hW]; exact hR1.alloc _
        have hlt := hR1.lt
        obtain ⟨b, hb⟩ : ∃ b, b = w1.heap.size := ⟨_, rfl⟩
        rw [← hb] at hA ⊢ hlt
        clear hW hB1 hR1 hb
        refine (failAt_any hA er a).mono ?_
        rintro e w2 ⟨rfl, hb2, hA2⟩
        go_wp2_with fail
        refine (rgiven_any hA2).mono ?_
        rintro e w3 ⟨rfl, hb3⟩
        simp only [Sp.given, Rd.val]
        have hR3 := (hR.under hb2 hlt).later hb3
        have hB3 : Below w.heap.size w w3 := bstep (hB.trans (hb2.mono (by omega))) hb3
        clear hB hR hb2 hb3 hA2 hA hlt
        obtain ⟨hlt, c, f⟩ := id hR3
        have c0 := c 0 _ rfl
        have c1 := c 1 _ rfl
        have c2 := c 2 _ rfl
        have c3 := c 3 _ rfl
        have f0 := f 0 _ rfl
        have f1 := f 1 _ rfl
        have f2 := f 2 _ rfl
        have f3 := f 3 _ rfl
        clear c f
        go_wp2
        refine named_post fun V hV => ?_
        have hVR : Blk V (w.heap.size + 1) [.string (x.failAt er a).s, .int .i64 (x.failAt er a).u, .int .i64 (x.failAt er a).e, .int .i64 (x.failAt er a).a] := by
          rw [hV]; exact (((hR3.set 0 _).set 1 _).set 2 _).set 3 _
        have hVB : Below w.heap.size w V := by rw [hV]; exact (((hB3.setCell (p := ⟨w.heap.size + 1, 0, none⟩) (by simp) _).setCell (p := ⟨w.heap.size + 1, 1, none⟩) (by simp) _).setCell (p := ⟨w.heap.size + 1, 2, none⟩) (by simp) _).setCell (p := ⟨w.heap.size + 1, 3, none⟩) (by simp) _
        clear hV c0 c1 c2 c3 f0 f1 f2 f3
        have c0 := hVR.cell 0 _ rfl
        have c1 := hVR.cell 1 _ rfl
        have c2 := hVR.cell 2 _ rfl
        have c3 := hVR.cell 3 _ rfl
        refine bodyPost_ret (by simp [results, Tryd.results84, go_sem, c0, c1, c2, c3]; try rfl) rfl ?_
        exact ⟨by rw [hu.out]; rfl, hVB⟩
theorem end_any (r : Rd) (w : World) (hs : r.s.size ≤ 9223372036854775807) :
    Calls Tryd.prog 53 #[r.val] w fun e w' => e = .returned (.agg #[.int .i64 (endR r).e, .int .i64 (endR r).a]) ∧ Below w.heap.size w w' := by
  have hk := opened_ok r
  have hm := Lib.hid (opened_m r)
  have hs' := Nat.le_trans (opened_s r) hs
  have hopen := open_any r
  obtain ⟨s, at_, err, fat⟩ := r
  obtain ⟨x, hx⟩ : ∃ x, x = Rd.opened ⟨s, at_, err, fat⟩ := ⟨_, rfl⟩
  have hu := (show endR ⟨s, at_, err, fat⟩ = if x.u < x.m then x.failAt 4 x.u else x by rw [hx]; rfl)
  rw [← hx] at hk hm hs' hopen
  clear hx
  simp only [Rd.val, Sp.val] at hopen ⊢
  by_cases hneg : x.u < x.m
  · rw [if_pos hneg] at hu
    replace hu := Lib.hid hu
    go_enter Tryd.func53, Tryd.ntmps53
    go_wp2_with fail
    refine named fun W hW => ?_
    have hB : Below w.heap.size w W := by rw [hW]; go_grown
    have hR : Blk W (w.heap.size + 1) [.int .i64 0, .int .i64 0] := by
      rw [hW]; exact Blk.is (us := [.int .i64 0, .int .i64 0]) _ (by simp)
    clear hW
    refine (hopen _).mono ?_
    rintro e w1 ⟨rfl, hb1⟩
    have hB1 := bstep hB hb1
    have hR1 := hR.later hb1
    clear hB hR hb1
    go_wp2_with fail
    refine named fun W hW => ?_
    have hA : At W w1.heap.size x := by rw [hW]; exact At.new _ _ _
    have hB : Below w.heap.size w W := by rw [hW]; exact hB1.alloc hB1.size _
    have hR : Blk W (w.heap.size + 1) [.int .i64 0, .int .i64 0] := by rw [hW]; exact hR1.alloc _
    have hlt := hR1.lt
    obtain ⟨b, hb⟩ : ∃ b, b = w1.heap.size := ⟨_, rfl⟩
    rw [← hb] at hA ⊢ hlt
    clear hW hB1 hR1 hb
    refine (fail_any hA 4).mono ?_
    rintro e w2 ⟨rfl, hb2, hA2⟩
    have hR2 := hR.under hb2 hlt
    have hB2 := hB.trans (hb2.mono (by omega))
    clear hB hR hb2 hA
    obtain ⟨hltE, d0, d1, d2, d3, d4, g0, g1, g2, g3, g4⟩ := id hA2
    obtain ⟨_, c, f⟩ := id hR2
    have c0 := c 0 _ rfl
    have c1 := c 1 _ rfl
    have f0 := f 0 _ rfl
    have f1 := f 1 _ rfl
    clear c f
    go_wp2
    refine named_post fun V hV => ?_
    have hVR : Blk V (w.heap.size + 1) [.int .i64 (x.failAt 4 x.u).e, .int .i64 (x.failAt 4 x.u).a] := by
      rw [hV]; exact (hR2.set 0 _).set 1 _
    have hVB : Below w.heap.size w V := by rw [hV]; exact (hB2.setCell (p := ⟨w.heap.size + 1, 0, none⟩) (by simp) _).setCell (p := ⟨w.heap.size + 1, 1, none⟩) (by simp) _
    clear hV c0 c1 f0 f1 d0 d1 d2 d3 d4 g0 g1 g2 g3 g4
    have c0 := hVR.cell 0 _ rfl
    have c1 := hVR.cell 1 _ rfl
    refine bodyPost_ret (by simp [results, Tryd.results53, go_sem, c0, c1]; try rfl) rfl ?_
    exact ⟨by rw [hu.out], hVB⟩
  · rw [if_neg hneg] at hu
    replace hu := Lib.hid hu
    go_enter Tryd.func53, Tryd.ntmps53
    go_wp2_with fail
    refine named fun W hW => ?_
    have hB : Below w.heap.size w W := by rw [hW]; go_grown
    have hR : Blk W (w.heap.size + 1) [.int .i64 0, .int .i64 0] := by
      rw [hW]; exact Blk.is (us := [.int .i64 0, .int .i64 0]) _ (by simp)
    clear hW
    refine (hopen _).mono ?_
    rintro e w1 ⟨rfl, hb1⟩
    have hB1 := bstep hB hb1
    have hR1 := hR.later hb1
    clear hB hR hb1
    obtain ⟨_, c, f⟩ := id hR1
    have c0 := c 0 _ rfl
    have c1 := c 1 _ rfl
    have f0 := f 0 _ rfl
    have f1 := f 1 _ rfl
    clear c f
    go_wp2
    refine named_post fun V hV => ?_
    have hVR : Blk V (w.heap.size + 1) [.int .i64 x.e, .int .i64 x.a] := by
      rw [hV]; exact ((hR1.set 0 _).set 1 _).alloc _
    have hVB : Below w.heap.size w V := by rw [hV]; exact ((hB1.setCell (p := ⟨w.heap.size + 1, 0, none⟩) (by simp) _).setCell (p := ⟨w.heap.size + 1, 1, none⟩) (by simp) _).alloc (by simpa [World.setCell] using hB1.size) _
    clear hV c0 c1 f0 f1
    have c0 := hVR.cell 0 _ rfl
    have c1 := hVR.cell 1 _ rfl
    refine bodyPost_ret (by simp [results, Tryd.results53, go_sem, c0, c1]; try rfl) rfl ?_
    exact ⟨by rw [hu.out], hVB⟩
theorem wireRead_any (s : ByteArray) (w : World) :
    Calls Tryd.prog 34 #[.string s] w fun e w' => e = .returned (readR s).val ∧ Below w.heap.size w w' := by
  go_enter Tryd.func34, Tryd.ntmps34
  go_wp2
  go_returns
  exact ⟨rfl, by go_grown⟩
end Go.Proofs.YtcmdndgaggbhoaaDoor
