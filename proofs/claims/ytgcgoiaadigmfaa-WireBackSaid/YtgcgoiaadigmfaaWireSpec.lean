/- What package wire computes, as Lean functions on data; the memory of a reader or writer. Nothing here speaks of the program. -/
import Derived.Test.YtgcgoiaadigmfaaWords
namespace Go.Proofs.Ytgcgoiaadigmfaa
open Go.RowKit
namespace Wr

/-- A reader, or a writer: api.WireReader as data. -/
structure Rd where
  s : ByteArray
  at_ : Int
  err : Int
  fat : Int
def Rd.val (r : Rd) : Value := .agg #[.string r.s, .int .i64 r.at_, .int .i64 r.err, .int .i64 r.fat]

/-- The five numbers of a reader's or a writer's block: used, most, error, its place, string. -/
structure Sp where
  u : Int
  m : Int
  e : Int
  a : Int
  s : ByteArray
def Sp.val (x : Sp) : Value := .agg #[.int .i64 x.u, .int .i64 x.m, .int .i64 x.e, .int .i64 x.a, .string x.s]

def within (n most : Int) : Bool := decide (0 ≤ n) && decide (n ≤ most)
def isErr (e : Int) : Bool := decide (0 < e) && decide (e ≤ 23)
def Sp.sound (x : Sp) : Bool := within x.u x.m && (if x.e = 0 then decide (x.a = 0) else isErr x.e && within x.a x.m)
def Sp.failAt (x : Sp) (err a : Int) : Sp := if x.e = 0 then { x with e := err, a := a } else x
def Sp.claim (x : Sp) (n err : Int) : Sp × Bool := if x.e ≠ 0 then (x, false) else if x.m - x.u < n then (x.failAt err x.u, false) else ({ x with u := x.u + n }, true)
def Sp.given (x : Sp) : Rd := ⟨x.s, x.u, x.e, x.a⟩
def Sp.bad : Sp := ⟨0, 0, 10, 0, ⟨#[]⟩⟩
def Rd.sp (r : Rd) : Sp := ⟨r.at_, r.s.size, r.err, r.fat, r.s⟩
def Rd.opened (r : Rd) : Sp := if r.sp.sound then r.sp else Sp.bad

/-- A reader's or writer's numbers are in order: what is sound, and as long as its string says. -/
structure Sp.Ok (x : Sp) : Prop where
  u0 : 0 ≤ x.u
  um : x.u ≤ x.m
theorem Sp.ok_of_sound {x : Sp} (h : x.sound = true) : x.Ok := by
  unfold Sp.sound within at h
  simp at h
  exact ⟨h.1.1, h.1.2⟩
theorem Sp.Ok.failAt {x : Sp} (h : x.Ok) (e a : Int) : (x.failAt e a).Ok := by
  unfold Sp.failAt; split
  · exact ⟨h.u0, h.um⟩
  · exact h
theorem Sp.Ok.claim {x : Sp} (h : x.Ok) {n : Int} (h0 : 0 ≤ n) (e : Int) : (x.claim n e).1.Ok := by
  unfold Sp.claim
  split
  · exact h
  · split
    · exact h.failAt _ _
    · exact ⟨by have := h.u0; show 0 ≤ x.u + n; omega, by show x.u + n ≤ x.m; omega⟩
/-- n bytes are taken. -/
def Sp.take (x : Sp) (n : Int) : Sp × ByteArray := ((x.claim n 5).1, if (x.claim n 5).2 then x.s.extract x.u.toNat (x.u + n).toNat else ⟨#[]⟩)

theorem take_size {x : Sp} (h : x.Ok) {n : Int} (h0 : 0 ≤ n) : ((x.take n).2.size : Int) ≤ n := by
  unfold Sp.take
  have := h.u0
  split
  · show ((x.s.extract x.u.toNat (x.u + n).toNat).size : Int) ≤ n
    rw [ByteArray.size_extract]; omega
  · exact h0
theorem take_m (x : Sp) (n : Int) : (x.take n).1.m = x.m := by
  unfold Sp.take Sp.claim Sp.failAt
  split
  · rfl
  · split
    · split <;> rfl
    · rfl
theorem take_s (x : Sp) (n : Int) : (x.take n).1.s = x.s := by
  unfold Sp.take Sp.claim Sp.failAt
  split
  · rfl
  · split
    · split <;> rfl
    · rfl
theorem Sp.Ok.take {x : Sp} (h : x.Ok) {n : Int} (h0 : 0 ≤ n) : (x.take n).1.Ok := h.claim h0 5
def isSz (n : Int) : Bool := decide (n = 1 ∨ n = 2 ∨ n = 4 ∨ n = 8)
theorem isSz_iff {n : Int} : isSz n = true ↔ n = 1 ∨ n = 2 ∨ n = 4 ∨ n = 8 := by simp [isSz]
def Sp.refuse (x : Sp) (e from_ : Int) : Sp := ({ x with u := from_ } : Sp).failAt e from_

/-- A writer: api.WireWriter as data. -/
structure Wt where
  s : ByteArray
  most : Int
  err : Int
def Wt.val (w : Wt) : Value := .agg #[.string w.s, .int .i64 w.most, .int .i64 w.err]
def Wt.sp (w : Wt) : Sp := ⟨w.s.size, w.most, w.err, 0, w.s⟩
def Wt.opened (w : Wt) : Sp := if w.most ≤ 20000 ∧ w.sp.sound = true then w.sp else Sp.bad
def Sp.wgiven (x : Sp) : Wt := ⟨x.s, x.m, x.e⟩

/-- The block b holds this. -/
structure At (w : World) (b : Nat) (x : Sp) : Prop where
  lt : b < w.heap.size
  c0 : w.cell? ⟨b, 0, none⟩ = some (.int .i64 x.u)
  c1 : w.cell? ⟨b, 1, none⟩ = some (.int .i64 x.m)
  c2 : w.cell? ⟨b, 2, none⟩ = some (.int .i64 x.e)
  c3 : w.cell? ⟨b, 3, none⟩ = some (.int .i64 x.a)
  c4 : w.cell? ⟨b, 4, none⟩ = some (.string x.s)
  f0 : w.frozen? ⟨b, 0, none⟩ = false
  f1 : w.frozen? ⟨b, 1, none⟩ = false
  f2 : w.frozen? ⟨b, 2, none⟩ = false
  f3 : w.frozen? ⟨b, 3, none⟩ = false
  f4 : w.frozen? ⟨b, 4, none⟩ = false

theorem At.below {w w' : World} {b : Nat} {x : Sp} (h : At w b x) (hb : Below (b + 1) w w') : At w' b x := by
  have hc : ∀ o, w'.cell? ⟨b, o, none⟩ = w.cell? ⟨b, o, none⟩ := fun o => hb.cell (p := ⟨b, o, none⟩) (Nat.lt_succ_self b)
  have hf : ∀ o, w'.frozen? ⟨b, o, none⟩ = w.frozen? ⟨b, o, none⟩ := fun o => hb.frozen (p := ⟨b, o, none⟩) (Nat.lt_succ_self b)
  obtain ⟨hlt, c0, c1, c2, c3, c4, f0, f1, f2, f3, f4⟩ := h
  exact ⟨Nat.lt_of_lt_of_le hlt hb.size, (hc 0).trans c0, (hc 1).trans c1, (hc 2).trans c2, (hc 3).trans c3, (hc 4).trans c4, (hf 0).trans f0, (hf 1).trans f1, (hf 2).trans f2, (hf 3).trans f3, (hf 4).trans f4⟩
theorem At.later {w w' : World} {b : Nat} {x : Sp} (h : At w b x) (hb : Below w.heap.size w w') : At w' b x := h.below (hb.mono h.lt)
theorem At.alloc {w : World} {b : Nat} {x : Sp} (h : At w b x) (o : Obj) : At (w.alloc o) b x := h.later ((Below.refl _ _).alloc (Nat.le_refl _) o)
theorem At.drew {w : World} {b : Nat} {x : Sp} (h : At w b x) : At w.drew b x := h.later (Below.refl _ _).drew
theorem At.drewN {w : World} {b : Nat} {x : Sp} (h : At w b x) (n : Nat) : At (w.drewN n) b x := by
  have hb : Below w.heap.size w (w.drewN n) := ⟨rfl, rfl, rfl, Nat.le_refl _, fun _ _ => rfl⟩
  exact h.later hb
theorem At.new (w : World) (x : Sp) (t : TypeId) : At (w.alloc (.cells #[.int .i64 x.u, .int .i64 x.m, .int .i64 x.e, .int .i64 x.a, .string x.s] t)) w.heap.size x :=
  ⟨by simp, by go_simp, by go_simp, by go_simp, by go_simp, by go_simp, by go_simp, by go_simp, by go_simp, by go_simp, by go_simp⟩

theorem set_same {w : World} {p : Addr} {v u : Value} (h : w.cell? p = some v) : (w.setCell p u).cell? p = some u := World.cell?_setCell_same' _ _ _ (by rw [h]; rfl)
theorem set_other {w : World} {b i j : Nat} (u : Value) (h : i ≠ j) : (w.setCell ⟨b, i, none⟩ u).cell? ⟨b, j, none⟩ = w.cell? ⟨b, j, none⟩ := World.cell?_setCell_other _ _ _ _ (fun e => h (by cases e; rfl))
theorem At.set0 {w : World} {b : Nat} {x : Sp} (h : At w b x) (n : Int) : At (w.setCell ⟨b, 0, none⟩ (.int .i64 n)) b { x with u := n } := by
  obtain ⟨hlt, c0, c1, c2, c3, c4, f0, f1, f2, f3, f4⟩ := h
  exact ⟨by simpa [World.setCell] using hlt, set_same c0, (set_other _ (by decide)).trans c1, (set_other _ (by decide)).trans c2, (set_other _ (by decide)).trans c3, (set_other _ (by decide)).trans c4, by simpa using f0, by simpa using f1, by simpa using f2, by simpa using f3, by simpa using f4⟩
theorem At.set1 {w : World} {b : Nat} {x : Sp} (h : At w b x) (n : Int) : At (w.setCell ⟨b, 1, none⟩ (.int .i64 n)) b { x with m := n } := by
  obtain ⟨hlt, c0, c1, c2, c3, c4, f0, f1, f2, f3, f4⟩ := h
  exact ⟨by simpa [World.setCell] using hlt, (set_other _ (by decide)).trans c0, set_same c1, (set_other _ (by decide)).trans c2, (set_other _ (by decide)).trans c3, (set_other _ (by decide)).trans c4, by simpa using f0, by simpa using f1, by simpa using f2, by simpa using f3, by simpa using f4⟩
theorem At.set2 {w : World} {b : Nat} {x : Sp} (h : At w b x) (n : Int) : At (w.setCell ⟨b, 2, none⟩ (.int .i64 n)) b { x with e := n } := by
  obtain ⟨hlt, c0, c1, c2, c3, c4, f0, f1, f2, f3, f4⟩ := h
  exact ⟨by simpa [World.setCell] using hlt, (set_other _ (by decide)).trans c0, (set_other _ (by decide)).trans c1, set_same c2, (set_other _ (by decide)).trans c3, (set_other _ (by decide)).trans c4, by simpa using f0, by simpa using f1, by simpa using f2, by simpa using f3, by simpa using f4⟩
theorem At.set3 {w : World} {b : Nat} {x : Sp} (h : At w b x) (n : Int) : At (w.setCell ⟨b, 3, none⟩ (.int .i64 n)) b { x with a := n } := by
  obtain ⟨hlt, c0, c1, c2, c3, c4, f0, f1, f2, f3, f4⟩ := h
  exact ⟨by simpa [World.setCell] using hlt, (set_other _ (by decide)).trans c0, (set_other _ (by decide)).trans c1, (set_other _ (by decide)).trans c2, set_same c3, (set_other _ (by decide)).trans c4, by simpa using f0, by simpa using f1, by simpa using f2, by simpa using f3, by simpa using f4⟩
theorem At.set4 {w : World} {b : Nat} {x : Sp} (h : At w b x) (n : ByteArray) : At (w.setCell ⟨b, 4, none⟩ (.string n)) b { x with s := n } := by
  obtain ⟨hlt, c0, c1, c2, c3, c4, f0, f1, f2, f3, f4⟩ := h
  exact ⟨by simpa [World.setCell] using hlt, (set_other _ (by decide)).trans c0, (set_other _ (by decide)).trans c1, (set_other _ (by decide)).trans c2, (set_other _ (by decide)).trans c3, set_same c4, by simpa using f0, by simpa using f1, by simpa using f2, by simpa using f3, by simpa using f4⟩
end Wr
end Go.Proofs.Ytgcgoiaadigmfaa
