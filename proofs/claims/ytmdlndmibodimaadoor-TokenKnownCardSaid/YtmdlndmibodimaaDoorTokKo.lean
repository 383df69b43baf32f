/- Walk: the chapter's examples. -/
import Derived.Test.YtmdlndmibodimaaDoorTokKn
import Derived.Test.YtmdlndmibodimaaDoorTokI
namespace Go.Proofs.YtmdlndmibodimaaDoor
open Go.RowKit
open Tk7

def kA : List T := [(2, [65], 0), (2, [66], 1), (4, [60, 61], 2), (3, [45, 53], 4), (1, [120], 6)]
def kC : List Value := [.int .i64 2, .string ⟨#[65]⟩, .int .i64 0, .int .i64 2, .string ⟨#[66]⟩, .int .i64 1, .int .i64 4, .string ⟨#[60, 61]⟩, .int .i64 2, .int .i64 3, .string ⟨#[45, 53]⟩, .int .i64 4, .int .i64 1, .string ⟨#[120]⟩, .int .i64 6]
theorem kA_lit (w : World) (b : Nat) (h : Blk w b kC) : KSl w (.slice (some ⟨b, 0, none⟩) 5 5) (kA.map tkOf) := Sl.lit h 3 5 rfl (by decide)
def kB : List T := [(4, [60], 0), (4, [61], 2)]
theorem toks_1 (w : World) (hG : SG w) : Calls Tryd.prog 9 #[.string ⟨#[65, 66, 60, 61, 45, 53, 120]⟩] w fun e w' => ∃ A c, e = .returned (.tuple #[.slice A 5 c, .agg #[.int .i64 0, .int .i64 0]]) ∧ Below w.heap.size w w' ∧ KSl w' (.slice A 5 c) (kA.map tkOf) :=
  (tokens_ok R1 w hG).mono fun _ _ ⟨A, c, he, hb, ho⟩ => ⟨A, c, he, hb, own_ts (ts := kA) ho⟩
theorem toks_2 (w : World) (hG : SG w) : Calls Tryd.prog 9 #[.string ⟨#[]⟩] w fun e w' => ∃ A c, e = .returned (.tuple #[.slice A 0 c, .agg #[.int .i64 0, .int .i64 0]]) ∧ Below w.heap.size w w' :=
  (tokens_ok R2 w hG).mono fun _ _ ⟨A, c, he, hb, _⟩ => ⟨A, c, he, hb⟩
theorem toks_3 (w : World) (hG : SG w) : Calls Tryd.prog 9 #[.string ⟨#[60, 32, 61]⟩] w fun e w' => ∃ a c, e = .returned (.tuple #[.slice (some a) 2 c, .agg #[.int .i64 0, .int .i64 0]]) ∧ Below w.heap.size w w' ∧ KSl w' (.slice (some a) 2 c) (kB.map tkOf) ∧ w.heap.size ≤ a.block ∧ a.block < w'.heap.size :=
  (tokens_ok R3 w hG).mono fun _ _ ⟨A, c, he, hb, ho⟩ => by
    have hk := own_ts (ts := kB) ho
    obtain ⟨A', c', h1, _, _, _, h5⟩ := hk.at_
    obtain ⟨a, h6, h7, _⟩ := h5 0 (by decide)
    have h8 := (Value.slice.inj h1).1
    subst h8
    subst h6
    exact ⟨a, c, he, hb, hk, (ho.lt a.block rfl).1, h7⟩
theorem KSl.other {w : World} {v : Value} {xs : List TK} (h : KSl w v xs) {p : Addr} (hv : ∀ a n c, v = .slice (some a) n c → p.block ≠ a.block) (u : Value) : KSl (w.setCell p u) v xs := by
  obtain ⟨h1, h2, A, cap, h3, h4, h5, h6⟩ := h
  refine ⟨h1, h2, A, cap, h3, h4, h5, fun i u' hu => ?_⟩
  obtain ⟨a, ha, hlt, hc⟩ := h6 i u' hu
  subst ha
  have hne := hv a _ _ h3
  refine ⟨a, rfl, by simpa [World.setCell] using hlt, (World.cell?_of_block (w := w) (a := a.add i) (Below.heap_setCell _ _ _ _ (by rw [add_block]; exact fun e => hne e.symm))).trans hc⟩
/-- What lies in memory: three faults, two tokens. -/
structure KS (w0 w : World) (X1 X2 X3 : Nat) (a : Addr) (c : Nat) (p1 q1 p2 q2 p3 q3 : Value) : Prop where
  E1 : Blk w X1 [p1, q1]
  E2 : Blk w X2 [p2, q2]
  E3 : Blk w X3 [p3, q3]
  k : KSl w (.slice (some a) 2 c) (kB.map tkOf)
  b : Below w0.heap.size w0 w
  o1 : w0.heap.size ≤ X1
  o2 : X1 < X2
  o3 : X2 < a.block
  o4 : a.block < X3
theorem KS.later {w0 w w' : World} {X1 X2 X3 : Nat} {a : Addr} {c : Nat} {p1 q1 p2 q2 p3 q3 : Value} (h : KS w0 w X1 X2 X3 a c p1 q1 p2 q2 p3 q3) (hb : Below w.heap.size w w') : KS w0 w' X1 X2 X3 a c p1 q1 p2 q2 p3 q3 :=
  ⟨h.E1.later hb, h.E2.later hb, h.E3.later hb, h.k.later hb, bstep h.b hb, h.o1, h.o2, h.o3, h.o4⟩
theorem KS.set1 {w0 w : World} {X1 X2 X3 : Nat} {a : Addr} {c : Nat} {p1 q1 p2 q2 p3 q3 : Value} (h : KS w0 w X1 X2 X3 a c p1 q1 p2 q2 p3 q3) (y z : Value) : KS w0 ((w.setCell ⟨X1, 0, none⟩ y).setCell ⟨X1, 1, none⟩ z) X1 X2 X3 a c y z p2 q2 p3 q3 := by
  have o1 := h.o1
  have o2 := h.o2
  have o3 := h.o3
  have o4 := h.o4
  refine ⟨(h.E1.set 0 y).set 1 z, (h.E2.other (p := ⟨X1, 0, none⟩) (by simp only; omega) y).other (p := ⟨X1, 1, none⟩) (by simp only; omega) z, (h.E3.other (p := ⟨X1, 0, none⟩) (by simp only; omega) y).other (p := ⟨X1, 1, none⟩) (by simp only; omega) z, (h.k.other (p := ⟨X1, 0, none⟩) (fun a' _ _ e => by cases e; simp only; omega) y).other (p := ⟨X1, 1, none⟩) (fun a' _ _ e => by cases e; simp only; omega) z, (h.b.setCell (p := ⟨X1, 0, none⟩) (by simp only; omega) y).setCell (p := ⟨X1, 1, none⟩) (by simp only; omega) z, o1, o2, o3, o4⟩
theorem KS.set2 {w0 w : World} {X1 X2 X3 : Nat} {a : Addr} {c : Nat} {p1 q1 p2 q2 p3 q3 : Value} (h : KS w0 w X1 X2 X3 a c p1 q1 p2 q2 p3 q3) (y z : Value) : KS w0 ((w.setCell ⟨X2, 0, none⟩ y).setCell ⟨X2, 1, none⟩ z) X1 X2 X3 a c p1 q1 y z p3 q3 := by
  have o1 := h.o1
  have o2 := h.o2
  have o3 := h.o3
  have o4 := h.o4
  refine ⟨(h.E1.other (p := ⟨X2, 0, none⟩) (by simp only; omega) y).other (p := ⟨X2, 1, none⟩) (by simp only; omega) z, (h.E2.set 0 y).set 1 z, (h.E3.other (p := ⟨X2, 0, none⟩) (by simp only; omega) y).other (p := ⟨X2, 1, none⟩) (by simp only; omega) z, (h.k.other (p := ⟨X2, 0, none⟩) (fun a' _ _ e => by cases e; simp only; omega) y).other (p := ⟨X2, 1, none⟩) (fun a' _ _ e => by cases e; simp only; omega) z, (h.b.setCell (p := ⟨X2, 0, none⟩) (by simp only; omega) y).setCell (p := ⟨X2, 1, none⟩) (by simp only; omega) z, o1, o2, o3, o4⟩
theorem KS.set3 {w0 w : World} {X1 X2 X3 : Nat} {a : Addr} {c : Nat} {p1 q1 p2 q2 p3 q3 : Value} (h : KS w0 w X1 X2 X3 a c p1 q1 p2 q2 p3 q3) (y z : Value) : KS w0 ((w.setCell ⟨X3, 0, none⟩ y).setCell ⟨X3, 1, none⟩ z) X1 X2 X3 a c p1 q1 p2 q2 y z := by
  have o1 := h.o1
  have o2 := h.o2
  have o3 := h.o3
  have o4 := h.o4
  refine ⟨(h.E1.other (p := ⟨X3, 0, none⟩) (by simp only; omega) y).other (p := ⟨X3, 1, none⟩) (by simp only; omega) z, (h.E2.other (p := ⟨X3, 0, none⟩) (by simp only; omega) y).other (p := ⟨X3, 1, none⟩) (by simp only; omega) z, (h.E3.set 0 y).set 1 z, (h.k.other (p := ⟨X3, 0, none⟩) (fun a' _ _ e => by cases e; simp only; omega) y).other (p := ⟨X3, 1, none⟩) (fun a' _ _ e => by cases e; simp only; omega) z, (h.b.setCell (p := ⟨X3, 0, none⟩) (by simp only; omega) y).setCell (p := ⟨X3, 1, none⟩) (by simp only; omega) z, o1, o2, o3, o4⟩
theorem nx_of {l : List UInt8} {a : Int} {x : NX} (h : nextX l a = x) (hl : l.length ≤ maxLen) (w : World) (hG : SG w) : Calls Tryd.prog 12 #[.string (strOf l), .int .i64 a] w fun e w' => e = .returned x.val ∧ Below w.heap.size w w' := by
  have := next_any (strOf l) a (by rw [strOf_size]; exact hl) w hG
  unfold NextP at this
  rw [strOf_dat, h] at this
  exact this
theorem nx_1 (w : World) (hG : SG w) : Calls Tryd.prog 12 #[.string ⟨#[65, 32, 66]⟩, .int .i64 1] w fun e w' => e = .returned (.tuple #[.agg #[.int .i64 2, .string ⟨#[66]⟩, .int .i64 2], .int .i64 3, .agg #[.int .i64 0, .int .i64 0]]) ∧ Below w.heap.size w w' := nx_of X1 (by decide) w hG
theorem nx_2 (w : World) (hG : SG w) : Calls Tryd.prog 12 #[.string ⟨#[65]⟩, .int .i64 1] w fun e w' => e = .returned (.tuple #[.agg #[.int .i64 0, .string ⟨#[]⟩, .int .i64 0], .int .i64 0, .agg #[.int .i64 5, .int .i64 1]]) ∧ Below w.heap.size w w' := nx_of X2 (by decide) w hG
theorem nx_3 (w : World) (hG : SG w) : Calls Tryd.prog 12 #[.string ⟨#[65]⟩, .int .i64 2] w fun e w' => e = .returned (.tuple #[.agg #[.int .i64 0, .string ⟨#[]⟩, .int .i64 0], .int .i64 0, .agg #[.int .i64 2, .int .i64 0]]) ∧ Below w.heap.size w w' := nx_of X3 (by decide) w hG
theorem num_0 (w : World) (hG : SG w) (hR : ER w) : Calls Tryd.prog 13 #[.agg #[.int .i64 1, .string ⟨#[97]⟩, .int .i64 0], .int .i64 0, .int .i64 9] w fun e w' => e = .returned (.tuple #[.int .i64 0, .int .i64 11]) ∧ Below w.heap.size w w' := by
  have := number_any 1 [97] 0 0 9 (by decide) w hG hR
  rw [N0] at this
  exact this
theorem txt_2 (A : Option Addr) (c : Nat) (w : World) (hG : SG w) (hK : KSl w (.slice A 2 c) (kB.map tkOf)) : Calls Tryd.prog 14 #[.slice A 2 c] w fun e w' => e = .returned (.tuple #[.string ⟨#[60, 32, 61]⟩, .int .i64 0]) ∧ Below w.heap.size w w' := by
  have := text_any _ _ w hG hK (by decide) (by decide) (by decide)
  rw [show kB.map tkOf = [(4, [60], 0), (4, [61], 2)] from rfl, T0, T1] at this
  exact this
theorem flt_1 (w : World) (hG : SG w) : Calls Tryd.prog 11 #[.string ⟨#[65, 32, 45]⟩, .int .i64 2] w fun e w' => e = .returned (.bool true) ∧ Below w.heap.size w w' := faulty_true [65, 32, 45] 2 F1 w hG
theorem flt_2 (w : World) (hG : SG w) : Calls Tryd.prog 11 #[.string ⟨#[65, 32, 48, 55]⟩, .int .i64 2] w fun e w' => e = .returned (.bool true) ∧ Below w.heap.size w w' := faulty_true [65, 32, 48, 55] 2 F2 w hG
theorem flt_3 (w : World) (hG : SG w) : Calls Tryd.prog 11 #[.string ⟨#[45, 48]⟩, .int .i64 0] w fun e w' => e = .returned (.bool true) ∧ Below w.heap.size w w' := faulty_true [45, 48] 0 F3 w hG
theorem flt_4 (w : World) (hG : SG w) : Calls Tryd.prog 11 #[.string ⟨#[65, 32, 33, 66]⟩, .int .i64 2] w fun e w' => e = .returned (.bool true) ∧ Below w.heap.size w w' := faulty_true [65, 32, 33, 66] 2 F4 w hG
theorem flt_5 (w : World) (hG : SG w) : Calls Tryd.prog 11 #[.string ⟨#[195, 169]⟩, .int .i64 0] w fun e w' => e = .returned (.bool true) ∧ Below w.heap.size w w' := faulty_true [195, 169] 0 F5 w hG
theorem nmb_1 (w : World) (hG : SG w) (hR : ER w) : Calls Tryd.prog 15 #[.string ⟨#[45, 53]⟩, .int .i64 (-9), .int .i64 9, .int .i64 (-5), .int .i64 0] w fun e w' => e = .returned (.bool true) ∧ Below w.heap.size w w' := number_true [45, 53] (-9) 9 (-5) 0 (by decide) N1 w hG hR
theorem nmb_2 (w : World) (hG : SG w) (hR : ER w) : Calls Tryd.prog 15 #[.string ⟨#[49, 48]⟩, .int .i64 0, .int .i64 9, .int .i64 0, .int .i64 2] w fun e w' => e = .returned (.bool true) ∧ Below w.heap.size w w' := number_true [49, 48] 0 9 0 2 (by decide) N2 w hG hR
theorem nmb_3 (w : World) (hG : SG w) (hR : ER w) : Calls Tryd.prog 15 #[.string ⟨#[57, 57, 57, 57, 57, 57, 57, 57, 57, 57, 57, 57, 57, 57, 57, 57, 57, 57, 57, 57]⟩, .int .i64 0, .int .i64 4611686018427387904, .int .i64 0, .int .i64 2] w fun e w' => e = .returned (.bool true) ∧ Below w.heap.size w w' := number_true [57, 57, 57, 57, 57, 57, 57, 57, 57, 57, 57, 57, 57, 57, 57, 57, 57, 57, 57, 57] 0 4611686018427387904 0 2 (by decide) N3 w hG hR
theorem wrd_1 (w : World) : Calls Tryd.prog 16 #[.string ⟨#[110, 111, 116]⟩] w fun e w' => e = .returned (.bool true) ∧ w = w' := by
  have := word_any (strOf [110, 111, 116]) w
  rw [V1] at this
  exact this
theorem wrd_2 (w : World) : Calls Tryd.prog 16 #[.string ⟨#[78, 111, 116]⟩] w fun e w' => e = .returned (.bool false) ∧ w = w' := by
  have := word_any (strOf [78, 111, 116]) w
  rw [V2] at this
  exact this
theorem wrd_3 (w : World) : Calls Tryd.prog 16 #[.string ⟨#[120]⟩] w fun e w' => e = .returned (.bool false) ∧ w = w' := by
  have := word_any (strOf [120]) w
  rw [V3] at this
  exact this
set_option maxRecDepth 100000 in
set_option maxHeartbeats 8000000 in
theorem known_any (w : World) (hG : SG w) (hR : ER w) : Calls Tryd.prog 3 #[] w fun e w' => e = .returned (.bool true) ∧ Below w.heap.size w w' := by
  go_enter Tryd.func3, Tryd.ntmps3
  go_upto_region 2 with (go_at_call 9; refine (toks_1 _ hG).mono ?_; rintro e w1 ⟨A1, c1, rfl, hb1, hk1⟩)
  have b1 := bstep hb1 (below1 w1 (.cells #[.int .i64 0, .int .i64 0] 25))
  have E1 : Blk (w1.alloc (.cells #[.int .i64 0, .int .i64 0] 25)) w1.heap.size [.int .i64 0, .int .i64 0] := Blk.is _ rfl
  replace hk1 := hk1.later (below1 w1 (.cells #[.int .i64 0, .int .i64 0] 25))
  obtain ⟨W1, hW1⟩ : ∃ W1, W1 = w1.alloc (.cells #[.int .i64 0, .int .i64 0] 25) := ⟨_, rfl⟩
  obtain ⟨X1, hX1⟩ : ∃ X1, X1 = w1.heap.size := ⟨_, rfl⟩
  rw [← hW1] at b1 E1 hk1 ⊢
  have y1 : w.heap.size ≤ X1 := hX1 ▸ hb1.size
  rw [← hX1] at E1 ⊢
  have z1 := E1.lt
  have hG1 := hG.later b1
  have hR1 := hR.later b1
  clear hW1 hX1 hb1
  go_upto_region 3 with (go_at_call 9; refine (toks_2 _ hG1).mono ?_; rintro e w2 ⟨A2, c2, rfl, hb2⟩)
  have b2 := bstep hb2 (below1 w2 (.cells #[.int .i64 0, .int .i64 0] 25))
  have E2 : Blk (w2.alloc (.cells #[.int .i64 0, .int .i64 0] 25)) w2.heap.size [.int .i64 0, .int .i64 0] := Blk.is _ rfl
  obtain ⟨W2, hW2⟩ : ∃ W2, W2 = w2.alloc (.cells #[.int .i64 0, .int .i64 0] 25) := ⟨_, rfl⟩
  obtain ⟨X2, hX2⟩ : ∃ X2, X2 = w2.heap.size := ⟨_, rfl⟩
  rw [← hW2] at b2 E2 ⊢
  have y2 : W1.heap.size ≤ X2 := hX2 ▸ hb2.size
  rw [← hX2] at E2 ⊢
  have z2 := E2.lt
  have hG2 := hG1.later b2
  have hR2 := hR1.later b2
  replace E1 := E1.later b2
  replace hk1 := hk1.later b2
  replace b2 := bstep b1 b2
  clear hW2 hX2 hb2
  go_upto_region 4 with (go_at_call 9; refine (toks_3 _ hG2).mono ?_; rintro e w3 ⟨A3, c3, rfl, hb3, hk3, ya, yb⟩)
  have b3 := bstep hb3 (below1 w3 (.cells #[.int .i64 0, .int .i64 0] 25))
  have E3 : Blk (w3.alloc (.cells #[.int .i64 0, .int .i64 0] 25)) w3.heap.size [.int .i64 0, .int .i64 0] := Blk.is _ rfl
  replace hk3 := hk3.later (below1 w3 (.cells #[.int .i64 0, .int .i64 0] 25))
  obtain ⟨W3, hW3⟩ : ∃ W3, W3 = w3.alloc (.cells #[.int .i64 0, .int .i64 0] 25) := ⟨_, rfl⟩
  obtain ⟨X3, hX3⟩ : ∃ X3, X3 = w3.heap.size := ⟨_, rfl⟩
  rw [← hW3] at b3 E3 hk3 ⊢
  have y3 : W2.heap.size ≤ X3 := hX3 ▸ hb3.size
  rw [← hX3] at E3 yb ⊢
  have z3 := E3.lt
  have hG3 := hG2.later b3
  have hR3 := hR2.later b3
  replace E1 := E1.later b3
  replace E2 := E2.later b3
  replace hk1 := hk1.later b3
  replace b3 := bstep b2 b3
  clear hW3 hX3 hb3
  have u1 := E1.lt
  have u2 := E2.lt
  have u3 := E3.lt
  have oo : w.heap.size ≤ X1 ∧ X1 < X2 ∧ X2 < A3.block ∧ A3.block < X3 := by omega
  clear hG1 hR1 hG2 hR2 b1 b2 y1 y2 y3 z1 z2 z3 ya yb
  have hb4 := below1 W3 (.cells kC.toArray 30)
  have hL := kA_lit (W3.alloc (.cells kC.toArray 30)) W3.heap.size (Blk.is (us := kC) _ rfl)
  have hE := equal_same _ _ _ _ (hk1.later hb4) hL
  have q0 := E1.cell 0 _ rfl
  have q1 := E1.cell 1 _ rfl
  have q2 := E2.cell 0 _ rfl
  have q3 := E2.cell 1 _ rfl
  have q4 := E3.cell 0 _ rfl
  have q5 := E3.cell 1 _ rfl
  go_upto_region 6 with (go_at_call 10; refine hE.mono ?_; rintro e w4 ⟨rfl, n4, rfl⟩)
  have hb5 := below_drewN hb4 n4
  obtain ⟨W5, hW5⟩ : ∃ W5, W5 = (W3.alloc (.cells kC.toArray 30)).drewN n4 := ⟨_, rfl⟩
  rw [← hW5] at hb5 ⊢
  have S5 : KS w W5 X1 X2 X3 A3 c3 (.int .i64 0) (.int .i64 0) (.int .i64 0) (.int .i64 0) (.int .i64 0) (.int .i64 0) := ⟨E1.later hb5, E2.later hb5, E3.later hb5, hk3.later hb5, bstep b3 hb5, oo.1, oo.2.1, oo.2.2.1, oo.2.2.2⟩
  have hG5 := hG3.later hb5
  clear hW5 hb5 hE hL hb4 hk1 hG3 hR3 b3 q0 q1 q2 q3 q4 q5 u1 u2 u3 E1 E2 E3 hk3 oo
  go_upto_region 8 with (go_at_call 11; first
    | (with_reducible refine (flt_1 _ hG5).mono ?_; rintro e v1 ⟨rfl, p1⟩; have G1 := hG5.later p1)
    | (with_reducible refine (flt_2 _ G1).mono ?_; rintro e v2 ⟨rfl, p2⟩; have G2 := G1.later p2)
    | (with_reducible refine (flt_3 _ G2).mono ?_; rintro e v3 ⟨rfl, p3⟩; have G3 := G2.later p3)
    | (with_reducible refine (flt_4 _ G3).mono ?_; rintro e v4 ⟨rfl, p4⟩; have G4 := G3.later p4)
    | (with_reducible refine (flt_5 _ G4).mono ?_; rintro e v5 ⟨rfl, p5⟩; have G5 := G4.later p5))
  have P5 := bstep (bstep (bstep (bstep p1 p2) p3) p4) p5
  have S6 := S5.later P5
  clear P5 p1 p2 p3 p4 p5 G1 G2 G3 G4 hG5 S5
  go_upto_region 9 with (go_at_call 12; with_reducible refine (nx_1 _ G5).mono ?_; rintro e v6 ⟨rfl, p6⟩; have D1 := S6.later p6; have k0 := D1.E1.fr 0 _ rfl; have k1 := D1.E1.fr 1 _ rfl; have d0 := D1.E1.cell 0 _ rfl; have d1 := D1.E1.cell 1 _ rfl; have dl := D1.E1.lt)
  have o7 := D1.E3.lt
  have S7 := D1.set1 (.int .i64 0) (.int .i64 0)
  obtain ⟨v7, hv7⟩ : ∃ v7, v7 = (v6.setCell ⟨X1, 0, none⟩ (.int .i64 0)).setCell ⟨X1, 1, none⟩ (.int .i64 0) := ⟨_, rfl⟩
  have hX7 : v6.heap.size = v7.heap.size := by rw [hv7]; simp [World.setCell]
  rw [← hv7] at S7 ⊢
  obtain ⟨X7, hx⟩ : ∃ X7, X7 = v6.heap.size := ⟨_, rfl⟩
  have T7 : Blk (v7.alloc (.cells #[.int .i64 2, .string ⟨#[66]⟩, .int .i64 2] 30)) X7 [.int .i64 2, .string ⟨#[66]⟩, .int .i64 2] := Blk.is _ (by rw [hx, hX7])
  have S8 := S7.later (below1 v7 (.cells #[.int .i64 2, .string ⟨#[66]⟩, .int .i64 2] 30))
  obtain ⟨V8, hV8⟩ : ∃ V8, V8 = v7.alloc (.cells #[.int .i64 2, .string ⟨#[66]⟩, .int .i64 2] 30) := ⟨_, rfl⟩
  rw [← hx] at o7 ⊢
  rw [← hV8] at S8 T7 ⊢
  have G8 := hG.later S8.b
  clear hv7 hX7 hx hV8 S6 S7 D1 k0 k1 d0 d1 dl p6 G5
  go_upto_region 10 with (go_at_call 12; with_reducible refine (nx_2 _ G8).mono ?_; rintro e v9 ⟨rfl, p9⟩; have D9 := S8.later p9; have k0 := D9.E2.fr 0 _ rfl; have k1 := D9.E2.fr 1 _ rfl; have d0 := D9.E2.cell 0 _ rfl; have d1 := D9.E2.cell 1 _ rfl; have dl := D9.E2.lt)
  have S9 := D9.set2 (.int .i64 5) (.int .i64 1)
  have q1 := S8.o2
  have q2 := S8.o3
  have q3 := S8.o4
  have T9 := ((T7.later p9).other (p := ⟨X2, 0, none⟩) (by simp only; omega) (.int .i64 5)).other (p := ⟨X2, 1, none⟩) (by simp only; omega) (.int .i64 1)
  obtain ⟨V9, hV9⟩ : ∃ V9, V9 = (v9.setCell ⟨X2, 0, none⟩ (.int .i64 5)).setCell ⟨X2, 1, none⟩ (.int .i64 1) := ⟨_, rfl⟩
  rw [← hV9] at S9 T9 ⊢
  have G9 := hG.later S9.b
  clear hV9 S8 D9 k0 k1 d0 d1 dl p9 G8 T7
  go_upto_region 11 with (go_at_call 12; with_reducible refine (nx_3 _ G9).mono ?_; rintro e v10 ⟨rfl, p10⟩; have D10 := S9.later p10; have k0 := D10.E3.fr 0 _ rfl; have k1 := D10.E3.fr 1 _ rfl; have d0 := D10.E3.cell 0 _ rfl; have d1 := D10.E3.cell 1 _ rfl; have dl := D10.E3.lt)
  have SA := D10.set3 (.int .i64 2) (.int .i64 0)
  have TA := ((T9.later p10).other (p := ⟨X3, 0, none⟩) (by simp only; omega) (.int .i64 2)).other (p := ⟨X3, 1, none⟩) (by simp only; omega) (.int .i64 0)
  obtain ⟨VA, hVA⟩ : ∃ VA, VA = (v10.setCell ⟨X3, 0, none⟩ (.int .i64 2)).setCell ⟨X3, 1, none⟩ (.int .i64 0) := ⟨_, rfl⟩
  rw [← hVA] at SA TA ⊢
  have GA := hG.later SA.b
  have RA := hR.later SA.b
  clear hVA S9 D10 k0 k1 d0 d1 dl p10 G9 T9
  have t0 := TA.cell 0 _ rfl
  have t1 := TA.cell 1 _ rfl
  have t2 := TA.cell 2 _ rfl
  have tl := TA.lt
  have e0 := SA.E1.cell 0 _ rfl
  have e1 := SA.E1.cell 1 _ rfl
  have e2 := SA.E2.cell 0 _ rfl
  have e3 := SA.E2.cell 1 _ rfl
  have e4 := SA.E3.cell 0 _ rfl
  have e5 := SA.E3.cell 1 _ rfl
  have el1 := SA.E1.lt
  have el2 := SA.E2.lt
  have el3 := SA.E3.lt
  go_upto_region 14 with (go_at_call 13; with_reducible refine (num_0 _ GA RA).mono ?_; rintro e vb ⟨rfl, pb⟩)
  have SB := SA.later pb
  have GB := GA.later pb
  have RB := RA.later pb
  clear t0 t1 t2 tl e0 e1 e2 e3 e4 e5 el1 el2 el3 TA SA GA RA pb
  go_upto_region 15 with (go_at_call 14; with_reducible refine (txt_2 _ _ _ GB SB.k).mono ?_; rintro e vc ⟨rfl, pc⟩)
  have SC := (SB.later pc).b
  have GC := GB.later pc
  have RC := RB.later pc
  clear SB GB RB pc
  go_wp2_with (first
    | (go_at_call 15; first
      | (with_reducible refine (nmb_1 _ GC RC).mono ?_; rintro e n1 ⟨rfl, r1⟩; have M1 := GC.later r1; have L1 := RC.later r1)
      | (with_reducible refine (nmb_2 _ M1 L1).mono ?_; rintro e n2 ⟨rfl, r2⟩; have M2 := M1.later r2; have L2 := L1.later r2)
      | (with_reducible refine (nmb_3 _ M2 L2).mono ?_; rintro e n3 ⟨rfl, r3⟩; have M3 := M2.later r3))
    | (go_at_call 16; first
      | (with_reducible refine (wrd_1 _).mono ?_; rintro e x1 ⟨rfl, rfl⟩)
      | (with_reducible refine (wrd_2 _).mono ?_; rintro e x2 ⟨rfl, rfl⟩)
      | (with_reducible refine (wrd_3 _).mono ?_; rintro e x3 ⟨rfl, rfl⟩))
    | (go_at_call 17; with_reducible refine (awake_any _ M3).mono ?_; rintro e n4 ⟨rfl, r4⟩))
  go_ret
  exact ⟨rfl, bstep SC (bstep (bstep (bstep r1 r2) r3) r4)⟩
end Go.Proofs.YtmdlndmibodimaaDoor
