/- Walks: the program's cursor over tokens: what comes next, faults. -/
import Derived.Test.YtdjaijhlhhnmeaaGreatDoorProg
import Derived.Test.YtdjaijhlhhnmeaaGreatDoorParMem
import Derived.Test.YtdjaijhlhhnmeaaGreatDoorTokTwo
import Derived.Test.YtdjaijhlhhnmeaaGreatDoorTokNum
import Derived.Test.YtdjaijhlhhnmeaaGreatDoorAstOne
import Derived.Deep.QuietTactic
import Derived.Deep.RegionHeld3
namespace Go.Proofs.YtdjaijhlhhnmeaaGreatDoor
open Go.RowKit
open A8 Tk7 P9

theorem SG.le {W W' : World} (h : SG W) (hl : Le W W') : SG W' := ⟨Nat.lt_of_lt_of_le h.1 hl.size, fun i c hc => hl.cell _ _ (h.2 i c hc)⟩
theorem ER.le {W W' : World} (h : ER W) (hl : Le W W') : ER W' := by
  obtain ⟨h1, ev, h2, h3⟩ := h
  exact ⟨Nat.lt_of_lt_of_le h1 hl.size, ev, hl.cell _ _ h2, h3⟩
/-- The block b holds a reader that stands before the tokens l. -/
structure At9 (w : World) (b : Nat) (g : G9) (l : List T) : Prop where
  ok : Ok9 g
  n : ∃ n : Nat, n ≤ g.ts.length ∧ l = g.ts.drop n ∧ Blk w b [g.v, .int .i64 (n : Int), .int .i64 (g.e : Int)]
  ts : Sl (hide (fun k => k == b) w) 3 g.ts.length g.v (g.ts.flatMap tkC)
  sg : SG (hide (fun k => k == b) w)
  er : ER (hide (fun k => k == b) w)
theorem but_out {w w' : World} {b : Nat} (h : w.grownBy w' (some b)) : Le (hide (fun k => k == b) w) w' :=
  hide_out h.size fun k hk hp => h.block k hk (fun e => by injection e with e; simp at hp; omega)
theorem At9.sg' {w : World} {b : Nat} {g : G9} {l : List T} (h : At9 w b g l) {w' : World} (hg : w.grownBy w' (some b)) : SG w' := h.sg.le (but_out hg)
theorem At9.er' {w : World} {b : Nat} {g : G9} {l : List T} (h : At9 w b g l) {w' : World} (hg : w.grownBy w' (some b)) : ER w' := h.er.le (but_out hg)
theorem At9.lt {w : World} {b : Nat} {g : G9} {l : List T} (h : At9 w b g l) : b < w.heap.size := by obtain ⟨n, _, _, hb⟩ := h.n; exact hb.lt
/-- .. in a later world in which the reader stands elsewhere. -/
theorem At9.to {w w' : World} {b : Nat} {g : G9} {l l' : List T} (h : At9 w b g l) (hg : w.grownBy w' (some b)) (hn : ∃ n : Nat, n ≤ g.ts.length ∧ l' = g.ts.drop n ∧ Blk w' b [g.v, .int .i64 (n : Int), .int .i64 (g.e : Int)]) : At9 w' b g l' :=
  ⟨h.ok, hn, sl_le h.ts (but_le hg), h.sg.le (but_le hg), h.er.le (but_le hg)⟩
theorem At9.later {w w' : World} {b : Nat} {g : G9} {l : List T} (h : At9 w b g l) (hb : Below w.heap.size w w') : At9 w' b g l := by
  obtain ⟨n, h1, h2, h3⟩ := h.n
  exact h.to (grown_of b hb) ⟨n, h1, h2, h3.later hb⟩
/-- What the cells of a reader are. -/
theorem At9.parts {w : World} {b : Nat} {g : G9} {l : List T} (h : At9 w b g l) : ∃ (A : Option Addr) (cap n : Nat), g.v = .slice A g.ts.length cap ∧ n ≤ g.ts.length ∧ l = g.ts.drop n ∧ Blk w b [.slice A g.ts.length cap, .int .i64 (n : Int), .int .i64 (g.e : Int)] ∧ g.ts.length ≤ 9223372036854775807 ∧
    (l = [] → n = g.ts.length) ∧ ∀ t r, l = t :: r → n < g.ts.length ∧ r = g.ts.drop (n + 1) ∧ t ∈ g.ts ∧ ∃ a, A = some a ∧ a.block < w.heap.size ∧ El w (a.add (n * 3)) (tkC t) := by
  obtain ⟨n, h1, h2, h3⟩ := h.n
  obtain ⟨A, cap, hv, hm, hc⟩ := sl_els (f := tkC) (by decide) tkC_len (sl_le h.ts (but_out (grown_refl w b)))
  refine ⟨A, cap, n, hv, h1, h2, by rw [hv] at h3; exact h3, hm, fun hl => ?_, fun t r hl => ?_⟩
  · rw [h2] at hl
    have := List.drop_eq_nil_iff.1 hl
    omega
  · have hlt : n < g.ts.length := by
      rcases Nat.lt_or_ge n g.ts.length with h | h
      · exact h
      · rw [List.drop_eq_nil_of_le h] at h2
        rw [h2] at hl
        cases hl
    rw [List.drop_eq_getElem_cons hlt, hl] at h2
    obtain ⟨e1, e2⟩ := List.cons.inj h2
    obtain ⟨a, ha, hb, hE⟩ := hc n hlt
    exact ⟨hlt, e2, by rw [e1]; exact List.getElem_mem _, a, ha, hb, by rw [e1]; exact hE⟩
/-- What comes next, as a token. -/
def hereT (g : G9) : List T → T
  | [] => (0, [], g.e)
  | t :: _ => t
set_option maxRecDepth 100000 in
theorem here_end (A : Option Addr) (ln cap n e b : Nat) (hn : n = ln) (w : World) (h : Blk w b [.slice A ln cap, .int .i64 (n : Int), .int .i64 (e : Int)]) :
    Calls Tryz.prog 128 #[.pointer (some ⟨b, 0, none⟩)] w fun e' w' => e' = .returned (.agg #[.int .i64 0, .string ⟨#[]⟩, .int .i64 (e : Int)]) ∧ Below w.heap.size w w' := by
  subst hn
  obtain ⟨W, hW⟩ : ∃ W, W = w.alloc (.cells #[.int .i64 0, .string ⟨#[]⟩, .int .i64 0] 130) := ⟨_, rfl⟩
  have hWb : Below w.heap.size w W := by rw [hW]; exact b1 _ _
  have hB := h.later hWb
  have c0 := hB.cell 0 _ rfl
  have c1 := hB.cell 1 _ rfl
  have c2 := hB.cell 2 _ rfl
  have hR : Blk W w.heap.size [.int .i64 0, .string ⟨#[]⟩, .int .i64 0] := by rw [hW]; exact Blk.is _ rfl
  have k0 := hR.cell 0 _ rfl
  have k1 := hR.cell 1 _ rfl
  have k2 := hR.cell 2 _ rfl
  have f0 := hR.fr 0 _ rfl
  have f1 := hR.fr 1 _ rfl
  have f2 := hR.fr 2 _ rfl
  go_enter Tryz.func128, Tryz.ntmps128
  go_wp2
  rw [← hW]
  clear hW
  go_quiet (fail)
  go_wp2
  refine named_post fun V hV => ?_
  obtain ⟨hVb, hVo⟩ := res_out (us := [.int .i64 0, .string ⟨#[]⟩, .int .i64 (e : Int)]) (hR.drewN _) rfl hV
  clear hV c0 c1 c2 k0 k1 k2 f0 f1 f2
  have c0 := hVb.cell 0 _ rfl
  have c1 := hVb.cell 1 _ rfl
  have c2 := hVb.cell 2 _ rfl
  exact bodyPost_ret (v := .agg #[.int .i64 0, .string ⟨#[]⟩, .int .i64 (e : Int)]) (by simp [results, Tryz.results128, go_sem, c0, c1, c2]; try rfl) rfl ⟨rfl, (below_drewN hWb _).trans hVo.below⟩
set_option maxRecDepth 100000 in
theorem here_some (a : Addr) (ln cap n e b : Nat) (hn : n < ln) (kd : Int) (tx : ByteArray) (at_ : Int) (w : World) (h : Blk w b [.slice (some a) ln cap, .int .i64 (n : Int), .int .i64 (e : Int)]) (hE : El w (a.add (n * 3)) [.int .i64 kd, .string tx, .int .i64 at_]) :
    Calls Tryz.prog 128 #[.pointer (some ⟨b, 0, none⟩)] w fun e' w' => e' = .returned (.agg #[.int .i64 kd, .string tx, .int .i64 at_]) ∧ Below w.heap.size w w' := by
  obtain ⟨W, hW⟩ : ∃ W, W = w.alloc (.cells #[.int .i64 0, .string ⟨#[]⟩, .int .i64 0] 130) := ⟨_, rfl⟩
  have hWb : Below w.heap.size w W := by rw [hW]; exact b1 _ _
  have hB := h.later hWb
  have hE2 := hE.later hWb
  have c0 := hB.cell 0 _ rfl
  have c1 := hB.cell 1 _ rfl
  have e0 := hE2.at0 _ rfl
  have e1 := hE2.at1 1 _ (by decide) rfl
  have e2 := hE2.at1 2 _ (by decide) rfl
  have hR : Blk W w.heap.size [.int .i64 0, .string ⟨#[]⟩, .int .i64 0] := by rw [hW]; exact Blk.is _ rfl
  have k0 := hR.cell 0 _ rfl
  have k1 := hR.cell 1 _ rfl
  have k2 := hR.cell 2 _ rfl
  have f0 := hR.fr 0 _ rfl
  have f1 := hR.fr 1 _ rfl
  have f2 := hR.fr 2 _ rfl
  have g0 : ((n : Int) == (ln : Int)) = false := by rw [beq_eq_false_iff_ne]; omega
  have g1 : (0 : Int) ≤ (n : Int) := by omega
  have g2 : (n : Int) < (ln : Int) := by omega
  have g3 : ¬ (n : Int) = (ln : Int) := by omega
  go_enter Tryz.func128, Tryz.ntmps128
  go_wp2
  rw [← hW]
  clear hW
  go_quiet (fail)
  go_wp2
  go_region
  go_wp2
  refine named_post fun V hV => ?_
  obtain ⟨hVb, hVo⟩ := res_out (us := [.int .i64 kd, .string tx, .int .i64 at_]) (hR.drewN _) rfl hV
  clear hV c0 c1 e0 e1 e2 k0 k1 k2 f0 f1 f2
  have c0 := hVb.cell 0 _ rfl
  have c1 := hVb.cell 1 _ rfl
  have c2 := hVb.cell 2 _ rfl
  exact bodyPost_ret (v := .agg #[.int .i64 kd, .string tx, .int .i64 at_]) (by simp [results, Tryz.results128, go_sem, c0, c1, c2]; try rfl) rfl ⟨rfl, (below_drewN hWb _).trans hVo.below⟩
theorem here_any {w : World} {b : Nat} {g : G9} {l : List T} (h : At9 w b g l) :
    Calls Tryz.prog 128 #[.pointer (some ⟨b, 0, none⟩)] w fun e' w' => e' = .returned (.agg #[.int .i64 ((hereT g l).1 : Int), .string (strOf (hereT g l).2.1), .int .i64 ((hereT g l).2.2 : Int)]) ∧ Below w.heap.size w w' := by
  obtain ⟨A, cap, n, hv, hn, hl, hB, hm, h0, h1⟩ := h.parts
  cases l with
  | nil => exact here_end A g.ts.length cap n g.e b (h0 rfl) w hB
  | cons t r =>
    obtain ⟨i1, i2, i3, a, rfl, i4, i5⟩ := h1 t r rfl
    exact here_some a g.ts.length cap n g.e b i1 _ _ _ w hB i5
/-- The panic with a fault. -/
def stopV (y : F) : PanicEntry := { v := .iface 105 (.agg #[.int .i64 y.1, .int .i64 (y.2 : Int)]), recovered := false }
theorem stopAt_any (er : Int) (a : Nat) (w : World) :
    Calls Tryz.prog 127 #[.int .i64 er, .int .i64 (a : Int)] w fun e w' => e = .panicked [stopV (er, a)] ∧ w' = w := by
  go_enter Tryz.func127, Tryz.ntmps127
  go_wp2
  exact ⟨rfl, rfl, rfl⟩
set_option maxRecDepth 100000 in
theorem refuse_end (A : Option Addr) (ln cap n e b : Nat) (hn : n = ln) (w : World) (h : Blk w b [.slice A ln cap, .int .i64 (n : Int), .int .i64 (e : Int)])
    (hH : ∀ w', w' = w → Calls Tryz.prog 128 #[.pointer (some ⟨b, 0, none⟩)] w' fun e' w'' => e' = .returned (.agg #[.int .i64 0, .string ⟨#[]⟩, .int .i64 (e : Int)]) ∧ Below w'.heap.size w' w'') :
    Calls Tryz.prog 124 #[.pointer (some ⟨b, 0, none⟩)] w fun e' w' => e' = .panicked [stopV (5, e)] ∧ Below w.heap.size w w' := by
  subst hn
  have hX := fun w => stopAt_any 5 e w
  go_enter Tryz.func124, Tryz.ntmps124
  go_wp2_with (go_at_call 128; refine (hH _ rfl).mono ?_; rintro e' w1 ⟨rfl, hb1⟩)
  have hB := h.later hb1
  refine named_wp fun W2 hW2 => ?_
  have hb2 : Below w1.heap.size w1 W2 := by rw [hW2]; exact b1 _ _
  have hB2 := hB.later hb2
  have hT : Blk W2 w1.heap.size [.int .i64 0, .string ⟨#[]⟩, .int .i64 (e : Int)] := by rw [hW2]; exact Blk.is _ rfl
  have hB12 := bstep hb1 hb2
  clear hW2 hB h hH
  have c0 := hB2.cell 0 _ rfl
  have c1 := hB2.cell 1 _ rfl
  have d0 := hT.cell 0 _ rfl
  have d1 := hT.cell 1 _ rfl
  have d2 := hT.cell 2 _ rfl
  go_quiet (fail)
  go_wp2_with (go_at_call 127; refine (hX _).mono ?_; rintro e' w4 ⟨rfl, rfl⟩)
  exact ⟨rfl, rfl, below_drewN hB12 _⟩
set_option maxRecDepth 100000 in
theorem refuse_kind (A : Option Addr) (ln cap n e b : Nat) (hn : n < ln) (kd : Int) (tx : ByteArray) (a : Nat) (w : World) (h : Blk w b [.slice A ln cap, .int .i64 (n : Int), .int .i64 (e : Int)])
    (hH : ∀ w', w' = w → Calls Tryz.prog 128 #[.pointer (some ⟨b, 0, none⟩)] w' fun e' w'' => e' = .returned (.agg #[.int .i64 kd, .string tx, .int .i64 (a : Int)]) ∧ Below w'.heap.size w' w'') (hk : ¬ kd = 1) :
    Calls Tryz.prog 124 #[.pointer (some ⟨b, 0, none⟩)] w fun e' w' => e' = .panicked [stopV (3, a)] ∧ Below w.heap.size w w' := by
  have g0 : ((n : Int) == (ln : Int)) = false := by rw [beq_eq_false_iff_ne]; omega
  have g3 : ¬ (n : Int) = (ln : Int) := by omega
  have g1 : (kd == 1) = false := by rw [beq_eq_false_iff_ne]; exact hk
  have hX := fun w => stopAt_any 3 a w
  go_enter Tryz.func124, Tryz.ntmps124
  go_wp2_with (go_at_call 128; refine (hH _ rfl).mono ?_; rintro e' w1 ⟨rfl, hb1⟩)
  have hB := h.later hb1
  refine named_wp fun W2 hW2 => ?_
  have hb2 : Below w1.heap.size w1 W2 := by rw [hW2]; exact b1 _ _
  have hB2 := hB.later hb2
  have hT : Blk W2 w1.heap.size [.int .i64 kd, .string tx, .int .i64 (a : Int)] := by rw [hW2]; exact Blk.is _ rfl
  have hB12 := bstep hb1 hb2
  clear hW2 hB h hH
  have c0 := hB2.cell 0 _ rfl
  have c1 := hB2.cell 1 _ rfl
  have d0 := hT.cell 0 _ rfl
  have d1 := hT.cell 1 _ rfl
  have d2 := hT.cell 2 _ rfl
  go_quiet (fail)
  go_wp2_with (go_at_call 127; refine (hX _).mono ?_; rintro e' w4 ⟨rfl, rfl⟩)
  exact ⟨rfl, rfl, below_drewN hB12 _⟩
set_option maxRecDepth 100000 in
theorem refuse_name (A : Option Addr) (ln cap n e b : Nat) (hn : n < ln) (tx : ByteArray) (a : Nat) (w : World) (h : Blk w b [.slice A ln cap, .int .i64 (n : Int), .int .i64 (e : Int)])
    (hH : ∀ w', w' = w → Calls Tryz.prog 128 #[.pointer (some ⟨b, 0, none⟩)] w' fun e' w'' => e' = .returned (.agg #[.int .i64 1, .string tx, .int .i64 (a : Int)]) ∧ Below w'.heap.size w' w'')
    (hN : ∀ w', Below w.heap.size w w' → Calls Tryz.prog 119 #[.string tx] w' fun e' w'' => e' = .returned (.bool true) ∧ Below w'.heap.size w' w'') :
    Calls Tryz.prog 124 #[.pointer (some ⟨b, 0, none⟩)] w fun e' w' => e' = .panicked [stopV (3, a)] ∧ Below w.heap.size w w' := by
  have g0 : ((n : Int) == (ln : Int)) = false := by rw [beq_eq_false_iff_ne]; omega
  have g3 : ¬ (n : Int) = (ln : Int) := by omega
  have hX := fun w => stopAt_any 3 a w
  go_enter Tryz.func124, Tryz.ntmps124
  go_wp2_with (go_at_call 128; refine (hH _ rfl).mono ?_; rintro e' w1 ⟨rfl, hb1⟩)
  have hB := h.later hb1
  refine named_wp fun W2 hW2 => ?_
  have hb2 : Below w1.heap.size w1 W2 := by rw [hW2]; exact b1 _ _
  have hB2 := hB.later hb2
  have hT : Blk W2 w1.heap.size [.int .i64 1, .string tx, .int .i64 (a : Int)] := by rw [hW2]; exact Blk.is _ rfl
  have hB12 := bstep hb1 hb2
  clear hW2 hB h hH
  have c0 := hB2.cell 0 _ rfl
  have c1 := hB2.cell 1 _ rfl
  have d0 := hT.cell 0 _ rfl
  have d1 := hT.cell 1 _ rfl
  have d2 := hT.cell 2 _ rfl
  go_quiet (fail)
  go_wp2_with (first | (go_at_call 119; refine (hN _ (below_drewN hB12 _)).mono ?_; rintro e' w3 ⟨rfl, hb3⟩; have hT3 := (hT.drewN _).later hb3; have k0 := hT3.cell 0 _ rfl; have k1 := hT3.cell 1 _ rfl; have k2 := hT3.cell 2 _ rfl) | (go_at_call 127; refine (hX _).mono ?_; rintro e' w4 ⟨rfl, rfl⟩))
  exact ⟨rfl, rfl, bstep (below_drewN hB12 _) hb3⟩
set_option maxRecDepth 100000 in
theorem refuse_word (A : Option Addr) (ln cap n e b : Nat) (hn : n < ln) (tx : ByteArray) (a : Nat) (w : World) (h : Blk w b [.slice A ln cap, .int .i64 (n : Int), .int .i64 (e : Int)])
    (hH : ∀ w', w' = w → Calls Tryz.prog 128 #[.pointer (some ⟨b, 0, none⟩)] w' fun e' w'' => e' = .returned (.agg #[.int .i64 1, .string tx, .int .i64 (a : Int)]) ∧ Below w'.heap.size w' w'')
    (hN : ∀ w', Below w.heap.size w w' → Calls Tryz.prog 119 #[.string tx] w' fun e' w'' => e' = .returned (.bool false) ∧ Below w'.heap.size w' w'')
    (hW : ∀ w', Calls Tryz.prog 166 #[.string tx] w' fun e' w'' => e' = .returned (.bool true) ∧ w' = w'') :
    Calls Tryz.prog 124 #[.pointer (some ⟨b, 0, none⟩)] w fun e' w' => e' = .panicked [stopV (3, a)] ∧ Below w.heap.size w w' := by
  have g0 : ((n : Int) == (ln : Int)) = false := by rw [beq_eq_false_iff_ne]; omega
  have g3 : ¬ (n : Int) = (ln : Int) := by omega
  have hX := fun w => stopAt_any 3 a w
  go_enter Tryz.func124, Tryz.ntmps124
  go_wp2_with (go_at_call 128; refine (hH _ rfl).mono ?_; rintro e' w1 ⟨rfl, hb1⟩)
  have hB := h.later hb1
  refine named_wp fun W2 hW2 => ?_
  have hb2 : Below w1.heap.size w1 W2 := by rw [hW2]; exact b1 _ _
  have hB2 := hB.later hb2
  have hT : Blk W2 w1.heap.size [.int .i64 1, .string tx, .int .i64 (a : Int)] := by rw [hW2]; exact Blk.is _ rfl
  have hB12 := bstep hb1 hb2
  clear hW2 hB h hH
  have c0 := hB2.cell 0 _ rfl
  have c1 := hB2.cell 1 _ rfl
  have d0 := hT.cell 0 _ rfl
  have d1 := hT.cell 1 _ rfl
  have d2 := hT.cell 2 _ rfl
  go_quiet (fail)
  go_wp2_with (first | (go_at_call 119; refine (hN _ (below_drewN hB12 _)).mono ?_; rintro e' w3 ⟨rfl, hb3⟩; have hT3 := (hT.drewN _).later hb3; have k0 := hT3.cell 0 _ rfl; have k1 := hT3.cell 1 _ rfl; have k2 := hT3.cell 2 _ rfl) | (go_at_call 166; refine (hW _).mono ?_; rintro e' w5 ⟨rfl, rfl⟩) | (go_at_call 127; refine (hX _).mono ?_; rintro e' w4 ⟨rfl, rfl⟩))
  exact ⟨rfl, rfl, bstep (below_drewN hB12 _) hb3⟩
set_option maxRecDepth 100000 in
theorem refuse_none (A : Option Addr) (ln cap n e b : Nat) (hn : n < ln) (tx : ByteArray) (a : Nat) (w : World) (h : Blk w b [.slice A ln cap, .int .i64 (n : Int), .int .i64 (e : Int)])
    (hH : ∀ w', w' = w → Calls Tryz.prog 128 #[.pointer (some ⟨b, 0, none⟩)] w' fun e' w'' => e' = .returned (.agg #[.int .i64 1, .string tx, .int .i64 (a : Int)]) ∧ Below w'.heap.size w' w'')
    (hN : ∀ w', Below w.heap.size w w' → Calls Tryz.prog 119 #[.string tx] w' fun e' w'' => e' = .returned (.bool false) ∧ Below w'.heap.size w' w'')
    (hW : ∀ w', Calls Tryz.prog 166 #[.string tx] w' fun e' w'' => e' = .returned (.bool false) ∧ w' = w'') :
    Calls Tryz.prog 124 #[.pointer (some ⟨b, 0, none⟩)] w fun e' w' => e' = .panicked [stopV (12, a)] ∧ Below w.heap.size w w' := by
  have g0 : ((n : Int) == (ln : Int)) = false := by rw [beq_eq_false_iff_ne]; omega
  have g3 : ¬ (n : Int) = (ln : Int) := by omega
  have hX := fun w => stopAt_any 12 a w
  go_enter Tryz.func124, Tryz.ntmps124
  go_wp2_with (go_at_call 128; refine (hH _ rfl).mono ?_; rintro e' w1 ⟨rfl, hb1⟩)
  have hB := h.later hb1
  refine named_wp fun W2 hW2 => ?_
  have hb2 : Below w1.heap.size w1 W2 := by rw [hW2]; exact b1 _ _
  have hB2 := hB.later hb2
  have hT : Blk W2 w1.heap.size [.int .i64 1, .string tx, .int .i64 (a : Int)] := by rw [hW2]; exact Blk.is _ rfl
  have hB12 := bstep hb1 hb2
  clear hW2 hB h hH
  have c0 := hB2.cell 0 _ rfl
  have c1 := hB2.cell 1 _ rfl
  have d0 := hT.cell 0 _ rfl
  have d1 := hT.cell 1 _ rfl
  have d2 := hT.cell 2 _ rfl
  go_quiet (fail)
  go_wp2_with (first | (go_at_call 119; refine (hN _ (below_drewN hB12 _)).mono ?_; rintro e' w3 ⟨rfl, hb3⟩; have hT3 := (hT.drewN _).later hb3; have k0 := hT3.cell 0 _ rfl; have k1 := hT3.cell 1 _ rfl; have k2 := hT3.cell 2 _ rfl) | (go_at_call 166; refine (hW _).mono ?_; rintro e' w5 ⟨rfl, rfl⟩) | (go_at_call 127; refine (hX _).mono ?_; rintro e' w4 ⟨rfl, rfl⟩))
  exact ⟨rfl, rfl, bstep (below_drewN hB12 _) hb3⟩
theorem refuse_any {w : World} {b : Nat} {g : G9} {l : List T} (h : At9 w b g l) :
    Calls Tryz.prog 124 #[.pointer (some ⟨b, 0, none⟩)] w fun e' w' => e' = .panicked [stopV (wrongP g.e l)] ∧ Below w.heap.size w w' := by
  have hH := here_any h
  obtain ⟨A, cap, n, hv, hn, hl, hB, hm, h0, h1⟩ := h.parts
  cases l with
  | nil => exact refuse_end A g.ts.length cap n g.e b (h0 rfl) w hB (fun w' hw => by subst hw; exact hH)
  | cons t r =>
    obtain ⟨i1, i2, i3, a, rfl, i4, i5⟩ := h1 t r rfl
    obtain ⟨kd, tx, at_⟩ := t
    have hH2 : ∀ w', w' = w → Calls Tryz.prog 128 #[.pointer (some ⟨b, 0, none⟩)] w' fun e' w'' => e' = .returned (.agg #[.int .i64 (kd : Int), .string (strOf tx), .int .i64 (at_ : Int)]) ∧ Below w'.heap.size w' w'' := fun w' hw => by subst hw; exact hH
    have hN := fun w' (hb : Below w.heap.size w w') => name_any tx w' (h.sg' (grown_of b hb))
    have hW := fun w' => word_any (strOf tx) w'
    rw [wordB_is] at hW
    show Calls _ _ _ _ fun e' w' => e' = .panicked [stopV (if kd = 1 ∧ nameB tx = false ∧ wordsA.contains tx = false then (12, at_) else (3, at_))] ∧ _
    by_cases hk : kd = 1
    · subst hk
      cases hn1 : nameB tx with
      | true =>
        rw [hn1] at hN
        rw [if_neg (by simp)]
        exact refuse_name _ g.ts.length cap n g.e b i1 _ at_ w hB hH2 hN
      | false =>
        rw [hn1] at hN
        cases hw1 : wordsA.contains tx with
        | true =>
          rw [hw1] at hW
          rw [if_neg (by simp)]
          exact refuse_word _ g.ts.length cap n g.e b i1 _ at_ w hB hH2 hN hW
        | false =>
          rw [hw1] at hW
          rw [if_pos (by simp)]
          exact refuse_none _ g.ts.length cap n g.e b i1 _ at_ w hB hH2 hN hW
    · rw [if_neg (fun h => hk h.1)]
      exact refuse_kind _ g.ts.length cap n g.e b i1 _ _ at_ w hB hH2 (by omega)
end Go.Proofs.YtdjaijhlhhnmeaaGreatDoor
