/- Walks: the program's cursor over tokens: what is read of it. -/
import Derived.Test.YtdjaijhlhhnmeaaGreatDoorParA
import Derived.Test.YtdjaijhlhhnmeaaGreatDoorPMt
namespace Go.Proofs.YtdjaijhlhhnmeaaGreatDoor
open Go.RowKit
open A8 Tk7 P9

/-- What a part gives: a fault's panic, or a value that lies in new blocks alone, and the reader behind it. -/
def Out9 (w : World) (b : Nat) (g : G9) {α : Type} (x : R α) (V : World → α → Value → Prop) (e : Ending) (w' : World) : Prop :=
  w.grownBy w' (some b) ∧ match x with
  | .ok (a, r) => ∃ v, e = .returned v ∧ V (hide (fun k => decide (k < w.heap.size)) w') a v ∧ At9 w' b g r
  | .error y => e = .panicked [stopV y]
theorem out_err {w w' : World} {b : Nat} {g : G9} {α : Type} {V : World → α → Value → Prop} {y : F} (h : w.grownBy w' (some b)) : Out9 w b g (.error y : R α) V (.panicked [stopV y]) w' := ⟨h, rfl⟩
theorem out_ok {w w' : World} {b : Nat} {g : G9} {α : Type} {V : World → α → Value → Prop} {a : α} {r : List T} {v : Value} (h : w.grownBy w' (some b)) (hv : V (hide (fun k => decide (k < w.heap.size)) w') a v) (ha : At9 w' b g r) : Out9 w b g (.ok (a, r) : R α) V (.returned v) w' := ⟨h, v, rfl, hv, ha⟩
theorem out_e {w w' : World} {b : Nat} {g : G9} {α : Type} {V : World → α → Value → Prop} {y : F} {e : Ending} (h : Out9 w b g (.error y : R α) V e w') : w.grownBy w' (some b) ∧ e = .panicked [stopV y] := h
theorem out_o {w w' : World} {b : Nat} {g : G9} {α : Type} {V : World → α → Value → Prop} {a : α} {r : List T} {e : Ending} (h : Out9 w b g (.ok (a, r) : R α) V e w') : w.grownBy w' (some b) ∧ ∃ v, e = .returned v ∧ V (hide (fun k => decide (k < w.heap.size)) w') a v ∧ At9 w' b g r := h

theorem only_grown9 {b : Nat} {w w' : World} (h : Only b w w') : w.grownBy w' (some b) := ⟨h.os, h.tape, h.output, Nat.le_of_eq h.size.symm, fun k _ hk => h.block k (fun e => hk (by rw [e]))⟩
theorem tk_field0 (k : Int) (s : ByteArray) (a : Int) (w : World) : (Instr.field 130 (.agg #[.int .i64 k, .string s, .int .i64 a]) 0).run Tryz.prog w = .ok (.int .i64 k) w := by kernel_rfl
theorem tk_field1 (k : Int) (s : ByteArray) (a : Int) (w : World) : (Instr.field 130 (.agg #[.int .i64 k, .string s, .int .i64 a]) 1).run Tryz.prog w = .ok (.string s) w := by kernel_rfl
theorem tk_field2 (k : Int) (s : ByteArray) (a : Int) (w : World) : (Instr.field 130 (.agg #[.int .i64 k, .string s, .int .i64 a]) 2).run Tryz.prog w = .ok (.int .i64 a) w := by kernel_rfl
theorem cur_step {w V : World} {b : Nat} {v : Value} {n : Nat} {e : Value} (h : Blk w b [v, .int .i64 (n : Int), e]) (hV : V = w.setCell ⟨b, 1, none⟩ (.int .i64 ((n : Int) + 1))) : Only b w V ∧ Blk V b [v, .int .i64 ((n + 1 : Nat) : Int), e] := by
  subst hV
  exact ⟨(Only.refl b w).setCell 1 _, h.set 1 _⟩
theorem wrap_next {n ln : Nat} (hn : n < ln) (hl : ln ≤ 100000) : wrap64 ((n : Int) + 1) = (n : Int) + 1 ∧ IntKind.i64.wrap ((n : Int) + 1) = (n : Int) + 1 := by
  refine ⟨by unfold wrap64; omega, by rw [IntKind.wrap_i64]; omega⟩
set_option maxRecDepth 100000 in
theorem skips_no (b : Nat) (s : ByteArray) (kd : Int) (tx : ByteArray) (at_ : Int) (hne : tx ≠ s) (w : World)
    (hH : ∀ w', w' = w → Calls Tryz.prog 128 #[.pointer (some ⟨b, 0, none⟩)] w' fun e' w'' => e' = .returned (.agg #[.int .i64 kd, .string tx, .int .i64 at_]) ∧ Below w'.heap.size w' w'') :
    Calls Tryz.prog 68 #[.pointer (some ⟨b, 0, none⟩), .string s] w fun e' w' => e' = .returned (.bool false) ∧ Below w.heap.size w w' := by
  have g1 := str_ne hne
  have hF := tk_field1 kd tx at_
  go_enter Tryz.func68, Tryz.ntmps68
  go_wp2_with (go_at_call 128; refine (hH _ rfl).mono ?_; rintro e' w1 ⟨rfl, hb1⟩)
  go_ret
  exact ⟨rfl, hb1⟩
set_option maxRecDepth 100000 in
theorem skips_yes (A : Option Addr) (ln cap n e b : Nat) (hn : n < ln) (hl : ln ≤ 100000) (s : ByteArray) (kd : Int) (at_ : Int) (w : World) (h : Blk w b [.slice A ln cap, .int .i64 (n : Int), .int .i64 (e : Int)])
    (hH : ∀ w', w' = w → Calls Tryz.prog 128 #[.pointer (some ⟨b, 0, none⟩)] w' fun e' w'' => e' = .returned (.agg #[.int .i64 kd, .string s, .int .i64 at_]) ∧ Below w'.heap.size w' w'') :
    Calls Tryz.prog 68 #[.pointer (some ⟨b, 0, none⟩), .string s] w fun e' w' => e' = .returned (.bool true) ∧ w.grownBy w' (some b) ∧ Blk w' b [.slice A ln cap, .int .i64 ((n + 1 : Nat) : Int), .int .i64 (e : Int)] := by
  have hF := tk_field1 kd s at_
  obtain ⟨g4, g5⟩ := wrap_next hn hl
  go_enter Tryz.func68, Tryz.ntmps68
  go_wp2_with (go_at_call 128; refine (hH _ rfl).mono ?_; rintro e' w1 ⟨rfl, hb1⟩; have hB := h.later hb1; have c1 := hB.cell 1 _ rfl; have f1 := hB.fr 1 _ rfl)
  refine named_post fun V hV => ?_
  obtain ⟨hO, hBV⟩ := cur_step hB hV
  clear hV c1 f1
  go_ret
  exact ⟨rfl, grown_trans (grown_of b hb1) (only_grown9 hO), hBV⟩
theorem at9_next {w w' : World} {b : Nat} {g : G9} {t : T} {r : List T} {A : Option Addr} {cap n : Nat} (h : At9 w b g (t :: r)) (hv : g.v = .slice A g.ts.length cap) (hn : n < g.ts.length) (hr : r = g.ts.drop (n + 1)) (hg : w.grownBy w' (some b)) (hB : Blk w' b [.slice A g.ts.length cap, .int .i64 ((n + 1 : Nat) : Int), .int .i64 (g.e : Int)]) : At9 w' b g r :=
  h.to hg ⟨n + 1, hn, hr, by rw [hv]; exact hB⟩
theorem skips_any {w : World} {b : Nat} {g : G9} {l : List T} (x : List UInt8) (hx : x ≠ []) (h : At9 w b g l) :
    Calls Tryz.prog 68 #[.pointer (some ⟨b, 0, none⟩), .string (strOf x)] w fun e' w' => e' = .returned (.bool (seesP x l)) ∧ w.grownBy w' (some b) ∧ At9 w' b g (if seesP x l = true then l.tail else l) := by
  have hH := here_any h
  obtain ⟨A, cap, n, hv, hn, hl, hB, hm, h0, h1⟩ := h.parts
  cases l with
  | nil =>
    refine (skips_no b (strOf x) 0 ⟨#[]⟩ (g.e : Int) (fun e => hx ?_) w (fun w' hw => by subst hw; exact hH)).mono fun e' w' ho => ⟨ho.1, grown_of b ho.2, h.later ho.2⟩
    have := congrArg ByteArray.size e
    rw [strOf_size] at this
    exact List.eq_nil_of_length_eq_zero this.symm
  | cons t r =>
    obtain ⟨i1, i2, i3, a, rfl, i4, i5⟩ := h1 t r rfl
    obtain ⟨kd, tx, at_⟩ := t
    have hln := h.ok.n
    by_cases he : tx = x
    · subst he
      have hs : seesP tx ((kd, tx, at_) :: r) = true := by simp [seesP]
      rw [hs]
      refine (skips_yes _ g.ts.length cap n g.e b i1 (by omega) (strOf tx) kd at_ w hB (fun w' hw => by subst hw; exact hH)).mono fun e' w' ho => ⟨ho.1, ho.2.1, ?_⟩
      rw [if_pos rfl]
      exact at9_next h hv i1 i2 ho.2.1 ho.2.2
    · have hs : seesP x ((kd, tx, at_) :: r) = false := by simp [seesP, he]
      rw [hs]
      refine (skips_no b (strOf x) kd (strOf tx) at_ (fun e => he (strOf_inj e)) w (fun w' hw => by subst hw; exact hH)).mono fun e' w' ho => ⟨ho.1, grown_of b ho.2, ?_⟩
      rw [if_neg (by decide)]
      exact h.later ho.2
/-- .. behind stores into a block of the call's own. -/
theorem at9_end {w w3 V : World} {b R : Nat} {g : G9} {l r : List T} (h : At9 w b g l) (ha : At9 w3 b g r) (hg : w.grownBy V (some b)) (ho : Only R w3 V) (hne : R ≠ b) : At9 V b g r := by
  obtain ⟨n, h1, h2, h3⟩ := ha.n
  have hh := ho.block b (fun e => hne e.symm)
  refine h.to hg ⟨n, h1, h2, by rw [ho.size]; exact h3.lt, fun i v hv => ?_, fun i v hv => ?_⟩
  · exact (World.cell?_of_block (w := w3) (a := ⟨b, i, none⟩) hh).trans (h3.cell i v hv)
  · exact (World.frozen?_of_block (w := w3) (a := ⟨b, i, none⟩) hh).trans (h3.fr i v hv)
/-- What gives no value. -/
def IsU (_ : World) (_ : Unit) (v : Value) : Prop := v = .tuple #[]
set_option maxRecDepth 100000 in
theorem must_any {w : World} {b : Nat} {g : G9} {l : List T} (x : List UInt8) (hx : x ≠ []) (h : At9 w b g l) :
    Calls Tryz.prog 66 #[.pointer (some ⟨b, 0, none⟩), .string (strOf x)] w (Out9 w b g (wantP g.e x l) IsU) := by
  have hS := skips_any x hx h
  unfold wantP
  cases hs : seesP x l with
  | true =>
    rw [hs] at hS
    simp only [if_true] at hS ⊢
    clear hs
    go_enter Tryz.func66, Tryz.ntmps66
    go_wp2_with (go_at_call 68; refine hS.mono ?_; rintro e' w1 ⟨rfl, hg1, ha1⟩)
    refine bodyPost_ret (results_none rfl _ _ _) rfl ?_
    exact out_ok hg1 rfl ha1
  | false =>
    rw [hs] at hS
    simp only [Bool.false_eq_true, if_false] at hS ⊢
    clear hs
    have hR := fun w' (ha : At9 w' b g l) => refuse_any ha
    go_enter Tryz.func66, Tryz.ntmps66
    go_wp2_with (first | (go_at_call 68; refine hS.mono ?_; rintro e' w1 ⟨rfl, hg1, ha1⟩) | (go_at_call 124; refine (hR _ ha1).mono ?_; rintro e' w2 ⟨rfl, hb2⟩))
    exact ⟨rfl, out_err (grown_trans hg1 (grown_of b hb2))⟩
set_option maxRecDepth 100000 in
theorem mustEnd_any {w : World} {b : Nat} {g : G9} {l : List T} (h : At9 w b g l) :
    Calls Tryz.prog 65 #[.pointer (some ⟨b, 0, none⟩)] w fun e w' => (∃ m, Below (w.drewN m).heap.size (w.drewN m) w') ∧ (l = [] → e = .returned (.tuple #[])) ∧ (l ≠ [] → e = .panicked [stopV (wrongP g.e l)]) := by
  have hR := fun n => refuse_any (h.later (below_drewN (Below.refl _ _) n))
  obtain ⟨A, cap, n, hv, hn, hl, hB, hm, h0, h1⟩ := h.parts
  have c0 := hB.cell 0 _ rfl
  have c1 := hB.cell 1 _ rfl
  cases l with
  | nil =>
    have g1 : ¬ (n : Int) < (g.ts.length : Int) := by rw [h0 rfl]; omega
    have g2 : decide ((n : Int) < (g.ts.length : Int)) = false := by rw [decide_eq_false_iff_not]; exact g1
    clear hl h0 h1 hR hv
    go_enter Tryz.func65, Tryz.ntmps65
    go_wp2
    go_quiet (fail)
    go_wp2
    go_end0
    exact ⟨⟨_, Below.refl _ _⟩, fun _ => rfl, fun h => absurd rfl h⟩
  | cons t r =>
    have g1 : (n : Int) < (g.ts.length : Int) := by have := (h1 t r rfl).1; omega
    clear hl h0 h1 hv
    go_enter Tryz.func65, Tryz.ntmps65
    go_wp2
    go_quiet (fail)
    go_wp2_with (go_at_call 124; refine (hR _).mono ?_; rintro e' w2 ⟨rfl, hb2⟩)
    exact ⟨rfl, ⟨_, hb2⟩, (fun h => by cases h), fun _ => rfl⟩
/-- A token as a value. -/
def IsT (_ : World) (t : T) (v : Value) : Prop := v = .agg #[.int .i64 (t.1 : Int), .string (strOf t.2.1), .int .i64 (t.2.2 : Int)]
/-- Reading a token of this kind. -/
def takeP (e k : Nat) : List T → R T
  | [] => .error (5, e)
  | t :: r => if t.1 = k then .ok (t, r) else .error (wrongP e (t :: r))
set_option maxRecDepth 100000 in
theorem take_no (b : Nat) (k : Int) (kd : Int) (tx : ByteArray) (at_ : Int) (y : F) (hne : ¬ kd = k) (w : World)
    (hH : ∀ w', Below w.heap.size w w' → Calls Tryz.prog 128 #[.pointer (some ⟨b, 0, none⟩)] w' fun e' w'' => e' = .returned (.agg #[.int .i64 kd, .string tx, .int .i64 at_]) ∧ Below w'.heap.size w' w'')
    (hR : ∀ w', Below w.heap.size w w' → Calls Tryz.prog 124 #[.pointer (some ⟨b, 0, none⟩)] w' fun e' w'' => e' = .panicked [stopV y] ∧ Below w'.heap.size w' w'') :
    Calls Tryz.prog 125 #[.pointer (some ⟨b, 0, none⟩), .int .i64 k] w fun e' w' => e' = .panicked [stopV y] ∧ Below w.heap.size w w' := by
  have g1 : (kd == k) = false := by rw [beq_eq_false_iff_ne]; exact hne
  go_enter Tryz.func125, Tryz.ntmps125
  go_wp2_with (first | (go_at_call 128; refine (hH _ (b1 _ _)).mono ?_; rintro e' w1 ⟨rfl, hb1⟩) | (go_at_call 124; refine (hR _ (bstep (bstep (b1 _ _) hb1) (b1 _ _))).mono ?_; rintro e' w2 ⟨rfl, hb2⟩))
  exact ⟨rfl, rfl, bstep (bstep (bstep (b1 _ _) hb1) (b1 _ _)) hb2⟩
set_option maxRecDepth 100000 in
theorem take_yes (A : Option Addr) (ln cap n e b : Nat) (hn : n < ln) (hl : ln ≤ 100000) (k : Int) (tx : ByteArray) (at_ : Int) (w : World) (h : Blk w b [.slice A ln cap, .int .i64 (n : Int), .int .i64 (e : Int)])
    (hH : ∀ w', Below w.heap.size w w' → Calls Tryz.prog 128 #[.pointer (some ⟨b, 0, none⟩)] w' fun e' w'' => e' = .returned (.agg #[.int .i64 k, .string tx, .int .i64 at_]) ∧ Below w'.heap.size w' w'') :
    Calls Tryz.prog 125 #[.pointer (some ⟨b, 0, none⟩), .int .i64 k] w fun e' w' => e' = .returned (.agg #[.int .i64 k, .string tx, .int .i64 at_]) ∧ w.grownBy w' (some b) ∧ Blk w' b [.slice A ln cap, .int .i64 ((n + 1 : Nat) : Int), .int .i64 (e : Int)] := by
  obtain ⟨g4, g5⟩ := wrap_next hn hl
  have hR0 : Blk (w.alloc (.cells #[.int .i64 0, .string ⟨#[]⟩, .int .i64 0] 130)) w.heap.size [.int .i64 0, .string ⟨#[]⟩, .int .i64 0] := Blk.is _ rfl
  have hne : b ≠ w.heap.size := by have := h.lt; omega
  go_enter Tryz.func125, Tryz.ntmps125
  go_wp2_with (go_at_call 128; refine (hH _ (b1 _ _)).mono ?_; rintro e' w1 ⟨rfl, hb1⟩; have hB := h.later (bstep (b1 _ _) hb1); have hR1 := hR0.later hb1; have c1 := hB.cell 1 _ rfl; have f1 := hB.fr 1 _ rfl; have k0 := hR1.cell 0 _ rfl; have k1 := hR1.cell 1 _ rfl; have k2 := hR1.cell 2 _ rfl; have q0 := hR1.fr 0 _ rfl; have q1 := hR1.fr 1 _ rfl; have q2 := hR1.fr 2 _ rfl; have l0 := hB.lt; have l1 := hR1.lt)
  refine named_post fun V hV => ?_
  obtain ⟨hO1, hB1⟩ := cur_step hB rfl
  obtain ⟨hR2, hO2⟩ := res_out (us := [.int .i64 k, .string tx, .int .i64 at_]) (hR1.other (p := ⟨b, 1, none⟩) hne _) rfl rfl
  have hBV := (Blk.alloc (o := .cells #[.int .i64 k, .string tx, .int .i64 at_] 130) (((hB1.other (p := ⟨w.heap.size, 0, none⟩) hne.symm (.int .i64 k)).other (p := ⟨w.heap.size, 1, none⟩) hne.symm (.string tx)).other (p := ⟨w.heap.size, 2, none⟩) hne.symm (.int .i64 at_)))
  have hRV := hR2.alloc (.cells #[.int .i64 k, .string tx, .int .i64 at_] 130)
  have hg : w.grownBy V (some b) := by
    rw [hV]
    exact grown_trans (grown_only (grown_trans (grown_of b (bstep (b1 _ _) hb1)) (only_grown9 hO1)) (Nat.le_refl _) hO2) (grown_of b (b1 _ _))
  have hBV' : Blk V b [.slice A ln cap, .int .i64 ((n + 1 : Nat) : Int), .int .i64 (e : Int)] := by rw [hV]; exact hBV
  have hRV' : Blk V w.heap.size [.int .i64 k, .string tx, .int .i64 at_] := by rw [hV]; exact hRV
  clear hV c1 f1 k0 k1 k2 q0 q1 q2 l0 l1 hBV hRV hR2 hO2 hO1 hB1
  have c0 := hRV'.cell 0 _ rfl
  have c1 := hRV'.cell 1 _ rfl
  have c2 := hRV'.cell 2 _ rfl
  exact bodyPost_ret (v := .agg #[.int .i64 k, .string tx, .int .i64 at_]) (by simp [results, Tryz.results125, go_sem, c0, c1, c2]; try rfl) rfl ⟨rfl, hg, hBV'⟩
theorem take_any {w : World} {b : Nat} {g : G9} {l : List T} (k : Nat) (hk : k ≠ 0) (h : At9 w b g l) :
    Calls Tryz.prog 125 #[.pointer (some ⟨b, 0, none⟩), .int .i64 (k : Int)] w (Out9 w b g (takeP g.e k l) IsT) := by
  have hH := fun w' (hb : Below w.heap.size w w') => here_any (h.later hb)
  have hR := fun w' (hb : Below w.heap.size w w') => refuse_any (h.later hb)
  obtain ⟨A, cap, n, hv, hn, hl, hB, hm, h0, h1⟩ := h.parts
  cases l with
  | nil =>
    refine (take_no b (k : Int) 0 ⟨#[]⟩ (g.e : Int) (5, g.e) (by omega) w hH hR).mono fun e w' ho => ?_
    rw [ho.1]
    exact out_err (grown_of b ho.2)
  | cons t r =>
    obtain ⟨i1, i2, i3, a, rfl, i4, i5⟩ := h1 t r rfl
    obtain ⟨kd, tx, at_⟩ := t
    have hln := h.ok.n
    show Calls _ _ _ _ (Out9 w b g (if kd = k then .ok ((kd, tx, at_), r) else .error (wrongP g.e ((kd, tx, at_) :: r))) IsT)
    by_cases he : kd = k
    · subst he
      rw [if_pos rfl]
      refine (take_yes _ g.ts.length cap n g.e b i1 (by omega) (kd : Int) (strOf tx) (at_ : Int) w hB hH).mono fun e w' ho => ?_
      rw [ho.1]
      exact out_ok ho.2.1 rfl (at9_next h hv i1 i2 ho.2.1 ho.2.2)
    · rw [if_neg he]
      refine (take_no b (k : Int) (kd : Int) (strOf tx) (at_ : Int) _ (by omega) w hH hR).mono fun e w' ho => ?_
      rw [ho.1]
      exact out_err (grown_of b ho.2)
/-- A string, a number as a value. -/
def IsS (_ : World) (s : List UInt8) (v : Value) : Prop := v = .string (strOf s)
def IsN (_ : World) (n : Int) (v : Value) : Prop := v = .int .i64 n
set_option maxRecDepth 100000 in
theorem letter_any {w : World} {b : Nat} {g : G9} {l : List T} (h : At9 w b g l) :
    Calls Tryz.prog 92 #[.pointer (some ⟨b, 0, none⟩)] w (Out9 w b g (letterP g.e l) IsN) := by
  have hT := take_any 2 (by decide) h
  obtain ⟨x, hx⟩ : ∃ x, x = takeP g.e 2 l := ⟨_, rfl⟩
  rw [← hx] at hT
  cases x with
  | error y =>
    have he : letterP g.e l = .error y := by
      cases l with
      | nil => cases hx; rfl
      | cons t r =>
        simp only [takeP] at hx
        simp only [letterP]
        by_cases hk : t.1 = 2
        · rw [if_pos hk] at hx; cases hx
        · rw [if_neg hk] at hx ⊢; cases hx; rfl
    rw [he]
    go_enter Tryz.func92, Tryz.ntmps92
    go_wp2_with (go_at_call 125; refine hT.mono ?_; intro e' w1 ho; obtain ⟨hg1, rfl⟩ := out_e ho)
    exact ⟨rfl, out_err hg1⟩
  | ok ar =>
    obtain ⟨t, r⟩ := ar
    obtain ⟨c, hl, htx, hc⟩ : ∃ c : UInt8, l = t :: r ∧ t.2.1 = [c] ∧ largeB c = true := by
      cases l with
      | nil => cases hx
      | cons t' r' =>
        simp only [takeP] at hx
        by_cases hk : t'.1 = 2
        · rw [if_pos hk] at hx
          cases hx
          obtain ⟨_, _, _, _, _, _, _, _, _, h1⟩ := h.parts
          have := h.ok.tok t (h1 t r rfl).2.2.1
          rw [hk] at this
          obtain ⟨c, h3, h4⟩ := tok_letter this
          exact ⟨c, rfl, h3, h4⟩
        · rw [if_neg hk] at hx; cases hx
    subst hl
    obtain ⟨kd, tx, at_⟩ := t
    simp only at htx
    subst htx
    have hk : kd = 2 := by
      simp only [takeP] at hx
      by_cases hk : kd = 2
      · exact hk
      · rw [if_neg hk] at hx; cases hx
    subst hk
    have he : letterP g.e ((2, [c], at_) :: r) = .ok ((c.toNat : Int) - 65, r) := by simp [letterP]
    rw [he]
    have hcc : 65 ≤ c.toNat ∧ c.toNat ≤ 90 := by
      unfold largeB at hc
      simpa using hc
    have hF := tk_field1 2 (strOf [c]) (at_ : Int)
    have hz : (strOf [c]).size = 1 := strOf_size [c]
    have hc0 : ((strOf [c])[0]'(by rw [hz]; decide)).toNat = c.toNat := rfl
    obtain ⟨S, hS⟩ : ∃ S, S = strOf [c] := ⟨_, rfl⟩
    go_enter Tryz.func92, Tryz.ntmps92
    go_wp2_with (go_at_call 125; refine hT.mono ?_; intro e' w1 ho; obtain ⟨hg1, v1, rfl, rfl, ha1⟩ := out_o ho)
    go_ret
    exact out_ok hg1 rfl ha1
theorem check_tok9 {k : Nat} {l : List UInt8} (a : Nat) (h : isTok k l = true) : checkI ((k : Int), l, (a : Int)) = 0 := by
  have h1 := isTok_kind h
  unfold checkI
  rw [if_neg (by simp only; omega), if_neg (by simp only [Int.toNat_natCast]; rw [h]; decide), if_neg (by simp only; omega)]
theorem numE_tok {l : List UInt8} (a : Nat) (lo hi : Int) (h : isTok 3 l = true) : numE (3, l, (a : Int)) lo hi = if Sm.okI (Sm.valV l) = true ∧ lo ≤ Sm.valV l ∧ Sm.valV l ≤ hi then (Sm.valV l, 0) else (0, 2) := by
  have h1 := check_tok9 a h
  unfold numE
  rw [if_neg (fun h2 => h2 h1), if_neg (by simp)]
set_option maxRecDepth 100000 in
theorem number9 {w : World} {b : Nat} {g : G9} {l : List T} (lo hi : Int) (h : At9 w b g l) :
    Calls Tryz.prog 67 #[.pointer (some ⟨b, 0, none⟩), .int .i64 lo, .int .i64 hi] w (Out9 w b g (numP g.e lo hi l) IsN) := by
  have hT := take_any 3 (by decide) h
  obtain ⟨x, hx⟩ : ∃ x, x = takeP g.e 3 l := ⟨_, rfl⟩
  rw [← hx] at hT
  cases x with
  | error y =>
    have he : numP g.e lo hi l = .error y := by
      cases l with
      | nil => cases hx; rfl
      | cons t r =>
        simp only [takeP] at hx
        simp only [numP]
        by_cases hk : t.1 = 3
        · rw [if_pos hk] at hx; cases hx
        · rw [if_neg hk] at hx ⊢; cases hx; rfl
    rw [he]
    go_enter Tryz.func67, Tryz.ntmps67
    go_wp2_with (go_at_call 125; refine hT.mono ?_; intro e' w1 ho; obtain ⟨hg1, rfl⟩ := out_e ho)
    exact ⟨rfl, out_err hg1⟩
  | ok ar =>
    obtain ⟨t, r⟩ := ar
    obtain ⟨hl, hk⟩ : l = t :: r ∧ t.1 = 3 := by
      cases l with
      | nil => cases hx
      | cons t' r' =>
        simp only [takeP] at hx
        by_cases hk : t'.1 = 3
        · rw [if_pos hk] at hx
          cases hx
          exact ⟨rfl, hk⟩
        · rw [if_neg hk] at hx; cases hx
    subst hl
    obtain ⟨kd, tx, at_⟩ := t
    simp only at hk
    subst hk
    have hmem : (3, tx, at_) ∈ g.ts := by
      obtain ⟨_, _, _, _, _, _, _, _, _, h1⟩ := h.parts
      exact (h1 _ _ rfl).2.2.1
    have htk : isTok 3 tx = true := h.ok.tok _ hmem
    have hlen : tx.length < 100000 := h.ok.len _ hmem
    have hN := fun w' (hg : w.grownBy w' (some b)) => number_any 3 tx (at_ : Int) lo hi (by omega) w' (h.sg' hg) (h.er' hg)
    rw [numE_tok at_ lo hi htk] at hN
    have hX := fun w => stopAt_any 2 at_ w
    simp only [numP]
    rw [if_pos trivial]
    by_cases hv : Sm.okI (Sm.valV tx) = true ∧ lo ≤ Sm.valV tx ∧ Sm.valV tx ≤ hi
    · rw [if_pos hv] at hN ⊢
      obtain ⟨S, hS⟩ : ∃ S, S = strOf tx := ⟨_, rfl⟩
      obtain ⟨v, hvv⟩ : ∃ v, v = Sm.valV tx := ⟨_, rfl⟩
      rw [← hvv] at hN ⊢
      clear hvv hv htk hmem hx
      go_enter Tryz.func67, Tryz.ntmps67
      go_wp2_with (first | (go_at_call 125; refine hT.mono ?_; intro e' w1 ho; obtain ⟨hg1, v1, rfl, rfl, ha1⟩ := out_o ho) | (go_at_call 126; refine (hN _ (grown_trans hg1 (grown_of b (b1 _ _)))).mono ?_; rintro e' w2 ⟨rfl, hb2⟩))
      go_ret
      exact out_ok (grown_trans (grown_trans hg1 (grown_of b (b1 _ _))) (grown_of b hb2)) rfl (ha1.later (bstep (b1 _ _) hb2))
    · rw [if_neg hv] at hN ⊢
      obtain ⟨S, hS⟩ : ∃ S, S = strOf tx := ⟨_, rfl⟩
      clear hv htk hmem hx
      go_enter Tryz.func67, Tryz.ntmps67
      go_wp2_with (first | (go_at_call 125; refine hT.mono ?_; intro e' w1 ho; obtain ⟨hg1, v1, rfl, rfl, ha1⟩ := out_o ho) | (go_at_call 126; refine (hN _ (grown_trans hg1 (grown_of b (b1 _ _)))).mono ?_; rintro e' w2 ⟨rfl, hb2⟩; have hK := (Blk.is (w := w1) (us := [.int .i64 3, .string (strOf tx), .int .i64 (at_ : Int)]) 130 rfl).later hb2; have c2 := hK.cell 2 _ rfl) | (go_at_call 127; refine (hX _).mono ?_; rintro e' w3 ⟨rfl, rfl⟩))
      exact ⟨rfl, out_err (grown_trans (grown_trans hg1 (grown_of b (b1 _ _))) (grown_of b hb2))⟩
set_option maxRecDepth 100000 in
theorem name9 {w : World} {b : Nat} {g : G9} {l : List T} (h : At9 w b g l) :
    Calls Tryz.prog 96 #[.pointer (some ⟨b, 0, none⟩)] w (Out9 w b g (nameP g.e l) IsS) := by
  have hH := here_any h
  have hN := fun w' (hb : Below w.heap.size w w') => name_any (hereT g l).2.1 w' (h.sg' (grown_of b hb))
  have hR := fun w' (hb : Below w.heap.size w w') => refuse_any (h.later hb)
  have hT := fun w' (hb : Below w.heap.size w w') => take_any 1 (by decide) (h.later hb)
  have hF := tk_field1 ((hereT g l).1 : Int) (strOf (hereT g l).2.1) ((hereT g l).2.2 : Int)
  cases hn : nameB (hereT g l).2.1 with
  | false =>
    rw [hn] at hN
    have he : nameP g.e l = .error (wrongP g.e l) := by
      cases l with
      | nil => rfl
      | cons t r =>
        simp only [nameP]
        rw [if_neg (by rw [show nameB t.2.1 = false from hn]; decide)]
    rw [he]
    generalize ((hereT g l).1 : Int) = kd at hH hF
    generalize strOf (hereT g l).2.1 = tx at hH hF hN
    generalize ((hereT g l).2.2 : Int) = at_ at hH hF
    go_enter Tryz.func96, Tryz.ntmps96
    go_wp2_with (first | (go_at_call 128; refine hH.mono ?_; rintro e' w1 ⟨rfl, hb1⟩) | (go_at_call 119; refine (hN _ hb1).mono ?_; rintro e' w2 ⟨rfl, hb2⟩) | (go_at_call 124; refine (hR _ (bstep hb1 hb2)).mono ?_; rintro e' w3 ⟨rfl, hb3⟩))
    exact ⟨rfl, out_err (grown_of b (bstep (bstep hb1 hb2) hb3))⟩
  | true =>
    rw [hn] at hN
    cases l with
    | nil => cases hn
    | cons t r =>
      obtain ⟨kd, tx, at_⟩ := t
      have hn' : nameB tx = true := hn
      have hmem : (kd, tx, at_) ∈ g.ts := by
        obtain ⟨_, _, _, _, _, _, _, _, _, h1⟩ := h.parts
        exact (h1 _ _ rfl).2.2.1
      have hk : kd = 1 := isTok_one (h.ok.tok _ hmem) (name_facts hn').1 (name_facts hn').2.1
      subst hk
      have he : nameP g.e ((1, tx, at_) :: r) = .ok (tx, r) := by simp only [nameP]; rw [if_pos hn']
      have ht : takeP g.e 1 ((1, tx, at_) :: r) = .ok ((1, tx, at_), r) := by simp only [takeP]; rw [if_pos trivial]
      rw [he]
      rw [ht] at hT
      simp only [hereT] at hH hN
      replace hF := tk_field1 1 (strOf tx) (at_ : Int)
      clear hmem hn hn' ht he hR
      go_enter Tryz.func96, Tryz.ntmps96
      go_wp2_with (first | (go_at_call 128; refine hH.mono ?_; rintro e' w1 ⟨rfl, hb1⟩) | (go_at_call 119; refine (hN _ hb1).mono ?_; rintro e' w2 ⟨rfl, hb2⟩) | (go_at_call 125; refine (hT _ (bstep hb1 hb2)).mono ?_; intro e' w3 ho; obtain ⟨hg3, v3, rfl, rfl, ha3⟩ := out_o ho))
      go_ret
      exact out_ok (grown_trans (grown_of b (bstep hb1 hb2)) hg3) rfl ha3
end Go.Proofs.YtdjaijhlhhnmeaaGreatDoor
