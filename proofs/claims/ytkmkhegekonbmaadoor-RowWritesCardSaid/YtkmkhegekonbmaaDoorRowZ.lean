/- The first statement of a round in the reader of texts: two calls, a load, two blocks, two stores, in whatever order Go leaves open: walked by what has run so far. -/
import Derived.Test.YtkmkhegekonbmaaDoorRowX
namespace Go.Proofs.YtkmkhegekonbmaaDoor
open Go.RowKit Go.Shelf
open Rw6
attribute [local go_sem] Oper.semAt_some

section
variable {F : Fence} {n : Nat} {P : Program} {ops : Array Oper} {Q : Exit → Act → World → Prop} {md : Region.Mode}
theorem opIn_round (l : Nat) {o : Oper} (ho : ∀ c, o.op ≠ .defer c) {a : Act} {w : World} {K : Act → World → Prop} : o.wpIn F n P a w K Q → o.wpIn (F.inRound l) n P a w K Q := by
  unfold Oper.wpIn
  rw [Oper.semAt_eq _ _ _ ho, Oper.semAt_eq _ _ _ ho]
  intro h
  refine ⟨h.1, ?_⟩
  have h2 := h.2
  generalize (execOp a.eval o).run P w = r at h2 ⊢
  cases r with
  | ok x w' => cases x <;> exact h2
  | halt x w' => cases x <;> exact h2
/-- Where nothing is deferred, a region goes in a round as anywhere. -/
theorem anyIn_round (l : Nat) (hd : ∀ (i : Nat) (o : Oper), ops[i]? = some o → ∀ c, o.op ≠ .defer c) : ∀ (fuel : Nat) (listed : Array Bool) (a : Act) (w : World), wpAnyIn F n P md ops Q fuel listed a w → wpAnyIn (F.inRound l) n P md ops Q fuel listed a w := by
  intro fuel
  induction fuel with
  | zero => intro listed a w h; exact h
  | succ fuel ih =>
    intro listed a w h
    refine ⟨h.1, fun i hi => ?_⟩
    have h2 := wpOpIn_mono (ih (listed.setIfInBounds i true)) (h.2 i hi)
    unfold wpOpIn at h2 ⊢
    cases ho : ops[i]? with
    | none => rw [ho] at h2; exact h2
    | some o =>
      rw [ho] at h2
      simp only at h2 ⊢
      by_cases hw : Region.wanted o (yielded ops a.tmps) = true
      · rw [if_pos hw] at h2 ⊢
        exact opIn_round l (hd i o ho) h2
      · rw [if_neg hw] at h2 ⊢
        exact h2
end
def rop0 : Oper := { dst := some 17, op := Op.move (Operand.tmp 6), type := 9, pos := "row.go:24", after := #[], guard := none }
def rop1 : Oper := { dst := some 18, op := Op.call { callee := Callee.value (Operand.func 50), args := #[Operand.tmp 17, Operand.const (Value.string ⟨#[10]⟩)], argTypes := #[9, 9] }, type := 9, pos := "row.go:24", after := #[{ on := 0, ground := Ground.data }], guard := none }
def rop2 : Oper := { dst := some 19, op := Op.load 3 (Operand.tmp 5), type := 3, pos := "row.go:24", after := #[], guard := none }
def rop3 : Oper := { dst := some 20, op := Op.call { callee := Callee.value (Operand.func 49), args := #[Operand.tmp 18, Operand.tmp 19], argTypes := #[9, 3] }, type := 85, pos := "row.go:24", after := #[{ on := 1, ground := Ground.data }, { on := 2, ground := Ground.data }, { on := 1, ground := Ground.chain }], guard := none }
def rop4 : Oper := { dst := some 16, op := Op.move (Operand.tmp 20), type := 85, pos := "row.go:24", after := #[{ on := 3, ground := Ground.data }], guard := none }
def rop5 : Oper := { dst := some 21, op := Op.extract (Operand.tmp 16) 0, type := 43, pos := "row.go:24", after := #[{ on := 4, ground := Ground.data }], guard := none }
def rop6 : Oper := { dst := some 22, op := Op.extract (Operand.tmp 16) 1, type := 47, pos := "row.go:24", after := #[{ on := 4, ground := Ground.data }, { on := 9, ground := Ground.gcOnly Departure.lateStores }], guard := none }
def rop7 : Oper := { dst := some 7, op := Op.alloc 43, type := 0, pos := "row.go:24", after := #[], guard := none }
def rop8 : Oper := { dst := some 8, op := Op.alloc 47, type := 0, pos := "row.go:24", after := #[], guard := none }
def rop9 : Oper := { dst := none, op := Op.store 43 (Operand.tmp 7) (Operand.tmp 21), type := 0, pos := "row.go:24", after := #[{ on := 7, ground := Ground.data }, { on := 5, ground := Ground.data }, { on := 3, ground := Ground.chain }, { on := 0, ground := Ground.phase }, { on := 1, ground := Ground.phase }, { on := 2, ground := Ground.phase }, { on := 3, ground := Ground.phase }, { on := 4, ground := Ground.phase }, { on := 5, ground := Ground.phase }, { on := 6, ground := Ground.textOnly Departure.lateStores }, { on := 7, ground := Ground.phase }, { on := 8, ground := Ground.phase }], guard := none }
def rop10 : Oper := { dst := none, op := Op.store 47 (Operand.tmp 8) (Operand.tmp 22), type := 0, pos := "row.go:24", after := #[{ on := 8, ground := Ground.data }, { on := 6, ground := Ground.data }, { on := 9, ground := Ground.chain }, { on := 0, ground := Ground.phase }, { on := 1, ground := Ground.phase }, { on := 2, ground := Ground.phase }, { on := 3, ground := Ground.phase }, { on := 4, ground := Ground.phase }, { on := 5, ground := Ground.phase }, { on := 6, ground := Ground.phase }, { on := 7, ground := Ground.phase }, { on := 8, ground := Ground.phase }, { on := 9, ground := Ground.phase }], guard := none }
def rowsOps : Array Oper := #[rop0, rop1, rop2, rop3, rop4, rop5, rop6, rop7, rop8, rop9, rop10]
def frR (w : World) (t p : List UInt8) (s7 s8 s16 s18 s19 s20 s21 s22 : Value) : Act :=
  { tmps := #[.string (strOf t), undef, .pointer (some ⟨w.heap.size, 0, none⟩), .pointer (some ⟨w.heap.size + 1, 0, none⟩), .pointer (some ⟨w.heap.size + 2, 0, none⟩), .pointer (some ⟨w.heap.size + 3, 0, none⟩), .string (strOf p), s7, s8, .string (strOf t), .int .i64 (t.length : Int), .bool false, undef, .string (strOf t), .func (.func 67) #[] #[.pointer (some ⟨w.heap.size + 4 + 1, 0, none⟩), .pointer (some ⟨w.heap.size + 4, 0, none⟩), .pointer (some ⟨w.heap.size + 4 + 2, 0, none⟩)], .string (strOf p),
      s16, .string (strOf p), s18, s19, s20, s21, s22, undef, undef, undef, undef, undef, undef, undef, undef, undef, undef, undef, undef, undef, undef, undef, undef, undef, undef], defers := [] }
/-- Behind the round's first statement: the row and the fault that were read. -/
def RCut (t p : List UInt8) (frm : Nat) (z0 er fa : Int) (ws : List Rw6.W) (w W : World) (a' : Act) (W' : World) : Prop :=
  ∃ (b7 b8 : Nat) (A : Option Addr) (c : Nat), a' = frR w t p (.pointer (some ⟨b7, 0, none⟩)) (.pointer (some ⟨b8, 0, none⟩)) (.tuple #[.agg #[.int .i64 z0, .slice A ws.length c], .agg #[.int .i64 er, .int .i64 fa]]) (.string (strOf (chop p))) (.int .i64 (frm : Int)) (.tuple #[.agg #[.int .i64 z0, .slice A ws.length c], .agg #[.int .i64 er, .int .i64 fa]]) (.agg #[.int .i64 z0, .slice A ws.length c]) (.agg #[.int .i64 er, .int .i64 fa]) ∧
    W.heap.size ≤ b7 ∧ W.heap.size ≤ b8 ∧ Blk W' b7 [.int .i64 z0, .slice A ws.length c] ∧ Blk W' b8 [.int .i64 er, .int .i64 fa] ∧ Below W.heap.size W W' ∧ W'.ownsRow W.heap.size 31 3 (.slice A ws.length c) ws.length (wcells (ws.map wdOf))
theorem rcut_mk {t p : List UInt8} {frm : Nat} {z0 er fa : Int} {ws : List Rw6.W} {w W Wx : World} {b7 b8 : Nat} {A : Option Addr} {c : Nat} (hb : Below W.heap.size W Wx) (gA : W.heap.size ≤ b7) (hA : Blk Wx b7 [.int .i64 0, .slice none 0 0]) (gB : W.heap.size ≤ b8) (hB : Blk Wx b8 [.int .i64 0, .int .i64 0]) (nAB : b7 ≠ b8) (ho : Wx.ownsRow W.heap.size 31 3 (.slice A ws.length c) ws.length (wcells (ws.map wdOf))) (nA : (Value.slice A ws.length c).ownBlock ≠ some b7) (nB : (Value.slice A ws.length c).ownBlock ≠ some b8) :
    RCut t p frm z0 er fa ws w W (frR w t p (.pointer (some ⟨b7, 0, none⟩)) (.pointer (some ⟨b8, 0, none⟩)) (.tuple #[.agg #[.int .i64 z0, .slice A ws.length c], .agg #[.int .i64 er, .int .i64 fa]]) (.string (strOf (chop p))) (.int .i64 (frm : Int)) (.tuple #[.agg #[.int .i64 z0, .slice A ws.length c], .agg #[.int .i64 er, .int .i64 fa]]) (.agg #[.int .i64 z0, .slice A ws.length c]) (.agg #[.int .i64 er, .int .i64 fa])) ((((Wx.setCell ⟨b7, 0, none⟩ (.int .i64 z0)).setCell ⟨b7, 1, none⟩ (.slice A ws.length c)).setCell ⟨b8, 0, none⟩ (.int .i64 er)).setCell ⟨b8, 1, none⟩ (.int .i64 fa)) := by
  have n2 : b8 ≠ b7 := fun e => nAB e.symm
  refine ⟨b7, b8, A, c, rfl, gA, gB, ?_, ?_, ?_, ?_⟩
  · exact (((hA.set 0 (.int .i64 z0)).set 1 (.slice A ws.length c)).other (p := ⟨b8, 0, none⟩) n2 _).other (p := ⟨b8, 1, none⟩) n2 _
  · exact (((hB.other (p := ⟨b7, 0, none⟩) nAB _).other (p := ⟨b7, 1, none⟩) nAB _).set 0 (.int .i64 er)).set 1 (.int .i64 fa)
  · exact (((hb.setCell (p := ⟨b7, 0, none⟩) gA _).setCell (p := ⟨b7, 1, none⟩) gA _).setCell (p := ⟨b8, 0, none⟩) gB _).setCell (p := ⟨b8, 1, none⟩) gB _
  · exact (((ho.kept (grown_setb _ b7 0 _) (.inr nA)).kept (grown_setb _ b7 1 _) (.inr nA)).kept (grown_setb _ b8 0 _) (.inr nB)).kept (grown_setb _ b8 1 _) (.inr nB)
set_option maxRecDepth 100000 in
set_option maxHeartbeats 8000000 in
theorem rows_region (t p : List UInt8) (frm : Nat) (z0 er fa : Int) (ws : List Rw6.W) (w W : World) (l : Nat)
    (hTr : ∀ w, Calls Tryd.prog 50 #[.string (strOf p), .string ⟨#[10]⟩] w fun e w' => e = .returned (.string (strOf (chop p))) ∧ w = w')
    (hLn : ∀ w, Calls Tryd.prog 49 #[.string (strOf (chop p)), .int .i64 (frm : Int)] w fun e w' => ∃ A c, e = .returned (.tuple #[.agg #[.int .i64 z0, .slice A ws.length c], .agg #[.int .i64 er, .int .i64 fa]]) ∧ Below w.heap.size w w' ∧ w'.ownsRow w.heap.size 31 3 (.slice A ws.length c) ws.length (wcells (ws.map wdOf)))
    (hl3 : w.heap.size + 3 < W.heap.size) (c3 : W.cell? ⟨w.heap.size + 3, 0, none⟩ = some (.int .i64 (frm : Int))) (Q : Exit → Act → World → Prop) (hQ : Q = fun e a' W' => e = .normal ∧ RCut t p frm z0 er fa ws w W a' W') :
    wpAnyIn (Fence.wide.inRound l) 1 Tryd.prog .any rowsOps Q 11 #[false, false, false, false, false, false, false, false, false, false, false] ({ tmps := (frR w t p undef undef undef undef undef undef undef undef).tmps.setIfInBounds 17 undef, defers := [] }) W.drew := by
  subst hQ
  obtain ⟨Q, hQ⟩ : ∃ Q : Exit → Act → World → Prop, Q = fun e a' W' => e = .normal ∧ RCut t p frm z0 er fa ws w W a' W' := ⟨_, rfl⟩
  rw [← hQ]
  have hQp : ∀ (c : List PanicEntry) (a a' : Act) (w : World), Q (.panic c) a w → Q (.panic c) a' w := fun c a a' w h => by rw [hQ] at h; cases h.1
  have hQn : ∀ a' W', RCut t p frm z0 er fa ws w W a' W' → Q .normal a' W' := fun a' W' h => by rw [hQ]; exact ⟨rfl, h⟩
  clear hQ
  refine anyIn_round l (by
    intro i o ho c
    rcases i with _ | _ | _ | _ | _ | _ | _ | _ | _ | _ | _ | i
    all_goals (first | (cases ho; exact fun h => by cases h) | (simp [rowsOps] at ho))) _ _ _ _ ?_
  have S11111 : ∀ (Wx : World) (b7 : Nat) (b8 : Nat) (A : Option Addr) (c : Nat), Below W.heap.size W Wx → W.heap.size ≤ b7 → Blk Wx b7 [.int .i64 0, .slice none 0 0] → W.heap.size ≤ b8 → Blk Wx b8 [.int .i64 0, .int .i64 0] → b7 ≠ b8 → Wx.ownsRow W.heap.size 31 3 (.slice A ws.length c) ws.length (wcells (ws.map wdOf)) → (Value.slice A ws.length c).ownBlock ≠ some b7 → (Value.slice A ws.length c).ownBlock ≠ some b8 → wpAnyIn Fence.wide 1 Tryd.prog .any rowsOps Q 2 #[true, true, true, true, true, true, true, true, true, false, false] (frR w t p (.pointer (some ⟨b7, 0, none⟩)) (.pointer (some ⟨b8, 0, none⟩)) (.tuple #[.agg #[.int .i64 z0, .slice A ws.length c], .agg #[.int .i64 er, .int .i64 fa]]) (.string (strOf (chop p))) (.int .i64 (frm : Int)) (.tuple #[.agg #[.int .i64 z0, .slice A ws.length c], .agg #[.int .i64 er, .int .i64 fa]]) (.agg #[.int .i64 z0, .slice A ws.length c]) (.agg #[.int .i64 er, .int .i64 fa])) Wx := by
    intro Wx b7 b8 A c hb gA hA gB hB nAB ho nA nB
    have a0 := hA.cell 0 _ rfl
    have a1 := hA.cell 1 _ rfl
    have e0 := hA.fr 0 _ rfl
    have e1 := hA.fr 1 _ rfl
    have n2 : b8 ≠ b7 := fun e => nAB e.symm
    have nxt := rcut_mk (t := t) (p := p) (frm := frm) (z0 := z0) (er := er) (fa := fa) (w := w) hb gA hA gB hB nAB ho nA nB
    have k0 := (hB.other (p := ⟨b7, 0, none⟩) nAB (.int .i64 z0)).other (p := ⟨b7, 1, none⟩) nAB (.slice A ws.length c)
    have d0 := k0.cell 0 _ rfl
    have d1 := k0.cell 1 _ rfl
    have g0 := k0.fr 0 _ rfl
    have g1 := k0.fr 1 _ rfl
    clear k0
    refine wpAnyIn_ready (rs := [9]) (by kernel_rfl) (by simp) ?_
    refine AllReadyIn.cons (o := rop9) rfl (fun K hK => ?_) AllReadyIn.nil
    unfold frR rop9
    go_simp
    refine hK _ _ ?_
    clear hK K
    refine wpAnyIn_ready (rs := [10]) (by kernel_rfl) (by simp) ?_
    refine AllReadyIn.cons (o := rop10) rfl (fun K hK => ?_) AllReadyIn.nil
    unfold rop10
    go_simp
    refine hK _ _ ?_
    refine wpAnyIn_done (by kernel_rfl) ?_ _
    exact hQn _ _ nxt
  have S11110 : ∀ (Wx : World) (b7 : Nat) (A : Option Addr) (c : Nat), Below W.heap.size W Wx → W.heap.size ≤ b7 → Blk Wx b7 [.int .i64 0, .slice none 0 0] → Wx.ownsRow W.heap.size 31 3 (.slice A ws.length c) ws.length (wcells (ws.map wdOf)) → (Value.slice A ws.length c).ownBlock ≠ some b7 → wpAnyIn Fence.wide 1 Tryd.prog .any rowsOps Q 3 #[true, true, true, true, true, true, true, true, false, false, false] (frR w t p (.pointer (some ⟨b7, 0, none⟩)) undef (.tuple #[.agg #[.int .i64 z0, .slice A ws.length c], .agg #[.int .i64 er, .int .i64 fa]]) (.string (strOf (chop p))) (.int .i64 (frm : Int)) (.tuple #[.agg #[.int .i64 z0, .slice A ws.length c], .agg #[.int .i64 er, .int .i64 fa]]) (.agg #[.int .i64 z0, .slice A ws.length c]) (.agg #[.int .i64 er, .int .i64 fa])) Wx := by
    intro Wx b7 A c hb gA hA ho nA
    refine wpAnyIn_ready (rs := [8]) (by kernel_rfl) (by simp) ?_
    refine AllReadyIn.cons (o := rop8) rfl (fun K hK => ?_) ?_
    ·
      unfold frR rop8
      go_simp
      exact hK _ _ (S11111 (Wx.alloc (.cells ([.int .i64 0, .int .i64 0] : List Value).toArray 47)) (b7) (Wx.heap.size) (A) (c) (hb.alloc hb.size _) (gA) (hA.alloc _) (hb.size) (Blk.new Wx [.int .i64 0, .int .i64 0] _) (fun e => by have := hA.lt; omega) (ho.alloc _) (nA) (fun e => by have := (ho.lt _ e).2; omega))
    exact AllReadyIn.nil
  have S11101 : ∀ (Wx : World) (b8 : Nat) (A : Option Addr) (c : Nat), Below W.heap.size W Wx → W.heap.size ≤ b8 → Blk Wx b8 [.int .i64 0, .int .i64 0] → Wx.ownsRow W.heap.size 31 3 (.slice A ws.length c) ws.length (wcells (ws.map wdOf)) → (Value.slice A ws.length c).ownBlock ≠ some b8 → wpAnyIn Fence.wide 1 Tryd.prog .any rowsOps Q 3 #[true, true, true, true, true, true, true, false, true, false, false] (frR w t p undef (.pointer (some ⟨b8, 0, none⟩)) (.tuple #[.agg #[.int .i64 z0, .slice A ws.length c], .agg #[.int .i64 er, .int .i64 fa]]) (.string (strOf (chop p))) (.int .i64 (frm : Int)) (.tuple #[.agg #[.int .i64 z0, .slice A ws.length c], .agg #[.int .i64 er, .int .i64 fa]]) (.agg #[.int .i64 z0, .slice A ws.length c]) (.agg #[.int .i64 er, .int .i64 fa])) Wx := by
    intro Wx b8 A c hb gB hB ho nB
    refine wpAnyIn_ready (rs := [7]) (by kernel_rfl) (by simp) ?_
    refine AllReadyIn.cons (o := rop7) rfl (fun K hK => ?_) ?_
    ·
      unfold frR rop7
      go_simp
      exact hK _ _ (S11111 (Wx.alloc (.cells ([.int .i64 0, .slice none 0 0] : List Value).toArray 43)) (Wx.heap.size) (b8) (A) (c) (hb.alloc hb.size _) (hb.size) (Blk.new Wx [.int .i64 0, .slice none 0 0] _) (gB) (hB.alloc _) (fun e => by have := hB.lt; omega) (ho.alloc _) (fun e => by have := (ho.lt _ e).2; omega) (nB))
    exact AllReadyIn.nil
  have S11100 : ∀ (Wx : World) (A : Option Addr) (c : Nat), Below W.heap.size W Wx → Wx.ownsRow W.heap.size 31 3 (.slice A ws.length c) ws.length (wcells (ws.map wdOf)) → wpAnyIn Fence.wide 1 Tryd.prog .any rowsOps Q 4 #[true, true, true, true, true, true, true, false, false, false, false] (frR w t p undef undef (.tuple #[.agg #[.int .i64 z0, .slice A ws.length c], .agg #[.int .i64 er, .int .i64 fa]]) (.string (strOf (chop p))) (.int .i64 (frm : Int)) (.tuple #[.agg #[.int .i64 z0, .slice A ws.length c], .agg #[.int .i64 er, .int .i64 fa]]) (.agg #[.int .i64 z0, .slice A ws.length c]) (.agg #[.int .i64 er, .int .i64 fa])) Wx := by
    intro Wx A c hb ho
    refine wpAnyIn_ready (rs := [7, 8]) (by kernel_rfl) (by simp) ?_
    refine AllReadyIn.cons (o := rop7) rfl (fun K hK => ?_) ?_
    ·
      unfold frR rop7
      go_simp
      exact hK _ _ (S11110 (Wx.alloc (.cells ([.int .i64 0, .slice none 0 0] : List Value).toArray 43)) (Wx.heap.size) (A) (c) (hb.alloc hb.size _) (hb.size) (Blk.new Wx [.int .i64 0, .slice none 0 0] _) (ho.alloc _) (fun e => by have := (ho.lt _ e).2; omega))
    refine AllReadyIn.cons (o := rop8) rfl (fun K hK => ?_) ?_
    ·
      unfold frR rop8
      go_simp
      exact hK _ _ (S11101 (Wx.alloc (.cells ([.int .i64 0, .int .i64 0] : List Value).toArray 47)) (Wx.heap.size) (A) (c) (hb.alloc hb.size _) (hb.size) (Blk.new Wx [.int .i64 0, .int .i64 0] _) (ho.alloc _) (fun e => by have := (ho.lt _ e).2; omega))
    exact AllReadyIn.nil
  have S11011 : ∀ (Wx : World) (b7 : Nat) (b8 : Nat), Below W.heap.size W Wx → W.heap.size ≤ b7 → Blk Wx b7 [.int .i64 0, .slice none 0 0] → W.heap.size ≤ b8 → Blk Wx b8 [.int .i64 0, .int .i64 0] → b7 ≠ b8 → wpAnyIn Fence.wide 1 Tryd.prog .any rowsOps Q 6 #[true, true, true, false, false, false, false, true, true, false, false] (frR w t p (.pointer (some ⟨b7, 0, none⟩)) (.pointer (some ⟨b8, 0, none⟩)) undef (.string (strOf (chop p))) (.int .i64 (frm : Int)) undef undef undef) Wx := by
    intro Wx b7 b8 hb gA hA gB hB nAB
    refine wpAnyIn_ready (rs := [3]) (by kernel_rfl) (by simp) ?_
    refine AllReadyIn.cons (o := rop3) rfl (fun K hK => ?_) ?_
    ·
      unfold frR rop3
      go_simp
      gi_wp2_with (refine ⟨trivial, ?_⟩; gi_at_call 49; refine (callsIn_wide.2 (hLn _)).mono ?_; rintro e w1 ⟨A, c, rfl, hb1, ho1⟩)
      have nxt : wpAnyIn Fence.wide 1 Tryd.prog .any rowsOps Q 5 #[true, true, true, true, false, false, false, true, true, false, false] (frR w t p (.pointer (some ⟨b7, 0, none⟩)) (.pointer (some ⟨b8, 0, none⟩)) undef (.string (strOf (chop p))) (.int .i64 (frm : Int)) (.tuple #[.agg #[.int .i64 z0, .slice A ws.length c], .agg #[.int .i64 er, .int .i64 fa]]) undef undef) w1 := by
        refine wpAnyIn_take (i := 4) (oi := rop4) (v := (.tuple #[.agg #[.int .i64 z0, .slice A ws.length c], .agg #[.int .i64 er, .int .i64 fa]])) rfl rfl (by kernel_rfl) (by kernel_rfl) (by kernel_rfl) (fun _ _ _ h => hQp _ _ _ _ h) ⟨Or.inl ⟨by rfl, by intro w; unfold frR rop4; go_simp⟩, fun _ => rfl⟩ ?_
        refine wpAnyIn_take (i := 5) (oi := rop5) (v := (.agg #[.int .i64 z0, .slice A ws.length c])) rfl rfl (by kernel_rfl) (by kernel_rfl) (by kernel_rfl) (fun _ _ _ h => hQp _ _ _ _ h) ⟨Or.inl ⟨by rfl, by intro w; unfold frR rop4 rop5; go_simp⟩, fun _ => rfl⟩ ?_
        refine wpAnyIn_take (i := 6) (oi := rop6) (v := (.agg #[.int .i64 er, .int .i64 fa])) rfl rfl (by kernel_rfl) (by kernel_rfl) (by kernel_rfl) (fun _ _ _ h => hQp _ _ _ _ h) ⟨Or.inl ⟨by rfl, by intro w; unfold frR rop4 rop5 rop6; go_simp⟩, fun _ => rfl⟩ ?_
        exact S11111 (w1) (b7) (b8) (A) (c) (hb.trans (hb1.mono hb.size)) (gA) (hA.later hb1) (gB) (hB.later hb1) (nAB) (own_mono ho1 hb.size) (fun e => by have := (ho1.lt _ e).1; have := hA.lt; omega) (fun e => by have := (ho1.lt _ e).1; have := hB.lt; omega)
      first | exact nxt | exact hK _ _ nxt
    exact AllReadyIn.nil
  have S11010 : ∀ (Wx : World) (b7 : Nat), Below W.heap.size W Wx → W.heap.size ≤ b7 → Blk Wx b7 [.int .i64 0, .slice none 0 0] → wpAnyIn Fence.wide 1 Tryd.prog .any rowsOps Q 7 #[true, true, true, false, false, false, false, true, false, false, false] (frR w t p (.pointer (some ⟨b7, 0, none⟩)) undef undef (.string (strOf (chop p))) (.int .i64 (frm : Int)) undef undef undef) Wx := by
    intro Wx b7 hb gA hA
    refine wpAnyIn_ready (rs := [3, 8]) (by kernel_rfl) (by simp) ?_
    refine AllReadyIn.cons (o := rop3) rfl (fun K hK => ?_) ?_
    ·
      unfold frR rop3
      go_simp
      gi_wp2_with (refine ⟨trivial, ?_⟩; gi_at_call 49; refine (callsIn_wide.2 (hLn _)).mono ?_; rintro e w1 ⟨A, c, rfl, hb1, ho1⟩)
      have nxt : wpAnyIn Fence.wide 1 Tryd.prog .any rowsOps Q 6 #[true, true, true, true, false, false, false, true, false, false, false] (frR w t p (.pointer (some ⟨b7, 0, none⟩)) undef undef (.string (strOf (chop p))) (.int .i64 (frm : Int)) (.tuple #[.agg #[.int .i64 z0, .slice A ws.length c], .agg #[.int .i64 er, .int .i64 fa]]) undef undef) w1 := by
        refine wpAnyIn_take (i := 4) (oi := rop4) (v := (.tuple #[.agg #[.int .i64 z0, .slice A ws.length c], .agg #[.int .i64 er, .int .i64 fa]])) rfl rfl (by kernel_rfl) (by kernel_rfl) (by kernel_rfl) (fun _ _ _ h => hQp _ _ _ _ h) ⟨Or.inl ⟨by rfl, by intro w; unfold frR rop4; go_simp⟩, fun _ => rfl⟩ ?_
        refine wpAnyIn_take (i := 5) (oi := rop5) (v := (.agg #[.int .i64 z0, .slice A ws.length c])) rfl rfl (by kernel_rfl) (by kernel_rfl) (by kernel_rfl) (fun _ _ _ h => hQp _ _ _ _ h) ⟨Or.inl ⟨by rfl, by intro w; unfold frR rop4 rop5; go_simp⟩, fun _ => rfl⟩ ?_
        refine wpAnyIn_take (i := 6) (oi := rop6) (v := (.agg #[.int .i64 er, .int .i64 fa])) rfl rfl (by kernel_rfl) (by kernel_rfl) (by kernel_rfl) (fun _ _ _ h => hQp _ _ _ _ h) ⟨Or.inl ⟨by rfl, by intro w; unfold frR rop4 rop5 rop6; go_simp⟩, fun _ => rfl⟩ ?_
        exact S11110 (w1) (b7) (A) (c) (hb.trans (hb1.mono hb.size)) (gA) (hA.later hb1) (own_mono ho1 hb.size) (fun e => by have := (ho1.lt _ e).1; have := hA.lt; omega)
      first | exact nxt | exact hK _ _ nxt
    refine AllReadyIn.cons (o := rop8) rfl (fun K hK => ?_) ?_
    ·
      unfold frR rop8
      go_simp
      exact hK _ _ (S11011 (Wx.alloc (.cells ([.int .i64 0, .int .i64 0] : List Value).toArray 47)) (b7) (Wx.heap.size) (hb.alloc hb.size _) (gA) (hA.alloc _) (hb.size) (Blk.new Wx [.int .i64 0, .int .i64 0] _) (fun e => by have := hA.lt; omega))
    exact AllReadyIn.nil
  have S11001 : ∀ (Wx : World) (b8 : Nat), Below W.heap.size W Wx → W.heap.size ≤ b8 → Blk Wx b8 [.int .i64 0, .int .i64 0] → wpAnyIn Fence.wide 1 Tryd.prog .any rowsOps Q 7 #[true, true, true, false, false, false, false, false, true, false, false] (frR w t p undef (.pointer (some ⟨b8, 0, none⟩)) undef (.string (strOf (chop p))) (.int .i64 (frm : Int)) undef undef undef) Wx := by
    intro Wx b8 hb gB hB
    refine wpAnyIn_ready (rs := [3, 7]) (by kernel_rfl) (by simp) ?_
    refine AllReadyIn.cons (o := rop3) rfl (fun K hK => ?_) ?_
    ·
      unfold frR rop3
      go_simp
      gi_wp2_with (refine ⟨trivial, ?_⟩; gi_at_call 49; refine (callsIn_wide.2 (hLn _)).mono ?_; rintro e w1 ⟨A, c, rfl, hb1, ho1⟩)
      have nxt : wpAnyIn Fence.wide 1 Tryd.prog .any rowsOps Q 6 #[true, true, true, true, false, false, false, false, true, false, false] (frR w t p undef (.pointer (some ⟨b8, 0, none⟩)) undef (.string (strOf (chop p))) (.int .i64 (frm : Int)) (.tuple #[.agg #[.int .i64 z0, .slice A ws.length c], .agg #[.int .i64 er, .int .i64 fa]]) undef undef) w1 := by
        refine wpAnyIn_take (i := 4) (oi := rop4) (v := (.tuple #[.agg #[.int .i64 z0, .slice A ws.length c], .agg #[.int .i64 er, .int .i64 fa]])) rfl rfl (by kernel_rfl) (by kernel_rfl) (by kernel_rfl) (fun _ _ _ h => hQp _ _ _ _ h) ⟨Or.inl ⟨by rfl, by intro w; unfold frR rop4; go_simp⟩, fun _ => rfl⟩ ?_
        refine wpAnyIn_take (i := 5) (oi := rop5) (v := (.agg #[.int .i64 z0, .slice A ws.length c])) rfl rfl (by kernel_rfl) (by kernel_rfl) (by kernel_rfl) (fun _ _ _ h => hQp _ _ _ _ h) ⟨Or.inl ⟨by rfl, by intro w; unfold frR rop4 rop5; go_simp⟩, fun _ => rfl⟩ ?_
        refine wpAnyIn_take (i := 6) (oi := rop6) (v := (.agg #[.int .i64 er, .int .i64 fa])) rfl rfl (by kernel_rfl) (by kernel_rfl) (by kernel_rfl) (fun _ _ _ h => hQp _ _ _ _ h) ⟨Or.inl ⟨by rfl, by intro w; unfold frR rop4 rop5 rop6; go_simp⟩, fun _ => rfl⟩ ?_
        exact S11101 (w1) (b8) (A) (c) (hb.trans (hb1.mono hb.size)) (gB) (hB.later hb1) (own_mono ho1 hb.size) (fun e => by have := (ho1.lt _ e).1; have := hB.lt; omega)
      first | exact nxt | exact hK _ _ nxt
    refine AllReadyIn.cons (o := rop7) rfl (fun K hK => ?_) ?_
    ·
      unfold frR rop7
      go_simp
      exact hK _ _ (S11011 (Wx.alloc (.cells ([.int .i64 0, .slice none 0 0] : List Value).toArray 43)) (Wx.heap.size) (b8) (hb.alloc hb.size _) (hb.size) (Blk.new Wx [.int .i64 0, .slice none 0 0] _) (gB) (hB.alloc _) (fun e => by have := hB.lt; omega))
    exact AllReadyIn.nil
  have S11000 : ∀ (Wx : World), Below W.heap.size W Wx → wpAnyIn Fence.wide 1 Tryd.prog .any rowsOps Q 8 #[true, true, true, false, false, false, false, false, false, false, false] (frR w t p undef undef undef (.string (strOf (chop p))) (.int .i64 (frm : Int)) undef undef undef) Wx := by
    intro Wx hb
    refine wpAnyIn_ready (rs := [3, 7, 8]) (by kernel_rfl) (by simp) ?_
    refine AllReadyIn.cons (o := rop3) rfl (fun K hK => ?_) ?_
    ·
      unfold frR rop3
      go_simp
      gi_wp2_with (refine ⟨trivial, ?_⟩; gi_at_call 49; refine (callsIn_wide.2 (hLn _)).mono ?_; rintro e w1 ⟨A, c, rfl, hb1, ho1⟩)
      have nxt : wpAnyIn Fence.wide 1 Tryd.prog .any rowsOps Q 7 #[true, true, true, true, false, false, false, false, false, false, false] (frR w t p undef undef undef (.string (strOf (chop p))) (.int .i64 (frm : Int)) (.tuple #[.agg #[.int .i64 z0, .slice A ws.length c], .agg #[.int .i64 er, .int .i64 fa]]) undef undef) w1 := by
        refine wpAnyIn_take (i := 4) (oi := rop4) (v := (.tuple #[.agg #[.int .i64 z0, .slice A ws.length c], .agg #[.int .i64 er, .int .i64 fa]])) rfl rfl (by kernel_rfl) (by kernel_rfl) (by kernel_rfl) (fun _ _ _ h => hQp _ _ _ _ h) ⟨Or.inl ⟨by rfl, by intro w; unfold frR rop4; go_simp⟩, fun _ => rfl⟩ ?_
        refine wpAnyIn_take (i := 5) (oi := rop5) (v := (.agg #[.int .i64 z0, .slice A ws.length c])) rfl rfl (by kernel_rfl) (by kernel_rfl) (by kernel_rfl) (fun _ _ _ h => hQp _ _ _ _ h) ⟨Or.inl ⟨by rfl, by intro w; unfold frR rop4 rop5; go_simp⟩, fun _ => rfl⟩ ?_
        refine wpAnyIn_take (i := 6) (oi := rop6) (v := (.agg #[.int .i64 er, .int .i64 fa])) rfl rfl (by kernel_rfl) (by kernel_rfl) (by kernel_rfl) (fun _ _ _ h => hQp _ _ _ _ h) ⟨Or.inl ⟨by rfl, by intro w; unfold frR rop4 rop5 rop6; go_simp⟩, fun _ => rfl⟩ ?_
        exact S11100 (w1) (A) (c) (hb.trans (hb1.mono hb.size)) (own_mono ho1 hb.size)
      first | exact nxt | exact hK _ _ nxt
    refine AllReadyIn.cons (o := rop7) rfl (fun K hK => ?_) ?_
    ·
      unfold frR rop7
      go_simp
      exact hK _ _ (S11010 (Wx.alloc (.cells ([.int .i64 0, .slice none 0 0] : List Value).toArray 43)) (Wx.heap.size) (hb.alloc hb.size _) (hb.size) (Blk.new Wx [.int .i64 0, .slice none 0 0] _))
    refine AllReadyIn.cons (o := rop8) rfl (fun K hK => ?_) ?_
    ·
      unfold frR rop8
      go_simp
      exact hK _ _ (S11001 (Wx.alloc (.cells ([.int .i64 0, .int .i64 0] : List Value).toArray 47)) (Wx.heap.size) (hb.alloc hb.size _) (hb.size) (Blk.new Wx [.int .i64 0, .int .i64 0] _))
    exact AllReadyIn.nil
  have S10011 : ∀ (Wx : World) (b7 : Nat) (b8 : Nat), Below W.heap.size W Wx → W.heap.size ≤ b7 → Blk Wx b7 [.int .i64 0, .slice none 0 0] → W.heap.size ≤ b8 → Blk Wx b8 [.int .i64 0, .int .i64 0] → b7 ≠ b8 → wpAnyIn Fence.wide 1 Tryd.prog .any rowsOps Q 7 #[true, true, false, false, false, false, false, true, true, false, false] (frR w t p (.pointer (some ⟨b7, 0, none⟩)) (.pointer (some ⟨b8, 0, none⟩)) undef (.string (strOf (chop p))) undef undef undef undef) Wx := by
    intro Wx b7 b8 hb gA hA gB hB nAB
    refine wpAnyIn_ready (rs := [2]) (by kernel_rfl) (by simp) ?_
    refine AllReadyIn.cons (o := rop2) rfl (fun K hK => ?_) ?_
    ·
      unfold frR rop2
      have cx := (hb.cell (p := ⟨w.heap.size + 3, 0, none⟩) hl3).trans c3
      go_simp
      exact hK _ _ (S11011 (Wx) (b7) (b8) (hb) (gA) (hA) (gB) (hB) (nAB))
    exact AllReadyIn.nil
  have S01011 : ∀ (Wx : World) (b7 : Nat) (b8 : Nat), Below W.heap.size W Wx → W.heap.size ≤ b7 → Blk Wx b7 [.int .i64 0, .slice none 0 0] → W.heap.size ≤ b8 → Blk Wx b8 [.int .i64 0, .int .i64 0] → b7 ≠ b8 → wpAnyIn Fence.wide 1 Tryd.prog .any rowsOps Q 7 #[true, false, true, false, false, false, false, true, true, false, false] (frR w t p (.pointer (some ⟨b7, 0, none⟩)) (.pointer (some ⟨b8, 0, none⟩)) undef undef (.int .i64 (frm : Int)) undef undef undef) Wx := by
    intro Wx b7 b8 hb gA hA gB hB nAB
    refine wpAnyIn_ready (rs := [1]) (by kernel_rfl) (by simp) ?_
    refine AllReadyIn.cons (o := rop1) rfl (fun K hK => ?_) ?_
    ·
      unfold frR rop1
      go_simp
      gi_wp2_with (refine ⟨trivial, ?_⟩; gi_at_call 50; refine (callsIn_wide.2 (hTr _)).mono ?_; rintro e w' ⟨rfl, rfl⟩)
      first | exact S11011 (Wx) (b7) (b8) (hb) (gA) (hA) (gB) (hB) (nAB) | exact hK _ _ (S11011 (Wx) (b7) (b8) (hb) (gA) (hA) (gB) (hB) (nAB))
    exact AllReadyIn.nil
  have S10010 : ∀ (Wx : World) (b7 : Nat), Below W.heap.size W Wx → W.heap.size ≤ b7 → Blk Wx b7 [.int .i64 0, .slice none 0 0] → wpAnyIn Fence.wide 1 Tryd.prog .any rowsOps Q 8 #[true, true, false, false, false, false, false, true, false, false, false] (frR w t p (.pointer (some ⟨b7, 0, none⟩)) undef undef (.string (strOf (chop p))) undef undef undef undef) Wx := by
    intro Wx b7 hb gA hA
    refine wpAnyIn_ready (rs := [2, 8]) (by kernel_rfl) (by simp) ?_
    refine AllReadyIn.cons (o := rop2) rfl (fun K hK => ?_) ?_
    ·
      unfold frR rop2
      have cx := (hb.cell (p := ⟨w.heap.size + 3, 0, none⟩) hl3).trans c3
      go_simp
      exact hK _ _ (S11010 (Wx) (b7) (hb) (gA) (hA))
    refine AllReadyIn.cons (o := rop8) rfl (fun K hK => ?_) ?_
    ·
      unfold frR rop8
      go_simp
      exact hK _ _ (S10011 (Wx.alloc (.cells ([.int .i64 0, .int .i64 0] : List Value).toArray 47)) (b7) (Wx.heap.size) (hb.alloc hb.size _) (gA) (hA.alloc _) (hb.size) (Blk.new Wx [.int .i64 0, .int .i64 0] _) (fun e => by have := hA.lt; omega))
    exact AllReadyIn.nil
  have S10001 : ∀ (Wx : World) (b8 : Nat), Below W.heap.size W Wx → W.heap.size ≤ b8 → Blk Wx b8 [.int .i64 0, .int .i64 0] → wpAnyIn Fence.wide 1 Tryd.prog .any rowsOps Q 8 #[true, true, false, false, false, false, false, false, true, false, false] (frR w t p undef (.pointer (some ⟨b8, 0, none⟩)) undef (.string (strOf (chop p))) undef undef undef undef) Wx := by
    intro Wx b8 hb gB hB
    refine wpAnyIn_ready (rs := [2, 7]) (by kernel_rfl) (by simp) ?_
    refine AllReadyIn.cons (o := rop2) rfl (fun K hK => ?_) ?_
    ·
      unfold frR rop2
      have cx := (hb.cell (p := ⟨w.heap.size + 3, 0, none⟩) hl3).trans c3
      go_simp
      exact hK _ _ (S11001 (Wx) (b8) (hb) (gB) (hB))
    refine AllReadyIn.cons (o := rop7) rfl (fun K hK => ?_) ?_
    ·
      unfold frR rop7
      go_simp
      exact hK _ _ (S10011 (Wx.alloc (.cells ([.int .i64 0, .slice none 0 0] : List Value).toArray 43)) (Wx.heap.size) (b8) (hb.alloc hb.size _) (hb.size) (Blk.new Wx [.int .i64 0, .slice none 0 0] _) (gB) (hB.alloc _) (fun e => by have := hB.lt; omega))
    exact AllReadyIn.nil
  have S01010 : ∀ (Wx : World) (b7 : Nat), Below W.heap.size W Wx → W.heap.size ≤ b7 → Blk Wx b7 [.int .i64 0, .slice none 0 0] → wpAnyIn Fence.wide 1 Tryd.prog .any rowsOps Q 8 #[true, false, true, false, false, false, false, true, false, false, false] (frR w t p (.pointer (some ⟨b7, 0, none⟩)) undef undef undef (.int .i64 (frm : Int)) undef undef undef) Wx := by
    intro Wx b7 hb gA hA
    refine wpAnyIn_ready (rs := [1, 8]) (by kernel_rfl) (by simp) ?_
    refine AllReadyIn.cons (o := rop1) rfl (fun K hK => ?_) ?_
    ·
      unfold frR rop1
      go_simp
      gi_wp2_with (refine ⟨trivial, ?_⟩; gi_at_call 50; refine (callsIn_wide.2 (hTr _)).mono ?_; rintro e w' ⟨rfl, rfl⟩)
      first | exact S11010 (Wx) (b7) (hb) (gA) (hA) | exact hK _ _ (S11010 (Wx) (b7) (hb) (gA) (hA))
    refine AllReadyIn.cons (o := rop8) rfl (fun K hK => ?_) ?_
    ·
      unfold frR rop8
      go_simp
      exact hK _ _ (S01011 (Wx.alloc (.cells ([.int .i64 0, .int .i64 0] : List Value).toArray 47)) (b7) (Wx.heap.size) (hb.alloc hb.size _) (gA) (hA.alloc _) (hb.size) (Blk.new Wx [.int .i64 0, .int .i64 0] _) (fun e => by have := hA.lt; omega))
    exact AllReadyIn.nil
  have S01001 : ∀ (Wx : World) (b8 : Nat), Below W.heap.size W Wx → W.heap.size ≤ b8 → Blk Wx b8 [.int .i64 0, .int .i64 0] → wpAnyIn Fence.wide 1 Tryd.prog .any rowsOps Q 8 #[true, false, true, false, false, false, false, false, true, false, false] (frR w t p undef (.pointer (some ⟨b8, 0, none⟩)) undef undef (.int .i64 (frm : Int)) undef undef undef) Wx := by
    intro Wx b8 hb gB hB
    refine wpAnyIn_ready (rs := [1, 7]) (by kernel_rfl) (by simp) ?_
    refine AllReadyIn.cons (o := rop1) rfl (fun K hK => ?_) ?_
    ·
      unfold frR rop1
      go_simp
      gi_wp2_with (refine ⟨trivial, ?_⟩; gi_at_call 50; refine (callsIn_wide.2 (hTr _)).mono ?_; rintro e w' ⟨rfl, rfl⟩)
      first | exact S11001 (Wx) (b8) (hb) (gB) (hB) | exact hK _ _ (S11001 (Wx) (b8) (hb) (gB) (hB))
    refine AllReadyIn.cons (o := rop7) rfl (fun K hK => ?_) ?_
    ·
      unfold frR rop7
      go_simp
      exact hK _ _ (S01011 (Wx.alloc (.cells ([.int .i64 0, .slice none 0 0] : List Value).toArray 43)) (Wx.heap.size) (b8) (hb.alloc hb.size _) (hb.size) (Blk.new Wx [.int .i64 0, .slice none 0 0] _) (gB) (hB.alloc _) (fun e => by have := hB.lt; omega))
    exact AllReadyIn.nil
  have S10000 : ∀ (Wx : World), Below W.heap.size W Wx → wpAnyIn Fence.wide 1 Tryd.prog .any rowsOps Q 9 #[true, true, false, false, false, false, false, false, false, false, false] (frR w t p undef undef undef (.string (strOf (chop p))) undef undef undef undef) Wx := by
    intro Wx hb
    refine wpAnyIn_ready (rs := [2, 7, 8]) (by kernel_rfl) (by simp) ?_
    refine AllReadyIn.cons (o := rop2) rfl (fun K hK => ?_) ?_
    ·
      unfold frR rop2
      have cx := (hb.cell (p := ⟨w.heap.size + 3, 0, none⟩) hl3).trans c3
      go_simp
      exact hK _ _ (S11000 (Wx) (hb))
    refine AllReadyIn.cons (o := rop7) rfl (fun K hK => ?_) ?_
    ·
      unfold frR rop7
      go_simp
      exact hK _ _ (S10010 (Wx.alloc (.cells ([.int .i64 0, .slice none 0 0] : List Value).toArray 43)) (Wx.heap.size) (hb.alloc hb.size _) (hb.size) (Blk.new Wx [.int .i64 0, .slice none 0 0] _))
    refine AllReadyIn.cons (o := rop8) rfl (fun K hK => ?_) ?_
    ·
      unfold frR rop8
      go_simp
      exact hK _ _ (S10001 (Wx.alloc (.cells ([.int .i64 0, .int .i64 0] : List Value).toArray 47)) (Wx.heap.size) (hb.alloc hb.size _) (hb.size) (Blk.new Wx [.int .i64 0, .int .i64 0] _))
    exact AllReadyIn.nil
  have S01000 : ∀ (Wx : World), Below W.heap.size W Wx → wpAnyIn Fence.wide 1 Tryd.prog .any rowsOps Q 9 #[true, false, true, false, false, false, false, false, false, false, false] (frR w t p undef undef undef undef (.int .i64 (frm : Int)) undef undef undef) Wx := by
    intro Wx hb
    refine wpAnyIn_ready (rs := [1, 7, 8]) (by kernel_rfl) (by simp) ?_
    refine AllReadyIn.cons (o := rop1) rfl (fun K hK => ?_) ?_
    ·
      unfold frR rop1
      go_simp
      gi_wp2_with (refine ⟨trivial, ?_⟩; gi_at_call 50; refine (callsIn_wide.2 (hTr _)).mono ?_; rintro e w' ⟨rfl, rfl⟩)
      first | exact S11000 (Wx) (hb) | exact hK _ _ (S11000 (Wx) (hb))
    refine AllReadyIn.cons (o := rop7) rfl (fun K hK => ?_) ?_
    ·
      unfold frR rop7
      go_simp
      exact hK _ _ (S01010 (Wx.alloc (.cells ([.int .i64 0, .slice none 0 0] : List Value).toArray 43)) (Wx.heap.size) (hb.alloc hb.size _) (hb.size) (Blk.new Wx [.int .i64 0, .slice none 0 0] _))
    refine AllReadyIn.cons (o := rop8) rfl (fun K hK => ?_) ?_
    ·
      unfold frR rop8
      go_simp
      exact hK _ _ (S01001 (Wx.alloc (.cells ([.int .i64 0, .int .i64 0] : List Value).toArray 47)) (Wx.heap.size) (hb.alloc hb.size _) (hb.size) (Blk.new Wx [.int .i64 0, .int .i64 0] _))
    exact AllReadyIn.nil
  have S00011 : ∀ (Wx : World) (b7 : Nat) (b8 : Nat), Below W.heap.size W Wx → W.heap.size ≤ b7 → Blk Wx b7 [.int .i64 0, .slice none 0 0] → W.heap.size ≤ b8 → Blk Wx b8 [.int .i64 0, .int .i64 0] → b7 ≠ b8 → wpAnyIn Fence.wide 1 Tryd.prog .any rowsOps Q 8 #[true, false, false, false, false, false, false, true, true, false, false] (frR w t p (.pointer (some ⟨b7, 0, none⟩)) (.pointer (some ⟨b8, 0, none⟩)) undef undef undef undef undef undef) Wx := by
    intro Wx b7 b8 hb gA hA gB hB nAB
    refine wpAnyIn_ready (rs := [1, 2]) (by kernel_rfl) (by simp) ?_
    refine AllReadyIn.cons (o := rop1) rfl (fun K hK => ?_) ?_
    ·
      unfold frR rop1
      go_simp
      gi_wp2_with (refine ⟨trivial, ?_⟩; gi_at_call 50; refine (callsIn_wide.2 (hTr _)).mono ?_; rintro e w' ⟨rfl, rfl⟩)
      first | exact S10011 (Wx) (b7) (b8) (hb) (gA) (hA) (gB) (hB) (nAB) | exact hK _ _ (S10011 (Wx) (b7) (b8) (hb) (gA) (hA) (gB) (hB) (nAB))
    refine AllReadyIn.cons (o := rop2) rfl (fun K hK => ?_) ?_
    ·
      unfold frR rop2
      have cx := (hb.cell (p := ⟨w.heap.size + 3, 0, none⟩) hl3).trans c3
      go_simp
      exact hK _ _ (S01011 (Wx) (b7) (b8) (hb) (gA) (hA) (gB) (hB) (nAB))
    exact AllReadyIn.nil
  have S00010 : ∀ (Wx : World) (b7 : Nat), Below W.heap.size W Wx → W.heap.size ≤ b7 → Blk Wx b7 [.int .i64 0, .slice none 0 0] → wpAnyIn Fence.wide 1 Tryd.prog .any rowsOps Q 9 #[true, false, false, false, false, false, false, true, false, false, false] (frR w t p (.pointer (some ⟨b7, 0, none⟩)) undef undef undef undef undef undef undef) Wx := by
    intro Wx b7 hb gA hA
    refine wpAnyIn_ready (rs := [1, 2, 8]) (by kernel_rfl) (by simp) ?_
    refine AllReadyIn.cons (o := rop1) rfl (fun K hK => ?_) ?_
    ·
      unfold frR rop1
      go_simp
      gi_wp2_with (refine ⟨trivial, ?_⟩; gi_at_call 50; refine (callsIn_wide.2 (hTr _)).mono ?_; rintro e w' ⟨rfl, rfl⟩)
      first | exact S10010 (Wx) (b7) (hb) (gA) (hA) | exact hK _ _ (S10010 (Wx) (b7) (hb) (gA) (hA))
    refine AllReadyIn.cons (o := rop2) rfl (fun K hK => ?_) ?_
    ·
      unfold frR rop2
      have cx := (hb.cell (p := ⟨w.heap.size + 3, 0, none⟩) hl3).trans c3
      go_simp
      exact hK _ _ (S01010 (Wx) (b7) (hb) (gA) (hA))
    refine AllReadyIn.cons (o := rop8) rfl (fun K hK => ?_) ?_
    ·
      unfold frR rop8
      go_simp
      exact hK _ _ (S00011 (Wx.alloc (.cells ([.int .i64 0, .int .i64 0] : List Value).toArray 47)) (b7) (Wx.heap.size) (hb.alloc hb.size _) (gA) (hA.alloc _) (hb.size) (Blk.new Wx [.int .i64 0, .int .i64 0] _) (fun e => by have := hA.lt; omega))
    exact AllReadyIn.nil
  have S00001 : ∀ (Wx : World) (b8 : Nat), Below W.heap.size W Wx → W.heap.size ≤ b8 → Blk Wx b8 [.int .i64 0, .int .i64 0] → wpAnyIn Fence.wide 1 Tryd.prog .any rowsOps Q 9 #[true, false, false, false, false, false, false, false, true, false, false] (frR w t p undef (.pointer (some ⟨b8, 0, none⟩)) undef undef undef undef undef undef) Wx := by
    intro Wx b8 hb gB hB
    refine wpAnyIn_ready (rs := [1, 2, 7]) (by kernel_rfl) (by simp) ?_
    refine AllReadyIn.cons (o := rop1) rfl (fun K hK => ?_) ?_
    ·
      unfold frR rop1
      go_simp
      gi_wp2_with (refine ⟨trivial, ?_⟩; gi_at_call 50; refine (callsIn_wide.2 (hTr _)).mono ?_; rintro e w' ⟨rfl, rfl⟩)
      first | exact S10001 (Wx) (b8) (hb) (gB) (hB) | exact hK _ _ (S10001 (Wx) (b8) (hb) (gB) (hB))
    refine AllReadyIn.cons (o := rop2) rfl (fun K hK => ?_) ?_
    ·
      unfold frR rop2
      have cx := (hb.cell (p := ⟨w.heap.size + 3, 0, none⟩) hl3).trans c3
      go_simp
      exact hK _ _ (S01001 (Wx) (b8) (hb) (gB) (hB))
    refine AllReadyIn.cons (o := rop7) rfl (fun K hK => ?_) ?_
    ·
      unfold frR rop7
      go_simp
      exact hK _ _ (S00011 (Wx.alloc (.cells ([.int .i64 0, .slice none 0 0] : List Value).toArray 43)) (Wx.heap.size) (b8) (hb.alloc hb.size _) (hb.size) (Blk.new Wx [.int .i64 0, .slice none 0 0] _) (gB) (hB.alloc _) (fun e => by have := hB.lt; omega))
    exact AllReadyIn.nil
  have S00000 : ∀ (Wx : World), Below W.heap.size W Wx → wpAnyIn Fence.wide 1 Tryd.prog .any rowsOps Q 10 #[true, false, false, false, false, false, false, false, false, false, false] (frR w t p undef undef undef undef undef undef undef undef) Wx := by
    intro Wx hb
    refine wpAnyIn_ready (rs := [1, 2, 7, 8]) (by kernel_rfl) (by simp) ?_
    refine AllReadyIn.cons (o := rop1) rfl (fun K hK => ?_) ?_
    ·
      unfold frR rop1
      go_simp
      gi_wp2_with (refine ⟨trivial, ?_⟩; gi_at_call 50; refine (callsIn_wide.2 (hTr _)).mono ?_; rintro e w' ⟨rfl, rfl⟩)
      first | exact S10000 (Wx) (hb) | exact hK _ _ (S10000 (Wx) (hb))
    refine AllReadyIn.cons (o := rop2) rfl (fun K hK => ?_) ?_
    ·
      unfold frR rop2
      have cx := (hb.cell (p := ⟨w.heap.size + 3, 0, none⟩) hl3).trans c3
      go_simp
      exact hK _ _ (S01000 (Wx) (hb))
    refine AllReadyIn.cons (o := rop7) rfl (fun K hK => ?_) ?_
    ·
      unfold frR rop7
      go_simp
      exact hK _ _ (S00010 (Wx.alloc (.cells ([.int .i64 0, .slice none 0 0] : List Value).toArray 43)) (Wx.heap.size) (hb.alloc hb.size _) (hb.size) (Blk.new Wx [.int .i64 0, .slice none 0 0] _))
    refine AllReadyIn.cons (o := rop8) rfl (fun K hK => ?_) ?_
    ·
      unfold frR rop8
      go_simp
      exact hK _ _ (S00001 (Wx.alloc (.cells ([.int .i64 0, .int .i64 0] : List Value).toArray 47)) (Wx.heap.size) (hb.alloc hb.size _) (hb.size) (Blk.new Wx [.int .i64 0, .int .i64 0] _))
    exact AllReadyIn.nil
  refine wpAnyIn_take (i := 0) (oi := rop0) (v := .string (strOf p)) rfl rfl (by kernel_rfl) (by kernel_rfl) (by kernel_rfl) (fun _ _ _ h => hQp _ _ _ _ h) ⟨Or.inl ⟨by rfl, by intro w; unfold frR rop0; go_simp⟩, fun _ => rfl⟩ ?_
  exact S00000 W.drew (Below.refl _ _).drew
end Go.Proofs.YtkmkhegekonbmaaDoor
