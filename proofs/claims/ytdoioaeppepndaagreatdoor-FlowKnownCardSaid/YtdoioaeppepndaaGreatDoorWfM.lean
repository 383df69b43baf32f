/- Walk: the checks of a query, one after the other; a deferred function keeps the first error. Made by program (wip/tools/gen_wfM.py). -/
import Derived.Test.YtdoioaeppepndaaGreatDoorWfL
import Derived.Deep.LoopGhost
namespace Go.Proofs.YtdoioaeppepndaaGreatDoor
open Go.RowKit Go.Shelf
open A8 W10
attribute [local go_sem] Oper.semAt_some

def ceI (q : Qu) : Nat → Int
  | 0 => checkE q
  | 1 => if fullB q = true then 6 else 0
  | 2 => if 6 < depthN q.p then 22 else 0
  | 3 => if rangeB q = true then 0 else 2
  | 4 => if notsB q.p = true then 0 else 9
  | 5 => if onceL (leafNames q.p) = true then 0 else 8
  | 6 => if bareB q.p = false ∨ knownB q = false then 12 else 0
  | _ => 0
theorem wfE_first (q : Qu) (i : Nat) (hi : i < 7) (h0 : ∀ j, j < i → ceI q j = 0) (h1 : ceI q i ≠ 0) : wfE q = ceI q i := by
  have hch : checkE q = if checkB q = true then 0 else 3 := rfl
  have z0 : 0 < i → checkB q = true := fun h => by
    have := h0 0 h
    simp only [ceI, hch] at this
    split at this
    · assumption
    · cases this
  have z1 : 1 < i → fullB q = false := fun h => by
    have := h0 1 h
    simp only [ceI] at this
    split at this
    · cases this
    · simpa using ‹¬ fullB q = true›
  have z2 : 2 < i → ¬ 6 < depthN q.p := fun h => by
    have := h0 2 h
    simp only [ceI] at this
    split at this
    · cases this
    · assumption
  have z3 : 3 < i → rangeB q = true := fun h => by
    have := h0 3 h
    simp only [ceI] at this
    split at this
    · assumption
    · cases this
  have z4 : 4 < i → notsB q.p = true := fun h => by
    have := h0 4 h
    simp only [ceI] at this
    split at this
    · assumption
    · cases this
  have z5 : 5 < i → onceL (leafNames q.p) = true := fun h => by
    have := h0 5 h
    simp only [ceI] at this
    split at this
    · assumption
    · cases this
  have hi' : i = 0 ∨ i = 1 ∨ i = 2 ∨ i = 3 ∨ i = 4 ∨ i = 5 ∨ i = 6 := by omega
  unfold wfE
  rcases hi' with rfl | rfl | rfl | rfl | rfl | rfl | rfl
  · cases hb : checkB q with
    | true => simp [ceI, hch, hb] at h1
    | false => simp [ceI, hch, hb]
  · rw [z0 (by omega)]
    cases hb : fullB q with
    | false => simp [ceI, hb] at h1
    | true => simp [ceI, hb]
  · rw [z0 (by omega), z1 (by omega)]
    by_cases hb : 6 < depthN q.p
    · simp [ceI, hb]
    · simp [ceI, hb] at h1
  · rw [z0 (by omega), z1 (by omega), if_neg (by simp), if_neg (by simp), if_neg (z2 (by omega))]
    cases hb : rangeB q with
    | true => simp [ceI, hb] at h1
    | false => simp [ceI, hb]
  · rw [z0 (by omega), z1 (by omega), if_neg (by simp), if_neg (by simp), if_neg (z2 (by omega)), z3 (by omega), if_neg (by simp)]
    cases hb : notsB q.p with
    | true => simp [ceI, hb] at h1
    | false => simp [ceI, hb]
  · rw [z0 (by omega), z1 (by omega), if_neg (by simp), if_neg (by simp), if_neg (z2 (by omega)), z3 (by omega), if_neg (by simp), z4 (by omega), if_neg (by simp)]
    cases hb : onceL (leafNames q.p) with
    | true => simp [ceI, hb] at h1
    | false => simp [ceI, hb]
  · rw [z0 (by omega), z1 (by omega), if_neg (by simp), if_neg (by simp), if_neg (z2 (by omega)), z3 (by omega), if_neg (by simp), z4 (by omega), if_neg (by simp), z5 (by omega), if_neg (by simp)]
    by_cases hb : bareB q.p = false ∨ knownB q = false
    · simp [ceI, hb]
    · simp [ceI, hb] at h1
theorem wfE_none (q : Qu) (h0 : ∀ j, j < 7 → ceI q j = 0) : wfE q = 0 := by
  have hch : checkE q = if checkB q = true then 0 else 3 := rfl
  have z0 := h0 0 (by omega)
  have z1 := h0 1 (by omega)
  have z2 := h0 2 (by omega)
  have z3 := h0 3 (by omega)
  have z4 := h0 4 (by omega)
  have z5 := h0 5 (by omega)
  have z6 := h0 6 (by omega)
  simp only [ceI, hch] at z0 z1 z2 z3 z4 z5 z6
  unfold wfE
  rw [if_neg, if_neg, if_neg, if_neg, if_neg, if_neg, if_neg]
  · intro h; rw [if_pos h] at z6; cases z6
  · intro h; rw [h] at z5; cases z5
  · intro h; rw [h] at z4; cases z4
  · intro h; rw [h] at z3; cases z3
  · intro h; rw [if_pos h] at z2; cases z2
  · intro h; rw [h] at z1; cases z1
  · intro h; rw [h] at z0; cases z0
theorem checks_any (w : World) : Calls Tryz.prog 76 #[] w fun e w' => e = .returned (.slice (some ⟨w.heap.size, 0, none⟩) 7 7) ∧ w' = w.alloc (.cells #[.func (.func 103) #[] #[], .func (.func 104) #[] #[], .func (.func 105) #[] #[], .func (.func 106) #[] #[], .func (.func 107) #[] #[], .func (.func 108) #[] #[], .func (.func 109) #[] #[]] 67) := by
  go_enter Tryz.func76, Tryz.ntmps76
  go_wp2
  go_ret
  exact ⟨rfl, rfl⟩
/-- What stands between two checks: all so far found nothing; the box of what was found is the call's own. -/
structure CkI (w : World) (b3 : Nat) (W3 : World) (ce : Nat → Int) (i : Nat) (wr : World) : Prop where
  no : ∀ j, j < i → ce j = 0
  fd : Bx wr b3 23 [.int .i64 0]
  kp : W3.grownBy wr (some b3)
  bel : Below w.heap.size w wr
theorem blk_grown {W W' : World} {b c : Nat} {us : List Value} (h : Blk W c us) (hg : W.grownBy W' (some b)) (hne : c ≠ b) : Blk W' c us := by
  have e := hg.block c h.lt (fun e => hne (by cases e; rfl))
  exact ⟨Nat.lt_of_lt_of_le h.lt hg.size, fun i v hv => (World.cell?_of_block (w := W) (a := ⟨c, i, none⟩) e).trans (h.cell i v hv), fun i v hv => (World.frozen?_of_block (w := W) (a := ⟨c, i, none⟩) e).trans (h.fr i v hv)⟩
theorem grown_step {X Y Z : World} {b : Nat} (h : X.grownBy Y (some b)) (k : Below Y.heap.size Y Z) (v : Value) : X.grownBy (Z.setCell ⟨b, 0, none⟩ v) (some b) :=
  ⟨k.os.trans h.os, k.tape.trans h.tape, k.output.trans h.output, by have := h.size; have := k.size; simp [World.setCell]; omega, fun i hi hne => by
    have hb : i ≠ b := fun e => hne (by rw [e])
    rw [Below.heap_setCell _ _ _ _ hb, k.block i (by have := h.size; omega)]
    exact h.block i hi hne⟩
theorem check_d (b3 b2 : Nat) (u : FrameMode) (w : World) (c d : Int) (h3 : w.cell? ⟨b3, 0, none⟩ = some (.int .i64 c)) (h2 : w.cell? ⟨b2, 0, none⟩ = some (.int .i64 d)) (hf : w.frozen? ⟨b2, 0, none⟩ = false) :
    CallsD Tryz.prog 75 #[.pointer (some ⟨b3, 0, none⟩), .pointer (some ⟨b2, 0, none⟩)] u w fun e u' w' => u' = u ∧ (∃ v, e = .returned v) ∧ w' = w.setCell ⟨b2, 0, none⟩ (.int .i64 c) := by
  refine callsD_of_wp Tryz.func75 rfl ?_
  simp only [Tryz.ntmps75, List.size_toArray, List.length_cons, List.length_nil, Nat.reduceAdd, Nat.reduceSub, Array.replicate_succ, Array.replicate_zero, List.push_toArray, List.append_toArray, List.nil_append, List.cons_append]
  go_wp2
  go_end0
  exact ⟨⟨_, rfl⟩, rfl⟩
theorem fin_check {tmps : Array Value} {b3 b2 : Nat} {w W : World} {c R : Int} (hrun : ∀ W, Bx W b2 23 [.int .i64 c] → (results Tryz.f32 tmps).run Tryz.prog W = .ok (.int .i64 c) W)
    (h3 : Bx W b3 23 [.int .i64 c]) (h2 : Bx W b2 23 [.int .i64 0]) (hb : Below w.heap.size w W) (hw : w.heap.size ≤ b2) (hR : R = c) :
    Leaves Tryz.prog Tryz.f32 tmps (fun e w' => e = .returned (.int .i64 R) ∧ Below w.heap.size w w') [{ target := .fn (.func 75) #[.pointer (some ⟨b3, 0, none⟩), .pointer (some ⟨b2, 0, none⟩)], args := #[] }] .returning W := by
  refine leaves_cons (f := 75) (args := #[.pointer (some ⟨b3, 0, none⟩), .pointer (some ⟨b2, 0, none⟩)]) (by simp) (by simp [go_sem]) ?_
  refine (check_d b3 b2 .returning W c 0 (h3.blk.cell 0 _ rfl) (h2.blk.cell 0 _ rfl) (h2.blk.fr 0 _ rfl)).mono ?_
  rintro e u' w'' ⟨rfl, ⟨v, rfl⟩, rfl⟩
  exact ⟨_, hrun _ (bx_set h2 _), by rw [hR], hb.setCell (p := ⟨b2, 0, none⟩) hw _⟩
set_option maxRecDepth 100000 in
set_option maxHeartbeats 16000000 in
theorem wcheck_any (q : GQ) (w : World) (hq : QW w q) (hlen : (subsT q.t).length ≤ 999999) (hG : SG w) (hnu : ∀ s ∈ useL q.qu, s.length ≤ maxLen) :
    Calls Tryz.prog 32 #[.agg q.row.toArray] w fun e w' => e = .returned (.int .i64 (wfE q.qu)) ∧ Below w.heap.size w w' := by
  have hc0 := fun w1 (hb : Below w.heap.size w w1) => checkq_any q w1 (hq.later hb) hlen (hG.later hb)
  have hc1 := fun w1 (hb : Below w.heap.size w w1) => checkRoom_any q w1 (hq.later hb) hlen
  have hc2 := fun (hs : soundN 1 q.t.nd = true) w1 (hb : Below w.heap.size w w1) => checkDepth_any q w1 (hq.later hb) hlen (hG.later hb) hs
  have hc3 := fun w1 (hb : Below w.heap.size w w1) => checkNumbers_any q w1 (hq.later hb) hlen
  have hc4 := fun w1 (hb : Below w.heap.size w w1) => checkNots_any q w1 (hq.later hb) hlen
  have hc5 := fun w1 (hb : Below w.heap.size w w1) => checkTwice_any q w1 (hq.later hb) hlen
  have hc6 := fun w1 (hb : Below w.heap.size w w1) => checkNames_any q w1 (hq.later hb) hlen hnu
  have hsnd : ceI q.qu 0 = 0 → soundN 1 q.t.nd = true := fun h => by
    have hch : checkE q.qu = if checkB q.qu = true then 0 else 3 := rfl
    simp only [ceI, hch] at h
    split at h
    · rename_i hb
      unfold checkB at hb
      simp only [Bool.and_eq_true] at hb
      exact hb.1.1.1
    · cases h
  obtain ⟨R, hR⟩ : ∃ R, R = wfE q.qu := ⟨_, rfl⟩
  have hfirst := wfE_first q.qu
  have hnone := wfE_none q.qu
  rw [← hR] at hfirst hnone ⊢
  obtain ⟨cE, hce⟩ : ∃ cE, cE = ceI q.qu := ⟨_, rfl⟩
  replace hc0 : ∀ w1, Below w.heap.size w w1 → Calls Tryz.prog 103 #[.agg q.row.toArray] w1 fun e w' => e = .returned (.int .i64 (cE 0)) ∧ Below w1.heap.size w1 w' := by rw [hce]; exact hc0
  replace hc1 : ∀ w1, Below w.heap.size w w1 → Calls Tryz.prog 104 #[.agg q.row.toArray] w1 fun e w' => e = .returned (.int .i64 (cE 1)) ∧ Below w1.heap.size w1 w' := by rw [hce]; exact hc1
  replace hc2 : cE 0 = 0 → ∀ w1, Below w.heap.size w w1 → Calls Tryz.prog 105 #[.agg q.row.toArray] w1 fun e w' => e = .returned (.int .i64 (cE 2)) ∧ Below w1.heap.size w1 w' := by rw [hce]; exact fun h => hc2 (hsnd h)
  replace hc3 : ∀ w1, Below w.heap.size w w1 → Calls Tryz.prog 106 #[.agg q.row.toArray] w1 fun e w' => e = .returned (.int .i64 (cE 3)) ∧ Below w1.heap.size w1 w' := by rw [hce]; exact hc3
  replace hc4 : ∀ w1, Below w.heap.size w w1 → Calls Tryz.prog 107 #[.agg q.row.toArray] w1 fun e w' => e = .returned (.int .i64 (cE 4)) ∧ Below w1.heap.size w1 w' := by rw [hce]; exact hc4
  replace hc5 : ∀ w1, Below w.heap.size w w1 → Calls Tryz.prog 108 #[.agg q.row.toArray] w1 fun e w' => e = .returned (.int .i64 (cE 5)) ∧ Below w1.heap.size w1 w' := by rw [hce]; exact hc5
  replace hc6 : ∀ w1, Below w.heap.size w w1 → Calls Tryz.prog 109 #[.agg q.row.toArray] w1 fun e w' => e = .returned (.int .i64 (cE 6)) ∧ Below w1.heap.size w1 w' := by rw [hce]; exact hc6
  rw [← hce] at hfirst hnone
  clear hsnd hR hce hnu hG
  obtain ⟨T, wi, sh, hv, se, em⟩ := q
  obtain ⟨hT, hwi, hh, he, -, -⟩ := hq
  simp only at hT hh he hlen hwi
  obtain ⟨Ah, ch, rfl, hlh, -⟩ := sl_get (by decide) hh
  obtain ⟨Ae, ce, rfl, hle, -⟩ := sl_get (by decide) he
  clear hh he
  have hone := hT.one
  obtain ⟨k, mn, mx, ⟨⟨kd, bd, bn, cs, nm⟩, sc⟩, sk, ks⟩ := T
  obtain ⟨-, ⟨-, hsc⟩, hsl⟩ := hone
  simp only at hsc
  obtain ⟨A1, cap1, rfl, -, -⟩ := sl_get (by decide) hsc
  obtain ⟨A, cap, rfl, -, -⟩ := sl_get (by decide) hsl
  clear hsc hsl
  clear hT hwi hlh hle hlen
  simp only [GQ.row, Tr.row, List.cons_append, List.nil_append] at hc0 hc1 hc2 hc3 hc4 hc5 hc6 ⊢
  have H0 := Lib.hid hc0
  have H1 := Lib.hid hc1
  have H2 := Lib.hid hc2
  have H3 := Lib.hid hc3
  have H4 := Lib.hid hc4
  have H5 := Lib.hid hc5
  have H6 := Lib.hid hc6
  have HF := Lib.hid hfirst
  have HN := Lib.hid hnone
  clear hc0 hc1 hc2 hc3 hc4 hc5 hc6 hfirst hnone
  have hck := fun w => checks_any w
  go_enter_defers Tryz.func32, Tryz.ntmps32
  go_wp2
  go_step3
  go_wp2
  go_step3
  go_wp2_with (go_at_call 76; refine (hck _).mono ?_; rintro e w1 ⟨rfl, rfl⟩)
  clear hck
  obtain ⟨W3, hW3⟩ : ∃ W3, W3 = (((w.alloc (.cells #[.int .i64 k, .int .i64 mn, .int .i64 mx, .int .i64 kd, .bool bd, .int .u64 bn, .slice A1 cs.length cap1, .string (strOf nm), .slice A ks.length cap, .int .u64 wi, .slice Ah hv.length ch, .slice Ae em.length ce] 35)).alloc (.cells #[.int .i64 0] 23)).alloc (.cells #[.int .i64 0] 23)).alloc (.cells #[.func (.func 103) #[] #[], .func (.func 104) #[] #[], .func (.func 105) #[] #[], .func (.func 106) #[] #[], .func (.func 107) #[] #[], .func (.func 108) #[] #[], .func (.func 109) #[] #[]] 67) := ⟨_, rfl⟩
  rw [← hW3]
  have hst := show Below w.heap.size w W3 ∧ Blk W3 w.heap.size [.int .i64 k, .int .i64 mn, .int .i64 mx, .int .i64 kd, .bool bd, .int .u64 bn, .slice A1 cs.length cap1, .string (strOf nm), .slice A ks.length cap, .int .u64 wi, .slice Ah hv.length ch, .slice Ae em.length ce] ∧ ResP w (w.heap.size + 1) 0 W3 ∧ Bx W3 (w.heap.size + 1 + 1) 23 [.int .i64 0] ∧ Blk W3 (w.heap.size + 1 + 1 + 1) [.func (.func 103) #[] #[], .func (.func 104) #[] #[], .func (.func 105) #[] #[], .func (.func 106) #[] #[], .func (.func 107) #[] #[], .func (.func 108) #[] #[], .func (.func 109) #[] #[]] from by
    rw [hW3]
    have h1 := Bx.new w [.int .i64 k, .int .i64 mn, .int .i64 mx, .int .i64 kd, .bool bd, .int .u64 bn, .slice A1 cs.length cap1, .string (strOf nm), .slice A ks.length cap, .int .u64 wi, .slice Ah hv.length ch, .slice Ae em.length ce] 35
    have h2 := Bx.new (w.alloc (.cells #[.int .i64 k, .int .i64 mn, .int .i64 mx, .int .i64 kd, .bool bd, .int .u64 bn, .slice A1 cs.length cap1, .string (strOf nm), .slice A ks.length cap, .int .u64 wi, .slice Ah hv.length ch, .slice Ae em.length ce] 35)) [.int .i64 0] 23
    have h3 := Bx.new ((w.alloc (.cells #[.int .i64 k, .int .i64 mn, .int .i64 mx, .int .i64 kd, .bool bd, .int .u64 bn, .slice A1 cs.length cap1, .string (strOf nm), .slice A ks.length cap, .int .u64 wi, .slice Ah hv.length ch, .slice Ae em.length ce] 35)).alloc (.cells #[.int .i64 0] 23)) [.int .i64 0] 23
    have h4 := Bx.new (((w.alloc (.cells #[.int .i64 k, .int .i64 mn, .int .i64 mx, .int .i64 kd, .bool bd, .int .u64 bn, .slice A1 cs.length cap1, .string (strOf nm), .slice A ks.length cap, .int .u64 wi, .slice Ah hv.length ch, .slice Ae em.length ce] 35)).alloc (.cells #[.int .i64 0] 23)).alloc (.cells #[.int .i64 0] 23)) [.func (.func 103) #[] #[], .func (.func 104) #[] #[], .func (.func 105) #[] #[], .func (.func 106) #[] #[], .func (.func 107) #[] #[], .func (.func 108) #[] #[], .func (.func 109) #[] #[]] 67
    simp only [World.size_alloc] at h2 h3 h4
    exact ⟨bstep (b3 _ _ _ _) (b1 _ _), (((h1.later (b1 _ _)).later (b1 _ _)).later (b1 _ _)).blk, ⟨(h2.later (b1 _ _)).later (b1 _ _), bstep (b3 _ _ _ _) (b1 _ _)⟩, h3.later (b1 _ _), h4.blk⟩
  obtain ⟨hb3, hq3, hr3, hf3, hc3⟩ := hst
  have hsz3 : W3.heap.size = w.heap.size + 4 := by rw [hW3]; simp
  have HB3 := Lib.hid hb3
  have HQ3 := Lib.hid hq3
  have HR3 := Lib.hid hr3
  have HF3 := Lib.hid hf3
  have HC3 := Lib.hid hc3
  clear hW3 hb3 hq3 hr3 hf3 hc3
  go_loopw [9] (fun v wr => ∃ i : Nat, i ≤ 7 ∧ v = .int .i64 (i : Int) ∧ CkI w (w.heap.size + 1 + 1) W3 cE i wr) (fun v _ => 7 - (intOf v).toNat)
  case atStart => exact ⟨0, by omega, rfl, ⟨fun j hj => by omega, HF3.out, ⟨rfl, rfl, rfl, Nat.le_refl _, fun _ _ _ => rfl⟩, HB3.out⟩⟩
  case round =>
    obtain ⟨i, hi, rfl, hI⟩ := hrel
    have HI := Lib.hid hI
    have hii : i = 0 ∨ i = 1 ∨ i = 2 ∨ i = 3 ∨ i = 4 ∨ i = 5 ∨ i = 6 ∨ i = 7 := by omega
    have hq := blk_grown HQ3.out HI.out.kp (by omega)
    have q0 := hq.cell 0 _ rfl
    have q1 := hq.cell 1 _ rfl
    have q2 := hq.cell 2 _ rfl
    have q3 := hq.cell 3 _ rfl
    have q4 := hq.cell 4 _ rfl
    have q5 := hq.cell 5 _ rfl
    have q6 := hq.cell 6 _ rfl
    have q7 := hq.cell 7 _ rfl
    have q8 := hq.cell 8 _ rfl
    have q9 := hq.cell 9 _ rfl
    have q10 := hq.cell 10 _ rfl
    have q11 := hq.cell 11 _ rfl
    have hcell : ∀ W4, Below wr.heap.size wr W4 → W4.cell? ⟨w.heap.size + 1 + 1, 0, none⟩ = some (.int .i64 0) ∧ W4.frozen? ⟨w.heap.size + 1 + 1, 0, none⟩ = false := fun W4 hb => ⟨(HI.out.fd.later hb).blk.cell 0 _ rfl, (HI.out.fd.later hb).blk.fr 0 _ rfl⟩
    clear hI hq
    rcases hii with rfl | rfl | rfl | rfl | rfl | rfl | rfl | rfl
    · have hc := (blk_grown HC3.out HI.out.kp (by omega)).cell 0 _ rfl
      by_cases hz : cE 0 = 0
      · have hzb : (cE 0 == 0) = true := by simpa using hz
        have HZ := Lib.hid hz
        rw [hz] at H0
        clear hz
        go_wp2_with (go_at_call 103; refine (H0.out _ HI.out.bel).mono ?_; rintro e W4 ⟨rfl, hb4⟩; obtain ⟨z1, z2⟩ := hcell W4 hb4; clear hcell)
        exact ⟨⟨1, by omega, rfl, ⟨fun j hj => by rcases Nat.lt_succ_iff_lt_or_eq.1 hj with h | h; exact HI.out.no j h; rw [h]; exact HZ.out, bx_set (HI.out.fd.later hb4) _, grown_step HI.out.kp hb4 _, (bstep HI.out.bel hb4).setCell (p := ⟨w.heap.size + 1 + 1, 0, none⟩) (by simp; omega) _⟩⟩, by simp [intOf]⟩
      · have hzb : (cE 0 == 0) = false := by simpa using hz
        have HZ : RowKit.Hid (R = cE 0) := Lib.hid (HF.out 0 (by omega) HI.out.no hz)
        go_wp2_with (go_at_call 103; refine (H0.out _ HI.out.bel).mono ?_; rintro e W4 ⟨rfl, hb4⟩; obtain ⟨z1, z2⟩ := hcell W4 hb4; clear hcell)
        rw [Exit.noGoto_ret]
        exact fin_check (fun W h => by simp [results, Tryz.f32, go_sem, h.blk.cell 0 _ rfl]) (bx_set (HI.out.fd.later hb4) _) (bx_other ((bx_grown HR3.out.1 HI.out.kp (by omega)).later hb4) (by simp) _) ((bstep HI.out.bel hb4).setCell (p := ⟨w.heap.size + 1 + 1, 0, none⟩) (by simp; omega) _) (by omega) HZ.out
    · have hc := (blk_grown HC3.out HI.out.kp (by omega)).cell 1 _ rfl
      by_cases hz : cE 1 = 0
      · have hzb : (cE 1 == 0) = true := by simpa using hz
        have HZ := Lib.hid hz
        rw [hz] at H1
        clear hz
        go_wp2_with (go_at_call 104; refine (H1.out _ HI.out.bel).mono ?_; rintro e W4 ⟨rfl, hb4⟩; obtain ⟨z1, z2⟩ := hcell W4 hb4; clear hcell)
        exact ⟨⟨2, by omega, rfl, ⟨fun j hj => by rcases Nat.lt_succ_iff_lt_or_eq.1 hj with h | h; exact HI.out.no j h; rw [h]; exact HZ.out, bx_set (HI.out.fd.later hb4) _, grown_step HI.out.kp hb4 _, (bstep HI.out.bel hb4).setCell (p := ⟨w.heap.size + 1 + 1, 0, none⟩) (by simp; omega) _⟩⟩, by simp [intOf]⟩
      · have hzb : (cE 1 == 0) = false := by simpa using hz
        have HZ : RowKit.Hid (R = cE 1) := Lib.hid (HF.out 1 (by omega) HI.out.no hz)
        go_wp2_with (go_at_call 104; refine (H1.out _ HI.out.bel).mono ?_; rintro e W4 ⟨rfl, hb4⟩; obtain ⟨z1, z2⟩ := hcell W4 hb4; clear hcell)
        rw [Exit.noGoto_ret]
        exact fin_check (fun W h => by simp [results, Tryz.f32, go_sem, h.blk.cell 0 _ rfl]) (bx_set (HI.out.fd.later hb4) _) (bx_other ((bx_grown HR3.out.1 HI.out.kp (by omega)).later hb4) (by simp) _) ((bstep HI.out.bel hb4).setCell (p := ⟨w.heap.size + 1 + 1, 0, none⟩) (by simp; omega) _) (by omega) HZ.out
    · have hc := (blk_grown HC3.out HI.out.kp (by omega)).cell 2 _ rfl
      by_cases hz : cE 2 = 0
      · have hzb : (cE 2 == 0) = true := by simpa using hz
        have HZ := Lib.hid hz
        rw [hz] at H2
        clear hz
        go_wp2_with (go_at_call 105; refine (H2.out (HI.out.no 0 (by omega)) _ HI.out.bel).mono ?_; rintro e W4 ⟨rfl, hb4⟩; obtain ⟨z1, z2⟩ := hcell W4 hb4; clear hcell)
        exact ⟨⟨3, by omega, rfl, ⟨fun j hj => by rcases Nat.lt_succ_iff_lt_or_eq.1 hj with h | h; exact HI.out.no j h; rw [h]; exact HZ.out, bx_set (HI.out.fd.later hb4) _, grown_step HI.out.kp hb4 _, (bstep HI.out.bel hb4).setCell (p := ⟨w.heap.size + 1 + 1, 0, none⟩) (by simp; omega) _⟩⟩, by simp [intOf]⟩
      · have hzb : (cE 2 == 0) = false := by simpa using hz
        have HZ : RowKit.Hid (R = cE 2) := Lib.hid (HF.out 2 (by omega) HI.out.no hz)
        go_wp2_with (go_at_call 105; refine (H2.out (HI.out.no 0 (by omega)) _ HI.out.bel).mono ?_; rintro e W4 ⟨rfl, hb4⟩; obtain ⟨z1, z2⟩ := hcell W4 hb4; clear hcell)
        rw [Exit.noGoto_ret]
        exact fin_check (fun W h => by simp [results, Tryz.f32, go_sem, h.blk.cell 0 _ rfl]) (bx_set (HI.out.fd.later hb4) _) (bx_other ((bx_grown HR3.out.1 HI.out.kp (by omega)).later hb4) (by simp) _) ((bstep HI.out.bel hb4).setCell (p := ⟨w.heap.size + 1 + 1, 0, none⟩) (by simp; omega) _) (by omega) HZ.out
    · have hc := (blk_grown HC3.out HI.out.kp (by omega)).cell 3 _ rfl
      by_cases hz : cE 3 = 0
      · have hzb : (cE 3 == 0) = true := by simpa using hz
        have HZ := Lib.hid hz
        rw [hz] at H3
        clear hz
        go_wp2_with (go_at_call 106; refine (H3.out _ HI.out.bel).mono ?_; rintro e W4 ⟨rfl, hb4⟩; obtain ⟨z1, z2⟩ := hcell W4 hb4; clear hcell)
        exact ⟨⟨4, by omega, rfl, ⟨fun j hj => by rcases Nat.lt_succ_iff_lt_or_eq.1 hj with h | h; exact HI.out.no j h; rw [h]; exact HZ.out, bx_set (HI.out.fd.later hb4) _, grown_step HI.out.kp hb4 _, (bstep HI.out.bel hb4).setCell (p := ⟨w.heap.size + 1 + 1, 0, none⟩) (by simp; omega) _⟩⟩, by simp [intOf]⟩
      · have hzb : (cE 3 == 0) = false := by simpa using hz
        have HZ : RowKit.Hid (R = cE 3) := Lib.hid (HF.out 3 (by omega) HI.out.no hz)
        go_wp2_with (go_at_call 106; refine (H3.out _ HI.out.bel).mono ?_; rintro e W4 ⟨rfl, hb4⟩; obtain ⟨z1, z2⟩ := hcell W4 hb4; clear hcell)
        rw [Exit.noGoto_ret]
        exact fin_check (fun W h => by simp [results, Tryz.f32, go_sem, h.blk.cell 0 _ rfl]) (bx_set (HI.out.fd.later hb4) _) (bx_other ((bx_grown HR3.out.1 HI.out.kp (by omega)).later hb4) (by simp) _) ((bstep HI.out.bel hb4).setCell (p := ⟨w.heap.size + 1 + 1, 0, none⟩) (by simp; omega) _) (by omega) HZ.out
    · have hc := (blk_grown HC3.out HI.out.kp (by omega)).cell 4 _ rfl
      by_cases hz : cE 4 = 0
      · have hzb : (cE 4 == 0) = true := by simpa using hz
        have HZ := Lib.hid hz
        rw [hz] at H4
        clear hz
        go_wp2_with (go_at_call 107; refine (H4.out _ HI.out.bel).mono ?_; rintro e W4 ⟨rfl, hb4⟩; obtain ⟨z1, z2⟩ := hcell W4 hb4; clear hcell)
        exact ⟨⟨5, by omega, rfl, ⟨fun j hj => by rcases Nat.lt_succ_iff_lt_or_eq.1 hj with h | h; exact HI.out.no j h; rw [h]; exact HZ.out, bx_set (HI.out.fd.later hb4) _, grown_step HI.out.kp hb4 _, (bstep HI.out.bel hb4).setCell (p := ⟨w.heap.size + 1 + 1, 0, none⟩) (by simp; omega) _⟩⟩, by simp [intOf]⟩
      · have hzb : (cE 4 == 0) = false := by simpa using hz
        have HZ : RowKit.Hid (R = cE 4) := Lib.hid (HF.out 4 (by omega) HI.out.no hz)
        go_wp2_with (go_at_call 107; refine (H4.out _ HI.out.bel).mono ?_; rintro e W4 ⟨rfl, hb4⟩; obtain ⟨z1, z2⟩ := hcell W4 hb4; clear hcell)
        rw [Exit.noGoto_ret]
        exact fin_check (fun W h => by simp [results, Tryz.f32, go_sem, h.blk.cell 0 _ rfl]) (bx_set (HI.out.fd.later hb4) _) (bx_other ((bx_grown HR3.out.1 HI.out.kp (by omega)).later hb4) (by simp) _) ((bstep HI.out.bel hb4).setCell (p := ⟨w.heap.size + 1 + 1, 0, none⟩) (by simp; omega) _) (by omega) HZ.out
    · have hc := (blk_grown HC3.out HI.out.kp (by omega)).cell 5 _ rfl
      by_cases hz : cE 5 = 0
      · have hzb : (cE 5 == 0) = true := by simpa using hz
        have HZ := Lib.hid hz
        rw [hz] at H5
        clear hz
        go_wp2_with (go_at_call 108; refine (H5.out _ HI.out.bel).mono ?_; rintro e W4 ⟨rfl, hb4⟩; obtain ⟨z1, z2⟩ := hcell W4 hb4; clear hcell)
        exact ⟨⟨6, by omega, rfl, ⟨fun j hj => by rcases Nat.lt_succ_iff_lt_or_eq.1 hj with h | h; exact HI.out.no j h; rw [h]; exact HZ.out, bx_set (HI.out.fd.later hb4) _, grown_step HI.out.kp hb4 _, (bstep HI.out.bel hb4).setCell (p := ⟨w.heap.size + 1 + 1, 0, none⟩) (by simp; omega) _⟩⟩, by simp [intOf]⟩
      · have hzb : (cE 5 == 0) = false := by simpa using hz
        have HZ : RowKit.Hid (R = cE 5) := Lib.hid (HF.out 5 (by omega) HI.out.no hz)
        go_wp2_with (go_at_call 108; refine (H5.out _ HI.out.bel).mono ?_; rintro e W4 ⟨rfl, hb4⟩; obtain ⟨z1, z2⟩ := hcell W4 hb4; clear hcell)
        rw [Exit.noGoto_ret]
        exact fin_check (fun W h => by simp [results, Tryz.f32, go_sem, h.blk.cell 0 _ rfl]) (bx_set (HI.out.fd.later hb4) _) (bx_other ((bx_grown HR3.out.1 HI.out.kp (by omega)).later hb4) (by simp) _) ((bstep HI.out.bel hb4).setCell (p := ⟨w.heap.size + 1 + 1, 0, none⟩) (by simp; omega) _) (by omega) HZ.out
    · have hc := (blk_grown HC3.out HI.out.kp (by omega)).cell 6 _ rfl
      by_cases hz : cE 6 = 0
      · have hzb : (cE 6 == 0) = true := by simpa using hz
        have HZ := Lib.hid hz
        rw [hz] at H6
        clear hz
        go_wp2_with (go_at_call 109; refine (H6.out _ HI.out.bel).mono ?_; rintro e W4 ⟨rfl, hb4⟩; obtain ⟨z1, z2⟩ := hcell W4 hb4; clear hcell)
        exact ⟨⟨7, by omega, rfl, ⟨fun j hj => by rcases Nat.lt_succ_iff_lt_or_eq.1 hj with h | h; exact HI.out.no j h; rw [h]; exact HZ.out, bx_set (HI.out.fd.later hb4) _, grown_step HI.out.kp hb4 _, (bstep HI.out.bel hb4).setCell (p := ⟨w.heap.size + 1 + 1, 0, none⟩) (by simp; omega) _⟩⟩, by simp [intOf]⟩
      · have hzb : (cE 6 == 0) = false := by simpa using hz
        have HZ : RowKit.Hid (R = cE 6) := Lib.hid (HF.out 6 (by omega) HI.out.no hz)
        go_wp2_with (go_at_call 109; refine (H6.out _ HI.out.bel).mono ?_; rintro e W4 ⟨rfl, hb4⟩; obtain ⟨z1, z2⟩ := hcell W4 hb4; clear hcell)
        rw [Exit.noGoto_ret]
        exact fin_check (fun W h => by simp [results, Tryz.f32, go_sem, h.blk.cell 0 _ rfl]) (bx_set (HI.out.fd.later hb4) _) (bx_other ((bx_grown HR3.out.1 HI.out.kp (by omega)).later hb4) (by simp) _) ((bstep HI.out.bel hb4).setCell (p := ⟨w.heap.size + 1 + 1, 0, none⟩) (by simp; omega) _) (by omega) HZ.out
    · have HZ : RowKit.Hid (R = 0) := Lib.hid (HN.out HI.out.no)
      go_wp2
      rw [Exit.noGoto_ret]
      exact fin_check (fun W h => by simp [results, Tryz.f32, go_sem, h.blk.cell 0 _ rfl]) HI.out.fd (bx_grown HR3.out.1 HI.out.kp (by omega)) HI.out.bel (by omega) HZ.out
end Go.Proofs.YtdoioaeppepndaaGreatDoor
