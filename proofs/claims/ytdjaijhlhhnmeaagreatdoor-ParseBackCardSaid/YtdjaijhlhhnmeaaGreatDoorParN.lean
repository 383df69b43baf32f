/- Walks: reading a whole text: the fault that stops is recovered. Made by program (wip/tools/gen_parN.py). -/
import Derived.Test.YtdjaijhlhhnmeaaGreatDoorParM
import Derived.Test.YtdjaijhlhhnmeaaGreatDoorPMt
import Derived.Defers
import Derived.Recover
namespace Go.Proofs.YtdjaijhlhhnmeaaGreatDoor
open Go.RowKit
open A8 Tk7 P9

theorem assert_stop (y : F) (w : World) : (Instr.typeAssert (.iface 105 (.agg #[.int .i64 y.1, .int .i64 (y.2 : Int)])) 20 105 true).run Tryz.prog w = .ok (.tuple #[.agg #[.int .i64 y.1, .int .i64 (y.2 : Int)], .bool true]) w := by kernel_rfl
theorem assert_nil (w : World) : (Instr.typeAssert .nilIface 20 105 true).run Tryz.prog w = .ok (.tuple #[.agg #[.int .i64 0, .int .i64 0], .bool false]) w := by kernel_rfl
/-- What reading a text gives. -/
def RdP (w : World) {α : Type} (x : Except F α) (z : List Value) (V : World → α → Value → Prop) (e : Ending) (w' : World) : Prop :=
  Below w.heap.size w w' ∧ (∀ y, x = .error y → e = .returned (.tuple #[.agg z.toArray, .agg #[.int .i64 y.1, .int .i64 (y.2 : Int)]])) ∧ ∀ a, x = .ok a → ∃ v, e = .returned (.tuple #[v, .agg #[.int .i64 0, .int .i64 0]]) ∧ V (hide (fun k => decide (k < w.heap.size)) w') a v
theorem toksP_fault {t : List UInt8} {y : F} (h : toksP t = .error y) : y.1 = 3 ∨ y.1 = 4 := by
  unfold toksP at h
  split at h
  · cases h
    exact .inr rfl
  · exact .inl (fault_of t.length t 0 y (Nat.le_refl _) h).1
theorem toks_ok9 {t : List UInt8} {ts : List T} (h : toksP t = .ok ts) (v : Value) : Ok9 ⟨v, ts, t.length⟩ := by
  unfold toksP at h
  split at h
  · cases h
  · rename_i hl
    have hL := laid_of t.length t 0 ts (Nat.le_refl _) h
    have h1 := laid_tok ts t 0 hL
    have h2 := laid_len ts t 0 hL
    have hlen : ∀ x ∈ ts, x.2.1.length ≤ t.length := fun x hx => by
      have := laid_at ts t 0 hL x hx
      omega
    have hcnt : ts.length ≤ (ts.map fun t => t.2.1.length).sum := by
      clear hL h2 hlen h
      induction ts with
      | nil => simp
      | cons x xs ih =>
        have h3 := h1 x (by simp)
        have h4 := ih (fun y hy => h1 y (List.mem_cons_of_mem _ hy))
        have h5 : x.2.1 ≠ [] := (isTok_iff.1 h3).2
        have h6 := List.length_pos_iff.2 h5
        simp only [List.map_cons, List.sum_cons, List.length_cons]
        omega
    refine ⟨h1, fun x hx => ?_, fun x hx => ?_, ?_, ?_⟩
    · have := laid_at ts t 0 hL x hx
      omega
    · have := hlen x hx
      omega
    · show ts.length < _
      omega
    · show t.length < _
      omega
theorem tcells_is (ts : List T) : tcells (ts.map okX) = ts.flatMap tkC := by
  unfold tcells
  rw [List.flatMap_map]
  rfl
theorem qw_le {W W' : World} {G : GQ} (h : QW W G) (hl : Le W W') : QW W' G := ⟨trW_le h.tr hl, h.wi, sl_le h.hv hl, sl_le h.em hl, h.okh, h.oke⟩
theorem two_size {w7 V : World} {R F : Nat} (hk : ∀ k, k ≠ R → k ≠ F → V.heap[k]? = w7.heap[k]?) (hR2 : R < V.heap.size) (hF2 : F < V.heap.size) : w7.heap.size ≤ V.heap.size := by
  rcases Nat.lt_or_ge V.heap.size w7.heap.size with h | h
  · have h1 := hk V.heap.size (by omega) (by omega)
    rw [Array.getElem?_eq_none (Nat.le_refl _), Array.getElem?_eq_getElem h] at h1
    cases h1
  · exact h
theorem named_postD {P : Program} {f : Func} {Q : Ending → World → Prop} {x : Exit} {a : Act} {w : World} (h : ∀ W, W = w → bodyPostD P f Q x a W) : bodyPostD P f Q x a w := h w rfl
theorem only_blk {w V : World} {R k : Nat} {us : List Value} (h : Blk w k us) (ho : Only R w V) (hne : k ≠ R) : Blk V k us := by
  have hh := ho.block k hne
  exact ⟨by rw [ho.size]; exact h.lt, fun i v hv => (World.cell?_of_block (w := w) (a := ⟨k, i, none⟩) hh).trans (h.cell i v hv), fun i v hv => (World.frozen?_of_block (w := w) (a := ⟨k, i, none⟩) hh).trans (h.fr i v hv)⟩
theorem two_fill {w W V : World} {R F : Nat} {zs fs us vs : List Value} (hb : Below w.heap.size w W) (hR0 : w.heap.size ≤ R) (hF0 : w.heap.size ≤ F) (hR : Blk W R zs) (hF : Blk W F fs) (hne : R ≠ F) (hl : us.length = zs.length) (hl2 : vs.length = fs.length) (hV : V = (fillW (fillW W R 0 us) F 0 vs).drew ∨ V = (fillW (fillW W F 0 vs) R 0 us).drew ∨ V = fillW (fillW W R 0 us) F 0 vs) :
    Blk V R us ∧ Blk V F vs ∧ Below w.heap.size w V ∧ ∀ k, k ≠ R → k ≠ F → V.heap[k]? = W.heap[k]? := by
  rcases hV with rfl | rfl | rfl
  · obtain ⟨h1, h2⟩ := res_out hR hl rfl
    obtain ⟨h3, h4⟩ := res_out (only_blk hF h2 hne.symm) hl2 rfl
    exact ⟨(only_blk h1 h4 hne).drew, h3.drew, ((hb.trans (h2.below.mono hR0)).trans (h4.below.mono hF0)).drew, fun k k1 k2 => (h4.block k k2).trans (h2.block k k1)⟩
  · obtain ⟨h1, h2⟩ := res_out hF hl2 rfl
    obtain ⟨h3, h4⟩ := res_out (only_blk hR h2 hne) hl rfl
    exact ⟨h3.drew, (only_blk h1 h4 hne.symm).drew, ((hb.trans (h2.below.mono hF0)).trans (h4.below.mono hR0)).drew, fun k k1 k2 => (h4.block k k1).trans (h2.block k k2)⟩
  · obtain ⟨h1, h2⟩ := res_out hR hl rfl
    obtain ⟨h3, h4⟩ := res_out (only_blk hF h2 hne.symm) hl2 rfl
    exact ⟨only_blk h1 h4 hne, h3, (hb.trans (h2.below.mono hR0)).trans (h4.below.mono hF0), fun k k1 k2 => (h4.block k k2).trans (h2.block k k1)⟩
/-- The reader, newly made. -/
theorem at9_new {w W3 : World} {t : List UInt8} {ts : List T} {v : Value} (ht : toksP t = .ok ts) (hb : Below w.heap.size w W3) (hG : SG w) (hE : ER w) (hs : Sl W3 3 ts.length v (ts.flatMap tkC)) :
    At9 (W3.alloc (.cells #[v, .int .i64 0, .int .i64 (t.length : Int)] 110)) W3.heap.size ⟨v, ts, t.length⟩ ts := by
  have hin : Le W3 (hide (fun k => k == W3.heap.size) (W3.alloc (.cells #[v, .int .i64 0, .int .i64 (t.length : Int)] 110))) := hide_in (by simp) fun k hk => ⟨by simp; omega, (b1 W3 _).block k hk⟩
  exact ⟨toks_ok9 ht v, ⟨0, Nat.zero_le _, rfl, Blk.is (us := [v, .int .i64 0, .int .i64 (t.length : Int)]) _ rfl⟩, sl_le hs hin, (hG.later hb).le hin, (hE.later hb).le hin⟩
abbrev atZ : List Value := [.int .i64 0, .bool false, .int .u64 0, .slice none 0 0, .string ⟨#[]⟩]
theorem catchQ_stop (R : Nat) (y : F) (w : World) (x0 x1 : Value) (hR : Blk w R [x0, x1]) :
    CallsD Tryz.prog 64 #[.pointer (some ⟨R, 0, none⟩)] (.panicking [stopV y]) w fun e u' w' =>
      e = .returned (.tuple #[]) ∧ u' = .panicking [{ v := .iface 105 (.agg #[.int .i64 y.1, .int .i64 (y.2 : Int)]), recovered := true }] ∧ w' = ((w.setCell ⟨R, 0, none⟩ (.int .i64 y.1)).setCell ⟨R, 1, none⟩ (.int .i64 (y.2 : Int))).alloc (.cells #[.int .i64 y.1, .int .i64 (y.2 : Int)] 105) := by
  have hA := assert_stop y
  have hf0 := hR.fr 0 _ rfl
  have hf1 := hR.fr 1 _ rfl
  have hc0 := hR.cell 0 _ rfl
  have hc1 := hR.cell 1 _ rfl
  have hlt := hR.lt
  refine callsD_of_wpS Tryz.func64 rfl fun c₀ cs hu => ?_
  apply wpS_seq
  apply wpS_region
  simp [wpOpsS, go_sem, recoverD, hu, Tryz.ntmps64, Exit.thenS, stopV, hA]
  apply wpS_seq
  apply wpS_region
  simp [wpOpsS, go_sem, Exit.thenS]
  refine wpS_cond (t := true) (by simp [Act.eval, Array.replicate]) ?_
  simp only [if_true]
  apply wpS_region
  simp [wpOpsS, go_sem, bodyPostS, results, Tryz.results64, hf0, hf1, hc0, hc1, hlt]
theorem catchQ_idle (R : Nat) (w : World) :
    CallsD Tryz.prog 64 #[.pointer (some ⟨R, 0, none⟩)] .returning w fun e u' w' =>
      e = .returned (.tuple #[]) ∧ u' = .returning ∧ w' = w.alloc (.cells #[.int .i64 0, .int .i64 0] 105) := by
  have hA := assert_nil
  refine callsD_of_wpS Tryz.func64 rfl fun c₀ cs hu => ?_
  apply wpS_seq
  apply wpS_region
  simp [wpOpsS, go_sem, recoverD, hu, Tryz.ntmps64, Exit.thenS, hA]
  apply wpS_seq
  apply wpS_region
  simp [wpOpsS, go_sem, Exit.thenS]
  refine wpS_cond (t := false) (by simp [Act.eval, Array.replicate]) ?_
  simp only [Bool.false_eq_true, if_false]
  refine wpS_of_wp (wp_skip ?_)
  cases c₀
  simp_all [bodyPostS, results, Tryz.results64]
set_option maxRecDepth 100000 in
set_option maxHeartbeats 4000000 in
theorem readQ (t : List UInt8) (w : World) (hG : SG w) (hE : ER w) :
    Calls Tryz.prog 34 #[.string (strOf t), .func (.func 35) #[] #[]] w (RdP w (parseP t) quZ IsQ) := by
  obtain ⟨W1, hW1⟩ : ∃ W1, W1 = (w.alloc (.cells quZ.toArray 33)).alloc (.cells [.int .i64 0, .int .i64 0].toArray 36) := ⟨_, rfl⟩
  have hb1 : Below w.heap.size w W1 := by rw [hW1]; exact b2 _ _ _
  have hs1 : W1.heap.size = w.heap.size + 2 := by rw [hW1]; simp
  have hR1 : Blk W1 w.heap.size quZ := by rw [hW1]; exact (Blk.is _ rfl).alloc _
  have hF1 : Blk W1 (w.heap.size + 1) [.int .i64 0, .int .i64 0] := by rw [hW1]; exact Blk.is _ (by simp)
  have hT := tokens_any t W1 (hG.later hb1)
  have htk : toksR t = toksP t := rfl
  cases ht : toksP t with
  | error y =>
    have hspec : parseP t = .error y := by unfold parseP wholeP; rw [ht]
    rw [hspec]
    obtain ⟨er, a⟩ := y
    have her : er = 3 ∨ er = 4 := toksP_fault ht
    have hz0 : (er == 0) = false := by rw [beq_eq_false_iff_ne]; omega
    have hz1 : ¬ er = 0 := by omega
    clear hspec
    go_enter_defers Tryz.func34, Tryz.ntmps34
    go_upto_region 1 with fail
    refine named_wp fun WW hWW => ?_
    obtain rfl : WW = W1 := hWW.trans hW1.symm
    clear hW1 hWW
    go_upto_region 3 with (go_at_call 63; refine hT.mono ?_; rintro e' w2 ⟨hb2, hcase⟩; have hR2 := hR1.later hb2; have hF2 := hF1.later hb2; have f0 := hF2.fr 0 _ rfl; have f1 := hF2.fr 1 _ rfl; have c0 := hF2.cell 0 _ rfl; have c1 := hF2.cell 1 _ rfl; obtain ⟨er', a', he1, rfl⟩ | ⟨ts', v', he1, _⟩ := hcase <;> rw [htk, ht] at he1 <;> cases he1)
    refine named_wp fun W3 hW3 => ?_
    obtain ⟨hF3, hO3⟩ := res_out (us := [.int .i64 er, .int .i64 (a : Int)]) hF2 rfl hW3
    have hR3 : Blk W3 w.heap.size quZ := by
      have hh := hO3.block w.heap.size (by omega)
      exact ⟨by rw [hO3.size]; exact hR2.lt, fun i v hv => (World.cell?_of_block (w := w2) (a := ⟨w.heap.size, i, none⟩) hh).trans (hR2.cell i v hv), fun i v hv => (World.frozen?_of_block (w := w2) (a := ⟨w.heap.size, i, none⟩) hh).trans (hR2.fr i v hv)⟩
    have hb3 : Below w.heap.size w W3 := (bstep hb1 hb2).trans (hO3.below.mono (by omega))
    clear hW3 f0 f1 c0 c1
    have r0 := hR3.cell 0 _ rfl
    have r1 := hR3.cell 1 _ rfl
    have r2 := hR3.cell 2 _ rfl
    have r3 := hR3.cell 3 _ rfl
    have r4 := hR3.cell 4 _ rfl
    have r5 := hR3.cell 5 _ rfl
    have r6 := hR3.cell 6 _ rfl
    have r7 := hR3.cell 7 _ rfl
    have r8 := hR3.cell 8 _ rfl
    have r9 := hR3.cell 9 _ rfl
    have r10 := hR3.cell 10 _ rfl
    have r11 := hR3.cell 11 _ rfl
    have s0 := hR3.fr 0 _ rfl
    have s1 := hR3.fr 1 _ rfl
    have s2 := hR3.fr 2 _ rfl
    have s3 := hR3.fr 3 _ rfl
    have s4 := hR3.fr 4 _ rfl
    have s5 := hR3.fr 5 _ rfl
    have s6 := hR3.fr 6 _ rfl
    have s7 := hR3.fr 7 _ rfl
    have s8 := hR3.fr 8 _ rfl
    have s9 := hR3.fr 9 _ rfl
    have s10 := hR3.fr 10 _ rfl
    have s11 := hR3.fr 11 _ rfl
    have c0 := hF3.cell 0 _ rfl
    have c1 := hF3.cell 1 _ rfl
    have f0 := hF3.fr 0 _ rfl
    have f1 := hF3.fr 1 _ rfl
    go_region
    all_goals
      go_wp2
      refine named_postD fun V hV => ?_
      obtain ⟨hVR, hVF, hVb, -⟩ := two_fill (us := quZ) (vs := [.int .i64 er, .int .i64 (a : Int)]) hb3 (Nat.le_refl _) (Nat.le_succ _) hR3 hF3 (by omega) rfl rfl (by first | exact .inl hV | exact .inr (.inl hV))
      clear hV r0 r1 r2 r3 r4 r5 r6 r7 r8 r9 r10 r11 s0 s1 s2 s3 s4 s5 s6 s7 s8 s9 s10 s11 c0 c1 f0 f1
      have c0 := hVR.cell 0 _ rfl
      have c1 := hVR.cell 1 _ rfl
      have c2 := hVR.cell 2 _ rfl
      have c3 := hVR.cell 3 _ rfl
      have c4 := hVR.cell 4 _ rfl
      have c5 := hVR.cell 5 _ rfl
      have c6 := hVR.cell 6 _ rfl
      have c7 := hVR.cell 7 _ rfl
      have c8 := hVR.cell 8 _ rfl
      have c9 := hVR.cell 9 _ rfl
      have c10 := hVR.cell 10 _ rfl
      have c11 := hVR.cell 11 _ rfl
      have d0 := hVF.cell 0 _ rfl
      have d1 := hVF.cell 1 _ rfl
      exact ⟨.tuple #[.agg quZ.toArray, .agg #[.int .i64 er, .int .i64 (a : Int)]], by simp [results, Tryz.results34, go_sem, c0, c1, c2, c3, c4, c5, c6, c7, c8, c9, c10, c11, d0, d1]; try rfl, hVb, (fun y hy => by cases hy; rfl), fun a ha => by cases ha⟩
  | ok ts =>
    obtain ⟨XX, hXX⟩ : ∃ XX, XX = parseP t := ⟨_, rfl⟩
    rw [← hXX]
    unfold parseP wholeP at hXX
    rw [ht] at hXX
    simp only at hXX
    have hsz : (strOf t).size = t.length := strOf_size t
    have HXX := Lib.hid hXX
    clear hXX
    go_enter_defers Tryz.func34, Tryz.ntmps34
    go_upto_region 1 with fail
    refine named_wp fun WW hWW => ?_
    obtain rfl : WW = W1 := hWW.trans hW1.symm
    clear hW1 hWW
    go_upto_region 2 with (go_at_call 63; refine hT.mono ?_; rintro e' w2 ⟨hb2, hcase⟩; have hR2 := hR1.later hb2; have hF2 := hF1.later hb2; have f0 := hF2.fr 0 _ rfl; have f1 := hF2.fr 1 _ rfl; have c0 := hF2.cell 0 _ rfl; have c1 := hF2.cell 1 _ rfl; obtain ⟨er', a', he1, rfl⟩ | ⟨ts', v, he1, rfl, hown⟩ := hcase <;> rw [htk, ht] at he1 <;> cases he1; rw [tcells_is] at hown; obtain ⟨vA, vc, rfl⟩ := own_form hown)
    refine named_wp fun W3 hW3 => ?_
    obtain ⟨hF3, hO3⟩ := res_out (us := [.int .i64 0, .int .i64 0]) hF2 rfl hW3
    have hR3 : Blk W3 w.heap.size quZ := only_blk hR2 hO3 (by omega)
    have hb3 : Below w.heap.size w W3 := (bstep hb1 hb2).trans (hO3.below.mono (by omega))
    have hs3 : Sl W3 3 ts.length (.slice vA ts.length vc) (ts.flatMap tkC) := by
      have hs := sl_row (P := fun k => decide (k < w.heap.size + 2)) hown (fun k hk => by simp only [decide_eq_false_iff_not]; omega)
      exact sl_le hs ((Tn.only hO3 (by omega)).out)
    have hA4 := at9_new ht hb3 hG hE hs3
    have hF4 := hF3.later (b1 W3 (.cells #[.slice vA ts.length vc, .int .i64 0, .int .i64 (t.length : Int)] 110))
    have hR4 := hR3.later (b1 W3 (.cells #[.slice vA ts.length vc, .int .i64 0, .int .i64 (t.length : Int)] 110))
    have hB4 : Below w.heap.size w (W3.alloc (.cells #[.slice vA ts.length vc, .int .i64 0, .int .i64 (t.length : Int)] 110)) := bstep hb3 (b1 _ _)
    have hlb : w.heap.size + 2 ≤ W3.heap.size := by have := hF3.lt; omega
    have hW4s : (W3.alloc (.cells #[.slice vA ts.length vc, .int .i64 0, .int .i64 (t.length : Int)] 110)).heap.size = W3.heap.size + 1 := by simp
    clear hW3 f0 f1 c0 c1 hown hs3
    have e0 := hF3.cell 0 _ rfl
    have hmf : ∀ (fn : Fn) (first cap : Array Value) (w : World), (Instr.makeFunc fn first cap).run Tryz.prog w = .ok (.func fn first cap) w := fun _ _ _ _ => rfl
    go_upto_region 6 with fail
    refine named_wp fun W4 hW4 => ?_
    rw [show W3.alloc (.cells #[.slice vA ts.length vc, .int .i64 0, .int .i64 (t.length : Int)] 110) = W4 from hW4.symm] at hA4 hF4 hR4 hB4 hW4s
    clear hW4 e0
    have hgt : ∀ {w' : World}, W4.grownBy w' (some W3.heap.size) → Below w.heap.size w w' := fun hg => hB4.grown hg hB4.size fun k e => by cases e; omega
    have hFn : some (w.heap.size + 1) ≠ some W3.heap.size := fun e => by injection e with e; omega
    have hRn : some w.heap.size ≠ some W3.heap.size := fun e => by injection e with e; omega
    have hQ := query9 (ts.length + 1) hA4 (Nat.lt_succ_self _)
    cases hq : queryP t.length (ts.length + 1) ts with
    | error y =>
      have hxx := HXX.out
      rw [hq] at hxx
      replace HXX := Lib.hid (show XX = .error y from hxx)
      rw [hq] at hQ
      clear hxx hq
      go_wp2_with (go_at_call 35; refine hQ.mono ?_; intro e' w5 ho; obtain ⟨hg5, rfl⟩ := out_e ho)
      have hF5 := hF4.grown hg5 hFn
      have hR5 := hR4.grown hg5 hRn
      refine leaves_cons (f := 64) (args := #[.pointer (some ⟨w.heap.size + 1, 0, none⟩)]) (by simp) (by simp [go_sem]) ?_
      refine (catchQ_stop (w.heap.size + 1) y _ _ _ hF5).mono ?_
      rintro e u' w6 ⟨rfl, rfl, hw6⟩
      have hw6' : w6 = (fillW w5 (w.heap.size + 1) 0 [.int .i64 y.1, .int .i64 (y.2 : Int)]).alloc (.cells #[.int .i64 y.1, .int .i64 (y.2 : Int)] 105) := hw6
      obtain ⟨hF6, hO6⟩ := res_out (us := [.int .i64 y.1, .int .i64 (y.2 : Int)]) hF5 rfl rfl
      have hR6 := only_blk hR5 hO6 (by omega)
      have hVF : Blk w6 (w.heap.size + 1) [.int .i64 y.1, .int .i64 (y.2 : Int)] := by rw [hw6']; exact hF6.alloc _
      have hVR : Blk w6 w.heap.size quZ := by rw [hw6']; exact hR6.alloc _
      have hVb : Below w.heap.size w w6 := by rw [hw6']; exact bstep ((hgt hg5).trans (hO6.below.mono (by omega))) (b1 _ _)
      clear hw6 hw6'
      have c0 := hVR.cell 0 _ rfl
      have c1 := hVR.cell 1 _ rfl
      have c2 := hVR.cell 2 _ rfl
      have c3 := hVR.cell 3 _ rfl
      have c4 := hVR.cell 4 _ rfl
      have c5 := hVR.cell 5 _ rfl
      have c6 := hVR.cell 6 _ rfl
      have c7 := hVR.cell 7 _ rfl
      have c8 := hVR.cell 8 _ rfl
      have c9 := hVR.cell 9 _ rfl
      have c10 := hVR.cell 10 _ rfl
      have c11 := hVR.cell 11 _ rfl
      have d0 := hVF.cell 0 _ rfl
      have d1 := hVF.cell 1 _ rfl
      exact ⟨.tuple #[.agg quZ.toArray, .agg #[.int .i64 y.1, .int .i64 (y.2 : Int)]], by simp [results, Tryz.results34, go_sem, c0, c1, c2, c3, c4, c5, c6, c7, c8, c9, c10, c11, d0, d1]; try rfl, hVb, (fun y' hy => by rw [HXX.out] at hy; cases hy; rfl), fun a ha => by rw [HXX.out] at ha; cases ha⟩
    | ok ar =>
      obtain ⟨q, r⟩ := ar
      rw [hq] at hQ
      have hxx := HXX.out
      rw [hq] at hxx
      replace HXX := Lib.hid hxx
      clear hxx hq
      have hME := fun w' (ha : At9 w' W3.heap.size ⟨.slice vA ts.length vc, ts, t.length⟩ r) => mustEnd_any ha
      go_upto_region 7 with (go_at_call 35; refine hQ.mono ?_; intro e' w5 ho; obtain ⟨hg5, v5, rfl, hv5, ha5⟩ := out_o ho; clear ho; obtain ⟨⟨⟨tk, tmn, tmx, ⟨⟨akd, abd, abn, acs, anm⟩, asc⟩, tsk, tks⟩, qwi, qsh, qhv, qse, qem⟩, hqq, hqw, hv6⟩ := hv5; obtain ⟨⟨qA, qn, qc, rfl⟩, ⟨rA, rn, rc, rfl⟩⟩ := tr_form (show ndK.E _ _ from hqw.tr); obtain ⟨sA, sn, sc, rfl⟩ := sl_form hqw.hv; obtain ⟨uA, un, uc, rfl⟩ := sl_form hqw.em; have hv7 : v5 = .agg (quV (ndV tk tmn tmx akd abd abn (.slice qA qn qc) anm (.slice rA rn rc)) qwi (.slice sA sn sc) (.slice uA un uc)).toArray := hv6; subst hv7; clear hv6)
      have hF5 := hF4.grown hg5 hFn
      have hR5 := hR4.grown hg5 hRn
      refine named_wp fun W6 hW6 => ?_
      have hb6 : Below w5.heap.size w5 W6 := by rw [hW6]; exact b1 _ _
      have hK6 : Blk W6 w5.heap.size (quV (ndV tk tmn tmx akd abd abn (.slice qA qn qc) anm (.slice rA rn rc)) qwi (.slice sA sn sc) (.slice uA un uc)) := by rw [hW6]; exact Blk.is (us := (quV (ndV tk tmn tmx akd abd abn (.slice qA qn qc) anm (.slice rA rn rc)) qwi (.slice sA sn sc) (.slice uA un uc))) _ rfl
      have hs6 : W6.heap.size = w5.heap.size + 1 := by rw [hW6]; simp
      clear hW6
      have hM := hME W6 (ha5.later hb6)
      have hsz5 := hg5.size
      have hF6 := hF5.later hb6
      have hR6 := hR5.later hb6
      cases r with
      | cons t0 r0 =>
        have hxx := HXX.out
        replace HXX := Lib.hid (show XX = .error (wrongP t.length (t0 :: r0)) from hxx)
        clear hxx
        obtain ⟨y, hy⟩ : ∃ y, y = wrongP t.length (t0 :: r0) := ⟨_, rfl⟩
        rw [← hy] at HXX hM
        clear hy
        go_wp2_with (go_at_call 65; refine hM.mono ?_; rintro e' w7 ⟨⟨m, hb7⟩, -, he7⟩; obtain rfl := he7 (fun e => by cases e))
        have hb67 : Below W6.heap.size W6 w7 := (below_drewN (Below.refl _ _) m).trans hb7
        have hF7 := hF6.later hb67
        have hR7 := hR6.later hb67
        refine leaves_cons (f := 64) (args := #[.pointer (some ⟨w.heap.size + 1, 0, none⟩)]) (by simp) (by simp [go_sem]) ?_
        refine (catchQ_stop (w.heap.size + 1) y _ _ _ hF7).mono ?_
        rintro e u' w8 ⟨rfl, rfl, hw8⟩
        have hw8' : w8 = (fillW w7 (w.heap.size + 1) 0 [.int .i64 y.1, .int .i64 (y.2 : Int)]).alloc (.cells #[.int .i64 y.1, .int .i64 (y.2 : Int)] 105) := hw8
        obtain ⟨hF8, hO8⟩ := res_out (us := [.int .i64 y.1, .int .i64 (y.2 : Int)]) hF7 rfl rfl
        have hR8 := only_blk hR7 hO8 (by omega)
        have hVF : Blk w8 (w.heap.size + 1) [.int .i64 y.1, .int .i64 (y.2 : Int)] := by rw [hw8']; exact hF8.alloc _
        have hVR : Blk w8 w.heap.size quZ := by rw [hw8']; exact hR8.alloc _
        have hVb : Below w.heap.size w w8 := by rw [hw8']; exact bstep ((bstep (bstep (hgt hg5) hb6) hb67).trans (hO8.below.mono (by omega))) (b1 _ _)
        clear hw8 hw8'
        have c0 := hVR.cell 0 _ rfl
        have c1 := hVR.cell 1 _ rfl
        have c2 := hVR.cell 2 _ rfl
        have c3 := hVR.cell 3 _ rfl
        have c4 := hVR.cell 4 _ rfl
        have c5 := hVR.cell 5 _ rfl
        have c6 := hVR.cell 6 _ rfl
        have c7 := hVR.cell 7 _ rfl
        have c8 := hVR.cell 8 _ rfl
        have c9 := hVR.cell 9 _ rfl
        have c10 := hVR.cell 10 _ rfl
        have c11 := hVR.cell 11 _ rfl
        have d0 := hVF.cell 0 _ rfl
        have d1 := hVF.cell 1 _ rfl
        exact ⟨.tuple #[.agg quZ.toArray, .agg #[.int .i64 y.1, .int .i64 (y.2 : Int)]], by simp [results, Tryz.results34, go_sem, c0, c1, c2, c3, c4, c5, c6, c7, c8, c9, c10, c11, d0, d1]; try rfl, hVb, (fun y' hy => by rw [HXX.out] at hy; cases hy; rfl), fun a ha => by rw [HXX.out] at ha; cases ha⟩
      | nil =>
        have hxx := HXX.out
        replace HXX := Lib.hid (show XX = .ok q from hxx)
        clear hxx
        go_wp2_with (go_at_call 65; refine hM.mono ?_; rintro e' w7 ⟨⟨m, hb7⟩, he7, -⟩; obtain rfl := he7 rfl; have hb67 : Below W6.heap.size W6 w7 := (below_drewN (Below.refl _ _) m).trans hb7; have hF7 := hF6.later hb67; have hR7 := hR6.later hb67; have hK7 := hK6.later hb67; have k0 := hK7.cell 0 _ rfl; have k1 := hK7.cell 1 _ rfl; have k2 := hK7.cell 2 _ rfl; have k3 := hK7.cell 3 _ rfl; have k4 := hK7.cell 4 _ rfl; have k5 := hK7.cell 5 _ rfl; have k6 := hK7.cell 6 _ rfl; have k7 := hK7.cell 7 _ rfl; have k8 := hK7.cell 8 _ rfl; have k9 := hK7.cell 9 _ rfl; have k10 := hK7.cell 10 _ rfl; have k11 := hK7.cell 11 _ rfl; have r0 := hR7.cell 0 _ rfl; have r1 := hR7.cell 1 _ rfl; have r2 := hR7.cell 2 _ rfl; have r3 := hR7.cell 3 _ rfl; have r4 := hR7.cell 4 _ rfl; have r5 := hR7.cell 5 _ rfl; have r6 := hR7.cell 6 _ rfl; have r7 := hR7.cell 7 _ rfl; have r8 := hR7.cell 8 _ rfl; have r9 := hR7.cell 9 _ rfl; have r10 := hR7.cell 10 _ rfl; have r11 := hR7.cell 11 _ rfl; have s0 := hR7.fr 0 _ rfl; have s1 := hR7.fr 1 _ rfl; have s2 := hR7.fr 2 _ rfl; have s3 := hR7.fr 3 _ rfl; have s4 := hR7.fr 4 _ rfl; have s5 := hR7.fr 5 _ rfl; have s6 := hR7.fr 6 _ rfl; have s7 := hR7.fr 7 _ rfl; have s8 := hR7.fr 8 _ rfl; have s9 := hR7.fr 9 _ rfl; have s10 := hR7.fr 10 _ rfl; have s11 := hR7.fr 11 _ rfl; have c0 := hF7.cell 0 _ rfl; have c1 := hF7.cell 1 _ rfl; have f0 := hF7.fr 0 _ rfl; have f1 := hF7.fr 1 _ rfl)
        refine named_postD fun V hV => ?_
        have hb7' := bstep (bstep (hgt hg5) hb6) hb67
        obtain ⟨hVR, hVF, hVb, hVk⟩ := two_fill (us := (quV (ndV tk tmn tmx akd abd abn (.slice qA qn qc) anm (.slice rA rn rc)) qwi (.slice sA sn sc) (.slice uA un uc))) (vs := [.int .i64 0, .int .i64 0]) hb7' (Nat.le_refl _) (Nat.le_succ _) hR7 hF7 (by omega) rfl rfl (by first | exact .inr (.inr hV) | exact .inl hV | exact .inr (.inl hV))
        clear hV r0 r1 r2 r3 r4 r5 r6 r7 r8 r9 r10 r11 s0 s1 s2 s3 s4 s5 s6 s7 s8 s9 s10 s11 k0 k1 k2 k3 k4 k5 k6 k7 k8 k9 k10 k11 c0 c1 f0 f1
        refine leaves_cons (f := 64) (args := #[.pointer (some ⟨w.heap.size + 1, 0, none⟩)]) (by simp) (by simp [go_sem]) ?_
        refine (catchQ_idle (w.heap.size + 1) V).mono ?_
        rintro e u' w8 ⟨rfl, rfl, hw8⟩
        have hb8 : Below V.heap.size V w8 := by rw [hw8]; exact b1 _ _
        have hVR8 := hVR.later hb8
        have hVF8 := hVF.later hb8
        have hlast : Le (hide (fun k => decide (k < W4.heap.size)) w5) (hide (fun k => decide (k < w.heap.size)) w8) := by
          have hvs : w7.heap.size ≤ V.heap.size := by
            exact two_size hVk hVR.lt hVF.lt
          refine hide_le (Nat.le_trans (Nat.le_trans hb6.size hb67.size) (Nat.le_trans hvs hb8.size)) fun k hk hx => ?_
          simp only [decide_eq_false_iff_not] at hx ⊢
          refine ⟨by omega, ?_⟩
          have k6 : k < W6.heap.size := by omega
          have k7 : k < w7.heap.size := Nat.lt_of_lt_of_le k6 hb67.size
          exact (hb8.block k (by omega)).trans ((hVk k (by omega) (by omega)).trans ((hb67.block k k6).trans (hb6.block k hk)))
        clear hw8
        have c0 := hVR8.cell 0 _ rfl
        have c1 := hVR8.cell 1 _ rfl
        have c2 := hVR8.cell 2 _ rfl
        have c3 := hVR8.cell 3 _ rfl
        have c4 := hVR8.cell 4 _ rfl
        have c5 := hVR8.cell 5 _ rfl
        have c6 := hVR8.cell 6 _ rfl
        have c7 := hVR8.cell 7 _ rfl
        have c8 := hVR8.cell 8 _ rfl
        have c9 := hVR8.cell 9 _ rfl
        have c10 := hVR8.cell 10 _ rfl
        have c11 := hVR8.cell 11 _ rfl
        have d0 := hVF8.cell 0 _ rfl
        have d1 := hVF8.cell 1 _ rfl
        exact ⟨.tuple #[.agg (quV (ndV tk tmn tmx akd abd abn (.slice qA qn qc) anm (.slice rA rn rc)) qwi (.slice sA sn sc) (.slice uA un uc)).toArray, .agg #[.int .i64 0, .int .i64 0]], by simp [results, Tryz.results34, go_sem, c0, c1, c2, c3, c4, c5, c6, c7, c8, c9, c10, c11, d0, d1]; try rfl, bstep hVb hb8, (fun y hy => by rw [HXX.out] at hy; cases hy), fun a ha => by rw [HXX.out] at ha; cases ha; exact ⟨_, rfl, ⟨_, hqq, qw_le hqw hlast, rfl⟩⟩⟩
theorem catchN_stop (R : Nat) (y : F) (w : World) (x0 x1 : Value) (hR : Blk w R [x0, x1]) :
    CallsD Tryz.prog 86 #[.pointer (some ⟨R, 0, none⟩)] (.panicking [stopV y]) w fun e u' w' =>
      e = .returned (.tuple #[]) ∧ u' = .panicking [{ v := .iface 105 (.agg #[.int .i64 y.1, .int .i64 (y.2 : Int)]), recovered := true }] ∧ w' = ((w.setCell ⟨R, 0, none⟩ (.int .i64 y.1)).setCell ⟨R, 1, none⟩ (.int .i64 (y.2 : Int))).alloc (.cells #[.int .i64 y.1, .int .i64 (y.2 : Int)] 105) := by
  have hA := assert_stop y
  have hf0 := hR.fr 0 _ rfl
  have hf1 := hR.fr 1 _ rfl
  have hc0 := hR.cell 0 _ rfl
  have hc1 := hR.cell 1 _ rfl
  have hlt := hR.lt
  refine callsD_of_wpS Tryz.func86 rfl fun c₀ cs hu => ?_
  apply wpS_seq
  apply wpS_region
  simp [wpOpsS, go_sem, recoverD, hu, Tryz.ntmps86, Exit.thenS, stopV, hA]
  apply wpS_seq
  apply wpS_region
  simp [wpOpsS, go_sem, Exit.thenS]
  refine wpS_cond (t := true) (by simp [Act.eval, Array.replicate]) ?_
  simp only [if_true]
  apply wpS_region
  simp [wpOpsS, go_sem, bodyPostS, results, Tryz.results86, hf0, hf1, hc0, hc1, hlt]
theorem catchN_idle (R : Nat) (w : World) :
    CallsD Tryz.prog 86 #[.pointer (some ⟨R, 0, none⟩)] .returning w fun e u' w' =>
      e = .returned (.tuple #[]) ∧ u' = .returning ∧ w' = w.alloc (.cells #[.int .i64 0, .int .i64 0] 105) := by
  have hA := assert_nil
  refine callsD_of_wpS Tryz.func86 rfl fun c₀ cs hu => ?_
  apply wpS_seq
  apply wpS_region
  simp [wpOpsS, go_sem, recoverD, hu, Tryz.ntmps86, Exit.thenS, hA]
  apply wpS_seq
  apply wpS_region
  simp [wpOpsS, go_sem, Exit.thenS]
  refine wpS_cond (t := false) (by simp [Act.eval, Array.replicate]) ?_
  simp only [Bool.false_eq_true, if_false]
  refine wpS_of_wp (wp_skip ?_)
  cases c₀
  simp_all [bodyPostS, results, Tryz.results86]
set_option maxRecDepth 100000 in
set_option maxHeartbeats 4000000 in
theorem readN (t : List UInt8) (w : World) (hG : SG w) (hE : ER w) :
    Calls Tryz.prog 41 #[.string (strOf t), .func (.func 42) #[] #[]] w (RdP w (patternP t) ndZ IsNd) := by
  obtain ⟨W1, hW1⟩ : ∃ W1, W1 = (w.alloc (.cells ndZ.toArray 29)).alloc (.cells [.int .i64 0, .int .i64 0].toArray 36) := ⟨_, rfl⟩
  have hb1 : Below w.heap.size w W1 := by rw [hW1]; exact b2 _ _ _
  have hs1 : W1.heap.size = w.heap.size + 2 := by rw [hW1]; simp
  have hR1 : Blk W1 w.heap.size ndZ := by rw [hW1]; exact (Blk.is _ rfl).alloc _
  have hF1 : Blk W1 (w.heap.size + 1) [.int .i64 0, .int .i64 0] := by rw [hW1]; exact Blk.is _ (by simp)
  have hT := tokens_any t W1 (hG.later hb1)
  have htk : toksR t = toksP t := rfl
  cases ht : toksP t with
  | error y =>
    have hspec : patternP t = .error y := by unfold patternP wholeP; rw [ht]
    rw [hspec]
    obtain ⟨er, a⟩ := y
    have her : er = 3 ∨ er = 4 := toksP_fault ht
    have hz0 : (er == 0) = false := by rw [beq_eq_false_iff_ne]; omega
    have hz1 : ¬ er = 0 := by omega
    clear hspec
    go_enter_defers Tryz.func41, Tryz.ntmps41
    go_upto_region 1 with fail
    refine named_wp fun WW hWW => ?_
    obtain rfl : WW = W1 := hWW.trans hW1.symm
    clear hW1 hWW
    go_upto_region 3 with (go_at_call 63; refine hT.mono ?_; rintro e' w2 ⟨hb2, hcase⟩; have hR2 := hR1.later hb2; have hF2 := hF1.later hb2; have f0 := hF2.fr 0 _ rfl; have f1 := hF2.fr 1 _ rfl; have c0 := hF2.cell 0 _ rfl; have c1 := hF2.cell 1 _ rfl; obtain ⟨er', a', he1, rfl⟩ | ⟨ts', v', he1, _⟩ := hcase <;> rw [htk, ht] at he1 <;> cases he1)
    refine named_wp fun W3 hW3 => ?_
    obtain ⟨hF3, hO3⟩ := res_out (us := [.int .i64 er, .int .i64 (a : Int)]) hF2 rfl hW3
    have hR3 : Blk W3 w.heap.size ndZ := by
      have hh := hO3.block w.heap.size (by omega)
      exact ⟨by rw [hO3.size]; exact hR2.lt, fun i v hv => (World.cell?_of_block (w := w2) (a := ⟨w.heap.size, i, none⟩) hh).trans (hR2.cell i v hv), fun i v hv => (World.frozen?_of_block (w := w2) (a := ⟨w.heap.size, i, none⟩) hh).trans (hR2.fr i v hv)⟩
    have hb3 : Below w.heap.size w W3 := (bstep hb1 hb2).trans (hO3.below.mono (by omega))
    clear hW3 f0 f1 c0 c1
    have r0 := hR3.cell 0 _ rfl
    have r1 := hR3.cell 1 _ rfl
    have r2 := hR3.cell 2 _ rfl
    have r3 := hR3.cell 3 _ rfl
    have r4 := hR3.cell 4 _ rfl
    have r5 := hR3.cell 5 _ rfl
    have r6 := hR3.cell 6 _ rfl
    have r7 := hR3.cell 7 _ rfl
    have r8 := hR3.cell 8 _ rfl
    have s0 := hR3.fr 0 _ rfl
    have s1 := hR3.fr 1 _ rfl
    have s2 := hR3.fr 2 _ rfl
    have s3 := hR3.fr 3 _ rfl
    have s4 := hR3.fr 4 _ rfl
    have s5 := hR3.fr 5 _ rfl
    have s6 := hR3.fr 6 _ rfl
    have s7 := hR3.fr 7 _ rfl
    have s8 := hR3.fr 8 _ rfl
    have c0 := hF3.cell 0 _ rfl
    have c1 := hF3.cell 1 _ rfl
    have f0 := hF3.fr 0 _ rfl
    have f1 := hF3.fr 1 _ rfl
    go_region
    all_goals
      go_wp2
      refine named_postD fun V hV => ?_
      obtain ⟨hVR, hVF, hVb, -⟩ := two_fill (us := ndZ) (vs := [.int .i64 er, .int .i64 (a : Int)]) hb3 (Nat.le_refl _) (Nat.le_succ _) hR3 hF3 (by omega) rfl rfl (by first | exact .inl hV | exact .inr (.inl hV))
      clear hV r0 r1 r2 r3 r4 r5 r6 r7 r8 s0 s1 s2 s3 s4 s5 s6 s7 s8 c0 c1 f0 f1
      have c0 := hVR.cell 0 _ rfl
      have c1 := hVR.cell 1 _ rfl
      have c2 := hVR.cell 2 _ rfl
      have c3 := hVR.cell 3 _ rfl
      have c4 := hVR.cell 4 _ rfl
      have c5 := hVR.cell 5 _ rfl
      have c6 := hVR.cell 6 _ rfl
      have c7 := hVR.cell 7 _ rfl
      have c8 := hVR.cell 8 _ rfl
      have d0 := hVF.cell 0 _ rfl
      have d1 := hVF.cell 1 _ rfl
      exact ⟨.tuple #[.agg ndZ.toArray, .agg #[.int .i64 er, .int .i64 (a : Int)]], by simp [results, Tryz.results41, go_sem, c0, c1, c2, c3, c4, c5, c6, c7, c8, d0, d1]; try rfl, hVb, (fun y hy => by cases hy; rfl), fun a ha => by cases ha⟩
  | ok ts =>
    obtain ⟨XX, hXX⟩ : ∃ XX, XX = patternP t := ⟨_, rfl⟩
    rw [← hXX]
    unfold patternP wholeP at hXX
    rw [ht] at hXX
    simp only at hXX
    have hsz : (strOf t).size = t.length := strOf_size t
    have HXX := Lib.hid hXX
    clear hXX
    go_enter_defers Tryz.func41, Tryz.ntmps41
    go_upto_region 1 with fail
    refine named_wp fun WW hWW => ?_
    obtain rfl : WW = W1 := hWW.trans hW1.symm
    clear hW1 hWW
    go_upto_region 2 with (go_at_call 63; refine hT.mono ?_; rintro e' w2 ⟨hb2, hcase⟩; have hR2 := hR1.later hb2; have hF2 := hF1.later hb2; have f0 := hF2.fr 0 _ rfl; have f1 := hF2.fr 1 _ rfl; have c0 := hF2.cell 0 _ rfl; have c1 := hF2.cell 1 _ rfl; obtain ⟨er', a', he1, rfl⟩ | ⟨ts', v, he1, rfl, hown⟩ := hcase <;> rw [htk, ht] at he1 <;> cases he1; rw [tcells_is] at hown; obtain ⟨vA, vc, rfl⟩ := own_form hown)
    refine named_wp fun W3 hW3 => ?_
    obtain ⟨hF3, hO3⟩ := res_out (us := [.int .i64 0, .int .i64 0]) hF2 rfl hW3
    have hR3 : Blk W3 w.heap.size ndZ := only_blk hR2 hO3 (by omega)
    have hb3 : Below w.heap.size w W3 := (bstep hb1 hb2).trans (hO3.below.mono (by omega))
    have hs3 : Sl W3 3 ts.length (.slice vA ts.length vc) (ts.flatMap tkC) := by
      have hs := sl_row (P := fun k => decide (k < w.heap.size + 2)) hown (fun k hk => by simp only [decide_eq_false_iff_not]; omega)
      exact sl_le hs ((Tn.only hO3 (by omega)).out)
    have hA4 := at9_new ht hb3 hG hE hs3
    have hF4 := hF3.later (b1 W3 (.cells #[.slice vA ts.length vc, .int .i64 0, .int .i64 (t.length : Int)] 110))
    have hR4 := hR3.later (b1 W3 (.cells #[.slice vA ts.length vc, .int .i64 0, .int .i64 (t.length : Int)] 110))
    have hB4 : Below w.heap.size w (W3.alloc (.cells #[.slice vA ts.length vc, .int .i64 0, .int .i64 (t.length : Int)] 110)) := bstep hb3 (b1 _ _)
    have hlb : w.heap.size + 2 ≤ W3.heap.size := by have := hF3.lt; omega
    have hW4s : (W3.alloc (.cells #[.slice vA ts.length vc, .int .i64 0, .int .i64 (t.length : Int)] 110)).heap.size = W3.heap.size + 1 := by simp
    clear hW3 f0 f1 c0 c1 hown hs3
    have e0 := hF3.cell 0 _ rfl
    have hmf : ∀ (fn : Fn) (first cap : Array Value) (w : World), (Instr.makeFunc fn first cap).run Tryz.prog w = .ok (.func fn first cap) w := fun _ _ _ _ => rfl
    go_upto_region 6 with fail
    refine named_wp fun W4 hW4 => ?_
    rw [show W3.alloc (.cells #[.slice vA ts.length vc, .int .i64 0, .int .i64 (t.length : Int)] 110) = W4 from hW4.symm] at hA4 hF4 hR4 hB4 hW4s
    clear hW4 e0
    have hgt : ∀ {w' : World}, W4.grownBy w' (some W3.heap.size) → Below w.heap.size w w' := fun hg => hB4.grown hg hB4.size fun k e => by cases e; omega
    have hFn : some (w.heap.size + 1) ≠ some W3.heap.size := fun e => by injection e with e; omega
    have hRn : some w.heap.size ≠ some W3.heap.size := fun e => by injection e with e; omega
    have hQ := pattern9 (ts.length + 1) hA4 (Nat.lt_succ_self _)
    cases hq : patP t.length (ts.length + 1) ts with
    | error y =>
      have hxx := HXX.out
      rw [hq] at hxx
      replace HXX := Lib.hid (show XX = .error y from hxx)
      rw [hq] at hQ
      clear hxx hq
      go_wp2_with (go_at_call 42; refine hQ.mono ?_; intro e' w5 ho; obtain ⟨hg5, rfl⟩ := out_e ho)
      have hF5 := hF4.grown hg5 hFn
      have hR5 := hR4.grown hg5 hRn
      refine leaves_cons (f := 86) (args := #[.pointer (some ⟨w.heap.size + 1, 0, none⟩)]) (by simp) (by simp [go_sem]) ?_
      refine (catchN_stop (w.heap.size + 1) y _ _ _ hF5).mono ?_
      rintro e u' w6 ⟨rfl, rfl, hw6⟩
      have hw6' : w6 = (fillW w5 (w.heap.size + 1) 0 [.int .i64 y.1, .int .i64 (y.2 : Int)]).alloc (.cells #[.int .i64 y.1, .int .i64 (y.2 : Int)] 105) := hw6
      obtain ⟨hF6, hO6⟩ := res_out (us := [.int .i64 y.1, .int .i64 (y.2 : Int)]) hF5 rfl rfl
      have hR6 := only_blk hR5 hO6 (by omega)
      have hVF : Blk w6 (w.heap.size + 1) [.int .i64 y.1, .int .i64 (y.2 : Int)] := by rw [hw6']; exact hF6.alloc _
      have hVR : Blk w6 w.heap.size ndZ := by rw [hw6']; exact hR6.alloc _
      have hVb : Below w.heap.size w w6 := by rw [hw6']; exact bstep ((hgt hg5).trans (hO6.below.mono (by omega))) (b1 _ _)
      clear hw6 hw6'
      have c0 := hVR.cell 0 _ rfl
      have c1 := hVR.cell 1 _ rfl
      have c2 := hVR.cell 2 _ rfl
      have c3 := hVR.cell 3 _ rfl
      have c4 := hVR.cell 4 _ rfl
      have c5 := hVR.cell 5 _ rfl
      have c6 := hVR.cell 6 _ rfl
      have c7 := hVR.cell 7 _ rfl
      have c8 := hVR.cell 8 _ rfl
      have d0 := hVF.cell 0 _ rfl
      have d1 := hVF.cell 1 _ rfl
      exact ⟨.tuple #[.agg ndZ.toArray, .agg #[.int .i64 y.1, .int .i64 (y.2 : Int)]], by simp [results, Tryz.results41, go_sem, c0, c1, c2, c3, c4, c5, c6, c7, c8, d0, d1]; try rfl, hVb, (fun y' hy => by rw [HXX.out] at hy; cases hy; rfl), fun a ha => by rw [HXX.out] at ha; cases ha⟩
    | ok ar =>
      obtain ⟨q, r⟩ := ar
      rw [hq] at hQ
      have hxx := HXX.out
      rw [hq] at hxx
      replace HXX := Lib.hid hxx
      clear hxx hq
      have hME := fun w' (ha : At9 w' W3.heap.size ⟨.slice vA ts.length vc, ts, t.length⟩ r) => mustEnd_any ha
      go_upto_region 7 with (go_at_call 42; refine hQ.mono ?_; intro e' w5 ho; obtain ⟨hg5, v5, rfl, hv5, ha5⟩ := out_o ho; clear ho; obtain ⟨⟨tk, tmn, tmx, ⟨⟨akd, abd, abn, acs, anm⟩, asc⟩, tsk, tks⟩, hqq, hqw, hv6⟩ := hv5; obtain ⟨⟨qA, qn, qc, rfl⟩, ⟨rA, rn, rc, rfl⟩⟩ := tr_form hqw; have hv7 : v5 = .agg (ndV tk tmn tmx akd abd abn (.slice qA qn qc) anm (.slice rA rn rc)).toArray := hv6; subst hv7; clear hv6)
      have hF5 := hF4.grown hg5 hFn
      have hR5 := hR4.grown hg5 hRn
      refine named_wp fun W6 hW6 => ?_
      have hb6 : Below w5.heap.size w5 W6 := by rw [hW6]; exact b1 _ _
      have hK6 : Blk W6 w5.heap.size (ndV tk tmn tmx akd abd abn (.slice qA qn qc) anm (.slice rA rn rc)) := by rw [hW6]; exact Blk.is (us := (ndV tk tmn tmx akd abd abn (.slice qA qn qc) anm (.slice rA rn rc))) _ rfl
      have hs6 : W6.heap.size = w5.heap.size + 1 := by rw [hW6]; simp
      clear hW6
      have hM := hME W6 (ha5.later hb6)
      have hsz5 := hg5.size
      have hF6 := hF5.later hb6
      have hR6 := hR5.later hb6
      cases r with
      | cons t0 r0 =>
        have hxx := HXX.out
        replace HXX := Lib.hid (show XX = .error (wrongP t.length (t0 :: r0)) from hxx)
        clear hxx
        obtain ⟨y, hy⟩ : ∃ y, y = wrongP t.length (t0 :: r0) := ⟨_, rfl⟩
        rw [← hy] at HXX hM
        clear hy
        go_wp2_with (go_at_call 65; refine hM.mono ?_; rintro e' w7 ⟨⟨m, hb7⟩, -, he7⟩; obtain rfl := he7 (fun e => by cases e))
        have hb67 : Below W6.heap.size W6 w7 := (below_drewN (Below.refl _ _) m).trans hb7
        have hF7 := hF6.later hb67
        have hR7 := hR6.later hb67
        refine leaves_cons (f := 86) (args := #[.pointer (some ⟨w.heap.size + 1, 0, none⟩)]) (by simp) (by simp [go_sem]) ?_
        refine (catchN_stop (w.heap.size + 1) y _ _ _ hF7).mono ?_
        rintro e u' w8 ⟨rfl, rfl, hw8⟩
        have hw8' : w8 = (fillW w7 (w.heap.size + 1) 0 [.int .i64 y.1, .int .i64 (y.2 : Int)]).alloc (.cells #[.int .i64 y.1, .int .i64 (y.2 : Int)] 105) := hw8
        obtain ⟨hF8, hO8⟩ := res_out (us := [.int .i64 y.1, .int .i64 (y.2 : Int)]) hF7 rfl rfl
        have hR8 := only_blk hR7 hO8 (by omega)
        have hVF : Blk w8 (w.heap.size + 1) [.int .i64 y.1, .int .i64 (y.2 : Int)] := by rw [hw8']; exact hF8.alloc _
        have hVR : Blk w8 w.heap.size ndZ := by rw [hw8']; exact hR8.alloc _
        have hVb : Below w.heap.size w w8 := by rw [hw8']; exact bstep ((bstep (bstep (hgt hg5) hb6) hb67).trans (hO8.below.mono (by omega))) (b1 _ _)
        clear hw8 hw8'
        have c0 := hVR.cell 0 _ rfl
        have c1 := hVR.cell 1 _ rfl
        have c2 := hVR.cell 2 _ rfl
        have c3 := hVR.cell 3 _ rfl
        have c4 := hVR.cell 4 _ rfl
        have c5 := hVR.cell 5 _ rfl
        have c6 := hVR.cell 6 _ rfl
        have c7 := hVR.cell 7 _ rfl
        have c8 := hVR.cell 8 _ rfl
        have d0 := hVF.cell 0 _ rfl
        have d1 := hVF.cell 1 _ rfl
        exact ⟨.tuple #[.agg ndZ.toArray, .agg #[.int .i64 y.1, .int .i64 (y.2 : Int)]], by simp [results, Tryz.results41, go_sem, c0, c1, c2, c3, c4, c5, c6, c7, c8, d0, d1]; try rfl, hVb, (fun y' hy => by rw [HXX.out] at hy; cases hy; rfl), fun a ha => by rw [HXX.out] at ha; cases ha⟩
      | nil =>
        have hxx := HXX.out
        replace HXX := Lib.hid (show XX = .ok q from hxx)
        clear hxx
        go_wp2_with (go_at_call 65; refine hM.mono ?_; rintro e' w7 ⟨⟨m, hb7⟩, he7, -⟩; obtain rfl := he7 rfl; have hb67 : Below W6.heap.size W6 w7 := (below_drewN (Below.refl _ _) m).trans hb7; have hF7 := hF6.later hb67; have hR7 := hR6.later hb67; have hK7 := hK6.later hb67; have k0 := hK7.cell 0 _ rfl; have k1 := hK7.cell 1 _ rfl; have k2 := hK7.cell 2 _ rfl; have k3 := hK7.cell 3 _ rfl; have k4 := hK7.cell 4 _ rfl; have k5 := hK7.cell 5 _ rfl; have k6 := hK7.cell 6 _ rfl; have k7 := hK7.cell 7 _ rfl; have k8 := hK7.cell 8 _ rfl; have r0 := hR7.cell 0 _ rfl; have r1 := hR7.cell 1 _ rfl; have r2 := hR7.cell 2 _ rfl; have r3 := hR7.cell 3 _ rfl; have r4 := hR7.cell 4 _ rfl; have r5 := hR7.cell 5 _ rfl; have r6 := hR7.cell 6 _ rfl; have r7 := hR7.cell 7 _ rfl; have r8 := hR7.cell 8 _ rfl; have s0 := hR7.fr 0 _ rfl; have s1 := hR7.fr 1 _ rfl; have s2 := hR7.fr 2 _ rfl; have s3 := hR7.fr 3 _ rfl; have s4 := hR7.fr 4 _ rfl; have s5 := hR7.fr 5 _ rfl; have s6 := hR7.fr 6 _ rfl; have s7 := hR7.fr 7 _ rfl; have s8 := hR7.fr 8 _ rfl; have c0 := hF7.cell 0 _ rfl; have c1 := hF7.cell 1 _ rfl; have f0 := hF7.fr 0 _ rfl; have f1 := hF7.fr 1 _ rfl)
        refine named_postD fun V hV => ?_
        have hb7' := bstep (bstep (hgt hg5) hb6) hb67
        obtain ⟨hVR, hVF, hVb, hVk⟩ := two_fill (us := (ndV tk tmn tmx akd abd abn (.slice qA qn qc) anm (.slice rA rn rc))) (vs := [.int .i64 0, .int .i64 0]) hb7' (Nat.le_refl _) (Nat.le_succ _) hR7 hF7 (by omega) rfl rfl (by first | exact .inr (.inr hV) | exact .inl hV | exact .inr (.inl hV))
        clear hV r0 r1 r2 r3 r4 r5 r6 r7 r8 s0 s1 s2 s3 s4 s5 s6 s7 s8 k0 k1 k2 k3 k4 k5 k6 k7 k8 c0 c1 f0 f1
        refine leaves_cons (f := 86) (args := #[.pointer (some ⟨w.heap.size + 1, 0, none⟩)]) (by simp) (by simp [go_sem]) ?_
        refine (catchN_idle (w.heap.size + 1) V).mono ?_
        rintro e u' w8 ⟨rfl, rfl, hw8⟩
        have hb8 : Below V.heap.size V w8 := by rw [hw8]; exact b1 _ _
        have hVR8 := hVR.later hb8
        have hVF8 := hVF.later hb8
        have hlast : Le (hide (fun k => decide (k < W4.heap.size)) w5) (hide (fun k => decide (k < w.heap.size)) w8) := by
          have hvs : w7.heap.size ≤ V.heap.size := by
            exact two_size hVk hVR.lt hVF.lt
          refine hide_le (Nat.le_trans (Nat.le_trans hb6.size hb67.size) (Nat.le_trans hvs hb8.size)) fun k hk hx => ?_
          simp only [decide_eq_false_iff_not] at hx ⊢
          refine ⟨by omega, ?_⟩
          have k6 : k < W6.heap.size := by omega
          have k7 : k < w7.heap.size := Nat.lt_of_lt_of_le k6 hb67.size
          exact (hb8.block k (by omega)).trans ((hVk k (by omega) (by omega)).trans ((hb67.block k k6).trans (hb6.block k hk)))
        clear hw8
        have c0 := hVR8.cell 0 _ rfl
        have c1 := hVR8.cell 1 _ rfl
        have c2 := hVR8.cell 2 _ rfl
        have c3 := hVR8.cell 3 _ rfl
        have c4 := hVR8.cell 4 _ rfl
        have c5 := hVR8.cell 5 _ rfl
        have c6 := hVR8.cell 6 _ rfl
        have c7 := hVR8.cell 7 _ rfl
        have c8 := hVR8.cell 8 _ rfl
        have d0 := hVF8.cell 0 _ rfl
        have d1 := hVF8.cell 1 _ rfl
        exact ⟨.tuple #[.agg (ndV tk tmn tmx akd abd abn (.slice qA qn qc) anm (.slice rA rn rc)).toArray, .agg #[.int .i64 0, .int .i64 0]], by simp [results, Tryz.results41, go_sem, c0, c1, c2, c3, c4, c5, c6, c7, c8, d0, d1]; try rfl, bstep hVb hb8, (fun y hy => by rw [HXX.out] at hy; cases hy), fun a ha => by rw [HXX.out] at ha; cases ha; exact ⟨_, rfl, ⟨_, hqq, trW_le hqw hlast, rfl⟩⟩⟩
theorem catchA_stop (R : Nat) (y : F) (w : World) (x0 x1 : Value) (hR : Blk w R [x0, x1]) :
    CallsD Tryz.prog 91 #[.pointer (some ⟨R, 0, none⟩)] (.panicking [stopV y]) w fun e u' w' =>
      e = .returned (.tuple #[]) ∧ u' = .panicking [{ v := .iface 105 (.agg #[.int .i64 y.1, .int .i64 (y.2 : Int)]), recovered := true }] ∧ w' = ((w.setCell ⟨R, 0, none⟩ (.int .i64 y.1)).setCell ⟨R, 1, none⟩ (.int .i64 (y.2 : Int))).alloc (.cells #[.int .i64 y.1, .int .i64 (y.2 : Int)] 105) := by
  have hA := assert_stop y
  have hf0 := hR.fr 0 _ rfl
  have hf1 := hR.fr 1 _ rfl
  have hc0 := hR.cell 0 _ rfl
  have hc1 := hR.cell 1 _ rfl
  have hlt := hR.lt
  refine callsD_of_wpS Tryz.func91 rfl fun c₀ cs hu => ?_
  apply wpS_seq
  apply wpS_region
  simp [wpOpsS, go_sem, recoverD, hu, Tryz.ntmps91, Exit.thenS, stopV, hA]
  apply wpS_seq
  apply wpS_region
  simp [wpOpsS, go_sem, Exit.thenS]
  refine wpS_cond (t := true) (by simp [Act.eval, Array.replicate]) ?_
  simp only [if_true]
  apply wpS_region
  simp [wpOpsS, go_sem, bodyPostS, results, Tryz.results91, hf0, hf1, hc0, hc1, hlt]
theorem catchA_idle (R : Nat) (w : World) :
    CallsD Tryz.prog 91 #[.pointer (some ⟨R, 0, none⟩)] .returning w fun e u' w' =>
      e = .returned (.tuple #[]) ∧ u' = .returning ∧ w' = w.alloc (.cells #[.int .i64 0, .int .i64 0] 105) := by
  have hA := assert_nil
  refine callsD_of_wpS Tryz.func91 rfl fun c₀ cs hu => ?_
  apply wpS_seq
  apply wpS_region
  simp [wpOpsS, go_sem, recoverD, hu, Tryz.ntmps91, Exit.thenS, hA]
  apply wpS_seq
  apply wpS_region
  simp [wpOpsS, go_sem, Exit.thenS]
  refine wpS_cond (t := false) (by simp [Act.eval, Array.replicate]) ?_
  simp only [Bool.false_eq_true, if_false]
  refine wpS_of_wp (wp_skip ?_)
  cases c₀
  simp_all [bodyPostS, results, Tryz.results91]
set_option maxRecDepth 100000 in
set_option maxHeartbeats 4000000 in
theorem readA (t : List UInt8) (w : World) (hG : SG w) (hE : ER w) :
    Calls Tryz.prog 44 #[.string (strOf t), .func (.func 45) #[] #[]] w (RdP w (aloneP t) atZ IsA) := by
  obtain ⟨W1, hW1⟩ : ∃ W1, W1 = (w.alloc (.cells atZ.toArray 26)).alloc (.cells [.int .i64 0, .int .i64 0].toArray 36) := ⟨_, rfl⟩
  have hb1 : Below w.heap.size w W1 := by rw [hW1]; exact b2 _ _ _
  have hs1 : W1.heap.size = w.heap.size + 2 := by rw [hW1]; simp
  have hR1 : Blk W1 w.heap.size atZ := by rw [hW1]; exact (Blk.is _ rfl).alloc _
  have hF1 : Blk W1 (w.heap.size + 1) [.int .i64 0, .int .i64 0] := by rw [hW1]; exact Blk.is _ (by simp)
  have hT := tokens_any t W1 (hG.later hb1)
  have htk : toksR t = toksP t := rfl
  cases ht : toksP t with
  | error y =>
    have hspec : aloneP t = .error y := by unfold aloneP wholeP; rw [ht]
    rw [hspec]
    obtain ⟨er, a⟩ := y
    have her : er = 3 ∨ er = 4 := toksP_fault ht
    have hz0 : (er == 0) = false := by rw [beq_eq_false_iff_ne]; omega
    have hz1 : ¬ er = 0 := by omega
    clear hspec
    go_enter_defers Tryz.func44, Tryz.ntmps44
    go_upto_region 1 with fail
    refine named_wp fun WW hWW => ?_
    obtain rfl : WW = W1 := hWW.trans hW1.symm
    clear hW1 hWW
    go_upto_region 3 with (go_at_call 63; refine hT.mono ?_; rintro e' w2 ⟨hb2, hcase⟩; have hR2 := hR1.later hb2; have hF2 := hF1.later hb2; have f0 := hF2.fr 0 _ rfl; have f1 := hF2.fr 1 _ rfl; have c0 := hF2.cell 0 _ rfl; have c1 := hF2.cell 1 _ rfl; obtain ⟨er', a', he1, rfl⟩ | ⟨ts', v', he1, _⟩ := hcase <;> rw [htk, ht] at he1 <;> cases he1)
    refine named_wp fun W3 hW3 => ?_
    obtain ⟨hF3, hO3⟩ := res_out (us := [.int .i64 er, .int .i64 (a : Int)]) hF2 rfl hW3
    have hR3 : Blk W3 w.heap.size atZ := by
      have hh := hO3.block w.heap.size (by omega)
      exact ⟨by rw [hO3.size]; exact hR2.lt, fun i v hv => (World.cell?_of_block (w := w2) (a := ⟨w.heap.size, i, none⟩) hh).trans (hR2.cell i v hv), fun i v hv => (World.frozen?_of_block (w := w2) (a := ⟨w.heap.size, i, none⟩) hh).trans (hR2.fr i v hv)⟩
    have hb3 : Below w.heap.size w W3 := (bstep hb1 hb2).trans (hO3.below.mono (by omega))
    clear hW3 f0 f1 c0 c1
    have r0 := hR3.cell 0 _ rfl
    have r1 := hR3.cell 1 _ rfl
    have r2 := hR3.cell 2 _ rfl
    have r3 := hR3.cell 3 _ rfl
    have r4 := hR3.cell 4 _ rfl
    have s0 := hR3.fr 0 _ rfl
    have s1 := hR3.fr 1 _ rfl
    have s2 := hR3.fr 2 _ rfl
    have s3 := hR3.fr 3 _ rfl
    have s4 := hR3.fr 4 _ rfl
    have c0 := hF3.cell 0 _ rfl
    have c1 := hF3.cell 1 _ rfl
    have f0 := hF3.fr 0 _ rfl
    have f1 := hF3.fr 1 _ rfl
    go_region
    all_goals
      go_wp2
      refine named_postD fun V hV => ?_
      obtain ⟨hVR, hVF, hVb, -⟩ := two_fill (us := atZ) (vs := [.int .i64 er, .int .i64 (a : Int)]) hb3 (Nat.le_refl _) (Nat.le_succ _) hR3 hF3 (by omega) rfl rfl (by first | exact .inl hV | exact .inr (.inl hV))
      clear hV r0 r1 r2 r3 r4 s0 s1 s2 s3 s4 c0 c1 f0 f1
      have c0 := hVR.cell 0 _ rfl
      have c1 := hVR.cell 1 _ rfl
      have c2 := hVR.cell 2 _ rfl
      have c3 := hVR.cell 3 _ rfl
      have c4 := hVR.cell 4 _ rfl
      have d0 := hVF.cell 0 _ rfl
      have d1 := hVF.cell 1 _ rfl
      exact ⟨.tuple #[.agg atZ.toArray, .agg #[.int .i64 er, .int .i64 (a : Int)]], by simp [results, Tryz.results44, go_sem, c0, c1, c2, c3, c4, d0, d1]; try rfl, hVb, (fun y hy => by cases hy; rfl), fun a ha => by cases ha⟩
  | ok ts =>
    obtain ⟨XX, hXX⟩ : ∃ XX, XX = aloneP t := ⟨_, rfl⟩
    rw [← hXX]
    unfold aloneP wholeP at hXX
    rw [ht] at hXX
    simp only at hXX
    have hsz : (strOf t).size = t.length := strOf_size t
    have HXX := Lib.hid hXX
    clear hXX
    go_enter_defers Tryz.func44, Tryz.ntmps44
    go_upto_region 1 with fail
    refine named_wp fun WW hWW => ?_
    obtain rfl : WW = W1 := hWW.trans hW1.symm
    clear hW1 hWW
    go_upto_region 2 with (go_at_call 63; refine hT.mono ?_; rintro e' w2 ⟨hb2, hcase⟩; have hR2 := hR1.later hb2; have hF2 := hF1.later hb2; have f0 := hF2.fr 0 _ rfl; have f1 := hF2.fr 1 _ rfl; have c0 := hF2.cell 0 _ rfl; have c1 := hF2.cell 1 _ rfl; obtain ⟨er', a', he1, rfl⟩ | ⟨ts', v, he1, rfl, hown⟩ := hcase <;> rw [htk, ht] at he1 <;> cases he1; rw [tcells_is] at hown; obtain ⟨vA, vc, rfl⟩ := own_form hown)
    refine named_wp fun W3 hW3 => ?_
    obtain ⟨hF3, hO3⟩ := res_out (us := [.int .i64 0, .int .i64 0]) hF2 rfl hW3
    have hR3 : Blk W3 w.heap.size atZ := only_blk hR2 hO3 (by omega)
    have hb3 : Below w.heap.size w W3 := (bstep hb1 hb2).trans (hO3.below.mono (by omega))
    have hs3 : Sl W3 3 ts.length (.slice vA ts.length vc) (ts.flatMap tkC) := by
      have hs := sl_row (P := fun k => decide (k < w.heap.size + 2)) hown (fun k hk => by simp only [decide_eq_false_iff_not]; omega)
      exact sl_le hs ((Tn.only hO3 (by omega)).out)
    have hA4 := at9_new ht hb3 hG hE hs3
    have hF4 := hF3.later (b1 W3 (.cells #[.slice vA ts.length vc, .int .i64 0, .int .i64 (t.length : Int)] 110))
    have hR4 := hR3.later (b1 W3 (.cells #[.slice vA ts.length vc, .int .i64 0, .int .i64 (t.length : Int)] 110))
    have hB4 : Below w.heap.size w (W3.alloc (.cells #[.slice vA ts.length vc, .int .i64 0, .int .i64 (t.length : Int)] 110)) := bstep hb3 (b1 _ _)
    have hlb : w.heap.size + 2 ≤ W3.heap.size := by have := hF3.lt; omega
    have hW4s : (W3.alloc (.cells #[.slice vA ts.length vc, .int .i64 0, .int .i64 (t.length : Int)] 110)).heap.size = W3.heap.size + 1 := by simp
    clear hW3 f0 f1 c0 c1 hown hs3
    have e0 := hF3.cell 0 _ rfl
    have hmf : ∀ (fn : Fn) (first cap : Array Value) (w : World), (Instr.makeFunc fn first cap).run Tryz.prog w = .ok (.func fn first cap) w := fun _ _ _ _ => rfl
    go_upto_region 6 with fail
    refine named_wp fun W4 hW4 => ?_
    rw [show W3.alloc (.cells #[.slice vA ts.length vc, .int .i64 0, .int .i64 (t.length : Int)] 110) = W4 from hW4.symm] at hA4 hF4 hR4 hB4 hW4s
    clear hW4 e0
    have hgt : ∀ {w' : World}, W4.grownBy w' (some W3.heap.size) → Below w.heap.size w w' := fun hg => hB4.grown hg hB4.size fun k e => by cases e; omega
    have hFn : some (w.heap.size + 1) ≠ some W3.heap.size := fun e => by injection e with e; omega
    have hRn : some w.heap.size ≠ some W3.heap.size := fun e => by injection e with e; omega
    have hQ := atom9 hA4
    cases hq : atomP t.length ts with
    | error y =>
      have hxx := HXX.out
      rw [hq] at hxx
      replace HXX := Lib.hid (show XX = .error y from hxx)
      rw [hq] at hQ
      clear hxx hq
      go_wp2_with (go_at_call 45; refine hQ.mono ?_; intro e' w5 ho; obtain ⟨hg5, rfl⟩ := out_e ho)
      have hF5 := hF4.grown hg5 hFn
      have hR5 := hR4.grown hg5 hRn
      refine leaves_cons (f := 91) (args := #[.pointer (some ⟨w.heap.size + 1, 0, none⟩)]) (by simp) (by simp [go_sem]) ?_
      refine (catchA_stop (w.heap.size + 1) y _ _ _ hF5).mono ?_
      rintro e u' w6 ⟨rfl, rfl, hw6⟩
      have hw6' : w6 = (fillW w5 (w.heap.size + 1) 0 [.int .i64 y.1, .int .i64 (y.2 : Int)]).alloc (.cells #[.int .i64 y.1, .int .i64 (y.2 : Int)] 105) := hw6
      obtain ⟨hF6, hO6⟩ := res_out (us := [.int .i64 y.1, .int .i64 (y.2 : Int)]) hF5 rfl rfl
      have hR6 := only_blk hR5 hO6 (by omega)
      have hVF : Blk w6 (w.heap.size + 1) [.int .i64 y.1, .int .i64 (y.2 : Int)] := by rw [hw6']; exact hF6.alloc _
      have hVR : Blk w6 w.heap.size atZ := by rw [hw6']; exact hR6.alloc _
      have hVb : Below w.heap.size w w6 := by rw [hw6']; exact bstep ((hgt hg5).trans (hO6.below.mono (by omega))) (b1 _ _)
      clear hw6 hw6'
      have c0 := hVR.cell 0 _ rfl
      have c1 := hVR.cell 1 _ rfl
      have c2 := hVR.cell 2 _ rfl
      have c3 := hVR.cell 3 _ rfl
      have c4 := hVR.cell 4 _ rfl
      have d0 := hVF.cell 0 _ rfl
      have d1 := hVF.cell 1 _ rfl
      exact ⟨.tuple #[.agg atZ.toArray, .agg #[.int .i64 y.1, .int .i64 (y.2 : Int)]], by simp [results, Tryz.results44, go_sem, c0, c1, c2, c3, c4, d0, d1]; try rfl, hVb, (fun y' hy => by rw [HXX.out] at hy; cases hy; rfl), fun a ha => by rw [HXX.out] at ha; cases ha⟩
    | ok ar =>
      obtain ⟨q, r⟩ := ar
      rw [hq] at hQ
      have hxx := HXX.out
      rw [hq] at hxx
      replace HXX := Lib.hid hxx
      clear hxx hq
      have hME := fun w' (ha : At9 w' W3.heap.size ⟨.slice vA ts.length vc, ts, t.length⟩ r) => mustEnd_any ha
      go_upto_region 7 with (go_at_call 45; refine hQ.mono ?_; intro e' w5 ho; obtain ⟨hg5, v5, rfl, hv5, ha5⟩ := out_o ho; clear ho; obtain ⟨akd, abd, abn, acs, anm⟩ := q; obtain ⟨asc, hqw, hv6⟩ := hv5; obtain ⟨qA, qn, qc, rfl⟩ := sl_form hqw.2; have hv7 : v5 = .agg #[.int .i64 akd, .bool abd, .int .u64 abn, .slice qA qn qc, .string (strOf anm)] := hv6; subst hv7; clear hv6)
      have hF5 := hF4.grown hg5 hFn
      have hR5 := hR4.grown hg5 hRn
      refine named_wp fun W6 hW6 => ?_
      have hb6 : Below w5.heap.size w5 W6 := by rw [hW6]; exact b1 _ _
      have hK6 : Blk W6 w5.heap.size [.int .i64 akd, .bool abd, .int .u64 abn, .slice qA qn qc, .string (strOf anm)] := by rw [hW6]; exact Blk.is (us := [.int .i64 akd, .bool abd, .int .u64 abn, .slice qA qn qc, .string (strOf anm)]) _ rfl
      have hs6 : W6.heap.size = w5.heap.size + 1 := by rw [hW6]; simp
      clear hW6
      have hM := hME W6 (ha5.later hb6)
      have hsz5 := hg5.size
      have hF6 := hF5.later hb6
      have hR6 := hR5.later hb6
      cases r with
      | cons t0 r0 =>
        have hxx := HXX.out
        replace HXX := Lib.hid (show XX = .error (wrongP t.length (t0 :: r0)) from hxx)
        clear hxx
        obtain ⟨y, hy⟩ : ∃ y, y = wrongP t.length (t0 :: r0) := ⟨_, rfl⟩
        rw [← hy] at HXX hM
        clear hy
        go_wp2_with (go_at_call 65; refine hM.mono ?_; rintro e' w7 ⟨⟨m, hb7⟩, -, he7⟩; obtain rfl := he7 (fun e => by cases e))
        have hb67 : Below W6.heap.size W6 w7 := (below_drewN (Below.refl _ _) m).trans hb7
        have hF7 := hF6.later hb67
        have hR7 := hR6.later hb67
        refine leaves_cons (f := 91) (args := #[.pointer (some ⟨w.heap.size + 1, 0, none⟩)]) (by simp) (by simp [go_sem]) ?_
        refine (catchA_stop (w.heap.size + 1) y _ _ _ hF7).mono ?_
        rintro e u' w8 ⟨rfl, rfl, hw8⟩
        have hw8' : w8 = (fillW w7 (w.heap.size + 1) 0 [.int .i64 y.1, .int .i64 (y.2 : Int)]).alloc (.cells #[.int .i64 y.1, .int .i64 (y.2 : Int)] 105) := hw8
        obtain ⟨hF8, hO8⟩ := res_out (us := [.int .i64 y.1, .int .i64 (y.2 : Int)]) hF7 rfl rfl
        have hR8 := only_blk hR7 hO8 (by omega)
        have hVF : Blk w8 (w.heap.size + 1) [.int .i64 y.1, .int .i64 (y.2 : Int)] := by rw [hw8']; exact hF8.alloc _
        have hVR : Blk w8 w.heap.size atZ := by rw [hw8']; exact hR8.alloc _
        have hVb : Below w.heap.size w w8 := by rw [hw8']; exact bstep ((bstep (bstep (hgt hg5) hb6) hb67).trans (hO8.below.mono (by omega))) (b1 _ _)
        clear hw8 hw8'
        have c0 := hVR.cell 0 _ rfl
        have c1 := hVR.cell 1 _ rfl
        have c2 := hVR.cell 2 _ rfl
        have c3 := hVR.cell 3 _ rfl
        have c4 := hVR.cell 4 _ rfl
        have d0 := hVF.cell 0 _ rfl
        have d1 := hVF.cell 1 _ rfl
        exact ⟨.tuple #[.agg atZ.toArray, .agg #[.int .i64 y.1, .int .i64 (y.2 : Int)]], by simp [results, Tryz.results44, go_sem, c0, c1, c2, c3, c4, d0, d1]; try rfl, hVb, (fun y' hy => by rw [HXX.out] at hy; cases hy; rfl), fun a ha => by rw [HXX.out] at ha; cases ha⟩
      | nil =>
        have hxx := HXX.out
        replace HXX := Lib.hid (show XX = .ok ⟨akd, abd, abn, acs, anm⟩ from hxx)
        clear hxx
        go_wp2_with (go_at_call 65; refine hM.mono ?_; rintro e' w7 ⟨⟨m, hb7⟩, he7, -⟩; obtain rfl := he7 rfl; have hb67 : Below W6.heap.size W6 w7 := (below_drewN (Below.refl _ _) m).trans hb7; have hF7 := hF6.later hb67; have hR7 := hR6.later hb67; have hK7 := hK6.later hb67; have k0 := hK7.cell 0 _ rfl; have k1 := hK7.cell 1 _ rfl; have k2 := hK7.cell 2 _ rfl; have k3 := hK7.cell 3 _ rfl; have k4 := hK7.cell 4 _ rfl; have r0 := hR7.cell 0 _ rfl; have r1 := hR7.cell 1 _ rfl; have r2 := hR7.cell 2 _ rfl; have r3 := hR7.cell 3 _ rfl; have r4 := hR7.cell 4 _ rfl; have s0 := hR7.fr 0 _ rfl; have s1 := hR7.fr 1 _ rfl; have s2 := hR7.fr 2 _ rfl; have s3 := hR7.fr 3 _ rfl; have s4 := hR7.fr 4 _ rfl; have c0 := hF7.cell 0 _ rfl; have c1 := hF7.cell 1 _ rfl; have f0 := hF7.fr 0 _ rfl; have f1 := hF7.fr 1 _ rfl)
        refine named_postD fun V hV => ?_
        have hb7' := bstep (bstep (hgt hg5) hb6) hb67
        obtain ⟨hVR, hVF, hVb, hVk⟩ := two_fill (us := [.int .i64 akd, .bool abd, .int .u64 abn, .slice qA qn qc, .string (strOf anm)]) (vs := [.int .i64 0, .int .i64 0]) hb7' (Nat.le_refl _) (Nat.le_succ _) hR7 hF7 (by omega) rfl rfl (by first | exact .inr (.inr hV) | exact .inl hV | exact .inr (.inl hV))
        clear hV r0 r1 r2 r3 r4 s0 s1 s2 s3 s4 k0 k1 k2 k3 k4 c0 c1 f0 f1
        refine leaves_cons (f := 91) (args := #[.pointer (some ⟨w.heap.size + 1, 0, none⟩)]) (by simp) (by simp [go_sem]) ?_
        refine (catchA_idle (w.heap.size + 1) V).mono ?_
        rintro e u' w8 ⟨rfl, rfl, hw8⟩
        have hb8 : Below V.heap.size V w8 := by rw [hw8]; exact b1 _ _
        have hVR8 := hVR.later hb8
        have hVF8 := hVF.later hb8
        have hlast : Le (hide (fun k => decide (k < W4.heap.size)) w5) (hide (fun k => decide (k < w.heap.size)) w8) := by
          have hvs : w7.heap.size ≤ V.heap.size := by
            exact two_size hVk hVR.lt hVF.lt
          refine hide_le (Nat.le_trans (Nat.le_trans hb6.size hb67.size) (Nat.le_trans hvs hb8.size)) fun k hk hx => ?_
          simp only [decide_eq_false_iff_not] at hx ⊢
          refine ⟨by omega, ?_⟩
          have k6 : k < W6.heap.size := by omega
          have k7 : k < w7.heap.size := Nat.lt_of_lt_of_le k6 hb67.size
          exact (hb8.block k (by omega)).trans ((hVk k (by omega) (by omega)).trans ((hb67.block k k6).trans (hb6.block k hk)))
        clear hw8
        have c0 := hVR8.cell 0 _ rfl
        have c1 := hVR8.cell 1 _ rfl
        have c2 := hVR8.cell 2 _ rfl
        have c3 := hVR8.cell 3 _ rfl
        have c4 := hVR8.cell 4 _ rfl
        have d0 := hVF8.cell 0 _ rfl
        have d1 := hVF8.cell 1 _ rfl
        exact ⟨.tuple #[.agg [.int .i64 akd, .bool abd, .int .u64 abn, .slice qA qn qc, .string (strOf anm)].toArray, .agg #[.int .i64 0, .int .i64 0]], by simp [results, Tryz.results44, go_sem, c0, c1, c2, c3, c4, d0, d1]; try rfl, bstep hVb hb8, (fun y hy => by rw [HXX.out] at hy; cases hy), fun a ha => by rw [HXX.out] at ha; cases ha; exact ⟨_, rfl, ⟨_, oneA_le hqw hlast, rfl⟩⟩⟩
end Go.Proofs.YtdjaijhlhhnmeaaGreatDoor
