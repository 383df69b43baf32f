/- Walks: the document's own tokens. -/
import Derived.Test.YtmdlndmibodimaaDoorTokZ
import Derived.Test.YtmdlndmibodimaaDoorTokK
import Derived.Test.YtmdlndmibodimaaDoorTokO
namespace Go.Proofs.YtmdlndmibodimaaDoor
open Go.RowKit
open Tk7

/-- Tokens in front of what follows. -/
def glueL (ts : List T) : Except (Int × Nat) (List T) → Except (Int × Nat) (List T)
  | .ok us => .ok (ts ++ us)
  | .error e => .error e
theorem glueL_nil (r : Except (Int × Nat) (List T)) : glueL [] r = r := by cases r <;> rfl
theorem glueL_snoc (ts : List T) (x : T) (r : Except (Int × Nat) (List T)) : glueL ts (glue x r) = glueL (ts ++ [x]) r := by
  cases r with
  | error e => rfl
  | ok us => show Except.ok (ts ++ (x :: us)) = Except.ok ((ts ++ [x]) ++ us); rw [List.append_assoc]; rfl
def RtP (w : World) (t : List UInt8) (e : Ending) (w' : World) : Prop :=
  ∃ A c, e = .returned (.tuple #[.slice A (outK t).length c, .agg #[.int .i64 (outE t).1, .int .i64 ((outE t).2 : Int)]]) ∧ Below w.heap.size w w' ∧ KSl w' (.slice A (outK t).length c) (outK t)
theorem RtP.err {w w' : World} {t : List UInt8} {er : Int} {a : Nat} (h : toksR t = .error (er, a)) (hb : Below w.heap.size w w') : RtP w t (.returned (.tuple #[.slice none 0 0, .agg #[.int .i64 er, .int .i64 (a : Int)]])) w' := by
  unfold RtP outK outE
  rw [h]
  exact ⟨none, 0, rfl, hb, Sl.nil w' 3⟩
theorem RtP.ok {w w' : World} {t : List UInt8} {ts : List T} {A : Option Addr} {c base : Nat} (h : toksR t = .ok ts) (hb : Below w.heap.size w w') (ho : w'.ownsRow base 30 3 (.slice A ts.length c) ts.length (kcells (ts.map tkOf))) :
    RtP w t (.returned (.tuple #[.slice A ts.length c, .agg #[.int .i64 0, .int .i64 0]])) w' := by
  unfold RtP outK outE
  rw [h]
  simp only [List.length_map]
  have := own_ts ho
  rw [← List.length_map (f := tkOf)] at this
  refine ⟨A, c, rfl, hb, ?_⟩
  have h2 := own_ts ho
  exact h2
set_option maxRecDepth 100000 in
theorem rtokens_long (t : List UInt8) (hlong : 400 < t.length) (w : World) :
    Calls Tryd.prog 18 #[.string (strOf t)] w (RtP w t) := by
  have hsz : (strOf t).size = t.length := strOf_size t
  have g1 : (400 : Int) < (t.length : Int) := by omega
  have HR := Lib.hid (show toksR t = .error (4, 400) from if_pos hlong)
  go_enter Tryd.func18, Tryd.ntmps18
  go_wp2
  exact bodyPost_ret (v := .tuple #[.slice none 0 0, .agg #[.int .i64 4, .int .i64 400]]) (by simp [results, Tryd.results18, go_sem]; try rfl) rfl (RtP.err HR.out (below1 _ _))
theorem flt_out {W : World} {R base : Nat} {w : World} {x0 x1 : Value} (h0 : Blk W R [x0, x1]) (hB : Below R w W) (u0 u1 : Value) (V : World) (hV : V = (W.setCell ⟨R, 0, none⟩ u0).setCell ⟨R, 1, none⟩ u1) :
    Blk V R [u0, u1] ∧ Below R w V ∧ ∀ {e : TypeId} {sz n : Nat} {v : Value} {us : List Value}, R < base → W.ownsRow base e sz v n us → V.ownsRow base e sz v n us := by
  subst hV
  exact ⟨(h0.set 0 u0).set 1 u1, (hB.setCell (p := ⟨R, 0, none⟩) (Nat.le_refl _) _).setCell (p := ⟨R, 1, none⟩) (Nat.le_refl _) _, fun hb ho => own_set (own_set ho hb _ _) hb _ _⟩
set_option maxRecDepth 100000 in
set_option maxHeartbeats 4000000 in
theorem rtokens_short (t : List UInt8) (hl : t.length ≤ 400) (w : World) :
    Calls Tryd.prog 18 #[.string (strOf t)] w (RtP w t) := by
  have hsz : (strOf t).size = t.length := strOf_size t
  have g1 : ¬ (400 : Int) < (t.length : Int) := by omega
  obtain ⟨i0, hi, hz0, hz1, hz2⟩ := info_parts infoTok
  have H0 := Lib.hid (show toksR t = glueL [] (toksG (t.drop 0) 0) by rw [glueL_nil, List.drop_zero]; exact if_neg (by omega))
  obtain ⟨W0, hW0⟩ : ∃ W0, W0 = w.alloc (.cells #[.int .i64 0, .int .i64 0] 25) := ⟨_, rfl⟩
  have hF0 : Blk W0 w.heap.size [.int .i64 0, .int .i64 0] := by rw [hW0]; exact Blk.is _ rfl
  have hB0 : Below w.heap.size w W0 := by rw [hW0]; exact below1 _ _
  go_enter Tryd.func18, Tryd.ntmps18
  go_wp2
  rw [← hW0]
  clear hW0
  go_loopg [4, 5] t.length (fun g ov kv wr => ∃ (ts : List T) (k : Nat) (A : Option Addr) (c : Nat), k ≤ t.length ∧ g = t.length - k ∧ ov = .slice A ts.length c ∧ kv = .int .i64 (k : Int) ∧ ts.length ≤ k ∧
    Hid (wr.ownsRow (w.heap.size + 1) 30 3 (.slice A ts.length c) ts.length (kcells (ts.map tkOf))) ∧ Hid (Blk wr w.heap.size [.int .i64 0, .int .i64 0]) ∧ Hid (Below w.heap.size w wr) ∧ Hid (toksR t = glueL ts (toksG (t.drop k) k)))
  case atStart => exact ⟨[], 0, none, 0, by omega, rfl, rfl, rfl, Nat.le_refl _, Lib.hid (World.ownsRow_nil _ _ _ _), Lib.hid hF0, Lib.hid hB0, H0⟩
  case round =>
    clear hF0 hB0 H0
    obtain ⟨ts, k, A, c, hk, hg, rfl, rfl, hts, hO, hF, hB, hR⟩ := hrel
    have hN := rnext_any t (by omega) (k : Int) wr
    have hlt := hF.out.lt
    rcases next_cases hk with ⟨h1, h2⟩ | ⟨p, h1, h2⟩ | ⟨x, h1, h2, h3, h4⟩
    · have hN3 : Calls Tryd.prog 19 #[.string (strOf t), .int .i64 (k : Int)] wr fun e w' => e = .returned (.tuple #[.agg #[.int .i64 0, .string ⟨#[]⟩, .int .i64 0], .int .i64 0, .agg #[.int .i64 5, .int .i64 (t.length : Int)]]) ∧ Below wr.heap.size wr w' := by
        rw [h2] at hN; exact hN
      have HR := Lib.hid (show toksR t = .ok ts by rw [hR.out, h1]; show Except.ok (ts ++ []) = _; rw [List.append_nil])
      clear h1 h2 hN hR
      go_wp2_with (go_at_call 19; refine hN3.mono ?_; rintro e w1 ⟨rfl, hb1⟩; have hF1 := hF.out.later hb1; have k0 := hF1.fr 0 _ rfl; have k1 := hF1.fr 1 _ rfl; have d0 := hF1.cell 0 _ rfl; have d1 := hF1.cell 1 _ rfl; have hlt1 := hF1.lt)
      refine named_post fun V hV => ?_
      obtain ⟨y0, y1, y2⟩ := flt_out (base := w.heap.size + 1) hF1 (bstep hB.out hb1) (.int .i64 0) (.int .i64 0) _ rfl
      have y3 := y2 (by omega) (own_later hO.out hb1)
      obtain ⟨V0, hV0⟩ : ∃ V0, V0 = (w1.setCell ⟨w.heap.size, 0, none⟩ (.int .i64 0)).setCell ⟨w.heap.size, 1, none⟩ (.int .i64 0) := ⟨_, rfl⟩
      rw [← hV0] at hV y0 y1 y3
      subst hV
      have hb3 := below2 V0 (.cells #[.int .i64 0, .string ⟨#[]⟩, .int .i64 0] 30) (.cells #[.int .i64 5, .int .i64 (t.length : Int)] 25)
      have hVa := y0.later hb3
      have hVB := bstep y1 hb3
      have hVO2 := own_later y3 hb3
      clear y2 hV0
      have c0 := hVa.cell 0 _ rfl
      have c1 := hVa.cell 1 _ rfl
      exact bodyPost_ret (v := .tuple #[.slice A ts.length c, .agg #[.int .i64 0, .int .i64 0]]) (by simp [results, Tryd.results18, go_sem, c0, c1]; try rfl) rfl (RtP.ok HR.out hVB hVO2)
    · have hN3 : Calls Tryd.prog 19 #[.string (strOf t), .int .i64 (k : Int)] wr fun e w' => e = .returned (.tuple #[.agg #[.int .i64 0, .string ⟨#[]⟩, .int .i64 0], .int .i64 0, .agg #[.int .i64 3, .int .i64 (p : Int)]]) ∧ Below wr.heap.size wr w' := by
        rw [h2] at hN; exact hN
      have HR := Lib.hid (show toksR t = .error (3, p) by rw [hR.out, h1]; rfl)
      clear h1 h2 hN hR
      go_upto_region 9 with (go_at_call 19; refine hN3.mono ?_; rintro e w1 ⟨rfl, hb1⟩)
      have hb3 := bstep hb1 (below2 w1 (.cells #[.int .i64 0, .string ⟨#[]⟩, .int .i64 0] 30) (.cells #[.int .i64 3, .int .i64 (p : Int)] 25))
      have hE2 : Blk ((w1.alloc (.cells #[.int .i64 0, .string ⟨#[]⟩, .int .i64 0] 30)).alloc (.cells #[.int .i64 3, .int .i64 (p : Int)] 25)) (w1.heap.size + 1) [.int .i64 3, .int .i64 (p : Int)] := Blk.is _ (by simp)
      obtain ⟨W2, hW2⟩ : ∃ W2, W2 = (w1.alloc (.cells #[.int .i64 0, .string ⟨#[]⟩, .int .i64 0] 30)).alloc (.cells #[.int .i64 3, .int .i64 (p : Int)] 25) := ⟨_, rfl⟩
      rw [← hW2] at hb3 hE2 ⊢
      have hF1 := hF.out.later hb3
      have hB1 := bstep hB.out hb3
      have k0 := hF1.fr 0 _ rfl
      have k1 := hF1.fr 1 _ rfl
      have d0 := hF1.cell 0 _ rfl
      have d1 := hF1.cell 1 _ rfl
      have hlt1 := hF1.lt
      have hls := hb1.size
      have e0 := hE2.cell 0 _ rfl
      have e1 := hE2.cell 1 _ rfl
      have hlt2 := hE2.lt
      clear hW2
      go_region_with (fail)
      all_goals
        go_wp2
        refine named_post fun V hV => ?_
        have hVV : Blk V w.heap.size [.int .i64 3, .int .i64 (p : Int)] ∧ Below w.heap.size w V := by
          obtain ⟨x0, x1, _⟩ := flt_out (base := w.heap.size + 1) hF1 hB1 (.int .i64 3) (.int .i64 (p : Int)) _ rfl
          rw [hV]
          exact ⟨x0.drew, x1.drew⟩
        clear hV
        have c0 := hVV.1.cell 0 _ rfl
        have c1 := hVV.1.cell 1 _ rfl
        exact bodyPost_ret (v := .tuple #[.slice none 0 0, .agg #[.int .i64 3, .int .i64 (p : Int)]]) (by simp [results, Tryd.results18, go_sem, c0, c1]; try rfl) rfl (RtP.err HR.out hVV.2)
    · obtain ⟨kd, tx, at_⟩ := x
      have hN3 : Calls Tryd.prog 19 #[.string (strOf t), .int .i64 (k : Int)] wr fun e w' => e = .returned (.tuple #[.agg #[.int .i64 (kd : Int), .string (strOf tx), .int .i64 (at_ : Int)], .int .i64 ((at_ + tx.length : Nat) : Int), .agg #[.int .i64 0, .int .i64 0]]) ∧ Below wr.heap.size wr w' := by
        rw [h2] at hN; exact hN
      simp only at h3 h4
      have HR := Lib.hid (show toksR t = glueL (ts ++ [(kd, tx, at_)]) (toksG (t.drop (at_ + tx.length)) (at_ + tx.length)) by rw [hR.out, h1, glueL_snoc])
      obtain ⟨q, hq⟩ : ∃ q, q = at_ + tx.length := ⟨_, rfl⟩
      rw [← hq] at hN3 HR h3 h4
      clear h1 h2 hN hR hq
      go_upto_region 10 with (go_at_call 19; refine hN3.mono ?_; rintro e w1 ⟨rfl, hb1⟩)
      have hb3 := bstep hb1 (below2 w1 (.cells #[.int .i64 (kd : Int), .string (strOf tx), .int .i64 (at_ : Int)] 30) (.cells #[.int .i64 0, .int .i64 0] 25))
      have hE2 : Blk ((w1.alloc (.cells #[.int .i64 (kd : Int), .string (strOf tx), .int .i64 (at_ : Int)] 30)).alloc (.cells #[.int .i64 0, .int .i64 0] 25)) w1.heap.size [.int .i64 (kd : Int), .string (strOf tx), .int .i64 (at_ : Int)] := (Blk.is _ rfl).alloc _
      obtain ⟨W2, hW2⟩ : ∃ W2, W2 = (w1.alloc (.cells #[.int .i64 (kd : Int), .string (strOf tx), .int .i64 (at_ : Int)] 30)).alloc (.cells #[.int .i64 0, .int .i64 0] 25) := ⟨_, rfl⟩
      rw [← hW2] at hb3 hE2 ⊢
      have hF1 := Lib.hid (hF.out.later hb3)
      have hB1 := Lib.hid (bstep hB.out hb3)
      have hO1 := own_later hO.out hb3
      have hlt1 := hF1.out.lt
      have e0 := hE2.cell 0 _ rfl
      have e1 := hE2.cell 1 _ rfl
      have e2 := hE2.cell 2 _ rfl
      have hlt2 := hE2.lt
      have hb4 := below1 W2 (.cells #[.int .i64 (kd : Int), .string (strOf tx), .int .i64 (at_ : Int)] 30)
      obtain ⟨A4, c4, w5, hrun, O4, hg4⟩ := run_append_any (P := Tryd.prog) (W2.alloc (.cells #[.int .i64 (kd : Int), .string (strOf tx), .int .i64 (at_ : Int)] 30)) (w.heap.size + 1) 22 22 30 i0 (.agg #[.int .i64 0, .string ⟨#[]⟩, .int .i64 0]) 3 32 Tryd.underlying22 hi hz0 hz1 hz2 rfl (by decide) _ ts.length (kcells (ts.map tkOf)) (own_later hO1 hb4) _ 1 _ (Sl.lit (Blk.is (us := kcells [tkOf (kd, tx, at_)]) _ rfl) 3 1 rfl (by decide)) (kcells_one _) (by unfold maxLen; omega) (by omega) (by have := hb4.size; omega) (ts ++ [(kd, tx, at_)]).length (kcells ((ts ++ [(kd, tx, at_)]).map tkOf)) (by rw [List.length_append]; rfl) (by rw [List.map_append, kcells_app]; rfl)
      have far : some w.heap.size ≠ (Value.slice A ts.length c).ownBlock := fun e => by have := (hO1.lt _ e.symm).1; omega
      have HF5 := Lib.hid ((hF1.out.later hb4).grown hg4 far)
      have HB5 := Lib.hid ((bstep hB1.out hb4).grown hg4 (bstep hB1.out hb4).size (fun j e => by have := (hO1.lt j e).1; omega))
      have HO4 := Lib.hid O4
      clear hW2 O4 hg4 hO1 far hb4 hb3 hb1
      go_wp2_with (at_builtin; refine wpList_append_run rfl _ _ _ rfl rfl rfl hrun ?_)
      go_roundg (t.length - q)
      case rel => exact ⟨ts ++ [(kd, tx, at_)], q, A4, c4, by omega, rfl, by rw [List.length_append]; rfl, rfl, by rw [List.length_append, List.length_singleton]; omega, HO4, HF5, HB5, HR⟩
      case measure => omega
theorem rtokens_any (t : List UInt8) (w : World) (_hl : t.length ≤ 1000000) :
    Calls Tryd.prog 18 #[.string (strOf t)] w (RtP w t) := by
  by_cases h : 400 < t.length
  · exact rtokens_long t h w
  · exact rtokens_short t (by omega) w
end Go.Proofs.YtmdlndmibodimaaDoor
