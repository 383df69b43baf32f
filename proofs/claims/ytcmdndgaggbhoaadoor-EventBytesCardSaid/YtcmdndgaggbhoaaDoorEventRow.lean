/- What each row of a seat of the events' package gives and asks: the listed tables; the end of a call that leaves alone what lay; arguments opened. -/
import Derived.Test.YtcmdndgaggbhoaaDoorCards
import Derived.Test.YtcmdndgaggbhoaaDoorTie
import Derived.Test.YtcmdndgaggbhoaaDoorEventL
import Derived.Deep.DeepHandedRow
import Derived.Lib.LaidTab
import Derived.Stop.LaidErr
import Derived.Lay
import Derived.WalkKit
import Derived.ProofKit
import Derived.OpenShut
import Derived.Carry
import Derived.ShutString
import Derived.WideKeyArgs
import Derived.SliceStrings
import Derived.Lib.SmallJoins
namespace Go.Proofs.YtcmdndgaggbhoaaDoor
open Go.ChangeShapes Go.WideShapes Go.ChangeAt Go.RowKit Go.Shelf

theorem own : ownKnob Tryd.prog.godebug = none := by kernel_rfl
theorem laidOut : laidOutB Tryd.prog = true := by kernel_rfl

theorem cell_lt {w : World} {a : Addr} {v : Value} (h : w.cell? a = some v) : a.block < w.heap.size := by
  rcases Nat.lt_or_ge a.block w.heap.size with hlt | hge
  · exact hlt
  · unfold World.cell? at h
    rw [Array.getElem?_eq_none hge] at h
    simp at h

section
variable {H : Type} {enc : TypeId × Value → H} {P : Program}
/-- The end of a call of which only this is known, that what lay below the heap's end lies as it lay. -/
theorem end_below {f : Func} {s : ChangeSpec} {apart fresh handsOn again : Bool} {W W' : World} {args : Array Value} {v : Value} {ds gs : List (DataW H)} {before pa pv : List MemPlace}
    (hW : DataW.Whole enc P f.params.toList s.vars apart W args.toList ds gs before) (hb : Below W.heap.size W W') (hps : before = pa ++ pv)
    (hargs : ∀ sp : Nat → Bool, (∀ p ∈ before, sp p.block = true) → DataW.TrodAll enc P W' 0 sp true f.params.toList args.toList (s.fn H (ds ++ gs)).args pa)
    (hvars : ∀ sp : Nat → Bool, (∀ p ∈ before, sp p.block = true) → DataW.TrodVars enc P W' sp s.vars (s.fn H (ds ++ gs)).vars pv)
    (hres : ∀ (b : Nat) (sp : Nat → Bool) (hd : Bool), DataW.TrodAll enc P W' b sp hd f.resultTypes.toList (v.resultList f.resultTypes.size) (s.fn H (ds ++ gs)).results [])
    (hok : ∀ (j : Nat) (t : TypeId) (r : Value), f.resultTypes[j]? = some t → (v.resultList f.resultTypes.size)[j]? = some r → Value.okWide P W' .any 0 t r) :
    s.post enc P f apart fresh handsOn again W args v W' := by
  have hlt : ∀ p ∈ before, p.block < W.heap.size := fun p hp => hW.lt p hp
  have hsp : ∀ p ∈ before, (fun b => decide (b < W.heap.size)) p.block = true := fun p hp => decide_eq_true (hlt p hp)
  obtain ⟨_, _, _, _, _, hz, hn⟩ := id hW
  subst hps
  refine ⟨ds, gs, pa ++ pv, [], pa, pv, hW, hres _ _ _, hargs _ hsp, hvars _ hsp, World.keptBut_mono (fun p hp => ⟨hp, .inr (List.mem_append.1 hp)⟩) (hb.frame (· ∈ pa ++ pv)), fun _ => ?_⟩
  refine ⟨hok, _, _, ([] ++ pa) ++ pv, ⟨[] ++ pa, pv, trodAll_append (hargs _ (fun _ _ => rfl)) (hres _ _ _), hvars _ (fun _ _ => rfl), rfl, fun b off hp => ?_, fun ha => ?_⟩, fun p hp _ => by simpa using hp⟩
  · have hin : MemPlace.cell b off ∈ pa ++ pv := by simpa using hp
    exact (hb.frozen (p := ⟨b, off, none⟩) (hlt _ hin)).trans (hz b off hin)
  · simpa using hn ha

/-- Lists of arguments of which each reads as it read. -/
theorem stays_nil {W' : World} {sp : Nat → Bool} : DataW.TrodAll enc P W' 0 sp true [] [] [] [] := rfl
theorem stays_cons {W W' : World} {sp : Nat → Bool} {t : TypeId} {ts : List TypeId} {v : Value} {vs : List Value} {d : DataW H} {ds : List (DataW H)} {p q : List MemPlace}
    (hl : laidOutB P = true) (hr : P.readableRec t = true) (hrow : t < P.types.size) (h : DataW.Trod enc P W 0 (fun _ => true) true t v d p)
    (hsame : ∀ x ∈ p ++ q, W.sameAt W' x) (hs : ∀ x ∈ p ++ q, sp x.block = true) (hq : DataW.TrodAll enc P W' 0 sp true ts vs ds q) :
    DataW.TrodAll enc P W' 0 sp true (t :: ts) (v :: vs) (d :: ds) (p ++ q) :=
  trodAll_cons_mk (Go.WideElems.Trod_stays hl hr hrow h (fun x hx => hsame x (List.mem_append_left _ hx)) (fun x hx => hs x (List.mem_append_left _ hx))) hq
end

theorem gTab64 : Tryd.prog.globalNamed "math/bits.deBruijn64tab" = some 0 := by kernel_rfl
theorem gTab64Type : (Tryd.prog.globals[0]?).map (·.type) = some 125 := by kernel_rfl
theorem cellsTab64 : Tryd.prog.cellsOf 125 = 64 := by kernel_rfl
theorem cellsByte : Tryd.prog.cellsOf 5 = 1 := by kernel_rfl
theorem gPowType : (Tryd.prog.globals[1]?).map (·.type) = some 128 := by kernel_rfl
theorem cellsPow : Tryd.prog.cellsOf 128 = 20 := by kernel_rfl
theorem cellsU64 : Tryd.prog.cellsOf 22 = 1 := by kernel_rfl

/-- The list of every row of this seat. -/
def seatLaid : List (String × DataW Unit) := [("math/bits.deBruijn32tab", Rows.laid_math_bits_deBruijn32tab), ("math/bits.deBruijn64tab", Rows.laid_math_bits_deBruijn64tab), ("internal/strconv.uint64pow10", Rows.laid_internal_strconv_uint64pow10)]

theorem tabs_of_laid {W : World} (h : laidMetH Tryd.prog seatLaid W) : Ev.Tab2 W := by
  have h0 : laidMet Tryd.prog seatLaid W := h
  have h1 := laidMet.tail h0
  have h2 := laidMet.tail h1
  have ht : Lib.TabIs Tryd.prog W "math/bits.deBruijn64tab" .u8 (Lib.deBruijn64tab.map fun (n : Nat) => (n : Int)) :=
    Lib.tabIs_of_head (rest := [("internal/strconv.uint64pow10", Rows.laid_internal_strconv_uint64pow10)]) gTab64 gTab64Type Tryd.underlying125 Tryd.underlying5 cellsByte cellsTab64 h1
  have hp : Lib.TabIs Tryd.prog W "internal/strconv.uint64pow10" .u64 Lib.pow10Tab :=
    Lib.tabIs_of_head (rest := []) Ev.gPow gPowType Tryd.underlying128 Tryd.underlying22 cellsU64 cellsPow h2
  have hc : TabAt 0 Lib.deBruijn64tab W := fun j hj => by
    have := ht.cell gTab64 j (by simpa using hj)
    rw [this]
    have e : (Lib.deBruijn64tab.map fun (n : Nat) => (n : Int)).getD j 0 = ((Lib.deBruijn64tab.getD j 0 : Nat) : Int) := by
      simp [List.getD, hj]
    rw [e]
  exact ⟨⟨cell_lt (hc 0 (by decide)), hc⟩, hp⟩
namespace Ev
theorem cEv : Tryd.prog.cellsOf 24 = 3 := by kernel_rfl
theorem cId : Tryd.prog.cellsOf 39 = 2 := by kernel_rfl
theorem cSt : Tryd.prog.cellsOf 41 = 6 := by kernel_rfl
theorem cInt : Tryd.prog.cellsOf 3 = 1 := by kernel_rfl
theorem cInt64 : Tryd.prog.cellsOf 2 = 1 := by kernel_rfl
theorem bnd_u64 {x : Int} (h : (Lit.int .u64 x).wf = true) : 0 ≤ x ∧ x ≤ 18446744073709551615 := bounds_u64 h
theorem bnd_i64 {x : Int} (h : (Lit.int .i64 x).wf = true) : -9223372036854775808 ≤ x ∧ x ≤ 9223372036854775807 := bounds_i64 h
theorem nat_of_u64 {x : Int} (h : (Lit.int .u64 x).wf = true) : ∃ n : Nat, x = (n : Int) ∧ n < 18446744073709551616 := by
  obtain ⟨h0, h1⟩ := bounds_u64 h
  obtain ⟨n, rfl⟩ := Int.eq_ofNat_of_zero_le h0
  exact ⟨n, rfl, by omega⟩
section
variable {H : Type} {enc : TypeId × Value → H} {W : World} {base b0 : Nat} {r : Reach} {v : Value} {d : DataW H} {ps : List MemPlace}
set_option maxRecDepth 100000 in
/-- An Id that came in. -/
theorem open_id (hval : Value.okWide Tryd.prog W r base 39 v) (h : DataW.Trod enc Tryd.prog W b0 (fun _ => true) true 39 v d ps) :
    ∃ l n : Int, v = idv l n ∧ (0 ≤ l ∧ l ≤ 18446744073709551615) ∧ 0 ≤ n ∧ n ≤ 18446744073709551615 := by
  obtain ⟨cs, rfl, hsz⟩ := okWide_struct Tryd.underlying39 hval
  rw [cId] at hsz
  obtain ⟨l⟩ := cs
  match l, hsz with
  | [c0, c1], _ =>
    obtain ⟨fuel, hf⟩ := h
    obtain ⟨xs, n, _, hx, _, hlen, hg⟩ := DataW.trod_struct Tryd.underlying39 hf
    match xs, hlen with
    | [y0, y1], _ =>
      have g0 : DataW.trod enc Tryd.prog W b0 (fun _ => true) true n 22 (([c0, c1].drop 0).take (Tryd.prog.cellsOf 22)) = some y0 := hg 0 _ rfl
      have g1 : DataW.trod enc Tryd.prog W b0 (fun _ => true) true n 22 (([c0, c1].drop 1).take (Tryd.prog.cellsOf 22)) = some y1 := hg 1 _ rfl
      rw [cellsU64] at g0 g1
      obtain ⟨l, e0, _, w0⟩ := DataW.trod_int Tryd.underlying22 g0
      obtain ⟨m, e1, _, w1⟩ := DataW.trod_int Tryd.underlying22 g1
      have e0' : c0 = .int .u64 l := List.head_eq_of_cons_eq e0
      have e1' : c1 = .int .u64 m := List.head_eq_of_cons_eq e1
      exact ⟨l, m, by rw [e0', e1']; rfl, bnd_u64 w0, (bnd_u64 w1).1, (bnd_u64 w1).2⟩
set_option maxRecDepth 100000 in
/-- An event that came in. -/
theorem open_ev (hval : Value.okWide Tryd.prog W r base 24 v) (h : DataW.Trod enc Tryd.prog W b0 (fun _ => true) true 24 v d ps) :
    ∃ l k x : Int, v = ev l k x ∧ (0 ≤ l ∧ l ≤ 18446744073709551615) ∧ (-9223372036854775808 ≤ k ∧ k ≤ 9223372036854775807) ∧ -9223372036854775808 ≤ x ∧ x ≤ 9223372036854775807 := by
  obtain ⟨cs, rfl, hsz⟩ := okWide_struct Tryd.underlying24 hval
  rw [cEv] at hsz
  obtain ⟨l⟩ := cs
  match l, hsz with
  | [c0, c1, c2], _ =>
    obtain ⟨fuel, hf⟩ := h
    obtain ⟨xs, n, _, hx, _, hlen, hg⟩ := DataW.trod_struct Tryd.underlying24 hf
    match xs, hlen with
    | [y0, y1, y2], _ =>
      have g0 : DataW.trod enc Tryd.prog W b0 (fun _ => true) true n 22 (([c0, c1, c2].drop 0).take (Tryd.prog.cellsOf 22)) = some y0 := hg 0 _ rfl
      have g1 : DataW.trod enc Tryd.prog W b0 (fun _ => true) true n 3 (([c0, c1, c2].drop 1).take (Tryd.prog.cellsOf 3)) = some y1 := hg 1 _ rfl
      have g2 : DataW.trod enc Tryd.prog W b0 (fun _ => true) true n 2 (([c0, c1, c2].drop 2).take (Tryd.prog.cellsOf 2)) = some y2 := hg 2 _ rfl
      rw [cellsU64] at g0
      rw [cInt] at g1
      rw [cInt64] at g2
      obtain ⟨l, e0, _, w0⟩ := DataW.trod_int Tryd.underlying22 g0
      obtain ⟨k, e1, _, w1⟩ := DataW.trod_int Tryd.underlying3 g1
      obtain ⟨x, e2, _, w2⟩ := DataW.trod_int Tryd.underlying2 g2
      have e0' : c0 = .int .u64 l := List.head_eq_of_cons_eq e0
      have e1' : c1 = .int .i64 k := List.head_eq_of_cons_eq e1
      have e2' : c2 = .int .i64 x := List.head_eq_of_cons_eq e2
      exact ⟨l, k, x, by rw [e0', e1', e2']; rfl, bnd_u64 w0, bnd_i64 w1, (bnd_i64 w2).1, (bnd_i64 w2).2⟩
set_option maxRecDepth 100000 in
/-- A stored event that came in. -/
theorem open_st (hval : Value.okWide Tryd.prog W r base 41 v) (h : DataW.Trod enc Tryd.prog W b0 (fun _ => true) true 41 v d ps) :
    ∃ l n o t k x : Int, v = stv l n o t k x ∧ 0 ≤ n ∧ 0 ≤ o ∧ 0 ≤ t := by
  obtain ⟨cs, rfl, hsz⟩ := okWide_struct Tryd.underlying41 hval
  rw [cSt] at hsz
  obtain ⟨l⟩ := cs
  match l, hsz with
  | [c0, c1, c2, c3, c4, c5], _ =>
    obtain ⟨fuel, hf⟩ := h
    obtain ⟨xs, n, _, hx, _, hlen, hg⟩ := DataW.trod_struct Tryd.underlying41 hf
    match xs, hlen with
    | [y0, y1, y2, y3, y4], _ =>
      have g0 : DataW.trod enc Tryd.prog W b0 (fun _ => true) true n 39 (([c0, c1, c2, c3, c4, c5].drop 0).take (Tryd.prog.cellsOf 39)) = some y0 := hg 0 _ rfl
      have g1 : DataW.trod enc Tryd.prog W b0 (fun _ => true) true n 22 (([c0, c1, c2, c3, c4, c5].drop 2).take (Tryd.prog.cellsOf 22)) = some y1 := hg 1 _ rfl
      have g2 : DataW.trod enc Tryd.prog W b0 (fun _ => true) true n 22 (([c0, c1, c2, c3, c4, c5].drop 3).take (Tryd.prog.cellsOf 22)) = some y2 := hg 2 _ rfl
      have g3 : DataW.trod enc Tryd.prog W b0 (fun _ => true) true n 3 (([c0, c1, c2, c3, c4, c5].drop 4).take (Tryd.prog.cellsOf 3)) = some y3 := hg 3 _ rfl
      have g4 : DataW.trod enc Tryd.prog W b0 (fun _ => true) true n 2 (([c0, c1, c2, c3, c4, c5].drop 5).take (Tryd.prog.cellsOf 2)) = some y4 := hg 4 _ rfl
      rw [cId] at g0
      rw [cellsU64] at g1 g2
      rw [cInt] at g3
      rw [cInt64] at g4
      obtain ⟨o, e2, _, w2⟩ := DataW.trod_int Tryd.underlying22 g1
      obtain ⟨t, e3, _, w3⟩ := DataW.trod_int Tryd.underlying22 g2
      obtain ⟨k, e4, _, w4⟩ := DataW.trod_int Tryd.underlying3 g3
      obtain ⟨x, e5, _, w5⟩ := DataW.trod_int Tryd.underlying2 g4
      obtain ⟨zs, m, _, _, _, hlen2, hg2⟩ := DataW.trod_struct Tryd.underlying39 g0
      match zs, hlen2 with
      | [z0, z1], _ =>
        have q0 : DataW.trod enc Tryd.prog W b0 (fun _ => true) true m 22 ((([c0, c1, c2, c3, c4, c5].drop 0).take 2).drop 0 |>.take (Tryd.prog.cellsOf 22)) = some z0 := hg2 0 _ rfl
        have q1 : DataW.trod enc Tryd.prog W b0 (fun _ => true) true m 22 ((([c0, c1, c2, c3, c4, c5].drop 0).take 2).drop 1 |>.take (Tryd.prog.cellsOf 22)) = some z1 := hg2 1 _ rfl
        rw [cellsU64] at q0 q1
        obtain ⟨l, e0, _, w0⟩ := DataW.trod_int Tryd.underlying22 q0
        obtain ⟨no, e1, _, w1⟩ := DataW.trod_int Tryd.underlying22 q1
        have e0' : c0 = .int .u64 l := List.head_eq_of_cons_eq e0
        have e1' : c1 = .int .u64 no := List.head_eq_of_cons_eq e1
        have e2' : c2 = .int .u64 o := List.head_eq_of_cons_eq e2
        have e3' : c3 = .int .u64 t := List.head_eq_of_cons_eq e3
        have e4' : c4 = .int .i64 k := List.head_eq_of_cons_eq e4
        have e5' : c5 = .int .i64 x := List.head_eq_of_cons_eq e5
        exact ⟨l, no, o, t, k, x, by rw [e0', e1', e2', e3', e4', e5']; rfl, (bnd_u64 w1).1, (bnd_u64 w2).1, (bnd_u64 w3).1⟩
end
end Ev
end Go.Proofs.YtcmdndgaggbhoaaDoor
