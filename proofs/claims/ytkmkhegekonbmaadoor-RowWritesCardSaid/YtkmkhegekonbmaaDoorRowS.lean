/- Walks: the program's reader of a word. -/
import Derived.Test.YtkmkhegekonbmaaDoorRowR
namespace Go.Proofs.YtkmkhegekonbmaaDoor
open Go.RowKit
open Rw6

/-- What reading a word gives. -/
def WordP (w : World) (R : Nat) (s : ByteArray) (k : Nat) (f : Int) (e : Ending) (w' : World) : Prop :=
  ∃ k' : Nat, k ≤ k' ∧ k' ≤ s.size ∧ Cur w' R s k' f ∧ w.grownBy w' (some R) ∧
    ((oneG (restAt s k) = none ∧ ∃ q t, e = .returned (.tuple #[.agg #[.bool q, .string t, .int .i64 (f + (k : Int))], .bool false])) ∨
     ∃ q t r, oneG (restAt s k) = some ((q, t), r) ∧ e = .returned (.tuple #[.agg #[.bool q, .string (strOf t), .int .i64 (f + (k : Int))], .bool true]) ∧ restAt s k' = r)
theorem Blk.other_grown {w w' : World} {b R : Nat} {us : List Value} (h : Blk w b us) (hg : w.grownBy w' (some R)) (hne : b ≠ R) : Blk w' b us := h.grown hg (fun e => hne (by cases e; rfl))
theorem grown_alloc {w w1 : World} {row : Option Nat} (h : w.grownBy w1 row) (o : Obj) : w.grownBy (w1.alloc o) row := h.trans (World.grownBy_alloc w1 o _)
theorem grown_set {w w1 : World} {row : Option Nat} (h : w.grownBy w1 row) {b i : Nat} (hb : w.heap.size ≤ b) (u : Value) : w.grownBy (w1.setCell ⟨b, i, none⟩ u) row :=
  ⟨h.os, h.tape, h.output, by simpa [World.setCell] using h.size, fun k hk hne => (Below.heap_setCell _ _ _ _ (by show k ≠ b; omega)).trans (h.block k hk hne)⟩
theorem grown_drewN {w w1 : World} {row : Option Nat} (h : w.grownBy w1 row) (n : Nat) : w.grownBy (w1.drewN n) row := ⟨h.os, h.tape, h.output, h.size, h.block⟩
theorem Cur.of_set {w : World} {R : Nat} {s : ByteArray} {k : Nat} {f : Int} (h : Cur w R s k f) {p : Addr} (hp : p.block ≠ R) (u : Value) : Cur (w.setCell p u) R s k f := Blk.other h hp u
theorem Cur.alloc {w : World} {R : Nat} {s : ByteArray} {k : Nat} {f : Int} (h : Cur w R s k f) (o : Obj) : Cur (w.alloc o) R s k f := Blk.alloc h o
/-- Behind the first statement: the word's block, the result's, and the cursor. -/
def WCut (w : World) (R : Nat) (s : ByteArray) (k : Nat) (f : Int) (q : Bool) (s4 : Value) (wx : World) : Prop :=
  s4 = .pointer (some ⟨w.heap.size + 1, 0, none⟩) ∧ Blk wx (w.heap.size + 1) [.bool q, .string ⟨#[]⟩, .int .i64 (f + (k : Int))] ∧ Blk wx w.heap.size [.bool false, .string ⟨#[]⟩, .int .i64 0] ∧ Cur wx R s k f ∧ w.grownBy wx (some R)
theorem WCut.mk {w : World} {R : Nat} {s : ByteArray} {k : Nat} {f : Int} {q : Bool} {t : TypeId} (h : Cur w R s k f) (n : Nat) :
    WCut w R s k f q (.pointer (some ⟨w.heap.size + 1, 0, none⟩)) (((w.alloc (.cells #[.bool false, .string ⟨#[]⟩, .int .i64 0] t)).alloc (.cells #[.bool q, .string ⟨#[]⟩, .int .i64 (f + (k : Int))] t)).drewN n) :=
  ⟨rfl, (Blk.is (w := w.alloc _) (us := [.bool q, .string ⟨#[]⟩, .int .i64 (f + (k : Int))]) t (by simp)).drewN n, ((Blk.new w [.bool false, .string ⟨#[]⟩, .int .i64 0] t).alloc _).drewN n, ((h.alloc _).alloc _).drewN n, grown_drewN (grown_alloc (World.grownBy_alloc w _ _) _) n⟩
theorem WCut.mk2 {w : World} {R : Nat} {s : ByteArray} {k : Nat} {f : Int} {q : Bool} {t : TypeId} (h : Cur w R s k f) (n : Nat) :
    WCut w R s k f q (.pointer (some ⟨w.heap.size + 1, 0, none⟩)) ((((((w.alloc (.cells #[.bool false, .string ⟨#[]⟩, .int .i64 0] t)).alloc (.cells #[.bool false, .string ⟨#[]⟩, .int .i64 0] t)).drewN n).setCell ⟨w.heap.size + 1, 0, none⟩ (.bool q)).setCell ⟨w.heap.size + 1, 1, none⟩ (.string ⟨#[]⟩)).setCell ⟨w.heap.size + 1, 2, none⟩ (.int .i64 (f + (k : Int)))) := by
  have hR := h.lt
  have hne : ∀ i, (⟨w.heap.size + 1, i, none⟩ : Addr).block ≠ w.heap.size := fun i => by simp
  have hne2 : ∀ i, (⟨w.heap.size + 1, i, none⟩ : Addr).block ≠ R := fun i => by show w.heap.size + 1 ≠ R; omega
  refine ⟨rfl, ?_, ?_, ?_, ?_⟩
  · exact ((((Blk.is (w := w.alloc _) (us := [.bool false, .string ⟨#[]⟩, .int .i64 0]) t (by simp)).drewN n).set 0 (.bool q)).set 1 (.string ⟨#[]⟩)).set 2 (.int .i64 (f + (k : Int)))
  · exact (((((Blk.new w [.bool false, .string ⟨#[]⟩, .int .i64 0] t).alloc _).drewN n).other (hne _) _).other (hne _) _).other (hne _) _
  · exact (((((h.alloc _).alloc _).drewN n).of_set (hne2 _) _).of_set (hne2 _) _).of_set (hne2 _) _
  · exact grown_set (grown_set (grown_set (grown_drewN (grown_alloc (World.grownBy_alloc w _ _) _) n) (by omega) _) (by omega) _) (by omega) _
theorem word_out {w w2 : World} {R : Nat} {s : ByteArray} {k' : Nat} {f : Int} (hR : R < w.heap.size) (hL0 : Blk w2 w.heap.size [.bool false, .string ⟨#[]⟩, .int .i64 0]) (hC2 : Cur w2 R s k' f) (hg : w.grownBy w2 (some R)) (q : Bool) (t : ByteArray) (a : Int) (V : World)
    (hV : V = (((w2.setCell ⟨w.heap.size + 1, 1, none⟩ (.string t)).setCell ⟨w.heap.size, 0, none⟩ (.bool q)).setCell ⟨w.heap.size, 1, none⟩ (.string t)).setCell ⟨w.heap.size, 2, none⟩ (.int .i64 a)) :
    Blk V w.heap.size [.bool q, .string t, .int .i64 a] ∧ Cur V R s k' f ∧ w.grownBy V (some R) := by
  subst hV
  have n1 : w.heap.size + 1 ≠ R := by omega
  have n0 : w.heap.size ≠ R := by omega
  refine ⟨?_, ?_, ?_⟩
  · exact (((hL0.other (p := ⟨w.heap.size + 1, 1, none⟩) (by simp) _).set 0 (.bool q)).set 1 (.string t)).set 2 (.int .i64 a)
  · exact (((hC2.of_set (p := ⟨w.heap.size + 1, 1, none⟩) n1 _).of_set (p := ⟨w.heap.size, 0, none⟩) n0 _).of_set (p := ⟨w.heap.size, 1, none⟩) n0 _).of_set (p := ⟨w.heap.size, 2, none⟩) n0 _
  · exact grown_set (grown_set (grown_set (grown_set hg (Nat.le_succ _) _) (Nat.le_refl _) _) (Nat.le_refl _) _) (Nat.le_refl _) _
set_option maxRecDepth 100000 in
set_option maxHeartbeats 8000000 in
theorem word_any {w : World} {R : Nat} {s : ByteArray} {k : Nat} {f : Int} (h : Cur w R s k f) (hk : k < s.size) (hs : s.size ≤ 100000) (hf : flat s) (h0 : 0 ≤ f) (h1 : f ≤ 1000000) (hd : doneB (restAt s k) = false) (hbl : ∀ b r, restAt s k = b :: r → blankB b = false) :
    Calls Tryd.prog 62 #[.pointer (some ⟨R, 0, none⟩)] w (WordP w R s k f) := by
  have hN := fun W (h : Cur W R s k f) => next_any h (Nat.le_of_lt hk) hs
  have hQ := fun W (h : Cur W R s k f) => quotedM_any h hk hs hf
  have hB := fun W (h : Cur W R s k f) => bareM_any h (Nat.le_of_lt hk) hs hf
  have hR := h.lt
  have hw : IntKind.i64.wrap (f + (k : Int)) = f + (k : Int) := IntWalk.i64_in _ ⟨by omega, by omega⟩
  have hr := rest_cons hk
  have hone1 : nextI (restAt s k) = 34 → oneG (restAt s k) = match quotG (restAt s (k + 1)) with | some (t, r2) => if endB r2 = true then some ((true, t), r2) else none | none => none := fun e => by
    rw [nextI_B] at e
    have e2 := (u8_lit (b := nextB (restAt s k)) (n := 34) (by decide)).2 e
    rw [hr] at e2 ⊢
    rw [show s[k]'hk = 34 from e2, oneG_quoted]
    cases quotG (restAt s (k + 1)) <;> rfl
  have hone2 : ¬ nextI (restAt s k) = 34 → oneG (restAt s k) = if bareB (wordL (restAt s k)) = true then some ((false, wordL (restAt s k)), pastL (restAt s k)) else none := fun e => by
    rw [nextI_B] at e
    have e2 : nextB (restAt s k) ≠ 34 := fun h => e ((u8_lit (n := 34) (by decide)).1 h)
    have e3 := hbl _ _ hr
    rw [hr] at e2 hd ⊢
    exact oneG_bare e2 (by simpa [doneB] using hd) e3
  have HO1 := Lib.hid hone1
  have HO2 := Lib.hid hone2
  obtain ⟨c, hc⟩ : ∃ c, c = nextI (restAt s k) := ⟨_, rfl⟩
  rw [← hc] at hN HO1 HO2
  obtain ⟨q, hq⟩ : ∃ q, q = (c == 34) := ⟨_, rfl⟩
  have hqq : (c == 34) = q := hq.symm
  have HQQ := Lib.hid hqq
  clear hone1 hone2 hr hc hd hbl hq
  go_enter Tryd.func62, Tryd.ntmps62
  go_upto_region 1 with (fail)
  go_cut [4] (fun s4 wx => WCut w R s k f q s4 wx)
  case first =>
    obtain ⟨hlt, c0, c1, c2, q0, q1, q2⟩ := h.parts
    go_region_with ((go_at_call 71; refine (hN _ ?_).mono ?_; (first | exact (h.alloc _).drew | exact ((h.alloc _).drew.alloc _)); rintro e w1 ⟨rfl, n, rfl⟩))
    all_goals
      go_wp2_with fail
      go_meet
      case rel => first | exact WCut.mk h _ | exact WCut.mk2 h _
  case rest =>
    obtain ⟨rfl, hK1, hK0, hC, hg⟩ := hcut
    have hn1 : w.heap.size + 1 ≠ R := by omega
    have hn0 : w.heap.size ≠ R := by omega
    cases q with
    | true =>
      have hone := HO1.out (by have := HQQ.out; simpa using this)
      cases hqg : quotG (restAt s (k + 1)) with
      | none =>
        rw [hqg] at hone
        have hQ2 := (hQ wc hC).mono (R' := fun e w' => ∃ k' : Nat, k ≤ k' ∧ k' ≤ s.size ∧ Cur w' R s k' f ∧ wc.grownBy w' (some R) ∧ e = .returned (.tuple #[.string ⟨#[]⟩, .bool false])) (by
          rintro e w' ⟨k', a, b, c, d, (⟨_, rfl⟩ | ⟨t, r, h, _⟩)⟩
          · exact ⟨k', a, b, c, d, rfl⟩
          · rw [hqg] at h; cases h)
        have HONE := Lib.hid hone
        clear hone hqg hQ hB HO1 HO2 HQQ hN
        obtain ⟨hz1, a0, a1, a2, b0, b1, b2⟩ := (show _ ∧ _ ∧ _ ∧ _ ∧ _ ∧ _ ∧ _ from ⟨hK1.lt, hK1.cell 0 _ rfl, hK1.cell 1 _ rfl, hK1.cell 2 _ rfl, hK1.fr 0 _ rfl, hK1.fr 1 _ rfl, hK1.fr 2 _ rfl⟩)
        go_wp2_with (go_at_call 72; refine hQ2.mono ?_; rintro e w2 ⟨k', hk1, hk2, hC2, hg2, rfl⟩; have hL1 := hK1.other_grown hg2 hn1; have hL0 := hK0.other_grown hg2 hn0; have hz1 := hL1.lt; have d0 := hL1.cell 0 _ rfl; have d1 := hL1.cell 1 _ rfl; have d2 := hL1.cell 2 _ rfl; have e0 := hL1.fr 0 _ rfl; have e1 := hL1.fr 1 _ rfl; have e2 := hL1.fr 2 _ rfl; have g0 := hL0.cell 0 _ rfl; have g1 := hL0.cell 1 _ rfl; have g2 := hL0.cell 2 _ rfl; have g3 := hL0.fr 0 _ rfl; have g4 := hL0.fr 1 _ rfl; have g5 := hL0.fr 2 _ rfl)
        refine named_post fun V hV => ?_
        obtain ⟨hVB, hVC, hVG⟩ := word_out hR hL0 hC2 (hg.trans hg2) true ⟨#[]⟩ (f + (k : Int)) V hV
        clear hV d0 d1 d2 e0 e1 e2 g0 g1 g2 g3 g4 g5
        have d0 := hVB.cell 0 _ rfl
        have d1 := hVB.cell 1 _ rfl
        have d2 := hVB.cell 2 _ rfl
        have hlt := hVB.lt
        exact bodyPost_ret (v := .tuple #[.agg #[.bool true, .string ⟨#[]⟩, .int .i64 (f + (k : Int))], .bool false]) (by simp [results, Tryd.results62, go_sem, d0, d1, d2]) rfl ⟨k', hk1, hk2, hVC, hVG, .inl ⟨HONE.out, true, ⟨#[]⟩, rfl⟩⟩

      | some tr =>
        obtain ⟨t, r⟩ := tr
        rw [hqg] at hone
        have hQ2 := (hQ wc hC).mono (R' := fun e w' => ∃ k' : Nat, k ≤ k' ∧ k' ≤ s.size ∧ Cur w' R s k' f ∧ wc.grownBy w' (some R) ∧ e = .returned (.tuple #[.string (strOf t), .bool (endB r)]) ∧ Hid (restAt s k' = r)) (by
          rintro e w' ⟨k', a, b, c, d, (⟨h, _⟩ | ⟨t, r, h, rfl, hr⟩)⟩
          · rw [hqg] at h; cases h
          · rw [hqg] at h; cases h; exact ⟨k', a, b, c, d, rfl, Lib.hid hr⟩)
        obtain ⟨ok, hok⟩ : ∃ ok, ok = endB r := ⟨_, rfl⟩
        rw [← hok] at hQ2
        have HONE := Lib.hid (show oneG (restAt s k) = if ok = true then some ((true, t), r) else none by rw [hok]; exact hone)
        clear hok
        clear hone hqg hQ hB HO1 HO2 HQQ hN
        obtain ⟨hz1, a0, a1, a2, b0, b1, b2⟩ := (show _ ∧ _ ∧ _ ∧ _ ∧ _ ∧ _ ∧ _ from ⟨hK1.lt, hK1.cell 0 _ rfl, hK1.cell 1 _ rfl, hK1.cell 2 _ rfl, hK1.fr 0 _ rfl, hK1.fr 1 _ rfl, hK1.fr 2 _ rfl⟩)
        go_wp2_with (go_at_call 72; refine hQ2.mono ?_; rintro e w2 ⟨k', hk1, hk2, hC2, hg2, rfl, hrk⟩; have hL1 := hK1.other_grown hg2 hn1; have hL0 := hK0.other_grown hg2 hn0; have hz1 := hL1.lt; have d0 := hL1.cell 0 _ rfl; have d1 := hL1.cell 1 _ rfl; have d2 := hL1.cell 2 _ rfl; have e0 := hL1.fr 0 _ rfl; have e1 := hL1.fr 1 _ rfl; have e2 := hL1.fr 2 _ rfl; have g0 := hL0.cell 0 _ rfl; have g1 := hL0.cell 1 _ rfl; have g2 := hL0.cell 2 _ rfl; have g3 := hL0.fr 0 _ rfl; have g4 := hL0.fr 1 _ rfl; have g5 := hL0.fr 2 _ rfl)
        refine named_post fun V hV => ?_
        obtain ⟨hVB, hVC, hVG⟩ := word_out hR hL0 hC2 (hg.trans hg2) true (strOf t) (f + (k : Int)) V hV
        clear hV d0 d1 d2 e0 e1 e2 g0 g1 g2 g3 g4 g5
        have d0 := hVB.cell 0 _ rfl
        have d1 := hVB.cell 1 _ rfl
        have d2 := hVB.cell 2 _ rfl
        have hlt := hVB.lt
        refine bodyPost_ret (v := .tuple #[.agg #[.bool true, .string (strOf t), .int .i64 (f + (k : Int))], .bool ok]) (by simp [results, Tryd.results62, go_sem, d0, d1, d2]) rfl ⟨k', hk1, hk2, hVC, hVG, ?_⟩

        cases ok with
        | true => exact .inr ⟨true, t, r, HONE.out, rfl, hrk.out⟩
        | false => exact .inl ⟨HONE.out, true, strOf t, rfl⟩
    | false =>
      have hone := HO2.out (by have := HQQ.out; simpa using this)
      have hB2 := hB wc hC
      obtain ⟨t, ht⟩ : ∃ t, t = wordL (restAt s k) := ⟨_, rfl⟩
      obtain ⟨r, hr⟩ : ∃ r, r = pastL (restAt s k) := ⟨_, rfl⟩
      obtain ⟨ok, hok⟩ : ∃ ok, ok = bareB t := ⟨_, rfl⟩
      unfold BareP at hB2
      rw [← ht, ← hr] at hone
      rw [← ht, ← hr, ← hok] at hB2
      rw [← hok] at hone
      have HONE := Lib.hid hone
      clear hone ht hr hok hQ hB HO1 HO2 HQQ hN
      obtain ⟨hz1, a0, a1, a2, b0, b1, b2⟩ := (show _ ∧ _ ∧ _ ∧ _ ∧ _ ∧ _ ∧ _ from ⟨hK1.lt, hK1.cell 0 _ rfl, hK1.cell 1 _ rfl, hK1.cell 2 _ rfl, hK1.fr 0 _ rfl, hK1.fr 1 _ rfl, hK1.fr 2 _ rfl⟩)
      go_wp2_with (go_at_call 73; refine hB2.mono ?_; rintro e w2 ⟨k', hk1, hk2, rfl, hC2, ho2, hrk⟩; have HRK := Lib.hid hrk; clear hrk; have hg2 := only_grown ho2; have hL1 := hK1.other_grown hg2 hn1; have hL0 := hK0.other_grown hg2 hn0; have hz1 := hL1.lt; have d0 := hL1.cell 0 _ rfl; have d1 := hL1.cell 1 _ rfl; have d2 := hL1.cell 2 _ rfl; have e0 := hL1.fr 0 _ rfl; have e1 := hL1.fr 1 _ rfl; have e2 := hL1.fr 2 _ rfl; have g0 := hL0.cell 0 _ rfl; have g1 := hL0.cell 1 _ rfl; have g2 := hL0.cell 2 _ rfl; have g3 := hL0.fr 0 _ rfl; have g4 := hL0.fr 1 _ rfl; have g5 := hL0.fr 2 _ rfl)
      refine named_post fun V hV => ?_
      obtain ⟨hVB, hVC, hVG⟩ := word_out hR hL0 hC2 (hg.trans hg2) false (strOf t) (f + (k : Int)) V hV
      clear hV d0 d1 d2 e0 e1 e2 g0 g1 g2 g3 g4 g5
      have d0 := hVB.cell 0 _ rfl
      have d1 := hVB.cell 1 _ rfl
      have d2 := hVB.cell 2 _ rfl
      have hlt := hVB.lt
      refine bodyPost_ret (v := .tuple #[.agg #[.bool false, .string (strOf t), .int .i64 (f + (k : Int))], .bool ok]) (by simp [results, Tryd.results62, go_sem, d0, d1, d2]) rfl ⟨k', hk1, hk2, hVC, hVG, ?_⟩

      cases ok with
      | true => exact .inr ⟨false, t, r, HONE.out, rfl, HRK.out⟩
      | false => exact .inl ⟨HONE.out, false, strOf t, rfl⟩
end Go.Proofs.YtkmkhegekonbmaaDoor
