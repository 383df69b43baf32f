/- Walks: the program's reader of quoted words. -/
import Derived.Test.YtkmkhegekonbmaaDoorRowQ
namespace Go.Proofs.YtkmkhegekonbmaaDoor
open Go.RowKit
open Rw6

theorem Blk.grown {w w' : World} {b : Nat} {us : List Value} {row : Option Nat} (h : Blk w b us) (hg : w.grownBy w' row) (hne : some b ≠ row) : Blk w' b us :=
  ⟨Nat.lt_of_lt_of_le h.lt hg.size, fun i v hv => (hg.cell_far ⟨b, i, none⟩ h.lt hne).trans (h.cell i v hv), fun i v hv => (hg.frozen_far ⟨b, i, none⟩ h.lt hne).trans (h.fr i v hv)⟩
/-- A row of the call's own, where block R may have turned. -/
structure OwnR (R : Nat) (e : TypeId) (sz : Nat) (w : World) (n : Nat) (us : List Value) (v : Value) (wr : World) : Prop where
  row : wr.ownsRow w.heap.size e sz v n us
  fr : w.grownBy wr (some R)
theorem OwnR.far {R : Nat} {e : TypeId} {sz n : Nat} {w wr : World} {us : List Value} {v : Value} (h : OwnR R e sz w n us v wr) (hR : R < w.heap.size) : v.ownBlock = none ∨ v.ownBlock ≠ some R := by
  refine .inr fun hb => ?_
  have := (h.row.lt R hb).1
  omega
theorem OwnR.only {R : Nat} {e : TypeId} {sz n : Nat} {w wr w1 : World} {us : List Value} {v : Value} (h : OwnR R e sz w n us v wr) (hR : R < w.heap.size) (ho : Only R wr w1) : OwnR R e sz w n us v w1 :=
  ⟨h.row.kept (only_grown ho) (h.far hR), h.fr.trans (only_grown ho)⟩
theorem OwnR.grown {R : Nat} {e : TypeId} {sz n : Nat} {w wr w1 : World} {us : List Value} {v : Value} (h : OwnR R e sz w n us v wr) (hR : R < w.heap.size) (ho : wr.grownBy w1 (some R)) : OwnR R e sz w n us v w1 :=
  ⟨h.row.kept ho (h.far hR), h.fr.trans ho⟩
theorem OwnR.snoc {R : Nat} {e te : TypeId} {sz n m : Nat} {w wr w1 : World} {us xs : List Value} {cs : Array Value} {v v1 : Value} (h : OwnR R e sz w n us v wr) (h1 : w1.ownsRow w.heap.size e sz v1 (n + m) (us ++ xs)) (hg : (wr.alloc (.cells cs te)).grownBy w1 v.ownBlock) : OwnR R e sz w (n + m) (us ++ xs) v1 w1 :=
  ⟨h1, (h.fr.trans (World.grownBy_alloc wr _ _)).andThen hg fun j hj => .inl (h.row.lt j hj).1⟩
theorem OwnR.blk {R : Nat} {e : TypeId} {sz n : Nat} {w wr w1 : World} {us cs : List Value} {v : Value} {o : Obj} (h : OwnR R e sz w n us v wr) (hR : R < w.heap.size) (hC : Blk wr R cs) (hg : (wr.alloc o).grownBy w1 v.ownBlock) : Blk w1 R cs :=
  (hC.alloc o).grown hg fun e => (h.far hR).elim (fun h => by rw [h] at e; cases e) (fun h => h e.symm)
theorem conv_any {P : Program} {w : World} {src dst e : TypeId} {v : Value} {l : List UInt8} (hs : P.underlying src = some (.slice e)) (he : P.underlying e = some (.int .u8)) (hd : P.underlying dst = some .string)
    (h : Slc w v (bvals l)) : (convert src dst v).run P w = .ok (.string (strOf l)) w := by
  rcases h.split with ⟨rfl, h1⟩ | ⟨a, cap, rfl, _, hc⟩
  · obtain rfl : l = [] := List.map_eq_nil_iff.1 h1
    exact run_convert_bytes_nil w src e hs he 0 0 dst hd
  · rw [bvals_length]
    exact run_convert_bytes_back w src dst e a cap l hs he hd fun j hj => (hc j _ (by simp [bvals, hj])).2
/-- Puts letters in front of a word's text. -/
def glue (t : List UInt8) (o : Option (List UInt8 × List UInt8)) : Option (List UInt8 × List UInt8) := o.map fun p => (t ++ p.1, p.2)
theorem glue_front (t : List UInt8) (d : UInt8) (o : Option (List UInt8 × List UInt8)) : glue t (front d o) = glue (t ++ [d]) o := by
  cases o with
  | none => rfl
  | some p => simp [glue, front]
/-- What reading a quoted word gives. -/
def QuotP (w : World) (R : Nat) (s : ByteArray) (k : Nat) (f : Int) (e : Ending) (w' : World) : Prop :=
  ∃ k' : Nat, k ≤ k' ∧ k' ≤ s.size ∧ Cur w' R s k' f ∧ w.grownBy w' (some R) ∧
    ((quotG (restAt s (k + 1)) = none ∧ e = .returned (.tuple #[.string ⟨#[]⟩, .bool false])) ∨
     ∃ t r, quotG (restAt s (k + 1)) = some (t, r) ∧ e = .returned (.tuple #[.string (strOf t), .bool (endB r)]) ∧ restAt s k' = r)
theorem infoByte6 : (Tryd.prog.info? 5).map (fun i => (i.zero, i.size, i.bytes)) = some (some (.int .u8 0), 1, 1) := by kernel_rfl
theorem own_slc {R : Nat} {e : TypeId} {w wr : World} {us : List Value} {v : Value} {n : Nat} (h : OwnR R e 1 w n us v wr) : Slc wr v us := Slc.of_own h.row
set_option maxRecDepth 100000 in
set_option maxHeartbeats 4000000 in
theorem quotedM_any {w : World} {R : Nat} {s : ByteArray} {k : Nat} {f : Int} (h : Cur w R s k f) (hk : k < s.size) (hs : s.size ≤ 100000) (hf : flat s) :
    Calls Tryd.prog 72 #[.pointer (some ⟨R, 0, none⟩)] w (QuotP w R s k f) := by
  have hT := take_is (Nat.le_of_lt hk) hs hf w h
  have hst : stepK s k = k + 1 := if_pos hk
  have hR := h.lt
  rw [hst] at hT
  obtain ⟨i0, hi, hz0, hz1, hz2⟩ := info_parts infoByte6
  obtain ⟨L, hL⟩ : ∃ L, L = quotG (restAt s (k + 1)) := ⟨_, rfl⟩
  have HLL := Lib.hid hL
  clear hst hL
  go_enter Tryd.func72, Tryd.ntmps72
  go_wp2_with (go_at_call 78; refine hT.mono ?_; rintro e w1 ⟨rfl, hO1, hC1⟩)
  go_loopg [4] (s.size - (k + 1)) (fun g v wr => ∃ (j : Nat) (t : List UInt8), k + 1 ≤ j ∧ j ≤ s.size ∧ g = s.size - j ∧ t.length ≤ j ∧ Hid (Cur wr R s j f) ∧ Hid (OwnR R 5 1 w t.length (bvals t) v wr) ∧ Hid (L = glue t (quotG (restAt s j))))
  case atStart => exact ⟨k + 1, [], Nat.le_refl _, hk, rfl, Nat.zero_le _, hC1, ⟨World.ownsRow_nil _ _ _ _, only_grown hO1⟩, by rw [HLL.out]; cases quotG (restAt s (k + 1)) <;> rfl⟩
  case round =>
    obtain ⟨j, t, hkj, hj, hg, htl, hC, hW, hQ⟩ := hrel
    clear hT hO1 hC1
    have hN := next_any hC.out hj hs
    rw [nextI_B] at hN
    have hLe := fun W (h : Cur W R s j f) => letter_any h hj hs hf
    by_cases h34 : ((nextB (restAt s j)).toNat : Int) = 34
    · have hb : nextB (restAt s j) = 34 := (u8_lit (n := 34) (by decide)).2 h34
      have hjl : j < s.size := by
        by_cases hz : j < s.size
        · exact hz
        · rw [rest_nil (by omega)] at hb; cases hb
      have hr : restAt s j = 34 :: restAt s (j + 1) := by rw [rest_cons hjl] at hb ⊢; rw [show s[j]'hjl = 34 from hb]
      have hq : L = some (t, restAt s (j + 1)) := by rw [hQ.out, hr, quotG_end]; simp [glue]
      have HQ2 := Lib.hid hq
      rw [h34] at hN
      have hT2 := fun W (h : Cur W R s j f) => take_is (Nat.le_of_lt hjl) hs hf W h
      have hst : stepK s j = j + 1 := if_pos hjl
      rw [hst] at hT2
      have hBe := fun W (h : Cur W R s (j + 1) f) => isBehind_any h hjl hs hf
      clear hQ hq hr hb hst h34 hLe
      go_wp2_with (first | (go_at_call 71; refine hN.mono ?_; rintro e w2 ⟨rfl, n, rfl⟩) | (go_at_call 78; refine (hT2 _ (hC.out.drewN n)).mono ?_; rintro e w3 ⟨rfl, hO3, hC3⟩; have hW3 := Lib.hid (hW.out.only hR (((Only.refl R wr).drewN n).trans hO3)); have hcv := fun m => conv_any Tryd.underlying59 Tryd.underlying5 Tryd.underlying9 ((own_slc hW3.out).drewN m)))
      have hcv0 := hcv 0
      go_quiet ((go_at_call 80; exact Calls.quiet_of (hBe _ (hC3.drewN _))))
      go_wp2
      go_ret2
      exact ⟨j + 1, by omega, hjl, hC3.drewN _, hW3.out.fr.trans (only_grown ((Only.refl R w3).drewN _)), .inr ⟨t, _, by rw [← HLL.out, HQ2.out], rfl, rfl⟩⟩
    · have hne : nextB (restAt s j) ≠ 34 := fun e => h34 ((u8_lit (n := 34) (by decide)).1 e)
      have hbb : (((nextB (restAt s j)).toNat : Int) != 34) = true := by simpa using h34
      obtain ⟨X, hX⟩ : ∃ X, X = nextB (restAt s j) := ⟨_, rfl⟩
      rw [← hX] at hN hbb h34
      have hlq : quotG (restAt s j) = match letG (restAt s j) with | some (d, r2) => front d (quotG r2) | none => none := by
        cases hr : restAt s j with
        | nil => exact quotG_nil
        | cons b r =>
          rw [hr] at hne
          exact quotG_let hne
      obtain ⟨o, ho⟩ : ∃ o, o = letG (restAt s j) := ⟨_, rfl⟩
      rw [← ho] at hlq
      have hLe2 : ∀ W, Cur W R s j f → Calls Tryd.prog 79 #[.pointer (some ⟨R, 0, none⟩)] W (fun e w' => ∃ (k' : Nat) (v : Int), j ≤ k' ∧ k' ≤ s.size ∧ e = .returned (.tuple #[.int .u8 v, .bool o.isSome]) ∧ Cur w' R s k' f ∧ Only R W w' ∧ ∀ d r, o = some (d, r) → v = (d.toNat : Int) ∧ restAt s k' = r) := fun W h => by
        have := hLe W h
        unfold LetP at this
        rw [← ho] at this
        exact this
      have hlen : ∀ d r, o = some (d, r) → r.length < s.size - j := fun d r e => by
        have := letG_len (ho ▸ e)
        rw [restAt_len] at this
        exact this
      clear hLe hX hne ho
      cases o with
      | none =>
        have HQ2 := Lib.hid (show L = none by rw [hQ.out, hlq]; rfl)
        clear hQ hlq hlen
        go_wp2_with (first | (go_at_call 71; refine hN.mono ?_; rintro e w2 ⟨rfl, n, rfl⟩) | (go_at_call 79; refine (hLe2 _ (hC.out.drewN n)).mono ?_; rintro e w3 ⟨k', v, hk1, hk2, rfl, hC3, hO3, _⟩))
        go_ret2
        exact ⟨k', by omega, hk2, hC3, hW.out.fr.trans (only_grown (((Only.refl R wr).drewN n).trans hO3)), .inl ⟨by rw [← HLL.out, HQ2.out], rfl⟩⟩
      | some dr =>
        obtain ⟨d, r⟩ := dr
        have hlr := hlen d r rfl
        have HQ2 := Lib.hid (show L = glue (t ++ [d]) (quotG r) by rw [hQ.out, hlq, glue_front])
        have hbs := Lib.hid (bvals_snoc t d)
        clear hQ hlq hlen
        go_wp2_with (first | (go_at_call 71; refine hN.mono ?_; rintro e w2 ⟨rfl, n, rfl⟩) | (go_at_call 79; refine (hLe2 _ (hC.out.drewN n)).mono ?_; rintro e w3 ⟨k', v, hk1, hk2, rfl, hC3, hO3, hv⟩; obtain ⟨rfl, hrk⟩ := hv d r rfl; have HRK := Lib.hid hrk; clear hv hrk; have hW3 := hW.out.only hR (((Only.refl R wr).drewN n).trans hO3)) | (at_builtin; refine wpList_append_own _ rfl _ _ 59 rfl w.heap.size 5 i0 (.int .u8 0) 1 1 Tryd.underlying59 hi hz0 hz1 hz2 rfl (by decide) _ _ _ rfl (hW3.row.alloc _) ⟨w3.heap.size, 0, none⟩ 1 1 [.int .u8 (d.toNat : Int)] rfl rfl (cell_one_new _ _ _) (by simp [Value.oneCell']) (by unfold maxLen; omega) (by omega) (by have := hW3.fr.size; simp; omega) ?_; intro v' w4 hown' hgrow hnil; clear hnil; have hW4 := hW3.snoc hown' hgrow; have hC4 := Lib.hid (hW3.blk hR hC3 hgrow)))
        have hlk : s.size - k' < s.size - j := by
          have := restAt_len s k'
          rw [HRK.out] at this
          omega
        go_roundg (s.size - k')
        case rel => exact ⟨k', t ++ [d], by omega, hk2, rfl, by rw [List.length_append]; simp only [List.length_cons, List.length_nil]; omega, hC4, by rw [hbs.out, List.length_append]; exact hW4, by rw [HRK.out]; exact HQ2.out⟩
        case measure => omega
end Go.Proofs.YtkmkhegekonbmaaDoor
