/- Walks: the program's Text. -/
import Derived.Test.YtkmkhegekonbmaaDoorRowGG
namespace Go.Proofs.YtkmkhegekonbmaaDoor
open Go.RowKit
open Rw6

/-- The text of rows behind a text that stands, or the first error. -/
def textI (acc : List UInt8) : List (Int × List Wd) → List UInt8 × Int
  | [] => (acc, 0)
  | r :: rs => if (lineI r.2).2 ≠ 0 then ([], (lineI r.2).2) else if 20000 < acc.length + (lineI r.2).1.length + 1 then ([], 4) else textI (acc ++ ((lineI r.2).1 ++ [10])) rs
theorem textI_cons (acc : List UInt8) (r : Int × List Wd) (rs : List (Int × List Wd)) : textI acc (r :: rs) = if (lineI r.2).2 ≠ 0 then ([], (lineI r.2).2) else if 20000 < acc.length + (lineI r.2).1.length + 1 then ([], 4) else textI (acc ++ ((lineI r.2).1 ++ [10])) rs := rfl
theorem Bld.later {b : Nat} {l : List UInt8} {w w' : World} (h : Bld b l w) (hb : Below w.heap.size w w') : Bld b l w' := by
  have one : ∀ {p : Value}, Lib.BuilderAt 63 5 b b p (bvals l) w → Lib.BuilderAt 63 5 b b p (bvals l) w' := fun {p} g => by
    have hlt := g.lt
    obtain ⟨h1, v, h2, h3, h4⟩ := g
    exact ⟨h1, v, (hb.block b hlt).trans h2, h3.kept (row := none) ⟨hb.os, hb.tape, hb.output, hb.size, fun k hk _ => hb.block k hk⟩ (Classical.em _), h4⟩
  exact h.elim (fun g => .inl (one g)) (fun g => .inr (one g))
theorem Bld.new {w : World} : Bld w.heap.size [] (w.alloc (.cells #[.pointer none, .slice none 0 0] 63)) := Lib.fresh_isBuilder _ _ w
theorem lineI_len (ws : List Wd) : (lineI ws).1.length ≤ 1000 := by
  unfold lineI
  split
  · simp
  · split
    · split
      · simp
      · simp only; omega
    · simp
set_option maxRecDepth 100000 in
set_option maxHeartbeats 4000000 in
theorem text_any (v : Value) (rs : List (Int × List Wd)) (w : World) (hv : RSl w v rs) (hl : ∀ r ∈ rs, r.2.length ≤ 1000) (hs : ∀ r ∈ rs, ∀ x ∈ r.2, x.2.1.length ≤ 20000) :
    Calls Tryd.prog 12 #[v] w fun e w' => e = .returned (.tuple #[.string (strOf (textI [] rs).1), .int .i64 (textI [] rs).2]) ∧ Below w.heap.size w w' := by
  obtain ⟨A, cap, rfl, hcap, hmax, _, hc⟩ := hv.at_
  have HC := Lib.hid hc
  have HL := Lib.hid fun (r : Int × List Wd) (h : r ∈ rs) (u : Value) (W : World) (hu : WSl W u r.2) => lineOf_any r.1 u r.2 W hu (hl r h) (hs r h)
  clear hc hs hv hl
  go_enter Tryd.func12, Tryd.ntmps12
  go_wp2
  go_loopw [11] (fun i wr => ∃ (k : Nat) (acc : List UInt8), k ≤ rs.length ∧ i = .int .i64 (k : Int) ∧ textI [] rs = textI acc (rs.drop k) ∧ acc.length ≤ 20000 ∧ Hid (Bld w.heap.size acc wr) ∧ Below w.heap.size w wr) (fun i _ => rs.length - (intOf i).toNat)
  case atStart =>
    exact ⟨0, [], Nat.zero_le _, rfl, rfl, Nat.zero_le _, Lib.hid Bld.new, by go_grown⟩
  case round =>
    obtain ⟨k, acc, hk, rfl, hT, hacc, hK, hB⟩ := hrel
    by_cases hlt : k < rs.length
    · obtain ⟨a, u, rfl, hab, c0, c1, hu⟩ := HC.out k hlt
      obtain ⟨A2, cap2, hue, _⟩ := hu.at_
      subst hue
      have d0 := (hB.cell (p := a.add (k * 2)) (by rw [add_block]; omega)).trans c0
      have d1 := (hB.cell (p := a.add (k * 2 + 1)) (by rw [add_block]; omega)).trans c1
      rw [← add_at _ _ _ (by decide)] at d1
      have hi' : (k : Int) < (rs.length : Int) := by omega
      have hu1 := hu.later hB
      have hBk := fun W (hW : WSl W (.slice A2 rs[k].2.length cap2) rs[k].2) => HL.out rs[k] (List.getElem_mem hlt) _ W hW
      have hll := lineI_len rs[k].2
      rw [List.drop_eq_getElem_cons hlt] at hT
      rw [textI_cons] at hT
      obtain ⟨L, hL⟩ : ∃ L, L = (lineI rs[k].2).1 := ⟨_, rfl⟩
      obtain ⟨E, hE⟩ : ∃ E, E = (lineI rs[k].2).2 := ⟨_, rfl⟩
      rw [← hL, ← hE] at hBk hT
      rw [← hL] at hll
      have HT := Lib.hid hT
      have HU := Lib.hid hu1
      have hLs := strOf_size L
      clear c0 c1 hL hE hT hu1 hu
      by_cases he : E = 0
      · subst he
        have HT' := Lib.hid (HT.out.trans (if_neg (fun h => h rfl)))
        clear HT
        by_cases hlg : 20000 < acc.length + L.length + 1
        · have HT := Lib.hid (HT'.out.trans (if_pos hlg))
          have hlg' : (20000 : Int) < (acc.length : Int) + (L.length : Int) + 1 := by omega
          clear HT'
          go_wp2_with (first | (go_at_call 34; refine (hBk _ (HU.out.later ((Below.refl _ _).alloc (Nat.le_refl _) _))).mono ?_; rintro e w' ⟨rfl, hb⟩; have HK := Lib.hid ((hK.out.later ((Below.refl _ _).alloc (Nat.le_refl _) _)).later hb); have HB := Lib.hid ((hB.alloc hB.size _).trans (hb.mono (by have := hB.size; simp; omega)))) | (go_at_call 35; refine (bldLen_any _ _ _ HK.out).mono ?_; rintro e w' ⟨rfl, rfl⟩))
          go_ret2
          exact ⟨by rw [HT.out]; rfl, HB.out⟩
        · have HT := Lib.hid (HT'.out.trans (if_neg hlg))
          have hlg' : ¬ (20000 : Int) < (acc.length : Int) + (L.length : Int) + 1 := by omega
          have happ : (strOf L ++ ⟨#[10]⟩ : ByteArray) = strOf (L ++ [10]) := by rw [strOf_app]; rfl
          clear HT'
          go_wp2_with (first | (go_at_call 34; refine (hBk _ (HU.out.later ((Below.refl _ _).alloc (Nat.le_refl _) _))).mono ?_; rintro e w' ⟨rfl, hb⟩; have HK := Lib.hid ((hK.out.later ((Below.refl _ _).alloc (Nat.le_refl _) _)).later hb); have HB := Lib.hid ((hB.alloc hB.size _).trans (hb.mono (by have := hB.size; simp; omega)))) | (go_at_call 35; refine (bldLen_any _ _ _ HK.out).mono ?_; rintro e w' ⟨rfl, rfl⟩) | (go_at_call 36; refine (write_any _ _ _ _ HK.out (by rw [List.length_append]; simp; omega) HB.out.size).mono ?_; rintro e w' ⟨rfl, hk2, hb2⟩; have HK2 := Lib.hid hk2; have HB2 := Lib.hid (HB.out.trans hb2)))
          go_roundw
          case rel => exact ⟨k + 1, acc ++ (L ++ [10]), by omega, by go_num, HT.out, by rw [List.length_append, List.length_append]; simp; omega, HK2, HB2.out⟩
          case measure => simp [intOf]; omega
      · have he' : (E == 0) = false := by rw [beq_eq_false_iff_ne]; exact he
        go_wp2_with (go_at_call 34; refine (hBk _ (HU.out.later ((Below.refl _ _).alloc (Nat.le_refl _) _))).mono ?_; rintro e w' ⟨rfl, hb⟩)
        go_ret2
        exact ⟨by rw [HT.out, if_pos he]; rfl, (hB.alloc hB.size _).trans (hb.mono (by have := hB.size; simp; omega))⟩
    · have hkz : k = rs.length := by omega
      subst hkz
      have hi' : ¬ (rs.length : Int) < (rs.length : Int) := by omega
      rw [List.drop_length] at hT
      have HT := Lib.hid hT
      have hR := bldString_any w.heap.size acc wr hK.out hB.size
      clear hT
      go_wp2_with (go_at_call 37; refine hR.mono ?_; rintro e w' ⟨rfl, hb⟩)
      go_ret2
      exact ⟨by rw [HT.out]; rfl, hB.trans hb⟩
end Go.Proofs.YtkmkhegekonbmaaDoor
