/- Walks: the program's letters of a quoted word. -/
import Derived.Test.YtkmkhegekonbmaaDoorRowO
namespace Go.Proofs.YtkmkhegekonbmaaDoor
open Go.RowKit
open Rw6

theorem Cur.drew {w : World} {R : Nat} {s : ByteArray} {k : Nat} {f : Int} (h : Cur w R s k f) : Cur w.drew R s k f := Blk.drew h
theorem Only.drew {b : Nat} {w w1 : World} (h : Only b w w1) : Only b w w1.drew := h.trans ⟨rfl, rfl, rfl, rfl, fun _ _ => rfl⟩
/-- What reading a letter gives. -/
def LetP (w : World) (R : Nat) (s : ByteArray) (k : Nat) (f : Int) (e : Ending) (w' : World) : Prop :=
  ∃ (k' : Nat) (v : Int), k ≤ k' ∧ k' ≤ s.size ∧ e = .returned (.tuple #[.int .u8 v, .bool (letG (restAt s k)).isSome]) ∧ Cur w' R s k' f ∧ Only R w w' ∧ ∀ d r, letG (restAt s k) = some (d, r) → v = (d.toNat : Int) ∧ restAt s k' = r
theorem take_is {R : Nat} {s : ByteArray} {k : Nat} {f : Int} (hk : k ≤ s.size) (hs : s.size ≤ 100000) (hf : flat s) (W : World) (h : Cur W R s k f) :
    Calls Tryd.prog 78 #[.pointer (some ⟨R, 0, none⟩)] W fun e w' => e = .returned (.int .u8 ((nextB (restAt s k)).toNat : Int)) ∧ Only R W w' ∧ Cur w' R s (stepK s k) f := by
  have := take_any h hk hs hf
  rw [nextI_B] at this
  exact this
theorem u8_lit {b : UInt8} {n : Nat} (hn : n < 256) : b = UInt8.ofNat n ↔ (b.toNat : Int) = n := by
  have := u8_ne (b := b) (k := n) hn
  exact Decidable.not_iff_not.1 this
/-- A letter that is no backslash. -/
theorem letG_self {b : UInt8} {r : List UInt8} (h : b ≠ 92) : letG (b :: r) = if selfB b = true then some (b, r) else none := by
  unfold letG
  simp only
  rw [if_neg h]
theorem letG_esc (l : List UInt8) : letG (92 :: l) = if nextB l = 34 ∨ nextB l = 92 then some (nextB l, l.drop 1) else if nextB l = 120 then (if digV (nextB (l.drop 1)) = 16 ∨ digV (nextB (l.drop 2)) = 16 then none else some (UInt8.ofNat (16 * digV (nextB (l.drop 1)) + digV (nextB (l.drop 2))), l.drop 3)) else none := by
  unfold letG
  simp only
  rw [if_pos trivial]
  cases l with
  | nil => rfl
  | cons c r2 =>
    simp only [nextB, List.drop_succ_cons, List.drop_zero]
    by_cases h : c = 34 ∨ c = 92
    · rw [if_pos h, if_pos h]
    · rw [if_neg h, if_neg h]
      by_cases h4 : c = 120
      · rw [if_pos h4, if_pos h4]
        exact hex_let r2
      · rw [if_neg h4, if_neg h4]
set_option maxRecDepth 100000 in
set_option maxHeartbeats 2000000 in
theorem letter_self {w : World} {R : Nat} {s : ByteArray} {k : Nat} {f : Int} (h : Cur w R s k f) (hk : k ≤ s.size) (hs : s.size ≤ 100000) (hf : flat s) (h92 : ¬ ((nextB (restAt s k)).toNat : Int) = 92) :
    Calls Tryd.prog 79 #[.pointer (some ⟨R, 0, none⟩)] w (LetP w R s k f) := by
  have hT := take_is hk hs hf w h
  have hP := fun w => isPlain_any (nextB (restAt s k)) w
  have hk' := stepK_le hk
  have hkk := stepK_ge s k
  have hlet : letG (restAt s k) = if selfB (nextB (restAt s k)) = true then some (nextB (restAt s k), restAt s (stepK s k)) else none := by
    rw [rest_step]
    cases hr : restAt s k with
    | nil => rfl
    | cons b r =>
      rw [hr] at h92
      exact letG_self (b := b) (r := r) (fun e => h92 ((u8_lit (n := 92) (by decide)).1 e))
  obtain ⟨X, hX⟩ : ∃ X, X = nextB (restAt s k) := ⟨_, rfl⟩
  rw [← hX] at hT hP hlet h92
  obtain ⟨p, hp⟩ : ∃ p, p = selfB X := ⟨_, rfl⟩
  rw [← hp] at hP hlet
  have hbb : ((X.toNat : Int) != 92) = true := by simpa using h92
  have HL := Lib.hid hlet
  clear hX hp hlet
  go_enter Tryd.func79, Tryd.ntmps79
  go_wp2_with (first | (go_at_call 78; refine hT.mono ?_; rintro e w1 ⟨rfl, hO1, hC1⟩) | (go_at_call 51; refine (hP _).mono ?_; rintro e w' ⟨rfl, rfl⟩))
  go_ret2
  refine ⟨_, (X.toNat : Int), hkk, hk', ?_, hC1, hO1, fun d r e => ?_⟩
  · rw [HL.out]; cases p <;> rfl
  · rw [HL.out] at e
    cases p with
    | true => rw [if_pos rfl] at e; cases e; exact ⟨rfl, rfl⟩
    | false => rw [if_neg (by decide)] at e; cases e
set_option maxRecDepth 100000 in
set_option maxHeartbeats 2000000 in
theorem letter_two {w : World} {R : Nat} {s : ByteArray} {k : Nat} {f : Int} (h : Cur w R s k f) (hk : k ≤ s.size) (hs : s.size ≤ 100000) (hf : flat s) (h92 : nextB (restAt s k) = 92) (h120 : ¬ ((nextB (restAt s (stepK s k))).toNat : Int) = 120) :
    Calls Tryd.prog 79 #[.pointer (some ⟨R, 0, none⟩)] w (LetP w R s k f) := by
  have hT := take_is hk hs hf w h
  have hk1 := stepK_le hk
  have hT2 := fun W => take_is hk1 hs hf W (f := f) (R := R)
  have hk2 := stepK_le hk1
  have hkk := Nat.le_trans (stepK_ge s k) (stepK_ge s (stepK s k))
  have hlet : letG (restAt s k) = if nextB (restAt s (stepK s k)) = 34 ∨ nextB (restAt s (stepK s k)) = 92 then some (nextB (restAt s (stepK s k)), restAt s (stepK s (stepK s k))) else none := by
    simp only [rest_step] at h120 ⊢
    cases hr : restAt s k with
    | nil => rw [hr] at h92; cases h92
    | cons b r =>
      rw [hr] at h92 h120
      obtain rfl : b = 92 := h92
      rw [letG_esc]
      simp only [List.drop_succ_cons, List.drop_zero] at h120 ⊢
      rw [if_neg (c := nextB r = 120) (fun e => h120 ((u8_lit (n := 120) (by decide)).1 e))]
  obtain ⟨X, hX⟩ : ∃ X, X = nextB (restAt s (stepK s k)) := ⟨_, rfl⟩
  rw [← hX] at hT2 hlet h120
  rw [h92] at hT
  have hXl : (X = 34 ∨ X = 92) ↔ ((X.toNat : Int) = 34 ∨ (X.toNat : Int) = 92) := or_congr (u8_lit (n := 34) (by decide)) (u8_lit (n := 92) (by decide))
  have hbb : ((X.toNat : Int) == 120) = false := by rw [beq_eq_false_iff_ne]; exact h120
  have h9 : ((92 : UInt8).toNat : Int) = 92 := rfl
  rw [h9] at hT
  have HL := Lib.hid hlet
  have HX := Lib.hid hXl
  obtain ⟨c, hc⟩ : ∃ c : Int, c = (X.toNat : Int) := ⟨_, rfl⟩
  rw [← hc] at hT2 h120 hbb
  have HC := Lib.hid hc
  clear hX hlet hXl hc h9 h92
  by_cases h34 : c = 34
  · subst h34
    clear h120 hbb
    go_enter Tryd.func79, Tryd.ntmps79
    go_wp2_with (first | (go_at_call 78; with_reducible refine hT.mono ?_; rintro e w1 ⟨rfl, hO1, hC1⟩; clear hT) | (go_at_call 78; refine (hT2 _ hC1).mono ?_; rintro e w2 ⟨rfl, hO2, hC2⟩))
    go_ret2
    have hx := HX.out.2 (.inl HC.out.symm)
    refine ⟨_, 34, hkk, hk2, ?_, hC2, hO1.trans hO2, fun d r e => ?_⟩
    · rw [HL.out, if_pos hx]; rfl
    · rw [HL.out, if_pos hx] at e; cases e; exact ⟨HC.out, rfl⟩
  · by_cases h92 : c = 92
    · subst h92
      clear h120 hbb h34
      go_enter Tryd.func79, Tryd.ntmps79
      go_wp2_with (first | (go_at_call 78; with_reducible refine hT.mono ?_; rintro e w1 ⟨rfl, hO1, hC1⟩; clear hT) | (go_at_call 78; refine (hT2 _ hC1).mono ?_; rintro e w2 ⟨rfl, hO2, hC2⟩))
      go_ret2
      have hx := HX.out.2 (.inr HC.out.symm)
      refine ⟨_, 92, hkk, hk2, ?_, hC2, hO1.trans hO2, fun d r e => ?_⟩
      · rw [HL.out, if_pos hx]; rfl
      · rw [HL.out, if_pos hx] at e; cases e; exact ⟨HC.out, rfl⟩
    · have h34b : (c == 34) = false := by rw [beq_eq_false_iff_ne]; exact h34
      have h92b : (c == 92) = false := by rw [beq_eq_false_iff_ne]; exact h92
      have hx : ¬ (X = 34 ∨ X = 92) := fun e => by
        have := HX.out.1 e
        rw [← HC.out] at this
        exact this.elim h34 h92
      have HX2 := Lib.hid hx
      clear hx
      go_enter Tryd.func79, Tryd.ntmps79
      go_wp2_with (first | (go_at_call 78; with_reducible refine hT.mono ?_; rintro e w1 ⟨rfl, hO1, hC1⟩; clear hT) | (go_at_call 78; refine (hT2 _ hC1).mono ?_; rintro e w2 ⟨rfl, hO2, hC2⟩))
      go_ret2
      refine ⟨_, 0, hkk, hk2, ?_, hC2, hO1.trans hO2, fun d r e => ?_⟩
      · rw [HL.out, if_neg HX2.out]; rfl
      · rw [HL.out, if_neg HX2.out] at e; cases e
theorem hex_all : ∀ h : Fin 16, ∀ l : Fin 16, bits .or .u8 ((h.val : Int) * 16 % 256) (l.val : Int) = ((UInt8.ofNat (16 * h.val + l.val)).toNat : Int) := by decide
theorem hex_or {h l : Nat} (hh : h < 16) (hl : l < 16) : bits .or .u8 ((h : Int) * 16 % 256) (l : Int) = ((UInt8.ofNat (16 * h + l)).toNat : Int) := hex_all ⟨h, hh⟩ ⟨l, hl⟩
theorem hex_some (hi lo : Nat) {o : Option (UInt8 × List UInt8)} {x : UInt8 × List UInt8} (h : o = if hi = 16 ∨ lo = 16 then none else some x) : o.isSome = ((hi : Int) != 16 && (lo : Int) != 16) := by
  subst h
  by_cases hz : hi = 16 ∨ lo = 16
  · rw [if_pos hz]
    symm
    show _ = false
    rw [Bool.and_eq_false_iff, bne_eq_false_iff_eq, bne_eq_false_iff_eq]; omega
  · rw [if_neg hz]
    symm
    show _ = true
    rw [Bool.and_eq_true, bne_iff_ne, bne_iff_ne]; omega
theorem Only.undrew {b : Nat} {w w1 : World} (h : Only b w.drew w1) : Only b w w1 := (Only.refl b w).drew.trans h
set_option maxRecDepth 100000 in
set_option maxHeartbeats 4000000 in
theorem letter_hex {w : World} {R : Nat} {s : ByteArray} {k : Nat} {f : Int} (h : Cur w R s k f) (hk : k ≤ s.size) (hs : s.size ≤ 100000) (hf : flat s) (h92 : nextB (restAt s k) = 92) (h120 : nextB (restAt s (stepK s k)) = 120) :
    Calls Tryd.prog 79 #[.pointer (some ⟨R, 0, none⟩)] w (LetP w R s k f) := by
  have hT := take_is hk hs hf w h
  have hk1 := stepK_le hk
  have hT2 := fun W => take_is hk1 hs hf W (f := f) (R := R)
  have hk2 := stepK_le hk1
  have hT3 := fun W => take_is hk2 hs hf W (f := f) (R := R)
  have hk3 := stepK_le hk2
  have hT4 := fun W => take_is hk3 hs hf W (f := f) (R := R)
  have hk4 := stepK_le hk3
  have hkk := Nat.le_trans (Nat.le_trans (stepK_ge s k) (stepK_ge s (stepK s k))) (Nat.le_trans (stepK_ge s (stepK s (stepK s k))) (stepK_ge s (stepK s (stepK s (stepK s k)))))
  have hlet : letG (restAt s k) = if digV (nextB (restAt s (stepK s (stepK s k)))) = 16 ∨ digV (nextB (restAt s (stepK s (stepK s (stepK s k))))) = 16 then none else some (UInt8.ofNat (16 * digV (nextB (restAt s (stepK s (stepK s k)))) + digV (nextB (restAt s (stepK s (stepK s (stepK s k)))))), restAt s (stepK s (stepK s (stepK s (stepK s k))))) := by
    simp only [rest_step] at h120 ⊢
    cases hr : restAt s k with
    | nil => rw [hr] at h92; cases h92
    | cons b r =>
      rw [hr] at h92 h120
      obtain rfl : b = 92 := h92
      rw [letG_esc]
      simp only [List.drop_succ_cons, List.drop_zero, List.drop_drop] at h120 ⊢
      rw [h120, if_neg (by decide), if_pos rfl]
  rw [h92] at hT
  rw [h120] at hT2
  obtain ⟨X, hX⟩ : ∃ X, X = nextB (restAt s (stepK s (stepK s k))) := ⟨_, rfl⟩
  obtain ⟨Y, hY⟩ : ∃ Y, Y = nextB (restAt s (stepK s (stepK s (stepK s k)))) := ⟨_, rfl⟩
  rw [← hX] at hT3 hlet
  rw [← hY] at hT4 hlet
  have hDX := fun w => digit_any X w
  have hDY := fun w => digit_any Y w
  have hx16 := digV_le X
  have hy16 := digV_le Y
  have h9 : ((92 : UInt8).toNat : Int) = 92 := rfl
  have h12 : ((120 : UInt8).toNat : Int) = 120 := rfl
  rw [h9] at hT
  rw [h12] at hT2
  obtain ⟨hi, hhi⟩ : ∃ hi, hi = digV X := ⟨_, rfl⟩
  obtain ⟨lo, hlo⟩ : ∃ lo, lo = digV Y := ⟨_, rfl⟩
  rw [← hhi] at hDX hx16 hlet
  rw [← hlo] at hDY hy16 hlet
  have HL := Lib.hid hlet
  clear hX hY hlet h9 h12 h92 h120 hhi hlo
  go_enter Tryd.func79, Tryd.ntmps79
  go_wp2_with (first | (go_at_call 78; with_reducible refine hT.mono ?_; rintro e w1 ⟨rfl, hO1, hC1⟩; clear hT) | (go_at_call 78; refine (hT2 _ hC1).mono ?_; rintro e w2 ⟨rfl, hO2, hC2⟩))
  go_region_with ((first | (go_at_call 78; with_reducible refine (hT3 _ hC2.drew).mono ?_; rintro e w3 ⟨rfl, hO3, hC3⟩) | (go_at_call 78; with_reducible refine (hT4 _ hC3).mono ?_; rintro e w4 ⟨rfl, hO4, hC4⟩) | (go_at_call 58; with_reducible refine (hDX _).mono ?_; rintro e w' ⟨rfl, rfl⟩) | (go_at_call 58; with_reducible refine (hDY _).mono ?_; rintro e w' ⟨rfl, rfl⟩)))
  all_goals go_wp2
  · go_ret2
    refine ⟨_, bits .or .u8 0 (lo : Int), hkk, hk4, ?_, hC4, ((hO1.trans hO2).trans hO3.undrew).trans hO4, fun d r e => ?_⟩
    · rw [HL.out, if_pos (Or.inl (by omega))]; rfl
    · rw [HL.out, if_pos (Or.inl (by omega))] at e; cases e
  · go_ret2
    refine ⟨_, bits .or .u8 ((hi : Int) * 16 % 256) (lo : Int), hkk, hk4, ?_, hC4, ((hO1.trans hO2).trans hO3.undrew).trans hO4, fun d r e => ?_⟩
    · rw [hex_some hi lo HL.out]; rfl
    · rw [HL.out] at e
      by_cases hz : hi = 16 ∨ lo = 16
      · rw [if_pos hz] at e; cases e
      · rw [if_neg hz] at e
        cases e
        exact ⟨hex_or (by omega) (by omega), rfl⟩
theorem letter_any {w : World} {R : Nat} {s : ByteArray} {k : Nat} {f : Int} (h : Cur w R s k f) (hk : k ≤ s.size) (hs : s.size ≤ 100000) (hf : flat s) :
    Calls Tryd.prog 79 #[.pointer (some ⟨R, 0, none⟩)] w (LetP w R s k f) := by
  by_cases h1 : ((nextB (restAt s k)).toNat : Int) = 92
  · have e1 : nextB (restAt s k) = 92 := (u8_lit (n := 92) (by decide)).2 h1
    by_cases h2 : ((nextB (restAt s (stepK s k))).toNat : Int) = 120
    · exact letter_hex h hk hs hf e1 ((u8_lit (n := 120) (by decide)).2 h2)
    · exact letter_two h hk hs hf e1 h2
  · exact letter_self h hk hs hf h1
end Go.Proofs.YtkmkhegekonbmaaDoor
