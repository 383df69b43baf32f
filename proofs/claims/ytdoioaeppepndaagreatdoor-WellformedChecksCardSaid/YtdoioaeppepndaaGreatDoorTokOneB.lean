/- Package token: the next token, second part. -/
import Derived.Test.YtdoioaeppepndaaGreatDoorTokOne
import Derived.Deep.RegionHeld3
import Derived.Test.YtdoioaeppepndaaGreatDoorTokSm
import Derived.Deep.RegionWith
namespace Go.Proofs.YtdoioaeppepndaaGreatDoor
open Go.RowKit
open Tk7

theorem prefix1 (a b : UInt8) (r : List UInt8) : [a].isPrefixOf (b :: r) = (a == b) := by
  cases r <;> simp [List.isPrefixOf]
theorem prefix2 (a c b : UInt8) (r : List UInt8) : [a, c].isPrefixOf (b :: r) = (a == b && r.head? == some c) := by
  cases r with
  | nil => simp [List.isPrefixOf]
  | cons d r =>
    simp only [List.isPrefixOf, Bool.and_true, List.head?_cons]
    have : (c == d) = (some d == some c) := by
      by_cases h : c = d
      · subst h; simp
      · have h2 : ¬ d = c := fun e => h e.symm
        rw [beq_eq_false_iff_ne.2 h]
        symm
        rw [beq_eq_false_iff_ne]
        exact fun e => h2 (Option.some.inj e)
    rw [this]
def findQ (b : UInt8) (q : Bool) : List UInt8 := ((([33, 61], 33 == b && q) :: ([60, 61], 60 == b && q) :: ([62, 61], 62 == b && q) :: ([61], 61 == b) :: ([60], 60 == b) :: ([62], 62 == b) :: ([59], 59 == b) :: ([124], 124 == b) :: ([123], 123 == b) :: ([125], 125 == b) :: ([44], 44 == b) :: ([40], 40 == b) :: ([41], 41 == b) :: ([91], 91 == b) :: ([93], 93 == b) :: ([64], 64 == b) :: ([58], 58 == b) :: [] : List (List UInt8 × Bool)).find? (·.2)).elim [] (·.1)
theorem find_map (L : List (List UInt8)) (p : List UInt8 → Bool) : (L.find? p).getD [] = ((L.map fun c => (c, p c)).find? (·.2)).elim [] (·.1) := by
  induction L with
  | nil => rfl
  | cons c L ih =>
    rw [List.find?_cons, List.map_cons, List.find?_cons]
    cases p c with
    | true => rfl
    | false => exact ih
theorem first_find (b : UInt8) (r : List UInt8) : firstS signsL (b :: r) = findQ b (r.head? == some 61) := by
  unfold firstS
  rw [find_map]
  unfold signsL findQ
  simp only [List.map_cons, List.map_nil, prefix1, prefix2]
def takeQ (b : UInt8) (q : Bool) : List UInt8 := if twoB b && q then [b, 61] else if oneB b then [b] else []
theorem find_take : ∀ b : Fin 256, ∀ q : Bool, findQ (UInt8.ofNat b.val) q = takeQ (UInt8.ofNat b.val) q := by decide +kernel
theorem find_take' (b : UInt8) (q : Bool) : findQ b q = takeQ b q := by
  have := find_take ⟨b.toNat, b.toNat_lt⟩ q
  simpa using this
/-- The first sign with which l begins is its longest one. -/
theorem first_sign (l : List UInt8) : firstS signsL l = l.take (signG l) := by
  cases l with
  | nil => decide
  | cons b r =>
    rw [first_find, find_take']
    have hs : signG (b :: r) = if twoB b && r.head? == some 61 then 2 else if oneB b then 1 else 0 := rfl
    rw [hs]
    unfold takeQ
    by_cases h : (twoB b && r.head? == some 61) = true
    · rw [if_pos h, if_pos h]
      cases r with
      | nil => simp at h
      | cons c r =>
        have : c = 61 := by simp at h; exact h.2
        subst this
        rfl
    · rw [if_neg h, if_neg h]
      split <;> rfl
theorem sign_le (l : List UInt8) : signG l ≤ l.length := by
  unfold signG
  cases l with
  | nil => simp
  | cons b r =>
    simp only
    split
    · rename_i h
      cases r with
      | nil => simp at h
      | cons c r => simp
    · split <;> simp
/-- The kind that the reader tells. -/
def kindR (l : List UInt8) : Nat := if (begG l).2 = 0 then 0 else (begG l).1
/-- What going behind a token gives. -/
def PassP (w : World) (R : Nat) (s : ByteArray) (k : Nat) (e : Ending) (w' : World) : Prop :=
  ∃ k' : Nat, e = .returned (.int .i64 (kindR (restAt s k) : Int)) ∧ Only R w w' ∧ Cur w' R s k' k ∧ k' ≤ s.size ∧ k ≤ k' ∧ (kindR (restAt s k) ≠ 0 → k' = k + (begG (restAt s k)).2)
theorem kindB_1 {b : UInt8} (h : smallB b = true) : kindB b = 1 := by unfold kindB; rw [if_pos h]
theorem kindB_2 {b : UInt8} (h0 : smallB b = false) (h : largeB b = true) : kindB b = 2 := by unfold kindB; rw [if_neg (by rw [h0]; decide), if_pos h]
theorem kindB_3 {b : UInt8} (h0 : smallB b = false) (h1 : largeB b = false) (h : digB b = true) : kindB b = 3 := by unfold kindB; rw [if_neg (by rw [h0]; decide), if_neg (by rw [h1]; decide), if_pos h]
theorem kindB_5 {b : UInt8} (h0 : smallB b = false) (h1 : largeB b = false) (h2 : digB b = false) (h : (b == 45) = true) : kindB b = 5 := by unfold kindB; rw [if_neg (by rw [h0]; decide), if_neg (by rw [h1]; decide), if_neg (by rw [h2]; decide), if_pos h]
theorem kindB_4 {b : UInt8} (h0 : smallB b = false) (h1 : largeB b = false) (h2 : digB b = false) (h : (b == 45) = false) : kindB b = 4 := by unfold kindB; rw [if_neg (by rw [h0]; decide), if_neg (by rw [h1]; decide), if_neg (by rw [h2]; decide), if_neg (by rw [h]; decide)]
theorem beg_1 {b : UInt8} {r : List UInt8} (h : smallB b = true) : begG (b :: r) = (1, (r.takeWhile smallB).length + 1) := by unfold begG; simp only; rw [if_pos h]
theorem beg_2 {b : UInt8} {r : List UInt8} (h0 : smallB b = false) (h : largeB b = true) : begG (b :: r) = (2, 1) := by unfold begG; simp only; rw [if_neg (by rw [h0]; decide), if_pos h]
theorem beg_3 {b : UInt8} {r : List UInt8} (h0 : smallB b = false) (h1 : largeB b = false) (h : (digB b || b == 45) = true) : begG (b :: r) = (3, numG b r) := by unfold begG; simp only; rw [if_neg (by rw [h0]; decide), if_neg (by rw [h1]; decide), if_pos h]
theorem beg_4 {b : UInt8} {r : List UInt8} (h0 : smallB b = false) (h1 : largeB b = false) (h : (digB b || b == 45) = false) : begG (b :: r) = (4, signG (b :: r)) := by unfold begG; simp only; rw [if_neg (by rw [h0]; decide), if_neg (by rw [h1]; decide), if_neg (by rw [h]; decide)]
theorem dig_not45 {b : UInt8} (h : digB b = true) : (b == 45) = false := by
  rw [beq_eq_false_iff_ne]
  rintro rfl
  revert h
  decide
theorem num_dig {b : UInt8} {r : List UInt8} (h : digB b = true) : numG b r = if isNumG (b :: r.takeWhile digB) then (r.takeWhile digB).length + 1 else 0 := by
  have e : isNumG (b :: r.takeWhile digB) = rightD false (b :: r.takeWhile digB) := by
    unfold isNumG rightD
    rw [strip_cons, if_neg (by rw [dig_not45 h]; decide)]
    simp
  unfold numG
  rw [if_neg (by rw [dig_not45 h]; decide), e]
theorem num_min {r : List UInt8} : numG 45 r = if isNumG (45 :: r.takeWhile digB) then (r.takeWhile digB).length + 1 else 0 := by
  have e : isNumG (45 :: r.takeWhile digB) = rightD true (r.takeWhile digB) := by
    unfold isNumG rightD
    rw [strip_cons, if_pos (by decide)]
    simp
  unfold numG
  rw [if_pos (by decide), e]
theorem kindR_of {l : List UInt8} {kd n : Nat} (h : begG l = (kd, n)) : kindR l = if n = 0 then 0 else kd := by unfold kindR; rw [h]
end Go.Proofs.YtdoioaeppepndaaGreatDoor
namespace Go.Proofs.YtdoioaeppepndaaGreatDoor
open Go.RowKit
open Tk7

theorem Only.undrewN {b : Nat} {w w1 : World} {n : Nat} (h : Only b (w.drewN n) w1) : Only b w w1 := ((Only.refl b w).drewN n).trans h
theorem while_len (p : UInt8 → Bool) (l : List UInt8) : (l.takeWhile p).length ≤ l.length := (List.takeWhile_sublist p).length_le
set_option maxRecDepth 100000 in
set_option maxHeartbeats 2000000 in
theorem pass_small {w : World} {R : Nat} {s : ByteArray} {k : Nat} (h : Cur w R s k k) (hk : k < s.size) (hs : s.size ≤ maxLen) (hb : smallB (s[k]'hk) = true) :
    Calls Tryz.prog 163 #[.pointer (some ⟨R, 0, none⟩)] w (PassP w R s k) := by
  have hr := rest_cons hk
  have hK := fun w => kindOf_any (s[k]'hk) w
  rw [kindB_1 hb] at hK
  have hS := fun n => skip_small (h.drewN n) (Nat.le_of_lt hk) hs
  have hbeg : begG (restAt s k) = (1, ((restAt s k).takeWhile smallB).length) := by rw [hr, beg_1 hb, while_true hb]
  have hz : ((restAt s k).takeWhile smallB).length ≠ 0 := by rw [hr, while_true hb]; omega
  have hle : k + ((restAt s k).takeWhile smallB).length ≤ s.size := by have := while_len smallB (restAt s k); rw [restAt_len] at this; omega
  have hkr := kindR_of hbeg
  rw [if_neg hz] at hkr
  have h2 := congrArg Prod.snd hbeg
  have HK := Lib.hid hkr
  have H2 := Lib.hid h2
  have HL := Lib.hid hle
  have HC := Lib.hid h
  have g1 : (0 : Int) ≤ (k : Int) := by omega
  have g2 : (k : Int) < (s.size : Int) := by omega
  obtain ⟨hlt, c0, c1, c2, f0, f1, f2⟩ := h.parts
  clear hr hbeg hz hle hkr h2 h
  go_enter Tryz.func163, Tryz.ntmps163
  go_wp2
  go_quiet ((go_at_call 168; exact quiet_same (hK _)))
  go_wp2_with (go_at_call 166; refine (hS _).mono ?_; rintro e w1 ⟨rfl, hO, hC⟩)
  go_ret
  exact ⟨_, by rw [HK.out]; rfl, hO.undrewN, hC, HL.out, by omega, fun _ => by rw [H2.out]⟩
set_option maxRecDepth 100000 in
set_option maxHeartbeats 2000000 in
theorem pass_large {w : World} {R : Nat} {s : ByteArray} {k : Nat} (h : Cur w R s k k) (hk : k < s.size) (hs : s.size ≤ maxLen) (h0 : smallB (s[k]'hk) = false) (hb : largeB (s[k]'hk) = true) :
    Calls Tryz.prog 163 #[.pointer (some ⟨R, 0, none⟩)] w (PassP w R s k) := by
  have hr := rest_cons hk
  have hK := fun w => kindOf_any (s[k]'hk) w
  rw [kindB_2 h0 hb] at hK
  have hbeg : begG (restAt s k) = (2, 1) := by rw [hr, beg_2 h0 hb]
  have hkr := kindR_of hbeg
  rw [if_neg (by decide)] at hkr
  have h2 := congrArg Prod.snd hbeg
  have HK := Lib.hid hkr
  have H2 := Lib.hid h2
  have HC := Lib.hid h
  have g1 : (0 : Int) ≤ (k : Int) := by omega
  have g2 : (k : Int) < (s.size : Int) := by omega
  unfold maxLen at hs
  have hw : IntKind.i64.wrap ((k : Int) + 1) = (k : Int) + 1 := IntWalk.i64_in _ ⟨by omega, by omega⟩
  obtain ⟨hlt, c0, c1, c2, f0, f1, f2⟩ := h.parts
  clear hr hbeg hkr h2 h
  go_enter Tryz.func163, Tryz.ntmps163
  go_wp2
  go_quiet ((go_at_call 168; exact quiet_same (hK _)))
  go_wp2
  go_ret
  exact ⟨k + 1, by rw [HK.out]; rfl, ((Only.refl _ _).drewN _).setCell _ _, (HC.out.drewN _).step _ _ (by go_num), by omega, by omega, fun _ => by rw [H2.out]⟩
/-- What the two kinds of numbers share, behind the digits. -/
theorem num_end {w w1 : World} {R : Nat} {s : ByteArray} {k n m : Nat} (hn : k + n ≤ s.size) (hb : begG (restAt s k) = (3, if isNumG ((restAt s k).take n) then n else 0)) (hO : Only R w w1) (hC : Cur w1 R s (k + n) k) (hpos : n ≠ 0) (e : Ending)
    (he : e = .returned (.int .i64 (if isNumG ((restAt s k).take n) then 3 else 0))) : PassP w R s k e (w1.drewN m) := by
  have hkr := kindR_of hb
  refine ⟨k + n, ?_, hO.drewN _, hC.drewN _, hn, by omega, fun h => ?_⟩
  · rw [he, hkr]
    cases isNumG ((restAt s k).take n) with
    | true => simp [hpos]
    | false => simp
  · rw [hkr] at h
    rw [hb]
    cases hz : isNumG ((restAt s k).take n) with
    | true => simp
    | false => simp [hz] at h
set_option maxRecDepth 100000 in
set_option maxHeartbeats 2000000 in
theorem pass_dig {w : World} {R : Nat} {s : ByteArray} {k : Nat} (h : Cur w R s k k) (hk : k < s.size) (hs : s.size ≤ maxLen) (h0 : smallB (s[k]'hk) = false) (h1 : largeB (s[k]'hk) = false) (hb : digB (s[k]'hk) = true) :
    Calls Tryz.prog 163 #[.pointer (some ⟨R, 0, none⟩)] w (PassP w R s k) := by
  have hr := rest_cons hk
  have hK := fun w => kindOf_any (s[k]'hk) w
  rw [kindB_3 h0 h1 hb] at hK
  have hS := fun n => skip_digit (h.drewN n) (Nat.le_of_lt hk) hs
  have hle : k + ((restAt s k).takeWhile digB).length ≤ s.size := by have := while_len digB (restAt s k); rw [restAt_len] at this; omega
  have hz : ((restAt s k).takeWhile digB).length ≠ 0 := by rw [hr, while_true hb]; omega
  have htk : (restAt s k).take ((restAt s k).takeWhile digB).length = (restAt s k).takeWhile digB := takeWhile_take _ _
  have hbeg : begG (restAt s k) = (3, if isNumG ((restAt s k).take ((restAt s k).takeWhile digB).length) then ((restAt s k).takeWhile digB).length else 0) := by
    rw [htk, hr, beg_3 h0 h1 (by rw [hb]; rfl), num_dig hb, List.takeWhile_cons, if_pos hb, List.length_cons]
  obtain ⟨n, hn⟩ : ∃ n, n = ((restAt s k).takeWhile digB).length := ⟨_, rfl⟩
  rw [← hn] at hS hle hz hbeg
  have hT := fun (w1 : World) (hC : Cur w1 R s (k + n) k) => taken_any hC hle (by omega) ((restAt s k).take n) (by rw [show k + n - k = n by omega])
  have hN := fun w => isNumber_any ((restAt s k).take n) w
  have HB := Lib.hid hbeg
  obtain ⟨T, hTT⟩ : ∃ T, T = (restAt s k).take n := ⟨_, rfl⟩
  rw [← hTT] at hT hN
  obtain ⟨q, hq⟩ : ∃ q, q = isNumG T := ⟨_, rfl⟩
  rw [← hq] at hN
  have HQ := Lib.hid (show isNumG ((restAt s k).take n) = q by rw [hq, hTT])
  have g1 : (0 : Int) ≤ (k : Int) := by omega
  have g2 : (k : Int) < (s.size : Int) := by omega
  obtain ⟨hlt, c0, c1, c2, f0, f1, f2⟩ := h.parts
  have HZ := Lib.hid hz
  clear hr hbeg htk hn hTT hq h hz
  cases q
  · go_enter Tryz.func163, Tryz.ntmps163
    go_wp2
    go_quiet ((go_at_call 168; exact quiet_same (hK _)))
    go_wp2_with (first
      | (go_at_call 166; refine (hS _).mono ?_; rintro e w1 ⟨rfl, hO, hC⟩)
      | (go_at_call 164; refine (hT _ hC).mono ?_; rintro e w2 ⟨rfl, m, rfl⟩)
      | (go_at_call 171; refine (hN _).mono ?_; rintro e w' ⟨rfl, rfl⟩))
    go_ret
    exact num_end hle HB.out hO.undrewN hC HZ.out _ (by rw [HQ.out]; rfl)
  · go_enter Tryz.func163, Tryz.ntmps163
    go_wp2
    go_quiet ((go_at_call 168; exact quiet_same (hK _)))
    go_wp2_with (first
      | (go_at_call 166; refine (hS _).mono ?_; rintro e w1 ⟨rfl, hO, hC⟩)
      | (go_at_call 164; refine (hT _ hC).mono ?_; rintro e w2 ⟨rfl, m, rfl⟩)
      | (go_at_call 171; refine (hN _).mono ?_; rintro e w' ⟨rfl, rfl⟩))
    go_ret
    exact num_end hle HB.out hO.undrewN hC HZ.out _ (by rw [HQ.out]; rfl)
set_option maxRecDepth 100000 in
set_option maxHeartbeats 2000000 in
theorem pass_min {w : World} {R : Nat} {s : ByteArray} {k : Nat} (h : Cur w R s k k) (hk : k < s.size) (hs : s.size ≤ maxLen) (hb : s[k]'hk = 45) :
    Calls Tryz.prog 163 #[.pointer (some ⟨R, 0, none⟩)] w (PassP w R s k) := by
  have hr := rest_cons hk
  have hK := fun w => kindOf_any (s[k]'hk) w
  have e0 : smallB 45 = false := by decide
  have e1 : largeB 45 = false := by decide
  have e2 : digB 45 = false := by decide
  have e3 : kindB 45 = 5 := by decide
  rw [hb, e3] at hK
  rw [hb] at hr
  have hS := fun (W : World) (hC : Cur W R s (k + 1) k) => skip_digit hC hk hs
  have hle : k + 1 + ((restAt s (k + 1)).takeWhile digB).length ≤ s.size := by have := while_len digB (restAt s (k + 1)); rw [restAt_len] at this; omega
  have htk : (restAt s k).take (((restAt s (k + 1)).takeWhile digB).length + 1) = 45 :: (restAt s (k + 1)).takeWhile digB := by rw [hr, List.take_succ_cons, takeWhile_take]
  have hbeg : begG (restAt s k) = (3, if isNumG ((restAt s k).take (((restAt s (k + 1)).takeWhile digB).length + 1)) then ((restAt s (k + 1)).takeWhile digB).length + 1 else 0) := by
    rw [htk, hr, beg_3 e0 e1 (by decide), num_min]
  obtain ⟨n, hn⟩ : ∃ n, n = ((restAt s (k + 1)).takeWhile digB).length := ⟨_, rfl⟩
  rw [← hn] at hS hle hbeg
  have hS2 : ∀ (W : World) (hC : Cur W R s (k + 1) k), Calls Tryz.prog 166 #[.pointer (some ⟨R, 0, none⟩), .func (.func 170) #[] #[]] W fun e w' => e = .returned (.tuple #[]) ∧ Only R W w' ∧ Cur w' R s (k + (n + 1)) k := fun W hC => by
    have := hS W hC
    rw [show k + 1 + n = k + (n + 1) by omega] at this
    exact this
  have hT := fun (w1 : World) (hC : Cur w1 R s (k + (n + 1)) k) => taken_any hC (by omega) (by omega) ((restAt s k).take (n + 1)) (by rw [show k + (n + 1) - k = n + 1 by omega])
  have hN := fun w => isNumber_any ((restAt s k).take (n + 1)) w
  have HB := Lib.hid hbeg
  obtain ⟨T, hTT⟩ : ∃ T, T = (restAt s k).take (n + 1) := ⟨_, rfl⟩
  rw [← hTT] at hT hN
  obtain ⟨q, hq⟩ : ∃ q, q = isNumG T := ⟨_, rfl⟩
  rw [← hq] at hN
  have HQ := Lib.hid (show isNumG ((restAt s k).take (n + 1)) = q by rw [hq, hTT])
  have g1 : (0 : Int) ≤ (k : Int) := by omega
  have g2 : (k : Int) < (s.size : Int) := by omega
  have hb45 : (((s[k]'hk).toNat : Nat) : Int) = 45 := by rw [hb]; rfl
  have h45 : (((45 : UInt8).toNat : Nat) : Int) = 45 := rfl
  rw [h45] at hK
  obtain ⟨hlt, c0, c1, c2, f0, f1, f2⟩ := h.parts
  have hs' := hs
  unfold maxLen at hs'
  have hw : IntKind.i64.wrap ((k : Int) + 1) = (k : Int) + 1 := IntWalk.i64_in _ ⟨by omega, by omega⟩
  have HC := Lib.hid h
  clear hr hbeg htk hn hTT hq hS e0 e1 e2 e3 h45 hb h
  cases q
  · go_enter Tryz.func163, Tryz.ntmps163
    go_wp2
    go_quiet ((go_at_call 168; exact quiet_same (hK _)))
    go_wp2_with (first
      | (go_at_call 166; refine (hS2 _ ((HC.out.drewN _).step _ _ (by go_num))).mono ?_; rintro e w1 ⟨rfl, hO, hC⟩)
      | (go_at_call 164; refine (hT _ hC).mono ?_; rintro e w2 ⟨rfl, m, rfl⟩)
      | (go_at_call 171; refine (hN _).mono ?_; rintro e w' ⟨rfl, rfl⟩))
    go_ret
    exact num_end (by omega) HB.out ((((Only.refl _ _).drewN _).setCell _ _).trans hO) hC (by omega) _ (by rw [HQ.out]; rfl)
  · go_enter Tryz.func163, Tryz.ntmps163
    go_wp2
    go_quiet ((go_at_call 168; exact quiet_same (hK _)))
    go_wp2_with (first
      | (go_at_call 166; refine (hS2 _ ((HC.out.drewN _).step _ _ (by go_num))).mono ?_; rintro e w1 ⟨rfl, hO, hC⟩)
      | (go_at_call 164; refine (hT _ hC).mono ?_; rintro e w2 ⟨rfl, m, rfl⟩)
      | (go_at_call 171; refine (hN _).mono ?_; rintro e w' ⟨rfl, rfl⟩))
    go_ret
    exact num_end (by omega) HB.out ((((Only.refl _ _).drewN _).setCell _ _).trans hO) hC (by omega) _ (by rw [HQ.out]; rfl)
end Go.Proofs.YtdoioaeppepndaaGreatDoor
namespace Go.Proofs.YtdoioaeppepndaaGreatDoor
open Go.RowKit
open Tk7

set_option maxRecDepth 100000 in
set_option maxHeartbeats 4000000 in
theorem pass_sign {w : World} {R : Nat} {s : ByteArray} {k : Nat} (h : Cur w R s k k) (hk : k < s.size) (hs : s.size ≤ maxLen) (h0 : smallB (s[k]'hk) = false) (h1 : largeB (s[k]'hk) = false) (h2 : digB (s[k]'hk) = false) (hb : ((s[k]'hk) == 45) = false) (hG : SG w) :
    Calls Tryz.prog 163 #[.pointer (some ⟨R, 0, none⟩)] w (PassP w R s k) := by
  have hr := rest_cons hk
  have hK := fun w => kindOf_any (s[k]'hk) w
  rw [kindB_4 h0 h1 h2 hb] at hK
  have hbeg : begG (restAt s k) = (4, signG (restAt s k)) := by rw [hr, beg_4 h0 h1 (by rw [h2, hb]; rfl)]
  have hle := sign_le (restAt s k)
  rw [restAt_len] at hle
  have hS := fun W hG => signOf_any (restAt s k) (by rw [restAt_len]; omega) W hG
  have hex : s.extract k s.size = strOf (restAt s k) := by rw [ext_take, List.take_of_length_le (by rw [restAt_len]; omega)]
  rw [first_sign] at hS
  have htl : (strOf ((restAt s k).take (signG (restAt s k)))).size = signG (restAt s k) := by rw [strOf_size, List.length_take, restAt_len]; omega
  have HB := Lib.hid hbeg
  obtain ⟨n, hn⟩ : ∃ n, n = signG (restAt s k) := ⟨_, rfl⟩
  rw [← hn] at hle hS htl
  have HN := Lib.hid hn
  obtain ⟨T, hT⟩ : ∃ T, T = strOf ((restAt s k).take n) := ⟨_, rfl⟩
  rw [← hT] at hS htl
  obtain ⟨X, hX⟩ : ∃ X, X = strOf (restAt s k) := ⟨_, rfl⟩
  rw [← hX] at hS hex
  have g1 : (0 : Int) ≤ (k : Int) := by omega
  have g2 : (k : Int) < (s.size : Int) := by omega
  have g3 : (k : Int) ≤ (s.size : Int) := by omega
  have hs' := hs
  unfold maxLen at hs'
  have hw : IntKind.i64.wrap ((k : Int) + (n : Int)) = ((k + n : Nat) : Int) := by rw [IntWalk.i64_in _ ⟨by omega, by omega⟩]; omega
  have HC := Lib.hid h
  have HG := Lib.hid hG
  obtain ⟨hlt, c0, c1, c2, f0, f1, f2⟩ := h.parts
  clear hr hbeg hn hT hX h0 h1 h2 hb hG h
  go_enter Tryz.func163, Tryz.ntmps163
  go_wp2
  go_quiet ((go_at_call 168; exact quiet_same (hK _)))
  go_upto_region 15 with (fail)
  go_cut [2] (fun s2 wx => s2 = .int .i64 0 ∧ Only R w wx ∧ Cur wx R s (k + n) k)
  case first =>
    go_region_with ((go_at_call 172; refine (hS _ (by exact HG.out)).mono ?_; rintro e w1 ⟨rfl, m, rfl⟩))
    all_goals
      go_wp2_with fail
      go_meet
      exact ⟨rfl, ((Only.refl _ _).drewN _).setCell _ _, (HC.out.drewN _).step _ _ (by omega)⟩
  case rest =>
    obtain ⟨rfl, hO, hC⟩ := hcut
    obtain ⟨hlt, c0, c1, c2, f0, f1, f2⟩ := hC.parts
    have hle2 : k + n ≤ s.size := by omega
    have hk2 : n = 0 ∨ 0 < n := by omega
    have HL := Lib.hid hle
    clear hle hw
    rcases hk2 with rfl | hk2
    · have hkk : ¬ (k : Int) < ((k + 0 : Nat) : Int) := by omega
      go_wp2
      go_quiet (fail)
      go_wp2
      go_ret
      refine ⟨k + 0, ?_, hO.drewN _, hC.drewN _, hle2, by omega, fun h => ?_⟩
      · rw [kindR_of HB.out, ← HN.out]; rfl
      · rw [kindR_of HB.out, ← HN.out] at h; exact absurd rfl h
    · have hkk : (k : Int) < ((k + n : Nat) : Int) := by omega
      go_wp2
      go_quiet (fail)
      go_wp2
      go_ret
      refine ⟨k + n, ?_, hO.drewN _, hC.drewN _, hle2, by omega, fun _ => ?_⟩
      · rw [kindR_of HB.out, ← HN.out, if_neg (by omega)]; rfl
      · rw [HB.out, ← HN.out]
theorem pass_any {w : World} {R : Nat} {s : ByteArray} {k : Nat} (h : Cur w R s k k) (hk : k < s.size) (hs : s.size ≤ maxLen) (hG : SG w) :
    Calls Tryz.prog 163 #[.pointer (some ⟨R, 0, none⟩)] w (PassP w R s k) := by
  cases h0 : smallB (s[k]'hk) with
  | true => exact pass_small h hk hs h0
  | false =>
    cases h1 : largeB (s[k]'hk) with
    | true => exact pass_large h hk hs h0 h1
    | false =>
      cases h2 : digB (s[k]'hk) with
      | true => exact pass_dig h hk hs h0 h1 h2
      | false =>
        cases h3 : ((s[k]'hk) == 45) with
        | true => exact pass_min h hk hs (by simpa using h3)
        | false => exact pass_sign h hk hs h0 h1 h2 h3 hG
end Go.Proofs.YtdoioaeppepndaaGreatDoor
namespace Go.Proofs.YtdoioaeppepndaaGreatDoor
open Go.RowKit
open Tk7

theorem below1 (w : World) (o : Obj) : Below w.heap.size w (w.alloc o) := (Below.refl _ _).alloc (Nat.le_refl _) o
theorem below2 (w : World) (o p : Obj) : Below w.heap.size w ((w.alloc o).alloc p) := (below1 w o).alloc (by simp) p
theorem below3 (w : World) (o p q : Obj) : Below w.heap.size w (((w.alloc o).alloc p).alloc q) := (below2 w o p).alloc (by simp; omega) q
theorem fault_any (er a : Int) (w : World) :
    Calls Tryz.prog 160 #[.int .i64 er, .int .i64 a] w fun e w' => e = .returned (.agg #[.int .i64 er, .int .i64 a]) ∧ Below w.heap.size w w' := by
  go_enter Tryz.func160, Tryz.ntmps160
  go_wp2
  exact bodyPost_ret (v := .agg #[.int .i64 er, .int .i64 a]) (by simp [results, Tryz.results160, go_sem]; try rfl) rfl ⟨rfl, below1 _ _⟩
/-- What the next token of the bytes l from the offset a on is: its kind, its text, its place, the place behind it, or the error and its place. -/
structure NX where
  kd : Nat
  tx : List UInt8
  at_ : Nat
  nx : Nat
  er : Int
  ea : Nat
def NX.val (x : NX) : Value := .tuple #[.agg #[.int .i64 (x.kd : Int), .string (strOf x.tx), .int .i64 (x.at_ : Int)], .int .i64 (x.nx : Int), .agg #[.int .i64 x.er, .int .i64 (x.ea : Int)]]
def nextX (l : List UInt8) (a : Int) : NX :=
  if a < 0 ∨ (l.length : Int) < a then ⟨0, [], 0, 0, 2, 0⟩ else
  match nextG (l.drop a.toNat) a.toNat with
  | .error (e, p) => ⟨0, [], 0, 0, e, p⟩
  | .ok (kd, p, n) => ⟨kd, (l.drop p).take n, p, p + n, 0, 0⟩
/-- The place of the first byte from k on that is no blank. -/
def pastK (s : ByteArray) (k : Nat) : Nat := k + ((restAt s k).takeWhile blankB).length
theorem past_le {s : ByteArray} {k : Nat} (hk : k ≤ s.size) : pastK s k ≤ s.size := by
  have := while_len blankB (restAt s k)
  rw [restAt_len] at this
  unfold pastK
  omega
theorem past_ge (s : ByteArray) (k : Nat) : k ≤ pastK s k := Nat.le_add_right _ _
theorem drop_while (l : List UInt8) : l.dropWhile blankB = l.drop (l.takeWhile blankB).length := by
  induction l with
  | nil => rfl
  | cons b r ih =>
    rw [List.dropWhile_cons, List.takeWhile_cons]
    cases blankB b with
    | true => rw [if_pos rfl, if_pos rfl, List.length_cons, List.drop_succ_cons]; exact ih
    | false => rfl
theorem past_rest (s : ByteArray) (k : Nat) : (restAt s k).dropWhile blankB = restAt s (pastK s k) := by
  rw [drop_while, rest_drop]; rfl
theorem next_in {s : ByteArray} {k : Nat} (hk : k ≤ s.size) : nextX s.data.toList (k : Int) = match nextG (restAt s k) k with
    | .error (e, p) => ⟨0, [], 0, 0, e, p⟩
    | .ok (kd, p, n) => ⟨kd, (restAt s p).take n, p, p + n, 0, 0⟩ := by
  unfold nextX
  rw [if_neg (by rw [bytes_size]; omega), Int.toNat_natCast]
  rfl
theorem next_out {l : List UInt8} {a : Int} (h : a < 0 ∨ (l.length : Int) < a) : nextX l a = ⟨0, [], 0, 0, 2, 0⟩ := if_pos h
theorem nextG_end {s : ByteArray} {k : Nat} (hk : k ≤ s.size) (h : pastK s k = s.size) : nextX s.data.toList (k : Int) = ⟨0, [], 0, 0, 5, s.size⟩ := by
  rw [next_in hk]
  unfold nextG
  rw [past_rest, h, rest_nil (Nat.le_refl _), restAt_len]
  simp only
  congr 1
  omega
theorem nextG_bad {s : ByteArray} {k : Nat} (hk : k ≤ s.size) (h : pastK s k < s.size) (hz : kindR (restAt s (pastK s k)) = 0) (_hk1 : (begG (restAt s (pastK s k))).1 ≠ 0) : nextX s.data.toList (k : Int) = ⟨0, [], 0, 0, 3, pastK s k⟩ := by
  have h2 : (begG (restAt s (pastK s k))).2 = 0 := by
    unfold kindR at hz
    split at hz
    · assumption
    · contradiction
  have hl : (restAt s k).length - (restAt s (pastK s k)).length = pastK s k - k := by rw [restAt_len, restAt_len]; have := past_ge s k; omega
  rw [next_in hk]
  unfold nextG
  rw [past_rest]
  have hp := past_ge s k
  rw [rest_cons h] at h2 hl ⊢
  simp only
  rw [if_pos h2, hl, show k + (pastK s k - k) = pastK s k by omega]
theorem nextG_good {s : ByteArray} {k : Nat} (hk : k ≤ s.size) (h : pastK s k < s.size) (hz : kindR (restAt s (pastK s k)) ≠ 0) : nextX s.data.toList (k : Int) = ⟨kindR (restAt s (pastK s k)), (restAt s (pastK s k)).take (begG (restAt s (pastK s k))).2, pastK s k, pastK s k + (begG (restAt s (pastK s k))).2, 0, 0⟩ := by
  have h2 : (begG (restAt s (pastK s k))).2 ≠ 0 := by
    intro e
    unfold kindR at hz
    rw [if_pos e] at hz
    exact hz rfl
  have h3 : kindR (restAt s (pastK s k)) = (begG (restAt s (pastK s k))).1 := by unfold kindR; rw [if_neg h2]
  have hl : (restAt s k).length - (restAt s (pastK s k)).length = pastK s k - k := by rw [restAt_len, restAt_len]; have := past_ge s k; omega
  have hp := past_ge s k
  rw [h3, next_in hk]
  unfold nextG
  rw [past_rest]
  rw [rest_cons h] at h2 hl ⊢
  simp only
  rw [if_neg h2, hl, show k + (pastK s k - k) = pastK s k by omega]
  simp only
  rw [rest_cons h]
theorem beg_kind {b : UInt8} {r : List UInt8} : (begG (b :: r)).1 ≠ 0 := by
  unfold begG
  simp only
  split
  · simp
  · split
    · simp
    · split <;> simp
theorem begR_kind {s : ByteArray} {k : Nat} (h : k < s.size) : (begG (restAt s k)).1 ≠ 0 := by rw [rest_cons h]; exact beg_kind
theorem reader_out {W : World} {B : Nat} {us : List Value} {x y z : Value} (h : Blk W B [x, y, z]) (u0 u1 u2 : Value) (V : World) (hV : V = ((W.setCell ⟨B, 0, none⟩ u0).setCell ⟨B, 1, none⟩ u1).setCell ⟨B, 2, none⟩ u2) (_hus : us = [u0, u1, u2]) : Blk V B us ∧ Only B W V := by
  subst hV _hus
  exact ⟨((h.set 0 u0).set 1 u1).set 2 u2, (((Only.refl _ _).setCell _ _).setCell _ _).setCell _ _⟩
set_option maxRecDepth 100000 in
set_option maxHeartbeats 2000000 in
theorem newReader_any (s : ByteArray) (k : Nat) (hk : k ≤ s.size) (hs : s.size ≤ maxLen) (w : World) :
    Calls Tryz.prog 161 #[.string s, .int .i64 (k : Int)] w fun e w' => e = .returned (.agg #[.string s, .int .i64 (pastK s k : Int), .int .i64 (pastK s k : Int)]) ∧ Below w.heap.size w w' := by
  have hS := fun (W : World) (R : Nat) (hC : Cur W R s k 0) => skip_blank hC hk hs
  rw [show k + ((restAt s k).takeWhile blankB).length = pastK s k from rfl] at hS
  obtain ⟨j, hj⟩ : ∃ j, j = pastK s k := ⟨_, rfl⟩
  rw [← hj] at hS ⊢
  clear hj
  obtain ⟨W, hW⟩ : ∃ W, W = (w.alloc (.cells #[.string ⟨#[]⟩, .int .i64 0, .int .i64 0] 191)).alloc (.cells #[.string s, .int .i64 (k : Int), .int .i64 0] 191) := ⟨_, rfl⟩
  have hC0 : Cur W (w.heap.size + 1) s k 0 := by
    rw [hW]
    exact Blk.is (us := [.string s, .int .i64 (k : Int), .int .i64 0]) _ (by rw [World.size_alloc])
  have hK0 : Blk W w.heap.size [.string ⟨#[]⟩, .int .i64 0, .int .i64 0] := by rw [hW]; exact (Blk.is _ rfl).alloc _
  have hWb : Below w.heap.size w W := by rw [hW]; exact below2 _ _ _
  go_enter Tryz.func161, Tryz.ntmps161
  go_wp2_with fail
  rw [← hW]
  refine (hS _ _ hC0).mono ?_
  rintro e w1 ⟨rfl, hO, hC⟩
  have hK1 := hK0.under hO.below (Nat.lt_succ_self _)
  have hB1 : Below w.heap.size w w1 := hWb.trans (hO.below.mono (Nat.le_succ _))
  have hK2 := hK1.other (p := ⟨w.heap.size + 1, 2, none⟩) (by simp) (.int .i64 (j : Int))
  have hB2 := hB1.setCell (p := ⟨w.heap.size + 1, 2, none⟩) (by simp) (.int .i64 (j : Int))
  obtain ⟨hlt, c0, c1, c2, f0, f1, f2⟩ := hC.parts
  have k0 := hK1.fr 0 _ rfl
  have k1 := hK1.fr 1 _ rfl
  have k2 := hK1.fr 2 _ rfl
  have d0 := hK1.cell 0 _ rfl
  have d1 := hK1.cell 1 _ rfl
  have d2 := hK1.cell 2 _ rfl
  go_wp2
  refine named_post fun V hV => ?_
  obtain ⟨hVb, hVo⟩ := reader_out hK2 _ _ _ V hV rfl
  clear hV c0 c1 c2 f0 f1 f2 k0 k1 k2 d0 d1 d2
  have c0 := hVb.cell 0 _ rfl
  have c1 := hVb.cell 1 _ rfl
  have c2 := hVb.cell 2 _ rfl
  exact bodyPost_ret (v := .agg #[.string s, .int .i64 (j : Int), .int .i64 (j : Int)]) (by simp [results, Tryz.results161, go_sem, c0, c1, c2]; try rfl) rfl ⟨rfl, hB2.trans hVo.below⟩
/-- What the next token gives. -/
def NextP (w : World) (s : ByteArray) (a : Int) (e : Ending) (w' : World) : Prop := e = .returned (nextX s.data.toList a).val ∧ Below w.heap.size w w'
theorem tf_out {w W : World} {B : Nat} {x0 x1 x2 y0 y1 : Value} (h0 : Blk W B [x0, x1, x2]) (h1 : Blk W (B + 1) [y0, y1]) (hB : Below B w W) (u0 u1 u2 v0 v1 : Value) (V : World)
    (hV : V = ((((W.setCell ⟨B, 0, none⟩ u0).setCell ⟨B, 1, none⟩ u1).setCell ⟨B, 2, none⟩ u2).setCell ⟨B + 1, 0, none⟩ v0).setCell ⟨B + 1, 1, none⟩ v1) : Blk V B [u0, u1, u2] ∧ Blk V (B + 1) [v0, v1] ∧ Below B w V := by
  subst hV
  refine ⟨((((h0.set 0 u0).set 1 u1).set 2 u2).other (by simp) _).other (by simp) _, ((((h1.other (p := ⟨B, 0, none⟩) (by simp) _).other (p := ⟨B, 1, none⟩) (by simp) _).other (p := ⟨B, 2, none⟩) (by simp) _).set 0 v0).set 1 v1, ?_⟩
  exact ((((hB.setCell (p := ⟨B, 0, none⟩) (by simp) _).setCell (p := ⟨B, 1, none⟩) (by simp) _).setCell (p := ⟨B, 2, none⟩) (by simp) _).setCell (p := ⟨B + 1, 0, none⟩) (by simp) _).setCell (p := ⟨B + 1, 1, none⟩) (by simp) _
set_option maxRecDepth 100000 in
set_option maxHeartbeats 2000000 in
theorem next_range (s : ByteArray) (a : Int) (h : a < 0 ∨ (s.data.toList.length : Int) < a) (w : World) :
    Calls Tryz.prog 157 #[.string s, .int .i64 a] w (NextP w s a) := by
  have HX := Lib.hid (next_out h)
  rw [bytes_size] at h
  have hF := fun w => fault_any 2 0 w
  have h2 : a < 0 ∨ 0 ≤ a ∧ (s.size : Int) < a := by omega
  obtain ⟨W, hW⟩ : ∃ W, W = (w.alloc (.cells #[.int .i64 0, .string ⟨#[]⟩, .int .i64 0] 179)).alloc (.cells #[.int .i64 0, .int .i64 0] 184) := ⟨_, rfl⟩
  have hK0 : Blk W w.heap.size [.int .i64 0, .string ⟨#[]⟩, .int .i64 0] := by rw [hW]; exact (Blk.is _ rfl).alloc _
  have hK1 : Blk W (w.heap.size + 1) [.int .i64 0, .int .i64 0] := by rw [hW]; exact Blk.is _ (by simp)
  have hWb : Below w.heap.size w W := by rw [hW]; exact below2 _ _ _
  clear h
  rcases h2 with h2 | ⟨h2, h3⟩
  · go_enter Tryz.func157, Tryz.ntmps157
    go_wp2_with fail
    rw [← hW]
    refine (hF _).mono ?_
    rintro e w1 ⟨rfl, hb1⟩
    have hZ0 := hK0.later hb1
    have hZ1 := hK1.later hb1
    have hZB := bstep hWb hb1
    clear hK0 hK1 hW
    have k0 := hZ0.fr 0 _ rfl
    have k1 := hZ0.fr 1 _ rfl
    have k2 := hZ0.fr 2 _ rfl
    have d0 := hZ0.cell 0 _ rfl
    have d1 := hZ0.cell 1 _ rfl
    have d2 := hZ0.cell 2 _ rfl
    have k3 := hZ1.fr 0 _ rfl
    have k4 := hZ1.fr 1 _ rfl
    have d3 := hZ1.cell 0 _ rfl
    have d4 := hZ1.cell 1 _ rfl
    go_wp2
    refine named_post fun V hV => ?_
    obtain ⟨hVa, hVb, hVB⟩ := tf_out hZ0 hZ1 hZB _ _ _ _ _ V hV
    clear hV d0 d1 d2 d3 d4 k0 k1 k2 k3 k4
    have c0 := hVa.cell 0 _ rfl
    have c1 := hVa.cell 1 _ rfl
    have c2 := hVa.cell 2 _ rfl
    have c3 := hVb.cell 0 _ rfl
    have c4 := hVb.cell 1 _ rfl
    exact bodyPost_ret (v := .tuple #[.agg #[.int .i64 0, .string ⟨#[]⟩, .int .i64 0], .int .i64 0, .agg #[.int .i64 2, .int .i64 0]]) (by simp [results, Tryz.results157, go_sem, c0, c1, c2, c3, c4]; try rfl) rfl ⟨by rw [HX.out]; rfl, hVB⟩
  · go_enter Tryz.func157, Tryz.ntmps157
    go_wp2_with fail
    rw [← hW]
    refine (hF _).mono ?_
    rintro e w1 ⟨rfl, hb1⟩
    have hZ0 := hK0.later hb1
    have hZ1 := hK1.later hb1
    have hZB := bstep hWb hb1
    clear hK0 hK1 hW
    have k0 := hZ0.fr 0 _ rfl
    have k1 := hZ0.fr 1 _ rfl
    have k2 := hZ0.fr 2 _ rfl
    have d0 := hZ0.cell 0 _ rfl
    have d1 := hZ0.cell 1 _ rfl
    have d2 := hZ0.cell 2 _ rfl
    have k3 := hZ1.fr 0 _ rfl
    have k4 := hZ1.fr 1 _ rfl
    have d3 := hZ1.cell 0 _ rfl
    have d4 := hZ1.cell 1 _ rfl
    go_wp2
    refine named_post fun V hV => ?_
    obtain ⟨hVa, hVb, hVB⟩ := tf_out hZ0 hZ1 hZB _ _ _ _ _ V hV
    clear hV d0 d1 d2 d3 d4 k0 k1 k2 k3 k4
    have c0 := hVa.cell 0 _ rfl
    have c1 := hVa.cell 1 _ rfl
    have c2 := hVa.cell 2 _ rfl
    have c3 := hVb.cell 0 _ rfl
    have c4 := hVb.cell 1 _ rfl
    exact bodyPost_ret (v := .tuple #[.agg #[.int .i64 0, .string ⟨#[]⟩, .int .i64 0], .int .i64 0, .agg #[.int .i64 2, .int .i64 0]]) (by simp [results, Tryz.results157, go_sem, c0, c1, c2, c3, c4]; try rfl) rfl ⟨by rw [HX.out]; rfl, hVB⟩
/-- The block that the reader lies in, behind the two results. -/
theorem reader_new (W : World) (s : ByteArray) (j : Nat) (V : World) (hV : V = W.alloc (.cells #[.string s, .int .i64 (j : Int), .int .i64 (j : Int)] 191)) (R : Nat) (hR : R = W.heap.size) : Cur V R s j j ∧ Below W.heap.size W V := by
  subst hV hR
  exact ⟨Blk.is (us := [.string s, .int .i64 (j : Int), .int .i64 (j : Int)]) _ rfl, below1 _ _⟩
set_option maxRecDepth 100000 in
set_option maxHeartbeats 4000000 in
theorem next_in_any (s : ByteArray) (k : Nat) (hk : k ≤ s.size) (hs : s.size ≤ maxLen) (w : World) (hG : SG w) :
    Calls Tryz.prog 157 #[.string s, .int .i64 (k : Int)] w (NextP w s (k : Int)) := by
  have hR := fun w => newReader_any s k hk hs w
  have hF := fun er a w => fault_any er a w
  have hp1 := past_le hk
  have HE := Lib.hid (fun h => nextG_end hk h)
  have HBad := Lib.hid (fun h1 h2 h3 => nextG_bad hk h1 h2 h3)
  have HGood := Lib.hid (fun h1 h2 => nextG_good hk h1 h2)
  obtain ⟨j, hj⟩ : ∃ j, j = pastK s k := ⟨_, rfl⟩
  rw [← hj] at hR hp1 HE HBad HGood
  have h1 : ¬ (k : Int) < 0 := by omega
  have h2 : ¬ (s.size : Int) < (k : Int) := by omega
  obtain ⟨W, hW⟩ : ∃ W, W = (w.alloc (.cells #[.int .i64 0, .string ⟨#[]⟩, .int .i64 0] 179)).alloc (.cells #[.int .i64 0, .int .i64 0] 184) := ⟨_, rfl⟩
  have hK0 : Blk W w.heap.size [.int .i64 0, .string ⟨#[]⟩, .int .i64 0] := by rw [hW]; exact (Blk.is _ rfl).alloc _
  have hK1 : Blk W (w.heap.size + 1) [.int .i64 0, .int .i64 0] := by rw [hW]; exact Blk.is _ (by simp)
  have hWb : Below w.heap.size w W := by rw [hW]; exact below2 _ _ _
  have hG1 := hG.later hWb
  clear hj hG
  go_enter Tryz.func157, Tryz.ntmps157
  go_wp2_with fail
  rw [← hW]
  refine (hR _).mono ?_
  rintro e w1 ⟨rfl, hb1⟩
  have hZ0 := hK0.later hb1
  have hZ1 := hK1.later hb1
  have hZB := bstep hWb hb1
  have hG2 := hG1.later hb1
  clear hK0 hK1 hW hb1 hWb hG1
  obtain ⟨R, hRR⟩ : ∃ R, R = w1.heap.size := ⟨_, rfl⟩
  obtain ⟨w2, hw2⟩ : ∃ w2, w2 = w1.alloc (.cells #[.string s, .int .i64 (j : Int), .int .i64 (j : Int)] 191) := ⟨_, rfl⟩
  have hR2 := reader_new w1 s j w2 hw2 R hRR
  go_wp2_with fail
  rw [← hRR, ← hw2]
  obtain ⟨hC, hb2⟩ := hR2
  have hlt1 := hZ1.lt
  have hrl : w.heap.size + 1 < R := by omega
  replace hZ0 := hZ0.later hb2
  replace hZ1 := hZ1.later hb2
  replace hZB := bstep hZB hb2
  replace hG2 := hG2.later hb2
  clear hw2 hRR hb2 hlt1
  by_cases hz : j = s.size
  · have hD := isDone_any hC true (by rw [beq_iff_eq]; omega)
    subst hz
    have HX := Lib.hid (HE.out rfl)
    clear HE HBad HGood
    refine hD.mono ?_
    rintro e w3 ⟨rfl, n, rfl⟩
    replace hC := hC.drewN n
    replace hZ0 := hZ0.drewN n
    replace hZ1 := hZ1.drewN n
    replace hZB := below_drewN hZB n
    obtain ⟨W, hW⟩ : ∃ W, W = w2.drewN n := ⟨_, rfl⟩
    rw [← hW] at hC hZ0 hZ1 hZB ⊢
    obtain ⟨hlt, r0, r1, r2, f0, f1, f2⟩ := hC.parts
    clear hW
    go_wp2_with fail
    refine (hF 5 (s.size : Int) _).mono ?_
    rintro e w4 ⟨rfl, hb4⟩
    replace hZ0 := hZ0.later hb4
    replace hZ1 := hZ1.later hb4
    replace hZB := bstep hZB hb4
    clear r0 r1 r2 f0 f1 f2 hlt
    have k0 := hZ0.fr 0 _ rfl
    have k1 := hZ0.fr 1 _ rfl
    have k2 := hZ0.fr 2 _ rfl
    have d0 := hZ0.cell 0 _ rfl
    have d1 := hZ0.cell 1 _ rfl
    have d2 := hZ0.cell 2 _ rfl
    have k3 := hZ1.fr 0 _ rfl
    have k4 := hZ1.fr 1 _ rfl
    have d3 := hZ1.cell 0 _ rfl
    have d4 := hZ1.cell 1 _ rfl
    go_wp2
    refine named_post fun V hV => ?_
    obtain ⟨hVa, hVb, hVB⟩ := tf_out hZ0 hZ1 hZB _ _ _ _ _ V hV
    clear hV d0 d1 d2 d3 d4 k0 k1 k2 k3 k4
    have c0 := hVa.cell 0 _ rfl
    have c1 := hVa.cell 1 _ rfl
    have c2 := hVa.cell 2 _ rfl
    have c3 := hVb.cell 0 _ rfl
    have c4 := hVb.cell 1 _ rfl
    exact bodyPost_ret (v := .tuple #[.agg #[.int .i64 0, .string ⟨#[]⟩, .int .i64 0], .int .i64 0, .agg #[.int .i64 5, .int .i64 (s.size : Int)]]) (by simp [results, Tryz.results157, go_sem, c0, c1, c2, c3, c4]; try rfl) rfl ⟨by rw [HX.out]; rfl, hVB⟩
  · have hjl : j < s.size := by omega
    have hD := isDone_any hC false (by rw [beq_eq_false_iff_ne]; omega)
    have hP := fun n => pass_any (hC.drewN n) hjl hs (hG2.drewN n)
    replace HBad := Lib.hid (fun h => HBad.out hjl h (begR_kind hjl))
    replace HGood := Lib.hid (HGood.out hjl)
    clear HE
    refine hD.mono ?_
    rintro e w3 ⟨rfl, n, rfl⟩
    go_wp2_with fail
    refine (hP n).mono ?_
    rintro e w4 ⟨k', rfl, hO, hC4, hk1, hk2, hk3⟩
    replace hZ0 := (hZ0.drewN n).under hO.below (by omega)
    replace hZ1 := (hZ1.drewN n).under hO.below hrl
    replace hZB := (below_drewN hZB n).trans (hO.below.mono (by omega))
    clear hP hO hG2 hC
    have HK3 := Lib.hid hk3
    clear hk3
    obtain ⟨q, hq⟩ : ∃ q, q = kindR (restAt s j) := ⟨_, rfl⟩
    rw [← hq] at HBad HGood HK3 ⊢
    by_cases hq0 : q = 0
    · subst hq0
      have HX := Lib.hid (HBad.out rfl)
      clear HBad HGood hq HK3
      obtain ⟨hlt, r0, r1, r2, f0, f1, f2⟩ := hC4.parts
      go_wp2_with fail
      refine (hF 3 (j : Int) _).mono ?_
      rintro e w5 ⟨rfl, hb5⟩
      replace hZ0 := hZ0.later hb5
      replace hZ1 := hZ1.later hb5
      replace hZB := bstep hZB hb5
      clear r0 r1 r2 f0 f1 f2 hlt
      have k0 := hZ0.fr 0 _ rfl
      have k1 := hZ0.fr 1 _ rfl
      have k2 := hZ0.fr 2 _ rfl
      have d0 := hZ0.cell 0 _ rfl
      have d1 := hZ0.cell 1 _ rfl
      have d2 := hZ0.cell 2 _ rfl
      have k3 := hZ1.fr 0 _ rfl
      have k4 := hZ1.fr 1 _ rfl
      have d3 := hZ1.cell 0 _ rfl
      have d4 := hZ1.cell 1 _ rfl
      go_wp2
      refine named_post fun V hV => ?_
      obtain ⟨hVa, hVb, hVB⟩ := tf_out hZ0 hZ1 hZB _ _ _ _ _ V hV
      clear hV d0 d1 d2 d3 d4 k0 k1 k2 k3 k4
      have c0 := hVa.cell 0 _ rfl
      have c1 := hVa.cell 1 _ rfl
      have c2 := hVa.cell 2 _ rfl
      have c3 := hVb.cell 0 _ rfl
      have c4 := hVb.cell 1 _ rfl
      exact bodyPost_ret (v := .tuple #[.agg #[.int .i64 0, .string ⟨#[]⟩, .int .i64 0], .int .i64 0, .agg #[.int .i64 3, .int .i64 (j : Int)]]) (by simp [results, Tryz.results157, go_sem, c0, c1, c2, c3, c4]; try rfl) rfl ⟨by rw [HX.out]; rfl, hVB⟩
    · have HX := Lib.hid (HGood.out hq0)
      have hk4 := HK3.out hq0
      have hT := fun (W : World) (hC : Cur W R s k' j) => taken_any hC hk1 hk2 ((restAt s j).take (begG (restAt s j)).2) (by rw [hk4, Nat.add_sub_cancel_left])
      have hqi : ¬ (q : Int) = 0 := by omega
      have hqb : ((q : Int) == 0) = false := by rw [beq_eq_false_iff_ne]; exact hqi
      obtain ⟨T, hT2⟩ : ∃ T, T = strOf ((restAt s j).take (begG (restAt s j)).2) := ⟨_, rfl⟩
      rw [← hT2] at hT
      have HT := Lib.hid hT2
      have HK4 := Lib.hid hk4
      clear HBad HGood hq hk4 hT2 HK3
      go_upto_region 9 with (fail)
      go_cut [5] (fun s5 wx => s5 = .int .i64 (k' : Int) ∧ Blk wx w.heap.size [.int .i64 (q : Int), .string T, .int .i64 (j : Int)] ∧ Blk wx (w.heap.size + 1) [.int .i64 0, .int .i64 0] ∧ Below w.heap.size w wx)
      case first =>
        obtain ⟨hlt, r0, r1, r2, f0, f1, f2⟩ := hC4.parts
        have k0 := hZ0.fr 0 _ rfl
        have k1 := hZ0.fr 1 _ rfl
        have k2 := hZ0.fr 2 _ rfl
        have d0 := hZ0.cell 0 _ rfl
        have d1 := hZ0.cell 1 _ rfl
        have d2 := hZ0.cell 2 _ rfl
        have k3 := hZ1.fr 0 _ rfl
        have k4 := hZ1.fr 1 _ rfl
        have d3 := hZ1.cell 0 _ rfl
        have d4 := hZ1.cell 1 _ rfl
        go_region_with ((go_at_call 164; refine (hT _ (by first | exact hC4 | exact Blk.drew hC4 | exact Blk.drew (Blk.drew hC4) | exact Blk.drew (Blk.drew (Blk.drew hC4)))).mono ?_; rintro e w5 ⟨rfl, m, rfl⟩))
        all_goals
          go_wp2_with fail
          go_meet
          exact ⟨rfl, tf_out (hZ0.drewN _) (hZ1.drewN _) (below_drewN hZB _) _ _ _ _ _ _ rfl⟩
      case rest =>
        obtain ⟨rfl, hZ0, hZ1, hZB⟩ := hcut
        have c0 := hZ0.cell 0 _ rfl
        have c1 := hZ0.cell 1 _ rfl
        have c2 := hZ0.cell 2 _ rfl
        have c3 := hZ1.cell 0 _ rfl
        have c4 := hZ1.cell 1 _ rfl
        go_wp2
        exact bodyPost_ret (v := .tuple #[.agg #[.int .i64 (q : Int), .string T, .int .i64 (j : Int)], .int .i64 (k' : Int), .agg #[.int .i64 0, .int .i64 0]]) (by simp [results, Tryz.results157, go_sem, c0, c1, c2, c3, c4]; try rfl) rfl ⟨by rw [HX.out, HT.out, HK4.out]; rfl, hZB⟩
theorem next_any (s : ByteArray) (a : Int) (hs : s.size ≤ maxLen) (w : World) (hG : SG w) :
    Calls Tryz.prog 157 #[.string s, .int .i64 a] w (NextP w s a) := by
  by_cases h : a < 0 ∨ (s.data.toList.length : Int) < a
  · exact next_range s a h w
  · rw [bytes_size] at h
    obtain ⟨k, rfl⟩ := Int.eq_ofNat_of_zero_le (show 0 ≤ a by omega)
    exact next_in_any s k (by omega) hs w hG
end Go.Proofs.YtdoioaeppepndaaGreatDoor
