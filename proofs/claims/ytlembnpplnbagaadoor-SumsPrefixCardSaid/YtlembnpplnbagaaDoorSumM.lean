/- Walks: the reference's reader of digits, whatever it is given; its Int and Nat. -/
import Derived.Test.YtlembnpplnbagaaDoorSumL
import Derived.Handy
namespace Go.Proofs.YtlembnpplnbagaaDoor
open Go.RowKit Go.Shelf
open Sm

set_option maxHeartbeats 1000000 in
theorem natural_any (s : ByteArray) (hs : s.size ≤ 100000) (w : World) :
    Calls Tryd.prog 60 #[.string s] w fun e w' => e = .returned (.tuple #[.int .u64 ((natuN s.data.toList : Nat) : Int), .bool (natuG s.data.toList), .int .i64 (natuE s.data.toList)]) ∧ w = w' := by
  by_cases h0 : s.size = 0
  · have hl : s.data.toList = [] := List.eq_nil_of_length_eq_zero (by rw [bytes_size]; exact h0)
    rw [hl]
    obtain rfl : s = ⟨#[]⟩ := str_is hl
    clear hl h0
    go_enter Tryd.func60, Tryd.ntmps60
    go_wp2
    go_ret3
    exact ⟨rfl, rfl⟩
  · by_cases h1 : s.size = 1
    · exact natural_loop s hs w h0 (fun h => absurd h1 h)
    · have hp : 0 < s.size := by omega
      by_cases h2 : (s[0]'hp).toNat = 48
      · have hb : ((s[0]'hp).toNat : Int) = 48 := by omega
        have hno : digB s.data.toList = false := by
          cases e : s.data.toList with
          | nil => rfl
          | cons d ds =>
            cases ed : digB (d :: ds)
            · rfl
            · have hx := byte_at s 0 hp
              rw [e] at hx
              simp at hx
              rw [← hx] at h2
              have := (digB_cons.1 ed).2 h2
              have hz := bytes_size s
              rw [e, this] at hz
              exact absurd hz.symm h1
        obtain ⟨e1, e2, e3⟩ := natu_no hno
        rw [e1, e2, e3]
        have n0 : ¬ s.toList = [] := fun e => h0 (by rw [← bytes_size, ← toL, e]; rfl)
        have n0b := strEmpty n0
        have z1 : (1 : Int) < (s.size : Int) := by omega
        clear e1 e2 e3 hno h2 h1 h0
        go_enter Tryd.func60, Tryd.ntmps60
        go_wp2
        go_ret3
        exact ⟨rfl, rfl⟩
      · exact natural_loop s hs w h0 (fun _ _ => h2)

theorem natural_is (D : ByteArray) (R : List UInt8) (h : D.toList = R) (hs : D.size ≤ 100000) (w : World) :
    Calls Tryd.prog 60 #[.string D] w fun e w' => e = .returned (.tuple #[.int .u64 ((natuN R : Nat) : Int), .bool (natuG R), .int .i64 (natuE R)]) ∧ w = w' := by
  rw [← h, toL]
  exact natural_any D hs w
set_option maxHeartbeats 1000000 in
theorem refNat5_any (s : ByteArray) (most : Nat) (hm : most < 18446744073709551616) (hs : s.size ≤ 100000) (w : World) :
    Calls Tryd.prog 37 #[.string s, .int .u64 (most : Int)] w fun e w' => e = .returned (.tuple #[.int .u64 (natN s.data.toList most : Int), .int .i64 (natE s.data.toList most)]) ∧ w = w' := by
  have hN := fun w => natural_any s hs w
  have eN : natN s.data.toList most = if digB s.data.toList = true ∧ decN 0 s.data.toList ≤ most then decN 0 s.data.toList else 0 := rfl
  have eE : natE s.data.toList most = if digB s.data.toList = true then (if decN 0 s.data.toList ≤ most then 0 else 2) else 3 := rfl
  rw [eN, eE]
  clear eN eE
  cases hd : digB s.data.toList
  · obtain ⟨e1, e2, e3⟩ := natu_no hd
    rw [e1, e2, e3] at hN
    rw [if_neg (fun h => Bool.noConfusion h.1), if_neg (by decide)]
    clear e1 e2 e3 hd
    go_enter Tryd.func37, Tryd.ntmps37
    go_wp2_with (go_at_call 60; refine (hN _).mono ?_; rintro e w' ⟨rfl, rfl⟩)
    go_ret2
    exact ⟨rfl, rfl⟩
  · obtain ⟨e1, e2, e3⟩ := natu_yes hd
    rw [e1, e2, e3] at hN
    clear e1 e2 e3 hd
    generalize decN 0 s.data.toList = n at *
    by_cases h1 : n ≤ 18446744073709551615
    · rw [Nat.mod_eq_of_lt (show n < 18446744073709551616 by omega), decide_eq_false (show ¬ 18446744073709551616 ≤ n by omega)] at hN
      by_cases h2 : n ≤ most
      · rw [if_pos h2, if_pos ⟨rfl, h2⟩, if_pos rfl]
        have h3 : ¬ (most : Int) < (n : Int) := by omega
        go_enter Tryd.func37, Tryd.ntmps37
        go_wp2_with (go_at_call 60; refine (hN _).mono ?_; rintro e w' ⟨rfl, rfl⟩)
        go_ret2
        exact ⟨rfl, rfl⟩
      · rw [if_neg h2, if_neg (fun h => h2 h.2), if_pos rfl]
        have h3 : (most : Int) < (n : Int) := by omega
        go_enter Tryd.func37, Tryd.ntmps37
        go_wp2_with (go_at_call 60; refine (hN _).mono ?_; rintro e w' ⟨rfl, rfl⟩)
        go_ret2
        exact ⟨rfl, rfl⟩
    · rw [decide_eq_true (show 18446744073709551616 ≤ n by omega)] at hN
      rw [if_neg (fun h => h1 (by omega)), if_pos rfl, if_neg (fun h => h1 (by omega))]
      obtain ⟨r, hr⟩ : ∃ r : Int, r = ((n % 18446744073709551616 : Nat) : Int) := ⟨_, rfl⟩
      rw [← hr] at hN
      clear hr h1
      go_enter Tryd.func37, Tryd.ntmps37
      go_wp2_with (go_at_call 60; refine (hN _).mono ?_; rintro e w' ⟨rfl, rfl⟩)
      go_ret2
      exact ⟨rfl, rfl⟩
theorem ext_tail (s : ByteArray) : (s.extract 1 s.size).toList = s.data.toList.tail := by
  rw [toL]
  have h : s.data.toList.length = s.size := bytes_size s
  simp only [ByteArray.data_extract, Array.toList_extract, List.extract_eq_take_drop, List.drop_one]
  exact List.take_of_length_le (by rw [List.length_tail]; omega)
theorem int_bad {l : List UInt8} (h : digB (restL l) = false) : intN l = 0 ∧ intE l = 3 := by
  have : formB l = false := by unfold formB; rw [h]; rfl
  unfold intN intE
  rw [this]
  exact ⟨rfl, rfl⟩
theorem int_zero {l : List UInt8} (h : digB (restL l) = true) (hm : minB l = true) (h0 : decN 0 (restL l) = 0) : intN l = 0 ∧ intE l = 3 := by
  have : formB l = false := by unfold formB; rw [h, hm, (digB_zero h).2 h0]; rfl
  unfold intN intE
  rw [this]
  exact ⟨rfl, rfl⟩
theorem form_of {l : List UInt8} (h : digB (restL l) = true) (hm : minB l = true → decN 0 (restL l) ≠ 0) : formB l = true := by
  unfold formB
  rw [h]
  cases e : minB l
  · rfl
  · have : ¬ restL l = [48] := fun e2 => hm e ((digB_zero h).1 e2)
    simp [this]
theorem int_out {l : List UInt8} (h : digB (restL l) = true) (hm : minB l = true → decN 0 (restL l) ≠ 0) (ho : okI (valV l) = false) : intN l = 0 ∧ intE l = 2 := by
  unfold intN intE
  rw [form_of h hm, ho, numI_no ho]
  exact ⟨rfl, rfl⟩
theorem int_in {l : List UInt8} (h : digB (restL l) = true) (hm : minB l = true → decN 0 (restL l) ≠ 0) (ho : okI (valV l) = true) : intN l = valV l ∧ intE l = 0 := by
  unfold intN intE
  rw [form_of h hm, ho, numI_ok ho]
  exact ⟨rfl, rfl⟩
theorem valV_big (l : List UInt8) : bigV (minB l) 0 (decN 0 (restL l)) = valV l := by
  unfold bigV valV
  cases minB l <;> simp
set_option maxHeartbeats 2000000 in
theorem refInt5_any (s : ByteArray) (hs : s.size ≤ 100000) (w : World) :
    Calls Tryd.prog 35 #[.string s] w fun e w' => e = .returned (.tuple #[.int .i64 (intN s.data.toList), .int .i64 (intE s.data.toList)]) ∧ Below w.heap.size w w' := by
  cases hm : minB s.data.toList
  · have hN := fun w => natural_is s (restL s.data.toList) (by rw [not_min hm, toL]) hs w
    by_cases he : s.size = 0
    · have hl : s.data.toList = [] := List.eq_nil_of_length_eq_zero (by rw [bytes_size]; exact he)
      rw [hl] at hN ⊢
      obtain rfl : s = ⟨#[]⟩ := str_is hl
      clear hl he hm
      go_enter Tryd.func35, Tryd.ntmps35
      go_wp2_with (go_at_call 60; refine (hN _).mono ?_; rintro e w' ⟨rfl, rfl⟩)
      go_ret2
      exact ⟨rfl, Below.refl _ _⟩
    · have hp : 0 < s.size := by omega
      have h45 : ¬ ((s[0]'hp).toNat : Int) = 45 := fun e => by
        have h := byte_at s 0 hp
        simp only [Nat.zero_add, List.take_zero, List.nil_append] at h
        cases el : s.data.toList with
        | nil => rw [el] at h; cases h
        | cons d ds =>
          rw [el] at h hm
          simp at h
          rw [← h] at e
          have : d = 45 := UInt8.toNat_inj.1 (by show d.toNat = 45; omega)
          rw [this] at hm
          cases hm
      have h45b : (((s[0]'hp).toNat : Int) == 45) = false := by rw [beq_eq_false_iff_ne]; exact h45
      have n0 : ¬ s.toList = [] := fun e => he (by rw [← bytes_size, ← toL, e]; rfl)
      have n0b := strEmpty n0
      clear he
      cases hd : digB (restL s.data.toList)
      · obtain ⟨e1, e2, e3⟩ := natu_no hd
        rw [e1, e2, e3] at hN
        obtain ⟨g1, g2⟩ := int_bad hd
        rw [g1, g2]
        clear e1 e2 e3 g1 g2 hd hm
        go_enter Tryd.func35, Tryd.ntmps35
        go_wp2_with (first | (go_at_call 60; refine (hN _).mono ?_; rintro e w' ⟨rfl, rfl⟩))
        go_ret2
        exact ⟨rfl, Below.refl _ _⟩
      · obtain ⟨e1, e2, e3⟩ := natu_yes hd
        rw [e1, e2, e3] at hN
        clear e1 e2 e3
        have hV := valV_big s.data.toList
        rw [hm] at hV
        have hnz : minB s.data.toList = true → decN 0 (restL s.data.toList) ≠ 0 := fun e => by rw [hm] at e; cases e
        by_cases h1 : decN 0 (restL s.data.toList) ≤ 18446744073709551615
        · rw [Nat.mod_eq_of_lt (show decN 0 (restL s.data.toList) < 18446744073709551616 by omega), decide_eq_false (show ¬ 18446744073709551616 ≤ decN 0 (restL s.data.toList) by omega)] at hN
          have hW := fun w => narrow_any false 0 (decN 0 (restL s.data.toList)) (by omega) w
          rw [hV] at hW
          obtain ⟨n, hn⟩ : ∃ n : Int, n = ((decN 0 (restL s.data.toList) : Nat) : Int) := ⟨_, rfl⟩
          rw [← hn] at hN hW
          cases ho : okI (valV s.data.toList)
          · obtain ⟨g1, g2⟩ := int_out hd hnz ho
            rw [g1, g2]
            rw [two_no ho] at hW
            clear g1 g2 hd hm hnz hV hn h1 ho
            go_enter Tryd.func35, Tryd.ntmps35
            go_wp2_with (first | (go_at_call 60; refine (hN _).mono ?_; rintro e w' ⟨rfl, rfl⟩) | (go_at_call 47; refine (hW _).mono ?_; rintro e w' ⟨rfl, hb1⟩))
            go_ret2
            exact ⟨rfl, hb1⟩
          · obtain ⟨g1, g2⟩ := int_in hd hnz ho
            rw [g1, g2]
            rw [two_ok ho] at hW
            obtain ⟨v, hv⟩ : ∃ v, v = valV s.data.toList := ⟨_, rfl⟩
            rw [← hv] at hW ⊢
            clear g1 g2 hd hm hnz hV hn h1 ho hv
            go_enter Tryd.func35, Tryd.ntmps35
            go_wp2_with (first | (go_at_call 60; refine (hN _).mono ?_; rintro e w' ⟨rfl, rfl⟩) | (go_at_call 47; refine (hW _).mono ?_; rintro e w' ⟨rfl, hb1⟩))
            go_ret2
            exact ⟨rfl, hb1⟩
        · rw [decide_eq_true (show 18446744073709551616 ≤ decN 0 (restL s.data.toList) by omega)] at hN
          obtain ⟨g1, g2⟩ := int_out hd hnz (by rw [← hV, okI_not]; unfold bigV; split <;> omega)
          rw [g1, g2]
          obtain ⟨r, hr⟩ : ∃ r : Int, r = ((decN 0 (restL s.data.toList) % 18446744073709551616 : Nat) : Int) := ⟨_, rfl⟩
          rw [← hr] at hN
          clear g1 g2 hd hm hnz hV hr h1
          go_enter Tryd.func35, Tryd.ntmps35
          go_wp2_with (first | (go_at_call 60; refine (hN _).mono ?_; rintro e w' ⟨rfl, rfl⟩))
          go_ret2
          exact ⟨rfl, Below.refl _ _⟩
  · have hl := min_cons hm
    have hN := fun w => natural_is (s.extract 1 s.size) (restL s.data.toList) (by rw [ext_tail]; unfold restL; rw [if_pos hm]) (by simp [ByteArray.size_extract]; omega) w
    have hz : s.size = (restL s.data.toList).length + 1 := by
      have := bytes_size s
      rw [hl] at this
      simpa using this.symm
    have hp : 0 < s.size := by omega
    have h45 : ((s[0]'hp).toNat : Int) = 45 := by
      have := byte_at s 0 hp
      rw [hl] at this
      simp at this
      rw [← this]; rfl
    have n0 : ¬ s.toList = [] := by rw [toL, hl]; simp
    have n0b := strEmpty n0
    have z1 : (1 : Int) ≤ (s.size : Int) := by omega
    clear hl hz
    cases hd : digB (restL s.data.toList)
    · obtain ⟨e1, e2, e3⟩ := natu_no hd
      rw [e1, e2, e3] at hN
      obtain ⟨g1, g2⟩ := int_bad hd
      rw [g1, g2]
      clear e1 e2 e3 g1 g2 hd hm
      go_enter Tryd.func35, Tryd.ntmps35
      go_wp2_with (first | (go_at_call 60; refine (hN _).mono ?_; rintro e w' ⟨rfl, rfl⟩))
      go_ret2
      exact ⟨rfl, Below.refl _ _⟩
    · obtain ⟨e1, e2, e3⟩ := natu_yes hd
      rw [e1, e2, e3] at hN
      clear e1 e2 e3
      have hV := valV_big s.data.toList
      rw [hm] at hV
      by_cases h0 : decN 0 (restL s.data.toList) = 0
      · obtain ⟨g1, g2⟩ := int_zero hd hm h0
        rw [g1, g2]
        rw [h0] at hN
        have hN' : ∀ w, Calls Tryd.prog 60 #[.string (s.extract 1 s.size)] w fun e w' => e = .returned (.tuple #[.int .u64 0, .bool false, .int .i64 0]) ∧ w = w' := hN
        clear g1 g2 hd hm h0 hV hN
        have hN := hN'
        clear hN'
        go_enter Tryd.func35, Tryd.ntmps35
        go_wp2_with (first | (go_at_call 60; refine (hN _).mono ?_; rintro e w' ⟨rfl, rfl⟩))
        go_ret2
        exact ⟨rfl, Below.refl _ _⟩
      have hnz : minB s.data.toList = true → decN 0 (restL s.data.toList) ≠ 0 := fun _ => h0
      by_cases h1 : decN 0 (restL s.data.toList) ≤ 18446744073709551615
      · rw [Nat.mod_eq_of_lt (show decN 0 (restL s.data.toList) < 18446744073709551616 by omega), decide_eq_false (show ¬ 18446744073709551616 ≤ decN 0 (restL s.data.toList) by omega)] at hN
        have hW := fun w => narrow_any true 0 (decN 0 (restL s.data.toList)) (by omega) w
        rw [hV] at hW
        have hz : ((decN 0 (restL s.data.toList) : Nat) : Int) ≠ 0 := by omega
        obtain ⟨n, hn⟩ : ∃ n : Int, n = ((decN 0 (restL s.data.toList) : Nat) : Int) := ⟨_, rfl⟩
        rw [← hn] at hN hW hz
        have hzb : (n == 0) = false := by rw [beq_eq_false_iff_ne]; exact hz
        cases ho : okI (valV s.data.toList)
        · obtain ⟨g1, g2⟩ := int_out hd hnz ho
          rw [g1, g2]
          rw [two_no ho] at hW
          clear g1 g2 hd hm hnz hV hn h1 ho h0
          go_enter Tryd.func35, Tryd.ntmps35
          go_wp2_with (first | (go_at_call 60; refine (hN _).mono ?_; rintro e w' ⟨rfl, rfl⟩) | (go_at_call 47; refine (hW _).mono ?_; rintro e w' ⟨rfl, hb1⟩))
          go_ret2
          exact ⟨rfl, hb1⟩
        · obtain ⟨g1, g2⟩ := int_in hd hnz ho
          rw [g1, g2]
          rw [two_ok ho] at hW
          obtain ⟨v, hv⟩ : ∃ v, v = valV s.data.toList := ⟨_, rfl⟩
          rw [← hv] at hW ⊢
          clear g1 g2 hd hm hnz hV hn h1 ho hv h0
          go_enter Tryd.func35, Tryd.ntmps35
          go_wp2_with (first | (go_at_call 60; refine (hN _).mono ?_; rintro e w' ⟨rfl, rfl⟩) | (go_at_call 47; refine (hW _).mono ?_; rintro e w' ⟨rfl, hb1⟩))
          go_ret2
          exact ⟨rfl, hb1⟩
      · rw [decide_eq_true (show 18446744073709551616 ≤ decN 0 (restL s.data.toList) by omega)] at hN
        obtain ⟨g1, g2⟩ := int_out hd hnz (by rw [← hV, okI_not]; unfold bigV; split <;> omega)
        rw [g1, g2]
        obtain ⟨r, hr⟩ : ∃ r : Int, r = ((decN 0 (restL s.data.toList) % 18446744073709551616 : Nat) : Int) := ⟨_, rfl⟩
        rw [← hr] at hN
        clear g1 g2 hd hm hnz hV hr h1 h0
        by_cases hr0 : r = 0
        · subst hr0
          go_enter Tryd.func35, Tryd.ntmps35
          go_wp2_with (first | (go_at_call 60; refine (hN _).mono ?_; rintro e w' ⟨rfl, rfl⟩))
          go_ret2
          exact ⟨rfl, Below.refl _ _⟩
        · have hr1 : (r == 0) = false := by rw [beq_eq_false_iff_ne]; exact hr0
          go_enter Tryd.func35, Tryd.ntmps35
          go_wp2_with (first | (go_at_call 60; refine (hN _).mono ?_; rintro e w' ⟨rfl, rfl⟩))
          go_ret2
          exact ⟨rfl, Below.refl _ _⟩
end Go.Proofs.YtlembnpplnbagaaDoor
