/- Walks: the program's Int, Nat and Text. -/
import Derived.Test.YtlembnpplnbagaaDoorSumI
import Derived.Lib.AtoiErrMem
import Derived.Lib.ItoaLen
import Derived.Lib.AppendIntMem
import Derived.Lib.SmallJoins
import Derived.Lib.LaidTab
namespace Go.Proofs.YtlembnpplnbagaaDoor
open Go.RowKit Go.Shelf
open Sm

theorem gPow : Tryd.prog.globalNamed "internal/strconv.uint64pow10" = some 2 := by kernel_rfl
/-- The table and the error of strconv lie where their initialisers laid them. -/
def Laid5 (w : World) : Prop := Lib.TabIs Tryd.prog w "internal/strconv.uint64pow10" .u64 Lib.pow10Tab ∧ ∃ ev, w.cell? ⟨1, 0, none⟩ = some ev ∧ (ev = .nilIface ∨ ∃ te pe, ev = .iface te pe)
theorem Laid5.below {w w' : World} (h : Laid5 w) (hb : Below w.heap.size w w') : Laid5 w' := by
  obtain ⟨h1, ev, h2, h3⟩ := h
  exact ⟨Go.Joins.tab_stays gPow h1 hb (Nat.le_refl _), ev, (hb.cell (World.block_lt_of_cell? w _ h2)).trans h2, h3⟩
theorem Laid5.alloc {w : World} (h : Laid5 w) (o : Obj) : Laid5 (w.alloc o) := h.below ((Below.refl _ _).alloc (Nat.le_refl _) o)
theorem formatInt5_any (v : Int) (h : okI v = true) (w : World) (ht : Laid5 w) :
    Calls Tryd.prog 62 #[.int .i64 v, .int .i64 10] w fun e w' => e = .returned (.string (strOf (Lib.itoa v))) ∧ Below w.heap.size w w' :=
  (Tryd.strconv_FormatInt_10 v (okI_iff.1 h).1 (okI_iff.1 h).2 w ht.1).mono fun _ _ ⟨he, k, os, hw⟩ => ⟨he, by rw [hw]; exact Lib.below_grow _ _ (Nat.le_refl _) _ _⟩
theorem text5_any (v : Int) (h : okI v = true) (w : World) (ht : Laid5 w) :
    Calls Tryd.prog 38 #[.int .i64 v] w fun e w' => e = .returned (.string (strOf (Lib.itoa v))) ∧ Below w.heap.size w w' := by
  have hc := formatInt5_any v h w ht
  obtain ⟨S, hS⟩ : ∃ S, S = strOf (Lib.itoa v) := ⟨_, rfl⟩
  rw [← hS] at hc ⊢
  clear hS h ht
  go_enter Tryd.func38, Tryd.ntmps38
  go_wp2_with (go_at_call 62; refine hc.mono ?_; rintro e w' ⟨rfl, hb1⟩)
  go_ret
  exact ⟨rfl, hb1⟩
/-- Two results, the second of them an error. -/
def OutErr (v : Value) (w : World) (e : Ending) (w' : World) : Prop := ∃ t p, e = .returned (.tuple #[v, .iface t p]) ∧ Below w.heap.size w w'
theorem parseInt_ok (s : ByteArray) (hs : s.size ≤ 100000) (v : Int) (h : Lib.parseIntB 64 s.data.toList = .ok v) (w : World) :
    Calls Tryd.prog 59 #[.string s, .int .i64 10, .int .i64 64] w fun e w' => e = .returned (.tuple #[.int .i64 v, .nilIface]) ∧ Below w.heap.size w w' :=
  (Tryd.strconv_ParseInt_10_at64_ok s (by omega) v h w).mono fun _ _ ⟨he, hw⟩ => ⟨he, by rcases hw with rfl | ⟨t, rfl⟩; exact Below.refl _ _; exact Lib.bytesWorld_below _ _ _⟩
theorem parseInt_range (s : ByteArray) (hs : s.size ≤ 100000) (h : Lib.parseIntB 64 s.data.toList = .range) (w : World) (ht : Laid5 w) :
    Calls Tryd.prog 59 #[.string s, .int .i64 10, .int .i64 64] w (OutErr (.int .i64 (Lib.intSat 64 s.data.toList)) w) := by
  obtain ⟨_, ev, h1, h2⟩ := ht
  exact (Tryd.strconv_ParseInt_10_at64_range s (by omega) h ev w h1 h2).mono fun _ _ ⟨_, he, _, _, hb⟩ => ⟨_, _, he, hb⟩
theorem parseUint_ok (s : ByteArray) (hs : s.size ≤ 100000) (v : Nat) (h : Lib.parseUintB 64 s.data.toList = .ok v) (w : World) :
    Calls Tryd.prog 61 #[.string s, .int .i64 10, .int .i64 64] w fun e w' => e = .returned (.tuple #[.int .u64 (v : Int), .nilIface]) ∧ Below w.heap.size w w' :=
  (Tryd.strconv_ParseUint_10_at64_ok s (by omega) v h w).mono fun _ _ ⟨he, hw⟩ => ⟨he, by rcases hw with rfl | rfl; exact Below.refl _ _; exact Lib.bytesWorld_below _ _ _⟩
theorem parseUint_range (s : ByteArray) (hs : s.size ≤ 100000) (h : Lib.parseUintB 64 s.data.toList = .range) (w : World) (ht : Laid5 w) :
    Calls Tryd.prog 61 #[.string s, .int .i64 10, .int .i64 64] w (OutErr (.int .u64 18446744073709551615) w) := by
  obtain ⟨_, ev, h1, h2⟩ := ht
  exact (Tryd.strconv_ParseUint_10_at64_range s (by omega) h ev w h1 h2).mono fun _ _ ⟨_, he, _, _, hb⟩ => ⟨_, _, he, hb⟩
theorem cut_minus (l : List UInt8) : Lib.hasPrefix l [45] = minB l ∧ Lib.trimPrefix l [45] = restL l := by
  have h1 : Lib.hasPrefix l [45] = minB l := by
    unfold minB
    show List.isPrefixOf [45] l = _
    cases l with
    | nil => rfl
    | cons d ds =>
      show ((45 : UInt8) == d && List.isPrefixOf [] ds) = (some d == some 45)
      have e1 : List.isPrefixOf [] ds = true := by cases ds <;> rfl
      rw [e1, Bool.and_true]
      show ((45 : UInt8) == d) = (d == 45)
      exact Bool.eq_iff_iff.2 (by rw [beq_iff_eq, beq_iff_eq]; exact eq_comm)
  refine ⟨h1, ?_⟩
  unfold Lib.trimPrefix restL
  rw [h1]
  cases minB l
  · rfl
  · show l.drop 1 = l.tail
    cases l <;> rfl
theorem strOf_size (l : List UInt8) : (strOf l).size = l.length := by simp [strOf, ByteArray.size]
theorem strOf_toL (l : List UInt8) : (strOf l).toList = l := by rw [toL]; simp [strOf]
theorem strOf_dat (l : List UInt8) : (strOf l).data.toList = l := by simp [strOf]
theorem rest_len (l : List UInt8) : (restL l).length ≤ l.length := by unfold restL; split <;> simp
set_option maxHeartbeats 1000000 in
theorem int_any (s : ByteArray) (hs : s.size ≤ 100000) (w : World) (ht : Laid5 w) :
    Calls Tryd.prog 34 #[.string s] w fun e w' => e = .returned (.tuple #[.int .i64 (intN s.data.toList), .int .i64 (intE s.data.toList)]) ∧ Below w.heap.size w w' := by
  have hC := fun w => Tryd.strings_CutPrefix s ⟨#[45]⟩ w
  obtain ⟨e1, e2⟩ := cut_minus s.data.toList
  have hC2 : ∀ w, Calls Tryd.prog 57 #[.string s, .string ⟨#[45]⟩] w fun e w' => e = .returned (.tuple #[.string (strOf (restL s.data.toList)), .bool (minB s.data.toList)]) ∧ w' = w := fun w => by
    have := hC w
    rw [show (⟨#[45]⟩ : ByteArray).data.toList = [45] from rfl, e1, e2] at this
    exact this
  clear hC e1 e2
  have hsz : (strOf (restL s.data.toList)).size ≤ 100000 := by
    rw [strOf_size]
    have := rest_len s.data.toList
    rw [bytes_size] at this
    omega
  have hD := fun t ht w => isDigits_is (strOf (restL s.data.toList)) t ht hsz w
  rw [strOf_dat] at hD
  have hDl := strOf_toL (restL s.data.toList)
  obtain ⟨D, hDe⟩ : ∃ D, D = strOf (restL s.data.toList) := ⟨_, rfl⟩
  rw [← hDe] at hC2 hD hDl hsz
  clear hDe
  have hform := parseI_form (l := s.data.toList)
  have hPo := fun v h w => parseInt_ok s hs v h w
  have hPr := fun h w ht => parseInt_range s hs h w ht
  have eN : intN s.data.toList = if formB s.data.toList = true then numI (valV s.data.toList) else 0 := rfl
  have eE : intE s.data.toList = if formB s.data.toList = true then (if okI (valV s.data.toList) = true then 0 else 2) else 3 := rfl
  have eF : formB s.data.toList = (digB (restL s.data.toList) && !(minB s.data.toList && (restL s.data.toList == [48]))) := rfl
  rw [eN, eE]
  clear eN eE
  generalize restL s.data.toList = R at *
  generalize minB s.data.toList = m at *
  generalize formB s.data.toList = F at *
  generalize valV s.data.toList = V at *
  cases hd : digB R
  · rw [hd] at eF
    have hF : F = false := by rw [eF]; rfl
    subst hF
    have hd' := fun w => hD false hd w
    clear hD hd hform hPo hPr eF hDl
    go_enter Tryd.func34, Tryd.ntmps34
    go_wp2_with (first | (go_at_call 57; refine (hC2 _).mono ?_; rintro e w' ⟨rfl, rfl⟩) | (go_at_call 58; refine (hd' _).mono ?_; rintro e w' ⟨rfl, hb1⟩))
    go_ret2
    exact ⟨rfl, hb1⟩
  · have hd' := fun w => hD true hd w
    rw [hd, Bool.true_and] at eF
    cases F with
    | false =>
      have hm : m = true := by cases m; simp at eF; rfl
      subst hm
      have hR : R = [48] := by simpa using eF
      rw [hR] at hDl
      clear hD hd hform hPo hPr eF hR
      go_enter Tryd.func34, Tryd.ntmps34
      go_wp2_with (first | (go_at_call 57; refine (hC2 _).mono ?_; rintro e w' ⟨rfl, rfl⟩) | (go_at_call 58; refine (hd' _).mono ?_; rintro e w' ⟨rfl, hb1⟩))
      go_ret2
      exact ⟨rfl, hb1⟩
    | true =>
      have hp := hform rfl
      cases ho : okI V
      · rw [ho] at hp
        rw [numI_no ho]
        have hP := fun w ht => hPr hp w ht
        clear hform hPo hPr hp hd hD
        obtain ⟨sat, hsat⟩ : ∃ x, x = Lib.intSat 64 s.data.toList := ⟨_, rfl⟩
        rw [← hsat] at hP
        clear hsat
        cases m
        · clear eF hDl
          go_enter Tryd.func34, Tryd.ntmps34
          go_wp2_with (first | (go_at_call 57; refine (hC2 _).mono ?_; rintro e w' ⟨rfl, rfl⟩) | (go_at_call 58; refine (hd' _).mono ?_; rintro e w' ⟨rfl, hb1⟩) | (go_at_call 59; refine (hP _ (ht.below hb1)).mono ?_; rintro e w' ⟨t, p, rfl, hb2⟩))
          go_ret2
          exact ⟨rfl, bstep hb1 hb2⟩
        · have hR : (R == [48]) = false := by simpa using eF
          rw [← hDl] at hR
          have hR2 : ¬ D.toList = [48] := by rw [beq_eq_false_iff_ne] at hR; exact hR
          clear eF hDl
          go_enter Tryd.func34, Tryd.ntmps34
          go_wp2_with (first | (go_at_call 57; refine (hC2 _).mono ?_; rintro e w' ⟨rfl, rfl⟩) | (go_at_call 58; refine (hd' _).mono ?_; rintro e w' ⟨rfl, hb1⟩) | (go_at_call 59; refine (hP _ (ht.below hb1)).mono ?_; rintro e w' ⟨t, p, rfl, hb2⟩))
          go_ret2
          exact ⟨rfl, bstep hb1 hb2⟩
      · rw [ho] at hp
        have hP := fun w => hPo V hp w
        rw [numI_ok ho]
        clear hform hPo hPr hp hd hD ho
        cases m
        · clear eF hDl
          go_enter Tryd.func34, Tryd.ntmps34
          go_wp2_with (first | (go_at_call 57; refine (hC2 _).mono ?_; rintro e w' ⟨rfl, rfl⟩) | (go_at_call 58; refine (hd' _).mono ?_; rintro e w' ⟨rfl, hb1⟩) | (go_at_call 59; refine (hP _).mono ?_; rintro e w' ⟨rfl, hb2⟩))
          go_ret2
          exact ⟨rfl, bstep hb1 hb2⟩
        · have hR : (R == [48]) = false := by simpa using eF
          rw [← hDl] at hR
          have hR2 : ¬ D.toList = [48] := by rw [beq_eq_false_iff_ne] at hR; exact hR
          clear eF hDl
          go_enter Tryd.func34, Tryd.ntmps34
          go_wp2_with (first | (go_at_call 57; refine (hC2 _).mono ?_; rintro e w' ⟨rfl, rfl⟩) | (go_at_call 58; refine (hd' _).mono ?_; rintro e w' ⟨rfl, hb1⟩) | (go_at_call 59; refine (hP _).mono ?_; rintro e w' ⟨rfl, hb2⟩))
          go_ret2
          exact ⟨rfl, bstep hb1 hb2⟩
set_option maxHeartbeats 1000000 in
theorem nat_any (s : ByteArray) (most : Nat) (hm : most < 18446744073709551616) (hs : s.size ≤ 100000) (w : World) (ht : Laid5 w) :
    Calls Tryd.prog 36 #[.string s, .int .u64 (most : Int)] w fun e w' => e = .returned (.tuple #[.int .u64 (natN s.data.toList most : Int), .int .i64 (natE s.data.toList most)]) ∧ Below w.heap.size w w' := by
  have hD := fun t ht w => isDigits_is s t ht hs w
  have hPo := fun v h w => parseUint_ok s hs v h w
  have hPr := fun h w ht => parseUint_range s hs h w ht
  have hform := parseU_dig (l := s.data.toList)
  have eN : natN s.data.toList most = if digB s.data.toList = true ∧ decN 0 s.data.toList ≤ most then decN 0 s.data.toList else 0 := rfl
  have eE : natE s.data.toList most = if digB s.data.toList = true then (if decN 0 s.data.toList ≤ most then 0 else 2) else 3 := rfl
  rw [eN, eE]
  clear eN eE
  cases hd : digB s.data.toList
  · have hd' := fun w => hD false hd w
    rw [if_neg (fun h => Bool.noConfusion h.1), if_neg (by decide)]
    clear hD hPo hPr hform hd
    go_enter Tryd.func36, Tryd.ntmps36
    go_wp2_with (go_at_call 58; refine (hd' _).mono ?_; rintro e w' ⟨rfl, hb1⟩)
    go_ret2
    exact ⟨rfl, hb1⟩
  · have hd' := fun w => hD true hd w
    have hp := hform hd
    generalize decN 0 s.data.toList = n at *
    by_cases h1 : n ≤ 18446744073709551615
    · rw [if_pos h1] at hp
      have hP := fun w => hPo n hp w
      clear hD hPo hPr hform hd hp
      by_cases h2 : n ≤ most
      · rw [if_pos h2, if_pos ⟨rfl, h2⟩, if_pos rfl]
        have h3 : ¬ (most : Int) < (n : Int) := by omega
        go_enter Tryd.func36, Tryd.ntmps36
        go_wp2_with (first | (go_at_call 58; refine (hd' _).mono ?_; rintro e w' ⟨rfl, hb1⟩) | (go_at_call 61; refine (hP _).mono ?_; rintro e w' ⟨rfl, hb2⟩))
        go_ret2
        exact ⟨rfl, bstep hb1 hb2⟩
      · rw [if_neg h2, if_neg (fun h => h2 h.2), if_pos rfl]
        have h3 : (most : Int) < (n : Int) := by omega
        go_enter Tryd.func36, Tryd.ntmps36
        go_wp2_with (first | (go_at_call 58; refine (hd' _).mono ?_; rintro e w' ⟨rfl, hb1⟩) | (go_at_call 61; refine (hP _).mono ?_; rintro e w' ⟨rfl, hb2⟩))
        go_ret2
        exact ⟨rfl, bstep hb1 hb2⟩
    · rw [if_neg h1] at hp
      have hP := fun w ht => hPr hp w ht
      clear hD hPo hPr hform hd hp
      rw [if_neg (fun h => h1 (by omega)), if_pos rfl, if_neg (fun h => h1 (by omega))]
      go_enter Tryd.func36, Tryd.ntmps36
      go_wp2_with (first | (go_at_call 58; refine (hd' _).mono ?_; rintro e w' ⟨rfl, hb1⟩) | (go_at_call 61; refine (hP _ (ht.below hb1)).mono ?_; rintro e w' ⟨t, p, rfl, hb2⟩))
      go_ret2
      exact ⟨rfl, bstep hb1 hb2⟩
end Go.Proofs.YtlembnpplnbagaaDoor
