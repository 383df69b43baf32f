/- Package ast: texts of queries. -/
import Derived.Test.YtmfcjaoajanlfaaGreatDoorAstX
namespace Go.Proofs.YtmfcjaoajanlfaaGreatDoor
open Go.RowKit Go.Shelf
open A8 Tk7

def inC (x : Int) : List Value := [.int .i64 x]
theorem inC_len (x : Int) : (inC x).length = 1 := rfl
theorem sepL_snoc (s : List UInt8) : ∀ (xs : List (List UInt8)) (y : List UInt8), sepL s (xs ++ [y]) = if xs = [] then y else sepL s xs ++ s ++ y
  | [], y => rfl
  | [x], y => rfl
  | x :: z :: r, y => by
    have ih := sepL_snoc s (z :: r) y
    rw [if_neg (by simp)] at ih ⊢
    show x ++ s ++ sepL s ((z :: r) ++ [y]) = x ++ s ++ sepL s (z :: r) ++ s ++ y
    rw [ih]
    simp only [List.append_assoc]
theorem sepL_take (s : List UInt8) (xs : List (List UInt8)) (k : Nat) (h : k < xs.length) : sepL s (xs.take (k + 1)) = if k = 0 then xs[k] else sepL s (xs.take k) ++ s ++ xs[k] := by
  rw [take_snoc xs k h, sepL_snoc]
  by_cases hk : k = 0
  · subst hk; rfl
  · rw [if_neg hk, if_neg]
    intro e
    have := congrArg List.length e
    rw [List.length_take, List.length_nil] at this
    omega
theorem sepL_take_le (s : List UInt8) (xs : List (List UInt8)) : ∀ k, (sepL s (xs.take k)).length ≤ (sepL s xs).length := by
  intro k
  by_cases hk : k < xs.length
  · have step : ∀ j, j < xs.length → (sepL s (xs.take j)).length ≤ (sepL s (xs.take (j + 1))).length := fun j hj => by
      rw [sepL_take s xs j hj]
      by_cases h0 : j = 0
      · subst h0; simp [sepL]
      · rw [if_neg h0]; simp only [List.length_append]; omega
    have all : ∀ d, k + d ≤ xs.length → (sepL s (xs.take k)).length ≤ (sepL s (xs.take (k + d))).length := fun d => by
      induction d with
      | zero => intro _; exact Nat.le_refl _
      | succ d ih => intro h; exact Nat.le_trans (ih (by omega)) (step (k + d) (by omega))
    have := all (xs.length - k) (by omega)
    rw [show k + (xs.length - k) = xs.length by omega, List.take_length] at this
    exact this
  · rw [List.take_of_length_le (by omega)]
    exact Nat.le_refl _
set_option maxRecDepth 100000 in
set_option maxHeartbeats 8000000 in
theorem writeListCond_any (n0 b : Nat) (Inv : World → Prop) (l bef btw aft : List UInt8) (sB sS sA : ByteArray) (hsB : sB = strOf bef) (hsS : sS = strOf btw) (hsA : sA = strOf aft) (v : Value) (items : List Cn) (txt : Cn → List UInt8) (w : World)
    (hI : Inv w) (hIk : ∀ w1 w2, Inv w1 → Kept n0 b w1 w2 → Inv w2) (hel : ∀ w1, Inv w1 → Sl w1 2 items.length v (items.flatMap cnC))
    (hwr : ∀ x ∈ items, ∀ acc w1, Inv w1 → Wt n0 b acc w1 → acc.length + (txt x).length ≤ 1000000 → Calls Tryz.prog 78 #[.pointer (some ⟨b, 0, none⟩), .agg (cnC x).toArray] w1 (WrP n0 b acc (txt x) w1))
    (hW : Wt n0 b l w) (hl : l.length + (listT bef (items.map txt) btw aft).length ≤ 1000000) :
    Calls Tryz.prog 89 #[.pointer (some ⟨b, 0, none⟩), .string sB, v, .string sS, .string sA, .func (.func 78) #[.pointer (some ⟨b, 0, none⟩)] #[]] w (WrP n0 b l (listT bef (items.map txt) btw aft) w) := by
  obtain ⟨A, cap, rfl, hm, -⟩ := sl_els (by decide) cnC_len (hel w hI)
  by_cases h0 : items.length = 0
  · have hi : items = [] := List.eq_nil_of_length_eq_zero h0
    subst hi
    have fin : WrP n0 b l (listT bef (([] : List Cn).map txt) btw aft) w (.returned (.tuple #[])) w := ⟨rfl, by simpa [listT] using hW, Kept.refl _ _ _⟩
    clear hel hwr hW hl hIk hI
    go_enter Tryz.func89, Tryz.ntmps89
    go_wp2
    go_end0
    exact fin
  · have hlt_eq : listT bef (items.map txt) btw aft = bef ++ sepL btw (items.map txt) ++ aft := by
      unfold listT
      rw [if_neg]
      simp only [List.isEmpty_iff, List.map_eq_nil_iff]
      exact fun e => h0 (by rw [e]; rfl)
    rw [hlt_eq] at hl ⊢
    simp only [List.length_append] at hl
    have hne : ((items.length : Int) == 0) = false := by rw [beq_eq_false_iff_ne]; omega
    have hH := writeLit_any n0 b l bef sB hsB w hW (by omega) (wt_le hW)
    have hLast := fun w1 (h : Wt n0 b (l ++ bef ++ sepL btw (items.map txt)) w1) => writeLit_any n0 b _ aft sA hsA w1 h (by simp only [List.length_append]; omega) (wt_le h)
    have HE := Lib.hid hel
    have HI := Lib.hid hI
    have HQ := Lib.hid hwr
    have HL := Lib.hid hLast
    have hn00 := wt_le hW
    have HSS := Lib.hid hsS
    clear hel hwr hW hsB hsS hsA hlt_eq hI hLast
    go_enter Tryz.func89, Tryz.ntmps89
    go_wp2_with (go_at_call 52; refine hH.mono ?_; rintro e w1 ⟨rfl, hW1, hk1⟩)
    go_loopg [24] items.length (fun g iv wr => ∃ k : Nat, k ≤ items.length ∧ g = items.length - k ∧ iv = .int .i64 (k : Int) ∧ Hid (Wt n0 b (l ++ bef ++ sepL btw ((items.map txt).take k)) wr) ∧ Hid (Kept n0 b w wr))
    case atStart => exact ⟨0, Nat.zero_le _, rfl, rfl, Lib.hid (by simpa [sepL] using hW1), Lib.hid hk1⟩
    case round =>
      clear hH hk1 hW1
      obtain ⟨k, hk, hg, rfl, hWr, hkr⟩ := hrel
      by_cases hlt : k < items.length
      · have hIr := hIk _ _ HI.out hkr.out
        obtain ⟨A', cap', hAA, -, hels⟩ := sl_els (by decide) cnC_len (HE.out wr hIr)
        obtain ⟨a, hAe, ha, E⟩ := hels k hlt
        injection hAA with hA1 hA2 hA3
        subst hA1
        subst hAe
        clear hels hA2 hA3
        have hsep := sepL_take btw (items.map txt) k (by simpa using hlt)
        have hlen2 := sepL_take_le btw (items.map txt) (k + 1)
        have hn0 := wt_le hWr.out
        obtain ⟨x, hx⟩ : ∃ x, x = items[k] := ⟨_, rfl⟩
        have hxm : (items.map txt)[k]'(by simpa using hlt) = txt x := by simp [hx]
        rw [hxm] at hsep
        have hq := fun acc w1 (h1 : Inv w1) (h2 : Wt n0 b acc w1) (h3 : acc.length + (txt x).length ≤ 1000000) => HQ.out x (hx ▸ List.getElem_mem hlt) acc w1 h1 h2 h3
        rw [← hx] at E
        obtain ⟨u, hu⟩ : ∃ u, u = txt x := ⟨_, rfl⟩
        rw [← hu] at hq hsep
        obtain ⟨acc, hacc⟩ : ∃ acc, acc = l ++ bef ++ sepL btw ((items.map txt).take k) := ⟨_, rfl⟩
        rw [← hacc] at hWr
        have h1 : (k : Int) < (items.length : Int) := by omega
        have hwk : IntKind.i64.wrap ((k : Int) + 1) = (k : Int) + 1 := IntWalk.i64_in _ ⟨by omega, by omega⟩
        clear hxm hu
        simp only [cnC] at E hq
        unfold WrP at hq
        have c0 := E.at0 _ rfl
        have c1 := E.at1 1 _ (by decide) rfl
        clear E
        by_cases hk0 : k = 0
        · have hk00 : ¬ (0 : Int) < (k : Int) := by omega
          rw [if_pos hk0] at hsep
          have hz : (items.map txt).take k = [] := by rw [hk0]; rfl
          have hfit : acc.length + u.length ≤ 1000000 := by rw [hacc, hz]; rw [hsep] at hlen2; simp [sepL] at hlen2 ⊢; omega
          have hfin : ∀ w2, Wt n0 b (acc ++ u) w2 → Wt n0 b (l ++ bef ++ sepL btw ((items.map txt).take (k + 1))) w2 := fun w2 h => by rw [hsep, ← show acc = l ++ bef by rw [hacc, hz]; simp [sepL]]; exact h
          have hq1 := hq acc (wr.alloc (.cells #[.int .i64 x.op, .int .i64 x.va] 59)) (hIk _ _ hIr (Kept.of (b1 wr (.cells #[.int .i64 x.op, .int .i64 x.va] 59)) hn0)) (hWr.out.later (b1 wr (.cells #[.int .i64 x.op, .int .i64 x.va] 59))) hfit
          have hkf : ∀ w2, Kept n0 b (wr.alloc (.cells #[.int .i64 x.op, .int .i64 x.va] 59)) w2 → Kept n0 b w w2 := fun w2 h => hkr.out.trans ((Kept.of (b1 wr (.cells #[.int .i64 x.op, .int .i64 x.va] 59)) hn0).trans h)
          clear hq hsep hlen2 hacc hx hk0 hz
          go_wp2_with (go_at_call 78; refine hq1.mono ?_; rintro e w2 ⟨rfl, hW2, hk2⟩)
          go_roundg (items.length - (k + 1))
          case rel => exact ⟨k + 1, by omega, rfl, by go_num, Lib.hid (hfin _ hW2), Lib.hid (hkf _ hk2)⟩
          case measure => omega
        · have hk00 : (0 : Int) < (k : Int) := by omega
          rw [if_neg hk0] at hsep
          have hfit : acc.length + btw.length + u.length ≤ 1000000 := by rw [hacc]; rw [hsep] at hlen2; simp only [List.length_append] at hlen2 ⊢; omega
          have hfin : ∀ w2, Wt n0 b (acc ++ btw ++ u) w2 → Wt n0 b (l ++ bef ++ sepL btw ((items.map txt).take (k + 1))) w2 := fun w2 h => by rw [hsep]; rw [hacc] at h; simpa only [List.append_assoc] using h
          have hs1 := writeLit_any n0 b acc btw sS HSS.out (wr.alloc (.cells #[.int .i64 x.op, .int .i64 x.va] 59)) (hWr.out.later (b1 wr (.cells #[.int .i64 x.op, .int .i64 x.va] 59))) (by omega) (Nat.le_trans hn0 (by simp))
          have hq1 := fun w1 (hk : Kept n0 b (wr.alloc (.cells #[.int .i64 x.op, .int .i64 x.va] 59)) w1) (h : Wt n0 b (acc ++ btw) w1) => hq (acc ++ btw) w1 (hIk _ _ (hIk _ _ hIr (Kept.of (b1 wr (.cells #[.int .i64 x.op, .int .i64 x.va] 59)) hn0)) hk) h (by rw [List.length_append]; omega)
          have hkf : ∀ w1 w2, Kept n0 b (wr.alloc (.cells #[.int .i64 x.op, .int .i64 x.va] 59)) w1 → Kept n0 b w1 w2 → Kept n0 b w w2 := fun w1 w2 h h2 => hkr.out.trans (((Kept.of (b1 wr (.cells #[.int .i64 x.op, .int .i64 x.va] 59)) hn0).trans h).trans h2)
          have hBx : Bx (wr.alloc (.cells #[.int .i64 x.op, .int .i64 x.va] 59)) wr.heap.size 59 [.int .i64 x.op, .int .i64 x.va] := Bx.new wr [.int .i64 x.op, .int .i64 x.va] 59
          have hbl : wr.heap.size ≠ b := by have := wt_lt hWr.out; omega
          have hcell : ∀ w1, Kept n0 b (wr.alloc (.cells #[.int .i64 x.op, .int .i64 x.va] 59)) w1 → Blk w1 wr.heap.size [.int .i64 x.op, .int .i64 x.va] := fun w1 hk => (hBx.kept hk hbl (by decide)).blk
          clear hq hsep hlen2 hacc hx hk0 hBx hbl
          go_wp2_with (first | (go_at_call 52; refine hs1.mono ?_; rintro e w1 ⟨rfl, hW1, hk1⟩; have HX := hcell _ hk1; have d0 := HX.cell 0 _ rfl; have d1 := HX.cell 1 _ rfl; clear HX) | (go_at_call 78; refine (hq1 _ hk1 hW1).mono ?_; rintro e w2 ⟨rfl, hW2, hk2⟩))
          go_roundg (items.length - (k + 1))
          case rel => exact ⟨k + 1, by omega, rfl, by go_num, Lib.hid (hfin _ hW2), Lib.hid (hkf _ _ hk1 hk2)⟩
          case measure => omega
      · have h1 : ¬ (k : Int) < (items.length : Int) := by omega
        have hall : (items.map txt).take k = items.map txt := List.take_of_length_le (by simp; omega)
        rw [hall] at hWr
        have hLL := HL.out wr hWr.out
        have fin : ∀ w2, Wt n0 b (l ++ bef ++ sepL btw (items.map txt) ++ aft) w2 → Kept n0 b wr w2 → WrP n0 b l (bef ++ sepL btw (items.map txt) ++ aft) w (.returned (.tuple #[])) w2 := fun w2 h1 h2 => ⟨rfl, by simpa only [List.append_assoc] using h1, hkr.out.trans h2⟩
        clear hall HE HQ HL HI
        go_wp2_with (go_at_call 52; refine hLL.mono ?_; rintro e w2 ⟨rfl, hW2, hk2⟩)
        go_end0
        exact fin _ hW2 hk2
set_option maxRecDepth 100000 in
set_option maxHeartbeats 8000000 in
theorem writeListAgg_any (n0 b : Nat) (Inv : World → Prop) (l bef btw aft : List UInt8) (sB sS sA : ByteArray) (hsB : sB = strOf bef) (hsS : sS = strOf btw) (hsA : sA = strOf aft) (v : Value) (items : List Ag) (txt : Ag → List UInt8) (w : World)
    (hI : Inv w) (hIk : ∀ w1 w2, Inv w1 → Kept n0 b w1 w2 → Inv w2) (hel : ∀ w1, Inv w1 → Sl w1 2 items.length v (items.flatMap agC))
    (hwr : ∀ x ∈ items, ∀ acc w1, Inv w1 → Wt n0 b acc w1 → acc.length + (txt x).length ≤ 1000000 → Calls Tryz.prog 57 #[.pointer (some ⟨b, 0, none⟩), .agg (agC x).toArray] w1 (WrP n0 b acc (txt x) w1))
    (hW : Wt n0 b l w) (hl : l.length + (listT bef (items.map txt) btw aft).length ≤ 1000000) :
    Calls Tryz.prog 56 #[.pointer (some ⟨b, 0, none⟩), .string sB, v, .string sS, .string sA, .func (.func 57) #[.pointer (some ⟨b, 0, none⟩)] #[]] w (WrP n0 b l (listT bef (items.map txt) btw aft) w) := by
  obtain ⟨A, cap, rfl, hm, -⟩ := sl_els (by decide) agC_len (hel w hI)
  by_cases h0 : items.length = 0
  · have hi : items = [] := List.eq_nil_of_length_eq_zero h0
    subst hi
    have fin : WrP n0 b l (listT bef (([] : List Ag).map txt) btw aft) w (.returned (.tuple #[])) w := ⟨rfl, by simpa [listT] using hW, Kept.refl _ _ _⟩
    clear hel hwr hW hl hIk hI
    go_enter Tryz.func56, Tryz.ntmps56
    go_wp2
    go_end0
    exact fin
  · have hlt_eq : listT bef (items.map txt) btw aft = bef ++ sepL btw (items.map txt) ++ aft := by
      unfold listT
      rw [if_neg]
      simp only [List.isEmpty_iff, List.map_eq_nil_iff]
      exact fun e => h0 (by rw [e]; rfl)
    rw [hlt_eq] at hl ⊢
    simp only [List.length_append] at hl
    have hne : ((items.length : Int) == 0) = false := by rw [beq_eq_false_iff_ne]; omega
    have hH := writeLit_any n0 b l bef sB hsB w hW (by omega) (wt_le hW)
    have hLast := fun w1 (h : Wt n0 b (l ++ bef ++ sepL btw (items.map txt)) w1) => writeLit_any n0 b _ aft sA hsA w1 h (by simp only [List.length_append]; omega) (wt_le h)
    have HE := Lib.hid hel
    have HI := Lib.hid hI
    have HQ := Lib.hid hwr
    have HL := Lib.hid hLast
    have hn00 := wt_le hW
    have HSS := Lib.hid hsS
    clear hel hwr hW hsB hsS hsA hlt_eq hI hLast
    go_enter Tryz.func56, Tryz.ntmps56
    go_wp2_with (go_at_call 52; refine hH.mono ?_; rintro e w1 ⟨rfl, hW1, hk1⟩)
    go_loopg [24] items.length (fun g iv wr => ∃ k : Nat, k ≤ items.length ∧ g = items.length - k ∧ iv = .int .i64 (k : Int) ∧ Hid (Wt n0 b (l ++ bef ++ sepL btw ((items.map txt).take k)) wr) ∧ Hid (Kept n0 b w wr))
    case atStart => exact ⟨0, Nat.zero_le _, rfl, rfl, Lib.hid (by simpa [sepL] using hW1), Lib.hid hk1⟩
    case round =>
      clear hH hk1 hW1
      obtain ⟨k, hk, hg, rfl, hWr, hkr⟩ := hrel
      by_cases hlt : k < items.length
      · have hIr := hIk _ _ HI.out hkr.out
        obtain ⟨A', cap', hAA, -, hels⟩ := sl_els (by decide) agC_len (HE.out wr hIr)
        obtain ⟨a, hAe, ha, E⟩ := hels k hlt
        injection hAA with hA1 hA2 hA3
        subst hA1
        subst hAe
        clear hels hA2 hA3
        have hsep := sepL_take btw (items.map txt) k (by simpa using hlt)
        have hlen2 := sepL_take_le btw (items.map txt) (k + 1)
        have hn0 := wt_le hWr.out
        obtain ⟨x, hx⟩ : ∃ x, x = items[k] := ⟨_, rfl⟩
        have hxm : (items.map txt)[k]'(by simpa using hlt) = txt x := by simp [hx]
        rw [hxm] at hsep
        have hq := fun acc w1 (h1 : Inv w1) (h2 : Wt n0 b acc w1) (h3 : acc.length + (txt x).length ≤ 1000000) => HQ.out x (hx ▸ List.getElem_mem hlt) acc w1 h1 h2 h3
        rw [← hx] at E
        obtain ⟨u, hu⟩ : ∃ u, u = txt x := ⟨_, rfl⟩
        rw [← hu] at hq hsep
        obtain ⟨acc, hacc⟩ : ∃ acc, acc = l ++ bef ++ sepL btw ((items.map txt).take k) := ⟨_, rfl⟩
        rw [← hacc] at hWr
        have h1 : (k : Int) < (items.length : Int) := by omega
        have hwk : IntKind.i64.wrap ((k : Int) + 1) = (k : Int) + 1 := IntWalk.i64_in _ ⟨by omega, by omega⟩
        clear hxm hu
        simp only [agC] at E hq
        unfold WrP at hq
        have c0 := E.at0 _ rfl
        have c1 := E.at1 1 _ (by decide) rfl
        clear E
        by_cases hk0 : k = 0
        · have hk00 : ¬ (0 : Int) < (k : Int) := by omega
          rw [if_pos hk0] at hsep
          have hz : (items.map txt).take k = [] := by rw [hk0]; rfl
          have hfit : acc.length + u.length ≤ 1000000 := by rw [hacc, hz]; rw [hsep] at hlen2; simp [sepL] at hlen2 ⊢; omega
          have hfin : ∀ w2, Wt n0 b (acc ++ u) w2 → Wt n0 b (l ++ bef ++ sepL btw ((items.map txt).take (k + 1))) w2 := fun w2 h => by rw [hsep, ← show acc = l ++ bef by rw [hacc, hz]; simp [sepL]]; exact h
          have hq1 := hq acc (wr.alloc (.cells #[.int .i64 x.fn, .string (strOf x.nm)] 55)) (hIk _ _ hIr (Kept.of (b1 wr (.cells #[.int .i64 x.fn, .string (strOf x.nm)] 55)) hn0)) (hWr.out.later (b1 wr (.cells #[.int .i64 x.fn, .string (strOf x.nm)] 55))) hfit
          have hkf : ∀ w2, Kept n0 b (wr.alloc (.cells #[.int .i64 x.fn, .string (strOf x.nm)] 55)) w2 → Kept n0 b w w2 := fun w2 h => hkr.out.trans ((Kept.of (b1 wr (.cells #[.int .i64 x.fn, .string (strOf x.nm)] 55)) hn0).trans h)
          clear hq hsep hlen2 hacc hx hk0 hz
          go_wp2_with (go_at_call 57; refine hq1.mono ?_; rintro e w2 ⟨rfl, hW2, hk2⟩)
          go_roundg (items.length - (k + 1))
          case rel => exact ⟨k + 1, by omega, rfl, by go_num, Lib.hid (hfin _ hW2), Lib.hid (hkf _ hk2)⟩
          case measure => omega
        · have hk00 : (0 : Int) < (k : Int) := by omega
          rw [if_neg hk0] at hsep
          have hfit : acc.length + btw.length + u.length ≤ 1000000 := by rw [hacc]; rw [hsep] at hlen2; simp only [List.length_append] at hlen2 ⊢; omega
          have hfin : ∀ w2, Wt n0 b (acc ++ btw ++ u) w2 → Wt n0 b (l ++ bef ++ sepL btw ((items.map txt).take (k + 1))) w2 := fun w2 h => by rw [hsep]; rw [hacc] at h; simpa only [List.append_assoc] using h
          have hs1 := writeLit_any n0 b acc btw sS HSS.out (wr.alloc (.cells #[.int .i64 x.fn, .string (strOf x.nm)] 55)) (hWr.out.later (b1 wr (.cells #[.int .i64 x.fn, .string (strOf x.nm)] 55))) (by omega) (Nat.le_trans hn0 (by simp))
          have hq1 := fun w1 (hk : Kept n0 b (wr.alloc (.cells #[.int .i64 x.fn, .string (strOf x.nm)] 55)) w1) (h : Wt n0 b (acc ++ btw) w1) => hq (acc ++ btw) w1 (hIk _ _ (hIk _ _ hIr (Kept.of (b1 wr (.cells #[.int .i64 x.fn, .string (strOf x.nm)] 55)) hn0)) hk) h (by rw [List.length_append]; omega)
          have hkf : ∀ w1 w2, Kept n0 b (wr.alloc (.cells #[.int .i64 x.fn, .string (strOf x.nm)] 55)) w1 → Kept n0 b w1 w2 → Kept n0 b w w2 := fun w1 w2 h h2 => hkr.out.trans (((Kept.of (b1 wr (.cells #[.int .i64 x.fn, .string (strOf x.nm)] 55)) hn0).trans h).trans h2)
          have hBx : Bx (wr.alloc (.cells #[.int .i64 x.fn, .string (strOf x.nm)] 55)) wr.heap.size 55 [.int .i64 x.fn, .string (strOf x.nm)] := Bx.new wr [.int .i64 x.fn, .string (strOf x.nm)] 55
          have hbl : wr.heap.size ≠ b := by have := wt_lt hWr.out; omega
          have hcell : ∀ w1, Kept n0 b (wr.alloc (.cells #[.int .i64 x.fn, .string (strOf x.nm)] 55)) w1 → Blk w1 wr.heap.size [.int .i64 x.fn, .string (strOf x.nm)] := fun w1 hk => (hBx.kept hk hbl (by decide)).blk
          clear hq hsep hlen2 hacc hx hk0 hBx hbl
          go_wp2_with (first | (go_at_call 52; refine hs1.mono ?_; rintro e w1 ⟨rfl, hW1, hk1⟩; have HX := hcell _ hk1; have d0 := HX.cell 0 _ rfl; have d1 := HX.cell 1 _ rfl; clear HX) | (go_at_call 57; refine (hq1 _ hk1 hW1).mono ?_; rintro e w2 ⟨rfl, hW2, hk2⟩))
          go_roundg (items.length - (k + 1))
          case rel => exact ⟨k + 1, by omega, rfl, by go_num, Lib.hid (hfin _ hW2), Lib.hid (hkf _ _ hk1 hk2)⟩
          case measure => omega
      · have h1 : ¬ (k : Int) < (items.length : Int) := by omega
        have hall : (items.map txt).take k = items.map txt := List.take_of_length_le (by simp; omega)
        rw [hall] at hWr
        have hLL := HL.out wr hWr.out
        have fin : ∀ w2, Wt n0 b (l ++ bef ++ sepL btw (items.map txt) ++ aft) w2 → Kept n0 b wr w2 → WrP n0 b l (bef ++ sepL btw (items.map txt) ++ aft) w (.returned (.tuple #[])) w2 := fun w2 h1 h2 => ⟨rfl, by simpa only [List.append_assoc] using h1, hkr.out.trans h2⟩
        clear hall HE HQ HL HI
        go_wp2_with (go_at_call 52; refine hLL.mono ?_; rintro e w2 ⟨rfl, hW2, hk2⟩)
        go_end0
        exact fin _ hW2 hk2
set_option maxRecDepth 100000 in
set_option maxHeartbeats 8000000 in
theorem writeListHave_any (n0 b : Nat) (Inv : World → Prop) (l bef btw aft : List UInt8) (sB sS sA : ByteArray) (hsB : sB = strOf bef) (hsS : sS = strOf btw) (hsA : sA = strOf aft) (v : Value) (items : List Hv) (txt : Hv → List UInt8) (w : World)
    (hI : Inv w) (hIk : ∀ w1 w2, Inv w1 → Kept n0 b w1 w2 → Inv w2) (hel : ∀ w1, Inv w1 → Sl w1 4 items.length v (items.flatMap hvC))
    (hwr : ∀ x ∈ items, ∀ acc w1, Inv w1 → Wt n0 b acc w1 → acc.length + (txt x).length ≤ 1000000 → Calls Tryz.prog 55 #[.pointer (some ⟨b, 0, none⟩), .agg (hvC x).toArray] w1 (WrP n0 b acc (txt x) w1))
    (hW : Wt n0 b l w) (hl : l.length + (listT bef (items.map txt) btw aft).length ≤ 1000000) :
    Calls Tryz.prog 54 #[.pointer (some ⟨b, 0, none⟩), .string sB, v, .string sS, .string sA, .func (.func 55) #[.pointer (some ⟨b, 0, none⟩)] #[]] w (WrP n0 b l (listT bef (items.map txt) btw aft) w) := by
  obtain ⟨A, cap, rfl, hm, -⟩ := sl_els (by decide) hvC_len (hel w hI)
  by_cases h0 : items.length = 0
  · have hi : items = [] := List.eq_nil_of_length_eq_zero h0
    subst hi
    have fin : WrP n0 b l (listT bef (([] : List Hv).map txt) btw aft) w (.returned (.tuple #[])) w := ⟨rfl, by simpa [listT] using hW, Kept.refl _ _ _⟩
    clear hel hwr hW hl hIk hI
    go_enter Tryz.func54, Tryz.ntmps54
    go_wp2
    go_end0
    exact fin
  · have hlt_eq : listT bef (items.map txt) btw aft = bef ++ sepL btw (items.map txt) ++ aft := by
      unfold listT
      rw [if_neg]
      simp only [List.isEmpty_iff, List.map_eq_nil_iff]
      exact fun e => h0 (by rw [e]; rfl)
    rw [hlt_eq] at hl ⊢
    simp only [List.length_append] at hl
    have hne : ((items.length : Int) == 0) = false := by rw [beq_eq_false_iff_ne]; omega
    have hH := writeLit_any n0 b l bef sB hsB w hW (by omega) (wt_le hW)
    have hLast := fun w1 (h : Wt n0 b (l ++ bef ++ sepL btw (items.map txt)) w1) => writeLit_any n0 b _ aft sA hsA w1 h (by simp only [List.length_append]; omega) (wt_le h)
    have HE := Lib.hid hel
    have HI := Lib.hid hI
    have HQ := Lib.hid hwr
    have HL := Lib.hid hLast
    have hn00 := wt_le hW
    have HSS := Lib.hid hsS
    clear hel hwr hW hsB hsS hsA hlt_eq hI hLast
    go_enter Tryz.func54, Tryz.ntmps54
    go_wp2_with (go_at_call 52; refine hH.mono ?_; rintro e w1 ⟨rfl, hW1, hk1⟩)
    go_loopg [24] items.length (fun g iv wr => ∃ k : Nat, k ≤ items.length ∧ g = items.length - k ∧ iv = .int .i64 (k : Int) ∧ Hid (Wt n0 b (l ++ bef ++ sepL btw ((items.map txt).take k)) wr) ∧ Hid (Kept n0 b w wr))
    case atStart => exact ⟨0, Nat.zero_le _, rfl, rfl, Lib.hid (by simpa [sepL] using hW1), Lib.hid hk1⟩
    case round =>
      clear hH hk1 hW1
      obtain ⟨k, hk, hg, rfl, hWr, hkr⟩ := hrel
      by_cases hlt : k < items.length
      · have hIr := hIk _ _ HI.out hkr.out
        obtain ⟨A', cap', hAA, -, hels⟩ := sl_els (by decide) hvC_len (HE.out wr hIr)
        obtain ⟨a, hAe, ha, E⟩ := hels k hlt
        injection hAA with hA1 hA2 hA3
        subst hA1
        subst hAe
        clear hels hA2 hA3
        have hsep := sepL_take btw (items.map txt) k (by simpa using hlt)
        have hlen2 := sepL_take_le btw (items.map txt) (k + 1)
        have hn0 := wt_le hWr.out
        obtain ⟨x, hx⟩ : ∃ x, x = items[k] := ⟨_, rfl⟩
        have hxm : (items.map txt)[k]'(by simpa using hlt) = txt x := by simp [hx]
        rw [hxm] at hsep
        have hq := fun acc w1 (h1 : Inv w1) (h2 : Wt n0 b acc w1) (h3 : acc.length + (txt x).length ≤ 1000000) => HQ.out x (hx ▸ List.getElem_mem hlt) acc w1 h1 h2 h3
        rw [← hx] at E
        obtain ⟨u, hu⟩ : ∃ u, u = txt x := ⟨_, rfl⟩
        rw [← hu] at hq hsep
        obtain ⟨acc, hacc⟩ : ∃ acc, acc = l ++ bef ++ sepL btw ((items.map txt).take k) := ⟨_, rfl⟩
        rw [← hacc] at hWr
        have h1 : (k : Int) < (items.length : Int) := by omega
        have hwk : IntKind.i64.wrap ((k : Int) + 1) = (k : Int) + 1 := IntWalk.i64_in _ ⟨by omega, by omega⟩
        clear hxm hu
        simp only [hvC] at E hq
        unfold WrP at hq
        have c0 := E.at0 _ rfl
        have c1 := E.at1 1 _ (by decide) rfl
        have c2 := E.at1 2 _ (by decide) rfl
        have c3 := E.at1 3 _ (by decide) rfl
        clear E
        by_cases hk0 : k = 0
        · have hk00 : ¬ (0 : Int) < (k : Int) := by omega
          rw [if_pos hk0] at hsep
          have hz : (items.map txt).take k = [] := by rw [hk0]; rfl
          have hfit : acc.length + u.length ≤ 1000000 := by rw [hacc, hz]; rw [hsep] at hlen2; simp [sepL] at hlen2 ⊢; omega
          have hfin : ∀ w2, Wt n0 b (acc ++ u) w2 → Wt n0 b (l ++ bef ++ sepL btw ((items.map txt).take (k + 1))) w2 := fun w2 h => by rw [hsep, ← show acc = l ++ bef by rw [hacc, hz]; simp [sepL]]; exact h
          have hq1 := hq acc (wr.alloc (.cells #[.int .i64 x.ag.fn, .string (strOf x.ag.nm), .int .i64 x.cn.op, .int .i64 x.cn.va] 61)) (hIk _ _ hIr (Kept.of (b1 wr (.cells #[.int .i64 x.ag.fn, .string (strOf x.ag.nm), .int .i64 x.cn.op, .int .i64 x.cn.va] 61)) hn0)) (hWr.out.later (b1 wr (.cells #[.int .i64 x.ag.fn, .string (strOf x.ag.nm), .int .i64 x.cn.op, .int .i64 x.cn.va] 61))) hfit
          have hkf : ∀ w2, Kept n0 b (wr.alloc (.cells #[.int .i64 x.ag.fn, .string (strOf x.ag.nm), .int .i64 x.cn.op, .int .i64 x.cn.va] 61)) w2 → Kept n0 b w w2 := fun w2 h => hkr.out.trans ((Kept.of (b1 wr (.cells #[.int .i64 x.ag.fn, .string (strOf x.ag.nm), .int .i64 x.cn.op, .int .i64 x.cn.va] 61)) hn0).trans h)
          clear hq hsep hlen2 hacc hx hk0 hz
          go_wp2_with (go_at_call 55; refine hq1.mono ?_; rintro e w2 ⟨rfl, hW2, hk2⟩)
          go_roundg (items.length - (k + 1))
          case rel => exact ⟨k + 1, by omega, rfl, by go_num, Lib.hid (hfin _ hW2), Lib.hid (hkf _ hk2)⟩
          case measure => omega
        · have hk00 : (0 : Int) < (k : Int) := by omega
          rw [if_neg hk0] at hsep
          have hfit : acc.length + btw.length + u.length ≤ 1000000 := by rw [hacc]; rw [hsep] at hlen2; simp only [List.length_append] at hlen2 ⊢; omega
          have hfin : ∀ w2, Wt n0 b (acc ++ btw ++ u) w2 → Wt n0 b (l ++ bef ++ sepL btw ((items.map txt).take (k + 1))) w2 := fun w2 h => by rw [hsep]; rw [hacc] at h; simpa only [List.append_assoc] using h
          have hs1 := writeLit_any n0 b acc btw sS HSS.out (wr.alloc (.cells #[.int .i64 x.ag.fn, .string (strOf x.ag.nm), .int .i64 x.cn.op, .int .i64 x.cn.va] 61)) (hWr.out.later (b1 wr (.cells #[.int .i64 x.ag.fn, .string (strOf x.ag.nm), .int .i64 x.cn.op, .int .i64 x.cn.va] 61))) (by omega) (Nat.le_trans hn0 (by simp))
          have hq1 := fun w1 (hk : Kept n0 b (wr.alloc (.cells #[.int .i64 x.ag.fn, .string (strOf x.ag.nm), .int .i64 x.cn.op, .int .i64 x.cn.va] 61)) w1) (h : Wt n0 b (acc ++ btw) w1) => hq (acc ++ btw) w1 (hIk _ _ (hIk _ _ hIr (Kept.of (b1 wr (.cells #[.int .i64 x.ag.fn, .string (strOf x.ag.nm), .int .i64 x.cn.op, .int .i64 x.cn.va] 61)) hn0)) hk) h (by rw [List.length_append]; omega)
          have hkf : ∀ w1 w2, Kept n0 b (wr.alloc (.cells #[.int .i64 x.ag.fn, .string (strOf x.ag.nm), .int .i64 x.cn.op, .int .i64 x.cn.va] 61)) w1 → Kept n0 b w1 w2 → Kept n0 b w w2 := fun w1 w2 h h2 => hkr.out.trans (((Kept.of (b1 wr (.cells #[.int .i64 x.ag.fn, .string (strOf x.ag.nm), .int .i64 x.cn.op, .int .i64 x.cn.va] 61)) hn0).trans h).trans h2)
          have hBx : Bx (wr.alloc (.cells #[.int .i64 x.ag.fn, .string (strOf x.ag.nm), .int .i64 x.cn.op, .int .i64 x.cn.va] 61)) wr.heap.size 61 [.int .i64 x.ag.fn, .string (strOf x.ag.nm), .int .i64 x.cn.op, .int .i64 x.cn.va] := Bx.new wr [.int .i64 x.ag.fn, .string (strOf x.ag.nm), .int .i64 x.cn.op, .int .i64 x.cn.va] 61
          have hbl : wr.heap.size ≠ b := by have := wt_lt hWr.out; omega
          have hcell : ∀ w1, Kept n0 b (wr.alloc (.cells #[.int .i64 x.ag.fn, .string (strOf x.ag.nm), .int .i64 x.cn.op, .int .i64 x.cn.va] 61)) w1 → Blk w1 wr.heap.size [.int .i64 x.ag.fn, .string (strOf x.ag.nm), .int .i64 x.cn.op, .int .i64 x.cn.va] := fun w1 hk => (hBx.kept hk hbl (by decide)).blk
          clear hq hsep hlen2 hacc hx hk0 hBx hbl
          go_wp2_with (first | (go_at_call 52; refine hs1.mono ?_; rintro e w1 ⟨rfl, hW1, hk1⟩; have HX := hcell _ hk1; have d0 := HX.cell 0 _ rfl; have d1 := HX.cell 1 _ rfl; have d2 := HX.cell 2 _ rfl; have d3 := HX.cell 3 _ rfl; clear HX) | (go_at_call 55; refine (hq1 _ hk1 hW1).mono ?_; rintro e w2 ⟨rfl, hW2, hk2⟩))
          go_roundg (items.length - (k + 1))
          case rel => exact ⟨k + 1, by omega, rfl, by go_num, Lib.hid (hfin _ hW2), Lib.hid (hkf _ _ hk1 hk2)⟩
          case measure => omega
      · have h1 : ¬ (k : Int) < (items.length : Int) := by omega
        have hall : (items.map txt).take k = items.map txt := List.take_of_length_le (by simp; omega)
        rw [hall] at hWr
        have hLL := HL.out wr hWr.out
        have fin : ∀ w2, Wt n0 b (l ++ bef ++ sepL btw (items.map txt) ++ aft) w2 → Kept n0 b wr w2 → WrP n0 b l (bef ++ sepL btw (items.map txt) ++ aft) w (.returned (.tuple #[])) w2 := fun w2 h1 h2 => ⟨rfl, by simpa only [List.append_assoc] using h1, hkr.out.trans h2⟩
        clear hall HE HQ HL HI
        go_wp2_with (go_at_call 52; refine hLL.mono ?_; rintro e w2 ⟨rfl, hW2, hk2⟩)
        go_end0
        exact fin _ hW2 hk2
set_option maxRecDepth 100000 in
set_option maxHeartbeats 8000000 in
theorem writeListInt_any (n0 b : Nat) (p : Nat) (Inv : World → Prop) (l bef btw aft : List UInt8) (sB sS sA : ByteArray) (hsB : sB = strOf bef) (hsS : sS = strOf btw) (hsA : sA = strOf aft) (v : Value) (items : List Int) (txt : Int → List UInt8) (w : World)
    (hI : Inv w) (hIk : ∀ w1 w2, Inv w1 → Kept n0 b w1 w2 → Inv w2) (hel : ∀ w1, Inv w1 → Sl w1 1 items.length v (items.flatMap inC))
    (hwr : ∀ x ∈ items, ∀ acc w1, Inv w1 → Wt n0 b acc w1 → acc.length + (txt x).length ≤ 1000000 → Calls Tryz.prog 91 #[.int .i64 x, .pointer (some ⟨p, 0, none⟩)] w1 (WrP n0 b acc (txt x) w1))
    (hW : Wt n0 b l w) (hl : l.length + (listT bef (items.map txt) btw aft).length ≤ 1000000) :
    Calls Tryz.prog 90 #[.pointer (some ⟨b, 0, none⟩), .string sB, v, .string sS, .string sA, .func (.func 91) #[] #[.pointer (some ⟨p, 0, none⟩)]] w (WrP n0 b l (listT bef (items.map txt) btw aft) w) := by
  obtain ⟨A, cap, rfl, hm, -⟩ := sl_els (by decide) inC_len (hel w hI)
  by_cases h0 : items.length = 0
  · have hi : items = [] := List.eq_nil_of_length_eq_zero h0
    subst hi
    have fin : WrP n0 b l (listT bef (([] : List Int).map txt) btw aft) w (.returned (.tuple #[])) w := ⟨rfl, by simpa [listT] using hW, Kept.refl _ _ _⟩
    clear hel hwr hW hl hIk hI
    go_enter Tryz.func90, Tryz.ntmps90
    go_wp2
    go_end0
    exact fin
  · have hlt_eq : listT bef (items.map txt) btw aft = bef ++ sepL btw (items.map txt) ++ aft := by
      unfold listT
      rw [if_neg]
      simp only [List.isEmpty_iff, List.map_eq_nil_iff]
      exact fun e => h0 (by rw [e]; rfl)
    rw [hlt_eq] at hl ⊢
    simp only [List.length_append] at hl
    have hne : ((items.length : Int) == 0) = false := by rw [beq_eq_false_iff_ne]; omega
    have hH := writeLit_any n0 b l bef sB hsB w hW (by omega) (wt_le hW)
    have hLast := fun w1 (h : Wt n0 b (l ++ bef ++ sepL btw (items.map txt)) w1) => writeLit_any n0 b _ aft sA hsA w1 h (by simp only [List.length_append]; omega) (wt_le h)
    have HE := Lib.hid hel
    have HI := Lib.hid hI
    have HQ := Lib.hid hwr
    have HL := Lib.hid hLast
    have hn00 := wt_le hW
    have HSS := Lib.hid hsS
    clear hel hwr hW hsB hsS hsA hlt_eq hI hLast
    go_enter Tryz.func90, Tryz.ntmps90
    go_wp2_with (go_at_call 52; refine hH.mono ?_; rintro e w1 ⟨rfl, hW1, hk1⟩)
    go_loopg [24] items.length (fun g iv wr => ∃ k : Nat, k ≤ items.length ∧ g = items.length - k ∧ iv = .int .i64 (k : Int) ∧ Hid (Wt n0 b (l ++ bef ++ sepL btw ((items.map txt).take k)) wr) ∧ Hid (Kept n0 b w wr))
    case atStart => exact ⟨0, Nat.zero_le _, rfl, rfl, Lib.hid (by simpa [sepL] using hW1), Lib.hid hk1⟩
    case round =>
      clear hH hk1 hW1
      obtain ⟨k, hk, hg, rfl, hWr, hkr⟩ := hrel
      by_cases hlt : k < items.length
      · have hIr := hIk _ _ HI.out hkr.out
        obtain ⟨A', cap', hAA, -, hels⟩ := sl_els (by decide) inC_len (HE.out wr hIr)
        obtain ⟨a, hAe, ha, E⟩ := hels k hlt
        injection hAA with hA1 hA2 hA3
        subst hA1
        subst hAe
        clear hels hA2 hA3
        have hsep := sepL_take btw (items.map txt) k (by simpa using hlt)
        have hlen2 := sepL_take_le btw (items.map txt) (k + 1)
        have hn0 := wt_le hWr.out
        obtain ⟨x, hx⟩ : ∃ x, x = items[k] := ⟨_, rfl⟩
        have hxm : (items.map txt)[k]'(by simpa using hlt) = txt x := by simp [hx]
        rw [hxm] at hsep
        have hq := fun acc w1 (h1 : Inv w1) (h2 : Wt n0 b acc w1) (h3 : acc.length + (txt x).length ≤ 1000000) => HQ.out x (hx ▸ List.getElem_mem hlt) acc w1 h1 h2 h3
        rw [← hx] at E
        obtain ⟨u, hu⟩ : ∃ u, u = txt x := ⟨_, rfl⟩
        rw [← hu] at hq hsep
        obtain ⟨acc, hacc⟩ : ∃ acc, acc = l ++ bef ++ sepL btw ((items.map txt).take k) := ⟨_, rfl⟩
        rw [← hacc] at hWr
        have h1 : (k : Int) < (items.length : Int) := by omega
        have hwk : IntKind.i64.wrap ((k : Int) + 1) = (k : Int) + 1 := IntWalk.i64_in _ ⟨by omega, by omega⟩
        clear hxm hu
        simp only [inC, Nat.mul_one] at E
        unfold WrP at hq
        have c0 := E.at0 _ rfl
        clear E
        by_cases hk0 : k = 0
        · have hk00 : ¬ (0 : Int) < (k : Int) := by omega
          rw [if_pos hk0] at hsep
          have hz : (items.map txt).take k = [] := by rw [hk0]; rfl
          have hfit : acc.length + u.length ≤ 1000000 := by rw [hacc, hz]; rw [hsep] at hlen2; simp [sepL] at hlen2 ⊢; omega
          have hfin : ∀ w2, Wt n0 b (acc ++ u) w2 → Wt n0 b (l ++ bef ++ sepL btw ((items.map txt).take (k + 1))) w2 := fun w2 h => by rw [hsep, ← show acc = l ++ bef by rw [hacc, hz]; simp [sepL]]; exact h
          have hq1 := hq acc wr (hIk _ _ hIr (Kept.refl _ _ wr)) (hWr.out) hfit
          have hkf : ∀ w2, Kept n0 b wr w2 → Kept n0 b w w2 := fun w2 h => hkr.out.trans ((Kept.refl _ _ wr).trans h)
          clear hq hsep hlen2 hacc hx hk0 hz
          go_wp2_with (go_at_call 91; refine hq1.mono ?_; rintro e w2 ⟨rfl, hW2, hk2⟩)
          go_roundg (items.length - (k + 1))
          case rel => exact ⟨k + 1, by omega, rfl, by go_num, Lib.hid (hfin _ hW2), Lib.hid (hkf _ hk2)⟩
          case measure => omega
        · have hk00 : (0 : Int) < (k : Int) := by omega
          rw [if_neg hk0] at hsep
          have hfit : acc.length + btw.length + u.length ≤ 1000000 := by rw [hacc]; rw [hsep] at hlen2; simp only [List.length_append] at hlen2 ⊢; omega
          have hfin : ∀ w2, Wt n0 b (acc ++ btw ++ u) w2 → Wt n0 b (l ++ bef ++ sepL btw ((items.map txt).take (k + 1))) w2 := fun w2 h => by rw [hsep]; rw [hacc] at h; simpa only [List.append_assoc] using h
          have hs1 := writeLit_any n0 b acc btw sS HSS.out wr (hWr.out) (by omega) (Nat.le_trans hn0 (Nat.le_refl _))
          have hq1 := fun w1 (hk : Kept n0 b wr w1) (h : Wt n0 b (acc ++ btw) w1) => hq (acc ++ btw) w1 (hIk _ _ (hIk _ _ hIr (Kept.refl _ _ wr)) hk) h (by rw [List.length_append]; omega)
          have hkf : ∀ w1 w2, Kept n0 b wr w1 → Kept n0 b w1 w2 → Kept n0 b w w2 := fun w1 w2 h h2 => hkr.out.trans (((Kept.refl _ _ wr).trans h).trans h2)
          clear hq hsep hlen2 hacc hx hk0
          go_wp2_with (first | (go_at_call 52; refine hs1.mono ?_; rintro e w1 ⟨rfl, hW1, hk1⟩) | (go_at_call 91; refine (hq1 _ hk1 hW1).mono ?_; rintro e w2 ⟨rfl, hW2, hk2⟩))
          go_roundg (items.length - (k + 1))
          case rel => exact ⟨k + 1, by omega, rfl, by go_num, Lib.hid (hfin _ hW2), Lib.hid (hkf _ _ hk1 hk2)⟩
          case measure => omega
      · have h1 : ¬ (k : Int) < (items.length : Int) := by omega
        have hall : (items.map txt).take k = items.map txt := List.take_of_length_le (by simp; omega)
        rw [hall] at hWr
        have hLL := HL.out wr hWr.out
        have fin : ∀ w2, Wt n0 b (l ++ bef ++ sepL btw (items.map txt) ++ aft) w2 → Kept n0 b wr w2 → WrP n0 b l (bef ++ sepL btw (items.map txt) ++ aft) w (.returned (.tuple #[])) w2 := fun w2 h1 h2 => ⟨rfl, by simpa only [List.append_assoc] using h1, hkr.out.trans h2⟩
        clear hall HE HQ HL HI
        go_wp2_with (go_at_call 52; refine hLL.mono ?_; rintro e w2 ⟨rfl, hW2, hk2⟩)
        go_end0
        exact fin _ hW2 hk2
end Go.Proofs.YtmfcjaoajanlfaaGreatDoor
namespace Go.Proofs.YtmfcjaoajanlfaaGreatDoor
open Go.RowKit Go.Shelf
open A8 Tk7

set_option maxRecDepth 100000 in
set_option maxHeartbeats 8000000 in
theorem writeListNode_any (n0 b : Nat) (p r : Nat) (Inv : World → Prop) (l bef btw aft : List UInt8) (sB sS sA : ByteArray) (hsB : sB = strOf bef) (hsS : sS = strOf btw) (hsA : sA = strOf aft) (v : Value) (items : List Tr) (txt : Tr → List UInt8) (w0 : World) (hone : ∀ t ∈ items, OneT w0 t) (w : World)
    (hI : Inv w) (hIk : ∀ w1 w2, Inv w1 → Kept n0 b w1 w2 → Inv w2) (hel : ∀ w1, Inv w1 → Sl w1 9 items.length v (items.flatMap Tr.row))
    (hwr : ∀ x ∈ items, ∀ acc w1, Inv w1 → Wt n0 b acc w1 → acc.length + (txt x).length ≤ 1000000 → Calls Tryz.prog 93 #[.agg (Tr.row x).toArray, .pointer (some ⟨p, 0, none⟩), .pointer (some ⟨r, 0, none⟩)] w1 (WrP n0 b acc (txt x) w1))
    (hW : Wt n0 b l w) (hl : l.length + (listT bef (items.map txt) btw aft).length ≤ 1000000) :
    Calls Tryz.prog 92 #[.pointer (some ⟨b, 0, none⟩), .string sB, v, .string sS, .string sA, .func (.func 93) #[] #[.pointer (some ⟨p, 0, none⟩), .pointer (some ⟨r, 0, none⟩)]] w (WrP n0 b l (listT bef (items.map txt) btw aft) w) := by
  obtain ⟨A, cap, rfl, hm, -⟩ := sl_els (by decide) row_len (hel w hI)
  by_cases h0 : items.length = 0
  · have hi : items = [] := List.eq_nil_of_length_eq_zero h0
    subst hi
    have fin : WrP n0 b l (listT bef (([] : List Tr).map txt) btw aft) w (.returned (.tuple #[])) w := ⟨rfl, by simpa [listT] using hW, Kept.refl _ _ _⟩
    clear hel hwr hW hl hIk hI
    go_enter Tryz.func92, Tryz.ntmps92
    go_wp2
    go_end0
    exact fin
  · have hlt_eq : listT bef (items.map txt) btw aft = bef ++ sepL btw (items.map txt) ++ aft := by
      unfold listT
      rw [if_neg]
      simp only [List.isEmpty_iff, List.map_eq_nil_iff]
      exact fun e => h0 (by rw [e]; rfl)
    rw [hlt_eq] at hl ⊢
    simp only [List.length_append] at hl
    have hne : ((items.length : Int) == 0) = false := by rw [beq_eq_false_iff_ne]; omega
    have hH := writeLit_any n0 b l bef sB hsB w hW (by omega) (wt_le hW)
    have hLast := fun w1 (h : Wt n0 b (l ++ bef ++ sepL btw (items.map txt)) w1) => writeLit_any n0 b _ aft sA hsA w1 h (by simp only [List.length_append]; omega) (wt_le h)
    have HE := Lib.hid hel
    have HI := Lib.hid hI
    have HQ := Lib.hid hwr
    have HL := Lib.hid hLast
    have hn00 := wt_le hW
    have HSS := Lib.hid hsS
    clear hel hwr hW hsB hsS hsA hlt_eq hI hLast
    go_enter Tryz.func92, Tryz.ntmps92
    go_wp2_with (go_at_call 52; refine hH.mono ?_; rintro e w1 ⟨rfl, hW1, hk1⟩)
    go_loopg [24] items.length (fun g iv wr => ∃ k : Nat, k ≤ items.length ∧ g = items.length - k ∧ iv = .int .i64 (k : Int) ∧ Hid (Wt n0 b (l ++ bef ++ sepL btw ((items.map txt).take k)) wr) ∧ Hid (Kept n0 b w wr))
    case atStart => exact ⟨0, Nat.zero_le _, rfl, rfl, Lib.hid (by simpa [sepL] using hW1), Lib.hid hk1⟩
    case round =>
      clear hH hk1 hW1
      obtain ⟨k, hk, hg, rfl, hWr, hkr⟩ := hrel
      by_cases hlt : k < items.length
      · have hIr := hIk _ _ HI.out hkr.out
        obtain ⟨A', cap', hAA, -, hels⟩ := sl_els (by decide) row_len (HE.out wr hIr)
        obtain ⟨a, hAe, ha, E⟩ := hels k hlt
        injection hAA with hA1 hA2 hA3
        subst hA1
        subst hAe
        clear hels hA2 hA3
        have hsep := sepL_take btw (items.map txt) k (by simpa using hlt)
        have hlen2 := sepL_take_le btw (items.map txt) (k + 1)
        have hn0 := wt_le hWr.out
        obtain ⟨x, hx⟩ : ∃ x, x = items[k] := ⟨_, rfl⟩
        have hxm : (items.map txt)[k]'(by simpa using hlt) = txt x := by simp [hx]
        rw [hxm] at hsep
        have hq := fun acc w1 (h1 : Inv w1) (h2 : Wt n0 b acc w1) (h3 : acc.length + (txt x).length ≤ 1000000) => HQ.out x (hx ▸ List.getElem_mem hlt) acc w1 h1 h2 h3
        rw [← hx] at E
        obtain ⟨u, hu⟩ : ∃ u, u = txt x := ⟨_, rfl⟩
        rw [← hu] at hq hsep
        obtain ⟨acc, hacc⟩ : ∃ acc, acc = l ++ bef ++ sepL btw ((items.map txt).take k) := ⟨_, rfl⟩
        rw [← hacc] at hWr
        have h1 : (k : Int) < (items.length : Int) := by omega
        have hwk : IntKind.i64.wrap ((k : Int) + 1) = (k : Int) + 1 := IntWalk.i64_in _ ⟨by omega, by omega⟩
        clear hxm hu
        have hko := hone x (hx ▸ List.getElem_mem hlt)
        obtain ⟨k', mn', mx', ⟨ga, gc⟩, sk', ks'⟩ := x
        obtain ⟨-, ⟨-, hgc⟩, hgk⟩ := hko
        simp only at hgc
        obtain ⟨A1, cap1, rfl, -, -⟩ := sl_get (by decide) hgc
        obtain ⟨A2, cap2, rfl, -, -⟩ := sl_get (by decide) hgk
        clear hgc hgk
        simp only [Tr.row] at E hq
        unfold WrP at hq
        have c0 := E.at0 _ rfl
        have c1 := E.at1 1 _ (by decide) rfl
        have c2 := E.at1 2 _ (by decide) rfl
        have c3 := E.at1 3 _ (by decide) rfl
        have c4 := E.at1 4 _ (by decide) rfl
        have c5 := E.at1 5 _ (by decide) rfl
        have c6 := E.at1 6 _ (by decide) rfl
        have c7 := E.at1 7 _ (by decide) rfl
        have c8 := E.at1 8 _ (by decide) rfl
        clear E
        by_cases hk0 : k = 0
        · have hk00 : ¬ (0 : Int) < (k : Int) := by omega
          rw [if_pos hk0] at hsep
          have hz : (items.map txt).take k = [] := by rw [hk0]; rfl
          have hfit : acc.length + u.length ≤ 1000000 := by rw [hacc, hz]; rw [hsep] at hlen2; simp [sepL] at hlen2 ⊢; omega
          have hfin : ∀ w2, Wt n0 b (acc ++ u) w2 → Wt n0 b (l ++ bef ++ sepL btw ((items.map txt).take (k + 1))) w2 := fun w2 h => by rw [hsep, ← show acc = l ++ bef by rw [hacc, hz]; simp [sepL]]; exact h
          have hq1 := hq acc (wr.alloc (.cells #[.int .i64 k', .int .i64 mn', .int .i64 mx', .int .i64 ga.kd, .bool ga.bd, .int .u64 ga.bn, .slice A1 ga.cs.length cap1, .string (strOf ga.nm), .slice A2 ks'.length cap2] 30)) (hIk _ _ hIr (Kept.of (b1 wr (.cells #[.int .i64 k', .int .i64 mn', .int .i64 mx', .int .i64 ga.kd, .bool ga.bd, .int .u64 ga.bn, .slice A1 ga.cs.length cap1, .string (strOf ga.nm), .slice A2 ks'.length cap2] 30)) hn0)) (hWr.out.later (b1 wr (.cells #[.int .i64 k', .int .i64 mn', .int .i64 mx', .int .i64 ga.kd, .bool ga.bd, .int .u64 ga.bn, .slice A1 ga.cs.length cap1, .string (strOf ga.nm), .slice A2 ks'.length cap2] 30))) hfit
          have hkf : ∀ w2, Kept n0 b (wr.alloc (.cells #[.int .i64 k', .int .i64 mn', .int .i64 mx', .int .i64 ga.kd, .bool ga.bd, .int .u64 ga.bn, .slice A1 ga.cs.length cap1, .string (strOf ga.nm), .slice A2 ks'.length cap2] 30)) w2 → Kept n0 b w w2 := fun w2 h => hkr.out.trans ((Kept.of (b1 wr (.cells #[.int .i64 k', .int .i64 mn', .int .i64 mx', .int .i64 ga.kd, .bool ga.bd, .int .u64 ga.bn, .slice A1 ga.cs.length cap1, .string (strOf ga.nm), .slice A2 ks'.length cap2] 30)) hn0).trans h)
          clear hq hsep hlen2 hacc hx hk0 hz hone
          go_wp2_with (go_at_call 93; refine hq1.mono ?_; rintro e w2 ⟨rfl, hW2, hk2⟩)
          go_roundg (items.length - (k + 1))
          case rel => exact ⟨k + 1, by omega, rfl, by go_num, Lib.hid (hfin _ hW2), Lib.hid (hkf _ hk2)⟩
          case measure => omega
        · have hk00 : (0 : Int) < (k : Int) := by omega
          rw [if_neg hk0] at hsep
          have hfit : acc.length + btw.length + u.length ≤ 1000000 := by rw [hacc]; rw [hsep] at hlen2; simp only [List.length_append] at hlen2 ⊢; omega
          have hfin : ∀ w2, Wt n0 b (acc ++ btw ++ u) w2 → Wt n0 b (l ++ bef ++ sepL btw ((items.map txt).take (k + 1))) w2 := fun w2 h => by rw [hsep]; rw [hacc] at h; simpa only [List.append_assoc] using h
          have hs1 := writeLit_any n0 b acc btw sS HSS.out (wr.alloc (.cells #[.int .i64 k', .int .i64 mn', .int .i64 mx', .int .i64 ga.kd, .bool ga.bd, .int .u64 ga.bn, .slice A1 ga.cs.length cap1, .string (strOf ga.nm), .slice A2 ks'.length cap2] 30)) (hWr.out.later (b1 wr (.cells #[.int .i64 k', .int .i64 mn', .int .i64 mx', .int .i64 ga.kd, .bool ga.bd, .int .u64 ga.bn, .slice A1 ga.cs.length cap1, .string (strOf ga.nm), .slice A2 ks'.length cap2] 30))) (by omega) (Nat.le_trans hn0 (by simp))
          have hq1 := fun w1 (hk : Kept n0 b (wr.alloc (.cells #[.int .i64 k', .int .i64 mn', .int .i64 mx', .int .i64 ga.kd, .bool ga.bd, .int .u64 ga.bn, .slice A1 ga.cs.length cap1, .string (strOf ga.nm), .slice A2 ks'.length cap2] 30)) w1) (h : Wt n0 b (acc ++ btw) w1) => hq (acc ++ btw) w1 (hIk _ _ (hIk _ _ hIr (Kept.of (b1 wr (.cells #[.int .i64 k', .int .i64 mn', .int .i64 mx', .int .i64 ga.kd, .bool ga.bd, .int .u64 ga.bn, .slice A1 ga.cs.length cap1, .string (strOf ga.nm), .slice A2 ks'.length cap2] 30)) hn0)) hk) h (by rw [List.length_append]; omega)
          have hkf : ∀ w1 w2, Kept n0 b (wr.alloc (.cells #[.int .i64 k', .int .i64 mn', .int .i64 mx', .int .i64 ga.kd, .bool ga.bd, .int .u64 ga.bn, .slice A1 ga.cs.length cap1, .string (strOf ga.nm), .slice A2 ks'.length cap2] 30)) w1 → Kept n0 b w1 w2 → Kept n0 b w w2 := fun w1 w2 h h2 => hkr.out.trans (((Kept.of (b1 wr (.cells #[.int .i64 k', .int .i64 mn', .int .i64 mx', .int .i64 ga.kd, .bool ga.bd, .int .u64 ga.bn, .slice A1 ga.cs.length cap1, .string (strOf ga.nm), .slice A2 ks'.length cap2] 30)) hn0).trans h).trans h2)
          have hBx : Bx (wr.alloc (.cells #[.int .i64 k', .int .i64 mn', .int .i64 mx', .int .i64 ga.kd, .bool ga.bd, .int .u64 ga.bn, .slice A1 ga.cs.length cap1, .string (strOf ga.nm), .slice A2 ks'.length cap2] 30)) wr.heap.size 30 [.int .i64 k', .int .i64 mn', .int .i64 mx', .int .i64 ga.kd, .bool ga.bd, .int .u64 ga.bn, .slice A1 ga.cs.length cap1, .string (strOf ga.nm), .slice A2 ks'.length cap2] := Bx.new wr [.int .i64 k', .int .i64 mn', .int .i64 mx', .int .i64 ga.kd, .bool ga.bd, .int .u64 ga.bn, .slice A1 ga.cs.length cap1, .string (strOf ga.nm), .slice A2 ks'.length cap2] 30
          have hbl : wr.heap.size ≠ b := by have := wt_lt hWr.out; omega
          have hcell : ∀ w1, Kept n0 b (wr.alloc (.cells #[.int .i64 k', .int .i64 mn', .int .i64 mx', .int .i64 ga.kd, .bool ga.bd, .int .u64 ga.bn, .slice A1 ga.cs.length cap1, .string (strOf ga.nm), .slice A2 ks'.length cap2] 30)) w1 → Blk w1 wr.heap.size [.int .i64 k', .int .i64 mn', .int .i64 mx', .int .i64 ga.kd, .bool ga.bd, .int .u64 ga.bn, .slice A1 ga.cs.length cap1, .string (strOf ga.nm), .slice A2 ks'.length cap2] := fun w1 hk => (hBx.kept hk hbl (by decide)).blk
          clear hq hsep hlen2 hacc hx hk0 hone hBx hbl
          go_wp2_with (first | (go_at_call 52; refine hs1.mono ?_; rintro e w1 ⟨rfl, hW1, hk1⟩; have HX := hcell _ hk1; have d0 := HX.cell 0 _ rfl; have d1 := HX.cell 1 _ rfl; have d2 := HX.cell 2 _ rfl; have d3 := HX.cell 3 _ rfl; have d4 := HX.cell 4 _ rfl; have d5 := HX.cell 5 _ rfl; have d6 := HX.cell 6 _ rfl; have d7 := HX.cell 7 _ rfl; have d8 := HX.cell 8 _ rfl; clear HX) | (go_at_call 93; refine (hq1 _ hk1 hW1).mono ?_; rintro e w2 ⟨rfl, hW2, hk2⟩))
          go_roundg (items.length - (k + 1))
          case rel => exact ⟨k + 1, by omega, rfl, by go_num, Lib.hid (hfin _ hW2), Lib.hid (hkf _ _ hk1 hk2)⟩
          case measure => omega
      · have h1 : ¬ (k : Int) < (items.length : Int) := by omega
        have hall : (items.map txt).take k = items.map txt := List.take_of_length_le (by simp; omega)
        rw [hall] at hWr
        have hLL := HL.out wr hWr.out
        have fin : ∀ w2, Wt n0 b (l ++ bef ++ sepL btw (items.map txt) ++ aft) w2 → Kept n0 b wr w2 → WrP n0 b l (bef ++ sepL btw (items.map txt) ++ aft) w (.returned (.tuple #[])) w2 := fun w2 h1 h2 => ⟨rfl, by simpa only [List.append_assoc] using h1, hkr.out.trans h2⟩
        clear hall HE HQ HL HI hone
        go_wp2_with (go_at_call 52; refine hLL.mono ?_; rintro e w2 ⟨rfl, hW2, hk2⟩)
        go_end0
        exact fin _ hW2 hk2
end Go.Proofs.YtmfcjaoajanlfaaGreatDoor
namespace Go.Proofs.YtmfcjaoajanlfaaGreatDoor
open Go.RowKit Go.Shelf
open A8 Tk7 Lb

set_option maxRecDepth 100000 in
set_option maxHeartbeats 8000000 in
theorem atom_ne (n0 b : Nat) (l C : List UInt8) (i r : Nat) (hi : i ≤ 25) (A : Option Addr) (m c : Nat) (M : ByteArray) (w : World) (hW : Wt n0 b l w)
    (hl : l.length + 1 + 0 + C.length + 0 ≤ 1000000)
    
    (hC : ∀ acc w1, Kept n0 b w w1 → Wt n0 b acc w1 → acc.length + C.length ≤ 1000000 → Calls Tryz.prog 89 #[.pointer (some ⟨b, 0, none⟩), .string ⟨#[91]⟩, .slice A m c, .string ⟨#[44]⟩, .string ⟨#[93]⟩, .func (.func 78) #[.pointer (some ⟨b, 0, none⟩)] #[]] w1 (WrP n0 b acc C w1))
    (hMe : M.toList.isEmpty = true) :
    Calls Tryz.prog 72 #[.pointer (some ⟨b, 0, none⟩), .agg #[.int .i64 (i : Int), .bool false, .int .u64 (r : Int), .slice A m c, .string M]] w (WrP n0 b l ([UInt8.ofNat (65 + i)] ++ ([]) ++ C ++ ([])) w) := by
  obtain ⟨W, hWW⟩ : ∃ W, W = w.alloc (.cells #[.int .i64 (i : Int), .bool false, .int .u64 (r : Int), .slice A m c, .string M] 27) := ⟨_, rfl⟩
  have hn0 := wt_le hW
  have hb1 : Below w.heap.size w W := hWW ▸ b1 _ _
  have hk1 : Kept n0 b w W := Kept.of hb1 hn0
  have hBx : Bx W w.heap.size 27 [.int .i64 (i : Int), .bool false, .int .u64 (r : Int), .slice A m c, .string M] := hWW ▸ Bx.new w _ _
  have hne : w.heap.size ≠ b := by have := wt_lt hW; omega
  have hW1 := hW.later hb1
  have c0 := hBx.blk.drew.cell 0 _ rfl
  have hcell : ∀ w1, Kept n0 b W.drew w1 → Blk w1 w.heap.size [.int .i64 (i : Int), .bool false, .int .u64 (r : Int), .slice A m c, .string M] := fun w1 hk => (Bx.kept (w := W.drew) hBx hk hne (by decide)).blk
  have hP := fun w1 (h : Wt n0 b l w1) => writeByte_any n0 b l (UInt8.ofNat (65 + i)) (65 + (i : Int)) (by rw [UInt8.toNat_ofNat']; omega) w1 h (by omega) (wt_le h)
  have hwr1 : IntKind.u8.wrap (i : Int) = (i : Int) := by simp [IntKind.wrap, IntKind.signed, IntKind.bits]; omega
  have hwr2 : IntKind.u8.wrap (65 + (i : Int)) = 65 + (i : Int) := by simp [IntKind.wrap, IntKind.signed, IntKind.bits]; omega
  have hCl := fun w1 (hk : Kept n0 b W.drew w1) (h : Wt n0 b (l ++ [UInt8.ofNat (65 + i)]) w1) => hC (l ++ [UInt8.ofNat (65 + i)]) w1 (hk1.trans (kept_drew hk)) h (by simp only [List.length_append, List.length_singleton]; omega)
  have fin : ∀ w2, Kept n0 b W.drew w2 → Wt n0 b (l ++ [UInt8.ofNat (65 + i)] ++ C) w2 → WrP n0 b l ([UInt8.ofNat (65 + i)] ++ ([]) ++ C ++ ([])) w (.returned (.tuple #[])) w2 := fun w2 h1 h2 => ⟨rfl, by simpa only [List.append_assoc, List.append_nil, List.cons_append, List.nil_append, List.singleton_append] using h2, hk1.trans (kept_drew h1)⟩
  have hWd := wt_drew hW1
  unfold WrP at hCl
  clear hC hW1 hBx hb1 hk1 hW hl
  go_enter Tryz.func72, Tryz.ntmps72
  go_wp2_with fail
  rw [← hWW]
  clear hWW
  go_region_with (go_at_call 77; refine (hP _ hWd).mono ?_; rintro e w1 ⟨rfl, hX1, hk1⟩)
  all_goals
    have hb := hcell _ hk1
    have c1 := hb.cell 1 _ rfl
    have c2 := hb.drew.cell 2 _ rfl
    have c3 := hb.cell 3 _ rfl
    have c4 := hb.cell 4 _ rfl
    clear hb
    go_wp2_with (go_at_call 89; refine (hCl _ hk1 hX1).mono ?_; rintro e w5 ⟨rfl, hX5, hk5⟩; have hK5 := hk1.trans hk5; have g4 := (hcell _ hK5).cell 4 _ rfl)
    go_end0
    exact fin _ hK5 hX5
set_option maxRecDepth 100000 in
set_option maxHeartbeats 8000000 in
theorem atom_nm (n0 b : Nat) (l C N : List UInt8) (i r : Nat) (hi : i ≤ 25) (A : Option Addr) (m c : Nat) (M : ByteArray) (w : World) (hW : Wt n0 b l w)
    (hl : l.length + 1 + 0 + C.length + (1 + N.length) ≤ 1000000)
    
    (hC : ∀ acc w1, Kept n0 b w w1 → Wt n0 b acc w1 → acc.length + C.length ≤ 1000000 → Calls Tryz.prog 89 #[.pointer (some ⟨b, 0, none⟩), .string ⟨#[91]⟩, .slice A m c, .string ⟨#[44]⟩, .string ⟨#[93]⟩, .func (.func 78) #[.pointer (some ⟨b, 0, none⟩)] #[]] w1 (WrP n0 b acc C w1))
    (hM : M = strOf N) (hMe : M.toList.isEmpty = false) :
    Calls Tryz.prog 72 #[.pointer (some ⟨b, 0, none⟩), .agg #[.int .i64 (i : Int), .bool false, .int .u64 (r : Int), .slice A m c, .string M]] w (WrP n0 b l ([UInt8.ofNat (65 + i)] ++ ([]) ++ C ++ (58 :: N)) w) := by
  obtain ⟨W, hWW⟩ : ∃ W, W = w.alloc (.cells #[.int .i64 (i : Int), .bool false, .int .u64 (r : Int), .slice A m c, .string M] 27) := ⟨_, rfl⟩
  have hn0 := wt_le hW
  have hb1 : Below w.heap.size w W := hWW ▸ b1 _ _
  have hk1 : Kept n0 b w W := Kept.of hb1 hn0
  have hBx : Bx W w.heap.size 27 [.int .i64 (i : Int), .bool false, .int .u64 (r : Int), .slice A m c, .string M] := hWW ▸ Bx.new w _ _
  have hne : w.heap.size ≠ b := by have := wt_lt hW; omega
  have hW1 := hW.later hb1
  have c0 := hBx.blk.drew.cell 0 _ rfl
  have hcell : ∀ w1, Kept n0 b W.drew w1 → Blk w1 w.heap.size [.int .i64 (i : Int), .bool false, .int .u64 (r : Int), .slice A m c, .string M] := fun w1 hk => (Bx.kept (w := W.drew) hBx hk hne (by decide)).blk
  have hP := fun w1 (h : Wt n0 b l w1) => writeByte_any n0 b l (UInt8.ofNat (65 + i)) (65 + (i : Int)) (by rw [UInt8.toNat_ofNat']; omega) w1 h (by omega) (wt_le h)
  have hwr1 : IntKind.u8.wrap (i : Int) = (i : Int) := by simp [IntKind.wrap, IntKind.signed, IntKind.bits]; omega
  have hwr2 : IntKind.u8.wrap (65 + (i : Int)) = 65 + (i : Int) := by simp [IntKind.wrap, IntKind.signed, IntKind.bits]; omega
  have hCl := fun w1 (hk : Kept n0 b W.drew w1) (h : Wt n0 b (l ++ [UInt8.ofNat (65 + i)]) w1) => hC (l ++ [UInt8.ofNat (65 + i)]) w1 (hk1.trans (kept_drew hk)) h (by simp only [List.length_append, List.length_singleton]; omega)
  have hCo := fun w1 (h : Wt n0 b (l ++ [UInt8.ofNat (65 + i)] ++ C) w1) => writeByte_any n0 b (l ++ [UInt8.ofNat (65 + i)] ++ C) 58 58 rfl w1 h (by simp only [List.length_append, List.length_singleton]; omega) (wt_le h)
  have hNs := fun w1 (h : Wt n0 b (l ++ [UInt8.ofNat (65 + i)] ++ C ++ [58]) w1) => writeLit_any n0 b (l ++ [UInt8.ofNat (65 + i)] ++ C ++ [58]) N M hM w1 h (by simp only [List.length_append, List.length_singleton]; omega) (wt_le h)
  have fin : ∀ w2, Kept n0 b W.drew w2 → Wt n0 b (l ++ [UInt8.ofNat (65 + i)] ++ C ++ [58] ++ N) w2 → WrP n0 b l ([UInt8.ofNat (65 + i)] ++ ([]) ++ C ++ (58 :: N)) w (.returned (.tuple #[])) w2 := fun w2 h1 h2 => ⟨rfl, by simpa only [List.append_assoc, List.append_nil, List.cons_append, List.nil_append, List.singleton_append] using h2, hk1.trans (kept_drew h1)⟩
  have hWd := wt_drew hW1
  unfold WrP at hCl
  clear hC hW1 hBx hb1 hk1 hW hl hM
  go_enter Tryz.func72, Tryz.ntmps72
  go_wp2_with fail
  rw [← hWW]
  clear hWW
  go_region_with (go_at_call 77; refine (hP _ hWd).mono ?_; rintro e w1 ⟨rfl, hX1, hk1⟩)
  all_goals
    have hb := hcell _ hk1
    have c1 := hb.cell 1 _ rfl
    have c2 := hb.drew.cell 2 _ rfl
    have c3 := hb.cell 3 _ rfl
    have c4 := hb.cell 4 _ rfl
    clear hb
    go_wp2_with (go_at_call 89; refine (hCl _ hk1 hX1).mono ?_; rintro e w5 ⟨rfl, hX5, hk5⟩; have hK5 := hk1.trans hk5; have hb := hcell _ hK5; have g4 := hb.cell 4 _ rfl; have g4d := hb.drew.cell 4 _ rfl; clear hb)
    go_wp2_with (go_at_call 77; with_reducible refine (hCo _ hX5).mono ?_; rintro e w6 ⟨rfl, hX6, hk6⟩; have hK6 := hK5.trans hk6; have j4 := (hcell _ hK6).drew.cell 4 _ rfl)
    go_region_with (go_at_call 52; refine (hNs _ (wt_drew hX6)).mono ?_; rintro e w7 ⟨rfl, hX7, hk7⟩)
    all_goals
      go_wp2
      go_end0
      exact fin _ (hK6.trans (kept_drew hk7)) hX7
set_option maxRecDepth 100000 in
set_option maxHeartbeats 8000000 in
theorem atom_be (n0 b : Nat) (l L C : List UInt8) (i r : Nat) (hi : i ≤ 25) (A : Option Addr) (m c : Nat) (M : ByteArray) (w : World) (hW : Wt n0 b l w)
    (hl : l.length + 1 + (1 + L.length) + C.length + 0 ≤ 1000000)
    (hL : ∀ w1, Kept n0 b w w1 → Calls Tryz.prog 88 #[.int .u64 (r : Int)] w1 fun e w2 => e = .returned (.string (strOf L)) ∧ Below w1.heap.size w1 w2)
    (hC : ∀ acc w1, Kept n0 b w w1 → Wt n0 b acc w1 → acc.length + C.length ≤ 1000000 → Calls Tryz.prog 89 #[.pointer (some ⟨b, 0, none⟩), .string ⟨#[91]⟩, .slice A m c, .string ⟨#[44]⟩, .string ⟨#[93]⟩, .func (.func 78) #[.pointer (some ⟨b, 0, none⟩)] #[]] w1 (WrP n0 b acc C w1))
    (hMe : M.toList.isEmpty = true) :
    Calls Tryz.prog 72 #[.pointer (some ⟨b, 0, none⟩), .agg #[.int .i64 (i : Int), .bool true, .int .u64 (r : Int), .slice A m c, .string M]] w (WrP n0 b l ([UInt8.ofNat (65 + i)] ++ (64 :: L) ++ C ++ ([])) w) := by
  obtain ⟨W, hWW⟩ : ∃ W, W = w.alloc (.cells #[.int .i64 (i : Int), .bool true, .int .u64 (r : Int), .slice A m c, .string M] 27) := ⟨_, rfl⟩
  have hn0 := wt_le hW
  have hb1 : Below w.heap.size w W := hWW ▸ b1 _ _
  have hk1 : Kept n0 b w W := Kept.of hb1 hn0
  have hBx : Bx W w.heap.size 27 [.int .i64 (i : Int), .bool true, .int .u64 (r : Int), .slice A m c, .string M] := hWW ▸ Bx.new w _ _
  have hne : w.heap.size ≠ b := by have := wt_lt hW; omega
  have hW1 := hW.later hb1
  have c0 := hBx.blk.drew.cell 0 _ rfl
  have hcell : ∀ w1, Kept n0 b W.drew w1 → Blk w1 w.heap.size [.int .i64 (i : Int), .bool true, .int .u64 (r : Int), .slice A m c, .string M] := fun w1 hk => (Bx.kept (w := W.drew) hBx hk hne (by decide)).blk
  have hP := fun w1 (h : Wt n0 b l w1) => writeByte_any n0 b l (UInt8.ofNat (65 + i)) (65 + (i : Int)) (by rw [UInt8.toNat_ofNat']; omega) w1 h (by omega) (wt_le h)
  have hwr1 : IntKind.u8.wrap (i : Int) = (i : Int) := by simp [IntKind.wrap, IntKind.signed, IntKind.bits]; omega
  have hwr2 : IntKind.u8.wrap (65 + (i : Int)) = 65 + (i : Int) := by simp [IntKind.wrap, IntKind.signed, IntKind.bits]; omega
  have hAt := fun w1 (h : Wt n0 b (l ++ [UInt8.ofNat (65 + i)]) w1) => writeByte_any n0 b (l ++ [UInt8.ofNat (65 + i)]) 64 64 rfl w1 h (by simp only [List.length_append, List.length_singleton]; omega) (wt_le h)
  have hLb := fun w1 (hk : Kept n0 b W.drew w1) => hL w1 (hk1.trans (kept_drew hk))
  have hLs := fun w1 (h : Wt n0 b (l ++ [UInt8.ofNat (65 + i)] ++ [64]) w1) => writeStr_any n0 b (l ++ [UInt8.ofNat (65 + i)] ++ [64]) L w1 h (by simp only [List.length_append, List.length_singleton]; omega) (wt_le h)
  have hLd := fun (w1 w2 w3 : World) (h : Kept n0 b W.drew w1) (h2 : Below w1.drew.heap.size w1.drew w2) (h3 : Kept n0 b w2 w3) => (h.trans (kept_drew ((Kept.of h2 (show n0 ≤ w1.heap.size from kept_n0 (b := b) (w := W.drew) (w1 := w1) h (show n0 ≤ W.heap.size from (kept_n0 hk1 hn0)))).trans h3)) : Kept n0 b W.drew w3)
  have hCl := fun w1 (hk : Kept n0 b W.drew w1) (h : Wt n0 b (l ++ [UInt8.ofNat (65 + i)] ++ [64] ++ L) w1) => hC (l ++ [UInt8.ofNat (65 + i)] ++ [64] ++ L) w1 (hk1.trans (kept_drew hk)) h (by simp only [List.length_append, List.length_singleton]; omega)
  have fin : ∀ w2, Kept n0 b W.drew w2 → Wt n0 b (l ++ [UInt8.ofNat (65 + i)] ++ [64] ++ L ++ C) w2 → WrP n0 b l ([UInt8.ofNat (65 + i)] ++ (64 :: L) ++ C ++ ([])) w (.returned (.tuple #[])) w2 := fun w2 h1 h2 => ⟨rfl, by simpa only [List.append_assoc, List.append_nil, List.cons_append, List.nil_append, List.singleton_append] using h2, hk1.trans (kept_drew h1)⟩
  have hWd := wt_drew hW1
  unfold WrP at hCl
  clear hC hW1 hBx hb1 hk1 hW hl hL
  go_enter Tryz.func72, Tryz.ntmps72
  go_wp2_with fail
  rw [← hWW]
  clear hWW
  go_region_with (go_at_call 77; refine (hP _ hWd).mono ?_; rintro e w1 ⟨rfl, hX1, hk1⟩)
  all_goals
    have hb := hcell _ hk1
    have c1 := hb.cell 1 _ rfl
    have c2 := hb.drew.cell 2 _ rfl
    have c3 := hb.cell 3 _ rfl
    have c4 := hb.cell 4 _ rfl
    clear hb
    go_wp2_with (go_at_call 77; with_reducible refine (hAt _ hX1).mono ?_; rintro e w2 ⟨rfl, hX2, hk2⟩; have hK2 := hk1.trans hk2; have d2 := (hcell _ hK2).drew.cell 2 _ rfl)
    go_region_with (first | (go_at_call 88; refine (hLb _ (show Kept n0 b W.drew _ from ⟨hK2.1.drew, hK2.2.drew⟩)).mono ?_; rintro e w3 ⟨rfl, hb3⟩) | (go_at_call 52; refine (hLs _ ((wt_drew hX2).later hb3)).mono ?_; rintro e w4 ⟨rfl, hX4, hk4⟩))
    all_goals
      have hK4 := hLd _ _ _ hK2 hb3 hk4
      have hb := hcell _ hK4
      have e3 := hb.cell 3 _ rfl
      clear hb
      go_wp2_with (go_at_call 89; refine (hCl _ hK4 hX4).mono ?_; rintro e w5 ⟨rfl, hX5, hk5⟩; have hK5 := hK4.trans hk5; have g4 := (hcell _ hK5).cell 4 _ rfl)
      go_end0
      exact fin _ hK5 hX5
set_option maxRecDepth 100000 in
set_option maxHeartbeats 8000000 in
theorem atom_bm (n0 b : Nat) (l L C N : List UInt8) (i r : Nat) (hi : i ≤ 25) (A : Option Addr) (m c : Nat) (M : ByteArray) (w : World) (hW : Wt n0 b l w)
    (hl : l.length + 1 + (1 + L.length) + C.length + (1 + N.length) ≤ 1000000)
    (hL : ∀ w1, Kept n0 b w w1 → Calls Tryz.prog 88 #[.int .u64 (r : Int)] w1 fun e w2 => e = .returned (.string (strOf L)) ∧ Below w1.heap.size w1 w2)
    (hC : ∀ acc w1, Kept n0 b w w1 → Wt n0 b acc w1 → acc.length + C.length ≤ 1000000 → Calls Tryz.prog 89 #[.pointer (some ⟨b, 0, none⟩), .string ⟨#[91]⟩, .slice A m c, .string ⟨#[44]⟩, .string ⟨#[93]⟩, .func (.func 78) #[.pointer (some ⟨b, 0, none⟩)] #[]] w1 (WrP n0 b acc C w1))
    (hM : M = strOf N) (hMe : M.toList.isEmpty = false) :
    Calls Tryz.prog 72 #[.pointer (some ⟨b, 0, none⟩), .agg #[.int .i64 (i : Int), .bool true, .int .u64 (r : Int), .slice A m c, .string M]] w (WrP n0 b l ([UInt8.ofNat (65 + i)] ++ (64 :: L) ++ C ++ (58 :: N)) w) := by
  obtain ⟨W, hWW⟩ : ∃ W, W = w.alloc (.cells #[.int .i64 (i : Int), .bool true, .int .u64 (r : Int), .slice A m c, .string M] 27) := ⟨_, rfl⟩
  have hn0 := wt_le hW
  have hb1 : Below w.heap.size w W := hWW ▸ b1 _ _
  have hk1 : Kept n0 b w W := Kept.of hb1 hn0
  have hBx : Bx W w.heap.size 27 [.int .i64 (i : Int), .bool true, .int .u64 (r : Int), .slice A m c, .string M] := hWW ▸ Bx.new w _ _
  have hne : w.heap.size ≠ b := by have := wt_lt hW; omega
  have hW1 := hW.later hb1
  have c0 := hBx.blk.drew.cell 0 _ rfl
  have hcell : ∀ w1, Kept n0 b W.drew w1 → Blk w1 w.heap.size [.int .i64 (i : Int), .bool true, .int .u64 (r : Int), .slice A m c, .string M] := fun w1 hk => (Bx.kept (w := W.drew) hBx hk hne (by decide)).blk
  have hP := fun w1 (h : Wt n0 b l w1) => writeByte_any n0 b l (UInt8.ofNat (65 + i)) (65 + (i : Int)) (by rw [UInt8.toNat_ofNat']; omega) w1 h (by omega) (wt_le h)
  have hwr1 : IntKind.u8.wrap (i : Int) = (i : Int) := by simp [IntKind.wrap, IntKind.signed, IntKind.bits]; omega
  have hwr2 : IntKind.u8.wrap (65 + (i : Int)) = 65 + (i : Int) := by simp [IntKind.wrap, IntKind.signed, IntKind.bits]; omega
  have hAt := fun w1 (h : Wt n0 b (l ++ [UInt8.ofNat (65 + i)]) w1) => writeByte_any n0 b (l ++ [UInt8.ofNat (65 + i)]) 64 64 rfl w1 h (by simp only [List.length_append, List.length_singleton]; omega) (wt_le h)
  have hLb := fun w1 (hk : Kept n0 b W.drew w1) => hL w1 (hk1.trans (kept_drew hk))
  have hLs := fun w1 (h : Wt n0 b (l ++ [UInt8.ofNat (65 + i)] ++ [64]) w1) => writeStr_any n0 b (l ++ [UInt8.ofNat (65 + i)] ++ [64]) L w1 h (by simp only [List.length_append, List.length_singleton]; omega) (wt_le h)
  have hLd := fun (w1 w2 w3 : World) (h : Kept n0 b W.drew w1) (h2 : Below w1.drew.heap.size w1.drew w2) (h3 : Kept n0 b w2 w3) => (h.trans (kept_drew ((Kept.of h2 (show n0 ≤ w1.heap.size from kept_n0 (b := b) (w := W.drew) (w1 := w1) h (show n0 ≤ W.heap.size from (kept_n0 hk1 hn0)))).trans h3)) : Kept n0 b W.drew w3)
  have hCl := fun w1 (hk : Kept n0 b W.drew w1) (h : Wt n0 b (l ++ [UInt8.ofNat (65 + i)] ++ [64] ++ L) w1) => hC (l ++ [UInt8.ofNat (65 + i)] ++ [64] ++ L) w1 (hk1.trans (kept_drew hk)) h (by simp only [List.length_append, List.length_singleton]; omega)
  have hCo := fun w1 (h : Wt n0 b (l ++ [UInt8.ofNat (65 + i)] ++ [64] ++ L ++ C) w1) => writeByte_any n0 b (l ++ [UInt8.ofNat (65 + i)] ++ [64] ++ L ++ C) 58 58 rfl w1 h (by simp only [List.length_append, List.length_singleton]; omega) (wt_le h)
  have hNs := fun w1 (h : Wt n0 b (l ++ [UInt8.ofNat (65 + i)] ++ [64] ++ L ++ C ++ [58]) w1) => writeLit_any n0 b (l ++ [UInt8.ofNat (65 + i)] ++ [64] ++ L ++ C ++ [58]) N M hM w1 h (by simp only [List.length_append, List.length_singleton]; omega) (wt_le h)
  have fin : ∀ w2, Kept n0 b W.drew w2 → Wt n0 b (l ++ [UInt8.ofNat (65 + i)] ++ [64] ++ L ++ C ++ [58] ++ N) w2 → WrP n0 b l ([UInt8.ofNat (65 + i)] ++ (64 :: L) ++ C ++ (58 :: N)) w (.returned (.tuple #[])) w2 := fun w2 h1 h2 => ⟨rfl, by simpa only [List.append_assoc, List.append_nil, List.cons_append, List.nil_append, List.singleton_append] using h2, hk1.trans (kept_drew h1)⟩
  have hWd := wt_drew hW1
  unfold WrP at hCl
  clear hC hW1 hBx hb1 hk1 hW hl hL hM
  go_enter Tryz.func72, Tryz.ntmps72
  go_wp2_with fail
  rw [← hWW]
  clear hWW
  go_region_with (go_at_call 77; refine (hP _ hWd).mono ?_; rintro e w1 ⟨rfl, hX1, hk1⟩)
  all_goals
    have hb := hcell _ hk1
    have c1 := hb.cell 1 _ rfl
    have c2 := hb.drew.cell 2 _ rfl
    have c3 := hb.cell 3 _ rfl
    have c4 := hb.cell 4 _ rfl
    clear hb
    go_wp2_with (go_at_call 77; with_reducible refine (hAt _ hX1).mono ?_; rintro e w2 ⟨rfl, hX2, hk2⟩; have hK2 := hk1.trans hk2; have d2 := (hcell _ hK2).drew.cell 2 _ rfl)
    go_region_with (first | (go_at_call 88; refine (hLb _ (show Kept n0 b W.drew _ from ⟨hK2.1.drew, hK2.2.drew⟩)).mono ?_; rintro e w3 ⟨rfl, hb3⟩) | (go_at_call 52; refine (hLs _ ((wt_drew hX2).later hb3)).mono ?_; rintro e w4 ⟨rfl, hX4, hk4⟩))
    all_goals
      have hK4 := hLd _ _ _ hK2 hb3 hk4
      have hb := hcell _ hK4
      have e3 := hb.cell 3 _ rfl
      clear hb
      go_wp2_with (go_at_call 89; refine (hCl _ hK4 hX4).mono ?_; rintro e w5 ⟨rfl, hX5, hk5⟩; have hK5 := hK4.trans hk5; have hb := hcell _ hK5; have g4 := hb.cell 4 _ rfl; have g4d := hb.drew.cell 4 _ rfl; clear hb)
      go_wp2_with (go_at_call 77; with_reducible refine (hCo _ hX5).mono ?_; rintro e w6 ⟨rfl, hX6, hk6⟩; have hK6 := hK5.trans hk6; have j4 := (hcell _ hK6).drew.cell 4 _ rfl)
      go_region_with (go_at_call 52; refine (hNs _ (wt_drew hX6)).mono ?_; rintro e w7 ⟨rfl, hX7, hk7⟩)
      all_goals
        go_wp2
        go_end0
        exact fin _ (hK6.trans (kept_drew hk7)) hX7
end Go.Proofs.YtmfcjaoajanlfaaGreatDoor
namespace Go.Proofs.YtmfcjaoajanlfaaGreatDoor
open Go.RowKit Go.Shelf
open A8 Tk7 Lb

theorem bel_kept {n0 b : Nat} {w0 w w1 : World} (hB : Below n0 w0 w) (hk : Kept n0 b w w1) : Below n0 w0 w1 := hB.trans hk.1
theorem sl_bel {w0 w1 : World} {sz n : Nat} {v : Value} {us : List Value} (h : Sl w0 sz n v us) (hB : Below w0.heap.size w0 w1) : Sl w1 sz n v us := h.later hB
theorem atomw_any (w0 : World) (hL : Lay w0) (b : Nat) (l : List UInt8) (g : GA) (hg : OneA w0 g) (ha : atomB g.a = true) (w : World) (hW : Wt w0.heap.size b l w) (hB : Below w0.heap.size w0 w) (hl : l.length + (atomT g.a).length ≤ 1000000) :
    Calls Tryz.prog 72 #[.pointer (some ⟨b, 0, none⟩), .agg (gaC g).toArray] w (WrP w0.heap.size b l (atomT g.a) w) := by
  obtain ⟨⟨kd, bd, bn, cs, nm⟩, sc⟩ := g
  obtain ⟨⟨-, hbn, hcs, -⟩, hsl⟩ := hg
  simp only [atomB, Bool.and_eq_true, decide_eq_true_eq] at ha
  obtain ⟨⟨⟨⟨hk1, hk2⟩, -⟩, hall⟩, -⟩ := ha
  simp only at hsl hbn hcs
  obtain ⟨i, rfl⟩ : ∃ i : Nat, kd = (i : Int) := ⟨kd.toNat, by omega⟩
  obtain ⟨r, rfl⟩ : ∃ r : Nat, bn = (r : Int) := ⟨bn.toNat, by omega⟩
  have hsl2 := hsl
  obtain ⟨A, c, rfl, -, -⟩ := sl_get (by decide) hsl
  have hn := strOf_toL nm
  have hie : i ≤ 25 := by omega
  have hT : atomT ⟨(i : Int), bd, (r : Int), cs, nm⟩ = [UInt8.ofNat (65 + i)] ++ (if bd = true then 64 :: labelT (r : Int) else []) ++ listT [91] (cs.map condT) [44] [93] ++ (if nm.isEmpty = true then [] else 58 :: nm) := rfl
  rw [hT] at hl ⊢
  simp only [List.length_append, List.length_singleton] at hl
  have hC : ∀ acc w1, Kept w0.heap.size b w w1 → Wt w0.heap.size b acc w1 → acc.length + (listT [91] (cs.map condT) [44] [93]).length ≤ 1000000 → Calls Tryz.prog 89 #[.pointer (some ⟨b, 0, none⟩), .string ⟨#[91]⟩, .slice A cs.length c, .string ⟨#[44]⟩, .string ⟨#[93]⟩, .func (.func 78) #[.pointer (some ⟨b, 0, none⟩)] #[]] w1 (WrP w0.heap.size b acc (listT [91] (cs.map condT) [44] [93]) w1) := fun acc w1 hk h1 h2 =>
    writeListCond_any w0.heap.size b (fun w2 => Below w0.heap.size w0 w2) acc [91] [44] [93] _ _ _ rfl rfl rfl _ cs condT w1 (hB.trans hk.1) (fun _ _ h k => h.trans k.1) (fun w2 h => hsl2.later h)
      (fun x hx acc w2 hI hW2 hl2 => cond_any w0 hL b acc x (List.all_eq_true.1 hall x hx) (hcs x hx) w2 hW2 hI hl2) h1 h2
  have hLb : ∀ w1, Kept w0.heap.size b w w1 → Calls Tryz.prog 88 #[.int .u64 (r : Int)] w1 fun e w2 => e = .returned (.string (strOf (labelT (r : Int)))) ∧ Below w1.heap.size w1 w2 := fun w1 hk => by
    have hL1 := hL.later (hB.trans hk.1)
    exact text_any r w1 (by omega) hL1.bru.1 hL1.bru.2
  have hMe := isEmpty_is nm
  simp only [gaC]
  cases bd with
  | true =>
    simp only [if_true, List.length_cons] at hl ⊢
    cases hem : nm.isEmpty with
    | true =>
      rw [hem] at hl hMe
      simp only [if_true, List.length_nil] at hl ⊢
      exact atom_be w0.heap.size b l _ _ i r hie A _ c (strOf nm) w hW (by omega) hLb hC hMe
    | false =>
      rw [hem] at hl hMe
      simp only [Bool.false_eq_true, if_false, List.length_cons] at hl ⊢
      exact atom_bm w0.heap.size b l _ _ nm i r hie A _ c (strOf nm) w hW (by omega) hLb hC rfl hMe
  | false =>
    simp only [Bool.false_eq_true, if_false, List.length_nil] at hl ⊢
    cases hem : nm.isEmpty with
    | true =>
      rw [hem] at hl hMe
      simp only [if_true, List.length_nil] at hl ⊢
      exact atom_ne w0.heap.size b l _ i r hie A _ c (strOf nm) w hW (by omega) hC hMe
    | false =>
      rw [hem] at hl hMe
      simp only [Bool.false_eq_true, if_false, List.length_cons] at hl ⊢
      exact atom_nm w0.heap.size b l _ nm i r hie A _ c (strOf nm) w hW (by omega) hC rfl hMe
set_option maxRecDepth 100000 in
set_option maxHeartbeats 2000000 in
theorem times1_any (w0 : World) (hL : Lay w0) (b p : Nat) (l : List UInt8) (v : Int) (hv : okV v) (w : World) (hW : Wt w0.heap.size b l w) (hB : Below w0.heap.size w0 w) (hp : Blk w p [.pointer (some ⟨b, 0, none⟩)]) (hl : l.length + (Lib.itoa v).length ≤ 1000000) :
    Calls Tryz.prog 91 #[.int .i64 v, .pointer (some ⟨p, 0, none⟩)] w (WrP w0.heap.size b l (Lib.itoa v) w) := by
  have hn := wnumber_any w0 hL b l v hv w hW hB hl
  have c0 := hp.cell 0 _ rfl
  obtain ⟨x, hx⟩ : ∃ x, x = Lib.itoa v := ⟨_, rfl⟩
  rw [← hx] at hn ⊢
  obtain ⟨n0, hn0⟩ : ∃ n0, n0 = w0.heap.size := ⟨_, rfl⟩
  rw [← hn0] at hn ⊢
  have fin : ∀ w2, Wt n0 b (l ++ x) w2 → Kept n0 b w w2 → WrP n0 b l x w (.returned (.tuple #[])) w2 := fun w2 h1 h2 => ⟨rfl, h1, h2⟩
  unfold WrP at hn
  clear hx hn0 hL hW hB hp hl
  go_enter Tryz.func91, Tryz.ntmps91
  go_wp2_with (go_at_call 53; refine hn.mono ?_; rintro e w2 ⟨rfl, h1, h2⟩)
  go_end0
  exact fin _ h1 h2
set_option maxRecDepth 100000 in
set_option maxHeartbeats 4000000 in
theorem timesw_any (w0 : World) (hL : Lay w0) (b : Nat) (l : List UInt8) (mn mx : Int) (h1 : okV mn) (h2 : okV mx) (w : World) (hW : Wt w0.heap.size b l w) (hB : Below w0.heap.size w0 w) (hl : l.length + (timesT mn mx).length ≤ 1000000) :
    Calls Tryz.prog 73 #[.pointer (some ⟨b, 0, none⟩), .int .i64 mn, .int .i64 mx] w (WrP w0.heap.size b l (timesT mn mx) w) := by
  have hn0 := wt_le hW
  by_cases hone : mn = 1 ∧ mx = 1
  · have hT : timesT mn mx = [] := if_pos hone
    obtain ⟨rfl, rfl⟩ := hone
    rw [hT]
    have fin : WrP w0.heap.size b l [] w (.returned (.tuple #[])) (w.alloc (.cells #[.pointer (some ⟨b, 0, none⟩)] 96)) := ⟨rfl, by rw [List.append_nil]; exact hW.later (b1 _ _), Kept.of (b1 _ _) hn0⟩
    clear hW hB hl hT hL h1 h2 hn0
    go_enter Tryz.func73, Tryz.ntmps73
    go_wp2
    go_end0
    exact fin
  · have hT : timesT mn mx = listT [123] ([mn, mx].map Lib.itoa) [44] [125] := if_neg hone
    rw [hT] at hl ⊢
    obtain ⟨W, hWW⟩ : ∃ W, W = (w.alloc (.cells #[.pointer (some ⟨b, 0, none⟩)] 96)).alloc (.cells #[.int .i64 mn, .int .i64 mx] 3) := ⟨_, rfl⟩
    have hlt := wt_lt hW
    have hb2 : Below w.heap.size w W := hWW ▸ b2 _ _ _
    have hX1 : Bx W w.heap.size 96 [.pointer (some ⟨b, 0, none⟩)] := by rw [hWW]; exact (Bx.new w [.pointer (some ⟨b, 0, none⟩)] _).later (b1 _ _)
    have hX2 : Bx W (w.heap.size + 1) 3 [.int .i64 mn, .int .i64 mx] := by
      rw [hWW]
      have := Bx.new (w.alloc (.cells #[.pointer (some ⟨b, 0, none⟩)] 96)) [.int .i64 mn, .int .i64 mx] 3
      rw [World.size_alloc] at this
      exact this
    have hq := writeListInt_any w0.heap.size b w.heap.size (fun w1 => Below w0.heap.size w0 w1 ∧ Bx w1 w.heap.size 96 [.pointer (some ⟨b, 0, none⟩)] ∧ Bx w1 (w.heap.size + 1) 3 [.int .i64 mn, .int .i64 mx])
      l [123] [44] [125] ⟨#[123]⟩ ⟨#[44]⟩ ⟨#[125]⟩ rfl rfl rfl (.slice (some ⟨w.heap.size + 1, 0, none⟩) 2 2) [mn, mx] Lib.itoa W ⟨hB.trans (hb2.mono hn0), hX1, hX2⟩
      (fun w1 w2 h k => ⟨h.1.trans k.1, h.2.1.kept k (by omega) (by decide), h.2.2.kept k (by omega) (by decide)⟩)
      (fun w1 h => Sl.lit h.2.2.blk 1 2 rfl (by decide))
      (fun x hx acc w1 hI hW1 hl1 => times1_any w0 hL b w.heap.size acc x (by
        rcases List.mem_cons.1 hx with rfl | hx
        · exact h1
        · rcases List.mem_cons.1 hx with rfl | hx
          · exact h2
          · cases hx) w1 hW1 hI.1 hI.2.1.blk hl1) (hW.later hb2) hl
    obtain ⟨x, hx⟩ : ∃ x, x = listT [123] ([mn, mx].map Lib.itoa) [44] [125] := ⟨_, rfl⟩
    rw [← hx] at hq ⊢
    obtain ⟨n0, hn⟩ : ∃ n0, n0 = w0.heap.size := ⟨_, rfl⟩
    rw [← hn] at hq hn0 ⊢
    have fin : ∀ w2, Wt n0 b (l ++ x) w2 → Kept n0 b W w2 → WrP n0 b l x w (.returned (.tuple #[])) w2 := fun w2 h1 h2 => ⟨rfl, h1, (Kept.of hb2 hn0).trans h2⟩
    unfold WrP at hq
    clear hx hn hL hW hB hl hT hX1 hX2 hb2 h1 h2 hlt
    by_cases e1 : mn = 1
    · have e2 : ¬ mx = 1 := fun h => hone ⟨e1, h⟩
      have e3 : (mx == 1) = false := by rw [beq_eq_false_iff_ne]; exact e2
      subst e1
      clear hone
      go_enter Tryz.func73, Tryz.ntmps73
      go_wp2_with fail
      rw [← hWW]
      clear hWW
      refine hq.mono ?_
      rintro e w2 ⟨rfl, h1, h2⟩
      go_wp2
      go_end0
      exact fin _ h1 h2
    · have e3 : (mn == 1) = false := by rw [beq_eq_false_iff_ne]; exact e1
      clear hone
      go_enter Tryz.func73, Tryz.ntmps73
      go_wp2_with fail
      rw [← hWW]
      clear hWW
      refine hq.mono ?_
      rintro e w2 ⟨rfl, h1, h2⟩
      go_wp2
      go_end0
      exact fin _ h1 h2
end Go.Proofs.YtmfcjaoajanlfaaGreatDoor
namespace Go.Proofs.YtmfcjaoajanlfaaGreatDoor
open Go.RowKit Go.Shelf
open A8 Tk7 Lb

set_option maxRecDepth 100000 in
set_option maxHeartbeats 4000000 in
theorem kid_n (n0 b p r : Nat) (l T : List UInt8) (us : List Value) (kk mn mx kd : Int) (bd : Bool) (bn : Int) (sc : Value) (nm : ByteArray) (sk : Value) (k : Int) (h4 : ¬ kk = 4) (hk : ¬ kk = k) (w : World) (hW : Wt n0 b l w) (hl : l.length + T.length ≤ 1000000)
    (hp : Bx w p 30 (.int .i64 k :: us)) (hr : Bx w r 96 [.pointer (some ⟨b, 0, none⟩)])
    (hN : ∀ acc w1, Kept n0 b w w1 → Wt n0 b acc w1 → acc.length + T.length ≤ 1000000 → Calls Tryz.prog 51 #[.pointer (some ⟨b, 0, none⟩), .agg #[.int .i64 kk, .int .i64 mn, .int .i64 mx, .int .i64 kd, .bool bd, .int .u64 bn, sc, .string nm, sk]] w1 (WrP n0 b acc T w1)) :
    Calls Tryz.prog 93 #[.agg #[.int .i64 kk, .int .i64 mn, .int .i64 mx, .int .i64 kd, .bool bd, .int .u64 bn, sc, .string nm, sk], .pointer (some ⟨p, 0, none⟩), .pointer (some ⟨r, 0, none⟩)] w (WrP n0 b l (T) w) := by
  obtain ⟨W, hWW⟩ : ∃ W, W = w.alloc (.cells #[.int .i64 kk, .int .i64 mn, .int .i64 mx, .int .i64 kd, .bool bd, .int .u64 bn, sc, .string nm, sk] 30) := ⟨_, rfl⟩
  have hn0 := wt_le hW
  have hb1 : Below w.heap.size w W := hWW ▸ b1 _ _
  have hk1 : Kept n0 b w W := Kept.of hb1 hn0
  have hBx : Bx W w.heap.size 30 [.int .i64 kk, .int .i64 mn, .int .i64 mx, .int .i64 kd, .bool bd, .int .u64 bn, sc, .string nm, sk] := hWW ▸ Bx.new w _ _
  have hne : w.heap.size ≠ b := by have := wt_lt hW; omega
  have hW1 := hW.later hb1
  have p0 : W.cell? ⟨p, 0, none⟩ = some (.int .i64 k) := (hp.later hb1).blk.cell 0 _ rfl
  have r0 : W.cell? ⟨r, 0, none⟩ = some (.pointer (some ⟨b, 0, none⟩)) := (hr.later hb1).blk.cell 0 _ rfl
  have p1 : w.cell? ⟨p, 0, none⟩ = some (.int .i64 k) := hp.blk.cell 0 _ rfl
  have r1 : w.cell? ⟨r, 0, none⟩ = some (.pointer (some ⟨b, 0, none⟩)) := hr.blk.cell 0 _ rfl
  have p2 := hp.lt
  have r2 := hr.lt
  have e4 : (kk == 4) = false := by rw [beq_eq_false_iff_ne]; exact h4
  have e5 : (kk != 4) = true := by simp only [bne, e4]; rfl
  have ek : (kk == k) = false := by rw [beq_eq_false_iff_ne]; exact hk
  have ek5 : (kk != k) = true := by simp only [bne, ek]; rfl
  have hN1 := hN l W hk1 hW1 (by omega)
  have fin : ∀ w2, Wt n0 b (l ++ T) w2 → Kept n0 b W w2 → WrP n0 b l T w (.returned (.tuple #[])) w2 := fun w2 h1 h2 => ⟨rfl, h1, hk1.trans h2⟩
  unfold WrP at hN1
  clear hN hW1 hBx hb1 hk1 hW hl hp hr
  subst hWW
  go_enter Tryz.func93, Tryz.ntmps93
  go_wp2_with (go_at_call 51; refine hN1.mono ?_; rintro e w2 ⟨rfl, h1, h2⟩)
  go_end0
  exact fin _ h1 h2
set_option maxRecDepth 100000 in
set_option maxHeartbeats 4000000 in
theorem kid_a (n0 b p r : Nat) (l T : List UInt8) (us : List Value) (mn mx kd : Int) (bd : Bool) (bn : Int) (sc : Value) (nm : ByteArray) (sk : Value) (k : Int) (w : World) (hW : Wt n0 b l w) (hl : l.length + T.length + 2 ≤ 1000000)
    (hp : Bx w p 30 (.int .i64 k :: us)) (hr : Bx w r 96 [.pointer (some ⟨b, 0, none⟩)]) (hrb : r ≠ b)
    (hN : ∀ acc w1, Kept n0 b w w1 → Wt n0 b acc w1 → acc.length + T.length ≤ 1000000 → Calls Tryz.prog 51 #[.pointer (some ⟨b, 0, none⟩), .agg #[.int .i64 4, .int .i64 mn, .int .i64 mx, .int .i64 kd, .bool bd, .int .u64 bn, sc, .string nm, sk]] w1 (WrP n0 b acc T w1)) :
    Calls Tryz.prog 93 #[.agg #[.int .i64 4, .int .i64 mn, .int .i64 mx, .int .i64 kd, .bool bd, .int .u64 bn, sc, .string nm, sk], .pointer (some ⟨p, 0, none⟩), .pointer (some ⟨r, 0, none⟩)] w (WrP n0 b l ([40] ++ T ++ [41]) w) := by
  obtain ⟨W, hWW⟩ : ∃ W, W = w.alloc (.cells #[.int .i64 4, .int .i64 mn, .int .i64 mx, .int .i64 kd, .bool bd, .int .u64 bn, sc, .string nm, sk] 30) := ⟨_, rfl⟩
  have hn0 := wt_le hW
  have hb1 : Below w.heap.size w W := hWW ▸ b1 _ _
  have hk1 : Kept n0 b w W := Kept.of hb1 hn0
  have hBx : Bx W w.heap.size 30 [.int .i64 4, .int .i64 mn, .int .i64 mx, .int .i64 kd, .bool bd, .int .u64 bn, sc, .string nm, sk] := hWW ▸ Bx.new w _ _
  have hne : w.heap.size ≠ b := by have := wt_lt hW; omega
  have hW1 := hW.later hb1
  have p0 : W.cell? ⟨p, 0, none⟩ = some (.int .i64 k) := (hp.later hb1).blk.cell 0 _ rfl
  have r0 : W.cell? ⟨r, 0, none⟩ = some (.pointer (some ⟨b, 0, none⟩)) := (hr.later hb1).blk.cell 0 _ rfl
  have p1 : w.cell? ⟨p, 0, none⟩ = some (.int .i64 k) := hp.blk.cell 0 _ rfl
  have r1 : w.cell? ⟨r, 0, none⟩ = some (.pointer (some ⟨b, 0, none⟩)) := hr.blk.cell 0 _ rfl
  have p2 := hp.lt
  have r2 := hr.lt
  have hP := writeByte_any n0 b l 40 40 rfl W hW1 (by omega) (wt_le hW1)
  have hN1 := fun w1 (hk : Kept n0 b W w1) (h : Wt n0 b (l ++ [40]) w1) => hN (l ++ [40]) w1 (hk1.trans hk) h (by simp only [List.length_append, List.length_singleton]; omega)
  have hQ := fun w1 (h : Wt n0 b (l ++ [40] ++ T) w1) => writeByte_any n0 b (l ++ [40] ++ T) 41 41 rfl w1 h (by simp only [List.length_append, List.length_singleton]; omega) (wt_le h)
  have hcell : ∀ w1, Kept n0 b W w1 → Blk w1 w.heap.size [.int .i64 4, .int .i64 mn, .int .i64 mx, .int .i64 kd, .bool bd, .int .u64 bn, sc, .string nm, sk] ∧ Blk w1 r [.pointer (some ⟨b, 0, none⟩)] := fun w1 hk => ⟨(hBx.kept hk hne (by decide)).blk, ((hr.later hb1).kept hk hrb (by decide)).blk⟩
  have fin : ∀ w2, Wt n0 b (l ++ [40] ++ T ++ [41]) w2 → Kept n0 b W w2 → WrP n0 b l ([40] ++ T ++ [41]) w (.returned (.tuple #[])) w2 := fun w2 h1 h2 => ⟨rfl, by simpa only [List.append_assoc] using h1, hk1.trans h2⟩
  unfold WrP at hN1
  clear hN hW1 hBx hb1 hk1 hW hl hp hr
  subst hWW
  go_enter Tryz.func93, Tryz.ntmps93
  go_wp2_with (go_at_call 77; with_reducible refine hP.mono ?_; rintro e w2 ⟨rfl, hX2, hk2⟩; obtain ⟨HX, HR⟩ := hcell _ hk2; have q0 := HR.cell 0 _ rfl; have d0 := HX.cell 0 _ rfl; have d1 := HX.cell 1 _ rfl; have d2 := HX.cell 2 _ rfl; have d3 := HX.cell 3 _ rfl; have d4 := HX.cell 4 _ rfl; have d5 := HX.cell 5 _ rfl; have d6 := HX.cell 6 _ rfl; have d7 := HX.cell 7 _ rfl; have d8 := HX.cell 8 _ rfl; clear HX HR)
  go_wp2_with (go_at_call 51; refine (hN1 _ hk2 hX2).mono ?_; rintro e w3 ⟨rfl, hX3, hk3⟩; obtain ⟨-, HR⟩ := hcell _ (hk2.trans hk3); have s0 := HR.cell 0 _ rfl; clear HR)
  go_wp2_with (go_at_call 77; with_reducible refine (hQ _ hX3).mono ?_; rintro e w4 ⟨rfl, hX4, hk4⟩)
  go_end0
  exact fin _ hX4 ((hk2.trans hk3).trans hk4)
set_option maxRecDepth 100000 in
set_option maxHeartbeats 4000000 in
theorem kid_s (n0 b p r : Nat) (l T : List UInt8) (us : List Value) (kk mn mx kd : Int) (bd : Bool) (bn : Int) (sc : Value) (nm : ByteArray) (sk : Value) (h4 : ¬ kk = 4) (w : World) (hW : Wt n0 b l w) (hl : l.length + T.length + 2 ≤ 1000000)
    (hp : Bx w p 30 (.int .i64 kk :: us)) (hr : Bx w r 96 [.pointer (some ⟨b, 0, none⟩)]) (hrb : r ≠ b)
    (hN : ∀ acc w1, Kept n0 b w w1 → Wt n0 b acc w1 → acc.length + T.length ≤ 1000000 → Calls Tryz.prog 51 #[.pointer (some ⟨b, 0, none⟩), .agg #[.int .i64 kk, .int .i64 mn, .int .i64 mx, .int .i64 kd, .bool bd, .int .u64 bn, sc, .string nm, sk]] w1 (WrP n0 b acc T w1)) :
    Calls Tryz.prog 93 #[.agg #[.int .i64 kk, .int .i64 mn, .int .i64 mx, .int .i64 kd, .bool bd, .int .u64 bn, sc, .string nm, sk], .pointer (some ⟨p, 0, none⟩), .pointer (some ⟨r, 0, none⟩)] w (WrP n0 b l ([40] ++ T ++ [41]) w) := by
  obtain ⟨W, hWW⟩ : ∃ W, W = w.alloc (.cells #[.int .i64 kk, .int .i64 mn, .int .i64 mx, .int .i64 kd, .bool bd, .int .u64 bn, sc, .string nm, sk] 30) := ⟨_, rfl⟩
  have hn0 := wt_le hW
  have hb1 : Below w.heap.size w W := hWW ▸ b1 _ _
  have hk1 : Kept n0 b w W := Kept.of hb1 hn0
  have hBx : Bx W w.heap.size 30 [.int .i64 kk, .int .i64 mn, .int .i64 mx, .int .i64 kd, .bool bd, .int .u64 bn, sc, .string nm, sk] := hWW ▸ Bx.new w _ _
  have hne : w.heap.size ≠ b := by have := wt_lt hW; omega
  have hW1 := hW.later hb1
  have p0 : W.cell? ⟨p, 0, none⟩ = some (.int .i64 kk) := (hp.later hb1).blk.cell 0 _ rfl
  have r0 : W.cell? ⟨r, 0, none⟩ = some (.pointer (some ⟨b, 0, none⟩)) := (hr.later hb1).blk.cell 0 _ rfl
  have p1 : w.cell? ⟨p, 0, none⟩ = some (.int .i64 kk) := hp.blk.cell 0 _ rfl
  have r1 : w.cell? ⟨r, 0, none⟩ = some (.pointer (some ⟨b, 0, none⟩)) := hr.blk.cell 0 _ rfl
  have p2 := hp.lt
  have r2 := hr.lt
  have e4 : (kk == 4) = false := by rw [beq_eq_false_iff_ne]; exact h4
  have e5 : (kk != 4) = true := by simp only [bne, e4]; rfl
  have hP := writeByte_any n0 b l 40 40 rfl W hW1 (by omega) (wt_le hW1)
  have hN1 := fun w1 (hk : Kept n0 b W w1) (h : Wt n0 b (l ++ [40]) w1) => hN (l ++ [40]) w1 (hk1.trans hk) h (by simp only [List.length_append, List.length_singleton]; omega)
  have hQ := fun w1 (h : Wt n0 b (l ++ [40] ++ T) w1) => writeByte_any n0 b (l ++ [40] ++ T) 41 41 rfl w1 h (by simp only [List.length_append, List.length_singleton]; omega) (wt_le h)
  have hcell : ∀ w1, Kept n0 b W w1 → Blk w1 w.heap.size [.int .i64 kk, .int .i64 mn, .int .i64 mx, .int .i64 kd, .bool bd, .int .u64 bn, sc, .string nm, sk] ∧ Blk w1 r [.pointer (some ⟨b, 0, none⟩)] := fun w1 hk => ⟨(hBx.kept hk hne (by decide)).blk, ((hr.later hb1).kept hk hrb (by decide)).blk⟩
  have fin : ∀ w2, Wt n0 b (l ++ [40] ++ T ++ [41]) w2 → Kept n0 b W w2 → WrP n0 b l ([40] ++ T ++ [41]) w (.returned (.tuple #[])) w2 := fun w2 h1 h2 => ⟨rfl, by simpa only [List.append_assoc] using h1, hk1.trans h2⟩
  unfold WrP at hN1
  clear hN hW1 hBx hb1 hk1 hW hl hp hr
  subst hWW
  go_enter Tryz.func93, Tryz.ntmps93
  go_wp2_with (go_at_call 77; with_reducible refine hP.mono ?_; rintro e w2 ⟨rfl, hX2, hk2⟩; obtain ⟨HX, HR⟩ := hcell _ hk2; have q0 := HR.cell 0 _ rfl; have d0 := HX.cell 0 _ rfl; have d1 := HX.cell 1 _ rfl; have d2 := HX.cell 2 _ rfl; have d3 := HX.cell 3 _ rfl; have d4 := HX.cell 4 _ rfl; have d5 := HX.cell 5 _ rfl; have d6 := HX.cell 6 _ rfl; have d7 := HX.cell 7 _ rfl; have d8 := HX.cell 8 _ rfl; clear HX HR)
  go_wp2_with (go_at_call 51; refine (hN1 _ hk2 hX2).mono ?_; rintro e w3 ⟨rfl, hX3, hk3⟩; obtain ⟨-, HR⟩ := hcell _ (hk2.trans hk3); have s0 := HR.cell 0 _ rfl; clear HR)
  go_wp2_with (go_at_call 77; with_reducible refine (hQ _ hX3).mono ?_; rintro e w4 ⟨rfl, hX4, hk4⟩)
  go_end0
  exact fin _ hX4 ((hk2.trans hk3).trans hk4)
set_option maxRecDepth 100000 in
set_option maxHeartbeats 4000000 in
theorem kids_any (n0 b : Nat) (l : List UInt8) (w0 : World) (k mn mx kd : Int) (bd : Bool) (bn : Int) (sc : Value) (nm : ByteArray) (sk : Value) (ks : List Tr) (btw : List UInt8) (sS : ByteArray) (hS : sS = strOf btw) (w : World) (hn : n0 = w0.heap.size) (hB : Below n0 w0 w)
    (hsl : Sl w0 9 ks.length sk (ks.flatMap Tr.row)) (hone : ∀ t ∈ ks, OneT w0 t) (hW : Wt n0 b l w) (hl : l.length + (sepL btw (textL k (ndL ks))).length ≤ 1000000)
    (hN : ∀ t ∈ ks, ∀ acc w1, Below n0 w0 w1 → Wt n0 b acc w1 → acc.length + (textN t.nd).length ≤ 1000000 → Calls Tryz.prog 51 #[.pointer (some ⟨b, 0, none⟩), .agg t.row.toArray] w1 (WrP n0 b acc (textN t.nd) w1)) :
    Calls Tryz.prog 74 #[.pointer (some ⟨b, 0, none⟩), .agg #[.int .i64 k, .int .i64 mn, .int .i64 mx, .int .i64 kd, .bool bd, .int .u64 bn, sc, .string nm, sk], .string sS] w (WrP n0 b l (sepL btw (textL k (ndL ks))) w) := by
  obtain ⟨W, hWW⟩ : ∃ W, W = (w.alloc (.cells #[.pointer (some ⟨b, 0, none⟩)] 96)).alloc (.cells #[.int .i64 k, .int .i64 mn, .int .i64 mx, .int .i64 kd, .bool bd, .int .u64 bn, sc, .string nm, sk] 30) := ⟨_, rfl⟩
  have hn0 := wt_le hW
  have hlt := wt_lt hW
  have hb2 : Below w.heap.size w W := hWW ▸ b2 _ _ _
  have hX1 : Bx W w.heap.size 96 [.pointer (some ⟨b, 0, none⟩)] := by rw [hWW]; exact (Bx.new w [.pointer (some ⟨b, 0, none⟩)] _).later (b1 _ _)
  have hX2 : Bx W (w.heap.size + 1) 30 [.int .i64 k, .int .i64 mn, .int .i64 mx, .int .i64 kd, .bool bd, .int .u64 bn, sc, .string nm, sk] := by
    rw [hWW]
    have := Bx.new (w.alloc (.cells #[.pointer (some ⟨b, 0, none⟩)] 96)) [.int .i64 k, .int .i64 mn, .int .i64 mx, .int .i64 kd, .bool bd, .int .u64 bn, sc, .string nm, sk] 30
    rw [World.size_alloc] at this
    exact this
  have htx : textL k (ndL ks) = ks.map fun t => wrapT k t.nd.kind (textN t.nd) := by rw [textL_map, ndL_map, List.map_map]; rfl
  have hLT : sepL btw (textL k (ndL ks)) = listT [] (ks.map fun t => wrapT k t.nd.kind (textN t.nd)) btw [] := by
    rw [htx]
    unfold listT
    cases ks with
    | nil => rfl
    | cons t ts => simp
  rw [hLT] at hl ⊢
  have hq := writeListNode_any n0 b (w.heap.size + 1) w.heap.size (fun w1 => Below n0 w0 w1 ∧ Bx w1 w.heap.size 96 [.pointer (some ⟨b, 0, none⟩)] ∧ Bx w1 (w.heap.size + 1) 30 [.int .i64 k, .int .i64 mn, .int .i64 mx, .int .i64 kd, .bool bd, .int .u64 bn, sc, .string nm, sk])
    l [] btw [] ⟨#[]⟩ sS ⟨#[]⟩ rfl hS rfl sk ks (fun t => wrapT k t.nd.kind (textN t.nd)) w0 hone W ⟨hB.trans (hb2.mono hn0), hX1, hX2⟩
    (fun w1 w2 h kk => ⟨h.1.trans kk.1, h.2.1.kept kk (by omega) (by decide), h.2.2.kept kk (by omega) (by decide)⟩)
    (fun w1 h => hsl.later (hn ▸ h.1))
    (fun t ht acc w1 hI hW1 hl1 => by
      obtain ⟨kk, mn', mx', ⟨⟨kd', bd', bn', cs', nm'⟩, sc'⟩, sk', ks'⟩ := t
      have hN1 := hN _ ht
      have hkk : Nd.kind (Tr.nd (.mk kk mn' mx' ⟨⟨kd', bd', bn', cs', nm'⟩, sc'⟩ sk' ks')) = kk := by rw [nd_mk]; rfl
      simp only [hkk] at hl1 ⊢
      simp only [Tr.row] at hN1 ⊢
      obtain ⟨T, hT⟩ : ∃ T, T = textN (Tr.nd (.mk kk mn' mx' ⟨⟨kd', bd', bn', cs', nm'⟩, sc'⟩ sk' ks')) := ⟨_, rfl⟩
      rw [← hT] at hN1 hl1 ⊢
      have hN2 := fun acc w2 (hk2 : Kept n0 b w1 w2) (h : Wt n0 b acc w2) (h2 : acc.length + T.length ≤ 1000000) => hN1 acc w2 (hI.1.trans hk2.1) h h2
      by_cases e4 : kk = 4
      · subst e4
        have hw : wrapT k 4 T = [40] ++ T ++ [41] := if_pos (.inl rfl)
        rw [hw] at hl1 ⊢
        simp only [List.length_append, List.length_singleton] at hl1
        exact kid_a n0 b (w.heap.size + 1) w.heap.size acc T _ mn' mx' kd' bd' bn' sc' (strOf nm') sk' k w1 hW1 (by omega) hI.2.2 hI.2.1 (by omega) hN2
      · by_cases ek : kk = k
        · subst ek
          have hw : wrapT kk kk T = [40] ++ T ++ [41] := if_pos (.inr rfl)
          rw [hw] at hl1 ⊢
          simp only [List.length_append, List.length_singleton] at hl1
          exact kid_s n0 b (w.heap.size + 1) w.heap.size acc T _ kk mn' mx' kd' bd' bn' sc' (strOf nm') sk' e4 w1 hW1 (by omega) hI.2.2 hI.2.1 (by omega) hN2
        · have hw : wrapT k kk T = T := if_neg (fun h => h.elim e4 ek)
          rw [hw] at hl1 ⊢
          exact kid_n n0 b (w.heap.size + 1) w.heap.size acc T _ kk mn' mx' kd' bd' bn' sc' (strOf nm') sk' k e4 ek w1 hW1 hl1 hI.2.2 hI.2.1 hN2) (hW.later hb2) hl
  obtain ⟨x, hx⟩ : ∃ x, x = listT [] (ks.map fun t => wrapT k t.nd.kind (textN t.nd)) btw [] := ⟨_, rfl⟩
  rw [← hx] at hq ⊢
  have fin : ∀ w2, Wt n0 b (l ++ x) w2 → Kept n0 b W w2 → WrP n0 b l x w (.returned (.tuple #[])) w2 := fun w2 h1 h2 => ⟨rfl, h1, (Kept.of hb2 hn0).trans h2⟩
  unfold WrP at hq
  obtain ⟨A, c, rfl, -, -⟩ := sl_get (by decide) hsl
  clear hx hW hB hl hLT htx hX1 hX2 hb2 hlt hsl hone hN hS hn
  go_enter Tryz.func74, Tryz.ntmps74
  go_wp2_with fail
  rw [← hWW]
  clear hWW
  refine hq.mono ?_
  rintro e w2 ⟨rfl, h1, h2⟩
  go_wp2
  go_end0
  exact fin _ h1 h2
end Go.Proofs.YtmfcjaoajanlfaaGreatDoor
namespace Go.Proofs.YtmfcjaoajanlfaaGreatDoor
open Go.RowKit Go.Shelf
open A8 Tk7 Lb

set_option maxRecDepth 100000 in
set_option maxHeartbeats 4000000 in
theorem node_1 (n0 b : Nat) (l : List UInt8) (X Y : List UInt8) (mn mx kd : Int) (bd : Bool) (bn : Int) (sc : Value) (nm : ByteArray) (sk : Value) (w : World) (hW : Wt n0 b l w)
    (hA : ∀ w1, Kept n0 b w w1 → Wt n0 b l w1 → Calls Tryz.prog 72 #[.pointer (some ⟨b, 0, none⟩), .agg #[.int .i64 kd, .bool bd, .int .u64 bn, sc, .string nm]] w1 (WrP n0 b l X w1))
    (hT : ∀ w1, Kept n0 b w w1 → Wt n0 b (l ++ X) w1 → Calls Tryz.prog 73 #[.pointer (some ⟨b, 0, none⟩), .int .i64 mn, .int .i64 mx] w1 (WrP n0 b (l ++ X) Y w1)) :
    Calls Tryz.prog 51 #[.pointer (some ⟨b, 0, none⟩), .agg #[.int .i64 1, .int .i64 mn, .int .i64 mx, .int .i64 kd, .bool bd, .int .u64 bn, sc, .string nm, sk]] w (WrP n0 b l (X ++ Y) w) := by
  obtain ⟨W, hWW⟩ : ∃ W, W = w.alloc (.cells #[.int .i64 1, .int .i64 mn, .int .i64 mx, .int .i64 kd, .bool bd, .int .u64 bn, sc, .string nm, sk] 30) := ⟨_, rfl⟩
  have hn0 := wt_le hW
  have hb1 : Below w.heap.size w W := hWW ▸ b1 _ _
  have hk1 : Kept n0 b w W := Kept.of hb1 hn0
  have hBx : Bx W w.heap.size 30 [.int .i64 1, .int .i64 mn, .int .i64 mx, .int .i64 kd, .bool bd, .int .u64 bn, sc, .string nm, sk] := hWW ▸ Bx.new w _ _
  have hne : w.heap.size ≠ b := by have := wt_lt hW; omega
  have hW1 := hW.later hb1
  have hcell : ∀ w1, Kept n0 b W w1 → Blk w1 w.heap.size [.int .i64 1, .int .i64 mn, .int .i64 mx, .int .i64 kd, .bool bd, .int .u64 bn, sc, .string nm, sk] := fun w1 hk => (hBx.kept hk hne (by decide)).blk
  have hA1 := hA W hk1 hW1
  have hT1 := fun w1 (hk : Kept n0 b W w1) (h : Wt n0 b (l ++ X) w1) => hT w1 (hk1.trans hk) h
  have fin : ∀ w1 w2, Wt n0 b (l ++ X ++ Y) w2 → Kept n0 b W w1 → Kept n0 b w1 w2 → WrP n0 b l (X ++ Y) w (.returned (.tuple #[])) w2 := fun w1 w2 h1 h2 h3 => ⟨rfl, by rw [← List.append_assoc]; exact h1, hk1.trans (h2.trans h3)⟩
  unfold WrP at hA1 hT1
  clear hA hT hW1 hBx hb1 hk1 hW
  subst hWW
  go_enter Tryz.func51, Tryz.ntmps51
  go_wp2_with (first | (go_at_call 72; refine hA1.mono ?_; rintro e w2 ⟨rfl, h1, h2⟩; have HX := hcell _ h2; have c1 := HX.cell 1 _ rfl; have c2 := HX.cell 2 _ rfl; clear HX) | (go_at_call 73; refine (hT1 _ h2 h1).mono ?_; rintro e w3 ⟨rfl, h3, h4⟩))
  go_end0
  exact fin _ _ h3 h2 h4
set_option maxRecDepth 100000 in
set_option maxHeartbeats 4000000 in
theorem node_2 (n0 b : Nat) (l : List UInt8) (X : List UInt8) (mn mx kd : Int) (bd : Bool) (bn : Int) (sc : Value) (nm : ByteArray) (sk : Value) (w : World) (hW : Wt n0 b l w)
    (hl : l.length + 4 ≤ 1000000) (hA : ∀ w1, Kept n0 b w w1 → Wt n0 b (l ++ [110, 111, 116, 32]) w1 → Calls Tryz.prog 72 #[.pointer (some ⟨b, 0, none⟩), .agg #[.int .i64 kd, .bool bd, .int .u64 bn, sc, .string nm]] w1 (WrP n0 b (l ++ [110, 111, 116, 32]) X w1)) :
    Calls Tryz.prog 51 #[.pointer (some ⟨b, 0, none⟩), .agg #[.int .i64 2, .int .i64 mn, .int .i64 mx, .int .i64 kd, .bool bd, .int .u64 bn, sc, .string nm, sk]] w (WrP n0 b l ([110, 111, 116, 32] ++ X) w) := by
  obtain ⟨W, hWW⟩ : ∃ W, W = w.alloc (.cells #[.int .i64 2, .int .i64 mn, .int .i64 mx, .int .i64 kd, .bool bd, .int .u64 bn, sc, .string nm, sk] 30) := ⟨_, rfl⟩
  have hn0 := wt_le hW
  have hb1 : Below w.heap.size w W := hWW ▸ b1 _ _
  have hk1 : Kept n0 b w W := Kept.of hb1 hn0
  have hBx : Bx W w.heap.size 30 [.int .i64 2, .int .i64 mn, .int .i64 mx, .int .i64 kd, .bool bd, .int .u64 bn, sc, .string nm, sk] := hWW ▸ Bx.new w _ _
  have hne : w.heap.size ≠ b := by have := wt_lt hW; omega
  have hW1 := hW.later hb1
  have hcell : ∀ w1, Kept n0 b W w1 → Blk w1 w.heap.size [.int .i64 2, .int .i64 mn, .int .i64 mx, .int .i64 kd, .bool bd, .int .u64 bn, sc, .string nm, sk] := fun w1 hk => (hBx.kept hk hne (by decide)).blk
  have hN := writeLit_any n0 b l [110, 111, 116, 32] ⟨#[110, 111, 116, 32]⟩ rfl W hW1 hl (wt_le hW1)
  have hA1 := fun w1 (hk : Kept n0 b W w1) (h : Wt n0 b (l ++ [110, 111, 116, 32]) w1) => hA w1 (hk1.trans hk) h
  have fin : ∀ w1 w2, Wt n0 b (l ++ [110, 111, 116, 32] ++ X) w2 → Kept n0 b W w1 → Kept n0 b w1 w2 → WrP n0 b l ([110, 111, 116, 32] ++ X) w (.returned (.tuple #[])) w2 := fun w1 w2 h1 h2 h3 => ⟨rfl, by rw [← List.append_assoc]; exact h1, hk1.trans (h2.trans h3)⟩
  unfold WrP at hA1
  clear hA hW1 hBx hb1 hk1 hW hl
  subst hWW
  go_enter Tryz.func51, Tryz.ntmps51
  go_wp2_with (first | (go_at_call 52; refine hN.mono ?_; rintro e w2 ⟨rfl, h1, h2⟩; have HX := hcell _ h2; have c3 := HX.cell 3 _ rfl; have c4 := HX.cell 4 _ rfl; have c5 := HX.cell 5 _ rfl; have c6 := HX.cell 6 _ rfl; have c7 := HX.cell 7 _ rfl; clear HX) | (go_at_call 72; refine (hA1 _ h2 h1).mono ?_; rintro e w3 ⟨rfl, h3, h4⟩))
  go_end0
  exact fin _ _ h3 h2 h4
set_option maxRecDepth 100000 in
set_option maxHeartbeats 4000000 in
theorem node_3 (n0 b : Nat) (l : List UInt8) (X : List UInt8) (mn mx kd : Int) (bd : Bool) (bn : Int) (sc : Value) (nm : ByteArray) (sk : Value) (w : World) (hW : Wt n0 b l w)
    (hK : ∀ w1, Kept n0 b w w1 → Wt n0 b l w1 → Calls Tryz.prog 74 #[.pointer (some ⟨b, 0, none⟩), .agg #[.int .i64 3, .int .i64 mn, .int .i64 mx, .int .i64 kd, .bool bd, .int .u64 bn, sc, .string nm, sk], .string ⟨#[32, 59, 32]⟩] w1 (WrP n0 b l X w1)) :
    Calls Tryz.prog 51 #[.pointer (some ⟨b, 0, none⟩), .agg #[.int .i64 3, .int .i64 mn, .int .i64 mx, .int .i64 kd, .bool bd, .int .u64 bn, sc, .string nm, sk]] w (WrP n0 b l (X) w) := by
  obtain ⟨W, hWW⟩ : ∃ W, W = w.alloc (.cells #[.int .i64 3, .int .i64 mn, .int .i64 mx, .int .i64 kd, .bool bd, .int .u64 bn, sc, .string nm, sk] 30) := ⟨_, rfl⟩
  have hn0 := wt_le hW
  have hb1 : Below w.heap.size w W := hWW ▸ b1 _ _
  have hk1 : Kept n0 b w W := Kept.of hb1 hn0
  have hBx : Bx W w.heap.size 30 [.int .i64 3, .int .i64 mn, .int .i64 mx, .int .i64 kd, .bool bd, .int .u64 bn, sc, .string nm, sk] := hWW ▸ Bx.new w _ _
  have hne : w.heap.size ≠ b := by have := wt_lt hW; omega
  have hW1 := hW.later hb1
  have hK1 := hK W hk1 hW1
  have fin : ∀ w2, Wt n0 b (l ++ X) w2 → Kept n0 b W w2 → WrP n0 b l X w (.returned (.tuple #[])) w2 := fun w2 h1 h2 => ⟨rfl, h1, hk1.trans h2⟩
  unfold WrP at hK1
  clear hK hW1 hBx hb1 hk1 hW hne
  subst hWW
  go_enter Tryz.func51, Tryz.ntmps51
  go_wp2_with (go_at_call 74; refine hK1.mono ?_; rintro e w2 ⟨rfl, h1, h2⟩)
  go_end0
  exact fin _ h1 h2
set_option maxRecDepth 100000 in
set_option maxHeartbeats 4000000 in
theorem node_4 (n0 b : Nat) (l : List UInt8) (X : List UInt8) (mn mx kd : Int) (bd : Bool) (bn : Int) (sc : Value) (nm : ByteArray) (sk : Value) (w : World) (hW : Wt n0 b l w)
    (hK : ∀ w1, Kept n0 b w w1 → Wt n0 b l w1 → Calls Tryz.prog 74 #[.pointer (some ⟨b, 0, none⟩), .agg #[.int .i64 4, .int .i64 mn, .int .i64 mx, .int .i64 kd, .bool bd, .int .u64 bn, sc, .string nm, sk], .string ⟨#[32, 124, 32]⟩] w1 (WrP n0 b l X w1)) :
    Calls Tryz.prog 51 #[.pointer (some ⟨b, 0, none⟩), .agg #[.int .i64 4, .int .i64 mn, .int .i64 mx, .int .i64 kd, .bool bd, .int .u64 bn, sc, .string nm, sk]] w (WrP n0 b l (X) w) := by
  obtain ⟨W, hWW⟩ : ∃ W, W = w.alloc (.cells #[.int .i64 4, .int .i64 mn, .int .i64 mx, .int .i64 kd, .bool bd, .int .u64 bn, sc, .string nm, sk] 30) := ⟨_, rfl⟩
  have hn0 := wt_le hW
  have hb1 : Below w.heap.size w W := hWW ▸ b1 _ _
  have hk1 : Kept n0 b w W := Kept.of hb1 hn0
  have hBx : Bx W w.heap.size 30 [.int .i64 4, .int .i64 mn, .int .i64 mx, .int .i64 kd, .bool bd, .int .u64 bn, sc, .string nm, sk] := hWW ▸ Bx.new w _ _
  have hne : w.heap.size ≠ b := by have := wt_lt hW; omega
  have hW1 := hW.later hb1
  have hK1 := hK W hk1 hW1
  have fin : ∀ w2, Wt n0 b (l ++ X) w2 → Kept n0 b W w2 → WrP n0 b l X w (.returned (.tuple #[])) w2 := fun w2 h1 h2 => ⟨rfl, h1, hk1.trans h2⟩
  unfold WrP at hK1
  clear hK hW1 hBx hb1 hk1 hW hne
  subst hWW
  go_enter Tryz.func51, Tryz.ntmps51
  go_wp2_with (go_at_call 74; refine hK1.mono ?_; rintro e w2 ⟨rfl, h1, h2⟩)
  go_end0
  exact fin _ h1 h2
theorem node_any (w0 : World) (hL : Lay w0) (b : Nat) (T : Tr) : ∀ (d : Nat) (l : List UInt8) (w : World), TrW w0 T → soundN d T.nd = true → Below w0.heap.size w0 w → Wt w0.heap.size b l w → l.length + (textN T.nd).length ≤ 1000000 →
    Calls Tryz.prog 51 #[.pointer (some ⟨b, 0, none⟩), .agg T.row.toArray] w (WrP w0.heap.size b l (textN T.nd) w) := by
  refine Tr.ind (P := fun T => ∀ (d : Nat) (l : List UInt8) (w : World), TrW w0 T → soundN d T.nd = true → Below w0.heap.size w0 w → Wt w0.heap.size b l w → l.length + (textN T.nd).length ≤ 1000000 →
    Calls Tryz.prog 51 #[.pointer (some ⟨b, 0, none⟩), .agg T.row.toArray] w (WrP w0.heap.size b l (textN T.nd) w)) (fun k mn mx g sk ks ih => ?_) T
  intro d l w hT hs hB hW hl
  obtain ⟨⟨-, hmn, hmx⟩, hga, hsl⟩ := hT.one
  have hkid := fun t (ht : t ∈ ks) => hT.kid ht
  have hone := fun t (ht : t ∈ ks) => (hT.kid ht).one
  rw [Tr.nd, soundN, Bool.and_eq_true, Bool.and_eq_true] at hs
  obtain ⟨⟨-, hn⟩, hks⟩ := hs
  rw [soundL_all, ndL_map, List.all_map] at hks
  have hN : ∀ t ∈ ks, ∀ acc w1, Below w0.heap.size w0 w1 → Wt w0.heap.size b acc w1 → acc.length + (textN t.nd).length ≤ 1000000 → Calls Tryz.prog 51 #[.pointer (some ⟨b, 0, none⟩), .agg t.row.toArray] w1 (WrP w0.heap.size b acc (textN t.nd) w1) := fun t ht acc w1 h1 h2 h3 =>
    ih t ht (d + 1) acc w1 (hkid t ht) (List.all_eq_true.1 hks t ht) h1 h2 h3
  obtain ⟨⟨kd, bd, bn, cs, nm⟩, sc⟩ := g
  rw [Tr.nd] at hl ⊢
  rw [textN] at hl ⊢
  simp only [Tr.row]
  dsimp only at hl hn ⊢
  unfold nodeB at hn
  by_cases e1 : k = 1
  · subst e1
    rw [if_pos rfl] at hl hn ⊢
    simp only [Bool.and_eq_true] at hn
    rw [List.length_append] at hl
    exact node_1 w0.heap.size b l _ _ mn mx kd bd bn sc (strOf nm) sk w hW
      (fun w1 hk h => atomw_any w0 hL b l ⟨⟨kd, bd, bn, cs, nm⟩, sc⟩ hga hn.1.1.1 w1 h (hB.trans hk.1) (by dsimp only; omega))
      (fun w1 hk h => timesw_any w0 hL b _ mn mx hmn hmx w1 h (hB.trans hk.1) (by rw [List.length_append]; omega))
  · rw [if_neg e1] at hl hn ⊢
    by_cases e2 : k = 2
    · subst e2
      rw [if_pos rfl] at hl hn ⊢
      simp only [Bool.and_eq_true] at hn
      rw [List.length_append] at hl
      exact node_2 w0.heap.size b l _ mn mx kd bd bn sc (strOf nm) sk w hW (by simp at hl; omega)
        (fun w1 hk h => atomw_any w0 hL b _ ⟨⟨kd, bd, bn, cs, nm⟩, sc⟩ hga hn.1.1 w1 h (hB.trans hk.1) (by dsimp only; rw [List.length_append]; omega))
    · rw [if_neg e2] at hl hn ⊢
      by_cases e3 : k = 3
      · subst e3
        rw [if_pos rfl] at hl ⊢
        exact node_3 w0.heap.size b l _ mn mx kd bd bn sc (strOf nm) sk w hW
          (fun w1 hk h => kids_any w0.heap.size b l w0 3 mn mx kd bd bn sc (strOf nm) sk ks [32, 59, 32] ⟨#[32, 59, 32]⟩ rfl w1 rfl (hB.trans hk.1) hsl hone h hl hN)
      · rw [if_neg e3] at hl ⊢
        by_cases e4 : k = 4
        · subst e4
          rw [if_pos rfl] at hl ⊢
          exact node_4 w0.heap.size b l _ mn mx kd bd bn sc (strOf nm) sk w hW
            (fun w1 hk h => kids_any w0.heap.size b l w0 4 mn mx kd bd bn sc (strOf nm) sk ks [32, 124, 32] ⟨#[32, 124, 32]⟩ rfl w1 rfl (hB.trans hk.1) hsl hone h hl hN)
        · rw [if_neg (fun h => h.elim e3 e4)] at hn
          cases hn
end Go.Proofs.YtmfcjaoajanlfaaGreatDoor
namespace Go.Proofs.YtmfcjaoajanlfaaGreatDoor
open Go.RowKit Go.Shelf
open A8 Tk7 Lb

theorem fresh_wt (n0 : Nat) (w : World) (hn : n0 ≤ w.heap.size) : Wt n0 w.heap.size [] (w.alloc (.cells #[.pointer none, .slice none 0 0] 81)) :=
  .inl ⟨hn, .slice none 0 0, World.alloc_heap_new w _, World.ownsRow_nil _ _ _ _, by simp [Value.ownBlock]⟩
set_option maxRecDepth 100000 in
set_option maxHeartbeats 2000000 in
theorem wrText_any (n0 b : Nat) (l : List UInt8) (w : World) (hW : Wt n0 b l w) (h0 : l ≠ []) :
    Calls Tryz.prog 33 #[.pointer (some ⟨b, 0, none⟩)] w fun e w' => e = .returned (.tuple #[.string (strOf (if l.length ≤ 400 then l else [])), .int .i64 (if l.length ≤ 400 then 0 else 4)]) ∧ Below n0 w w' := by
  have hLn := wrLen_any n0 b l w hW
  have hSt := wrString_any n0 b l w hW h0
  by_cases h : l.length ≤ 400
  · rw [if_pos h, if_pos h]
    have h' : ¬ (400 : Int) < (l.length : Int) := by omega
    obtain ⟨s, hs⟩ : ∃ s, s = strOf l := ⟨_, rfl⟩
    rw [← hs] at hSt ⊢
    clear hW h0 hs h
    go_enter Tryz.func33, Tryz.ntmps33
    go_wp2_with (first | (go_at_call 58; refine hLn.mono ?_; rintro e w2 ⟨rfl, rfl⟩) | (go_at_call 59; refine hSt.mono ?_; rintro e w3 ⟨rfl, hb⟩))
    go_ret2
    exact ⟨rfl, hb⟩
  · rw [if_neg h, if_neg h]
    have h' : (400 : Int) < (l.length : Int) := by omega
    clear hW h0 h hSt
    go_enter Tryz.func33, Tryz.ntmps33
    go_wp2_with (go_at_call 58; refine hLn.mono ?_; rintro e w2 ⟨rfl, rfl⟩)
    go_ret2
    exact ⟨rfl, Below.refl _ _⟩
set_option maxRecDepth 100000 in
set_option maxHeartbeats 8000000 in
theorem query_walk (n0 b : Nat) (l X Y H E : List UInt8) (k mn mx kd : Int) (bd : Bool) (bn : Int) (sc : Value) (nm : ByteArray) (sk : Value) (wi : Int) (sh se : Value) (w : World) (hW : Wt n0 b l w) (hwi : IntKind.i64.wrap wi = wi) (hl : l.length + X.length + 8 ≤ 1000000)
    (hN : ∀ w1, Kept n0 b w w1 → Wt n0 b l w1 → Calls Tryz.prog 51 #[.pointer (some ⟨b, 0, none⟩), .agg #[.int .i64 k, .int .i64 mn, .int .i64 mx, .int .i64 kd, .bool bd, .int .u64 bn, sc, .string nm, sk]] w1 (WrP n0 b l X w1))
    (hY : ∀ w1 l1, Kept n0 b w w1 → l1 = l ++ X ++ [32, 119, 105, 116, 104, 105, 110, 32] → Wt n0 b l1 w1 → Calls Tryz.prog 53 #[.pointer (some ⟨b, 0, none⟩), .int .i64 wi] w1 (WrP n0 b l1 Y w1))
    (hH : ∀ w1 l1, Kept n0 b w w1 → l1 = l ++ X ++ [32, 119, 105, 116, 104, 105, 110, 32] ++ Y → Wt n0 b l1 w1 → Calls Tryz.prog 54 #[.pointer (some ⟨b, 0, none⟩), .string ⟨#[32, 104, 97, 118, 105, 110, 103, 32]⟩, sh, .string ⟨#[32, 97, 110, 100, 32]⟩, .string ⟨#[]⟩, .func (.func 55) #[.pointer (some ⟨b, 0, none⟩)] #[]] w1 (WrP n0 b l1 H w1))
    (hE : ∀ w1 l1, Kept n0 b w w1 → l1 = l ++ X ++ [32, 119, 105, 116, 104, 105, 110, 32] ++ Y ++ H → Wt n0 b l1 w1 → Calls Tryz.prog 56 #[.pointer (some ⟨b, 0, none⟩), .string ⟨#[32, 101, 109, 105, 116, 32]⟩, se, .string ⟨#[44, 32]⟩, .string ⟨#[]⟩, .func (.func 57) #[.pointer (some ⟨b, 0, none⟩)] #[]] w1 (WrP n0 b l1 E w1)) :
    Calls Tryz.prog 32 #[.pointer (some ⟨b, 0, none⟩), .agg #[.int .i64 k, .int .i64 mn, .int .i64 mx, .int .i64 kd, .bool bd, .int .u64 bn, sc, .string nm, sk, .int .u64 wi, sh, se]] w (WrP n0 b l (X ++ [32, 119, 105, 116, 104, 105, 110, 32] ++ Y ++ H ++ E) w) := by
  obtain ⟨W, hWW⟩ : ∃ W, W = w.alloc (.cells #[.int .i64 k, .int .i64 mn, .int .i64 mx, .int .i64 kd, .bool bd, .int .u64 bn, sc, .string nm, sk, .int .u64 wi, sh, se] 34) := ⟨_, rfl⟩
  have hn0 := wt_le hW
  have hb1 : Below w.heap.size w W := hWW ▸ b1 _ _
  have hk1 : Kept n0 b w W := Kept.of hb1 hn0
  have hBx : Bx W w.heap.size 34 [.int .i64 k, .int .i64 mn, .int .i64 mx, .int .i64 kd, .bool bd, .int .u64 bn, sc, .string nm, sk, .int .u64 wi, sh, se] := hWW ▸ Bx.new w _ _
  have hne : w.heap.size ≠ b := by have := wt_lt hW; omega
  have hW1 := hW.later hb1
  have hcell : ∀ w1, Kept n0 b W w1 → Blk w1 w.heap.size [.int .i64 k, .int .i64 mn, .int .i64 mx, .int .i64 kd, .bool bd, .int .u64 bn, sc, .string nm, sk, .int .u64 wi, sh, se] := fun w1 hk => (hBx.kept hk hne (by decide)).blk
  have hN1 := hN W hk1 hW1
  have hS1 := fun w1 (h : Wt n0 b (l ++ X) w1) => writeLit_any n0 b (l ++ X) [32, 119, 105, 116, 104, 105, 110, 32] ⟨#[32, 119, 105, 116, 104, 105, 110, 32]⟩ rfl w1 h (by rw [List.length_append]; simp only [List.length_cons, List.length_nil]; omega) (wt_le h)
  obtain ⟨l1, hl1⟩ : ∃ l1, l1 = l ++ X ++ [32, 119, 105, 116, 104, 105, 110, 32] := ⟨_, rfl⟩
  have hY1 := fun w1 (hk : Kept n0 b W w1) (h : Wt n0 b l1 w1) => hY w1 l1 (hk1.trans hk) hl1 h
  have hH1 := fun w1 (hk : Kept n0 b W w1) (h : Wt n0 b (l1 ++ Y) w1) => hH w1 (l1 ++ Y) (hk1.trans hk) (by rw [hl1]) h
  have hE1 := fun w1 (hk : Kept n0 b W w1) (h : Wt n0 b (l1 ++ Y ++ H) w1) => hE w1 (l1 ++ Y ++ H) (hk1.trans hk) (by rw [hl1]) h
  have fin : ∀ w2, Wt n0 b (l1 ++ Y ++ H ++ E) w2 → Kept n0 b W w2 → WrP n0 b l (X ++ [32, 119, 105, 116, 104, 105, 110, 32] ++ Y ++ H ++ E) w (.returned (.tuple #[])) w2 := fun w2 h1 h2 => ⟨rfl, by rw [hl1] at h1; simpa only [List.append_assoc] using h1, hk1.trans h2⟩
  rw [← hl1] at hS1
  unfold WrP at hN1 hY1 hH1 hE1
  clear hN hY hH hE hW1 hBx hb1 hk1 hW hne hl1 hl
  subst hWW
  go_enter Tryz.func32, Tryz.ntmps32
  go_wp2_with (go_at_call 51; refine hN1.mono ?_; rintro e w2 ⟨rfl, h2, k2⟩)
  go_wp2_with (go_at_call 52; refine (hS1 _ h2).mono ?_; rintro e w3 ⟨rfl, h3, k3⟩; have hK3 := k2.trans k3; have c9 := (hcell _ hK3).cell 9 _ rfl)
  go_wp2_with (go_at_call 53; refine (hY1 _ hK3 h3).mono ?_; rintro e w4 ⟨rfl, h4, k4⟩; have hK4 := hK3.trans k4; have c10 := (hcell _ hK4).cell 10 _ rfl)
  go_wp2_with (go_at_call 54; refine (hH1 _ hK4 h4).mono ?_; rintro e w5 ⟨rfl, h5, k5⟩; have hK5 := hK4.trans k5; have c11 := (hcell _ hK5).cell 11 _ rfl)
  go_wp2_with (go_at_call 56; refine (hE1 _ hK5 h5).mono ?_; rintro e w6 ⟨rfl, h6, k6⟩)
  go_end0
  exact fin _ h6 (hK5.trans k6)
end Go.Proofs.YtmfcjaoajanlfaaGreatDoor
namespace Go.Proofs.YtmfcjaoajanlfaaGreatDoor
open Go.RowKit Go.Shelf
open A8 Tk7 Lb

theorem queryw_any (w0 : World) (hL : Lay w0) (b : Nat) (l : List UInt8) (q : GQ) (hq : QW w0 q) (hc : checkB q.qu = true) (w : World) (hW : Wt w0.heap.size b l w) (hB : Below w0.heap.size w0 w) (hl : l.length + (queryT q.qu).length ≤ 1000000) :
    Calls Tryz.prog 32 #[.pointer (some ⟨b, 0, none⟩), .agg q.row.toArray] w (WrP w0.heap.size b l (queryT q.qu) w) := by
  obtain ⟨T, wi, sh, hv, se, em⟩ := q
  obtain ⟨hT, hwi, hh, he, hoh, hoe⟩ := hq
  have hT0 : queryT (GQ.qu ⟨T, wi, sh, hv, se, em⟩) = textN T.nd ++ [32, 119, 105, 116, 104, 105, 110, 32] ++ Lib.itoa wi ++ listT [32, 104, 97, 118, 105, 110, 103, 32] (hv.map haveT) [32, 97, 110, 100, 32] [] ++ listT [32, 101, 109, 105, 116, 32] (em.map aggT) [44, 32] [] := rfl
  have hc0 : checkB (GQ.qu ⟨T, wi, sh, hv, se, em⟩) = (soundN 1 T.nd && decide (wi ≤ 99999) && hv.all haveB && em.all aggB) := rfl
  rw [hc0, Bool.and_eq_true, Bool.and_eq_true, Bool.and_eq_true, decide_eq_true_eq] at hc
  obtain ⟨⟨⟨hs, hw⟩, hhv⟩, hem⟩ := hc
  simp only at hT hwi hh he hoh hoe
  rw [hT0] at hl ⊢
  simp only [List.length_append, List.length_cons, List.length_nil] at hl
  have hok : okV wi := by unfold okV; omega
  have hX := node_any w0 hL b T 1
  obtain ⟨n0, hn⟩ : ∃ n0, n0 = w0.heap.size := ⟨_, rfl⟩
  have hrow : GQ.row ⟨T, wi, sh, hv, se, em⟩ = T.row ++ [.int .u64 wi, sh, se] := rfl
  rw [hrow]
  have hN := fun w1 (hk : Kept w0.heap.size b w w1) (h : Wt w0.heap.size b l w1) => hX l w1 hT hs (hB.trans hk.1) h (by omega)
  obtain ⟨k, mn, mx, ⟨⟨kd, bd, bn, cs, nm⟩, sc⟩, sk, ks⟩ := T
  have hwr : IntKind.i64.wrap wi = wi := IntWalk.i64_in _ ⟨by omega, by omega⟩
  exact query_walk w0.heap.size b l _ _ _ _ k mn mx kd bd bn sc (strOf nm) sk wi sh se w hW hwr (by omega)
    hN
    (fun w1 l1 hk hl1 h => wnumber_any w0 hL b l1 wi hok w1 h (hB.trans hk.1) (by rw [hl1]; simp only [List.length_append, List.length_cons, List.length_nil]; omega))
    (fun w1 l1 hk hl1 h => writeListHave_any w0.heap.size b (fun w2 => Below w0.heap.size w0 w2) l1 [32, 104, 97, 118, 105, 110, 103, 32] [32, 97, 110, 100, 32] [] _ _ _ rfl rfl rfl sh hv haveT w1 (hB.trans hk.1) (fun _ _ h k => h.trans k.1) (fun w2 h => hh.later h)
      (fun x hx acc w2 hI hW2 hl2 => have_any w0 hL b acc x (List.all_eq_true.1 hhv x hx) (hoh x hx).1 w2 hW2 hI hl2) h (by rw [hl1]; simp only [List.length_append, List.length_cons, List.length_nil]; omega))
    (fun w1 l1 hk hl1 h => writeListAgg_any w0.heap.size b (fun w2 => Below w0.heap.size w0 w2) l1 [32, 101, 109, 105, 116, 32] [44, 32] [] _ _ _ rfl rfl rfl se em aggT w1 (hB.trans hk.1) (fun _ _ h k => h.trans k.1) (fun w2 h => he.later h)
      (fun x hx acc w2 hI hW2 hl2 => agg_any w0 hL b acc x (List.all_eq_true.1 hem x hx) w2 hW2 hI hl2) h (by rw [hl1]; simp only [List.length_append, List.length_cons, List.length_nil]; omega))
theorem text_ne {d : Nat} {n : Nd} (h : soundN d n = true) : textN n ≠ [] := by
  cases n with
  | mk k mn mx a ks =>
    rw [soundN, Bool.and_eq_true, Bool.and_eq_true] at h
    have hn := h.1.2
    unfold nodeB at hn
    rw [textN]
    have ha : atomT a ≠ [] := by simp [atomT]
    by_cases e1 : k = 1
    · rw [if_pos e1]
      simp [ha]
    · rw [if_neg e1] at hn ⊢
      by_cases e2 : k = 2
      · rw [if_pos e2]; simp
      · rw [if_neg e2] at hn ⊢
        have h2 : (k = 3 ∨ k = 4) ∧ 2 ≤ ks.length := by
          by_cases e : k = 3 ∨ k = 4
          · rw [if_pos e] at hn
            simp only [Bool.and_eq_true, decide_eq_true_eq] at hn
            exact ⟨e, hn.2⟩
          · rw [if_neg e] at hn; cases hn
        have hsep : ∀ s : List UInt8, s ≠ [] → sepL s (textL k ks) ≠ [] := fun s hs => by
          rw [textL_map]
          cases ks with
          | nil => simp at h2
          | cons x r =>
            cases r with
            | nil => simp at h2
            | cons y r => simp [sepL, hs]
        rcases h2.1 with e | e
        · rw [if_pos e]; exact hsep _ (by simp)
        · rw [if_neg (by omega), if_pos e]; exact hsep _ (by simp)
end Go.Proofs.YtmfcjaoajanlfaaGreatDoor
namespace Go.Proofs.YtmfcjaoajanlfaaGreatDoor
open Go.RowKit Go.Shelf
open A8 Tk7 Lb

theorem qrow_is (k mn mx kd : Int) (bd : Bool) (bn : Int) (cs : List Cn) (nm : List UInt8) (sc sk : Value) (ks : List Tr) (wi : Int) (sh se : Value) (hv : List Hv) (em : List Ag) :
    GQ.row ⟨.mk k mn mx ⟨⟨kd, bd, bn, cs, nm⟩, sc⟩ sk ks, wi, sh, hv, se, em⟩ = [.int .i64 k, .int .i64 mn, .int .i64 mx, .int .i64 kd, .bool bd, .int .u64 bn, sc, .string (strOf nm), sk, .int .u64 wi, sh, se] := rfl
theorem query_ne (q : Qu) : queryT q ≠ [] := by
  unfold queryT
  simp
set_option maxRecDepth 100000 in
set_option maxHeartbeats 4000000 in
theorem print_any (q : GQ) (w : World) (hL : Lay w) (hq : QW w q) (hlen : (subsT q.t).length ≤ 999999) (hl : (queryT q.qu).length ≤ 1000000) :
    Calls Tryz.prog 13 #[.agg q.row.toArray] w fun e w' => e = .returned (.tuple #[.string (strOf (printS q.qu)), .int .i64 (printE q.qu)]) ∧ Below w.heap.size w w' := by
  have hS := fun w1 (hb : Below w.heap.size w w1) => checkq_any q w1 (hq.later hb) hlen (hL.sg.later hb)
  have hX := queryw_any w hL
  have hse : checkE q.qu = if checkB q.qu = true then 0 else 3 := rfl
  rw [hse] at hS
  cases hs : checkB q.qu with
  | false =>
    have h1 : printS q.qu = [] := by unfold printS; rw [hs, if_neg (by simp)]
    have h2 : printE q.qu = 3 := by unfold printE; rw [hs, if_neg (by simp)]
    rw [h1, h2]
    rw [hs] at hS
    clear h1 h2 hse hX hq hL hs hl hlen
    obtain ⟨⟨k, mn, mx, ⟨⟨kd, bd, bn, cs, nm⟩, sc⟩, sk, ks⟩, wi, sh, hv, se, em⟩ := q
    rw [qrow_is] at hS ⊢
    go_enter Tryz.func13, Tryz.ntmps13
    go_wp2_with (go_at_call 31; refine (hS _ (b1 _ _)).mono ?_; rintro e w2 ⟨rfl, hb2⟩)
    go_ret2
    exact ⟨rfl, bstep (b1 _ _) hb2⟩
  | true =>
    have h1 : printS q.qu = if (queryT q.qu).length ≤ 400 then queryT q.qu else [] := by
      unfold printS
      rw [hs]
      simp only [true_and]
    have h2 : printE q.qu = if (queryT q.qu).length ≤ 400 then 0 else 4 := by unfold printE; rw [hs, if_pos rfl]
    have hne := query_ne q.qu
    rw [h1, h2]
    have hN := fun b w1 (h : Below w.heap.size w w1) (hW : Wt w.heap.size b [] w1) => hX b [] q hq hs w1 hW h (by simpa using hl)
    rw [hs, if_pos rfl] at hS
    obtain ⟨x, hx⟩ : ∃ x, x = queryT q.qu := ⟨_, rfl⟩
    rw [← hx] at hN hne ⊢
    have hTx := fun b w1 (hW : Wt w.heap.size b x w1) => wrText_any w.heap.size b x w1 hW hne
    unfold WrP at hN
    simp only [List.nil_append] at hN
    obtain ⟨S, hSS⟩ : ∃ S, S = strOf (if x.length ≤ 400 then x else []) := ⟨_, rfl⟩
    obtain ⟨E, hE⟩ : ∃ E : Int, E = if x.length ≤ 400 then 0 else 4 := ⟨_, rfl⟩
    rw [← hSS, ← hE] at hTx ⊢
    clear h1 h2 hse hX hq hL hs hl hx hSS hE hne hlen
    have hbx : ∀ w1, Below (w.alloc (.cells q.row.toArray 34)).heap.size (w.alloc (.cells q.row.toArray 34)) w1 → Blk w1 w.heap.size q.row := fun w1 hb => (Blk.new w _ _).later hb
    obtain ⟨⟨k, mn, mx, ⟨⟨kd, bd, bn, cs, nm⟩, sc⟩, sk, ks⟩, wi, sh, hv, se, em⟩ := q
    rw [qrow_is] at hS hbx ⊢
    simp only [qrow_is] at hN
    go_enter Tryz.func13, Tryz.ntmps13
    go_wp2_with (go_at_call 31; refine (hS _ (b1 _ _)).mono ?_; rintro e w2 ⟨rfl, hb2⟩; have hB := hbx _ hb2; have c0 := hB.cell 0 _ rfl; have c1 := hB.cell 1 _ rfl; have c2 := hB.cell 2 _ rfl; have c3 := hB.cell 3 _ rfl; have c4 := hB.cell 4 _ rfl; have c5 := hB.cell 5 _ rfl; have c6 := hB.cell 6 _ rfl; have c7 := hB.cell 7 _ rfl; have c8 := hB.cell 8 _ rfl; have c9 := hB.cell 9 _ rfl; have c10 := hB.cell 10 _ rfl; have c11 := hB.cell 11 _ rfl; have clt := hB.lt; clear hB)
    have hb3 := bstep (b1 w _) hb2
    refine (hN w2.heap.size _ (hb3.trans ((b1 w2 _).mono hb3.size)) (fresh_wt w.heap.size w2 hb3.size)).mono ?_
    rintro e w3 ⟨rfl, h3, k3⟩
    have hb4 : Below w.heap.size w w3 := (hb3.trans ((b1 w2 _).mono hb3.size)).trans k3.1
    go_wp2_with (go_at_call 33; refine (hTx _ _ h3).mono ?_; rintro e w4 ⟨rfl, h4⟩)
    go_ret2
    exact ⟨rfl, hb4.trans h4⟩
end Go.Proofs.YtmfcjaoajanlfaaGreatDoor
