/- Walks: lists that are written, first part. Made by program (wip/tools/gen_astL.py). -/
import Derived.Test.YtfibmdbplfghcaaGreatDoorAstX
namespace Go.Proofs.YtfibmdbplfghcaaGreatDoor
open Go.RowKit Go.Shelf
open A8 Tk7

def inC (x : Int) : List Value := [.int .i64 x]
theorem inC_len (x : Int) : (inC x).length = 1 := rfl
theorem sepL_snoc (s : List UInt8) : ∀ (xs : List (List UInt8)) (y : List UInt8), sepL s (xs ++ [y]) = if xs = [] then y else sepL s xs ++ s ++ y
  | [], y => rfl
  | [x], y => rfl
  | x :: z :: r, y => by
    have ih := sepL_snoc s (z :: r) y
    rw [if_neg (by simp)] at ih ⊢
    show x ++ s ++ sepL s ((z :: r) ++ [y]) = x ++ s ++ sepL s (z :: r) ++ s ++ y
    rw [ih]
    simp only [List.append_assoc]
theorem sepL_take (s : List UInt8) (xs : List (List UInt8)) (k : Nat) (h : k < xs.length) : sepL s (xs.take (k + 1)) = if k = 0 then xs[k] else sepL s (xs.take k) ++ s ++ xs[k] := by
  rw [take_snoc xs k h, sepL_snoc]
  by_cases hk : k = 0
  · subst hk; rfl
  · rw [if_neg hk, if_neg]
    intro e
    have := congrArg List.length e
    rw [List.length_take, List.length_nil] at this
    omega
theorem sepL_take_le (s : List UInt8) (xs : List (List UInt8)) : ∀ k, (sepL s (xs.take k)).length ≤ (sepL s xs).length := by
  intro k
  by_cases hk : k < xs.length
  · have step : ∀ j, j < xs.length → (sepL s (xs.take j)).length ≤ (sepL s (xs.take (j + 1))).length := fun j hj => by
      rw [sepL_take s xs j hj]
      by_cases h0 : j = 0
      · subst h0; simp [sepL]
      · rw [if_neg h0]; simp only [List.length_append]; omega
    have all : ∀ d, k + d ≤ xs.length → (sepL s (xs.take k)).length ≤ (sepL s (xs.take (k + d))).length := fun d => by
      induction d with
      | zero => intro _; exact Nat.le_refl _
      | succ d ih => intro h; exact Nat.le_trans (ih (by omega)) (step (k + d) (by omega))
    have := all (xs.length - k) (by omega)
    rw [show k + (xs.length - k) = xs.length by omega, List.take_length] at this
    exact this
  · rw [List.take_of_length_le (by omega)]
    exact Nat.le_refl _
set_option maxRecDepth 100000 in
set_option maxHeartbeats 8000000 in
theorem writeListCond_any (n0 b : Nat) (Inv : World → Prop) (l bef btw aft : List UInt8) (sB sS sA : ByteArray) (hsB : sB = strOf bef) (hsS : sS = strOf btw) (hsA : sA = strOf aft) (v : Value) (items : List Cn) (txt : Cn → List UInt8) (w : World)
    (hI : Inv w) (hIk : ∀ w1 w2, Inv w1 → Kept n0 b w1 w2 → Inv w2) (hel : ∀ w1, Inv w1 → Sl w1 2 items.length v (items.flatMap cnC))
    (hwr : ∀ x ∈ items, ∀ acc w1, Inv w1 → Wt n0 b acc w1 → acc.length + (txt x).length ≤ 1000000 → Calls Tryz.prog 101 #[.pointer (some ⟨b, 0, none⟩), .agg (cnC x).toArray] w1 (WrP n0 b acc (txt x) w1))
    (hW : Wt n0 b l w) (hl : l.length + (listT bef (items.map txt) btw aft).length ≤ 1000000) :
    Calls Tryz.prog 104 #[.pointer (some ⟨b, 0, none⟩), .string sB, v, .string sS, .string sA, .func (.func 101) #[.pointer (some ⟨b, 0, none⟩)] #[]] w (WrP n0 b l (listT bef (items.map txt) btw aft) w) := by
  obtain ⟨A, cap, rfl, hm, -⟩ := sl_els (by decide) cnC_len (hel w hI)
  by_cases h0 : items.length = 0
  · have hi : items = [] := List.eq_nil_of_length_eq_zero h0
    subst hi
    have fin : WrP n0 b l (listT bef (([] : List Cn).map txt) btw aft) w (.returned (.tuple #[])) w := ⟨rfl, by simpa [listT] using hW, Kept.refl _ _ _⟩
    clear hel hwr hW hl hIk hI
    go_enter Tryz.func104, Tryz.ntmps104
    go_wp2
    go_end0
    exact fin
  · have hlt_eq : listT bef (items.map txt) btw aft = bef ++ sepL btw (items.map txt) ++ aft := by
      unfold listT
      rw [if_neg]
      simp only [List.isEmpty_iff, List.map_eq_nil_iff]
      exact fun e => h0 (by rw [e]; rfl)
    rw [hlt_eq] at hl ⊢
    simp only [List.length_append] at hl
    have hne : ((items.length : Int) == 0) = false := by rw [beq_eq_false_iff_ne]; omega
    have hH := writeLit_any n0 b l bef sB hsB w hW (by omega) (wt_le hW)
    have hLast := fun w1 (h : Wt n0 b (l ++ bef ++ sepL btw (items.map txt)) w1) => writeLit_any n0 b _ aft sA hsA w1 h (by simp only [List.length_append]; omega) (wt_le h)
    have HE := Lib.hid hel
    have HI := Lib.hid hI
    have HQ := Lib.hid hwr
    have HL := Lib.hid hLast
    have hn00 := wt_le hW
    have HSS := Lib.hid hsS
    clear hel hwr hW hsB hsS hsA hlt_eq hI hLast
    go_enter Tryz.func104, Tryz.ntmps104
    go_wp2_with (go_at_call 68; refine hH.mono ?_; rintro e w1 ⟨rfl, hW1, hk1⟩)
    go_loopg [24] items.length (fun g iv wr => ∃ k : Nat, k ≤ items.length ∧ g = items.length - k ∧ iv = .int .i64 (k : Int) ∧ Hid (Wt n0 b (l ++ bef ++ sepL btw ((items.map txt).take k)) wr) ∧ Hid (Kept n0 b w wr))
    case atStart => exact ⟨0, Nat.zero_le _, rfl, rfl, Lib.hid (by simpa [sepL] using hW1), Lib.hid hk1⟩
    case round =>
      clear hH hk1 hW1
      obtain ⟨k, hk, hg, rfl, hWr, hkr⟩ := hrel
      by_cases hlt : k < items.length
      · have hIr := hIk _ _ HI.out hkr.out
        obtain ⟨A', cap', hAA, -, hels⟩ := sl_els (by decide) cnC_len (HE.out wr hIr)
        obtain ⟨a, hAe, ha, E⟩ := hels k hlt
        injection hAA with hA1 hA2 hA3
        subst hA1
        subst hAe
        clear hels hA2 hA3
        have hsep := sepL_take btw (items.map txt) k (by simpa using hlt)
        have hlen2 := sepL_take_le btw (items.map txt) (k + 1)
        have hn0 := wt_le hWr.out
        obtain ⟨x, hx⟩ : ∃ x, x = items[k] := ⟨_, rfl⟩
        have hxm : (items.map txt)[k]'(by simpa using hlt) = txt x := by simp [hx]
        rw [hxm] at hsep
        have hq := fun acc w1 (h1 : Inv w1) (h2 : Wt n0 b acc w1) (h3 : acc.length + (txt x).length ≤ 1000000) => HQ.out x (hx ▸ List.getElem_mem hlt) acc w1 h1 h2 h3
        rw [← hx] at E
        obtain ⟨u, hu⟩ : ∃ u, u = txt x := ⟨_, rfl⟩
        rw [← hu] at hq hsep
        obtain ⟨acc, hacc⟩ : ∃ acc, acc = l ++ bef ++ sepL btw ((items.map txt).take k) := ⟨_, rfl⟩
        rw [← hacc] at hWr
        have h1 : (k : Int) < (items.length : Int) := by omega
        have hwk : IntKind.i64.wrap ((k : Int) + 1) = (k : Int) + 1 := IntWalk.i64_in _ ⟨by omega, by omega⟩
        clear hxm hu
        simp only [cnC] at E hq
        unfold WrP at hq
        have c0 := E.at0 _ rfl
        have c1 := E.at1 1 _ (by decide) rfl
        clear E
        by_cases hk0 : k = 0
        · have hk00 : ¬ (0 : Int) < (k : Int) := by omega
          rw [if_pos hk0] at hsep
          have hz : (items.map txt).take k = [] := by rw [hk0]; rfl
          have hfit : acc.length + u.length ≤ 1000000 := by rw [hacc, hz]; rw [hsep] at hlen2; simp [sepL] at hlen2 ⊢; omega
          have hfin : ∀ w2, Wt n0 b (acc ++ u) w2 → Wt n0 b (l ++ bef ++ sepL btw ((items.map txt).take (k + 1))) w2 := fun w2 h => by rw [hsep, ← show acc = l ++ bef by rw [hacc, hz]; simp [sepL]]; exact h
          have hq1 := hq acc (wr.alloc (.cells #[.int .i64 x.op, .int .i64 x.va] 59)) (hIk _ _ hIr (Kept.of (b1 wr (.cells #[.int .i64 x.op, .int .i64 x.va] 59)) hn0)) (hWr.out.later (b1 wr (.cells #[.int .i64 x.op, .int .i64 x.va] 59))) hfit
          have hkf : ∀ w2, Kept n0 b (wr.alloc (.cells #[.int .i64 x.op, .int .i64 x.va] 59)) w2 → Kept n0 b w w2 := fun w2 h => hkr.out.trans ((Kept.of (b1 wr (.cells #[.int .i64 x.op, .int .i64 x.va] 59)) hn0).trans h)
          clear hq hsep hlen2 hacc hx hk0 hz
          go_wp2_with (go_at_call 101; refine hq1.mono ?_; rintro e w2 ⟨rfl, hW2, hk2⟩)
          go_roundg (items.length - (k + 1))
          case rel => exact ⟨k + 1, by omega, rfl, by go_num, Lib.hid (hfin _ hW2), Lib.hid (hkf _ hk2)⟩
          case measure => omega
        · have hk00 : (0 : Int) < (k : Int) := by omega
          rw [if_neg hk0] at hsep
          have hfit : acc.length + btw.length + u.length ≤ 1000000 := by rw [hacc]; rw [hsep] at hlen2; simp only [List.length_append] at hlen2 ⊢; omega
          have hfin : ∀ w2, Wt n0 b (acc ++ btw ++ u) w2 → Wt n0 b (l ++ bef ++ sepL btw ((items.map txt).take (k + 1))) w2 := fun w2 h => by rw [hsep]; rw [hacc] at h; simpa only [List.append_assoc] using h
          have hs1 := writeLit_any n0 b acc btw sS HSS.out (wr.alloc (.cells #[.int .i64 x.op, .int .i64 x.va] 59)) (hWr.out.later (b1 wr (.cells #[.int .i64 x.op, .int .i64 x.va] 59))) (by omega) (Nat.le_trans hn0 (by simp))
          have hq1 := fun w1 (hk : Kept n0 b (wr.alloc (.cells #[.int .i64 x.op, .int .i64 x.va] 59)) w1) (h : Wt n0 b (acc ++ btw) w1) => hq (acc ++ btw) w1 (hIk _ _ (hIk _ _ hIr (Kept.of (b1 wr (.cells #[.int .i64 x.op, .int .i64 x.va] 59)) hn0)) hk) h (by rw [List.length_append]; omega)
          have hkf : ∀ w1 w2, Kept n0 b (wr.alloc (.cells #[.int .i64 x.op, .int .i64 x.va] 59)) w1 → Kept n0 b w1 w2 → Kept n0 b w w2 := fun w1 w2 h h2 => hkr.out.trans (((Kept.of (b1 wr (.cells #[.int .i64 x.op, .int .i64 x.va] 59)) hn0).trans h).trans h2)
          have hBx : Bx (wr.alloc (.cells #[.int .i64 x.op, .int .i64 x.va] 59)) wr.heap.size 59 [.int .i64 x.op, .int .i64 x.va] := Bx.new wr [.int .i64 x.op, .int .i64 x.va] 59
          have hbl : wr.heap.size ≠ b := by have := wt_lt hWr.out; omega
          have hcell : ∀ w1, Kept n0 b (wr.alloc (.cells #[.int .i64 x.op, .int .i64 x.va] 59)) w1 → Blk w1 wr.heap.size [.int .i64 x.op, .int .i64 x.va] := fun w1 hk => (hBx.kept hk hbl (by decide)).blk
          clear hq hsep hlen2 hacc hx hk0 hBx hbl
          go_wp2_with (first | (go_at_call 68; refine hs1.mono ?_; rintro e w1 ⟨rfl, hW1, hk1⟩; have HX := hcell _ hk1; have d0 := HX.cell 0 _ rfl; have d1 := HX.cell 1 _ rfl; clear HX) | (go_at_call 101; refine (hq1 _ hk1 hW1).mono ?_; rintro e w2 ⟨rfl, hW2, hk2⟩))
          go_roundg (items.length - (k + 1))
          case rel => exact ⟨k + 1, by omega, rfl, by go_num, Lib.hid (hfin _ hW2), Lib.hid (hkf _ _ hk1 hk2)⟩
          case measure => omega
      · have h1 : ¬ (k : Int) < (items.length : Int) := by omega
        have hall : (items.map txt).take k = items.map txt := List.take_of_length_le (by simp; omega)
        rw [hall] at hWr
        have hLL := HL.out wr hWr.out
        have fin : ∀ w2, Wt n0 b (l ++ bef ++ sepL btw (items.map txt) ++ aft) w2 → Kept n0 b wr w2 → WrP n0 b l (bef ++ sepL btw (items.map txt) ++ aft) w (.returned (.tuple #[])) w2 := fun w2 h1 h2 => ⟨rfl, by simpa only [List.append_assoc] using h1, hkr.out.trans h2⟩
        clear hall HE HQ HL HI
        go_wp2_with (go_at_call 68; refine hLL.mono ?_; rintro e w2 ⟨rfl, hW2, hk2⟩)
        go_end0
        exact fin _ hW2 hk2
set_option maxRecDepth 100000 in
set_option maxHeartbeats 8000000 in
theorem writeListAgg_any (n0 b : Nat) (Inv : World → Prop) (l bef btw aft : List UInt8) (sB sS sA : ByteArray) (hsB : sB = strOf bef) (hsS : sS = strOf btw) (hsA : sA = strOf aft) (v : Value) (items : List Ag) (txt : Ag → List UInt8) (w : World)
    (hI : Inv w) (hIk : ∀ w1 w2, Inv w1 → Kept n0 b w1 w2 → Inv w2) (hel : ∀ w1, Inv w1 → Sl w1 2 items.length v (items.flatMap agC))
    (hwr : ∀ x ∈ items, ∀ acc w1, Inv w1 → Wt n0 b acc w1 → acc.length + (txt x).length ≤ 1000000 → Calls Tryz.prog 73 #[.pointer (some ⟨b, 0, none⟩), .agg (agC x).toArray] w1 (WrP n0 b acc (txt x) w1))
    (hW : Wt n0 b l w) (hl : l.length + (listT bef (items.map txt) btw aft).length ≤ 1000000) :
    Calls Tryz.prog 72 #[.pointer (some ⟨b, 0, none⟩), .string sB, v, .string sS, .string sA, .func (.func 73) #[.pointer (some ⟨b, 0, none⟩)] #[]] w (WrP n0 b l (listT bef (items.map txt) btw aft) w) := by
  obtain ⟨A, cap, rfl, hm, -⟩ := sl_els (by decide) agC_len (hel w hI)
  by_cases h0 : items.length = 0
  · have hi : items = [] := List.eq_nil_of_length_eq_zero h0
    subst hi
    have fin : WrP n0 b l (listT bef (([] : List Ag).map txt) btw aft) w (.returned (.tuple #[])) w := ⟨rfl, by simpa [listT] using hW, Kept.refl _ _ _⟩
    clear hel hwr hW hl hIk hI
    go_enter Tryz.func72, Tryz.ntmps72
    go_wp2
    go_end0
    exact fin
  · have hlt_eq : listT bef (items.map txt) btw aft = bef ++ sepL btw (items.map txt) ++ aft := by
      unfold listT
      rw [if_neg]
      simp only [List.isEmpty_iff, List.map_eq_nil_iff]
      exact fun e => h0 (by rw [e]; rfl)
    rw [hlt_eq] at hl ⊢
    simp only [List.length_append] at hl
    have hne : ((items.length : Int) == 0) = false := by rw [beq_eq_false_iff_ne]; omega
    have hH := writeLit_any n0 b l bef sB hsB w hW (by omega) (wt_le hW)
    have hLast := fun w1 (h : Wt n0 b (l ++ bef ++ sepL btw (items.map txt)) w1) => writeLit_any n0 b _ aft sA hsA w1 h (by simp only [List.length_append]; omega) (wt_le h)
    have HE := Lib.hid hel
    have HI := Lib.hid hI
    have HQ := Lib.hid hwr
    have HL := Lib.hid hLast
    have hn00 := wt_le hW
    have HSS := Lib.hid hsS
    clear hel hwr hW hsB hsS hsA hlt_eq hI hLast
    go_enter Tryz.func72, Tryz.ntmps72
    go_wp2_with (go_at_call 68; refine hH.mono ?_; rintro e w1 ⟨rfl, hW1, hk1⟩)
    go_loopg [24] items.length (fun g iv wr => ∃ k : Nat, k ≤ items.length ∧ g = items.length - k ∧ iv = .int .i64 (k : Int) ∧ Hid (Wt n0 b (l ++ bef ++ sepL btw ((items.map txt).take k)) wr) ∧ Hid (Kept n0 b w wr))
    case atStart => exact ⟨0, Nat.zero_le _, rfl, rfl, Lib.hid (by simpa [sepL] using hW1), Lib.hid hk1⟩
    case round =>
      clear hH hk1 hW1
      obtain ⟨k, hk, hg, rfl, hWr, hkr⟩ := hrel
      by_cases hlt : k < items.length
      · have hIr := hIk _ _ HI.out hkr.out
        obtain ⟨A', cap', hAA, -, hels⟩ := sl_els (by decide) agC_len (HE.out wr hIr)
        obtain ⟨a, hAe, ha, E⟩ := hels k hlt
        injection hAA with hA1 hA2 hA3
        subst hA1
        subst hAe
        clear hels hA2 hA3
        have hsep := sepL_take btw (items.map txt) k (by simpa using hlt)
        have hlen2 := sepL_take_le btw (items.map txt) (k + 1)
        have hn0 := wt_le hWr.out
        obtain ⟨x, hx⟩ : ∃ x, x = items[k] := ⟨_, rfl⟩
        have hxm : (items.map txt)[k]'(by simpa using hlt) = txt x := by simp [hx]
        rw [hxm] at hsep
        have hq := fun acc w1 (h1 : Inv w1) (h2 : Wt n0 b acc w1) (h3 : acc.length + (txt x).length ≤ 1000000) => HQ.out x (hx ▸ List.getElem_mem hlt) acc w1 h1 h2 h3
        rw [← hx] at E
        obtain ⟨u, hu⟩ : ∃ u, u = txt x := ⟨_, rfl⟩
        rw [← hu] at hq hsep
        obtain ⟨acc, hacc⟩ : ∃ acc, acc = l ++ bef ++ sepL btw ((items.map txt).take k) := ⟨_, rfl⟩
        rw [← hacc] at hWr
        have h1 : (k : Int) < (items.length : Int) := by omega
        have hwk : IntKind.i64.wrap ((k : Int) + 1) = (k : Int) + 1 := IntWalk.i64_in _ ⟨by omega, by omega⟩
        clear hxm hu
        simp only [agC] at E hq
        unfold WrP at hq
        have c0 := E.at0 _ rfl
        have c1 := E.at1 1 _ (by decide) rfl
        clear E
        by_cases hk0 : k = 0
        · have hk00 : ¬ (0 : Int) < (k : Int) := by omega
          rw [if_pos hk0] at hsep
          have hz : (items.map txt).take k = [] := by rw [hk0]; rfl
          have hfit : acc.length + u.length ≤ 1000000 := by rw [hacc, hz]; rw [hsep] at hlen2; simp [sepL] at hlen2 ⊢; omega
          have hfin : ∀ w2, Wt n0 b (acc ++ u) w2 → Wt n0 b (l ++ bef ++ sepL btw ((items.map txt).take (k + 1))) w2 := fun w2 h => by rw [hsep, ← show acc = l ++ bef by rw [hacc, hz]; simp [sepL]]; exact h
          have hq1 := hq acc (wr.alloc (.cells #[.int .i64 x.fn, .string (strOf x.nm)] 57)) (hIk _ _ hIr (Kept.of (b1 wr (.cells #[.int .i64 x.fn, .string (strOf x.nm)] 57)) hn0)) (hWr.out.later (b1 wr (.cells #[.int .i64 x.fn, .string (strOf x.nm)] 57))) hfit
          have hkf : ∀ w2, Kept n0 b (wr.alloc (.cells #[.int .i64 x.fn, .string (strOf x.nm)] 57)) w2 → Kept n0 b w w2 := fun w2 h => hkr.out.trans ((Kept.of (b1 wr (.cells #[.int .i64 x.fn, .string (strOf x.nm)] 57)) hn0).trans h)
          clear hq hsep hlen2 hacc hx hk0 hz
          go_wp2_with (go_at_call 73; refine hq1.mono ?_; rintro e w2 ⟨rfl, hW2, hk2⟩)
          go_roundg (items.length - (k + 1))
          case rel => exact ⟨k + 1, by omega, rfl, by go_num, Lib.hid (hfin _ hW2), Lib.hid (hkf _ hk2)⟩
          case measure => omega
        · have hk00 : (0 : Int) < (k : Int) := by omega
          rw [if_neg hk0] at hsep
          have hfit : acc.length + btw.length + u.length ≤ 1000000 := by rw [hacc]; rw [hsep] at hlen2; simp only [List.length_append] at hlen2 ⊢; omega
          have hfin : ∀ w2, Wt n0 b (acc ++ btw ++ u) w2 → Wt n0 b (l ++ bef ++ sepL btw ((items.map txt).take (k + 1))) w2 := fun w2 h => by rw [hsep]; rw [hacc] at h; simpa only [List.append_assoc] using h
          have hs1 := writeLit_any n0 b acc btw sS HSS.out (wr.alloc (.cells #[.int .i64 x.fn, .string (strOf x.nm)] 57)) (hWr.out.later (b1 wr (.cells #[.int .i64 x.fn, .string (strOf x.nm)] 57))) (by omega) (Nat.le_trans hn0 (by simp))
          have hq1 := fun w1 (hk : Kept n0 b (wr.alloc (.cells #[.int .i64 x.fn, .string (strOf x.nm)] 57)) w1) (h : Wt n0 b (acc ++ btw) w1) => hq (acc ++ btw) w1 (hIk _ _ (hIk _ _ hIr (Kept.of (b1 wr (.cells #[.int .i64 x.fn, .string (strOf x.nm)] 57)) hn0)) hk) h (by rw [List.length_append]; omega)
          have hkf : ∀ w1 w2, Kept n0 b (wr.alloc (.cells #[.int .i64 x.fn, .string (strOf x.nm)] 57)) w1 → Kept n0 b w1 w2 → Kept n0 b w w2 := fun w1 w2 h h2 => hkr.out.trans (((Kept.of (b1 wr (.cells #[.int .i64 x.fn, .string (strOf x.nm)] 57)) hn0).trans h).trans h2)
          have hBx : Bx (wr.alloc (.cells #[.int .i64 x.fn, .string (strOf x.nm)] 57)) wr.heap.size 57 [.int .i64 x.fn, .string (strOf x.nm)] := Bx.new wr [.int .i64 x.fn, .string (strOf x.nm)] 57
          have hbl : wr.heap.size ≠ b := by have := wt_lt hWr.out; omega
          have hcell : ∀ w1, Kept n0 b (wr.alloc (.cells #[.int .i64 x.fn, .string (strOf x.nm)] 57)) w1 → Blk w1 wr.heap.size [.int .i64 x.fn, .string (strOf x.nm)] := fun w1 hk => (hBx.kept hk hbl (by decide)).blk
          clear hq hsep hlen2 hacc hx hk0 hBx hbl
          go_wp2_with (first | (go_at_call 68; refine hs1.mono ?_; rintro e w1 ⟨rfl, hW1, hk1⟩; have HX := hcell _ hk1; have d0 := HX.cell 0 _ rfl; have d1 := HX.cell 1 _ rfl; clear HX) | (go_at_call 73; refine (hq1 _ hk1 hW1).mono ?_; rintro e w2 ⟨rfl, hW2, hk2⟩))
          go_roundg (items.length - (k + 1))
          case rel => exact ⟨k + 1, by omega, rfl, by go_num, Lib.hid (hfin _ hW2), Lib.hid (hkf _ _ hk1 hk2)⟩
          case measure => omega
      · have h1 : ¬ (k : Int) < (items.length : Int) := by omega
        have hall : (items.map txt).take k = items.map txt := List.take_of_length_le (by simp; omega)
        rw [hall] at hWr
        have hLL := HL.out wr hWr.out
        have fin : ∀ w2, Wt n0 b (l ++ bef ++ sepL btw (items.map txt) ++ aft) w2 → Kept n0 b wr w2 → WrP n0 b l (bef ++ sepL btw (items.map txt) ++ aft) w (.returned (.tuple #[])) w2 := fun w2 h1 h2 => ⟨rfl, by simpa only [List.append_assoc] using h1, hkr.out.trans h2⟩
        clear hall HE HQ HL HI
        go_wp2_with (go_at_call 68; refine hLL.mono ?_; rintro e w2 ⟨rfl, hW2, hk2⟩)
        go_end0
        exact fin _ hW2 hk2
set_option maxRecDepth 100000 in
set_option maxHeartbeats 8000000 in
theorem writeListHave_any (n0 b : Nat) (Inv : World → Prop) (l bef btw aft : List UInt8) (sB sS sA : ByteArray) (hsB : sB = strOf bef) (hsS : sS = strOf btw) (hsA : sA = strOf aft) (v : Value) (items : List Hv) (txt : Hv → List UInt8) (w : World)
    (hI : Inv w) (hIk : ∀ w1 w2, Inv w1 → Kept n0 b w1 w2 → Inv w2) (hel : ∀ w1, Inv w1 → Sl w1 4 items.length v (items.flatMap hvC))
    (hwr : ∀ x ∈ items, ∀ acc w1, Inv w1 → Wt n0 b acc w1 → acc.length + (txt x).length ≤ 1000000 → Calls Tryz.prog 71 #[.pointer (some ⟨b, 0, none⟩), .agg (hvC x).toArray] w1 (WrP n0 b acc (txt x) w1))
    (hW : Wt n0 b l w) (hl : l.length + (listT bef (items.map txt) btw aft).length ≤ 1000000) :
    Calls Tryz.prog 70 #[.pointer (some ⟨b, 0, none⟩), .string sB, v, .string sS, .string sA, .func (.func 71) #[.pointer (some ⟨b, 0, none⟩)] #[]] w (WrP n0 b l (listT bef (items.map txt) btw aft) w) := by
  obtain ⟨A, cap, rfl, hm, -⟩ := sl_els (by decide) hvC_len (hel w hI)
  by_cases h0 : items.length = 0
  · have hi : items = [] := List.eq_nil_of_length_eq_zero h0
    subst hi
    have fin : WrP n0 b l (listT bef (([] : List Hv).map txt) btw aft) w (.returned (.tuple #[])) w := ⟨rfl, by simpa [listT] using hW, Kept.refl _ _ _⟩
    clear hel hwr hW hl hIk hI
    go_enter Tryz.func70, Tryz.ntmps70
    go_wp2
    go_end0
    exact fin
  · have hlt_eq : listT bef (items.map txt) btw aft = bef ++ sepL btw (items.map txt) ++ aft := by
      unfold listT
      rw [if_neg]
      simp only [List.isEmpty_iff, List.map_eq_nil_iff]
      exact fun e => h0 (by rw [e]; rfl)
    rw [hlt_eq] at hl ⊢
    simp only [List.length_append] at hl
    have hne : ((items.length : Int) == 0) = false := by rw [beq_eq_false_iff_ne]; omega
    have hH := writeLit_any n0 b l bef sB hsB w hW (by omega) (wt_le hW)
    have hLast := fun w1 (h : Wt n0 b (l ++ bef ++ sepL btw (items.map txt)) w1) => writeLit_any n0 b _ aft sA hsA w1 h (by simp only [List.length_append]; omega) (wt_le h)
    have HE := Lib.hid hel
    have HI := Lib.hid hI
    have HQ := Lib.hid hwr
    have HL := Lib.hid hLast
    have hn00 := wt_le hW
    have HSS := Lib.hid hsS
    clear hel hwr hW hsB hsS hsA hlt_eq hI hLast
    go_enter Tryz.func70, Tryz.ntmps70
    go_wp2_with (go_at_call 68; refine hH.mono ?_; rintro e w1 ⟨rfl, hW1, hk1⟩)
    go_loopg [24] items.length (fun g iv wr => ∃ k : Nat, k ≤ items.length ∧ g = items.length - k ∧ iv = .int .i64 (k : Int) ∧ Hid (Wt n0 b (l ++ bef ++ sepL btw ((items.map txt).take k)) wr) ∧ Hid (Kept n0 b w wr))
    case atStart => exact ⟨0, Nat.zero_le _, rfl, rfl, Lib.hid (by simpa [sepL] using hW1), Lib.hid hk1⟩
    case round =>
      clear hH hk1 hW1
      obtain ⟨k, hk, hg, rfl, hWr, hkr⟩ := hrel
      by_cases hlt : k < items.length
      · have hIr := hIk _ _ HI.out hkr.out
        obtain ⟨A', cap', hAA, -, hels⟩ := sl_els (by decide) hvC_len (HE.out wr hIr)
        obtain ⟨a, hAe, ha, E⟩ := hels k hlt
        injection hAA with hA1 hA2 hA3
        subst hA1
        subst hAe
        clear hels hA2 hA3
        have hsep := sepL_take btw (items.map txt) k (by simpa using hlt)
        have hlen2 := sepL_take_le btw (items.map txt) (k + 1)
        have hn0 := wt_le hWr.out
        obtain ⟨x, hx⟩ : ∃ x, x = items[k] := ⟨_, rfl⟩
        have hxm : (items.map txt)[k]'(by simpa using hlt) = txt x := by simp [hx]
        rw [hxm] at hsep
        have hq := fun acc w1 (h1 : Inv w1) (h2 : Wt n0 b acc w1) (h3 : acc.length + (txt x).length ≤ 1000000) => HQ.out x (hx ▸ List.getElem_mem hlt) acc w1 h1 h2 h3
        rw [← hx] at E
        obtain ⟨u, hu⟩ : ∃ u, u = txt x := ⟨_, rfl⟩
        rw [← hu] at hq hsep
        obtain ⟨acc, hacc⟩ : ∃ acc, acc = l ++ bef ++ sepL btw ((items.map txt).take k) := ⟨_, rfl⟩
        rw [← hacc] at hWr
        have h1 : (k : Int) < (items.length : Int) := by omega
        have hwk : IntKind.i64.wrap ((k : Int) + 1) = (k : Int) + 1 := IntWalk.i64_in _ ⟨by omega, by omega⟩
        clear hxm hu
        simp only [hvC] at E hq
        unfold WrP at hq
        have c0 := E.at0 _ rfl
        have c1 := E.at1 1 _ (by decide) rfl
        have c2 := E.at1 2 _ (by decide) rfl
        have c3 := E.at1 3 _ (by decide) rfl
        clear E
        by_cases hk0 : k = 0
        · have hk00 : ¬ (0 : Int) < (k : Int) := by omega
          rw [if_pos hk0] at hsep
          have hz : (items.map txt).take k = [] := by rw [hk0]; rfl
          have hfit : acc.length + u.length ≤ 1000000 := by rw [hacc, hz]; rw [hsep] at hlen2; simp [sepL] at hlen2 ⊢; omega
          have hfin : ∀ w2, Wt n0 b (acc ++ u) w2 → Wt n0 b (l ++ bef ++ sepL btw ((items.map txt).take (k + 1))) w2 := fun w2 h => by rw [hsep, ← show acc = l ++ bef by rw [hacc, hz]; simp [sepL]]; exact h
          have hq1 := hq acc (wr.alloc (.cells #[.int .i64 x.ag.fn, .string (strOf x.ag.nm), .int .i64 x.cn.op, .int .i64 x.cn.va] 61)) (hIk _ _ hIr (Kept.of (b1 wr (.cells #[.int .i64 x.ag.fn, .string (strOf x.ag.nm), .int .i64 x.cn.op, .int .i64 x.cn.va] 61)) hn0)) (hWr.out.later (b1 wr (.cells #[.int .i64 x.ag.fn, .string (strOf x.ag.nm), .int .i64 x.cn.op, .int .i64 x.cn.va] 61))) hfit
          have hkf : ∀ w2, Kept n0 b (wr.alloc (.cells #[.int .i64 x.ag.fn, .string (strOf x.ag.nm), .int .i64 x.cn.op, .int .i64 x.cn.va] 61)) w2 → Kept n0 b w w2 := fun w2 h => hkr.out.trans ((Kept.of (b1 wr (.cells #[.int .i64 x.ag.fn, .string (strOf x.ag.nm), .int .i64 x.cn.op, .int .i64 x.cn.va] 61)) hn0).trans h)
          clear hq hsep hlen2 hacc hx hk0 hz
          go_wp2_with (go_at_call 71; refine hq1.mono ?_; rintro e w2 ⟨rfl, hW2, hk2⟩)
          go_roundg (items.length - (k + 1))
          case rel => exact ⟨k + 1, by omega, rfl, by go_num, Lib.hid (hfin _ hW2), Lib.hid (hkf _ hk2)⟩
          case measure => omega
        · have hk00 : (0 : Int) < (k : Int) := by omega
          rw [if_neg hk0] at hsep
          have hfit : acc.length + btw.length + u.length ≤ 1000000 := by rw [hacc]; rw [hsep] at hlen2; simp only [List.length_append] at hlen2 ⊢; omega
          have hfin : ∀ w2, Wt n0 b (acc ++ btw ++ u) w2 → Wt n0 b (l ++ bef ++ sepL btw ((items.map txt).take (k + 1))) w2 := fun w2 h => by rw [hsep]; rw [hacc] at h; simpa only [List.append_assoc] using h
          have hs1 := writeLit_any n0 b acc btw sS HSS.out (wr.alloc (.cells #[.int .i64 x.ag.fn, .string (strOf x.ag.nm), .int .i64 x.cn.op, .int .i64 x.cn.va] 61)) (hWr.out.later (b1 wr (.cells #[.int .i64 x.ag.fn, .string (strOf x.ag.nm), .int .i64 x.cn.op, .int .i64 x.cn.va] 61))) (by omega) (Nat.le_trans hn0 (by simp))
          have hq1 := fun w1 (hk : Kept n0 b (wr.alloc (.cells #[.int .i64 x.ag.fn, .string (strOf x.ag.nm), .int .i64 x.cn.op, .int .i64 x.cn.va] 61)) w1) (h : Wt n0 b (acc ++ btw) w1) => hq (acc ++ btw) w1 (hIk _ _ (hIk _ _ hIr (Kept.of (b1 wr (.cells #[.int .i64 x.ag.fn, .string (strOf x.ag.nm), .int .i64 x.cn.op, .int .i64 x.cn.va] 61)) hn0)) hk) h (by rw [List.length_append]; omega)
          have hkf : ∀ w1 w2, Kept n0 b (wr.alloc (.cells #[.int .i64 x.ag.fn, .string (strOf x.ag.nm), .int .i64 x.cn.op, .int .i64 x.cn.va] 61)) w1 → Kept n0 b w1 w2 → Kept n0 b w w2 := fun w1 w2 h h2 => hkr.out.trans (((Kept.of (b1 wr (.cells #[.int .i64 x.ag.fn, .string (strOf x.ag.nm), .int .i64 x.cn.op, .int .i64 x.cn.va] 61)) hn0).trans h).trans h2)
          have hBx : Bx (wr.alloc (.cells #[.int .i64 x.ag.fn, .string (strOf x.ag.nm), .int .i64 x.cn.op, .int .i64 x.cn.va] 61)) wr.heap.size 61 [.int .i64 x.ag.fn, .string (strOf x.ag.nm), .int .i64 x.cn.op, .int .i64 x.cn.va] := Bx.new wr [.int .i64 x.ag.fn, .string (strOf x.ag.nm), .int .i64 x.cn.op, .int .i64 x.cn.va] 61
          have hbl : wr.heap.size ≠ b := by have := wt_lt hWr.out; omega
          have hcell : ∀ w1, Kept n0 b (wr.alloc (.cells #[.int .i64 x.ag.fn, .string (strOf x.ag.nm), .int .i64 x.cn.op, .int .i64 x.cn.va] 61)) w1 → Blk w1 wr.heap.size [.int .i64 x.ag.fn, .string (strOf x.ag.nm), .int .i64 x.cn.op, .int .i64 x.cn.va] := fun w1 hk => (hBx.kept hk hbl (by decide)).blk
          clear hq hsep hlen2 hacc hx hk0 hBx hbl
          go_wp2_with (first | (go_at_call 68; refine hs1.mono ?_; rintro e w1 ⟨rfl, hW1, hk1⟩; have HX := hcell _ hk1; have d0 := HX.cell 0 _ rfl; have d1 := HX.cell 1 _ rfl; have d2 := HX.cell 2 _ rfl; have d3 := HX.cell 3 _ rfl; clear HX) | (go_at_call 71; refine (hq1 _ hk1 hW1).mono ?_; rintro e w2 ⟨rfl, hW2, hk2⟩))
          go_roundg (items.length - (k + 1))
          case rel => exact ⟨k + 1, by omega, rfl, by go_num, Lib.hid (hfin _ hW2), Lib.hid (hkf _ _ hk1 hk2)⟩
          case measure => omega
      · have h1 : ¬ (k : Int) < (items.length : Int) := by omega
        have hall : (items.map txt).take k = items.map txt := List.take_of_length_le (by simp; omega)
        rw [hall] at hWr
        have hLL := HL.out wr hWr.out
        have fin : ∀ w2, Wt n0 b (l ++ bef ++ sepL btw (items.map txt) ++ aft) w2 → Kept n0 b wr w2 → WrP n0 b l (bef ++ sepL btw (items.map txt) ++ aft) w (.returned (.tuple #[])) w2 := fun w2 h1 h2 => ⟨rfl, by simpa only [List.append_assoc] using h1, hkr.out.trans h2⟩
        clear hall HE HQ HL HI
        go_wp2_with (go_at_call 68; refine hLL.mono ?_; rintro e w2 ⟨rfl, hW2, hk2⟩)
        go_end0
        exact fin _ hW2 hk2
set_option maxRecDepth 100000 in
set_option maxHeartbeats 8000000 in
theorem writeListInt_any (n0 b : Nat) (p : Nat) (Inv : World → Prop) (l bef btw aft : List UInt8) (sB sS sA : ByteArray) (hsB : sB = strOf bef) (hsS : sS = strOf btw) (hsA : sA = strOf aft) (v : Value) (items : List Int) (txt : Int → List UInt8) (w : World)
    (hI : Inv w) (hIk : ∀ w1 w2, Inv w1 → Kept n0 b w1 w2 → Inv w2) (hel : ∀ w1, Inv w1 → Sl w1 1 items.length v (items.flatMap inC))
    (hwr : ∀ x ∈ items, ∀ acc w1, Inv w1 → Wt n0 b acc w1 → acc.length + (txt x).length ≤ 1000000 → Calls Tryz.prog 106 #[.int .i64 x, .pointer (some ⟨p, 0, none⟩)] w1 (WrP n0 b acc (txt x) w1))
    (hW : Wt n0 b l w) (hl : l.length + (listT bef (items.map txt) btw aft).length ≤ 1000000) :
    Calls Tryz.prog 105 #[.pointer (some ⟨b, 0, none⟩), .string sB, v, .string sS, .string sA, .func (.func 106) #[] #[.pointer (some ⟨p, 0, none⟩)]] w (WrP n0 b l (listT bef (items.map txt) btw aft) w) := by
  obtain ⟨A, cap, rfl, hm, -⟩ := sl_els (by decide) inC_len (hel w hI)
  by_cases h0 : items.length = 0
  · have hi : items = [] := List.eq_nil_of_length_eq_zero h0
    subst hi
    have fin : WrP n0 b l (listT bef (([] : List Int).map txt) btw aft) w (.returned (.tuple #[])) w := ⟨rfl, by simpa [listT] using hW, Kept.refl _ _ _⟩
    clear hel hwr hW hl hIk hI
    go_enter Tryz.func105, Tryz.ntmps105
    go_wp2
    go_end0
    exact fin
  · have hlt_eq : listT bef (items.map txt) btw aft = bef ++ sepL btw (items.map txt) ++ aft := by
      unfold listT
      rw [if_neg]
      simp only [List.isEmpty_iff, List.map_eq_nil_iff]
      exact fun e => h0 (by rw [e]; rfl)
    rw [hlt_eq] at hl ⊢
    simp only [List.length_append] at hl
    have hne : ((items.length : Int) == 0) = false := by rw [beq_eq_false_iff_ne]; omega
    have hH := writeLit_any n0 b l bef sB hsB w hW (by omega) (wt_le hW)
    have hLast := fun w1 (h : Wt n0 b (l ++ bef ++ sepL btw (items.map txt)) w1) => writeLit_any n0 b _ aft sA hsA w1 h (by simp only [List.length_append]; omega) (wt_le h)
    have HE := Lib.hid hel
    have HI := Lib.hid hI
    have HQ := Lib.hid hwr
    have HL := Lib.hid hLast
    have hn00 := wt_le hW
    have HSS := Lib.hid hsS
    clear hel hwr hW hsB hsS hsA hlt_eq hI hLast
    go_enter Tryz.func105, Tryz.ntmps105
    go_wp2_with (go_at_call 68; refine hH.mono ?_; rintro e w1 ⟨rfl, hW1, hk1⟩)
    go_loopg [24] items.length (fun g iv wr => ∃ k : Nat, k ≤ items.length ∧ g = items.length - k ∧ iv = .int .i64 (k : Int) ∧ Hid (Wt n0 b (l ++ bef ++ sepL btw ((items.map txt).take k)) wr) ∧ Hid (Kept n0 b w wr))
    case atStart => exact ⟨0, Nat.zero_le _, rfl, rfl, Lib.hid (by simpa [sepL] using hW1), Lib.hid hk1⟩
    case round =>
      clear hH hk1 hW1
      obtain ⟨k, hk, hg, rfl, hWr, hkr⟩ := hrel
      by_cases hlt : k < items.length
      · have hIr := hIk _ _ HI.out hkr.out
        obtain ⟨A', cap', hAA, -, hels⟩ := sl_els (by decide) inC_len (HE.out wr hIr)
        obtain ⟨a, hAe, ha, E⟩ := hels k hlt
        injection hAA with hA1 hA2 hA3
        subst hA1
        subst hAe
        clear hels hA2 hA3
        have hsep := sepL_take btw (items.map txt) k (by simpa using hlt)
        have hlen2 := sepL_take_le btw (items.map txt) (k + 1)
        have hn0 := wt_le hWr.out
        obtain ⟨x, hx⟩ : ∃ x, x = items[k] := ⟨_, rfl⟩
        have hxm : (items.map txt)[k]'(by simpa using hlt) = txt x := by simp [hx]
        rw [hxm] at hsep
        have hq := fun acc w1 (h1 : Inv w1) (h2 : Wt n0 b acc w1) (h3 : acc.length + (txt x).length ≤ 1000000) => HQ.out x (hx ▸ List.getElem_mem hlt) acc w1 h1 h2 h3
        rw [← hx] at E
        obtain ⟨u, hu⟩ : ∃ u, u = txt x := ⟨_, rfl⟩
        rw [← hu] at hq hsep
        obtain ⟨acc, hacc⟩ : ∃ acc, acc = l ++ bef ++ sepL btw ((items.map txt).take k) := ⟨_, rfl⟩
        rw [← hacc] at hWr
        have h1 : (k : Int) < (items.length : Int) := by omega
        have hwk : IntKind.i64.wrap ((k : Int) + 1) = (k : Int) + 1 := IntWalk.i64_in _ ⟨by omega, by omega⟩
        clear hxm hu
        simp only [inC, Nat.mul_one] at E
        unfold WrP at hq
        have c0 := E.at0 _ rfl
        clear E
        by_cases hk0 : k = 0
        · have hk00 : ¬ (0 : Int) < (k : Int) := by omega
          rw [if_pos hk0] at hsep
          have hz : (items.map txt).take k = [] := by rw [hk0]; rfl
          have hfit : acc.length + u.length ≤ 1000000 := by rw [hacc, hz]; rw [hsep] at hlen2; simp [sepL] at hlen2 ⊢; omega
          have hfin : ∀ w2, Wt n0 b (acc ++ u) w2 → Wt n0 b (l ++ bef ++ sepL btw ((items.map txt).take (k + 1))) w2 := fun w2 h => by rw [hsep, ← show acc = l ++ bef by rw [hacc, hz]; simp [sepL]]; exact h
          have hq1 := hq acc wr (hIk _ _ hIr (Kept.refl _ _ wr)) (hWr.out) hfit
          have hkf : ∀ w2, Kept n0 b wr w2 → Kept n0 b w w2 := fun w2 h => hkr.out.trans ((Kept.refl _ _ wr).trans h)
          clear hq hsep hlen2 hacc hx hk0 hz
          go_wp2_with (go_at_call 106; refine hq1.mono ?_; rintro e w2 ⟨rfl, hW2, hk2⟩)
          go_roundg (items.length - (k + 1))
          case rel => exact ⟨k + 1, by omega, rfl, by go_num, Lib.hid (hfin _ hW2), Lib.hid (hkf _ hk2)⟩
          case measure => omega
        · have hk00 : (0 : Int) < (k : Int) := by omega
          rw [if_neg hk0] at hsep
          have hfit : acc.length + btw.length + u.length ≤ 1000000 := by rw [hacc]; rw [hsep] at hlen2; simp only [List.length_append] at hlen2 ⊢; omega
          have hfin : ∀ w2, Wt n0 b (acc ++ btw ++ u) w2 → Wt n0 b (l ++ bef ++ sepL btw ((items.map txt).take (k + 1))) w2 := fun w2 h => by rw [hsep]; rw [hacc] at h; simpa only [List.append_assoc] using h
          have hs1 := writeLit_any n0 b acc btw sS HSS.out wr (hWr.out) (by omega) (Nat.le_trans hn0 (Nat.le_refl _))
          have hq1 := fun w1 (hk : Kept n0 b wr w1) (h : Wt n0 b (acc ++ btw) w1) => hq (acc ++ btw) w1 (hIk _ _ (hIk _ _ hIr (Kept.refl _ _ wr)) hk) h (by rw [List.length_append]; omega)
          have hkf : ∀ w1 w2, Kept n0 b wr w1 → Kept n0 b w1 w2 → Kept n0 b w w2 := fun w1 w2 h h2 => hkr.out.trans (((Kept.refl _ _ wr).trans h).trans h2)
          clear hq hsep hlen2 hacc hx hk0
          go_wp2_with (first | (go_at_call 68; refine hs1.mono ?_; rintro e w1 ⟨rfl, hW1, hk1⟩) | (go_at_call 106; refine (hq1 _ hk1 hW1).mono ?_; rintro e w2 ⟨rfl, hW2, hk2⟩))
          go_roundg (items.length - (k + 1))
          case rel => exact ⟨k + 1, by omega, rfl, by go_num, Lib.hid (hfin _ hW2), Lib.hid (hkf _ _ hk1 hk2)⟩
          case measure => omega
      · have h1 : ¬ (k : Int) < (items.length : Int) := by omega
        have hall : (items.map txt).take k = items.map txt := List.take_of_length_le (by simp; omega)
        rw [hall] at hWr
        have hLL := HL.out wr hWr.out
        have fin : ∀ w2, Wt n0 b (l ++ bef ++ sepL btw (items.map txt) ++ aft) w2 → Kept n0 b wr w2 → WrP n0 b l (bef ++ sepL btw (items.map txt) ++ aft) w (.returned (.tuple #[])) w2 := fun w2 h1 h2 => ⟨rfl, by simpa only [List.append_assoc] using h1, hkr.out.trans h2⟩
        clear hall HE HQ HL HI
        go_wp2_with (go_at_call 68; refine hLL.mono ?_; rintro e w2 ⟨rfl, hW2, hk2⟩)
        go_end0
        exact fin _ hW2 hk2
end Go.Proofs.YtfibmdbplfghcaaGreatDoor
