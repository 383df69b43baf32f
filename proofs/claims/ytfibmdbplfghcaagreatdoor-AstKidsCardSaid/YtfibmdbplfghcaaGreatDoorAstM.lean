/- Walks: lists of nodes that are written. Made by program (wip/tools/gen_astL.py). -/
import Derived.Test.YtfibmdbplfghcaaGreatDoorAstL
namespace Go.Proofs.YtfibmdbplfghcaaGreatDoor
open Go.RowKit Go.Shelf
open A8 Tk7

set_option maxRecDepth 100000 in
set_option maxHeartbeats 8000000 in
theorem writeListNode_any (n0 b : Nat) (p r : Nat) (Inv : World → Prop) (l bef btw aft : List UInt8) (sB sS sA : ByteArray) (hsB : sB = strOf bef) (hsS : sS = strOf btw) (hsA : sA = strOf aft) (v : Value) (items : List Tr) (txt : Tr → List UInt8) (w0 : World) (hone : ∀ t ∈ items, OneT w0 t) (w : World)
    (hI : Inv w) (hIk : ∀ w1 w2, Inv w1 → Kept n0 b w1 w2 → Inv w2) (hel : ∀ w1, Inv w1 → Sl w1 9 items.length v (items.flatMap Tr.row))
    (hwr : ∀ x ∈ items, ∀ acc w1, Inv w1 → Wt n0 b acc w1 → acc.length + (txt x).length ≤ 1000000 → Calls Tryz.prog 108 #[.agg (Tr.row x).toArray, .pointer (some ⟨p, 0, none⟩), .pointer (some ⟨r, 0, none⟩)] w1 (WrP n0 b acc (txt x) w1))
    (hW : Wt n0 b l w) (hl : l.length + (listT bef (items.map txt) btw aft).length ≤ 1000000) :
    Calls Tryz.prog 107 #[.pointer (some ⟨b, 0, none⟩), .string sB, v, .string sS, .string sA, .func (.func 108) #[] #[.pointer (some ⟨p, 0, none⟩), .pointer (some ⟨r, 0, none⟩)]] w (WrP n0 b l (listT bef (items.map txt) btw aft) w) := by
  obtain ⟨A, cap, rfl, hm, -⟩ := sl_els (by decide) row_len (hel w hI)
  by_cases h0 : items.length = 0
  · have hi : items = [] := List.eq_nil_of_length_eq_zero h0
    subst hi
    have fin : WrP n0 b l (listT bef (([] : List Tr).map txt) btw aft) w (.returned (.tuple #[])) w := ⟨rfl, by simpa [listT] using hW, Kept.refl _ _ _⟩
    clear hel hwr hW hl hIk hI
    go_enter Tryz.func107, Tryz.ntmps107
    go_wp2
    go_end0
    exact fin
  · have hlt_eq : listT bef (items.map txt) btw aft = bef ++ sepL btw (items.map txt) ++ aft := by
      unfold listT
      rw [if_neg]
      simp only [List.isEmpty_iff, List.map_eq_nil_iff]
      exact fun e => h0 (by rw [e]; rfl)
    rw [hlt_eq] at hl ⊢
    simp only [List.length_append] at hl
    have hne : ((items.length : Int) == 0) = false := by rw [beq_eq_false_iff_ne]; omega
    have hH := writeLit_any n0 b l bef sB hsB w hW (by omega) (wt_le hW)
    have hLast := fun w1 (h : Wt n0 b (l ++ bef ++ sepL btw (items.map txt)) w1) => writeLit_any n0 b _ aft sA hsA w1 h (by simp only [List.length_append]; omega) (wt_le h)
    have HE := Lib.hid hel
    have HI := Lib.hid hI
    have HQ := Lib.hid hwr
    have HL := Lib.hid hLast
    have hn00 := wt_le hW
    have HSS := Lib.hid hsS
    clear hel hwr hW hsB hsS hsA hlt_eq hI hLast
    go_enter Tryz.func107, Tryz.ntmps107
    go_wp2_with (go_at_call 68; refine hH.mono ?_; rintro e w1 ⟨rfl, hW1, hk1⟩)
    go_loopg [24] items.length (fun g iv wr => ∃ k : Nat, k ≤ items.length ∧ g = items.length - k ∧ iv = .int .i64 (k : Int) ∧ Hid (Wt n0 b (l ++ bef ++ sepL btw ((items.map txt).take k)) wr) ∧ Hid (Kept n0 b w wr))
    case atStart => exact ⟨0, Nat.zero_le _, rfl, rfl, Lib.hid (by simpa [sepL] using hW1), Lib.hid hk1⟩
    case round =>
      clear hH hk1 hW1
      obtain ⟨k, hk, hg, rfl, hWr, hkr⟩ := hrel
      by_cases hlt : k < items.length
      · have hIr := hIk _ _ HI.out hkr.out
        obtain ⟨A', cap', hAA, -, hels⟩ := sl_els (by decide) row_len (HE.out wr hIr)
        obtain ⟨a, hAe, ha, E⟩ := hels k hlt
        injection hAA with hA1 hA2 hA3
        subst hA1
        subst hAe
        clear hels hA2 hA3
        have hsep := sepL_take btw (items.map txt) k (by simpa using hlt)
        have hlen2 := sepL_take_le btw (items.map txt) (k + 1)
        have hn0 := wt_le hWr.out
        obtain ⟨x, hx⟩ : ∃ x, x = items[k] := ⟨_, rfl⟩
        have hxm : (items.map txt)[k]'(by simpa using hlt) = txt x := by simp [hx]
        rw [hxm] at hsep
        have hq := fun acc w1 (h1 : Inv w1) (h2 : Wt n0 b acc w1) (h3 : acc.length + (txt x).length ≤ 1000000) => HQ.out x (hx ▸ List.getElem_mem hlt) acc w1 h1 h2 h3
        rw [← hx] at E
        obtain ⟨u, hu⟩ : ∃ u, u = txt x := ⟨_, rfl⟩
        rw [← hu] at hq hsep
        obtain ⟨acc, hacc⟩ : ∃ acc, acc = l ++ bef ++ sepL btw ((items.map txt).take k) := ⟨_, rfl⟩
        rw [← hacc] at hWr
        have h1 : (k : Int) < (items.length : Int) := by omega
        have hwk : IntKind.i64.wrap ((k : Int) + 1) = (k : Int) + 1 := IntWalk.i64_in _ ⟨by omega, by omega⟩
        clear hxm hu
        have hko := hone x (hx ▸ List.getElem_mem hlt)
        obtain ⟨k', mn', mx', ⟨ga, gc⟩, sk', ks'⟩ := x
        obtain ⟨-, ⟨-, hgc⟩, hgk⟩ := hko
        simp only at hgc
        obtain ⟨A1, cap1, rfl, -, -⟩ := sl_get (by decide) hgc
        obtain ⟨A2, cap2, rfl, -, -⟩ := sl_get (by decide) hgk
        clear hgc hgk
        simp only [Tr.row] at E hq
        unfold WrP at hq
        have c0 := E.at0 _ rfl
        have c1 := E.at1 1 _ (by decide) rfl
        have c2 := E.at1 2 _ (by decide) rfl
        have c3 := E.at1 3 _ (by decide) rfl
        have c4 := E.at1 4 _ (by decide) rfl
        have c5 := E.at1 5 _ (by decide) rfl
        have c6 := E.at1 6 _ (by decide) rfl
        have c7 := E.at1 7 _ (by decide) rfl
        have c8 := E.at1 8 _ (by decide) rfl
        clear E
        by_cases hk0 : k = 0
        · have hk00 : ¬ (0 : Int) < (k : Int) := by omega
          rw [if_pos hk0] at hsep
          have hz : (items.map txt).take k = [] := by rw [hk0]; rfl
          have hfit : acc.length + u.length ≤ 1000000 := by rw [hacc, hz]; rw [hsep] at hlen2; simp [sepL] at hlen2 ⊢; omega
          have hfin : ∀ w2, Wt n0 b (acc ++ u) w2 → Wt n0 b (l ++ bef ++ sepL btw ((items.map txt).take (k + 1))) w2 := fun w2 h => by rw [hsep, ← show acc = l ++ bef by rw [hacc, hz]; simp [sepL]]; exact h
          have hq1 := hq acc (wr.alloc (.cells #[.int .i64 k', .int .i64 mn', .int .i64 mx', .int .i64 ga.kd, .bool ga.bd, .int .u64 ga.bn, .slice A1 ga.cs.length cap1, .string (strOf ga.nm), .slice A2 ks'.length cap2] 28)) (hIk _ _ hIr (Kept.of (b1 wr (.cells #[.int .i64 k', .int .i64 mn', .int .i64 mx', .int .i64 ga.kd, .bool ga.bd, .int .u64 ga.bn, .slice A1 ga.cs.length cap1, .string (strOf ga.nm), .slice A2 ks'.length cap2] 28)) hn0)) (hWr.out.later (b1 wr (.cells #[.int .i64 k', .int .i64 mn', .int .i64 mx', .int .i64 ga.kd, .bool ga.bd, .int .u64 ga.bn, .slice A1 ga.cs.length cap1, .string (strOf ga.nm), .slice A2 ks'.length cap2] 28))) hfit
          have hkf : ∀ w2, Kept n0 b (wr.alloc (.cells #[.int .i64 k', .int .i64 mn', .int .i64 mx', .int .i64 ga.kd, .bool ga.bd, .int .u64 ga.bn, .slice A1 ga.cs.length cap1, .string (strOf ga.nm), .slice A2 ks'.length cap2] 28)) w2 → Kept n0 b w w2 := fun w2 h => hkr.out.trans ((Kept.of (b1 wr (.cells #[.int .i64 k', .int .i64 mn', .int .i64 mx', .int .i64 ga.kd, .bool ga.bd, .int .u64 ga.bn, .slice A1 ga.cs.length cap1, .string (strOf ga.nm), .slice A2 ks'.length cap2] 28)) hn0).trans h)
          clear hq hsep hlen2 hacc hx hk0 hz hone
          go_wp2_with (go_at_call 108; refine hq1.mono ?_; rintro e w2 ⟨rfl, hW2, hk2⟩)
          go_roundg (items.length - (k + 1))
          case rel => exact ⟨k + 1, by omega, rfl, by go_num, Lib.hid (hfin _ hW2), Lib.hid (hkf _ hk2)⟩
          case measure => omega
        · have hk00 : (0 : Int) < (k : Int) := by omega
          rw [if_neg hk0] at hsep
          have hfit : acc.length + btw.length + u.length ≤ 1000000 := by rw [hacc]; rw [hsep] at hlen2; simp only [List.length_append] at hlen2 ⊢; omega
          have hfin : ∀ w2, Wt n0 b (acc ++ btw ++ u) w2 → Wt n0 b (l ++ bef ++ sepL btw ((items.map txt).take (k + 1))) w2 := fun w2 h => by rw [hsep]; rw [hacc] at h; simpa only [List.append_assoc] using h
          have hs1 := writeLit_any n0 b acc btw sS HSS.out (wr.alloc (.cells #[.int .i64 k', .int .i64 mn', .int .i64 mx', .int .i64 ga.kd, .bool ga.bd, .int .u64 ga.bn, .slice A1 ga.cs.length cap1, .string (strOf ga.nm), .slice A2 ks'.length cap2] 28)) (hWr.out.later (b1 wr (.cells #[.int .i64 k', .int .i64 mn', .int .i64 mx', .int .i64 ga.kd, .bool ga.bd, .int .u64 ga.bn, .slice A1 ga.cs.length cap1, .string (strOf ga.nm), .slice A2 ks'.length cap2] 28))) (by omega) (Nat.le_trans hn0 (by simp))
          have hq1 := fun w1 (hk : Kept n0 b (wr.alloc (.cells #[.int .i64 k', .int .i64 mn', .int .i64 mx', .int .i64 ga.kd, .bool ga.bd, .int .u64 ga.bn, .slice A1 ga.cs.length cap1, .string (strOf ga.nm), .slice A2 ks'.length cap2] 28)) w1) (h : Wt n0 b (acc ++ btw) w1) => hq (acc ++ btw) w1 (hIk _ _ (hIk _ _ hIr (Kept.of (b1 wr (.cells #[.int .i64 k', .int .i64 mn', .int .i64 mx', .int .i64 ga.kd, .bool ga.bd, .int .u64 ga.bn, .slice A1 ga.cs.length cap1, .string (strOf ga.nm), .slice A2 ks'.length cap2] 28)) hn0)) hk) h (by rw [List.length_append]; omega)
          have hkf : ∀ w1 w2, Kept n0 b (wr.alloc (.cells #[.int .i64 k', .int .i64 mn', .int .i64 mx', .int .i64 ga.kd, .bool ga.bd, .int .u64 ga.bn, .slice A1 ga.cs.length cap1, .string (strOf ga.nm), .slice A2 ks'.length cap2] 28)) w1 → Kept n0 b w1 w2 → Kept n0 b w w2 := fun w1 w2 h h2 => hkr.out.trans (((Kept.of (b1 wr (.cells #[.int .i64 k', .int .i64 mn', .int .i64 mx', .int .i64 ga.kd, .bool ga.bd, .int .u64 ga.bn, .slice A1 ga.cs.length cap1, .string (strOf ga.nm), .slice A2 ks'.length cap2] 28)) hn0).trans h).trans h2)
          have hBx : Bx (wr.alloc (.cells #[.int .i64 k', .int .i64 mn', .int .i64 mx', .int .i64 ga.kd, .bool ga.bd, .int .u64 ga.bn, .slice A1 ga.cs.length cap1, .string (strOf ga.nm), .slice A2 ks'.length cap2] 28)) wr.heap.size 28 [.int .i64 k', .int .i64 mn', .int .i64 mx', .int .i64 ga.kd, .bool ga.bd, .int .u64 ga.bn, .slice A1 ga.cs.length cap1, .string (strOf ga.nm), .slice A2 ks'.length cap2] := Bx.new wr [.int .i64 k', .int .i64 mn', .int .i64 mx', .int .i64 ga.kd, .bool ga.bd, .int .u64 ga.bn, .slice A1 ga.cs.length cap1, .string (strOf ga.nm), .slice A2 ks'.length cap2] 28
          have hbl : wr.heap.size ≠ b := by have := wt_lt hWr.out; omega
          have hcell : ∀ w1, Kept n0 b (wr.alloc (.cells #[.int .i64 k', .int .i64 mn', .int .i64 mx', .int .i64 ga.kd, .bool ga.bd, .int .u64 ga.bn, .slice A1 ga.cs.length cap1, .string (strOf ga.nm), .slice A2 ks'.length cap2] 28)) w1 → Blk w1 wr.heap.size [.int .i64 k', .int .i64 mn', .int .i64 mx', .int .i64 ga.kd, .bool ga.bd, .int .u64 ga.bn, .slice A1 ga.cs.length cap1, .string (strOf ga.nm), .slice A2 ks'.length cap2] := fun w1 hk => (hBx.kept hk hbl (by decide)).blk
          clear hq hsep hlen2 hacc hx hk0 hone hBx hbl
          go_wp2_with (first | (go_at_call 68; refine hs1.mono ?_; rintro e w1 ⟨rfl, hW1, hk1⟩; have HX := hcell _ hk1; have d0 := HX.cell 0 _ rfl; have d1 := HX.cell 1 _ rfl; have d2 := HX.cell 2 _ rfl; have d3 := HX.cell 3 _ rfl; have d4 := HX.cell 4 _ rfl; have d5 := HX.cell 5 _ rfl; have d6 := HX.cell 6 _ rfl; have d7 := HX.cell 7 _ rfl; have d8 := HX.cell 8 _ rfl; clear HX) | (go_at_call 108; refine (hq1 _ hk1 hW1).mono ?_; rintro e w2 ⟨rfl, hW2, hk2⟩))
          go_roundg (items.length - (k + 1))
          case rel => exact ⟨k + 1, by omega, rfl, by go_num, Lib.hid (hfin _ hW2), Lib.hid (hkf _ _ hk1 hk2)⟩
          case measure => omega
      · have h1 : ¬ (k : Int) < (items.length : Int) := by omega
        have hall : (items.map txt).take k = items.map txt := List.take_of_length_le (by simp; omega)
        rw [hall] at hWr
        have hLL := HL.out wr hWr.out
        have fin : ∀ w2, Wt n0 b (l ++ bef ++ sepL btw (items.map txt) ++ aft) w2 → Kept n0 b wr w2 → WrP n0 b l (bef ++ sepL btw (items.map txt) ++ aft) w (.returned (.tuple #[])) w2 := fun w2 h1 h2 => ⟨rfl, by simpa only [List.append_assoc] using h1, hkr.out.trans h2⟩
        clear hall HE HQ HL HI hone
        go_wp2_with (go_at_call 68; refine hLL.mono ?_; rintro e w2 ⟨rfl, hW2, hk2⟩)
        go_end0
        exact fin _ hW2 hk2
end Go.Proofs.YtfibmdbplfghcaaGreatDoor
