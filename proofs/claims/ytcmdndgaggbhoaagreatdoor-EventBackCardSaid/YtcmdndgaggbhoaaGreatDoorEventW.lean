/- Walk: EventBack. -/
import Derived.Test.YtcmdndgaggbhoaaGreatDoorEventV
import Derived.Test.YtcmdndgaggbhoaaGreatDoorEventL
namespace Go.Proofs.YtcmdndgaggbhoaaGreatDoor.Ev
open Go.RowKit Go.Shelf
open Lb Wr

theorem bytesOf (l : Nat) (k v : Int) (hk : isKindB k = true) (hl : l < 18446744073709551616) (w : World) :
    Calls Tryz.prog 25 #[ev l k v] w fun e w' => e = .returned (.tuple #[.string (strOf (evB l k (unsg v))), .int .i64 0]) ∧ Below w.heap.size w w' := by
  have h := bytes_any l k v (unsg v) (by omega) (by omega) (by omega) (by have := unsg_lt v; omega) (unsg_wrap v) w
  unfold bytesE at h
  rw [if_pos hk] at h
  exact h
theorem evT_size (l : Nat) (k v : Int) (h0 : -9223372036854775808 ≤ v) (h1 : v ≤ 9223372036854775807) : (strOf (evT l k v)).size ≤ 10000 := by
  have a1 := text_size l
  have a2 := Lib.itoa_length_le v h0 h1
  rw [strOf_len] at a1 ⊢
  unfold evT
  simp only [List.length_append, List.length_cons, List.length_nil]
  omega
set_option maxRecDepth 100000 in
set_option maxHeartbeats 8000000 in
theorem back_any (l : Nat) (kk v : Int) (s : ByteArray) (hl : l < 18446744073709551616) (hk0 : 0 ≤ kk) (hk1 : kk ≤ 255) (hv0 : -9223372036854775808 ≤ v) (hv1 : v ≤ 9223372036854775807) (hs : s.size ≤ maxLen) (w : World) (ht : Tab3 w) :
    Calls Tryz.prog 5 #[.int .u64 (l : Int), .int .u8 kk, .int .i64 v, .string s] w fun e w' => e = .returned (.bool true) ∧ Below w.heap.size w w' := by
  unfold maxLen at hs
  by_cases hlen : s.size ≤ 100
  · have hgt : ¬ (100 : Int) < (s.size : Int) := by omega
    have hMk := made_any l kk v hk0 hk1
    obtain ⟨n, hn⟩ := Int.eq_ofNat_of_zero_le (show 0 ≤ kk % 26 by omega)
    have hn26 : n < 26 := by omega
    have hkB : isKindB (n : Int) = true := isKindB_iff.2 (by omega)
    rw [hn] at hMk
    clear hn hk0 hk1
    have hBy := fun w => bytesOf l n v hkB hl w
    have hPa := fun w => parseC_any (strOf (evB l n (unsg v))) w (by rw [strOf_size, evB_length]; decide)
    rw [parse_bytes hl hn26 hv0 hv1] at hPa
    have hTx := fun w ht => textYes l n v hl hkB hv0 hv1 w ht
    have hRd := fun w ht => evRead_any (strOf (evT l n v)) w ht (evT_size l n v hv0 hv1)
    rw [readV_text hl hn26 hv0 hv1] at hRd
    have hBs : (strOf (evB l n (unsg v))).size = 17 := by rw [strOf_size, evB_length]
    obtain ⟨B, hB0⟩ : ∃ B, B = strOf (evB l n (unsg v)) := ⟨_, rfl⟩
    obtain ⟨T, hT0⟩ : ∃ B, B = strOf (evT l n v) := ⟨_, rfl⟩
    rw [← hB0] at hBy hPa hBs
    rw [← hT0] at hTx hRd
    have hb17 : ((B.size : Int) != 17) = false := by rw [hBs]; rfl
    clear hB0 hT0 hBs hkB hn26 hv0 hv1 hl
    have hPs := fun w => parseC_any s w (by omega)
    have hRs := fun w ht => evRead_any s w ht (by omega)
    have hIs := fun w ht => evReadId_any s w ht (by omega)
    have CP := Lib.hid (parse_cases s)
    have CR := Lib.hid (readV_cases s)
    have CI := Lib.hid (readIdV_cases s)
    obtain ⟨m, hm⟩ : ∃ m : Int, m = (l : Int) := ⟨_, rfl⟩
    obtain ⟨k, hk⟩ : ∃ m : Int, m = (n : Int) := ⟨_, rfl⟩
    rw [← hm, ← hk] at hMk hBy hPa hTx hRd
    rw [← hm]
    clear hm hk hlen hs
    simp only [ev, pv] at hMk hBy hPa hTx hRd
    go_enter Tryz.func5, Tryz.ntmps5
    go_wp2_with fail
    refine (hMk _).mono ?_
    rintro e w1 ⟨rfl, hB⟩
    have ht1 := ht.below hB
    clear hMk ht
    go_wp2_with fail
    refine named fun W hW => ?_
    have hX : Blk W w1.heap.size [.int .u64 m, .int .i64 k, .int .i64 v] := by rw [hW]; exact Blk.is _ rfl
    replace ht1 : Tab3 W := by rw [hW]; exact ht1.alloc _
    replace hB : Below w.heap.size w W := by rw [hW]; exact hB.alloc hB.size _
    obtain ⟨X, hXe⟩ : ∃ X, X = w1.heap.size := ⟨_, rfl⟩
    rw [← hXe] at hX ⊢
    clear hW hXe
    refine (hBy _).mono ?_
    rintro e w2 ⟨rfl, hb2⟩
    replace hB := bstep hB hb2
    replace hX := hX.later hb2
    replace ht1 := ht1.below hb2
    clear hb2 hBy
    go_wp2_with fail
    refine (hPa _).mono ?_
    rintro e w3 ⟨rfl, hb3⟩
    replace hB := bstep hB hb3
    replace hX := hX.later hb3
    replace ht1 := ht1.below hb3
    clear hb3 hPa
    have x0 := hX.cell 0 _ rfl
    have x1 := hX.cell 1 _ rfl
    have x2 := hX.cell 2 _ rfl
    have lX := hX.lt
    go_wp2_with fail
    refine named fun W3 hW => ?_
    have hY : Blk W3 w3.heap.size [.int .u64 m, .int .i64 k, .int .i64 v] := by rw [hW]; exact (Blk.is _ rfl).alloc _
    have hF : Blk W3 (w3.heap.size + 1) [.int .i64 0, .int .i64 0] := by rw [hW]; exact Blk.is _ (by simp)
    replace hX : Blk W3 X [.int .u64 m, .int .i64 k, .int .i64 v] := by rw [hW]; exact (hX.alloc _).alloc _
    replace ht1 : Tab3 W3 := by rw [hW]; exact (ht1.alloc _).alloc _
    replace hB : Below w.heap.size w W3 := by rw [hW]; exact (hB.alloc hB.size _).alloc (by have := hB.size; simp; omega) _
    obtain ⟨Y, hYe⟩ : ∃ Y, Y = w3.heap.size := ⟨_, rfl⟩
    rw [← hYe] at hY hF ⊢
    obtain ⟨Z, hZe⟩ : ∃ Y', Y' = Y + 1 := ⟨_, rfl⟩
    rw [← hZe] at hF ⊢
    clear hW hYe hZe x0 x1 x2 lX
    refine (hTx _ ht1.1).mono ?_
    rintro e w4 ⟨rfl, hb4⟩
    replace hB := bstep hB hb4
    replace hX := hX.later hb4
    replace hY := hY.later hb4
    replace hF := hF.later hb4
    replace ht1 := ht1.below hb4
    clear hb4 hTx
    go_wp2_with fail
    refine (hRd _ ht1).mono ?_
    rintro e w5 ⟨rfl, hb5⟩
    replace hB := bstep hB hb5
    replace hX := hX.later hb5
    replace hY := hY.later hb5
    replace hF := hF.later hb5
    replace ht1 := ht1.below hb5
    clear hb5 hRd
    have x0 := hX.cell 0 _ rfl
    have x1 := hX.cell 1 _ rfl
    have x2 := hX.cell 2 _ rfl
    have y0 := hY.cell 0 _ rfl
    have y1 := hY.cell 1 _ rfl
    have y2 := hY.cell 2 _ rfl
    have f0 := hF.cell 0 _ rfl
    have f1 := hF.cell 1 _ rfl
    have lX := hX.lt
    have lY := hY.lt
    have lF := hF.lt
    go_wp2_with fail
    refine named fun W5 hW => ?_
    replace ht1 : Tab3 W5 := by rw [hW]; exact ht1.alloc _
    replace hB : Below w.heap.size w W5 := by rw [hW]; exact hB.alloc hB.size _
    clear hW x0 x1 x2 y0 y1 y2 f0 f1 lX lY lF hX hY hF hb17
    rcases CP.out with ⟨l1, k1, v1, h1, h2, h3, h4⟩ | ⟨fe, fa, h3, h4⟩
    · rw [h3] at hPs
      have hB1 := fun w => bytesOf l1 k1 v1 (isKindB_iff.2 (by omega)) h1 w
      rw [h4] at hB1
      clear h1 h2 h3 h4 CP
      simp only [ev, pv] at hPs hB1
      refine (hPs _).mono ?_
      rintro e w11 ⟨rfl, hb11⟩
      replace hB := bstep hB hb11
      replace ht1 := ht1.below hb11
      clear hb11
      go_wp2_with fail
      refine named fun V hW => ?_
      have ht2 : Tab3 V := by rw [hW]; exact ((ht1.alloc _).alloc _)
      have hB2 : Below w.heap.size w V := by rw [hW]; exact (hB.alloc hB.size _).alloc (by have := hB.size; simp; omega) _
      clear ht1 hB hW
      have ht1 := ht2
      have hB := hB2
      clear ht2 hB2
      refine (hB1 _).mono ?_
      rintro e w12 ⟨rfl, hb12⟩
      replace hB := bstep hB hb12
      replace ht1 := ht1.below hb12
      clear hb12
      go_wp2_with fail
      rcases CR.out with ⟨l2, k2, v2, h1, h2, h3, h4, h5⟩ | h4
      · rw [h4] at hRs
        have hT2 := fun w ht => textYes l2 k2 v2 h1 h2 h3.1 h3.2 w ht
        rw [h5] at hT2
        clear h1 h2 h3 h4 h5 CR
        simp only [ev] at hRs hT2
        refine (hRs _ ht1).mono ?_
        rintro e w13 ⟨rfl, hb13⟩
        replace hB := bstep hB hb13
        replace ht1 := ht1.below hb13
        clear hb13
        go_wp2_with fail
        refine named fun V hW => ?_
        have ht2 : Tab3 V := by rw [hW]; exact (ht1.alloc _)
        have hB2 : Below w.heap.size w V := by rw [hW]; exact hB.alloc hB.size _
        clear ht1 hB hW
        have ht1 := ht2
        have hB := hB2
        clear ht2 hB2
        refine (hT2 _ ht1.1).mono ?_
        rintro e w14 ⟨rfl, hb14⟩
        replace hB := bstep hB hb14
        replace ht1 := ht1.below hb14
        clear hb14
        go_wp2_with fail
        rcases CI.out with ⟨l3, n3, h1, h2, h3, h4, h5⟩ | h4
        · rw [h4] at hIs
          have hT3 := fun w ht => idTextYes l3 n3 h1 h2 h3 w ht
          rw [h5] at hT3
          clear h1 h2 h3 h4 h5 CI
          simp only [idv] at hIs hT3
          refine (hIs _ ht1).mono ?_
          rintro e w15 ⟨rfl, hb15⟩
          replace hB := bstep hB hb15
          replace ht1 := ht1.below hb15
          clear hb15
          go_wp2_with fail
          refine named fun V hW => ?_
          have ht2 : Tab3 V := by rw [hW]; exact (ht1.alloc _)
          have hB2 : Below w.heap.size w V := by rw [hW]; exact hB.alloc hB.size _
          clear ht1 hB hW
          have ht1 := ht2
          have hB := hB2
          clear ht2 hB2
          refine (hT3 _ ht1.1).mono ?_
          rintro e w16 ⟨rfl, hb16⟩
          replace hB := bstep hB hb16
          replace ht1 := ht1.below hb16
          clear hb16
          go_wp2_with fail
          refine (awake_any _ ht1.1).mono ?_
          rintro e w17 ⟨rfl, hb17⟩
          replace hB := bstep hB hb17
          replace ht1 := ht1.below hb17
          clear hb17
          go_wp2
          go_ret
          exact ⟨rfl, hB⟩
        · rw [h4] at hIs
          clear h4 CI
          simp only [idv] at hIs
          refine (hIs _ ht1).mono ?_
          rintro e w18 ⟨rfl, hb18⟩
          replace hB := bstep hB hb18
          replace ht1 := ht1.below hb18
          clear hb18
          go_wp2_with fail
          refine named fun V hW => ?_
          have ht2 : Tab3 V := by rw [hW]; exact (ht1.alloc _)
          have hB2 : Below w.heap.size w V := by rw [hW]; exact hB.alloc hB.size _
          clear ht1 hB hW
          have ht1 := ht2
          have hB := hB2
          clear ht2 hB2
          refine (awake_any _ ht1.1).mono ?_
          rintro e w19 ⟨rfl, hb19⟩
          replace hB := bstep hB hb19
          replace ht1 := ht1.below hb19
          clear hb19
          go_wp2
          go_ret
          exact ⟨rfl, hB⟩
      · rw [h4] at hRs
        clear h4 CR
        simp only [ev] at hRs
        refine (hRs _ ht1).mono ?_
        rintro e w20 ⟨rfl, hb20⟩
        replace hB := bstep hB hb20
        replace ht1 := ht1.below hb20
        clear hb20
        go_wp2_with fail
        refine named fun V hW => ?_
        have ht2 : Tab3 V := by rw [hW]; exact (ht1.alloc _)
        have hB2 : Below w.heap.size w V := by rw [hW]; exact hB.alloc hB.size _
        clear ht1 hB hW
        have ht1 := ht2
        have hB := hB2
        clear ht2 hB2
        rcases CI.out with ⟨l3, n3, h1, h2, h3, h4, h5⟩ | h4
        · rw [h4] at hIs
          have hT3 := fun w ht => idTextYes l3 n3 h1 h2 h3 w ht
          rw [h5] at hT3
          clear h1 h2 h3 h4 h5 CI
          simp only [idv] at hIs hT3
          refine (hIs _ ht1).mono ?_
          rintro e w21 ⟨rfl, hb21⟩
          replace hB := bstep hB hb21
          replace ht1 := ht1.below hb21
          clear hb21
          go_wp2_with fail
          refine named fun V hW => ?_
          have ht2 : Tab3 V := by rw [hW]; exact (ht1.alloc _)
          have hB2 : Below w.heap.size w V := by rw [hW]; exact hB.alloc hB.size _
          clear ht1 hB hW
          have ht1 := ht2
          have hB := hB2
          clear ht2 hB2
          refine (hT3 _ ht1.1).mono ?_
          rintro e w22 ⟨rfl, hb22⟩
          replace hB := bstep hB hb22
          replace ht1 := ht1.below hb22
          clear hb22
          go_wp2_with fail
          refine (awake_any _ ht1.1).mono ?_
          rintro e w23 ⟨rfl, hb23⟩
          replace hB := bstep hB hb23
          replace ht1 := ht1.below hb23
          clear hb23
          go_wp2
          go_ret
          exact ⟨rfl, hB⟩
        · rw [h4] at hIs
          clear h4 CI
          simp only [idv] at hIs
          refine (hIs _ ht1).mono ?_
          rintro e w24 ⟨rfl, hb24⟩
          replace hB := bstep hB hb24
          replace ht1 := ht1.below hb24
          clear hb24
          go_wp2_with fail
          refine named fun V hW => ?_
          have ht2 : Tab3 V := by rw [hW]; exact (ht1.alloc _)
          have hB2 : Below w.heap.size w V := by rw [hW]; exact hB.alloc hB.size _
          clear ht1 hB hW
          have ht1 := ht2
          have hB := hB2
          clear ht2 hB2
          refine (awake_any _ ht1.1).mono ?_
          rintro e w25 ⟨rfl, hb25⟩
          replace hB := bstep hB hb25
          replace ht1 := ht1.below hb25
          clear hb25
          go_wp2
          go_ret
          exact ⟨rfl, hB⟩
    · rw [h4] at hPs
      have hne : (fe == 0) = false := by simpa using h3
      clear h3 h4 CP
      simp only [ev, pv] at hPs
      refine (hPs _).mono ?_
      rintro e w26 ⟨rfl, hb26⟩
      replace hB := bstep hB hb26
      replace ht1 := ht1.below hb26
      clear hb26
      go_wp2_with fail
      refine named fun V hW => ?_
      have ht2 : Tab3 V := by rw [hW]; exact ((ht1.alloc _).alloc _)
      have hB2 : Below w.heap.size w V := by rw [hW]; exact (hB.alloc hB.size _).alloc (by have := hB.size; simp; omega) _
      clear ht1 hB hW
      have ht1 := ht2
      have hB := hB2
      clear ht2 hB2
      rcases CR.out with ⟨l2, k2, v2, h1, h2, h3, h4, h5⟩ | h4
      · rw [h4] at hRs
        have hT2 := fun w ht => textYes l2 k2 v2 h1 h2 h3.1 h3.2 w ht
        rw [h5] at hT2
        clear h1 h2 h3 h4 h5 CR
        simp only [ev] at hRs hT2
        refine (hRs _ ht1).mono ?_
        rintro e w27 ⟨rfl, hb27⟩
        replace hB := bstep hB hb27
        replace ht1 := ht1.below hb27
        clear hb27
        go_wp2_with fail
        refine named fun V hW => ?_
        have ht2 : Tab3 V := by rw [hW]; exact (ht1.alloc _)
        have hB2 : Below w.heap.size w V := by rw [hW]; exact hB.alloc hB.size _
        clear ht1 hB hW
        have ht1 := ht2
        have hB := hB2
        clear ht2 hB2
        refine (hT2 _ ht1.1).mono ?_
        rintro e w28 ⟨rfl, hb28⟩
        replace hB := bstep hB hb28
        replace ht1 := ht1.below hb28
        clear hb28
        go_wp2_with fail
        rcases CI.out with ⟨l3, n3, h1, h2, h3, h4, h5⟩ | h4
        · rw [h4] at hIs
          have hT3 := fun w ht => idTextYes l3 n3 h1 h2 h3 w ht
          rw [h5] at hT3
          clear h1 h2 h3 h4 h5 CI
          simp only [idv] at hIs hT3
          refine (hIs _ ht1).mono ?_
          rintro e w29 ⟨rfl, hb29⟩
          replace hB := bstep hB hb29
          replace ht1 := ht1.below hb29
          clear hb29
          go_wp2_with fail
          refine named fun V hW => ?_
          have ht2 : Tab3 V := by rw [hW]; exact (ht1.alloc _)
          have hB2 : Below w.heap.size w V := by rw [hW]; exact hB.alloc hB.size _
          clear ht1 hB hW
          have ht1 := ht2
          have hB := hB2
          clear ht2 hB2
          refine (hT3 _ ht1.1).mono ?_
          rintro e w30 ⟨rfl, hb30⟩
          replace hB := bstep hB hb30
          replace ht1 := ht1.below hb30
          clear hb30
          go_wp2_with fail
          refine (awake_any _ ht1.1).mono ?_
          rintro e w31 ⟨rfl, hb31⟩
          replace hB := bstep hB hb31
          replace ht1 := ht1.below hb31
          clear hb31
          go_wp2
          go_ret
          exact ⟨rfl, hB⟩
        · rw [h4] at hIs
          clear h4 CI
          simp only [idv] at hIs
          refine (hIs _ ht1).mono ?_
          rintro e w32 ⟨rfl, hb32⟩
          replace hB := bstep hB hb32
          replace ht1 := ht1.below hb32
          clear hb32
          go_wp2_with fail
          refine named fun V hW => ?_
          have ht2 : Tab3 V := by rw [hW]; exact (ht1.alloc _)
          have hB2 : Below w.heap.size w V := by rw [hW]; exact hB.alloc hB.size _
          clear ht1 hB hW
          have ht1 := ht2
          have hB := hB2
          clear ht2 hB2
          refine (awake_any _ ht1.1).mono ?_
          rintro e w33 ⟨rfl, hb33⟩
          replace hB := bstep hB hb33
          replace ht1 := ht1.below hb33
          clear hb33
          go_wp2
          go_ret
          exact ⟨rfl, hB⟩
      · rw [h4] at hRs
        clear h4 CR
        simp only [ev] at hRs
        refine (hRs _ ht1).mono ?_
        rintro e w34 ⟨rfl, hb34⟩
        replace hB := bstep hB hb34
        replace ht1 := ht1.below hb34
        clear hb34
        go_wp2_with fail
        refine named fun V hW => ?_
        have ht2 : Tab3 V := by rw [hW]; exact (ht1.alloc _)
        have hB2 : Below w.heap.size w V := by rw [hW]; exact hB.alloc hB.size _
        clear ht1 hB hW
        have ht1 := ht2
        have hB := hB2
        clear ht2 hB2
        rcases CI.out with ⟨l3, n3, h1, h2, h3, h4, h5⟩ | h4
        · rw [h4] at hIs
          have hT3 := fun w ht => idTextYes l3 n3 h1 h2 h3 w ht
          rw [h5] at hT3
          clear h1 h2 h3 h4 h5 CI
          simp only [idv] at hIs hT3
          refine (hIs _ ht1).mono ?_
          rintro e w35 ⟨rfl, hb35⟩
          replace hB := bstep hB hb35
          replace ht1 := ht1.below hb35
          clear hb35
          go_wp2_with fail
          refine named fun V hW => ?_
          have ht2 : Tab3 V := by rw [hW]; exact (ht1.alloc _)
          have hB2 : Below w.heap.size w V := by rw [hW]; exact hB.alloc hB.size _
          clear ht1 hB hW
          have ht1 := ht2
          have hB := hB2
          clear ht2 hB2
          refine (hT3 _ ht1.1).mono ?_
          rintro e w36 ⟨rfl, hb36⟩
          replace hB := bstep hB hb36
          replace ht1 := ht1.below hb36
          clear hb36
          go_wp2_with fail
          refine (awake_any _ ht1.1).mono ?_
          rintro e w37 ⟨rfl, hb37⟩
          replace hB := bstep hB hb37
          replace ht1 := ht1.below hb37
          clear hb37
          go_wp2
          go_ret
          exact ⟨rfl, hB⟩
        · rw [h4] at hIs
          clear h4 CI
          simp only [idv] at hIs
          refine (hIs _ ht1).mono ?_
          rintro e w38 ⟨rfl, hb38⟩
          replace hB := bstep hB hb38
          replace ht1 := ht1.below hb38
          clear hb38
          go_wp2_with fail
          refine named fun V hW => ?_
          have ht2 : Tab3 V := by rw [hW]; exact (ht1.alloc _)
          have hB2 : Below w.heap.size w V := by rw [hW]; exact hB.alloc hB.size _
          clear ht1 hB hW
          have ht1 := ht2
          have hB := hB2
          clear ht2 hB2
          refine (awake_any _ ht1.1).mono ?_
          rintro e w39 ⟨rfl, hb39⟩
          replace hB := bstep hB hb39
          replace ht1 := ht1.below hb39
          clear hb39
          go_wp2
          go_ret
          exact ⟨rfl, hB⟩
  · have hgt : (100 : Int) < (s.size : Int) := by omega
    go_enter Tryz.func5, Tryz.ntmps5
    go_wp2_with fail
    refine (awake_any _ ht.1).mono ?_
    rintro e w1 ⟨rfl, hb1⟩
    go_wp2
    go_ret
    exact ⟨rfl, hb1⟩
end Go.Proofs.YtcmdndgaggbhoaaGreatDoor.Ev
