/- Walks: the reference's writers' public functions. -/
import Derived.Test.YtgcgoiaadigmfaaWireR
import Derived.Test.YtgcgoiaadigmfaaWireK
namespace Go.Proofs.Ytgcgoiaadigmfaa
open Go.RowKit
open Wr

theorem fits_nat (n k : Nat) : fitsI n k = decide (n % 256 ^ k = n) := by
  unfold fitsI
  have e : (n : Int) / 2 ^ (8 * k) = ((n / 256 ^ k : Nat) : Int) := by
    rw [show (256 : Nat) ^ k = 2 ^ (8 * k) by rw [Nat.pow_mul]]
    simp
  have hp : 0 < 256 ^ k := Nat.pow_pos (by decide)
  rw [e, Bool.eq_iff_iff, decide_eq_true_iff, beq_iff_eq]
  constructor
  · intro h
    have h1 : n / 256 ^ k = 0 := by omega
    exact Nat.mod_eq_of_lt ((Nat.div_eq_zero_iff_lt hp).1 h1)
  · intro h
    have h1 := Nat.mod_lt n hp
    have : n / 256 ^ k = 0 := Nat.div_eq_of_lt (by omega)
    omega
set_option maxHeartbeats 2000000 in
theorem refDone_any (r : Wt) (w : World) :
    Calls Try.prog 38 #[r.val] w fun e w' => e = .returned (.tuple #[.string (doneW r).1, .int .i64 (doneW r).2]) ∧ Below w.heap.size w w' := by
  obtain ⟨hk, hm2, hs2⟩ := wopened r
  have hus := wopened_u r
  have hopen := refWriter_any r
  obtain ⟨s, most, err⟩ := r
  obtain ⟨x, hx⟩ : ∃ x, x = Wt.opened ⟨s, most, err⟩ := ⟨_, rfl⟩
  have hu := (show doneW ⟨s, most, err⟩ = if x.e ≠ 0 then (⟨#[]⟩, x.e) else (x.s, 0) by rw [hx]; rfl)
  rw [← hx] at hk hm2 hs2 hopen hus
  clear hx
  have hm0 : 0 ≤ x.m := by have h1 := hk.u0; have h2 := hk.um; omega
  have hF : ∀ q w, q ≠ 0 → Calls Try.prog 68 #[(.agg #[.string (x).s, .int .i64 (x).m, .int .i64 (x).e]), .string ⟨#[]⟩, .int .i64 q] w fun e w' => e = .returned (.agg #[.string (x.failAt q x.u).s, .int .i64 (x.failAt q x.u).m, .int .i64 (x.failAt q x.u).e]) ∧ Below w.heap.size w w' := fun q w hq => by
    have := refPut_any x.wgiven ⟨#[]⟩ q w (Nat.le_trans hs2 (by decide)) (by decide) hm0 hm2
    rw [put_fail x ⟨#[]⟩ q x.u hq] at this
    exact this
  have hP : ∀ (l : List ByteArray) w, total l ≤ 1000000 → Calls Try.prog 68 #[(.agg #[.string (x).s, .int .i64 (x).m, .int .i64 (x).e]), .string (strOf (flat l)), .int .i64 0] w fun e w' => e = .returned (.agg #[.string (x.add l).s, .int .i64 (x.add l).m, .int .i64 (x.add l).e]) ∧ Below w.heap.size w w' := fun l w hl => by
    have := refPut_any x.wgiven (strOf (flat l)) 0 w (Nat.le_trans hs2 (by decide)) (by rw [strOf_size, flat_length]; exact hl) hm0 hm2
    rw [put_add x l hus] at this
    exact this
  clear hus
  simp only [Wt.val, Sp.wgiven] at hopen ⊢
  by_cases he : x.e = 0
  · rw [if_neg (fun h => h he)] at hu
    replace hu := Lib.hid hu
    have hbe : (x.e != 0) = false := by simp [he]
    have HE := Lib.hid he
    clear he
    go_enter Try.func38, Try.ntmps38
    go_wp2_with fail
    refine named fun W hW => ?_
    have hB : Below w.heap.size w W := by rw [hW]; go_grown
    have hX : Blk W w.heap.size [.string s, .int .i64 most, .int .i64 err] := by
      rw [hW]; exact Blk.is (us := [.string s, .int .i64 most, .int .i64 err]) _ rfl
    clear hW
    refine (hopen _).mono ?_
    rintro e w1 ⟨rfl, hb⟩
    replace hX := hX.later hb
    replace hB := bstep hB hb
    clear hb
    have x0 := hX.cell 0 _ rfl
    have x1 := hX.cell 1 _ rfl
    have x2 := hX.cell 2 _ rfl
    have xf0 := hX.fr 0 _ rfl
    have xf1 := hX.fr 1 _ rfl
    have xf2 := hX.fr 2 _ rfl
    go_wp2
    go_ret2
    exact ⟨by rw [hu.out]; rfl, (((hB.setCell (p := ⟨w.heap.size, 0, none⟩) (Nat.le_refl _) _).setCell (p := ⟨w.heap.size, 1, none⟩) (Nat.le_refl _) _).setCell (p := ⟨w.heap.size, 2, none⟩) (Nat.le_refl _) _)⟩
  · rw [if_pos he] at hu
    replace hu := Lib.hid hu
    have hbe : (x.e != 0) = true := by simpa using he
    clear he
    go_enter Try.func38, Try.ntmps38
    go_wp2_with fail
    refine named fun W hW => ?_
    have hB : Below w.heap.size w W := by rw [hW]; go_grown
    have hX : Blk W w.heap.size [.string s, .int .i64 most, .int .i64 err] := by
      rw [hW]; exact Blk.is (us := [.string s, .int .i64 most, .int .i64 err]) _ rfl
    clear hW
    refine (hopen _).mono ?_
    rintro e w1 ⟨rfl, hb⟩
    replace hX := hX.later hb
    replace hB := bstep hB hb
    clear hb
    have x0 := hX.cell 0 _ rfl
    have x1 := hX.cell 1 _ rfl
    have x2 := hX.cell 2 _ rfl
    have xf0 := hX.fr 0 _ rfl
    have xf1 := hX.fr 1 _ rfl
    have xf2 := hX.fr 2 _ rfl
    go_wp2_with fail
    refine named_wp fun W4 hW => ?_
    replace hX : Blk W4 w.heap.size [.string (x).s, .int .i64 (x).m, .int .i64 (x).e] := by rw [hW]; exact (((hX.set 0 _).set 1 _).set 2 _)
    replace hB : Below w.heap.size w W4 := by rw [hW]; exact (((hB.setCell (p := ⟨w.heap.size, 0, none⟩) (Nat.le_refl _) _).setCell (p := ⟨w.heap.size, 1, none⟩) (Nat.le_refl _) _).setCell (p := ⟨w.heap.size, 2, none⟩) (Nat.le_refl _) _)
    clear hW x0 x1 x2 xf0 xf1 xf2
    have x0 := hX.cell 0 _ rfl
    have x1 := hX.cell 1 _ rfl
    have x2 := hX.cell 2 _ rfl
    have xf0 := hX.fr 0 _ rfl
    have xf1 := hX.fr 1 _ rfl
    have xf2 := hX.fr 2 _ rfl
    go_quiet (fail)
    go_wp2
    go_ret2
    exact ⟨by rw [hu.out]; rfl, below_drewN hB _⟩
set_option maxHeartbeats 2000000 in
theorem refMake_any (n : Int) (w : World) :
    Calls Try.prog 28 #[.int .i64 n] w fun e w' => e = .returned (makeW n).val ∧ Below w.heap.size w w' := by
  have hopen := refWriter_any ⟨⟨#[]⟩, n, 0⟩
  obtain ⟨x, hx⟩ : ∃ x, x = Wt.opened ⟨⟨#[]⟩, n, 0⟩ := ⟨_, rfl⟩
  have hu := Lib.hid (show makeW n = x.wgiven by rw [hx]; rfl)
  rw [← hx] at hopen
  clear hx
  simp only [Wt.val, Sp.wgiven] at hopen ⊢
  go_enter Try.func28, Try.ntmps28
  go_wp2_with fail
  refine named fun W hW => ?_
  have hB : Below w.heap.size w W := by rw [hW]; go_grown
  have hR : Blk W w.heap.size [.string ⟨#[]⟩, .int .i64 0, .int .i64 0] := by rw [hW]; exact Blk.is (us := [.string ⟨#[]⟩, .int .i64 0, .int .i64 0]) _ rfl
  clear hW
  refine (hopen _).mono ?_
  rintro e w1 ⟨rfl, hb⟩
  replace hR := hR.later hb
  replace hB := bstep hB hb
  clear hb
  have r0 := hR.cell 0 _ rfl
  have r1 := hR.cell 1 _ rfl
  have r2 := hR.cell 2 _ rfl
  have rf0 := hR.fr 0 _ rfl
  have rf1 := hR.fr 1 _ rfl
  have rf2 := hR.fr 2 _ rfl
  go_wp2
  refine named_post fun V hV => ?_
  have hVR : Blk V w.heap.size [.string (x).s, .int .i64 (x).m, .int .i64 (x).e] := by rw [hV]; exact (((hR.set 0 _).set 1 _).set 2 _)
  have hVB : Below w.heap.size w V := by rw [hV]; exact (((hB.setCell (p := ⟨w.heap.size, 0, none⟩) (Nat.le_refl _) _).setCell (p := ⟨w.heap.size, 1, none⟩) (Nat.le_refl _) _).setCell (p := ⟨w.heap.size, 2, none⟩) (Nat.le_refl _) _)
  clear hV r0 r1 r2 rf0 rf1 rf2
  have c0 := hVR.cell 0 _ rfl
  have c1 := hVR.cell 1 _ rfl
  have c2 := hVR.cell 2 _ rfl
  refine bodyPost_ret (by simp [results, Try.results28, go_sem, c0, c1, c2]; try rfl) rfl ?_
  exact ⟨by rw [hu.out]; rfl, hVB⟩
set_option maxHeartbeats 2000000 in
theorem refPutR_any (r : Wt) (size : Int) (n : Nat) (w : World) (hn : n < 18446744073709551616) :
    Calls Try.prog 30 #[r.val, .int .i64 size, .int .u64 n] w fun e w' => e = .returned (putW r size n).val ∧ Below w.heap.size w w' := by
  obtain ⟨hk, hm2, hs2⟩ := wopened r
  have hus := wopened_u r
  have hopen := refWriter_any r
  obtain ⟨s, most, err⟩ := r
  obtain ⟨x, hx⟩ : ∃ x, x = Wt.opened ⟨s, most, err⟩ := ⟨_, rfl⟩
  have hu := (show putW ⟨s, most, err⟩ size n = (if isSz size = true ∧ fitsI n size.toNat = true then x.add [strOf (digI n size.toNat)] else x.failAt 2 x.u).wgiven by rw [hx]; rfl)
  rw [← hx] at hk hm2 hs2 hopen hus
  clear hx
  have hm0 : 0 ≤ x.m := by have h1 := hk.u0; have h2 := hk.um; omega
  have hF : ∀ q w, q ≠ 0 → Calls Try.prog 68 #[(.agg #[.string (x).s, .int .i64 (x).m, .int .i64 (x).e]), .string ⟨#[]⟩, .int .i64 q] w fun e w' => e = .returned (.agg #[.string (x.failAt q x.u).s, .int .i64 (x.failAt q x.u).m, .int .i64 (x.failAt q x.u).e]) ∧ Below w.heap.size w w' := fun q w hq => by
    have := refPut_any x.wgiven ⟨#[]⟩ q w (Nat.le_trans hs2 (by decide)) (by decide) hm0 hm2
    rw [put_fail x ⟨#[]⟩ q x.u hq] at this
    exact this
  have hP : ∀ (l : List ByteArray) w, total l ≤ 1000000 → Calls Try.prog 68 #[(.agg #[.string (x).s, .int .i64 (x).m, .int .i64 (x).e]), .string (strOf (flat l)), .int .i64 0] w fun e w' => e = .returned (.agg #[.string (x.add l).s, .int .i64 (x.add l).m, .int .i64 (x.add l).e]) ∧ Below w.heap.size w w' := fun l w hl => by
    have := refPut_any x.wgiven (strOf (flat l)) 0 w (Nat.le_trans hs2 (by decide)) (by rw [strOf_size, flat_length]; exact hl) hm0 hm2
    rw [put_add x l hus] at this
    exact this
  clear hus
  simp only [Wt.val, Sp.wgiven] at hopen ⊢
  cases hz : isSz size
  · rw [if_neg (by rw [hz]; simp)] at hu
    replace hu := Lib.hid hu
    have HZ := Lib.hid hz
    clear hz
    go_enter Try.func30, Try.ntmps30
    go_wp2_with fail
    refine named fun W hW => ?_
    have hB : Below w.heap.size w W := by rw [hW]; go_grown
    have hX : Blk W w.heap.size [.string s, .int .i64 most, .int .i64 err] := by
      rw [hW]; exact (Blk.is (us := [.string s, .int .i64 most, .int .i64 err]) _ rfl).alloc _
    have hR : Blk W (w.heap.size + 1) [.string ⟨#[]⟩, .int .i64 0, .int .i64 0] := by rw [hW]; exact Blk.is (us := [.string ⟨#[]⟩, .int .i64 0, .int .i64 0]) _ (by simp)
    clear hW
    refine (hopen _).mono ?_
    rintro e w1 ⟨rfl, hb⟩
    replace hX := hX.later hb
    replace hR := hR.later hb
    replace hB := bstep hB hb
    clear hb
    have x0 := hX.cell 0 _ rfl
    have x1 := hX.cell 1 _ rfl
    have x2 := hX.cell 2 _ rfl
    have xf0 := hX.fr 0 _ rfl
    have xf1 := hX.fr 1 _ rfl
    have xf2 := hX.fr 2 _ rfl
    go_wp2_with fail
    refine named fun W2 hW => ?_
    replace hX : Blk W2 w.heap.size [.string (x).s, .int .i64 (x).m, .int .i64 (x).e] := by rw [hW]; exact (((hX.set 0 _).set 1 _).set 2 _)
    replace hR : Blk W2 (w.heap.size + 1) [.string ⟨#[]⟩, .int .i64 0, .int .i64 0] := by rw [hW]; exact (((hR.other (by simp) _).other (by simp) _).other (by simp) _)
    replace hB : Below w.heap.size w W2 := by rw [hW]; exact (((hB.setCell (p := ⟨w.heap.size, 0, none⟩) (Nat.le_refl _) _).setCell (p := ⟨w.heap.size, 1, none⟩) (Nat.le_refl _) _).setCell (p := ⟨w.heap.size, 2, none⟩) (Nat.le_refl _) _)
    clear hW x0 x1 x2 xf0 xf1 xf2
    have x0 := hX.cell 0 _ rfl
    have x1 := hX.cell 1 _ rfl
    have x2 := hX.cell 2 _ rfl
    have xf0 := hX.fr 0 _ rfl
    have xf1 := hX.fr 1 _ rfl
    have xf2 := hX.fr 2 _ rfl
    refine (refSize_is HZ.out _).mono ?_
    rintro e w' ⟨rfl, rfl⟩
    go_wp2_with fail
    clear x0 x1 x2 xf0 xf1 xf2
    refine (hF 2 _ (by decide)).mono ?_
    rintro e w3 ⟨rfl, hb⟩
    replace hX := hX.later hb
    replace hR := hR.later hb
    replace hB := bstep hB hb
    clear hb
    have r0 := hR.cell 0 _ rfl
    have r1 := hR.cell 1 _ rfl
    have r2 := hR.cell 2 _ rfl
    have rf0 := hR.fr 0 _ rfl
    have rf1 := hR.fr 1 _ rfl
    have rf2 := hR.fr 2 _ rfl
    go_wp2
    refine named_post fun V hV => ?_
    have hVR : Blk V (w.heap.size + 1) [.string (x.failAt 2 x.u).s, .int .i64 (x.failAt 2 x.u).m, .int .i64 (x.failAt 2 x.u).e] := by rw [hV]; exact (((hR.set 0 _).set 1 _).set 2 _)
    have hVB : Below w.heap.size w V := by rw [hV]; exact (((hB.setCell (p := ⟨w.heap.size + 1, 0, none⟩) (by simp) _).setCell (p := ⟨w.heap.size + 1, 1, none⟩) (by simp) _).setCell (p := ⟨w.heap.size + 1, 2, none⟩) (by simp) _)
    clear hV r0 r1 r2 rf0 rf1 rf2
    have c0 := hVR.cell 0 _ rfl
    have c1 := hVR.cell 1 _ rfl
    have c2 := hVR.cell 2 _ rfl
    refine bodyPost_ret (by simp [results, Try.results30, go_sem, c0, c1, c2]; try rfl) rfl ?_
    exact ⟨by rw [hu.out]; rfl, hVB⟩
  · have h0 : 0 ≤ size := by have := isSz_iff.1 hz; omega
    obtain ⟨k, rfl⟩ := Int.eq_ofNat_of_zero_le h0
    rw [Int.toNat_natCast] at hu
    have hk8 : k ≤ 8 := by have := isSz_iff.1 hz; omega
    have hdn := numOf_digI n k
    cases hf : fitsI n k
    · rw [if_neg (by rw [hf]; simp)] at hu
      replace hu := Lib.hid hu
      have HZ := Lib.hid hz
      have HN := Lib.hid (show numOf (strOf (digI n k)).data.toList = n % 256 ^ k by rw [← hdn]; rfl)
      have hne : n % 256 ^ k ≠ n := by rw [fits_nat] at hf; simpa using hf
      obtain ⟨q, hq⟩ : ∃ q, q = n % 256 ^ k := ⟨_, rfl⟩
      rw [← hq] at HN hne
      have hqb : ((q : Int) != (n : Int)) = true := by simp; omega
      clear hz hf hdn hq hne
      go_enter Try.func30, Try.ntmps30
      go_wp2_with fail
      refine named fun W hW => ?_
      have hB : Below w.heap.size w W := by rw [hW]; go_grown
      have hX : Blk W w.heap.size [.string s, .int .i64 most, .int .i64 err] := by
        rw [hW]; exact (Blk.is (us := [.string s, .int .i64 most, .int .i64 err]) _ rfl).alloc _
      have hR : Blk W (w.heap.size + 1) [.string ⟨#[]⟩, .int .i64 0, .int .i64 0] := by rw [hW]; exact Blk.is (us := [.string ⟨#[]⟩, .int .i64 0, .int .i64 0]) _ (by simp)
      clear hW
      refine (hopen _).mono ?_
      rintro e w1 ⟨rfl, hb⟩
      replace hX := hX.later hb
      replace hR := hR.later hb
      replace hB := bstep hB hb
      clear hb
      have x0 := hX.cell 0 _ rfl
      have x1 := hX.cell 1 _ rfl
      have x2 := hX.cell 2 _ rfl
      have xf0 := hX.fr 0 _ rfl
      have xf1 := hX.fr 1 _ rfl
      have xf2 := hX.fr 2 _ rfl
      go_wp2_with fail
      refine named fun W2 hW => ?_
      replace hX : Blk W2 w.heap.size [.string (x).s, .int .i64 (x).m, .int .i64 (x).e] := by rw [hW]; exact (((hX.set 0 _).set 1 _).set 2 _)
      replace hR : Blk W2 (w.heap.size + 1) [.string ⟨#[]⟩, .int .i64 0, .int .i64 0] := by rw [hW]; exact (((hR.other (by simp) _).other (by simp) _).other (by simp) _)
      replace hB : Below w.heap.size w W2 := by rw [hW]; exact (((hB.setCell (p := ⟨w.heap.size, 0, none⟩) (Nat.le_refl _) _).setCell (p := ⟨w.heap.size, 1, none⟩) (Nat.le_refl _) _).setCell (p := ⟨w.heap.size, 2, none⟩) (Nat.le_refl _) _)
      clear hW x0 x1 x2 xf0 xf1 xf2
      have x0 := hX.cell 0 _ rfl
      have x1 := hX.cell 1 _ rfl
      have x2 := hX.cell 2 _ rfl
      have xf0 := hX.fr 0 _ rfl
      have xf1 := hX.fr 1 _ rfl
      have xf2 := hX.fr 2 _ rfl
      refine (refSize_is HZ.out _).mono ?_
      rintro e w' ⟨rfl, rfl⟩
      go_wp2_with fail
      clear x0 x1 x2 xf0 xf1 xf2
      refine (refDigits_any n k _ hn hk8).mono ?_
      rintro e w3 ⟨rfl, hb⟩
      replace hX := hX.later hb
      replace hR := hR.later hb
      replace hB := bstep hB hb
      clear hb
      go_wp2_with fail
      refine (refNumber_any _ _ (by rw [strOf_size, digI_length]; omega)).mono ?_
      rintro e w' ⟨rfl, rfl⟩
      rw [HN.out]
      have x0 := hX.cell 0 _ rfl
      have x1 := hX.cell 1 _ rfl
      have x2 := hX.cell 2 _ rfl
      have xf0 := hX.fr 0 _ rfl
      have xf1 := hX.fr 1 _ rfl
      have xf2 := hX.fr 2 _ rfl
      go_wp2_with fail
      clear x0 x1 x2 xf0 xf1 xf2
      refine (hF 2 _ (by decide)).mono ?_
      rintro e w4 ⟨rfl, hb⟩
      replace hX := hX.later hb
      replace hR := hR.later hb
      replace hB := bstep hB hb
      clear hb
      have r0 := hR.cell 0 _ rfl
      have r1 := hR.cell 1 _ rfl
      have r2 := hR.cell 2 _ rfl
      have rf0 := hR.fr 0 _ rfl
      have rf1 := hR.fr 1 _ rfl
      have rf2 := hR.fr 2 _ rfl
      go_wp2
      refine named_post fun V hV => ?_
      have hVR : Blk V (w.heap.size + 1) [.string (x.failAt 2 x.u).s, .int .i64 (x.failAt 2 x.u).m, .int .i64 (x.failAt 2 x.u).e] := by rw [hV]; exact (((hR.set 0 _).set 1 _).set 2 _)
      have hVB : Below w.heap.size w V := by rw [hV]; exact (((hB.setCell (p := ⟨w.heap.size + 1, 0, none⟩) (by simp) _).setCell (p := ⟨w.heap.size + 1, 1, none⟩) (by simp) _).setCell (p := ⟨w.heap.size + 1, 2, none⟩) (by simp) _)
      clear hV r0 r1 r2 rf0 rf1 rf2
      have c0 := hVR.cell 0 _ rfl
      have c1 := hVR.cell 1 _ rfl
      have c2 := hVR.cell 2 _ rfl
      refine bodyPost_ret (by simp [results, Try.results30, go_sem, c0, c1, c2]; try rfl) rfl ?_
      exact ⟨by rw [hu.out]; rfl, hVB⟩
    · rw [if_pos ⟨hz, hf⟩] at hu
      replace hu := Lib.hid hu
      have HZ := Lib.hid hz
      have hne : n % 256 ^ k = n := by rw [fits_nat] at hf; simpa using hf
      have HN := Lib.hid (show numOf (strOf (digI n k)).data.toList = n by rw [← hne, ← hdn]; rw [hdn, hne]; exact hdn.trans hne)
      have hP1 := fun w => hP [strOf (digI n k)] w (by simp [total, strOf_size, digI_length]; omega)
      rw [show strOf (flat [strOf (digI n k)]) = strOf (digI n k) by simp [flat, strOf]] at hP1
      clear hz hf hdn hne hP hF
      go_enter Try.func30, Try.ntmps30
      go_wp2_with fail
      refine named fun W hW => ?_
      have hB : Below w.heap.size w W := by rw [hW]; go_grown
      have hX : Blk W w.heap.size [.string s, .int .i64 most, .int .i64 err] := by
        rw [hW]; exact (Blk.is (us := [.string s, .int .i64 most, .int .i64 err]) _ rfl).alloc _
      have hR : Blk W (w.heap.size + 1) [.string ⟨#[]⟩, .int .i64 0, .int .i64 0] := by rw [hW]; exact Blk.is (us := [.string ⟨#[]⟩, .int .i64 0, .int .i64 0]) _ (by simp)
      clear hW
      refine (hopen _).mono ?_
      rintro e w1 ⟨rfl, hb⟩
      replace hX := hX.later hb
      replace hR := hR.later hb
      replace hB := bstep hB hb
      clear hb
      have x0 := hX.cell 0 _ rfl
      have x1 := hX.cell 1 _ rfl
      have x2 := hX.cell 2 _ rfl
      have xf0 := hX.fr 0 _ rfl
      have xf1 := hX.fr 1 _ rfl
      have xf2 := hX.fr 2 _ rfl
      go_wp2_with fail
      refine named fun W2 hW => ?_
      replace hX : Blk W2 w.heap.size [.string (x).s, .int .i64 (x).m, .int .i64 (x).e] := by rw [hW]; exact (((hX.set 0 _).set 1 _).set 2 _)
      replace hR : Blk W2 (w.heap.size + 1) [.string ⟨#[]⟩, .int .i64 0, .int .i64 0] := by rw [hW]; exact (((hR.other (by simp) _).other (by simp) _).other (by simp) _)
      replace hB : Below w.heap.size w W2 := by rw [hW]; exact (((hB.setCell (p := ⟨w.heap.size, 0, none⟩) (Nat.le_refl _) _).setCell (p := ⟨w.heap.size, 1, none⟩) (Nat.le_refl _) _).setCell (p := ⟨w.heap.size, 2, none⟩) (Nat.le_refl _) _)
      clear hW x0 x1 x2 xf0 xf1 xf2
      have x0 := hX.cell 0 _ rfl
      have x1 := hX.cell 1 _ rfl
      have x2 := hX.cell 2 _ rfl
      have xf0 := hX.fr 0 _ rfl
      have xf1 := hX.fr 1 _ rfl
      have xf2 := hX.fr 2 _ rfl
      refine (refSize_is HZ.out _).mono ?_
      rintro e w' ⟨rfl, rfl⟩
      go_wp2_with fail
      clear x0 x1 x2 xf0 xf1 xf2
      refine (refDigits_any n k _ hn hk8).mono ?_
      rintro e w3 ⟨rfl, hb⟩
      replace hX := hX.later hb
      replace hR := hR.later hb
      replace hB := bstep hB hb
      clear hb
      go_wp2_with fail
      refine (refNumber_any _ _ (by rw [strOf_size, digI_length]; omega)).mono ?_
      rintro e w' ⟨rfl, rfl⟩
      rw [HN.out]
      have x0 := hX.cell 0 _ rfl
      have x1 := hX.cell 1 _ rfl
      have x2 := hX.cell 2 _ rfl
      have xf0 := hX.fr 0 _ rfl
      have xf1 := hX.fr 1 _ rfl
      have xf2 := hX.fr 2 _ rfl
      go_wp2_with fail
      go_region_with ((first | (go_at_call 67; refine (refDigits_any n k _ hn hk8).mono ?_; rintro e w4 ⟨rfl, hb4⟩; have hX1 := hX.drew.later hb4; have hR1 := hR.drew.later hb4; have hB1 := bstep hB.drew hb4; have d0 := hX1.cell 0 _ rfl; have d1 := hX1.cell 1 _ rfl; have d2 := hX1.cell 2 _ rfl; clear hb4) | (go_at_call 68; refine (hP1 _).mono ?_; rintro e w5 ⟨rfl, hb5⟩; have hR2 := hR1.later hb5; have hB2 := bstep hB1 hb5; have e0 := hR2.cell 0 _ rfl; have e1 := hR2.cell 1 _ rfl; have e2 := hR2.cell 2 _ rfl; have ef0 := hR2.fr 0 _ rfl; have ef1 := hR2.fr 1 _ rfl; have ef2 := hR2.fr 2 _ rfl)))
      all_goals
        go_wp2
        refine named_post fun V hV => ?_
        have hVR : Blk V (w.heap.size + 1) [.string (x.add [strOf (digI n k)]).s, .int .i64 (x.add [strOf (digI n k)]).m, .int .i64 (x.add [strOf (digI n k)]).e] := by rw [hV]; exact (((hR2.set 0 _).set 1 _).set 2 _)
        have hVB : Below w.heap.size w V := by rw [hV]; exact (((hB2.setCell (p := ⟨w.heap.size + 1, 0, none⟩) (by simp) _).setCell (p := ⟨w.heap.size + 1, 1, none⟩) (by simp) _).setCell (p := ⟨w.heap.size + 1, 2, none⟩) (by simp) _)
        clear hV x0 x1 x2 xf0 xf1 xf2
        have c0 := hVR.cell 0 _ rfl
        have c1 := hVR.cell 1 _ rfl
        have c2 := hVR.cell 2 _ rfl
        refine bodyPost_ret (by simp [results, Try.results30, go_sem, c0, c1, c2]; try rfl) rfl ?_
        exact ⟨by rw [hu.out]; rfl, hVB⟩
end Go.Proofs.Ytgcgoiaadigmfaa
