/- Walks: PutInt64, PutSized, Add of the reference. -/
import Derived.Test.YtgcgoiaadigmfaaWireS
namespace Go.Proofs.Ytgcgoiaadigmfaa
open Go.RowKit
open Wr

theorem digI_u64 (n : Int) (k : Nat) (hk : k ≤ 8) : digI (n % 18446744073709551616) k = digI n k := by
  induction k with
  | zero => rfl
  | succ k ih =>
    rw [digI_succ, digI_succ, ih (by omega)]
    congr 1
    apply UInt8.toNat_inj.1
    have h1 := byteAt_val (n % 18446744073709551616) k
    have h2 := byteAt_val n k
    have hd : (18446744073709551616 : Int) = 256 ^ k * (256 * 256 ^ (7 - k)) := by
      have : (256 : Int) ^ 8 = 256 ^ k * (256 * 256 ^ (7 - k)) := by
        rw [← Int.pow_succ', ← Int.pow_add]; congr 1; omega
      rw [← this]; rfl
    have hp : (256 : Int) ^ k ≠ 0 := Int.ne_of_gt (Int.pow_pos (by decide))
    have hdm := Int.emod_add_mul_ediv n 18446744073709551616
    have : n % 18446744073709551616 / 256 ^ k % 256 = n / 256 ^ k % 256 := by
      obtain ⟨q, hq⟩ : ∃ q, q = n / 18446744073709551616 := ⟨_, rfl⟩
      obtain ⟨m, hm⟩ : ∃ m, m = n % 18446744073709551616 := ⟨_, rfl⟩
      rw [← hq, ← hm] at hdm
      rw [← hm, ← hdm, hd, Int.mul_assoc, Int.add_mul_ediv_left _ _ hp, Int.mul_assoc, Int.add_mul_emod_self_left]
    omega
set_option maxHeartbeats 2000000 in
theorem refPutInt64_any (r : Wt) (n : Int) (w : World) :
    Calls Try.prog 32 #[r.val, .int .i64 n] w fun e w' => e = .returned (putInt64W r n).val ∧ Below w.heap.size w w' := by
  obtain ⟨m, hm⟩ : ∃ m : Nat, (m : Int) = IntKind.u64.wrap n := ⟨(IntKind.u64.wrap n).toNat, by rw [IntKind.wrap_u64]; omega⟩
  have hm64 : m < 18446744073709551616 := by rw [IntKind.wrap_u64] at hm; omega
  have hput := fun w => refPutR_any r 8 m w hm64
  have hz : putW r 8 m = putInt64W r n := by
    have hf : fitsI m 8 = true := by rw [fits_nat]; exact decide_eq_true (Nat.mod_eq_of_lt hm64)
    unfold putW putInt64W addW
    rw [if_pos ⟨by rfl, hf⟩, hm, IntKind.wrap_u64, show (8 : Int).toNat = 8 from rfl, digI_u64 n 8 (by decide)]
  rw [hz] at hput
  obtain ⟨z, hzz⟩ : ∃ z, z = putInt64W r n := ⟨_, rfl⟩
  rw [← hzz] at hput ⊢
  obtain ⟨zs, zm, ze⟩ := z
  obtain ⟨s, most, err⟩ := r
  simp only [Wt.val] at hput ⊢
  rw [hm] at hput
  clear hz hzz hm hm64
  go_enter Try.func32, Try.ntmps32
  go_wp2_with fail
  refine named fun W hW => ?_
  have hB : Below w.heap.size w W := by rw [hW]; go_grown
  have hX : Blk W w.heap.size [.string s, .int .i64 most, .int .i64 err] := by
    rw [hW]; exact (Blk.is (us := [.string s, .int .i64 most, .int .i64 err]) _ rfl).alloc _
  have hR : Blk W (w.heap.size + 1) [.string ⟨#[]⟩, .int .i64 0, .int .i64 0] := by rw [hW]; exact Blk.is (us := [.string ⟨#[]⟩, .int .i64 0, .int .i64 0]) _ (by simp)
  clear hW
  refine (hput _).mono ?_
  rintro e w1 ⟨rfl, hb⟩
  replace hX := hX.later hb
  replace hR := hR.later hb
  replace hB := bstep hB hb
  clear hb
  have r0 := hR.cell 0 _ rfl
  have r1 := hR.cell 1 _ rfl
  have r2 := hR.cell 2 _ rfl
  have rf0 := hR.fr 0 _ rfl
  have rf1 := hR.fr 1 _ rfl
  have rf2 := hR.fr 2 _ rfl
  go_wp2
  refine named_post fun V hV => ?_
  have hVR : Blk V (w.heap.size + 1) [.string zs, .int .i64 zm, .int .i64 ze] := by rw [hV]; exact (((hR.set 0 _).set 1 _).set 2 _)
  have hVB : Below w.heap.size w V := by rw [hV]; exact (((hB.setCell (p := ⟨w.heap.size + 1, 0, none⟩) (by simp) _).setCell (p := ⟨w.heap.size + 1, 1, none⟩) (by simp) _).setCell (p := ⟨w.heap.size + 1, 2, none⟩) (by simp) _)
  clear hV r0 r1 r2 rf0 rf1 rf2
  have c0 := hVR.cell 0 _ rfl
  have c1 := hVR.cell 1 _ rfl
  have c2 := hVR.cell 2 _ rfl
  refine bodyPost_ret (by simp [results, Try.results32, go_sem, c0, c1, c2]; try rfl) rfl ?_
  exact ⟨by rfl, hVB⟩
set_option maxHeartbeats 2000000 in
theorem refPutSized_any (r : Wt) (s' : ByteArray) (w : World) (hs3 : s'.size ≤ 65600) :
    Calls Try.prog 36 #[r.val, .string s'] w fun e w' => e = .returned (putSizedW r s').val ∧ Below w.heap.size w w' := by
  obtain ⟨hk, hm2, hs2⟩ := wopened r
  have hus := wopened_u r
  have hopen := refWriter_any r
  obtain ⟨s, most, err⟩ := r
  obtain ⟨x, hx⟩ : ∃ x, x = Wt.opened ⟨s, most, err⟩ := ⟨_, rfl⟩
  have hu := (show putSizedW ⟨s, most, err⟩ s' = (if 65535 < s'.size then x.failAt 2 x.u else x.add [strOf (digI s'.size 2), s']).wgiven by rw [hx]; rfl)
  rw [← hx] at hk hm2 hs2 hopen hus
  clear hx
  have hm0 : 0 ≤ x.m := by have h1 := hk.u0; have h2 := hk.um; omega
  have hF : ∀ q w, q ≠ 0 → Calls Try.prog 68 #[(.agg #[.string (x).s, .int .i64 (x).m, .int .i64 (x).e]), .string ⟨#[]⟩, .int .i64 q] w fun e w' => e = .returned (.agg #[.string (x.failAt q x.u).s, .int .i64 (x.failAt q x.u).m, .int .i64 (x.failAt q x.u).e]) ∧ Below w.heap.size w w' := fun q w hq => by
    have := refPut_any x.wgiven ⟨#[]⟩ q w (Nat.le_trans hs2 (by decide)) (by decide) hm0 hm2
    rw [put_fail x ⟨#[]⟩ q x.u hq] at this
    exact this
  have hP : ∀ (l : List ByteArray) w, total l ≤ 1000000 → Calls Try.prog 68 #[(.agg #[.string (x).s, .int .i64 (x).m, .int .i64 (x).e]), .string (strOf (flat l)), .int .i64 0] w fun e w' => e = .returned (.agg #[.string (x.add l).s, .int .i64 (x.add l).m, .int .i64 (x.add l).e]) ∧ Below w.heap.size w w' := fun l w hl => by
    have := refPut_any x.wgiven (strOf (flat l)) 0 w (Nat.le_trans hs2 (by decide)) (by rw [strOf_size, flat_length]; exact hl) hm0 hm2
    rw [put_add x l hus] at this
    exact this
  clear hus
  simp only [Wt.val, Sp.wgiven] at hopen ⊢
  by_cases hl : 65535 < s'.size
  · rw [if_pos hl] at hu
    replace hu := Lib.hid hu
    go_enter Try.func36, Try.ntmps36
    go_wp2_with fail
    refine named fun W hW => ?_
    have hB : Below w.heap.size w W := by rw [hW]; go_grown
    have hX : Blk W w.heap.size [.string s, .int .i64 most, .int .i64 err] := by
      rw [hW]; exact (Blk.is (us := [.string s, .int .i64 most, .int .i64 err]) _ rfl).alloc _
    have hR : Blk W (w.heap.size + 1) [.string ⟨#[]⟩, .int .i64 0, .int .i64 0] := by rw [hW]; exact Blk.is (us := [.string ⟨#[]⟩, .int .i64 0, .int .i64 0]) _ (by simp)
    clear hW
    refine (hopen _).mono ?_
    rintro e w1 ⟨rfl, hb⟩
    replace hX := hX.later hb
    replace hR := hR.later hb
    replace hB := bstep hB hb
    clear hb
    have x0 := hX.cell 0 _ rfl
    have x1 := hX.cell 1 _ rfl
    have x2 := hX.cell 2 _ rfl
    have xf0 := hX.fr 0 _ rfl
    have xf1 := hX.fr 1 _ rfl
    have xf2 := hX.fr 2 _ rfl
    go_wp2_with fail
    refine named fun W2 hW => ?_
    replace hX : Blk W2 w.heap.size [.string (x).s, .int .i64 (x).m, .int .i64 (x).e] := by rw [hW]; exact (((hX.set 0 _).set 1 _).set 2 _)
    replace hR : Blk W2 (w.heap.size + 1) [.string ⟨#[]⟩, .int .i64 0, .int .i64 0] := by rw [hW]; exact (((hR.other (by simp) _).other (by simp) _).other (by simp) _)
    replace hB : Below w.heap.size w W2 := by rw [hW]; exact (((hB.setCell (p := ⟨w.heap.size, 0, none⟩) (Nat.le_refl _) _).setCell (p := ⟨w.heap.size, 1, none⟩) (Nat.le_refl _) _).setCell (p := ⟨w.heap.size, 2, none⟩) (Nat.le_refl _) _)
    clear hW x0 x1 x2 xf0 xf1 xf2
    refine (hF 2 _ (by decide)).mono ?_
    rintro e w3 ⟨rfl, hb⟩
    replace hX := hX.later hb
    replace hR := hR.later hb
    replace hB := bstep hB hb
    clear hb
    have r0 := hR.cell 0 _ rfl
    have r1 := hR.cell 1 _ rfl
    have r2 := hR.cell 2 _ rfl
    have rf0 := hR.fr 0 _ rfl
    have rf1 := hR.fr 1 _ rfl
    have rf2 := hR.fr 2 _ rfl
    go_wp2
    refine named_post fun V hV => ?_
    have hVR : Blk V (w.heap.size + 1) [.string (x.failAt 2 x.u).s, .int .i64 (x.failAt 2 x.u).m, .int .i64 (x.failAt 2 x.u).e] := by rw [hV]; exact (((hR.set 0 _).set 1 _).set 2 _)
    have hVB : Below w.heap.size w V := by rw [hV]; exact (((hB.setCell (p := ⟨w.heap.size + 1, 0, none⟩) (by simp) _).setCell (p := ⟨w.heap.size + 1, 1, none⟩) (by simp) _).setCell (p := ⟨w.heap.size + 1, 2, none⟩) (by simp) _)
    clear hV r0 r1 r2 rf0 rf1 rf2
    have c0 := hVR.cell 0 _ rfl
    have c1 := hVR.cell 1 _ rfl
    have c2 := hVR.cell 2 _ rfl
    refine bodyPost_ret (by simp [results, Try.results36, go_sem, c0, c1, c2]; try rfl) rfl ?_
    exact ⟨by rw [hu.out]; rfl, hVB⟩
  · rw [if_neg hl] at hu
    replace hu := Lib.hid hu
    have hP1 := fun w => hP [strOf (digI s'.size 2), s'] w (by simp [total, strOf_size, digI_length]; omega)
    rw [show strOf (flat [strOf (digI s'.size 2), s']) = strOf (digI s'.size 2) ++ s' by
      apply ByteArray.ext
      rw [ByteArray.data_append]
      simp [flat, strOf]] at hP1
    have hds : (strOf (digI s'.size 2)).size ≤ 2 := by rw [strOf_size, digI_length]; decide
    clear hP hF
    go_enter Try.func36, Try.ntmps36
    go_wp2_with fail
    refine named fun W hW => ?_
    have hB : Below w.heap.size w W := by rw [hW]; go_grown
    have hX : Blk W w.heap.size [.string s, .int .i64 most, .int .i64 err] := by
      rw [hW]; exact (Blk.is (us := [.string s, .int .i64 most, .int .i64 err]) _ rfl).alloc _
    have hR : Blk W (w.heap.size + 1) [.string ⟨#[]⟩, .int .i64 0, .int .i64 0] := by rw [hW]; exact Blk.is (us := [.string ⟨#[]⟩, .int .i64 0, .int .i64 0]) _ (by simp)
    clear hW
    refine (hopen _).mono ?_
    rintro e w1 ⟨rfl, hb⟩
    replace hX := hX.later hb
    replace hR := hR.later hb
    replace hB := bstep hB hb
    clear hb
    have x0 := hX.cell 0 _ rfl
    have x1 := hX.cell 1 _ rfl
    have x2 := hX.cell 2 _ rfl
    have xf0 := hX.fr 0 _ rfl
    have xf1 := hX.fr 1 _ rfl
    have xf2 := hX.fr 2 _ rfl
    go_wp2_with fail
    refine named_wp fun W4 hW => ?_
    replace hX : Blk W4 w.heap.size [.string (x).s, .int .i64 (x).m, .int .i64 (x).e] := by rw [hW]; exact (((hX.set 0 _).set 1 _).set 2 _)
    replace hR : Blk W4 (w.heap.size + 1) [.string ⟨#[]⟩, .int .i64 0, .int .i64 0] := by rw [hW]; exact (((hR.other (by simp) _).other (by simp) _).other (by simp) _)
    replace hB : Below w.heap.size w W4 := by rw [hW]; exact (((hB.setCell (p := ⟨w.heap.size, 0, none⟩) (Nat.le_refl _) _).setCell (p := ⟨w.heap.size, 1, none⟩) (Nat.le_refl _) _).setCell (p := ⟨w.heap.size, 2, none⟩) (Nat.le_refl _) _)
    clear hW x0 x1 x2 xf0 xf1 xf2
    have x0 := hX.cell 0 _ rfl
    have x1 := hX.cell 1 _ rfl
    have x2 := hX.cell 2 _ rfl
    have xf0 := hX.fr 0 _ rfl
    have xf1 := hX.fr 1 _ rfl
    have xf2 := hX.fr 2 _ rfl
    have hwr : IntKind.u64.wrap (s'.size : Int) = (s'.size : Int) := by rw [IntKind.wrap_u64]; omega
    go_region_with ((first | (go_at_call 67; refine (refDigits_any s'.size 2 _ (by omega) (by decide)).mono ?_; rintro e w4 ⟨rfl, hb4⟩; have hX1 := hX.drew.later hb4; have hR1 := hR.drew.later hb4; have hB1 := bstep hB.drew hb4; have d0 := hX1.cell 0 _ rfl; have d1 := hX1.cell 1 _ rfl; have d2 := hX1.cell 2 _ rfl; clear hb4) | (go_at_call 68; refine (hP1 _).mono ?_; rintro e w5 ⟨rfl, hb5⟩; have hR2 := hR1.later hb5; have hB2 := bstep hB1 hb5; have e0 := hR2.cell 0 _ rfl; have e1 := hR2.cell 1 _ rfl; have e2 := hR2.cell 2 _ rfl; have ef0 := hR2.fr 0 _ rfl; have ef1 := hR2.fr 1 _ rfl; have ef2 := hR2.fr 2 _ rfl)))
    all_goals
      go_wp2
      refine named_post fun V hV => ?_
      have hVR : Blk V (w.heap.size + 1) [.string (x.add [strOf (digI s'.size 2), s']).s, .int .i64 (x.add [strOf (digI s'.size 2), s']).m, .int .i64 (x.add [strOf (digI s'.size 2), s']).e] := by rw [hV]; exact (((hR2.set 0 _).set 1 _).set 2 _)
      have hVB : Below w.heap.size w V := by rw [hV]; exact (((hB2.setCell (p := ⟨w.heap.size + 1, 0, none⟩) (by simp) _).setCell (p := ⟨w.heap.size + 1, 1, none⟩) (by simp) _).setCell (p := ⟨w.heap.size + 1, 2, none⟩) (by simp) _)
      clear hV x0 x1 x2 xf0 xf1 xf2
      have c0 := hVR.cell 0 _ rfl
      have c1 := hVR.cell 1 _ rfl
      have c2 := hVR.cell 2 _ rfl
      refine bodyPost_ret (by simp [results, Try.results36, go_sem, c0, c1, c2]; try rfl) rfl ?_
      exact ⟨by rw [hu.out]; rfl, hVB⟩
end Go.Proofs.Ytgcgoiaadigmfaa
