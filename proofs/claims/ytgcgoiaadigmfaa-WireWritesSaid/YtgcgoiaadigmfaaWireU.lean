/- Walks: Add of the reference. -/
import Derived.Test.YtgcgoiaadigmfaaWireT
namespace Go.Proofs.Ytgcgoiaadigmfaa
open Go.RowKit
open Wr

theorem total_le (l : List ByteArray) (k : Nat) : total (l.take k) ≤ total l := by
  have h : total l = total (l.take k) + total (l.drop k) := by
    unfold total
    rw [← List.sum_append, ← List.map_append, List.take_append_drop]
  omega
theorem total_ge (l : List ByteArray) (k : Nat) (h : k < l.length) : l[k].size ≤ total l := by
  have h1 := total_take l k h
  have h2 := total_le l (k + 1)
  omega
theorem add_long (x : Sp) (hu : 0 ≤ x.u) (hm : x.m ≤ 20000) (l : List ByteArray) (h : 20000 < total l) : x.add l = x.failAt 4 x.u := by
  obtain ⟨u, m, e, a, s⟩ := x
  simp only at hu hm
  by_cases he : e = 0
  · simp [Sp.add, he]; omega
  · simp [Sp.add, Sp.failAt, he]
set_option maxHeartbeats 2000000 in
theorem refAdd_any (r : Wt) (v : Value) (l : List ByteArray) (w : World) (hv : Slc w v (strs l)) (hl : l.length ≤ 100000) (hz : ∀ s ∈ l, s.size ≤ 1000000) :
    Calls Try.prog 34 #[r.val, v] w fun e w' => e = .returned (addW r l).val ∧ Below w.heap.size w w' := by
  obtain ⟨hk, hm2, hs2⟩ := wopened r
  have hus := wopened_u r
  have hopen := refWriter_any r
  obtain ⟨s, most, err⟩ := r
  obtain ⟨x, hx⟩ : ∃ x, x = Wt.opened ⟨s, most, err⟩ := ⟨_, rfl⟩
  have hu := Lib.hid (show addW ⟨s, most, err⟩ l = (x.add l).wgiven by rw [hx]; rfl)
  rw [← hx] at hk hm2 hs2 hopen hus
  clear hx
  have hm0 : 0 ≤ x.m := by have h1 := hk.u0; have h2 := hk.um; omega
  have hF : ∀ q w, q ≠ 0 → Calls Try.prog 68 #[(.agg #[.string (x).s, .int .i64 (x).m, .int .i64 (x).e]), .string ⟨#[]⟩, .int .i64 q] w fun e w' => e = .returned (.agg #[.string (x.failAt q x.u).s, .int .i64 (x.failAt q x.u).m, .int .i64 (x.failAt q x.u).e]) ∧ Below w.heap.size w w' := fun q w hq => by
    have := refPut_any x.wgiven ⟨#[]⟩ q w (Nat.le_trans hs2 (by decide)) (by decide) hm0 hm2
    rw [put_fail x ⟨#[]⟩ q x.u hq] at this
    exact this
  have hP : ∀ (l : List ByteArray) w, total l ≤ 1000000 → Calls Try.prog 68 #[(.agg #[.string (x).s, .int .i64 (x).m, .int .i64 (x).e]), .string (strOf (flat l)), .int .i64 0] w fun e w' => e = .returned (.agg #[.string (x.add l).s, .int .i64 (x.add l).m, .int .i64 (x.add l).e]) ∧ Below w.heap.size w w' := fun l w hl => by
    have := refPut_any x.wgiven (strOf (flat l)) 0 w (Nat.le_trans hs2 (by decide)) (by rw [strOf_size, flat_length]; exact hl) hm0 hm2
    rw [put_add x l hus] at this
    exact this
  clear hus
  simp only [Wt.val, Sp.wgiven] at hopen ⊢
  have hlong := Lib.hid (add_long x hk.u0 hm2 l)
  have HZ := Lib.hid hz
  clear hz
  go_enter Try.func34, Try.ntmps34
  go_wp2_with fail
  refine named fun W hW => ?_
  have hB : Below w.heap.size w W := by rw [hW]; go_grown
  have hX : Blk W w.heap.size [.string s, .int .i64 most, .int .i64 err] := by
    rw [hW]; exact (Blk.is (us := [.string s, .int .i64 most, .int .i64 err]) _ rfl).alloc _
  have hR : Blk W (w.heap.size + 1) [.string ⟨#[]⟩, .int .i64 0, .int .i64 0] := by rw [hW]; exact Blk.is (us := [.string ⟨#[]⟩, .int .i64 0, .int .i64 0]) _ (by simp)
  clear hW
  refine (hopen _).mono ?_
  rintro e w1 ⟨rfl, hb⟩
  replace hX := hX.later hb
  replace hR := hR.later hb
  replace hB := bstep hB hb
  clear hb
  have x0 := hX.cell 0 _ rfl
  have x1 := hX.cell 1 _ rfl
  have x2 := hX.cell 2 _ rfl
  have xf0 := hX.fr 0 _ rfl
  have xf1 := hX.fr 1 _ rfl
  have xf2 := hX.fr 2 _ rfl
  go_wp2_with fail
  refine named_wp fun W2 hW => ?_
  replace hX : Blk W2 w.heap.size [.string (x).s, .int .i64 (x).m, .int .i64 (x).e] := by rw [hW]; exact (((hX.set 0 _).set 1 _).set 2 _)
  replace hR : Blk W2 (w.heap.size + 1) [.string ⟨#[]⟩, .int .i64 0, .int .i64 0] := by rw [hW]; exact (((hR.other (by simp) _).other (by simp) _).other (by simp) _)
  replace hB : Below w.heap.size w W2 := by rw [hW]; exact (((hB.setCell (p := ⟨w.heap.size, 0, none⟩) (Nat.le_refl _) _).setCell (p := ⟨w.heap.size, 1, none⟩) (Nat.le_refl _) _).setCell (p := ⟨w.heap.size, 2, none⟩) (Nat.le_refl _) _)
  clear hW x0 x1 x2 xf0 xf1 xf2
  have x0 := hX.cell 0 _ rfl
  have x1 := hX.cell 1 _ rfl
  have x2 := hX.cell 2 _ rfl
  have xf0 := hX.fr 0 _ rfl
  have xf1 := hX.fr 1 _ rfl
  have xf2 := hX.fr 2 _ rfl
  have r0 := hR.cell 0 _ rfl
  have r1 := hR.cell 1 _ rfl
  have r2 := hR.cell 2 _ rfl
  have rf0 := hR.fr 0 _ rfl
  have rf1 := hR.fr 1 _ rfl
  have rf2 := hR.fr 2 _ rfl
  have hv2 := hv.below hB
  obtain ⟨A, cap, rfl, hmax, _, hc⟩ := hv2
  have hll : (strs l).length = l.length := by simp [strs]
  rw [hll] at hmax ⊢
  have HC := Lib.hid hc
  clear hc hll hv
  unfold maxLen at hmax
  go_loop [5, 6] (fun out i => ∃ k : Nat, k ≤ l.length ∧ i = .int .i64 k ∧ out = .string (strOf (flat (l.take k))) ∧ total (l.take k) ≤ 40000) (fun _ i => l.length - (intOf i).toNat)
  case atStart => exact ⟨0, by omega, rfl, rfl, by simp [total]⟩
  case round =>
    obtain ⟨k, hkl, rfl, rfl, ht⟩ := hrel
    have hfs : (strOf (flat (l.take k))).size = total (l.take k) := by rw [strOf_size, flat_length]
    by_cases hlt : k < l.length
    · obtain ⟨a, rfl, _, hcell⟩ := HC.out k (by simpa [strs] using hlt)
      rw [show (strs l)[k]'(by simpa [strs] using hlt) = .string l[k] by simp [strs]] at hcell
      have htk := total_take l k hlt
      have hge := total_ge l k hlt
      have hle := total_le l k
      obtain ⟨f, hf⟩ : ∃ f, f = strOf (flat (l.take k)) := ⟨_, rfl⟩
      have hnext := Lib.hid (show f ++ l[k] = strOf (flat (l.take (k + 1))) by
        rw [hf, take_snoc l k hlt, flat_snoc]
        apply ByteArray.ext
        rw [ByteArray.data_append]
        simp [strOf])
      rw [← hf] at hfs ⊢
      clear hf
      by_cases h1 : 20000 < l[k].size
      · have hxl := Lib.hid (hlong.out (by omega))
        clear htk hge hle
        have HFS := Lib.hid hfs
        clear hfs
        go_wp2_with fail
        refine (hF 4 _ (by decide)).mono ?_
        rintro e w5 ⟨rfl, hb⟩
        have hR2 := hR.later hb
        have hB2 := bstep hB hb
        clear hb r0 r1 r2 rf0 rf1 rf2
        have r0 := hR2.cell 0 _ rfl
        have r1 := hR2.cell 1 _ rfl
        have r2 := hR2.cell 2 _ rfl
        have rf0 := hR2.fr 0 _ rfl
        have rf1 := hR2.fr 1 _ rfl
        have rf2 := hR2.fr 2 _ rfl
        go_wp2
        refine named_post fun V hV => ?_
        have hVR : Blk V (w.heap.size + 1) [.string (x.failAt 4 x.u).s, .int .i64 (x.failAt 4 x.u).m, .int .i64 (x.failAt 4 x.u).e] := by rw [hV]; exact (((hR2.set 0 _).set 1 _).set 2 _)
        have hVB : Below w.heap.size w V := by rw [hV]; exact (((hB2.setCell (p := ⟨w.heap.size + 1, 0, none⟩) (by simp) _).setCell (p := ⟨w.heap.size + 1, 1, none⟩) (by simp) _).setCell (p := ⟨w.heap.size + 1, 2, none⟩) (by simp) _)
        clear hV r0 r1 r2 rf0 rf1 rf2
        have c0 := hVR.cell 0 _ rfl
        have c1 := hVR.cell 1 _ rfl
        have c2 := hVR.cell 2 _ rfl
        refine bodyPost_ret (by simp [results, Try.results34, go_sem, c0, c1, c2]; try rfl) rfl ?_
        exact ⟨by rw [hu.out, hxl.out]; rfl, hVB⟩
      · by_cases h2 : 20000 < f.size
        · have hxl := Lib.hid (hlong.out (by omega))
          clear htk hge hle
          have HFS := Lib.hid hfs
          clear hfs
          go_wp2_with fail
          refine (hF 4 _ (by decide)).mono ?_
          rintro e w5 ⟨rfl, hb⟩
          have hR2 := hR.later hb
          have hB2 := bstep hB hb
          clear hb r0 r1 r2 rf0 rf1 rf2
          have r0 := hR2.cell 0 _ rfl
          have r1 := hR2.cell 1 _ rfl
          have r2 := hR2.cell 2 _ rfl
          have rf0 := hR2.fr 0 _ rfl
          have rf1 := hR2.fr 1 _ rfl
          have rf2 := hR2.fr 2 _ rfl
          go_wp2
          refine named_post fun V hV => ?_
          have hVR : Blk V (w.heap.size + 1) [.string (x.failAt 4 x.u).s, .int .i64 (x.failAt 4 x.u).m, .int .i64 (x.failAt 4 x.u).e] := by rw [hV]; exact (((hR2.set 0 _).set 1 _).set 2 _)
          have hVB : Below w.heap.size w V := by rw [hV]; exact (((hB2.setCell (p := ⟨w.heap.size + 1, 0, none⟩) (by simp) _).setCell (p := ⟨w.heap.size + 1, 1, none⟩) (by simp) _).setCell (p := ⟨w.heap.size + 1, 2, none⟩) (by simp) _)
          clear hV r0 r1 r2 rf0 rf1 rf2
          have c0 := hVR.cell 0 _ rfl
          have c1 := hVR.cell 1 _ rfl
          have c2 := hVR.cell 2 _ rfl
          refine bodyPost_ret (by simp [results, Try.results34, go_sem, c0, c1, c2]; try rfl) rfl ?_
          exact ⟨by rw [hu.out, hxl.out]; rfl, hVB⟩
        · have ht1 := Lib.hid (show total (l.take (k + 1)) ≤ 40000 by omega)
          have hf2 : f.size ≤ 20000 := by omega
          have hl2 : l[k].size ≤ 20000 := by omega
          clear htk hge hle
          have HFS := Lib.hid hfs
          clear hfs
          go_wp2
          go_round
          case rel => exact ⟨k + 1, by omega, by go_num, by rw [hnext.out], ht1.out⟩
          case measure => simp [intOf]; omega
    · obtain rfl : k = l.length := by omega
      rw [List.take_length] at ht hfs ⊢
      go_wp2_with fail
      refine (hP l _ (by omega)).mono ?_
      rintro e w5 ⟨rfl, hb⟩
      have hR2 := hR.later hb
      have hB2 := bstep hB hb
      clear hb r0 r1 r2 rf0 rf1 rf2
      have r0 := hR2.cell 0 _ rfl
      have r1 := hR2.cell 1 _ rfl
      have r2 := hR2.cell 2 _ rfl
      have rf0 := hR2.fr 0 _ rfl
      have rf1 := hR2.fr 1 _ rfl
      have rf2 := hR2.fr 2 _ rfl
      go_wp2
      refine named_post fun V hV => ?_
      have hVR : Blk V (w.heap.size + 1) [.string (x.add l).s, .int .i64 (x.add l).m, .int .i64 (x.add l).e] := by rw [hV]; exact (((hR2.set 0 _).set 1 _).set 2 _)
      have hVB : Below w.heap.size w V := by rw [hV]; exact (((hB2.setCell (p := ⟨w.heap.size + 1, 0, none⟩) (by simp) _).setCell (p := ⟨w.heap.size + 1, 1, none⟩) (by simp) _).setCell (p := ⟨w.heap.size + 1, 2, none⟩) (by simp) _)
      clear hV r0 r1 r2 rf0 rf1 rf2
      have c0 := hVR.cell 0 _ rfl
      have c1 := hVR.cell 1 _ rfl
      have c2 := hVR.cell 2 _ rfl
      refine bodyPost_ret (by simp [results, Try.results34, go_sem, c0, c1, c2]; try rfl) rfl ?_
      exact ⟨by rw [hu.out]; rfl, hVB⟩
end Go.Proofs.Ytgcgoiaadigmfaa
