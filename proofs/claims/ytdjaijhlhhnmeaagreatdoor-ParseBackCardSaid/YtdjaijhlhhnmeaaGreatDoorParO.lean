/- Walks: Parse, Pattern, Atom, Again, Is. Made by program (wip/tools/gen_parO.py). -/
import Derived.Test.YtdjaijhlhhnmeaaGreatDoorParN
import Derived.Test.YtdjaijhlhhnmeaaGreatDoorAstWr
namespace Go.Proofs.YtdjaijhlhhnmeaaGreatDoor
open Go.RowKit
open A8 Tk7 P9

theorem le_keep {w1 V : World} {R F m m' : Nat} (hs : w1.heap.size ≤ V.heap.size) (hk : ∀ k, k ≠ R → k ≠ F → V.heap[k]? = w1.heap[k]?) (hR : R < m) (hF : F < m) (hm : m' ≤ m) : Le (hide (fun k => decide (k < m)) w1) (hide (fun k => decide (k < m')) V) :=
  hide_le hs fun k _ hx => by
    simp only [decide_eq_false_iff_not] at hx ⊢
    exact ⟨by omega, hk k (by omega) (by omega)⟩
set_option maxRecDepth 100000 in
set_option maxHeartbeats 2000000 in
theorem parseQ (t : List UInt8) (w : World) (hG : SG w) (hE : ER w) :
    Calls Tryz.prog 11 #[.string (strOf t)] w (RdP w (parseP t) quZ IsQ) := by
  obtain ⟨W1, hW1⟩ : ∃ W1, W1 = (w.alloc (.cells quZ.toArray 33)).alloc (.cells [.int .i64 0, .int .i64 0].toArray 36) := ⟨_, rfl⟩
  have hb1 : Below w.heap.size w W1 := by rw [hW1]; exact b2 _ _ _
  have hs1 : W1.heap.size = w.heap.size + 2 := by rw [hW1]; simp
  have hR1 : Blk W1 w.heap.size quZ := by rw [hW1]; exact (Blk.is _ rfl).alloc _
  have hF1 : Blk W1 (w.heap.size + 1) [.int .i64 0, .int .i64 0] := by rw [hW1]; exact Blk.is _ (by simp)
  have hQ := readQ t W1 (hG.later hb1) (hE.later hb1)
  cases hx : parseP t with
  | error y =>
    rw [hx] at hQ
    clear hx
    go_enter Tryz.func11, Tryz.ntmps11
    go_upto_region 1 with fail
    refine named_wp fun WW hWW => ?_
    obtain rfl : WW = W1 := hWW.trans hW1.symm
    clear hW1 hWW
    go_wp2_with (go_at_call 34; refine hQ.mono ?_; rintro e' w5 ⟨hb5, he5, ho5⟩; have hR5 := hR1.later hb5; have hF5 := hF1.later hb5; have r0 := hR5.cell 0 _ rfl; have r1 := hR5.cell 1 _ rfl; have r2 := hR5.cell 2 _ rfl; have r3 := hR5.cell 3 _ rfl; have r4 := hR5.cell 4 _ rfl; have r5 := hR5.cell 5 _ rfl; have r6 := hR5.cell 6 _ rfl; have r7 := hR5.cell 7 _ rfl; have r8 := hR5.cell 8 _ rfl; have r9 := hR5.cell 9 _ rfl; have r10 := hR5.cell 10 _ rfl; have r11 := hR5.cell 11 _ rfl; have s0 := hR5.fr 0 _ rfl; have s1 := hR5.fr 1 _ rfl; have s2 := hR5.fr 2 _ rfl; have s3 := hR5.fr 3 _ rfl; have s4 := hR5.fr 4 _ rfl; have s5 := hR5.fr 5 _ rfl; have s6 := hR5.fr 6 _ rfl; have s7 := hR5.fr 7 _ rfl; have s8 := hR5.fr 8 _ rfl; have s9 := hR5.fr 9 _ rfl; have s10 := hR5.fr 10 _ rfl; have s11 := hR5.fr 11 _ rfl; have c0 := hF5.cell 0 _ rfl; have c1 := hF5.cell 1 _ rfl; have f0 := hF5.fr 0 _ rfl; have f1 := hF5.fr 1 _ rfl; obtain rfl := he5 y rfl)
    refine named_post fun V hV => ?_
    obtain ⟨hVR, hVF, hVb, hVk⟩ := two_fill (us := quZ) (vs := [.int .i64 y.1, .int .i64 (y.2 : Int)]) (bstep hb1 hb5) (Nat.le_refl _) (Nat.le_succ _) hR5 hF5 (by omega) rfl rfl (.inr (.inr hV))
    clear hV r0 r1 r2 r3 r4 r5 r6 r7 r8 r9 r10 r11 s0 s1 s2 s3 s4 s5 s6 s7 s8 s9 s10 s11 c0 c1 f0 f1
    have c0 := hVR.cell 0 _ rfl
    have c1 := hVR.cell 1 _ rfl
    have c2 := hVR.cell 2 _ rfl
    have c3 := hVR.cell 3 _ rfl
    have c4 := hVR.cell 4 _ rfl
    have c5 := hVR.cell 5 _ rfl
    have c6 := hVR.cell 6 _ rfl
    have c7 := hVR.cell 7 _ rfl
    have c8 := hVR.cell 8 _ rfl
    have c9 := hVR.cell 9 _ rfl
    have c10 := hVR.cell 10 _ rfl
    have c11 := hVR.cell 11 _ rfl
    have d0 := hVF.cell 0 _ rfl
    have d1 := hVF.cell 1 _ rfl
    exact bodyPost_ret (v := .tuple #[.agg quZ.toArray, .agg [.int .i64 y.1, .int .i64 (y.2 : Int)].toArray]) (by simp [results, Tryz.results11, go_sem, c0, c1, c2, c3, c4, c5, c6, c7, c8, c9, c10, c11, d0, d1]; try rfl) rfl ⟨hVb, (fun y hy => by cases hy; rfl), fun a ha => by cases ha⟩
  | ok q =>
    rw [hx] at hQ
    clear hx
    go_enter Tryz.func11, Tryz.ntmps11
    go_upto_region 1 with fail
    refine named_wp fun WW hWW => ?_
    obtain rfl : WW = W1 := hWW.trans hW1.symm
    clear hW1 hWW
    go_wp2_with (go_at_call 34; refine hQ.mono ?_; rintro e' w5 ⟨hb5, he5, ho5⟩; have hR5 := hR1.later hb5; have hF5 := hF1.later hb5; have r0 := hR5.cell 0 _ rfl; have r1 := hR5.cell 1 _ rfl; have r2 := hR5.cell 2 _ rfl; have r3 := hR5.cell 3 _ rfl; have r4 := hR5.cell 4 _ rfl; have r5 := hR5.cell 5 _ rfl; have r6 := hR5.cell 6 _ rfl; have r7 := hR5.cell 7 _ rfl; have r8 := hR5.cell 8 _ rfl; have r9 := hR5.cell 9 _ rfl; have r10 := hR5.cell 10 _ rfl; have r11 := hR5.cell 11 _ rfl; have s0 := hR5.fr 0 _ rfl; have s1 := hR5.fr 1 _ rfl; have s2 := hR5.fr 2 _ rfl; have s3 := hR5.fr 3 _ rfl; have s4 := hR5.fr 4 _ rfl; have s5 := hR5.fr 5 _ rfl; have s6 := hR5.fr 6 _ rfl; have s7 := hR5.fr 7 _ rfl; have s8 := hR5.fr 8 _ rfl; have s9 := hR5.fr 9 _ rfl; have s10 := hR5.fr 10 _ rfl; have s11 := hR5.fr 11 _ rfl; have c0 := hF5.cell 0 _ rfl; have c1 := hF5.cell 1 _ rfl; have f0 := hF5.fr 0 _ rfl; have f1 := hF5.fr 1 _ rfl; obtain ⟨v5, rfl, hv5⟩ := ho5 q rfl; obtain ⟨⟨⟨tk, tmn, tmx, ⟨⟨akd, abd, abn, acs, anm⟩, asc⟩, tsk, tks⟩, qwi, qsh, qhv, qse, qem⟩, hqq, hqw, hv6⟩ := hv5; obtain ⟨⟨qA, qn, qc, rfl⟩, ⟨rA, rn, rc, rfl⟩⟩ := tr_form (show ndK.E _ _ from hqw.tr); obtain ⟨sA, sn, sc, rfl⟩ := sl_form hqw.hv; obtain ⟨uA, un, uc, rfl⟩ := sl_form hqw.em; have hv7 : v5 = .agg (quV (ndV tk tmn tmx akd abd abn (.slice qA qn qc) anm (.slice rA rn rc)) qwi (.slice sA sn sc) (.slice uA un uc)).toArray := hv6; subst hv7; clear hv6)
    refine named_post fun V hV => ?_
    obtain ⟨hVR, hVF, hVb, hVk⟩ := two_fill (us := (quV (ndV tk tmn tmx akd abd abn (.slice qA qn qc) anm (.slice rA rn rc)) qwi (.slice sA sn sc) (.slice uA un uc))) (vs := [.int .i64 0, .int .i64 0]) (bstep hb1 hb5) (Nat.le_refl _) (Nat.le_succ _) hR5 hF5 (by omega) rfl rfl (.inr (.inr hV))
    clear hV r0 r1 r2 r3 r4 r5 r6 r7 r8 r9 r10 r11 s0 s1 s2 s3 s4 s5 s6 s7 s8 s9 s10 s11 c0 c1 f0 f1
    have c0 := hVR.cell 0 _ rfl
    have c1 := hVR.cell 1 _ rfl
    have c2 := hVR.cell 2 _ rfl
    have c3 := hVR.cell 3 _ rfl
    have c4 := hVR.cell 4 _ rfl
    have c5 := hVR.cell 5 _ rfl
    have c6 := hVR.cell 6 _ rfl
    have c7 := hVR.cell 7 _ rfl
    have c8 := hVR.cell 8 _ rfl
    have c9 := hVR.cell 9 _ rfl
    have c10 := hVR.cell 10 _ rfl
    have c11 := hVR.cell 11 _ rfl
    have d0 := hVF.cell 0 _ rfl
    have d1 := hVF.cell 1 _ rfl
    have HLE := le_keep (m := WW.heap.size) (m' := w.heap.size) (two_size hVk hVR.lt hVF.lt) hVk (by omega) (by omega) (by omega)
    exact bodyPost_ret (v := .tuple #[.agg (quV (ndV tk tmn tmx akd abd abn (.slice qA qn qc) anm (.slice rA rn rc)) qwi (.slice sA sn sc) (.slice uA un uc)).toArray, .agg [.int .i64 0, .int .i64 0].toArray]) (by simp [results, Tryz.results11, go_sem, c0, c1, c2, c3, c4, c5, c6, c7, c8, c9, c10, c11, d0, d1]; try rfl) rfl ⟨hVb, (fun y hy => by cases hy), fun a ha => by cases ha; exact ⟨_, rfl, ⟨_, hqq, qw_le hqw HLE, rfl⟩⟩⟩
set_option maxRecDepth 100000 in
set_option maxHeartbeats 2000000 in
theorem parseN (t : List UInt8) (w : World) (hG : SG w) (hE : ER w) :
    Calls Tryz.prog 18 #[.string (strOf t)] w (RdP w (patternP t) ndZ IsNd) := by
  obtain ⟨W1, hW1⟩ : ∃ W1, W1 = (w.alloc (.cells ndZ.toArray 29)).alloc (.cells [.int .i64 0, .int .i64 0].toArray 36) := ⟨_, rfl⟩
  have hb1 : Below w.heap.size w W1 := by rw [hW1]; exact b2 _ _ _
  have hs1 : W1.heap.size = w.heap.size + 2 := by rw [hW1]; simp
  have hR1 : Blk W1 w.heap.size ndZ := by rw [hW1]; exact (Blk.is _ rfl).alloc _
  have hF1 : Blk W1 (w.heap.size + 1) [.int .i64 0, .int .i64 0] := by rw [hW1]; exact Blk.is _ (by simp)
  have hQ := readN t W1 (hG.later hb1) (hE.later hb1)
  cases hx : patternP t with
  | error y =>
    rw [hx] at hQ
    clear hx
    go_enter Tryz.func18, Tryz.ntmps18
    go_upto_region 1 with fail
    refine named_wp fun WW hWW => ?_
    obtain rfl : WW = W1 := hWW.trans hW1.symm
    clear hW1 hWW
    go_wp2_with (go_at_call 41; refine hQ.mono ?_; rintro e' w5 ⟨hb5, he5, ho5⟩; have hR5 := hR1.later hb5; have hF5 := hF1.later hb5; have r0 := hR5.cell 0 _ rfl; have r1 := hR5.cell 1 _ rfl; have r2 := hR5.cell 2 _ rfl; have r3 := hR5.cell 3 _ rfl; have r4 := hR5.cell 4 _ rfl; have r5 := hR5.cell 5 _ rfl; have r6 := hR5.cell 6 _ rfl; have r7 := hR5.cell 7 _ rfl; have r8 := hR5.cell 8 _ rfl; have s0 := hR5.fr 0 _ rfl; have s1 := hR5.fr 1 _ rfl; have s2 := hR5.fr 2 _ rfl; have s3 := hR5.fr 3 _ rfl; have s4 := hR5.fr 4 _ rfl; have s5 := hR5.fr 5 _ rfl; have s6 := hR5.fr 6 _ rfl; have s7 := hR5.fr 7 _ rfl; have s8 := hR5.fr 8 _ rfl; have c0 := hF5.cell 0 _ rfl; have c1 := hF5.cell 1 _ rfl; have f0 := hF5.fr 0 _ rfl; have f1 := hF5.fr 1 _ rfl; obtain rfl := he5 y rfl)
    refine named_post fun V hV => ?_
    obtain ⟨hVR, hVF, hVb, hVk⟩ := two_fill (us := ndZ) (vs := [.int .i64 y.1, .int .i64 (y.2 : Int)]) (bstep hb1 hb5) (Nat.le_refl _) (Nat.le_succ _) hR5 hF5 (by omega) rfl rfl (.inr (.inr hV))
    clear hV r0 r1 r2 r3 r4 r5 r6 r7 r8 s0 s1 s2 s3 s4 s5 s6 s7 s8 c0 c1 f0 f1
    have c0 := hVR.cell 0 _ rfl
    have c1 := hVR.cell 1 _ rfl
    have c2 := hVR.cell 2 _ rfl
    have c3 := hVR.cell 3 _ rfl
    have c4 := hVR.cell 4 _ rfl
    have c5 := hVR.cell 5 _ rfl
    have c6 := hVR.cell 6 _ rfl
    have c7 := hVR.cell 7 _ rfl
    have c8 := hVR.cell 8 _ rfl
    have d0 := hVF.cell 0 _ rfl
    have d1 := hVF.cell 1 _ rfl
    exact bodyPost_ret (v := .tuple #[.agg ndZ.toArray, .agg [.int .i64 y.1, .int .i64 (y.2 : Int)].toArray]) (by simp [results, Tryz.results18, go_sem, c0, c1, c2, c3, c4, c5, c6, c7, c8, d0, d1]; try rfl) rfl ⟨hVb, (fun y hy => by cases hy; rfl), fun a ha => by cases ha⟩
  | ok q =>
    rw [hx] at hQ
    clear hx
    go_enter Tryz.func18, Tryz.ntmps18
    go_upto_region 1 with fail
    refine named_wp fun WW hWW => ?_
    obtain rfl : WW = W1 := hWW.trans hW1.symm
    clear hW1 hWW
    go_wp2_with (go_at_call 41; refine hQ.mono ?_; rintro e' w5 ⟨hb5, he5, ho5⟩; have hR5 := hR1.later hb5; have hF5 := hF1.later hb5; have r0 := hR5.cell 0 _ rfl; have r1 := hR5.cell 1 _ rfl; have r2 := hR5.cell 2 _ rfl; have r3 := hR5.cell 3 _ rfl; have r4 := hR5.cell 4 _ rfl; have r5 := hR5.cell 5 _ rfl; have r6 := hR5.cell 6 _ rfl; have r7 := hR5.cell 7 _ rfl; have r8 := hR5.cell 8 _ rfl; have s0 := hR5.fr 0 _ rfl; have s1 := hR5.fr 1 _ rfl; have s2 := hR5.fr 2 _ rfl; have s3 := hR5.fr 3 _ rfl; have s4 := hR5.fr 4 _ rfl; have s5 := hR5.fr 5 _ rfl; have s6 := hR5.fr 6 _ rfl; have s7 := hR5.fr 7 _ rfl; have s8 := hR5.fr 8 _ rfl; have c0 := hF5.cell 0 _ rfl; have c1 := hF5.cell 1 _ rfl; have f0 := hF5.fr 0 _ rfl; have f1 := hF5.fr 1 _ rfl; obtain ⟨v5, rfl, hv5⟩ := ho5 q rfl; obtain ⟨⟨tk, tmn, tmx, ⟨⟨akd, abd, abn, acs, anm⟩, asc⟩, tsk, tks⟩, hqq, hqw, hv6⟩ := hv5; obtain ⟨⟨qA, qn, qc, rfl⟩, ⟨rA, rn, rc, rfl⟩⟩ := tr_form hqw; have hv7 : v5 = .agg (ndV tk tmn tmx akd abd abn (.slice qA qn qc) anm (.slice rA rn rc)).toArray := hv6; subst hv7; clear hv6)
    refine named_post fun V hV => ?_
    obtain ⟨hVR, hVF, hVb, hVk⟩ := two_fill (us := (ndV tk tmn tmx akd abd abn (.slice qA qn qc) anm (.slice rA rn rc))) (vs := [.int .i64 0, .int .i64 0]) (bstep hb1 hb5) (Nat.le_refl _) (Nat.le_succ _) hR5 hF5 (by omega) rfl rfl (.inr (.inr hV))
    clear hV r0 r1 r2 r3 r4 r5 r6 r7 r8 s0 s1 s2 s3 s4 s5 s6 s7 s8 c0 c1 f0 f1
    have c0 := hVR.cell 0 _ rfl
    have c1 := hVR.cell 1 _ rfl
    have c2 := hVR.cell 2 _ rfl
    have c3 := hVR.cell 3 _ rfl
    have c4 := hVR.cell 4 _ rfl
    have c5 := hVR.cell 5 _ rfl
    have c6 := hVR.cell 6 _ rfl
    have c7 := hVR.cell 7 _ rfl
    have c8 := hVR.cell 8 _ rfl
    have d0 := hVF.cell 0 _ rfl
    have d1 := hVF.cell 1 _ rfl
    have HLE := le_keep (m := WW.heap.size) (m' := w.heap.size) (two_size hVk hVR.lt hVF.lt) hVk (by omega) (by omega) (by omega)
    exact bodyPost_ret (v := .tuple #[.agg (ndV tk tmn tmx akd abd abn (.slice qA qn qc) anm (.slice rA rn rc)).toArray, .agg [.int .i64 0, .int .i64 0].toArray]) (by simp [results, Tryz.results18, go_sem, c0, c1, c2, c3, c4, c5, c6, c7, c8, d0, d1]; try rfl) rfl ⟨hVb, (fun y hy => by cases hy), fun a ha => by cases ha; exact ⟨_, rfl, ⟨_, hqq, trW_le hqw HLE, rfl⟩⟩⟩
set_option maxRecDepth 100000 in
set_option maxHeartbeats 2000000 in
theorem parseA (t : List UInt8) (w : World) (hG : SG w) (hE : ER w) :
    Calls Tryz.prog 20 #[.string (strOf t)] w (RdP w (aloneP t) atZ IsA) := by
  obtain ⟨W1, hW1⟩ : ∃ W1, W1 = (w.alloc (.cells atZ.toArray 26)).alloc (.cells [.int .i64 0, .int .i64 0].toArray 36) := ⟨_, rfl⟩
  have hb1 : Below w.heap.size w W1 := by rw [hW1]; exact b2 _ _ _
  have hs1 : W1.heap.size = w.heap.size + 2 := by rw [hW1]; simp
  have hR1 : Blk W1 w.heap.size atZ := by rw [hW1]; exact (Blk.is _ rfl).alloc _
  have hF1 : Blk W1 (w.heap.size + 1) [.int .i64 0, .int .i64 0] := by rw [hW1]; exact Blk.is _ (by simp)
  have hQ := readA t W1 (hG.later hb1) (hE.later hb1)
  cases hx : aloneP t with
  | error y =>
    rw [hx] at hQ
    clear hx
    go_enter Tryz.func20, Tryz.ntmps20
    go_upto_region 1 with fail
    refine named_wp fun WW hWW => ?_
    obtain rfl : WW = W1 := hWW.trans hW1.symm
    clear hW1 hWW
    go_wp2_with (go_at_call 44; refine hQ.mono ?_; rintro e' w5 ⟨hb5, he5, ho5⟩; have hR5 := hR1.later hb5; have hF5 := hF1.later hb5; have r0 := hR5.cell 0 _ rfl; have r1 := hR5.cell 1 _ rfl; have r2 := hR5.cell 2 _ rfl; have r3 := hR5.cell 3 _ rfl; have r4 := hR5.cell 4 _ rfl; have s0 := hR5.fr 0 _ rfl; have s1 := hR5.fr 1 _ rfl; have s2 := hR5.fr 2 _ rfl; have s3 := hR5.fr 3 _ rfl; have s4 := hR5.fr 4 _ rfl; have c0 := hF5.cell 0 _ rfl; have c1 := hF5.cell 1 _ rfl; have f0 := hF5.fr 0 _ rfl; have f1 := hF5.fr 1 _ rfl; obtain rfl := he5 y rfl)
    refine named_post fun V hV => ?_
    obtain ⟨hVR, hVF, hVb, hVk⟩ := two_fill (us := atZ) (vs := [.int .i64 y.1, .int .i64 (y.2 : Int)]) (bstep hb1 hb5) (Nat.le_refl _) (Nat.le_succ _) hR5 hF5 (by omega) rfl rfl (.inr (.inr hV))
    clear hV r0 r1 r2 r3 r4 s0 s1 s2 s3 s4 c0 c1 f0 f1
    have c0 := hVR.cell 0 _ rfl
    have c1 := hVR.cell 1 _ rfl
    have c2 := hVR.cell 2 _ rfl
    have c3 := hVR.cell 3 _ rfl
    have c4 := hVR.cell 4 _ rfl
    have d0 := hVF.cell 0 _ rfl
    have d1 := hVF.cell 1 _ rfl
    exact bodyPost_ret (v := .tuple #[.agg atZ.toArray, .agg [.int .i64 y.1, .int .i64 (y.2 : Int)].toArray]) (by simp [results, Tryz.results20, go_sem, c0, c1, c2, c3, c4, d0, d1]; try rfl) rfl ⟨hVb, (fun y hy => by cases hy; rfl), fun a ha => by cases ha⟩
  | ok q =>
    rw [hx] at hQ
    clear hx
    go_enter Tryz.func20, Tryz.ntmps20
    go_upto_region 1 with fail
    refine named_wp fun WW hWW => ?_
    obtain rfl : WW = W1 := hWW.trans hW1.symm
    clear hW1 hWW
    go_wp2_with (go_at_call 44; refine hQ.mono ?_; rintro e' w5 ⟨hb5, he5, ho5⟩; have hR5 := hR1.later hb5; have hF5 := hF1.later hb5; have r0 := hR5.cell 0 _ rfl; have r1 := hR5.cell 1 _ rfl; have r2 := hR5.cell 2 _ rfl; have r3 := hR5.cell 3 _ rfl; have r4 := hR5.cell 4 _ rfl; have s0 := hR5.fr 0 _ rfl; have s1 := hR5.fr 1 _ rfl; have s2 := hR5.fr 2 _ rfl; have s3 := hR5.fr 3 _ rfl; have s4 := hR5.fr 4 _ rfl; have c0 := hF5.cell 0 _ rfl; have c1 := hF5.cell 1 _ rfl; have f0 := hF5.fr 0 _ rfl; have f1 := hF5.fr 1 _ rfl; obtain ⟨v5, rfl, hv5⟩ := ho5 q rfl; obtain ⟨akd, abd, abn, acs, anm⟩ := q; obtain ⟨asc, hqw, hv6⟩ := hv5; obtain ⟨qA, qn, qc, rfl⟩ := sl_form hqw.2; have hv7 : v5 = .agg #[.int .i64 akd, .bool abd, .int .u64 abn, .slice qA qn qc, .string (strOf anm)] := hv6; subst hv7; clear hv6)
    refine named_post fun V hV => ?_
    obtain ⟨hVR, hVF, hVb, hVk⟩ := two_fill (us := [.int .i64 akd, .bool abd, .int .u64 abn, .slice qA qn qc, .string (strOf anm)]) (vs := [.int .i64 0, .int .i64 0]) (bstep hb1 hb5) (Nat.le_refl _) (Nat.le_succ _) hR5 hF5 (by omega) rfl rfl (.inr (.inr hV))
    clear hV r0 r1 r2 r3 r4 s0 s1 s2 s3 s4 c0 c1 f0 f1
    have c0 := hVR.cell 0 _ rfl
    have c1 := hVR.cell 1 _ rfl
    have c2 := hVR.cell 2 _ rfl
    have c3 := hVR.cell 3 _ rfl
    have c4 := hVR.cell 4 _ rfl
    have d0 := hVF.cell 0 _ rfl
    have d1 := hVF.cell 1 _ rfl
    have HLE := le_keep (m := WW.heap.size) (m' := w.heap.size) (two_size hVk hVR.lt hVF.lt) hVk (by omega) (by omega) (by omega)
    exact bodyPost_ret (v := .tuple #[.agg [.int .i64 akd, .bool abd, .int .u64 abn, .slice qA qn qc, .string (strOf anm)].toArray, .agg [.int .i64 0, .int .i64 0].toArray]) (by simp [results, Tryz.results20, go_sem, c0, c1, c2, c3, c4, d0, d1]; try rfl) rfl ⟨hVb, (fun y hy => by cases hy), fun a ha => by cases ha; exact ⟨_, rfl, ⟨_, oneA_le hqw HLE, rfl⟩⟩⟩
end Go.Proofs.YtdjaijhlhhnmeaaGreatDoor
