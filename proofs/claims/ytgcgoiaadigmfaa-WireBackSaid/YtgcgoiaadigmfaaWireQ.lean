/- Walks: PutInt64. -/
import Derived.Test.YtgcgoiaadigmfaaWireP
namespace Go.Proofs.Ytgcgoiaadigmfaa
open Go.RowKit
open Wr

set_option maxHeartbeats 2000000 in
theorem putInt64_any (r : Wt) (n : Int) (w : World) :
    Calls Try.prog 31 #[r.val, .int .i64 n] w fun e w' => e = .returned (putInt64W r n).val ∧ Below w.heap.size w w' := by
  have hadd := fun (w : World) (v : Value) (hv : Sln w v (strs [strOf (digI n 8)])) => add_pub r v [strOf (digI n 8)] w hv (by simp) (fun s hs => by rw [List.mem_singleton.1 hs, strOf_size, digI_length]; decide)
  rw [show addW r [strOf (digI n 8)] = putInt64W r n from rfl] at hadd
  obtain ⟨z, hz⟩ : ∃ z, z = putInt64W r n := ⟨_, rfl⟩
  rw [← hz] at hadd ⊢
  clear hz
  obtain ⟨zs, zm, ze⟩ := z
  obtain ⟨s, most, err⟩ := r
  simp only [Wt.val] at hadd ⊢
  go_enter Try.func31, Try.ntmps31
  go_wp2_with fail
  refine named_wp fun W hW => ?_
  have hB : Below w.heap.size w W := by rw [hW]; go_grown
  have hX : Blk W w.heap.size [.string s, .int .i64 most, .int .i64 err] := by
    rw [hW]; exact (Blk.is (us := [.string s, .int .i64 most, .int .i64 err]) _ rfl).alloc _
  have hR : Blk W (w.heap.size + 1) [.string ⟨#[]⟩, .int .i64 0, .int .i64 0] := by rw [hW]; exact Blk.is (us := [.string ⟨#[]⟩, .int .i64 0, .int .i64 0]) _ (by simp)
  clear hW
  have c0 := hX.cell 0 _ rfl
  have c1 := hX.cell 1 _ rfl
  have c2 := hX.cell 2 _ rfl
  go_region_with ((first | (go_at_call 69; refine (digitsI_any n 8 _ (.inr (.inr (.inr rfl)))).mono ?_; rintro e w1 ⟨rfl, hb1⟩; have hX1 := hX.drew.later hb1; have hR1 := hR.drew.later hb1; have hB1 := bstep hB.drew hb1; have d0 := hX1.cell 0 _ rfl; have d1 := hX1.cell 1 _ rfl; have d2 := hX1.cell 2 _ rfl; have hltX := hX1.lt; clear hb1) | (go_at_call 33; refine (hadd _ _ (Sln.blk (Blk.is (us := strs [strOf (digI n 8)]) 9 rfl) (by simp [strs]))).mono ?_; rintro e w2 ⟨rfl, hb2⟩; have hR2 := (hR1.alloc _).later hb2; have hB2 := bstep (hB1.alloc hB1.size _) hb2; have e0 := hR2.cell 0 _ rfl; have e1 := hR2.cell 1 _ rfl; have e2 := hR2.cell 2 _ rfl; have f0 := hR2.fr 0 _ rfl; have f1 := hR2.fr 1 _ rfl; have f2 := hR2.fr 2 _ rfl)))
  all_goals
    go_wp2
    refine named_post fun V hV => ?_
    have hVR : Blk V (w.heap.size + 1) [.string zs, .int .i64 zm, .int .i64 ze] := by rw [hV]; exact ((hR2.set 0 _).set 1 _).set 2 _
    have hVB : Below w.heap.size w V := by rw [hV]; exact ((hB2.setCell (p := ⟨w.heap.size + 1, 0, none⟩) (by simp) _).setCell (p := ⟨w.heap.size + 1, 1, none⟩) (by simp) _).setCell (p := ⟨w.heap.size + 1, 2, none⟩) (by simp) _
    clear hV c0 c1 c2 f0 f1 f2 d0 d1 d2 e0 e1 e2
    have c0 := hVR.cell 0 _ rfl
    have c1 := hVR.cell 1 _ rfl
    have c2 := hVR.cell 2 _ rfl
    refine bodyPost_ret (by simp [results, Try.results31, go_sem, c0, c1, c2]; try rfl) rfl ?_
    exact ⟨by rfl, hVB⟩
end Go.Proofs.Ytgcgoiaadigmfaa
