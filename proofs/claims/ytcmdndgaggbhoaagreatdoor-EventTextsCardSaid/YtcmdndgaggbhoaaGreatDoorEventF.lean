/- Walk: Bytes. -/
import Derived.Test.YtcmdndgaggbhoaaGreatDoorEventE
import Derived.Test.YtcmdndgaggbhoaaGreatDoorEventM
import Derived.Deep.DeepCutAuto
namespace Go.Proofs.YtcmdndgaggbhoaaGreatDoor.Ev
open Go.RowKit
open Wr

/-- The writer behind the three fields. -/
def wrote (l k m : Int) : Wt := putW (putW (putW (makeW 17) 8 l) 1 k) 8 m
def ByCut (w : World) (l k v : Int) (s : ByteArray) (mo er : Int) (s5 : Value) (wx : World) : Prop :=
  ∃ N : Nat, s5 = .pointer (some ⟨N, 0, none⟩) ∧ Blk wx N [.string s, .int .i64 mo, .int .i64 er] ∧ Blk wx w.heap.size [.int .u64 l, .int .i64 k, .int .i64 v] ∧ w.heap.size < N ∧ Below w.heap.size w wx

set_option maxHeartbeats 2000000 in
theorem bytesYes (l k v m : Int) (h0 : 0 ≤ l) (h1 : l ≤ 18446744073709551615) (hk : isKindB k = true) (hm0 : 0 ≤ m) (hm1 : m ≤ 18446744073709551615) (hv : IntKind.u64.wrap v = m) (w : World) :
    Calls Tryz.prog 25 #[ev l k v] w fun e w' => e = .returned (.tuple #[.string (doneW (wrote l k m)).1, .int .i64 (doneW (wrote l k m)).2]) ∧ Below w.heap.size w w' := by
  obtain ⟨k0, k1⟩ := isKindB_iff.1 hk
  have hC := check_is l v (show checkI k = 0 by simp [checkI, hk])
  have hM := make_any 17
  obtain ⟨z0, hz0⟩ : ∃ z, z = makeW 17 := ⟨_, rfl⟩
  have hP1 := putL_any z0 l h0 h1
  obtain ⟨z1, hz1⟩ : ∃ z, z = putW z0 8 l := ⟨_, rfl⟩
  have hP2 := putK_any z1 k k0 (by omega)
  obtain ⟨z2, hz2⟩ : ∃ z, z = putW z1 1 k := ⟨_, rfl⟩
  have hP3 := putV_any z2 v m hm0 hm1 hv
  obtain ⟨z3, hz3⟩ : ∃ z, z = putW z2 8 m := ⟨_, rfl⟩
  have hD := done_any z3
  obtain ⟨d, hd⟩ : ∃ d, d = doneW z3 := ⟨_, rfl⟩
  rw [show wrote l k m = z3 by unfold wrote; rw [← hz0, ← hz1, ← hz2, ← hz3], ← hd]
  rw [← hz0] at hM
  rw [← hz1] at hP1
  rw [← hz2] at hP2
  rw [← hz3] at hP3
  rw [← hd] at hD
  clear hz0 hz1 hz2 hz3 hd h0 h1 hk k0 k1 hm0 hm1 hv
  obtain ⟨a0, b0, c0⟩ := z0
  obtain ⟨a1, b1, c1⟩ := z1
  obtain ⟨a2, b2, c2⟩ := z2
  obtain ⟨a3, b3, c3⟩ := z3
  obtain ⟨d1, d2⟩ := d
  simp only [Wt.val, ev] at hM hP1 hP2 hP3 hD hC ⊢
  go_enter Tryz.func25, Tryz.ntmps25
  go_wp2_with fail
  refine named fun W hW => ?_
  have hB : Below w.heap.size w W := by rw [hW]; go_grown
  have hE : Blk W w.heap.size [.int .u64 l, .int .i64 k, .int .i64 v] := by rw [hW]; exact Blk.is _ rfl
  clear hW
  refine (hC _).mono ?_
  rintro e w1 ⟨rfl, hb1⟩
  replace hB := bstep hB hb1
  replace hE := hE.later hb1
  clear hb1 hC
  have e0 := hE.cell 0 _ rfl
  have e1 := hE.cell 1 _ rfl
  have e2 := hE.cell 2 _ rfl
  have hltE := hE.lt
  go_upto_region 4 with (fail)
  go_cut [5] (fun s5 wx => ByCut w l k v a1 b1 c1 s5 wx)
  case first =>
    go_region_with (first | (go_at_call 50; refine (hM _).mono ?_; rintro e w9 ⟨rfl, hb9⟩; first | (have hE9 := hE.drew.later hb9; have hB9 := bstep hB.drew hb9; have hE9c := hE9.cell 0 _ rfl; have hE9lt := hE9.lt) | (have hE9 := (hE.alloc (.cells ([.string ⟨#[]⟩, .int .i64 0, .int .i64 0] : List Value).toArray 85)).drew.later hb9; have hB9 := bstep (hB.alloc hB.size (.cells ([.string ⟨#[]⟩, .int .i64 0, .int .i64 0] : List Value).toArray 85)).drew hb9; have hE9c := hE9.cell 0 _ rfl; have hE9lt := hE9.lt; have hN9 := (Blk.is (us := [.string ⟨#[]⟩, .int .i64 0, .int .i64 0]) (w := w1) 85 rfl).drew.later hb9; have p0 := hN9.cell 0 _ rfl; have p1 := hN9.cell 1 _ rfl; have p2 := hN9.cell 2 _ rfl; have pf0 := hN9.fr 0 _ rfl; have pf1 := hN9.fr 1 _ rfl; have pf2 := hN9.fr 2 _ rfl; have plt := hN9.lt)) | (go_at_call 49; refine (hP1 _).mono ?_; rintro e w8 ⟨rfl, hb8⟩; first | (have hE8 := hE9.later hb8; have hB8 := bstep hB9 hb8; have hN8 := hN9.later hb8; have hltN : w.heap.size < w1.heap.size := hltE; have q0 := hN8.cell 0 _ rfl; have q1 := hN8.cell 1 _ rfl; have q2 := hN8.cell 2 _ rfl; have qf0 := hN8.fr 0 _ rfl; have qf1 := hN8.fr 1 _ rfl; have qf2 := hN8.fr 2 _ rfl; have qlt := hN8.lt) | (have hE8 := hE9.later hb8; have hB8 := bstep hB9 hb8; have hE8lt := hE8.lt) | (have hE8 := (hE9.alloc (.cells ([.string ⟨#[]⟩, .int .i64 0, .int .i64 0] : List Value).toArray 85)).later hb8; have hB8 := bstep (hB9.alloc hB9.size (.cells ([.string ⟨#[]⟩, .int .i64 0, .int .i64 0] : List Value).toArray 85)) hb8; have hN8 := (Blk.is (us := [.string ⟨#[]⟩, .int .i64 0, .int .i64 0]) (w := w9) 85 rfl).later hb8; have hltN : w.heap.size < w9.heap.size := hE9lt; have q0 := hN8.cell 0 _ rfl; have q1 := hN8.cell 1 _ rfl; have q2 := hN8.cell 2 _ rfl; have qf0 := hN8.fr 0 _ rfl; have qf1 := hN8.fr 1 _ rfl; have qf2 := hN8.fr 2 _ rfl; have qlt := hN8.lt)))
    all_goals
      go_wp2_with fail
      go_meet
      case rel => first | exact ⟨_, rfl, Blk.is (us := [.string a1, .int .i64 b1, .int .i64 c1]) _ rfl, hE8.alloc _, hE8lt, hB8.alloc hB8.size _⟩ | exact ⟨_, rfl, ((hN8.set 0 _).set 1 _).set 2 _, ((hE8.other (Nat.ne_of_gt hltN) _).other (Nat.ne_of_gt hltN) _).other (Nat.ne_of_gt hltN) _, hltN, ((hB8.setCell (p := ⟨_, 0, none⟩) (Nat.le_of_lt hltN) _).setCell (p := ⟨_, 1, none⟩) (Nat.le_of_lt hltN) _).setCell (p := ⟨_, 2, none⟩) (Nat.le_of_lt hltN) _⟩
  case rest =>
  clear e0 e1 e2 hltE hE hB hM hP1
  obtain ⟨N, rfl, hN, hE, hltEN, hB⟩ := hcut
  have hne : N ≠ w.heap.size := Nat.ne_of_gt hltEN
  have hle := Nat.le_of_lt hltEN
  have e0 := hE.cell 0 _ rfl
  have e1 := hE.cell 1 _ rfl
  have e2 := hE.cell 2 _ rfl
  have n0 := hN.cell 0 _ rfl
  have n1 := hN.cell 1 _ rfl
  have n2 := hN.cell 2 _ rfl
  have f0 := hN.fr 0 _ rfl
  have f1 := hN.fr 1 _ rfl
  have f2 := hN.fr 2 _ rfl
  have hltN := hN.lt
  go_wp2_with fail
  refine (hP2 _).mono ?_
  rintro e w2 ⟨rfl, hb2⟩
  replace hB := bstep hB hb2
  replace hE := hE.later hb2
  replace hN := hN.later hb2
  clear hb2
  clear e0 e1 e2 n0 n1 n2 f0 f1 f2 hltN
  have e0 := hE.cell 0 _ rfl
  have e1 := hE.cell 1 _ rfl
  have e2 := hE.cell 2 _ rfl
  have n0 := hN.cell 0 _ rfl
  have n1 := hN.cell 1 _ rfl
  have n2 := hN.cell 2 _ rfl
  have f0 := hN.fr 0 _ rfl
  have f1 := hN.fr 1 _ rfl
  have f2 := hN.fr 2 _ rfl
  have hltN := hN.lt
  go_wp2_with fail
  refine named fun W hW => ?_
  replace hN : Blk W N [.string a2, .int .i64 b2, .int .i64 c2] := by rw [hW]; exact ((hN.set 0 _).set 1 _).set 2 _
  replace hE : Blk W w.heap.size [.int .u64 l, .int .i64 k, .int .i64 v] := by rw [hW]; exact ((hE.other hne _).other hne _).other hne _
  replace hB : Below w.heap.size w W := by rw [hW]; exact ((hB.setCell (p := ⟨N, 0, none⟩) hle _).setCell (p := ⟨N, 1, none⟩) hle _).setCell (p := ⟨N, 2, none⟩) hle _
  clear hW
  clear e0 e1 e2 n0 n1 n2 f0 f1 f2 hltN
  have e0 := hE.cell 0 _ rfl
  have e1 := hE.cell 1 _ rfl
  have e2 := hE.cell 2 _ rfl
  have n0 := hN.cell 0 _ rfl
  have n1 := hN.cell 1 _ rfl
  have n2 := hN.cell 2 _ rfl
  refine (hP3 _).mono ?_
  rintro e w3 ⟨rfl, hb3⟩
  replace hB := bstep hB hb3
  clear hb3
  go_wp2_with fail
  refine (hD _).mono ?_
  rintro e w4 ⟨rfl, hb4⟩
  go_wp2
  go_ret2
  exact ⟨rfl, bstep hB hb4⟩
set_option maxHeartbeats 1000000 in
theorem bytesNo (l k v : Int) (hk : isKindB k = false) (w : World) :
    Calls Tryz.prog 25 #[ev l k v] w fun e w' => e = .returned (.tuple #[.string ⟨#[]⟩, .int .i64 11]) ∧ Below w.heap.size w w' := by
  have hC := check_is l v (show checkI k = 11 by simp [checkI, hk])
  clear hk
  simp only [ev] at hC ⊢
  go_enter Tryz.func25, Tryz.ntmps25
  go_wp2_with fail
  refine (hC _).mono ?_
  rintro e w1 ⟨rfl, hb1⟩
  go_wp2
  go_ret2
  exact ⟨rfl, bstep (by go_grown) hb1⟩
theorem wrote_is {l k m : Int} (h0 : 0 ≤ l) (h1 : l ≤ 18446744073709551615) (hk : isKindB k = true) (hm0 : 0 ≤ m) (hm1 : m ≤ 18446744073709551615) :
    doneW (wrote l k m) = (strOf (evB l k m), 0) := by
  obtain ⟨k0, k1⟩ := isKindB_iff.1 hk
  obtain ⟨a, rfl⟩ := Int.eq_ofNat_of_zero_le h0
  obtain ⟨b, rfl⟩ := Int.eq_ofNat_of_zero_le k0
  obtain ⟨c, rfl⟩ := Int.eq_ofNat_of_zero_le hm0
  exact wrote_nat (by omega) (by omega) (by omega)
theorem bytes_any (l k v m : Int) (h0 : 0 ≤ l) (h1 : l ≤ 18446744073709551615) (hm0 : 0 ≤ m) (hm1 : m ≤ 18446744073709551615) (hv : IntKind.u64.wrap v = m) (w : World) :
    Calls Tryz.prog 25 #[ev l k v] w fun e w' => e = .returned (.tuple #[.string (bytesE l k m).1, .int .i64 (bytesE l k m).2]) ∧ Below w.heap.size w w' := by
  unfold bytesE
  by_cases hk : isKindB k = true
  · have h := bytesYes l k v m h0 h1 hk hm0 hm1 hv w
    rw [wrote_is h0 h1 hk hm0 hm1] at h
    rw [if_pos hk]
    exact h
  · rw [if_neg hk]
    exact bytesNo l k v (by simpa using hk) w
end Go.Proofs.YtcmdndgaggbhoaaGreatDoor.Ev
