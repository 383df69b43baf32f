/- Walk: WireWrites. -/
import Derived.Test.YtgcgoiaadigmfaaWireU
import Derived.Test.YtgcgoiaadigmfaaWireV
import Derived.Test.YtgcgoiaadigmfaaKitOwnTexts
import Derived.Test.YtgcgoiaadigmfaaKitSameTexts
import Derived.Test.YtgcgoiaadigmfaaHeld
import Derived.Deep.RegionHeld3
namespace Go.Proofs.Ytgcgoiaadigmfaa
open Go.RowKit
open Wr

theorem Sln.slc {w : World} {v : Value} {us : List Value} (h : Sln w v us) : Slc w v us := by
  obtain ⟨b, o, cap, rfl, _, hm, hb, hc⟩ := h
  refine ⟨some ⟨b, o, none⟩, cap, rfl, hm, (fun h => by cases h), fun i hi => ⟨_, rfl, hb, ?_⟩⟩
  have e : (⟨b, o, none⟩ : Addr).add i = ⟨b, o + i, none⟩ := by unfold Addr.add; split <;> simp_all
  rw [e]
  exact hc i _ (List.getElem?_eq_getElem hi)
theorem sln_drew (w : World) (v : Value) (us : List Value) : Sln w.drew v us = Sln w v us := rfl
theorem slc_drew (w : World) (v : Value) (us : List Value) : Slc w.drew v us = Slc w v us := rfl
/-- What the first drawn region holds fast: the writer's cells, the two lists, what lay. -/
theorem heldW {P : Program} {f : FuncId} {args : Array Value} {r : Value} {W wx : World} {a0 a1 a2 : Addr} {c0 c1 c2 u v : Value} {us : List Value} (hc : ∀ w, Sln w u us → Slc w v us → Calls P f args w fun e w' => e = .returned r ∧ Below w.heap.size w w')
    (h0 : wx.cell? a0 = some c0) (h1 : wx.cell? a1 = some c1) (h2 : wx.cell? a2 = some c2) (hu : Sln wx u us) (hv : Slc wx v us) (h4 : Below W.heap.size W wx) :
    Calls P f args wx fun e w' => e = .returned r ∧ w'.cell? a0 = some c0 ∧ w'.cell? a1 = some c1 ∧ w'.cell? a2 = some c2 ∧ Sln w' u us ∧ Slc w' v us ∧ Below W.heap.size W w' :=
  (hc wx hu hv).mono fun _ w' hh =>
    have hl : ∀ {p : Addr} {v : Value}, wx.cell? p = some v → w'.cell? p = some v := fun {_ _} h => (hh.2.cell (World.block_lt_of_cell? wx _ h)).trans h
    ⟨hh.1, hl h0, hl h1, hl h2, hu.later hh.2, hv.below hh.2, bstep h4 hh.2⟩
attribute [local go_sem] below_drew_eq sln_drew slc_drew
attribute [local simp] below_drew_eq sln_drew slc_drew
/-- A string that the statement takes. -/
def okLen (z : Nat) : Prop := ¬ (300 < z ∧ z ≤ 65000) ∧ z ≤ 65600

set_option maxRecDepth 100000 in
set_option maxHeartbeats 8000000 in
theorem writes_any (r : Wt) (size : Int) (nN : Nat) (v : Value) (l : List ByteArray) (w : World) (hs : r.s.size ≤ 9223372036854775807) (hn : nN < 18446744073709551616) (hv : Slc w v (strs l)) :
    Calls Try.prog 4 #[r.val, .int .i64 size, .int .u64 (nN : Int), v] w fun e w' => e = .returned (.bool true) ∧ Below w.heap.size w w' := by
  have hadd := add_pub r
  have hra := refAdd_any r
  have hps := putSized_any r
  have hrps := refPutSized_any r
  obtain ⟨z, hz⟩ : ∃ z, z = makeW size := ⟨_, rfl⟩
  have hM := fun w => make_any size w
  have gM := fun w => refMake_any size w
  rw [← hz] at hM gM
  clear hz
  obtain ⟨m0, m1, m2⟩ := z
  simp only [Wt.val] at hM gM
  obtain ⟨z, hz⟩ : ∃ z, z = putW r size nN := ⟨_, rfl⟩
  have hP := fun w => put_any r size nN w
  have gP := fun w => refPutR_any r size nN w hn
  rw [← hz] at hP gP
  clear hz
  obtain ⟨p0, p1, p2⟩ := z
  simp only [Wt.val] at hP gP
  obtain ⟨z, hz⟩ : ∃ z, z = doneW r := ⟨_, rfl⟩
  have hD := fun w => done_any r w
  have gD := fun w => refDone_any r w
  rw [← hz] at hD gD
  clear hz
  obtain ⟨dn, de⟩ := z
  simp only [Wt.val] at hD gD
  have hI := putInt64_any r
  have gI := refPutInt64_any r
  obtain ⟨s, most, err⟩ := r
  simp only at hs
  simp only [Wt.val] at hadd hra hps hrps hP gP hD gD hI gI ⊢
  have hv0 := hv
  obtain ⟨A, cap, rfl, hmax, _, hc⟩ := hv
  have hll : (strs l).length = l.length := by simp [strs]
  rw [hll] at hmax hv0 ⊢
  clear hc
  unfold maxLen at hmax
  by_cases hlen : s.size ≤ 300 ∧ l.length ≤ 8
  · obtain ⟨hl1, hl2⟩ := hlen
    have hk1 : decide ((300 : Int) < (s.size : Int)) = false := by simp; omega
    have hk2 : decide ((8 : Int) < (l.length : Int)) = false := by simp; omega
    go_enter Try.func4, Try.ntmps4
    go_wp2_with fail
    refine named_wp fun W1 hW => ?_
    have hKr : Blk W1 w.heap.size [.string s, .int .i64 most, .int .i64 err] := by rw [hW]; exact (Blk.is (us := [.string s, .int .i64 most, .int .i64 err]) _ rfl)
    have hB : Below w.heap.size w W1 := by rw [hW]; exact ((Below.refl _ _)).alloc (Nat.le_refl _) _
    have hler : w.heap.size ≤ w.heap.size := by omega
    clear hW
    have hv1 := hv0.below hB
    have HV1 := Lib.hid hv1
    obtain ⟨A1, cap1, he1, _, _, hc1⟩ := hv1
    rw [hll] at he1
    simp only [Value.slice.injEq] at he1
    obtain ⟨rfl, -, rfl⟩ := he1
    have HC := Lib.hid hc1
    clear hc1
    go_loop [9] (fun i => ∃ k : Nat, k ≤ l.length ∧ i = .int .i64 k ∧ ∀ z ∈ l.take k, okLen z.size) (fun i => l.length - (intOf i).toNat)
    case atStart => exact ⟨0, by omega, rfl, fun z hz => by simp at hz⟩
    case round =>
      obtain ⟨k, hk, rfl, hok⟩ := hrel
      have HOK := Lib.hid hok
      clear hok
      by_cases hlt : k < l.length
      · obtain ⟨a, rfl, _, hcell⟩ := HC.out k (by simpa [strs] using hlt)
        rw [show (strs l)[k]'(by simpa [strs] using hlt) = .string l[k] by simp [strs]] at hcell
        have hcs : l[k].size ≤ 300 ∨ 300 < l[k].size ∧ l[k].size ≤ 65000 ∨ 65000 < l[k].size ∧ l[k].size ≤ 65600 ∨ 65600 < l[k].size := by omega
        rcases hcs with h1 | ⟨h1, h2⟩ | ⟨h1, h2⟩ | h1
        · have d1 : decide ((300 : Int) < (l[k].size : Int)) = false := by simp; omega
          have d2 : decide ((l[k].size : Int) ≤ 65000) = true := by simp; omega
          have d3 : decide ((65600 : Int) < (l[k].size : Int)) = false := by simp; omega
          have hok := Lib.hid (show ∀ z ∈ l.take (k + 1), okLen z.size from fun z hz => by
            rw [take_snoc l k hlt] at hz
            rcases List.mem_append.1 hz with h | h
            · exact HOK.out z h
            · rw [List.mem_singleton.1 h]; unfold okLen; omega)
          go_wp2
          go_round
          case rel => exact ⟨k + 1, by omega, by go_num, hok.out⟩
          case measure => simp [intOf]; omega
        · have d1 : decide ((300 : Int) < (l[k].size : Int)) = true := by simp; omega
          have d2 : decide ((l[k].size : Int) ≤ 65000) = true := by simp; omega
          have d3 : decide ((65600 : Int) < (l[k].size : Int)) = false := by simp; omega
          go_wp2_with fail
          refine (awake_any _).mono ?_
          rintro e w9 ⟨rfl, hb9⟩
          go_wp2
          go_ret
          exact ⟨rfl, bstep hB hb9⟩
        · have d1 : decide ((300 : Int) < (l[k].size : Int)) = true := by simp; omega
          have d2 : decide ((l[k].size : Int) ≤ 65000) = false := by simp; omega
          have d3 : decide ((65600 : Int) < (l[k].size : Int)) = false := by simp; omega
          have hok := Lib.hid (show ∀ z ∈ l.take (k + 1), okLen z.size from fun z hz => by
            rw [take_snoc l k hlt] at hz
            rcases List.mem_append.1 hz with h | h
            · exact HOK.out z h
            · rw [List.mem_singleton.1 h]; unfold okLen; omega)
          go_wp2
          go_round
          case rel => exact ⟨k + 1, by omega, by go_num, hok.out⟩
          case measure => simp [intOf]; omega
        · have d1 : decide ((300 : Int) < (l[k].size : Int)) = true := by simp; omega
          have d2 : decide ((l[k].size : Int) ≤ 65000) = false := by simp; omega
          have d3 : decide ((65600 : Int) < (l[k].size : Int)) = true := by simp; omega
          go_wp2_with fail
          refine (awake_any _).mono ?_
          rintro e w9 ⟨rfl, hb9⟩
          go_wp2
          go_ret
          exact ⟨rfl, bstep hB hb9⟩
      · obtain rfl : k = l.length := by omega
        rw [List.take_length] at HOK
        go_wp2_with fail
        have HZ := Lib.hid (show ∀ z ∈ l, z.size ≤ 65600 from fun z hz => (HOK.out z hz).2)
        have HZ1 := Lib.hid (show ∀ z ∈ l, z.size ≤ 1000000 from fun z hz => by have := HZ.out z hz; omega)
        clear HOK
        refine (ownTexts_any _ l _ HV1.out (by omega)).mono ?_
        rintro e w2 ⟨u, rfl, hU, hb⟩
        replace hU : Sln w2 u (strs l) := hU
        replace hKr := hKr.later hb
        replace hB := bstep hB hb
        have hV2 : Slc w2 (.slice A l.length cap) (strs l) := hv0.below hB
        have HU := Lib.hid hU
        clear hb HC
        have c0 := hKr.cell 0 _ rfl
        have c1 := hKr.cell 1 _ rfl
        have c2 := hKr.cell 2 _ rfl
        go_wp2_with fail
        have hWW : Below w2.heap.size w2 w2 := Below.refl _ _
        go_region_held3 (fun w' => w'.cell? ⟨w.heap.size, 0, none⟩ = some (.string s) ∧ w'.cell? ⟨w.heap.size, 1, none⟩ = some (.int .i64 most) ∧ w'.cell? ⟨w.heap.size, 2, none⟩ = some (.int .i64 err) ∧ Sln w' u (strs l) ∧ Slc w' (.slice A l.length cap) (strs l) ∧ Below w2.heap.size w2 w') (go_keep) (first | (go_at_call 27; refine (heldW (W := w2) (a0 := ⟨w.heap.size, 0, none⟩) (a1 := ⟨w.heap.size, 1, none⟩) (a2 := ⟨w.heap.size, 2, none⟩) (c0 := .string s) (c1 := .int .i64 most) (c2 := .int .i64 err) (u := u) (v := .slice A l.length cap) (us := strs l) (fun w _ _ => hM w) ?_ ?_ ?_ ?_ ?_ ?_).mono ?_; (simp [*]); (simp [*]); (simp [*]); (simp [*]); (simp [*]); (simp [*]); rintro e9 w9 ⟨rfl, q0, q1, q2, q3, q4, q5⟩) | (go_at_call 28; refine (heldW (W := w2) (a0 := ⟨w.heap.size, 0, none⟩) (a1 := ⟨w.heap.size, 1, none⟩) (a2 := ⟨w.heap.size, 2, none⟩) (c0 := .string s) (c1 := .int .i64 most) (c2 := .int .i64 err) (u := u) (v := .slice A l.length cap) (us := strs l) (fun w _ _ => gM w) ?_ ?_ ?_ ?_ ?_ ?_).mono ?_; (simp [*]); (simp [*]); (simp [*]); (simp [*]); (simp [*]); (simp [*]); rintro e9 w9 ⟨rfl, q0, q1, q2, q3, q4, q5⟩) | (go_at_call 29; refine (heldW (W := w2) (a0 := ⟨w.heap.size, 0, none⟩) (a1 := ⟨w.heap.size, 1, none⟩) (a2 := ⟨w.heap.size, 2, none⟩) (c0 := .string s) (c1 := .int .i64 most) (c2 := .int .i64 err) (u := u) (v := .slice A l.length cap) (us := strs l) (fun w _ _ => hP w) ?_ ?_ ?_ ?_ ?_ ?_).mono ?_; (simp [*]); (simp [*]); (simp [*]); (simp [*]); (simp [*]); (simp [*]); rintro e9 w9 ⟨rfl, q0, q1, q2, q3, q4, q5⟩) | (go_at_call 30; refine (heldW (W := w2) (a0 := ⟨w.heap.size, 0, none⟩) (a1 := ⟨w.heap.size, 1, none⟩) (a2 := ⟨w.heap.size, 2, none⟩) (c0 := .string s) (c1 := .int .i64 most) (c2 := .int .i64 err) (u := u) (v := .slice A l.length cap) (us := strs l) (fun w _ _ => gP w) ?_ ?_ ?_ ?_ ?_ ?_).mono ?_; (simp [*]); (simp [*]); (simp [*]); (simp [*]); (simp [*]); (simp [*]); rintro e9 w9 ⟨rfl, q0, q1, q2, q3, q4, q5⟩) | (go_at_call 31; refine (heldW (W := w2) (a0 := ⟨w.heap.size, 0, none⟩) (a1 := ⟨w.heap.size, 1, none⟩) (a2 := ⟨w.heap.size, 2, none⟩) (c0 := .string s) (c1 := .int .i64 most) (c2 := .int .i64 err) (u := u) (v := .slice A l.length cap) (us := strs l) (fun w _ _ => hI _ w) ?_ ?_ ?_ ?_ ?_ ?_).mono ?_; (simp [*]); (simp [*]); (simp [*]); (simp [*]); (simp [*]); (simp [*]); rintro e9 w9 ⟨rfl, q0, q1, q2, q3, q4, q5⟩) | (go_at_call 32; refine (heldW (W := w2) (a0 := ⟨w.heap.size, 0, none⟩) (a1 := ⟨w.heap.size, 1, none⟩) (a2 := ⟨w.heap.size, 2, none⟩) (c0 := .string s) (c1 := .int .i64 most) (c2 := .int .i64 err) (u := u) (v := .slice A l.length cap) (us := strs l) (fun w _ _ => gI _ w) ?_ ?_ ?_ ?_ ?_ ?_).mono ?_; (simp [*]); (simp [*]); (simp [*]); (simp [*]); (simp [*]); (simp [*]); rintro e9 w9 ⟨rfl, q0, q1, q2, q3, q4, q5⟩) | (go_at_call 33; refine (heldW (W := w2) (a0 := ⟨w.heap.size, 0, none⟩) (a1 := ⟨w.heap.size, 1, none⟩) (a2 := ⟨w.heap.size, 2, none⟩) (c0 := .string s) (c1 := .int .i64 most) (c2 := .int .i64 err) (u := u) (v := .slice A l.length cap) (us := strs l) (fun w hs _ => hadd u l w hs (by omega) HZ1.out) ?_ ?_ ?_ ?_ ?_ ?_).mono ?_; (simp [*]); (simp [*]); (simp [*]); (simp [*]); (simp [*]); (simp [*]); rintro e9 w9 ⟨rfl, q0, q1, q2, q3, q4, q5⟩) | (go_at_call 34; refine (heldW (W := w2) (a0 := ⟨w.heap.size, 0, none⟩) (a1 := ⟨w.heap.size, 1, none⟩) (a2 := ⟨w.heap.size, 2, none⟩) (c0 := .string s) (c1 := .int .i64 most) (c2 := .int .i64 err) (u := u) (v := .slice A l.length cap) (us := strs l) (fun w _ hs => hra _ l w hs (by omega) HZ1.out) ?_ ?_ ?_ ?_ ?_ ?_).mono ?_; (simp [*]); (simp [*]); (simp [*]); (simp [*]); (simp [*]); (simp [*]); rintro e9 w9 ⟨rfl, q0, q1, q2, q3, q4, q5⟩))
        replace hKr := hKr.later q5
        replace hB := bstep hB q5
        clear c0 c1 c2 q0 q1 q2 hWW hU hV2
        go_wp2_with fail
        obtain ⟨W9, hW9⟩ : ∃ W9, W9 = w9 := ⟨_, rfl⟩
        rw [← hW9] at hKr hB q3 q4 ⊢
        have hU9 := Lib.hid q3
        have hV9 := Lib.hid q4
        clear hW9 q3 q4 q5 hM gM hP gP hI gI hadd hra HU
        go_loopw [11] (fun i wr => ∃ k : Nat, k ≤ l.length ∧ i = .int .i64 k ∧ Below W9.heap.size W9 wr) (fun i _ => l.length - (intOf i).toNat)
        case atStart => exact ⟨0, by omega, rfl, Below.refl _ _⟩
        case round =>
          obtain ⟨k, hk, rfl, hbr⟩ := hrel
          replace hKr := hKr.later hbr
          replace hB := bstep hB hbr
          by_cases hlt : k < l.length
          · obtain ⟨A3, cap3, he3, _, _, hc3⟩ := hv0.below hB
            rw [hll] at he3
            simp only [Value.slice.injEq] at he3
            obtain ⟨rfl, -, rfl⟩ := he3
            obtain ⟨a, rfl, _, hcell⟩ := hc3 k (by simpa [strs] using hlt)
            rw [show (strs l)[k]'(by simpa [strs] using hlt) = .string l[k] by simp [strs]] at hcell
            clear hc3
            have hz6 := HZ.out l[k] (List.getElem_mem hlt)
            have hQ := fun w => hps l[k] w (by omega)
            have gQ := fun w => hrps l[k] w hz6
            obtain ⟨zz, hzz⟩ : ∃ z, z = putSizedW ⟨s, most, err⟩ l[k] := ⟨_, rfl⟩
            rw [← hzz] at hQ gQ
            clear hzz
            obtain ⟨z0, z1, z2⟩ := zz
            obtain ⟨sk, hsk⟩ : ∃ x, x = l[k] := ⟨_, rfl⟩
            rw [← hsk] at hcell hQ gQ
            clear hsk hz6
            have c0 := hKr.cell 0 _ rfl
            have c1 := hKr.cell 1 _ rfl
            have c2 := hKr.cell 2 _ rfl
            go_wp2_with fail
            go_region_held3 (fun w' => w'.cell? ⟨w.heap.size, 0, none⟩ = some (.string s) ∧ w'.cell? ⟨w.heap.size, 1, none⟩ = some (.int .i64 most) ∧ w'.cell? ⟨w.heap.size, 2, none⟩ = some (.int .i64 err) ∧ w'.cell? (a.add k) = some (.string sk) ∧ Below W9.heap.size W9 w') (go_keep) (first | (go_at_call 35; refine (held4c (W := W9) (a0 := ⟨w.heap.size, 0, none⟩) (a1 := ⟨w.heap.size, 1, none⟩) (a2 := ⟨w.heap.size, 2, none⟩) (a3 := a.add k) (c0 := .string s) (c1 := .int .i64 most) (c2 := .int .i64 err) (c3 := .string sk) hQ ?_ ?_ ?_ ?_ ?_).mono ?_; (simp [*]); (simp [*]); (simp [*]); (simp [*]); (simp [*]); rintro e9 w9 ⟨rfl, q0, q1, q2, q3, q4⟩) | (go_at_call 36; refine (held4c (W := W9) (a0 := ⟨w.heap.size, 0, none⟩) (a1 := ⟨w.heap.size, 1, none⟩) (a2 := ⟨w.heap.size, 2, none⟩) (a3 := a.add k) (c0 := .string s) (c1 := .int .i64 most) (c2 := .int .i64 err) (c3 := .string sk) gQ ?_ ?_ ?_ ?_ ?_).mono ?_; (simp [*]); (simp [*]); (simp [*]); (simp [*]); (simp [*]); rintro e9 w9 ⟨rfl, q0, q1, q2, q3, q4⟩))
            go_wp2_with fail
            go_roundw
            case rel => exact ⟨k + 1, by omega, by go_num, q4⟩
            case measure => simp [intOf]; omega
          · have hU9r := (hU9.out.later hbr).slc
            have hV9r := hV9.out.below hbr
            clear hps hrps
            have hDD := Lib.hid hD
            have gDD := Lib.hid gD
            clear hD gD
            have cr0 := hKr.cell 0 _ rfl
            have fr0 := hKr.fr 0 _ rfl
            have cr1 := hKr.cell 1 _ rfl
            have fr1 := hKr.fr 1 _ rfl
            have cr2 := hKr.cell 2 _ rfl
            have fr2 := hKr.fr 2 _ rfl
            go_wp2_with fail
            clear cr0 fr0 cr1 fr1 cr2 fr2
            refine (hDD.out _).mono ?_
            rintro e w51 ⟨rfl, hb⟩
            replace hKr := hKr.later hb
            replace hB := bstep hB hb
            have HU := Lib.hid (hU9r.below hb)
            have HV := Lib.hid (hV9r.below hb)
            clear hU9r hV9r
            clear hb
            have cr0 := hKr.cell 0 _ rfl
            have fr0 := hKr.fr 0 _ rfl
            have cr1 := hKr.cell 1 _ rfl
            have fr1 := hKr.fr 1 _ rfl
            have cr2 := hKr.cell 2 _ rfl
            have fr2 := hKr.fr 2 _ rfl
            go_wp2_with fail
            clear cr0 fr0 cr1 fr1 cr2 fr2
            refine (gDD.out _).mono ?_
            rintro e w52 ⟨rfl, hb⟩
            replace hKr := hKr.later hb
            replace hB := bstep hB hb
            have hU2 := HU.out.below hb
            have hV2 := HV.out.below hb
            clear hb
            go_wp2_with fail
            refine (sameTexts_same u (.slice A l.length cap) l _ hU2 hV2).mono ?_
            rintro e wz ⟨rfl, nq, rfl⟩
            go_wp2_with fail
            refine (awake_any _).mono ?_
            rintro e wy ⟨rfl, hb⟩
            go_wp2
            go_ret
            exact ⟨by first | rfl | simp, bstep (below_drewN hB nq) hb⟩
  · have hc3 : 300 < s.size ∨ s.size ≤ 300 ∧ 8 < l.length := by omega
    rcases hc3 with h1 | ⟨h1, h2⟩
    · have hk1 : decide ((300 : Int) < (s.size : Int)) = true := by simp; omega
      go_enter Try.func4, Try.ntmps4
      go_wp2_with fail
      refine named fun W1 hW => ?_
      have hKr : Blk W1 w.heap.size [.string s, .int .i64 most, .int .i64 err] := by rw [hW]; exact (Blk.is (us := [.string s, .int .i64 most, .int .i64 err]) _ rfl)
      have hB : Below w.heap.size w W1 := by rw [hW]; exact ((Below.refl _ _)).alloc (Nat.le_refl _) _
      have hler : w.heap.size ≤ w.heap.size := by omega
      clear hW
      refine (awake_any _).mono ?_
      rintro e w2 ⟨rfl, hb⟩
      replace hKr := hKr.later hb
      replace hB := bstep hB hb
      clear hb
      go_wp2
      go_ret
      exact ⟨by first | rfl | simp, hB⟩
    · have hk1 : decide ((300 : Int) < (s.size : Int)) = false := by simp; omega
      have hk2 : decide ((8 : Int) < (l.length : Int)) = true := by simp; omega
      go_enter Try.func4, Try.ntmps4
      go_wp2_with fail
      refine named fun W1 hW => ?_
      have hKr : Blk W1 w.heap.size [.string s, .int .i64 most, .int .i64 err] := by rw [hW]; exact (Blk.is (us := [.string s, .int .i64 most, .int .i64 err]) _ rfl)
      have hB : Below w.heap.size w W1 := by rw [hW]; exact ((Below.refl _ _)).alloc (Nat.le_refl _) _
      have hler : w.heap.size ≤ w.heap.size := by omega
      clear hW
      refine (awake_any _).mono ?_
      rintro e w2 ⟨rfl, hb⟩
      replace hKr := hKr.later hb
      replace hB := bstep hB hb
      clear hb
      go_wp2
      go_ret
      exact ⟨by first | rfl | simp, hB⟩
end Go.Proofs.Ytgcgoiaadigmfaa
