/- Walks: running sums, the program's and the reference's. -/
import Derived.Test.YtlembnpplnbagaaDoorSumE
import Derived.Handy
import Derived.Deep.QuietTactic
import Derived.Laws.AppendOwnNone
namespace Go.Proofs.YtlembnpplnbagaaDoor
open Go.RowKit Go.Shelf
open Sm

theorem infoI64 : (Tryd.prog.info? 2).map (fun i => (i.zero, i.size, i.bytes)) = some (some (.int .i64 0), 1, 8) := by kernel_rfl
/-- What a function gives that returns a list of numbers and an error. -/
def Out5 (w : World) (us : List Value) (c : Int) (e : Ending) (w' : World) : Prop := ∃ v, e = .returned (.tuple #[v, .int .i64 c]) ∧ Slc w' v us ∧ Below w.heap.size w w'
theorem Out5.of {w : World} {us : List Value} {c : Int} {e : Ending} {w' : World} (v : Value) (h1 : e = .returned (.tuple #[v, .int .i64 c])) (h2 : Slc w' v us) (h3 : Below w.heap.size w w') : Out5 w us c e w' := ⟨v, h1, h2, h3⟩
/-- The running sums so far, the sum, and what is left of the list. -/
def RunAt (l : List Int) (acc : List Int) (n : Int) (k : Nat) : Prop := runI l = acc ++ (runGo n (l.drop k)).1 ∧ runE l = (runGo n (l.drop k)).2
theorem RunAt.start (l : List Int) : RunAt l [] 0 0 := ⟨rfl, rfl⟩
theorem RunAt.go {l acc : List Int} {n : Int} {k : Nat} (h : RunAt l acc n k) (hk : k < l.length) (ho : okI (n + l[k]) = true) : RunAt l (acc ++ [n + l[k]]) (n + l[k]) (k + 1) := by
  obtain ⟨h1, h2⟩ := h
  rw [List.drop_eq_getElem_cons hk] at h1 h2
  unfold runGo at h1 h2
  rw [if_pos ho] at h1 h2
  exact ⟨by rw [h1, List.append_assoc]; rfl, h2⟩
theorem RunAt.stop {l acc : List Int} {n : Int} {k : Nat} (h : RunAt l acc n k) (hk : k < l.length) (ho : okI (n + l[k]) = false) : runI l = acc ∧ runE l = 16 := by
  obtain ⟨h1, h2⟩ := h
  rw [List.drop_eq_getElem_cons hk] at h1 h2
  unfold runGo at h1 h2
  rw [if_neg (by rw [ho]; decide)] at h1 h2
  exact ⟨by rw [h1]; simp, h2⟩
theorem RunAt.end {l acc : List Int} {n : Int} {k : Nat} (h : RunAt l acc n k) (hk : ¬ k < l.length) : runI l = acc ∧ runE l = 0 := by
  obtain ⟨h1, h2⟩ := h
  rw [List.drop_eq_nil_of_le (by omega)] at h1 h2
  exact ⟨by rw [h1]; simp [runGo], h2⟩
theorem Own1.below {B : Nat} {e : TypeId} {w wr w1 : World} {us : List Value} {v : Value} (h : Own1 B e w us v wr) (hb : Below wr.heap.size wr w1) : Own1 B e w us v w1 := by
  obtain ⟨⟨h1, h2⟩, h3, h4⟩ := h
  refine ⟨⟨h1, ?_⟩, h3.trans (hb.mono h4), Nat.le_trans h4 hb.size⟩
  rcases h2 with h2 | ⟨g, cap, cur, e1, e2, e3, r⟩
  · exact .inl h2
  · exact .inr ⟨g, cap, cur, e1, e2, (hb.block g (Array.getElem?_eq_some_iff.1 e3).1).trans e3, r⟩
theorem add_yes (a b n : Int) (ha : okI a = true) (hb : okI b = true) (hn : n = a + b) (h : okI n = true) (w : World) : Calls Tryd.prog 11 #[.int .i64 a, .int .i64 b] w fun e w' => e = .returned (.tuple #[.int .i64 n, .int .i64 0]) ∧ w = w' := by
  have := add_any a b ha hb w
  rw [← hn, two_ok h] at this
  exact this
theorem add_no (a b n : Int) (ha : okI a = true) (hb : okI b = true) (hn : n = a + b) (h : okI n = false) (w : World) : Calls Tryd.prog 11 #[.int .i64 a, .int .i64 b] w fun e w' => e = .returned (.tuple #[.int .i64 0, .int .i64 16]) ∧ w = w' := by
  have := add_any a b ha hb w
  rw [← hn, two_no h] at this
  exact this
set_option maxRecDepth 100000 in
set_option maxHeartbeats 2000000 in
theorem running_any (v : Value) (l : List Int) (w : World) (h : Slc w v (vals .i64 l)) (hl : ∀ x ∈ l, okI x = true) (hn : l.length ≤ 1000) :
    Calls Tryd.prog 53 #[.func (.func 11) #[] #[], v] w (Out5 w (vals .i64 (runI l)) (runE l)) := by
  obtain ⟨i0, hi, hz0, hz1, hz2⟩ := info_parts infoI64
  obtain ⟨A, cap, rfl, hm, hc⟩ := h.ints
  have HH := Lib.hid h
  clear h
  have HL := Lib.hid hl
  clear hl
  go_enter Tryd.func53, Tryd.ntmps53
  go_wp2
  go_step3
  go_wp2
  go_step3
  go_wp2
  go_loopw [4, 5, 6, 11] (fun v4 v5 v6 i wr => ∃ (k : Nat) (acc : List Int) (n : Int), k ≤ l.length ∧ i = .int .i64 (k : Int) ∧ v5 = .int .i64 0 ∧ v6 = .int .i64 n ∧ okI n = true ∧ acc.length = k ∧ Hid (RunAt l acc n k) ∧ Own1 w.heap.size 2 w (vals .i64 acc) v4 wr) (fun _ _ _ i _ => l.length - (intOf i).toNat)
  case atStart => exact ⟨0, [], 0, Nat.zero_le _, rfl, rfl, rfl, by decide, rfl, Lib.hid (RunAt.start l), Own1.nil _⟩
  case round =>
    obtain ⟨k, acc, n, hk, rfl, rfl, rfl, hnk, hak, hR, hown⟩ := hrel
    by_cases hlt : k < l.length
    · obtain ⟨a, rfl, hab, hcell⟩ := hc k hlt
      have hcell' : wr.cell? (a.add k) = some (.int .i64 l[k]) := (hown.2.1.cell (by rw [add_block]; exact hab)).trans hcell
      have hx := HL.out l[k] (List.getElem_mem hlt)
      clear hc hcell hab
      obtain ⟨s, hs⟩ : ∃ s, s = n + l[k] := ⟨_, rfl⟩
      cases ho : okI s
      · have hadd := fun w => add_no n l[k] s hnk hx hs ho w
        obtain ⟨e1, e2⟩ := hR.out.stop hlt (by rw [← hs]; exact ho)
        have E1 := Lib.hid e1
        have E2 := Lib.hid e2
        clear e1 e2 ho hs hx hnk hR hak
        go_wp2_with (go_at_call 11; refine (hadd _).mono ?_; rintro e w' ⟨rfl, rfl⟩)
        rw [Exit.noGoto_ret]
        go_ret2
        rw [E1.out, E2.out]
        exact Out5.of _ rfl hown.slc hown.2.1
      · have hadd := fun w => add_yes n l[k] s hnk hx hs ho w
        have hR2 := Lib.hid (hR.out.go hlt (by rw [← hs]; exact ho))
        rw [← hs] at hR2
        clear hs hx hnk hR
        have hav : (vals .i64 acc).length = k := by rw [vals_length]; exact hak
        go_wp2_with (first | (go_at_call 11; refine (hadd _).mono ?_; rintro e w' ⟨rfl, rfl⟩) | (at_builtin; refine wpList_append_own _ rfl _ _ 30 rfl w.heap.size 2 i0 (.int .i64 0) 1 8 Tryd.underlying30 hi hz0 hz1 hz2 rfl (by decide) _ _ _ rfl (hown.1.alloc _) ⟨wr.heap.size, 0, none⟩ 1 1 [.int .i64 s] rfl rfl (cell_one_new _ _ _) (by simp [Value.oneCell']) (by rw [hav]; unfold maxLen; omega) (by rw [hav]; omega) (by have := hown.2.2; simp; omega) ?_; intro v' w1 hown' hgrow _))
        have hown1 := hown.snoc hown' hgrow
        clear hown hown' hgrow hcell'
        go_wp2
        go_roundw
        case rel => exact ⟨k + 1, acc ++ [s], s, by omega, by go_num, rfl, rfl, ho, by rw [List.length_append, hak]; rfl, hR2, by rw [vals_snoc]; exact hown1⟩
        case measure => simp [intOf]; omega
    · obtain ⟨e1, e2⟩ := hR.out.end hlt
      have E1 := Lib.hid e1
      have E2 := Lib.hid e2
      clear e1 e2 hR hc
      go_wp2
      rw [Exit.noGoto_ret]
      go_ret2
      rw [E1.out, E2.out]
      exact Out5.of _ rfl hown.slc hown.2.1
set_option maxRecDepth 100000 in
set_option maxHeartbeats 2000000 in
theorem refRunning_any (v : Value) (l : List Int) (w : World) (h : Slc w v (vals .i64 l)) (hl : ∀ x ∈ l, okI x = true) (hn : l.length ≤ 1000) :
    Calls Tryd.prog 25 #[v] w (Out5 w (vals .i64 (runI l)) (runE l)) := by
  obtain ⟨i0, hi, hz0, hz1, hz2⟩ := info_parts infoI64
  obtain ⟨A, cap, rfl, hm, hc⟩ := h.ints
  clear h
  have HL := Lib.hid hl
  clear hl
  go_enter Tryd.func25, Tryd.ntmps25
  go_wp2
  go_loopw [4, 5, 6] (fun v4 v5 i wr => ∃ (k : Nat) (acc : List Int) (n : Int), k ≤ l.length ∧ i = .int .i64 (k : Int) ∧ v5 = .int .i64 n ∧ okI n = true ∧ acc.length = k ∧ Hid (RunAt l acc n k) ∧ Own1 w.heap.size 2 w (vals .i64 acc) v4 wr) (fun _ _ i _ => l.length - (intOf i).toNat)
  case atStart => exact ⟨0, [], 0, Nat.zero_le _, rfl, rfl, by decide, rfl, Lib.hid (RunAt.start l), Own1.nil _⟩
  case round =>
    obtain ⟨k, acc, n, hk, rfl, rfl, hnk, hak, hR, hown⟩ := hrel
    by_cases hlt : k < l.length
    · obtain ⟨a, rfl, hab, hcell⟩ := hc k hlt
      have hcell' : wr.cell? (a.add k) = some (.int .i64 l[k]) := (hown.2.1.cell (by rw [add_block]; exact hab)).trans hcell
      have hx := HL.out l[k] (List.getElem_mem hlt)
      clear hc hcell hab
      obtain ⟨s, hs⟩ : ∃ s, s = n + l[k] := ⟨_, rfl⟩
      cases ho : okI s
      · have hadd : ∀ w, Calls Tryd.prog 12 #[.int .i64 n, .int .i64 l[k]] w fun e w' => e = .returned (.tuple #[.int .i64 0, .int .i64 16]) ∧ Below w.heap.size w w' := fun w => by
          have := refAdd_any n l[k] hnk hx w
          rw [← hs, two_no ho] at this
          exact this
        obtain ⟨e1, e2⟩ := hR.out.stop hlt (by rw [← hs]; exact ho)
        have E1 := Lib.hid e1
        have E2 := Lib.hid e2
        clear e1 e2 ho hs hx hnk hR hak
        go_wp2_with (go_at_call 12; refine (hadd _).mono ?_; rintro e w' ⟨rfl, hb1⟩)
        go_ret2
        rw [E1.out, E2.out]
        exact Out5.of _ rfl (hown.slc.below hb1) (bstep hown.2.1 hb1)
      · have hadd : ∀ w, Calls Tryd.prog 12 #[.int .i64 n, .int .i64 l[k]] w fun e w' => e = .returned (.tuple #[.int .i64 s, .int .i64 0]) ∧ Below w.heap.size w w' := fun w => by
          have := refAdd_any n l[k] hnk hx w
          rw [← hs, two_ok ho] at this
          exact this
        have hR2 := Lib.hid (hR.out.go hlt (by rw [← hs]; exact ho))
        rw [← hs] at hR2
        clear hs hx hnk hR
        have hav : (vals .i64 acc).length = k := by rw [vals_length]; exact hak
        go_wp2_with fail
        refine (hadd _).mono ?_
        rintro e w1 ⟨rfl, hb1⟩
        replace hown := hown.below hb1
        clear hb1 hadd
        go_wp2_with (at_builtin; refine wpList_append_own _ rfl _ _ 30 rfl w.heap.size 2 i0 (.int .i64 0) 1 8 Tryd.underlying30 hi hz0 hz1 hz2 rfl (by decide) _ _ _ rfl (hown.1.alloc _) ⟨w1.heap.size, 0, none⟩ 1 1 [.int .i64 s] rfl rfl (cell_one_new _ _ _) (by simp [Value.oneCell']) (by rw [hav]; unfold maxLen; omega) (by rw [hav]; omega) (by have := hown.2.2; simp; omega) ?_; intro v' w2 hown' hgrow _)
        have hown1 := hown.snoc hown' hgrow
        clear hown hown' hgrow hcell'
        go_wp2
        go_roundw
        case rel => exact ⟨k + 1, acc ++ [s], s, by omega, by go_num, rfl, ho, by rw [List.length_append, hak]; rfl, hR2, by rw [vals_snoc]; exact hown1⟩
        case measure => simp [intOf]; omega
    · obtain ⟨e1, e2⟩ := hR.out.end hlt
      have E1 := Lib.hid e1
      have E2 := Lib.hid e2
      clear e1 e2 hR hc
      go_wp2
      go_ret2
      rw [E1.out, E2.out]
      exact Out5.of _ rfl hown.slc hown.2.1
end Go.Proofs.YtlembnpplnbagaaDoor
