/- Walks: names, atoms, nodes, aggregates. -/
import Derived.Test.YtfibmdbplfghcaaGreatDoorAstC
import Derived.Test.YtfibmdbplfghcaaGreatDoorAstB
import Derived.Test.YtfibmdbplfghcaaGreatDoorTokTwo
namespace Go.Proofs.YtfibmdbplfghcaaGreatDoor
open Go.RowKit
open A8 Tk7

theorem wordB_is (l : List UInt8) : wordB (strOf l) = wordsA.contains l := by
  unfold wordB
  have h : ∀ L : List (List UInt8), (L.any fun c => decide (strOf l = strOf c)) = L.contains l := fun L => by
    induction L with
    | nil => rfl
    | cons c L ih =>
      rw [List.any_cons, ih, List.contains_cons]
      congr 1
      by_cases e : l = c
      · subst e; simp
      · have : ¬ strOf l = strOf c := fun h => e (strOf_inj h)
        simp [e, this]
  exact h wordsL
theorem take_all (p : UInt8 → Bool) : ∀ r : List UInt8, r.all p = true → r.takeWhile p = r
  | [], _ => rfl
  | b :: r, h => by
    rw [List.all_cons, Bool.and_eq_true] at h
    rw [List.takeWhile_cons, if_pos h.1, take_all p r h.2]
theorem tok_word (l : List UInt8) : isTok 1 l = (decide (1 ≤ l.length) && l.all smallB) := by
  cases l with
  | nil => rfl
  | cons b r =>
    have h : isTok 1 (b :: r) = true ↔ (b :: r).all smallB = true := by
      rw [isTok_iff]
      constructor
      · rintro ⟨h1, -⟩
        simp only [begG] at h1
        split at h1
        · rename_i hb
          have h2 : (r.takeWhile smallB).length = r.length := by
            have := congrArg Prod.snd h1
            simpa using this
          have h3 : r.takeWhile smallB = r := List.IsPrefix.eq_of_length (List.takeWhile_prefix _) h2
          rw [List.all_cons, hb, Bool.true_and]
          have := List.all_takeWhile (p := smallB) (l := r)
          rw [h3] at this
          exact this
        · split at h1
          · cases h1
          · split at h1
            · have := congrArg Prod.fst h1
              simp at this
            · have := congrArg Prod.fst h1
              simp at this
      · intro h1
        rw [List.all_cons, Bool.and_eq_true] at h1
        refine ⟨?_, by simp⟩
        have h3 : r.takeWhile smallB = r := take_all smallB r h1.2
        simp only [begG, h1.1, if_true, h3, List.length_cons]
    simp only [List.length_cons, Nat.le_add_left, decide_true, Bool.true_and]
    cases h2 : (b :: r).all smallB with
    | true => exact h.2 h2
    | false =>
      cases h3 : isTok 1 (b :: r) with
      | true => rw [h.1 h3] at h2; cases h2
      | false => rfl
theorem check_word (l : List UInt8) : checkI (1, l, 0) = if (decide (1 ≤ l.length) && l.all smallB) = true then 0 else 3 := by
  have h : checkI (1, l, 0) = if isTok 1 l = false then 3 else 0 := rfl
  rw [h, tok_word]
  cases (decide (1 ≤ l.length) && l.all smallB) <;> rfl
set_option maxRecDepth 100000 in
set_option maxHeartbeats 2000000 in
theorem name_any (l : List UInt8) (w : World) (hG : SG w) :
    Calls Tryz.prog 18 #[.string (strOf l)] w fun e w' => e = .returned (.bool (nameB l)) ∧ Below w.heap.size w w' := by
  have hw := fun w => word_any (strOf l) w
  have hc := fun w (h8 : l.length ≤ 8) => check_any 1 l 0 (by unfold maxLen; omega) w
  rw [wordB_is] at hw
  rw [check_word] at hc
  have hn : nameB l = (decide (1 ≤ l.length) && decide (l.length ≤ 8) && l.all smallB && !wordsA.contains l) := rfl
  have hsz : (strOf l).size = l.length := strOf_size l
  obtain ⟨p, hp⟩ : ∃ p, p = wordsA.contains l := ⟨_, rfl⟩
  obtain ⟨q, hq⟩ : ∃ q, q = decide (1 ≤ l.length) := ⟨_, rfl⟩
  obtain ⟨r, hr⟩ : ∃ r, r = l.all smallB := ⟨_, rfl⟩
  rw [← hp] at hw
  rw [← hq, ← hr] at hc
  rw [hn, ← hp, ← hq, ← hr]
  obtain ⟨s, hs⟩ : ∃ s, s = strOf l := ⟨_, rfl⟩
  rw [← hs] at hw hc hsz ⊢
  clear hp hq hr hn hs
  by_cases h8 : l.length ≤ 8
  · rw [decide_eq_true h8]
    have h8' : (l.length : Int) ≤ 8 := by omega
    cases p with
    | true =>
      clear hc
      go_enter Tryz.func18, Tryz.ntmps18
      go_wp2_with (go_at_call 51; refine (hw _).mono ?_; rintro e w' ⟨rfl, rfl⟩)
      go_ret
      exact ⟨ret_bool (by cases q <;> cases r <;> rfl), Below.refl _ _⟩
    | false =>
      cases hqr : (q && r) with
      | true =>
        rw [hqr, if_pos rfl] at hc
        have hqq : (q && true && r && !false) = true := by rw [Bool.and_true, hqr]; rfl
        rw [hqq]
        clear hqq hqr
        go_enter Tryz.func18, Tryz.ntmps18
        go_wp2_with (first | (go_at_call 51; refine (hw _).mono ?_; rintro e w' ⟨rfl, rfl⟩) | (go_at_call 52; refine (hc _ h8 hG).mono ?_; rintro e w' ⟨rfl, hb⟩))
        go_ret
        exact ⟨rfl, hb⟩
      | false =>
        rw [hqr, if_neg (by decide)] at hc
        have hqq : (q && true && r && !false) = false := by rw [Bool.and_true, hqr]; rfl
        rw [hqq]
        clear hqq hqr
        go_enter Tryz.func18, Tryz.ntmps18
        go_wp2_with (first | (go_at_call 51; refine (hw _).mono ?_; rintro e w' ⟨rfl, rfl⟩) | (go_at_call 52; refine (hc _ h8 hG).mono ?_; rintro e w' ⟨rfl, hb⟩))
        go_ret
        exact ⟨rfl, hb⟩
  · rw [decide_eq_false h8, Bool.and_false]
    have h8' : ¬ (l.length : Int) ≤ 8 := by omega
    clear hc hw
    go_enter Tryz.func18, Tryz.ntmps18
    go_wp2
    go_ret
    exact ⟨rfl, Below.refl _ _⟩
set_option maxRecDepth 100000 in
set_option maxHeartbeats 2000000 in
theorem isAgg_any (a : Ag) (w : World) (hG : SG w) : Calls Tryz.prog 45 #[.agg (agC a).toArray] w fun e w' => e = .returned (.bool (aggB a)) ∧ Below w.heap.size w w' := by
  obtain ⟨fn, nm⟩ := a
  have hq := fun w => isFrom_any 1 fn 6 w
  have hn := fun w hG => name_any nm w hG
  have hG2 := hG.later (b1 w (.cells (agC ⟨fn, nm⟩).toArray 57))
  unfold aggB
  simp only [agC] at hG2 ⊢
  obtain ⟨q, hqq⟩ : ∃ q, q = (decide (1 ≤ fn) && decide (fn ≤ 6)) := ⟨_, rfl⟩
  obtain ⟨r, hr⟩ : ∃ r, r = nameB nm := ⟨_, rfl⟩
  rw [← hqq] at hq ⊢
  rw [← hr] at hn ⊢
  clear hqq hr
  cases q with
  | true =>
    go_enter Tryz.func45, Tryz.ntmps45
    go_wp2_with (first | (go_at_call 88; refine (hq _).mono ?_; rintro e w2 ⟨rfl, rfl⟩) | (go_at_call 18; refine (hn _ hG2).mono ?_; rintro e w2 ⟨rfl, hb⟩))
    go_ret
    exact ⟨rfl, bstep (b1 _ _) hb⟩
  | false =>
    go_enter Tryz.func45, Tryz.ntmps45
    go_wp2_with (go_at_call 88; refine (hq _).mono ?_; rintro e w2 ⟨rfl, rfl⟩)
    go_ret
    exact ⟨rfl, b1 _ _⟩
set_option maxRecDepth 100000 in
set_option maxHeartbeats 2000000 in
theorem isHave_any (h : Hv) (w : World) (hG : SG w) : Calls Tryz.prog 43 #[.agg (hvC h).toArray] w fun e w' => e = .returned (.bool (haveB h)) ∧ Below w.heap.size w w' := by
  obtain ⟨⟨fn, nm⟩, ⟨op, va⟩⟩ := h
  have hq := fun w hG => isAgg_any ⟨fn, nm⟩ w hG
  have hc := fun w => isCond_any ⟨op, va⟩ w
  have hG2 := hG.later (b1 w (.cells (hvC ⟨⟨fn, nm⟩, ⟨op, va⟩⟩).toArray 61))
  have hbx : ∀ w1, Below (w.alloc (.cells (hvC ⟨⟨fn, nm⟩, ⟨op, va⟩⟩).toArray 61)).heap.size (w.alloc (.cells (hvC ⟨⟨fn, nm⟩, ⟨op, va⟩⟩).toArray 61)) w1 → Blk w1 w.heap.size (hvC ⟨⟨fn, nm⟩, ⟨op, va⟩⟩) := fun w1 hb => (Blk.new _ _ _).later hb
  unfold haveB
  simp only [hvC, agC, cnC] at hG2 hq hc hbx ⊢
  obtain ⟨q, hqq⟩ : ∃ q, q = aggB ⟨fn, nm⟩ := ⟨_, rfl⟩
  obtain ⟨r, hr⟩ : ∃ r, r = condB ⟨op, va⟩ := ⟨_, rfl⟩
  rw [← hqq] at hq ⊢
  rw [← hr] at hc ⊢
  clear hqq hr
  cases q with
  | true =>
    go_enter Tryz.func43, Tryz.ntmps43
    go_wp2_with (first | (go_at_call 45; refine (hq _ hG2).mono ?_; rintro e w2 ⟨rfl, hb⟩; have c2 := (hbx _ hb).cell 2 _ rfl; have c3 := (hbx _ hb).cell 3 _ rfl) | (go_at_call 85; refine (hc _).mono ?_; rintro e w3 ⟨rfl, hb3⟩))
    go_ret
    exact ⟨rfl, bstep (bstep (b1 _ _) hb) hb3⟩
  | false =>
    go_enter Tryz.func43, Tryz.ntmps43
    go_wp2_with (go_at_call 45; refine (hq _ hG2).mono ?_; rintro e w2 ⟨rfl, hb⟩)
    go_ret
    exact ⟨rfl, bstep (b1 _ _) hb⟩
/-- The zero value of an atom. -/
def ga0 : GA := ⟨⟨0, false, 0, [], []⟩, .slice none 0 0⟩
theorem one0 (w : World) : OneA w ga0 := ⟨⟨by unfold okV; decide, by decide, (fun c h => by cases h), by unfold maxLen; decide⟩, Sl.nil w 2⟩
theorem zero_is (a : At) : decide (a = ga0.a) = zeroB a := by
  obtain ⟨kd, bd, bn, cs, nm⟩ := a
  unfold ga0 zeroB
  simp only [At.mk.injEq]
  by_cases h1 : kd = 0 <;> cases bd <;> by_cases h2 : bn = 0 <;> cases cs <;> cases nm <;> simp [h1, h2]
end Go.Proofs.YtfibmdbplfghcaaGreatDoor
