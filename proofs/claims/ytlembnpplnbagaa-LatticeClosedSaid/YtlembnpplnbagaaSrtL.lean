/- The library's sort at []uint64: pdqsort, by induction on the range's length. -/
import Derived.Sort.LotD3
import Derived.Sort.LotB
import Derived.Sort.LotC
import Derived.Deep.Cut
import Derived.Test.YtlembnpplnbagaaSrtK
namespace Go.Proofs.Ytlembnpplnbagaa.Lt
open Go.RowKit Go.Sort

/-- The range is sorted, the rest as it was. -/
def Done (b o x y : Nat) (d : Array Int) (w w' : World) : Prop := ∃ d', PermIn x y d d' ∧ SortedIn ltInt x y d' ∧ Rg w b o d' w'
/-- Whatever sorts the range from x' to y' of d' has sorted that from x to y of d. -/
def Leads (x' y' : Nat) (d' : Array Int) (x y : Nat) (d : Array Int) : Prop := ∀ R, PermIn x' y' d' R → SortedIn ltInt x' y' R → PermIn x y d R ∧ SortedIn ltInt x y R
theorem Leads.refl (x y : Nat) (d : Array Int) : Leads x y d x y d := fun _ h k => ⟨h, k⟩
theorem Leads.step {x2 y2 x' y' x y : Nat} {dn d3 dk d : Array Int} (h : Leads x' y' dk x y d) (hp : PermIn x' y' dk d3)
    (k : ∀ R, PermIn x2 y2 dn R → SortedIn ltInt x2 y2 R → PermIn x' y' d3 R ∧ SortedIn ltInt x' y' R) : Leads x2 y2 dn x y d :=
  fun R h1 h2 => h R (permIn_trans _ _ _ _ _ hp (k R h1 h2).1) (k R h1 h2).2
theorem Leads.done {b o x' y' x y : Nat} {dk d3 d : Array Int} {w w' : World} (h : Leads x' y' dk x y d) (hp : PermIn x' y' dk d3) (hs : SortedIn ltInt x' y' d3) (hr : Rg w b o d3 w') : Done b o x y d w w' :=
  ⟨d3, (h d3 hp hs).1, (h d3 hp hs).2, hr⟩
/-- What is known where ways meet. -/
def Cut1 (b o x y lim : Nat) (d : Array Int) (w : World) (s : Value) (wc : World) : Prop := ∃ (l : Nat) (d1 : Array Int), s = .int .i64 (l : Int) ∧ l ≤ lim ∧ PermIn x y d d1 ∧ Rg w b o d1 wc
def Cut2 (b o x y : Nat) (d : Array Int) (w : World) (s s' : Value) (wc : World) : Prop :=
  ∃ (p h : Nat) (d2 : Array Int), s = .int .i64 (p : Int) ∧ s' = .int .i64 (h : Int) ∧ x ≤ p ∧ p < y ∧ h ≤ 2 ∧ PermIn x y d d2 ∧ Rg w b o d2 wc
def SomeB (s : Value) : Prop := ∃ t : Bool, s = .bool t
def Cut4 (b o x y : Nat) (d : Array Int) (w : World) (wc : World) : Prop := ∃ d3 : Array Int, PermIn x y d d3 ∧ Rg w b o d3 wc
theorem eighth {x y p q : Nat} (h1 : q ≤ p) (h2 : y ≤ x) : decide (((x : Int) - (y : Int)) / 8 ≤ (p : Int) - (q : Int)) = decide (p - q ≥ (x - y) / 8) :=
  decide_eq_decide.2 ⟨fun h => by omega, fun h => by omega⟩

set_option maxHeartbeats 6400000 in
set_option maxRecDepth 1000000 in
theorem pdq_any : ∀ (N b o c x y l : Nat) (d : Array Int) (w : World), y - x < N → Holds (Value.int .u64) w b o d → b < w.heap.size → x ≤ y → y ≤ d.size → d.size < 2305843009213693952 → l < 4611686018427387904 → Below ltInt x y d →
    Calls Try.prog 38 #[.slice (some ⟨b, o, none⟩) d.size c, .int .i64 (x : Int), .int .i64 (y : Int), .int .i64 (l : Int)] w fun e w' =>
      e = .returned (.tuple #[]) ∧ Done b o x y d w w' := by
  intro N
  induction N with
  | zero => intro _ _ _ _ _ _ _ _ h; exact absurd h (Nat.not_lt_zero _)
  | succ N ih =>
    intro b o c x y l d w hN hH hb hxy hy hz hl hBel0
    go_enter Try.func38, Try.ntmps38
    go_wp2
    go_loopg [1, 2, 3, 8, 9] (y - x) (fun k s1 s2 s3 s8 s9 wr => ∃ (x' y' lim : Nat) (wb wp : Bool) (dk : Array Int), s1 = .int .i64 x' ∧ s2 = .int .i64 y' ∧ s3 = .int .i64 lim ∧ s8 = .bool wb ∧ s9 = .bool wp ∧
      x' ≤ y' ∧ y' ≤ d.size ∧ y' - x' ≤ k ∧ k ≤ y - x ∧ lim ≤ l ∧ dk.size = d.size ∧ Below ltInt x' y' dk ∧ Rg w b o dk wr ∧ Leads x' y' dk x y d)
    case atStart => exact ⟨x, y, l, true, true, d, rfl, rfl, rfl, rfl, rfl, hxy, hy, Nat.le_refl _, Nat.le_refl _, Nat.le_refl _, rfl, hBel0, Rg.start hH, Leads.refl _ _ _⟩
    case round =>
      obtain ⟨x', y', lim, wb, wp, dk, rfl, rfl, rfl, rfl, rfl, hxy', hy', hk, hkN, hlim, hds, hBel, hAt, hLead⟩ := hrel
      obtain ⟨hHk, hbk⟩ := hAt.holds hH hds hb
      by_cases h12 : y' - x' ≤ 12
      · have h12z : (y' : Int) - (x' : Int) ≤ 12 := by omega
        have hc := insertionSort_any b o c x' y' dk wr hHk hxy' (by omega) (by omega)
        rw [hds] at hc
        have HS := Lib.hid (insertionSort_holds swoI dk x' y' hxy' (by omega))
        go_wp2_with (go_at_call 40; refine hc.mono ?_; rintro e w1 ⟨rfl, hw1⟩)
        (try simp only [Exit.inBlock, Exit.then]); refine bodyPost_ret (results_none rfl _ _ _) rfl ?_
        exact ⟨rfl, hLead.done HS.out.1 HS.out.2 (hAt.rw hb HS.out.1.1 hw1)⟩
      · have h12z : ¬ ((y' : Int) - (x' : Int) ≤ 12) := by omega
        by_cases hl0 : lim = 0
        · subst hl0
          have hc := heapSort_any b o c x' y' dk wr hHk hxy' (by omega) (by omega)
          rw [hds] at hc
          have HS := Lib.hid (heapSort_holds swoI dk x' y' hxy' (by omega))
          go_wp2_with (go_at_call 41; refine hc.mono ?_; rintro e w1 ⟨rfl, hw1⟩)
          (try simp only [Exit.inBlock, Exit.then]); refine bodyPost_ret (results_none rfl _ _ _) rfl ?_
          exact ⟨rfl, hLead.done HS.out.1 HS.out.2 (hAt.rw hb HS.out.1.1 hw1)⟩
        · have hl0z : ¬ ((lim : Int) = 0) := by omega
          go_upto_if 35 with fail
          go_cut [3] from 19 (fun s3 wc => Cut1 b o x' y' lim dk w s3 wc)
          case first =>
            cases wb
            · have hc := breakPatterns_any b o c x' y' dk wr hHk hbk hxy' (by omega) (by omega)
              rw [hds] at hc
              go_wp2_with (go_at_call 42; refine hc.mono ?_; rintro e w1 ⟨rfl, d1, hp1, hw1⟩)
              go_meet
              case rel =>
                refine ⟨lim - 1, d1, ?_, by omega, hp1, hAt.rg hb hp1.1 hw1⟩
                show Value.int .i64 ((lim : Int) - 1) = Value.int .i64 ((lim - 1 : Nat) : Int)
                congr 1
                omega
            · go_wp2_with fail
              go_meet
              case rel => exact ⟨lim, dk, rfl, Nat.le_refl _, permIn_refl _ _ _, hAt⟩
          case rest =>
            obtain ⟨lim2, d1, rfl, hl2, hp1, hAt1⟩ := hcut
            have hs1 : d1.size = d.size := hp1.1.trans hds
            obtain ⟨hH1, hb1⟩ := hAt1.holds hH hs1 hb
            have hc17 := choosePivot_any b o c x' y' d1 wc hH1 hb1 (by omega) (by omega) (by omega)
            rw [hs1] at hc17
            go_upto_if 50 with (go_at_call 43; refine hc17.mono ?_; rintro e w2 ⟨p, h, rfl, hp_1, hp_2, hh, hw2⟩)
            have hAt2 : Rg w b o d1 w2 := hAt1.same hH hs1 hb hw2
            obtain ⟨hH2, hb2⟩ := hAt2.holds hH hs1 hb
            clear hw2 hc17
            go_cut [11, 12] from 19 (fun s11 s12 wc => Cut2 b o x' y' d1 w s11 s12 wc)
            case first =>
              by_cases hh2 : h = 2
              · subst hh2
                have hc18 := reverse_any b o c x' y' d1 w2 hH2 (by omega) (by omega) (by omega)
                rw [hs1] at hc18
                have HS := Lib.hid (reverseRange_holds d1 x' y' hxy' (by omega))
                go_wp2_with (go_at_call 44; refine hc18.mono ?_; rintro e w3 ⟨rfl, hw3⟩)
                go_meet
                case rel =>
                  refine ⟨y' - 1 - (p - x'), 1, reverseRange d1 x' y', ?_, rfl, by omega, by omega, by omega, HS.out, hAt2.rw hb HS.out.1 hw3⟩
                  congr 1
                  omega
              · have hcode : ¬ ((h : Int) = 2) := by omega
                go_wp2_with fail
                go_meet
                case rel => exact ⟨p, h, d1, rfl, rfl, hp_1, hp_2, hh, permIn_refl _ _ _, hAt2⟩
            case rest =>
              clear hAt2 hH2 hb2 hp_1 hp_2 hh
              obtain ⟨p2, h2, d2, rfl, rfl, hp_1, hp_2, hh, hp2, hAt3⟩ := hcut
              have hs2 : d2.size = d.size := hp2.1.trans hs1
              obtain ⟨hH3, hb3⟩ := hAt3.holds hH hs2 hb
              go_upto_region 15 with fail
              go_cut [12, 68] from 19 (fun s12 s68 wx => s12 = .int .i64 (h2 : Int) ∧ SomeB s68 ∧ wx = wc)
              case first =>
                by_cases hh3 : h2 = 1
                · subst hh3
                  cases wb <;> cases wp <;>
                    (go_wp2_with fail
                     go_meet
                     exact ⟨rfl, ⟨_, rfl⟩, rfl⟩)
                · have hcode : ¬ ((h2 : Int) = 1) := by omega
                  cases wb <;> cases wp <;>
                    (go_wp2_with fail
                     go_meet
                     exact ⟨rfl, ⟨_, rfl⟩, rfl⟩)
              case rest =>
                obtain ⟨rfl, ⟨t, rfl⟩, rfl⟩ := hcut
                go_upto_if 68 with fail
                go_cut [] from 19 (fun wx => Cut4 b o x' y' d2 w wx)
                case first =>
                  cases t
                  · go_wp2_with fail
                    go_meet
                    case rel => exact ⟨d2, permIn_refl _ _ _, hAt3⟩
                  · have hc19 := partial_any b o c x' y' d2 wc hH3 (by omega) (by omega) (by omega)
                    rw [hs2] at hc19
                    have hB2 : Below ltInt x' y' d2 := (hBel.perm (by omega) hp1).perm (by omega) hp2
                    have HS := Lib.hid (partialInsertionSort_holds swoI d2 x' y' (by omega) (by omega) hB2)
                    obtain ⟨rb, hrb⟩ : ∃ rb, rb = (partialInsertionSort ltInt d2 x' y').2 := ⟨_, rfl⟩
                    rw [← hrb] at hc19
                    have HB := Lib.hid hrb
                    clear hrb hB2
                    cases rb
                    · go_wp2_with (go_at_call 45; refine hc19.mono ?_; rintro e w4 ⟨rfl, hw4⟩)
                      go_meet
                      case rel => exact ⟨_, HS.out.1, hAt3.rw hb HS.out.1.1 hw4⟩
                    · go_wp2_with (go_at_call 45; refine hc19.mono ?_; rintro e w4 ⟨rfl, hw4⟩)
                      (try simp only [Exit.inBlock, Exit.then]); refine bodyPost_ret (results_none rfl _ _ _) rfl ?_
                      exact ⟨rfl, hLead.done (permIn_trans _ _ _ _ _ (permIn_trans _ _ _ _ _ hp1 hp2) HS.out.1) (HS.out.2 HB.out.symm) (hAt3.rw hb HS.out.1.1 hw4)⟩
                case rest =>
                  clear hAt3 hH3 hb3
                  obtain ⟨d3, hp3, hAt5⟩ := hcut
                  have hs3 : d3.size = d.size := hp3.1.trans hs2
                  obtain ⟨hH5, hb5⟩ := hAt5.holds hH hs3 hb
                  have P3 : PermIn x' y' dk d3 := permIn_trans _ _ _ _ _ (permIn_trans _ _ _ _ _ hp1 hp2) hp3
                  have B3 : Below ltInt x' y' d3 := hBel.perm (by omega) P3
                  obtain ⟨G, hG⟩ : ∃ G : Nat → Int, ∀ t, G t = d3[t]! := ⟨fun t => d3[t]!, fun _ => rfl⟩
                  have hcw : ∀ t, t < d.size → wc.cell? ⟨b, o + t, none⟩ = some (.int .u64 (G t)) := fun t ht => by rw [hG]; exact (hH5 t (by omega)).1
                  have hfw : ∀ t, t < d.size → wc.frozen? ⟨b, o + t, none⟩ = false := fun t ht => (hH5 t (by omega)).2
                  have HG := Lib.hid hG
                  have HA5 := Lib.hid hAt5
                  clear hG hAt5
                  go_upto_region 17 with fail
                  go_cut [87] from 19 (fun s87 wx => s87 = .bool (decide (0 < x') && !ltInt (G (x' - 1)) (G p2)) ∧ Rg w b o d3 wx)
                  case first =>
                    rcases Nat.eq_zero_or_pos x' with ha0 | ha0
                    · subst ha0
                      go_big_quiet (first | (go_at_call 46; refine Calls.quiet_of_same (less_any _ _ _)))
                      go_wp2_with fail
                      go_meet
                      case rel => exact ⟨by simp, HA5.out.drew nq⟩
                    · have ha0z : (x' : Int) > 0 := by omega
                      go_big_quiet (first | (go_at_call 46; refine Calls.quiet_of_same (less_any _ _ _)))
                      go_wp2_with fail
                      go_meet
                      case rel => exact ⟨by simp [ha0], HA5.out.drew nq⟩
                  case rest =>
                    obtain ⟨rfl, hAt6⟩ := hcut
                    clear hcw hfw HA5 hH5 hb5
                    obtain ⟨hH6, hb6⟩ := hAt6.holds hH hs3 hb
                    cases h87 : (decide (0 < x') && !ltInt (G (x' - 1)) (G p2))
                    · obtain ⟨mid, ap, d4, hx⟩ : ∃ mid ap d4, partition ltInt d3 x' y' p2 = (mid, ap, d4) := ⟨(partition ltInt d3 x' y' p2).1, (partition ltInt d3 x' y' p2).2.1, (partition ltInt d3 x' y' p2).2.2, rfl⟩
                      obtain ⟨r1, r2, r3, r4, r5, r6, r7⟩ := round_part swoI (partition_holds _) hp_1 hp_2 (show y' ≤ d3.size by omega) B3 hx
                      have hc22 := partition_any b o c x' y' p2 d3 _ hH6 hp_1 hp_2 (by omega) (by omega)
                      rw [hs3, hx] at hc22
                      clear hx
                      have R6 := Lib.hid r6
                      have R7 := Lib.hid r7
                      have H87 := Lib.hid h87
                      clear r6 r7
                      go_upto_if 113 with (go_at_call 48; refine hc22.mono ?_; rintro e w7 ⟨rfl, hw7⟩)
                      have hs4 : d4.size = d.size := r3.trans hs3
                      have hAt7 : Rg w b o d4 w7 := hAt6.rw hb r3 hw7
                      obtain ⟨hH7, hb7⟩ := hAt7.holds hH hs4 hb
                      by_cases h4 : mid - x' < y' - mid
                      · have h4z : (mid : Int) - (x' : Int) < (y' : Int) - (mid : Int) := by omega
                        have hih := ih b o c x' mid lim2 d4 w7 (by omega) hH7 hb7 (by omega) (by omega) (by omega) (by omega) r4
                        rw [hs4] at hih
                        go_wp2_with (go_at_call 38; refine hih.mono ?_; rintro e w8 ⟨rfl, dL, pL, sL, rL⟩)
                        go_roundg (y' - (mid + 1))
                        case measure => omega
                        case rel =>
                          refine ⟨mid + 1, y', lim2, decide (mid - x' ≥ (y' - x') / 8), ap, dL, by simp, rfl, rfl, ?_, rfl, by omega, by omega, Nat.le_refl _, by omega, by omega, pL.1.trans hs4, (R6.out _ pL sL).1, hAt7.rg hb pL.1 rL, hLead.step P3 (R6.out _ pL sL).2⟩
                          exact congrArg Value.bool (eighth (by omega) (by omega))
                      · have h4z : ¬ ((mid : Int) - (x' : Int) < (y' : Int) - (mid : Int)) := by omega
                        have hih := ih b o c (mid + 1) y' lim2 d4 w7 (by omega) hH7 hb7 (by omega) (by omega) (by omega) (by omega) r5
                        rw [hs4] at hih
                        go_wp2_with (go_at_call 38; refine hih.mono ?_; rintro e w8 ⟨rfl, dL, pL, sL, rL⟩)
                        go_roundg (mid - x')
                        case measure => omega
                        case rel =>
                          refine ⟨x', mid, lim2, decide (y' - mid ≥ (y' - x') / 8), ap, dL, rfl, rfl, rfl, ?_, rfl, by omega, by omega, Nat.le_refl _, by omega, by omega, pL.1.trans hs4, (R7.out _ pL sL).1, hAt7.rg hb pL.1 rL, hLead.step P3 (R7.out _ pL sL).2⟩
                          exact congrArg Value.bool (eighth (by omega) (by omega))
                    · have h87' := h87
                      simp only [Bool.and_eq_true, decide_eq_true_eq, Bool.not_eq_true'] at h87'
                      rw [HG.out, HG.out] at h87'
                      obtain ⟨mid, d4, hx⟩ : ∃ mid d4, partitionEqual ltInt d3 x' y' p2 = (mid, d4) := ⟨(partitionEqual ltInt d3 x' y' p2).1, (partitionEqual ltInt d3 x' y' p2).2, rfl⟩
                      obtain ⟨r1, r2, r3, r4, r5⟩ := round_eq swoI (partitionEqual_holds _) h87'.1 hp_1 hp_2 (show y' ≤ d3.size by omega) B3 h87'.2 hx
                      have hc21 := partitionEqual_any b o c x' y' p2 d3 _ hH6 hp_1 hp_2 (by omega) (by omega)
                      rw [hs3, hx] at hc21
                      have R5 := Lib.hid r5
                      clear hx h87' r5
                      have hs4 : d4.size = d.size := r3.trans hs3
                      go_wp2_with (go_at_call 47; refine hc21.mono ?_; rintro e w7 ⟨rfl, hw7⟩)
                      go_roundg (y' - mid)
                      case measure => omega
                      case rel =>
                        exact ⟨mid, y', lim2, wb, wp, d4, rfl, rfl, rfl, rfl, rfl, r2, hy', Nat.le_refl _, by omega, by omega, hs4, r4, hAt6.rw hb r3 hw7, hLead.step P3 R5.out⟩
end Go.Proofs.Ytlembnpplnbagaa.Lt
