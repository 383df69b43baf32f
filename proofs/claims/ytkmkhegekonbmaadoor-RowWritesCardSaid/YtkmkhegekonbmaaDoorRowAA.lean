/- Walks: the program's words as they are written. -/
import Derived.Test.YtkmkhegekonbmaaDoorRowT
import Derived.Deep.RegionLaw
import Derived.Laws.BitsAllLaws
namespace Go.Proofs.YtkmkhegekonbmaaDoor
open Go.RowKit
open Rw6

theorem esc_self {b : UInt8} (h : selfB b = true) : escB b = [b] := by
  have h2 := selfB_iff.1 h
  unfold escB
  rw [if_neg (fun e => e.elim (fun e => h2.2.1 ((u8_lit (n := 34) (by decide)).1 e)) (fun e => h2.2.2 ((u8_lit (n := 92) (by decide)).1 e))), if_pos h2.1]
theorem esc_mark {b : UInt8} (h : selfB b = false) (hp : printB b = true) : escB b = [92, b] := by
  have h2 : b = 34 ∨ b = 92 := by
    by_cases h3 : b = 34
    · exact .inl h3
    · by_cases h4 : b = 92
      · exact .inr h4
      · have : selfB b = true := selfB_iff.2 ⟨hp, fun e => h3 ((u8_lit (n := 34) (by decide)).2 e), fun e => h4 ((u8_lit (n := 92) (by decide)).2 e)⟩
        rw [this] at h; cases h
  unfold escB
  rw [if_pos h2]
theorem esc_hex {b : UInt8} (hp : printB b = false) : escB b = [92, 120, hexD (b.toNat / 16), hexD (b.toNat % 16)] := by
  have h2 : ¬ (b = 34 ∨ b = 92) := by
    rintro (rfl | rfl)
    · exact absurd hp (by decide)
    · exact absurd hp (by decide)
  unfold escB
  rw [if_neg h2, if_neg (by rw [hp]; decide)]
theorem dig_of : ∀ n : Fin 16, (⟨#[48, 49, 50, 51, 52, 53, 54, 55, 56, 57, 97, 98, 99, 100, 101, 102]⟩ : ByteArray)[n.val]'n.isLt = hexD n.val := by decide +kernel
theorem and15 (b : UInt8) : bits .and .u8 (b.toNat : Int) 15 = ((b.toNat % 16 : Nat) : Int) := by
  have h : ∀ n : Fin 256, bits .and .u8 (n.val : Int) 15 = ((n.val % 16 : Nat) : Int) := by decide +kernel
  exact h ⟨b.toNat, b.toNat_lt⟩
theorem cells_at {w : World} (us : List Value) (t : TypeId) : ∀ (j : Nat) (u : Value), us[j]? = some u → (w.alloc (.cells us.toArray t)).cell? ((⟨w.heap.size, 0, none⟩ : Addr).add j) = some u := blk_cells (Blk.is t rfl)
theorem own1_snocs {B m : Nat} {e te : TypeId} {w wr w1 : World} {us xs : List Value} {cs : Array Value} {v v1 : Value} (h : Own1 B e w us v wr) (hm : xs.length = m) (h1 : w1.ownsRow B e 1 v1 (us.length + m) (us ++ xs)) (hg : (wr.alloc (.cells cs te)).grownBy w1 v.ownBlock) : Own1 B e w (us ++ xs) v1 w1 := by
  have hb : Below B w w1 := (h.2.1.alloc h.2.2 _).grown hg (by have := h.2.2; simp; omega) (fun k hk => (h.1.lt k hk).1)
  refine ⟨by rw [List.length_append, hm]; exact h1, hb, Nat.le_trans h.2.2 ?_⟩
  have := hg.size
  simp at this
  omega
theorem bvals_app (a b : List UInt8) : bvals (a ++ b) = bvals a ++ bvals b := by simp [bvals]
set_option maxRecDepth 100000 in
set_option maxHeartbeats 4000000 in
theorem quotedW_any (s : ByteArray) (hs : s.size ≤ 100000) (w : World) :
    Calls Tryd.prog 39 #[.string s] w fun e w' => e = .returned (.string (strOf (wordW true s.data.toList))) ∧ Below w.heap.size w w' := by
  obtain ⟨i0, hi, hz0, hz1, hz2⟩ := info_parts infoByte6
  have hPl := fun b w => isPlain_any b w
  have hPr := fun b w => isPrinted_any b w
  go_enter Tryd.func39, Tryd.ntmps39
  go_wp2
  go_loopw [3, 9] (fun v i wr => ∃ k : Nat, k ≤ s.size ∧ i = .int .i64 (k : Int) ∧ Own1 w.heap.size 5 w (bvals (34 :: escL (s.data.toList.take k))) v wr) (fun _ i _ => s.size - (intOf i).toNat)
  case atStart =>
    refine ⟨0, Nat.zero_le _, rfl, ?_⟩
    have h1 := World.ownsRow_lit (size := 1) (base := w.heap.size) (e := 5) w #[.int .u8 34] 1 (Nat.le_refl _) (by unfold maxLen; omega) rfl
    exact ⟨h1, (Below.refl _ _).alloc (Nat.le_refl _) _, by simp⟩
  case round =>
    obtain ⟨k, hk, rfl, hown⟩ := hrel
    have hlen := take_len_le s k hs
    have hlb : (bvals (34 :: escL (s.data.toList.take k))).length = (escL (s.data.toList.take k)).length + 1 := by rw [bvals_length]; rfl
    by_cases hlt : k < s.size
    · have hlt' : (k : Int) < (s.size : Int) := by omega
      have hnx : escL (s.data.toList.take (k + 1)) = escL (s.data.toList.take k) ++ escB (s[k]'hlt) := by rw [byte_at s k hlt, escL_snoc]
      obtain ⟨b, hbe⟩ : ∃ b, b = s[k]'hlt := ⟨_, rfl⟩
      have hbz : ((s[k]'hlt).toNat : Int) = (b.toNat : Int) := by rw [hbe]
      have hPlk := fun w => hPl b w
      have hPrk := fun w => hPr b w
      rw [← hbe] at hnx
      obtain ⟨us, hus⟩ : ∃ us, us = bvals (34 :: escL (s.data.toList.take k)) := ⟨_, rfl⟩
      have hnb : bvals (34 :: escL (s.data.toList.take (k + 1))) = us ++ bvals (escB b) := by rw [hus, hnx, ← bvals_app]; rfl
      rw [← hus] at hown hlb
      have HNB := Lib.hid hnb
      have HLB := Lib.hid hlb
      obtain ⟨p, hp⟩ : ∃ p, p = selfB b := ⟨_, rfl⟩
      obtain ⟨q, hq⟩ : ∃ q, q = printB b := ⟨_, rfl⟩
      rw [← hp] at hPlk
      rw [← hq] at hPrk
      have HP := Lib.hid hp.symm
      have HQ := Lib.hid hq.symm
      clear hbe hnx hus hnb hlb hp hq hPl hPr
      cases p with
      | true =>
        have e1 := Lib.hid (esc_self HP.out)
        go_wp2_with (first | (go_at_call 51; refine (hPlk _).mono ?_; rintro e w' ⟨rfl, rfl⟩) | (at_builtin; refine wpList_append_own _ rfl _ _ 59 rfl w.heap.size 5 i0 (.int .u8 0) 1 1 Tryd.underlying59 hi hz0 hz1 hz2 rfl (by decide) _ _ _ rfl (hown.1.alloc _) ⟨wr.heap.size, 0, none⟩ 1 1 (bvals [b]) rfl rfl (cells_at (bvals [b]) _) (by simp [bvals, Value.oneCell']) (by have := HLB.out; unfold maxLen; omega) (by have := HLB.out; omega) (by have := hown.2.2; simp; omega) ?_; intro v' w1 hown' hgrow _; have hO2 := Lib.hid (own1_snocs hown rfl hown' hgrow)))
        go_roundw
        case rel => exact ⟨k + 1, by omega, by go_num, by rw [HNB.out, e1.out]; exact hO2.out⟩
        case measure => simp [intOf]; omega
      | false =>
        cases q with
        | true =>
          have e1 := Lib.hid (esc_mark HP.out HQ.out)
          go_wp2_with (first | (go_at_call 51; refine (hPlk _).mono ?_; rintro e w' ⟨rfl, rfl⟩) | (go_at_call 57; refine (hPrk _).mono ?_; rintro e w' ⟨rfl, rfl⟩) | (at_builtin; refine wpList_append_own _ rfl _ _ 59 rfl w.heap.size 5 i0 (.int .u8 0) 1 1 Tryd.underlying59 hi hz0 hz1 hz2 rfl (by decide) _ _ _ rfl (hown.1.alloc _) ⟨wr.heap.size, 0, none⟩ 2 2 (bvals [92, b]) rfl rfl (cells_at (bvals [92, b]) _) (by simp [bvals, Value.oneCell']) (by have := HLB.out; unfold maxLen; omega) (by have := HLB.out; omega) (by have := hown.2.2; simp; omega) ?_; intro v' w1 hown' hgrow _; have hO2 := Lib.hid (own1_snocs hown rfl hown' hgrow)))
          go_roundw
          case rel => exact ⟨k + 1, by omega, by go_num, by rw [HNB.out, e1.out]; exact hO2.out⟩
          case measure => simp [intOf]; omega
        | false =>
          have e1 := Lib.hid (esc_hex HQ.out)
          have hb16 : b.toNat / 16 < 16 := by have := b.toNat_lt; omega
          have hl16 : b.toNat % 16 < 16 := by omega
          have ha := and15 b
          have g1 : (0 : Int) ≤ (b.toNat : Int) / 16 := by omega
          have g2 : (b.toNat : Int) / 16 < 16 := by omega
          have g3 : (0 : Int) ≤ (b.toNat : Int) % 16 := by omega
          have g4 : (b.toNat : Int) % 16 < 16 := by omega
          have hd1 : ∀ h, (⟨#[48, 49, 50, 51, 52, 53, 54, 55, 56, 57, 97, 98, 99, 100, 101, 102]⟩ : ByteArray)[((b.toNat : Int) / 16).toNat]'h = hexD (b.toNat / 16) := fun h => by
            have e : ((b.toNat : Int) / 16).toNat = b.toNat / 16 := by omega
            simp only [e]
            exact dig_of ⟨b.toNat / 16, hb16⟩
          have hd2 : ∀ h, (⟨#[48, 49, 50, 51, 52, 53, 54, 55, 56, 57, 97, 98, 99, 100, 101, 102]⟩ : ByteArray)[((b.toNat : Int) % 16).toNat]'h = hexD (b.toNat % 16) := fun h => by
            have e : ((b.toNat : Int) % 16).toNat = b.toNat % 16 := by omega
            simp only [e]
            exact dig_of ⟨b.toNat % 16, hl16⟩
          go_wp2_with (first | (go_at_call 51; refine (hPlk _).mono ?_; rintro e w' ⟨rfl, rfl⟩) | (go_at_call 57; refine (hPrk _).mono ?_; rintro e w' ⟨rfl, rfl⟩))
          go_region_law (go_loud (refine step_append_lies _ rfl _ _ 59 rfl w.heap.size 5 i0 (.int .u8 0) 1 1 Tryd.underlying59 hi hz0 hz1 hz2 rfl (by decide) _ _ _ rfl (hown.1.drew.alloc _) ⟨wr.heap.size, 0, none⟩ 4 4 (bvals [92, 120, hexD (b.toNat / 16), hexD (b.toNat % 16)]) rfl rfl (cells_at (w := wr.drew) (bvals [92, 120, hexD (b.toNat / 16), hexD (b.toNat % 16)]) _) (by simp [bvals, Value.oneCell']) (by decide) (by have := HLB.out; unfold maxLen; omega) (by have := HLB.out; omega) (by have := hown.2.2; simp; omega) _ rfl ?_; intro g cap w1 hown' hgrow _ _))
          all_goals
            have hO2 := Lib.hid (own1_snocs (wr := wr.drew) ⟨hown.1.drew, hown.2.1.drew, hown.2.2⟩ (m := 4) rfl hown' hgrow)
            go_wp2
            go_roundw
            case rel => exact ⟨k + 1, by omega, by go_num, by rw [HNB.out, e1.out]; exact hO2.out⟩
            case measure => simp [intOf]; omega
    · have hkz : k = s.size := by omega
      have hall : s.data.toList.take k = s.data.toList := List.take_of_length_le (by rw [bytes_size]; omega)
      rw [hall] at hown hlen hlb
      have hi' : ¬ (k : Int) < (s.size : Int) := by omega
      have HLB := Lib.hid hlb
      have hfin := Lib.hid (show bvals (34 :: escL s.data.toList) ++ bvals [34] = bvals (wordW true s.data.toList) by rw [← bvals_app]; rfl)
      obtain ⟨us, hus⟩ : ∃ us, us = bvals (34 :: escL s.data.toList) := ⟨_, rfl⟩
      rw [← hus] at hown
      have HUS := Lib.hid hus
      clear hkz hall hlb hPl hPr hus hlt
      go_wp2_with (at_builtin; refine wpList_append_own _ rfl _ _ 59 rfl w.heap.size 5 i0 (.int .u8 0) 1 1 Tryd.underlying59 hi hz0 hz1 hz2 rfl (by decide) _ _ _ rfl (hown.1.alloc _) ⟨wr.heap.size, 0, none⟩ 1 1 (bvals [34]) rfl rfl (cells_at (bvals [34]) _) (by simp [bvals, Value.oneCell']) (by have := HLB.out; rw [HUS.out]; unfold maxLen; omega) (by have := HLB.out; rw [HUS.out]; omega) (by have := hown.2.2; simp; omega) ?_; intro v' w1 hown' hgrow _; have hO2 := own1_snocs hown rfl hown' hgrow; rw [HUS.out, hfin.out] at hO2; have hcv := conv_any Tryd.underlying59 Tryd.underlying5 Tryd.underlying9 hO2.slc; have HO2 := Lib.hid hO2; clear hO2 hown' hgrow)
      go_ret
      exact ⟨rfl, HO2.out.2.1⟩
/-- A word as the program writes it. -/
theorem word_is (q : Bool) (s : ByteArray) (a : Int) (hs : s.size ≤ 100000) (w : World) :
    Calls Tryd.prog 15 #[wordV q s a] w fun e w' => e = .returned (.tuple #[.string (strOf (wordG q s.data.toList).1), .int .i64 (wordG q s.data.toList).2]) ∧ Below w.heap.size w w' := by
  cases q with
  | true =>
    have hQ := fun w => quotedW_any s hs w
    unfold wordG wordV
    rw [if_pos rfl]
    simp only
    go_enter Tryd.func15, Tryd.ntmps15
    go_wp2_with (go_at_call 39; refine (hQ _).mono ?_; rintro e w' ⟨rfl, hb⟩)
    go_ret2
    exact ⟨rfl, ((Below.refl _ _).alloc (Nat.le_refl _) _).trans (hb.mono (by simp))⟩
  | false =>
    have hB := fun w => bare_any s hs w
    have hl : strOf s.data.toList = s := (str_is rfl).symm
    unfold wordG wordV
    rw [if_neg (by decide)]
    obtain ⟨b, hb⟩ : ∃ b, b = bareB s.data.toList := ⟨_, rfl⟩
    rw [← hb] at hB ⊢
    clear hb
    cases b with
    | true =>
      rw [if_pos rfl]
      simp only [hl]
      clear hl
      go_enter Tryd.func15, Tryd.ntmps15
      go_wp2_with (go_at_call 29; refine (hB _).mono ?_; rintro e w' ⟨rfl, rfl⟩)
      go_ret2
      exact ⟨rfl, (Below.refl _ _).alloc (Nat.le_refl _) _⟩
    | false =>
      rw [if_neg (by decide)]
      clear hl
      go_enter Tryd.func15, Tryd.ntmps15
      go_wp2_with (go_at_call 29; refine (hB _).mono ?_; rintro e w' ⟨rfl, rfl⟩)
      go_ret2
      exact ⟨rfl, (Below.refl _ _).alloc (Nat.le_refl _) _⟩
end Go.Proofs.YtkmkhegekonbmaaDoor
