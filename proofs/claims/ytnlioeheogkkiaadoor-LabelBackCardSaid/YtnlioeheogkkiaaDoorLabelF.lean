/- Walks: Of8 of package label and of its reference; OwnInts of the kit. -/
import Derived.Test.YtnlioeheogkkiaaDoorLabelE
namespace Go.Proofs.YtnlioeheogkkiaaDoor
open Go.RowKit
open Lb

theorem of8_any (s : ByteArray) (w : World) (hs : s.size ≤ maxLen) :
    Calls Tryd.prog 29 #[.string s] w fun e w' => e = .returned (.tuple #[.int .u64 (of8I s.data.toList).1, .int .i64 (of8I s.data.toList).2]) ∧ w = w' := by
  unfold maxLen at hs
  by_cases h8 : s.size = 8
  · have hx := Lib.hid (show of8I s.data.toList = (fold8 s.data.toList, 0) by unfold of8I; rw [if_pos (by rw [bytes_size]; exact h8)])
    have hb : ((s.size : Int) != 8) = false := by rw [h8]; rfl
    have H8 := Lib.hid h8
    have hlt8 : 8 ≤ s.size := by omega
    clear h8
    go_enter Tryd.func29, Tryd.ntmps29
    go_wp2
    go_loop [4, 9] (fun t i => ∃ k : Nat, k ≤ 8 ∧ i = .int .i64 k ∧ t = .int .u64 (fold8 (s.data.toList.take k))) (fun _ i => 8 - (intOf i).toNat)
    case atStart => exact ⟨0, by omega, rfl, rfl⟩
    case round =>
      obtain ⟨k, hk, rfl, rfl⟩ := hrel
      by_cases hlt : k < 8
      · have hks : k < s.size := by omega
        have hn := Lib.hid (show fold8 (s.data.toList.take (k + 1)) = bits .or .u64 (IntKind.u64.wrap (fold8 (s.data.toList.take k) * 256)) (IntKind.u64.wrap (s[k].toNat : Int)) by rw [bytes_take s k hks, fold8_snoc])
        go_wp2
        go_round
        case rel => exact ⟨k + 1, by omega, by go_num, by rw [hn.out]⟩
        case measure => simp [intOf]; omega
      · obtain rfl : k = 8 := by omega
        go_wp2
        go_ret2
        exact ⟨by rw [hx.out, List.take_of_length_le (by rw [bytes_size, H8.out]; exact Nat.le_refl _)]; rfl, rfl⟩
  · have hx := Lib.hid (show of8I s.data.toList = (0, 3) by unfold of8I; rw [if_neg (by rw [bytes_size]; exact h8)])
    have hb : ((s.size : Int) != 8) = true := by simp; omega
    clear h8
    go_enter Tryd.func29, Tryd.ntmps29
    go_wp2
    go_ret2
    exact ⟨by rw [hx.out]; rfl, rfl⟩
theorem refOf8_any (s : ByteArray) (w : World) (hs : s.size ≤ maxLen) :
    Calls Tryd.prog 30 #[.string s] w fun e w' => e = .returned (.tuple #[.int .u64 (of8I s.data.toList).1, .int .i64 (of8I s.data.toList).2]) ∧ w = w' := by
  unfold maxLen at hs
  by_cases h8 : s.size = 8
  · have hx := Lib.hid (show of8I s.data.toList = (fold8 s.data.toList, 0) by unfold of8I; rw [if_pos (by rw [bytes_size]; exact h8)])
    have hb : ((s.size : Int) != 8) = false := by rw [h8]; rfl
    have H8 := Lib.hid h8
    have hlt8 : 8 ≤ s.size := by omega
    clear h8
    go_enter Tryd.func30, Tryd.ntmps30
    go_wp2
    go_loop [4, 5] (fun t i => ∃ k : Nat, k ≤ 8 ∧ i = .int .i64 k ∧ t = .int .u64 (fold8 (s.data.toList.take k))) (fun _ i => 8 - (intOf i).toNat)
    case atStart => exact ⟨0, by omega, rfl, rfl⟩
    case round =>
      obtain ⟨k, hk, rfl, rfl⟩ := hrel
      by_cases hlt : k < 8
      · have hks : k < s.size := by omega
        have hn := Lib.hid (show fold8 (s.data.toList.take (k + 1)) = bits .or .u64 (IntKind.u64.wrap (fold8 (s.data.toList.take k) * 256)) (IntKind.u64.wrap (s[k].toNat : Int)) by rw [bytes_take s k hks, fold8_snoc])
        go_wp2
        go_round
        case rel => exact ⟨k + 1, by omega, by go_num, by rw [hn.out]⟩
        case measure => simp [intOf]; omega
      · obtain rfl : k = 8 := by omega
        go_wp2
        go_ret2
        exact ⟨by rw [hx.out, List.take_of_length_le (by rw [bytes_size, H8.out]; exact Nat.le_refl _)]; rfl, rfl⟩
  · have hx := Lib.hid (show of8I s.data.toList = (0, 3) by unfold of8I; rw [if_neg (by rw [bytes_size]; exact h8)])
    have hb : ((s.size : Int) != 8) = true := by simp; omega
    clear h8
    go_enter Tryd.func30, Tryd.ntmps30
    go_wp2
    go_ret2
    exact ⟨by rw [hx.out]; rfl, rfl⟩

theorem ownInts_any (v : Value) (l : List Int) (w : World) (h : Slc w v (vals .i64 l)) (hb : l.length * 8 ≤ 140737488355328) :
    Calls Tryd.prog 11 #[v] w fun e w' => OutSlc w (vals .i64 l) e w' := by
  obtain ⟨i0, hi, hz0, hz1, hz2⟩ := info_parts infoInt
  rcases h.split with ⟨rfl, hl⟩ | ⟨a, cap, rfl, hl, hc⟩
  · have HL := Lib.hid hl
    clear hl h
    have hown : Own1 w.heap.size 3 w [] (.slice (some ⟨w.heap.size, 0, none⟩) 0 0) (w.alloc (.cells #[] 3)) := Own1.made _ _ _ (by decide) rfl
    go_enter Tryd.func11, Tryd.ntmps11
    go_wp2_with (at_builtin; refine wpList_append_own_none rfl _ _ 23 rfl w.heap.size 3 i0 1 Tryd.underlying23 hi _ 0 [] rfl hown.1 rfl ?_)
    go_ret
    exact ⟨_, rfl, by rw [HL.out]; exact hown.slc, hown.2.1⟩
  · have hown : Own1 w.heap.size 3 w [] (.slice (some ⟨w.heap.size, 0, none⟩) 0 0) (w.alloc (.cells #[] 3)) := Own1.made _ _ _ (by decide) rfl
    have hc' : ∀ (i : Nat) (u : Value), (vals .i64 l)[i]? = some u → (w.alloc (.cells #[] 3)).cell? (a.add i) = some u := fun i u hu => by
      obtain ⟨h1, h2⟩ := hc i u hu
      exact ((Below.refl w.heap.size w).alloc (Nat.le_refl _) (.cells #[] 3)).cell (p := a.add i) (by rw [add_block]; exact h1) |>.trans h2
    clear hc h
    go_enter Tryd.func11, Tryd.ntmps11
    go_wp2_with (at_builtin; refine wpList_append_own _ rfl _ _ 23 rfl w.heap.size 3 i0 (.int .i64 0) 1 8 Tryd.underlying23 hi hz0 hz1 hz2 rfl (by decide) _ _ _ rfl hown.1 a (vals .i64 l).length cap (vals .i64 l) rfl (by simp) hc' (by simp [vals, Value.oneCell']) (by simpa using hl) (by rw [vals_length]; simp only [List.length_nil]; omega) (by have := hown.2.2; omega) ?_; intro v' w1 hown' hgrow hnil; clear hnil)
    go_ret
    exact ⟨v', rfl, by simpa using Slc.of_own hown', (hown.2.1.grown hgrow hown.2.2 (fun k hk => (hown.1.lt k hk).1))⟩
end Go.Proofs.YtnlioeheogkkiaaDoor
