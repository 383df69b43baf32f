/- Walk: how the document puts a label into an ascending list. -/
import Derived.Test.YtlembnpplnbagaaLatF
namespace Go.Proofs.Ytlembnpplnbagaa.Lt
open Go.RowKit

/-- Nil, or a slice at a plain address with room for its length. -/
def Slk (w : World) (v : Value) (us : List Value) : Prop := (v = .slice none 0 0 ∧ us = []) ∨ Sln w v us
theorem plain_add (b o i : Nat) : (⟨b, o, none⟩ : Addr).add i = ⟨b, o + i, none⟩ := by unfold Addr.add; split <;> simp_all
theorem sln_of_own {w : World} {base n : Nat} {e : TypeId} {v : Value} {us : List Value} (h : w.ownsRow base e 1 v n us) (hne : v ≠ .slice none 0 0) : Sln w v us := by
  have hl : us.length = n := by have := h.1; omega
  have h2 := h.2
  rcases h2 with ⟨hv, _⟩ | ⟨g, cap, cur, hv, _, hgb, hnc, hcm, _⟩
  · exact absurd hv hne
  · subst hv
    refine ⟨g, 0, cap, by rw [hl], by omega, by omega, (Array.getElem?_eq_some_iff.1 hgb).1, fun i u hu => ?_⟩
    have hx := h.cells (g := g) rfl i u hu
    rw [Nat.zero_add]
    rw [plain_add, Nat.zero_add] at hx
    exact hx
set_option maxRecDepth 100000 in
set_option maxHeartbeats 4000000 in
theorem refPut_some {w : World} {v : Value} {l : List Nat} (x : Nat) (h : Sln w v (lv l)) (hx : x < 18446744073709551616) (hb : l.length ≤ 1000) :
    Calls Try.prog 28 #[v, .int .u64 (x : Int)] w fun e w' => ∃ v', e = .returned v' ∧ Slk w' v' (lv (ins l x)) ∧ Below w.heap.size w w' := by
  obtain ⟨i0, hi, hz0, hz1, hz2⟩ := info_parts infoU64
  have HS := Lib.hid h
  obtain ⟨b, o, cap, rfl, hcap, hmx, hbl, hc⟩ := h
  rw [lv_length] at hcap hmx HS ⊢
  have HC := Lib.hid hc
  have hcl : ∀ (k : Nat) (hk : k < l.length), w.cell? ⟨b, o + k, none⟩ = some (.int .u64 (l[k] : Int)) := fun k hk => hc k _ (by unfold lv; rw [List.getElem?_map, List.getElem?_eq_getElem hk]; rfl)
  have HCL := Lib.hid hcl
  clear hc hcl
  go_enter Try.func28, Try.ntmps28
  go_wp2
  go_loop [5] (fun i => ∃ k : Nat, k ≤ l.length ∧ i = .int .i64 (k : Int) ∧ ∀ (j : Nat) (hl : j < l.length), j < k → l[j] < x) (fun i => l.length - (intOf i).toNat)
  case atStart => exact ⟨0, Nat.zero_le _, rfl, fun _ _ h => by omega⟩
  case round =>
    obtain ⟨k, hk, rfl, hlo⟩ := hrel
    have HL := Lib.hid hlo
    clear hlo
    have hk0 : (0 : Int) ≤ (k : Int) := by omega
    have hk2 : (k : Int) ≤ (l.length : Int) := by omega
    have hk3 : (k : Int) ≤ (cap : Int) := by omega
    by_cases hlt : k < l.length
    · have hcell := HCL.out k hlt
      have hk1 : (k : Int) < (l.length : Int) := by omega
      obtain ⟨y, hy⟩ : ∃ y, y = l[k] := ⟨_, rfl⟩
      rw [← hy] at hcell
      by_cases hyx : y < x
      · have hlt2 : (y : Int) < (x : Int) := by omega
        have hn := Lib.hid (show ∀ (j : Nat) (hl : j < l.length), j < k + 1 → l[j] < x from fun j hl hj => by
          by_cases e : j < k
          · exact HL.out j hl e
          · obtain rfl : j = k := by omega
            rw [← hy]; exact hyx)
        clear hy
        go_wp2
        go_round
        case rel => exact ⟨k + 1, by omega, by go_num, hn.out⟩
        case measure => simp [intOf]; omega
      · have hlt2 : ¬ (y : Int) < (x : Int) := by omega
        by_cases e : y = x
        · have hr := Lib.hid (show ins l x = l from ins_same x l k hlt HL.out (by rw [← hy]; exact e))
          subst e
          clear hy
          go_wp2
          go_ret
          exact ⟨_, rfl, by rw [hr.out]; exact .inr HS.out, Below.refl _ _⟩
        · have hr := Lib.hid (show ins l x = l.take k ++ x :: l.drop k from ins_at x l k (by omega) HL.out (fun hl => by rw [← hy]; omega))
          have he : ((y : Int) == (x : Int)) = false := beq_eq_false_iff_ne.2 (by omega)
          have he2 : ¬ (y : Int) = (x : Int) := by omega
          clear hy e hyx
          have hown0 : Own1 w.heap.size 23 w [] (.slice (some ⟨w.heap.size, 0, none⟩) 0 0) (w.alloc (.cells #[] 23)) := Own1.made _ _ _ (by decide) rfl
          have hc1 : ∀ (i : Nat) (u : Value), (lv (l.take k))[i]? = some u → (w.alloc (.cells #[] 23)).cell? ((⟨b, o, none⟩ : Addr).add i) = some u := fun i u hu => by
            have hi : i < k := by have := (List.getElem?_eq_some_iff.1 hu).1; rw [lv_length, List.length_take] at this; omega
            have e : (lv l)[i]? = some u := by rw [← hu]; unfold lv; rw [List.getElem?_map, List.getElem?_map, List.getElem?_take_of_lt hi]
            rw [plain_add]
            exact (((Below.refl w.heap.size w).alloc (Nat.le_refl _) (.cells #[] 23)).cell (p := ⟨b, o + i, none⟩) hbl).trans (HC.out i u e)
          have hc3 : ∀ (W : World), Below w.heap.size w W → ∀ (i : Nat) (u : Value), (lv (l.drop k))[i]? = some u → W.cell? ((⟨b, o + k, none⟩ : Addr).add i) = some u := fun W hW i u hu => by
            have e : (lv l)[k + i]? = some u := by rw [← hu]; unfold lv; rw [List.getElem?_map, List.getElem?_map, List.getElem?_drop]
            rw [plain_add, Nat.add_assoc]
            exact (hW.cell (p := ⟨b, o + (k + i), none⟩) hbl).trans (HC.out (k + i) u e)
          have HC3 := Lib.hid hc3
          have htk : (lv (l.take k)).length = k := by rw [lv_length, List.length_take]; omega
          have hdr : (lv (l.drop k)).length = (l.length - k) := by rw [lv_length, List.length_drop]
          have h1c : ∀ (m : List Nat), ∀ u ∈ lv m, u.oneCell' = true := fun m u hu => by
            obtain ⟨z, _, rfl⟩ := List.mem_map.1 hu
            rfl
          have hb1 : ([] : List Value).length + k ≤ maxLen := by rw [List.length_nil]; unfold maxLen; omega
          have hb2 : (([] : List Value).length + k) * 8 ≤ 140737488355328 := by rw [List.length_nil]; omega
          have hb3 : (lv (l.take k)).length + 1 ≤ maxLen := by rw [htk]; unfold maxLen; omega
          have hb4 : ((lv (l.take k)).length + 1) * 8 ≤ 140737488355328 := by rw [htk]; omega
          have hb5 : (lv (l.take k) ++ [Value.int .u64 (x : Int)]).length + (l.length - k) ≤ maxLen := by rw [List.length_append, htk, List.length_singleton]; unfold maxLen; omega
          have hb6 : ((lv (l.take k) ++ [Value.int .u64 (x : Int)]).length + (l.length - k)) * 8 ≤ 140737488355328 := by rw [List.length_append, htk, List.length_singleton]; omega
          have HK := Lib.hid hk
          clear hc3
          go_wp2_with (first
            | (at_builtin; refine wpList_append_own _ rfl _ _ 22 rfl w.heap.size 23 i0 (.int .u64 0) 1 8 Try.underlying22 hi hz0 hz1 hz2 rfl (by decide) _ _ _ rfl hown0.1 ⟨b, o, none⟩ k cap (lv (l.take k)) rfl (by rw [htk, Nat.mul_one]) hc1 (h1c _) hb1 hb2 (by have := hown0.2.2; omega) ?_; intro v1 w1 hown' hgrow hnil; have nn1 : v1 ≠ .slice none 0 0 := (fun h => by have h2 := (hnil.1 h).1; cases h2); clear hnil; have hown1 := own1_more hown0 (by simpa using hown') htk hgrow; clear hown' hgrow hown0 hc1)
            | (at_builtin; refine wpList_append_own _ rfl _ _ 22 rfl w.heap.size 23 i0 (.int .u64 0) 1 8 Try.underlying22 hi hz0 hz1 hz2 rfl (by decide) _ _ _ rfl (hown1.1.alloc _) ⟨w1.heap.size, 0, none⟩ 1 1 [.int .u64 (x : Int)] rfl rfl (cell_one_new _ _ _) (by simp [Value.oneCell']) hb3 hb4 (by have := hown1.2.2; simp; omega) ?_; intro v2 w2 hown' hgrow hnil; have nn2 : v2 ≠ .slice none 0 0 := (fun h => nn1 (hnil.1 h).1); clear hnil; have hown2 := hown1.snoc hown' hgrow; clear hown' hgrow hown1)
            | (at_builtin; refine wpList_append_own _ rfl _ _ 22 rfl w.heap.size 23 i0 (.int .u64 0) 1 8 Try.underlying22 hi hz0 hz1 hz2 rfl (by decide) _ _ _ rfl hown2.1 ⟨b, o + k, none⟩ (l.length - k) (cap - k) (lv (l.drop k)) rfl (by rw [hdr, Nat.mul_one]) (HC3.out _ hown2.2.1) (h1c _) hb5 hb6 (by have := hown2.2.2; omega) ?_; intro v3 w3 hown' hgrow hnil; have nn3 : v3 ≠ .slice none 0 0 := (fun h => nn2 (hnil.1 h).1); clear hnil; have hown3 := own1_more hown2 hown' hdr hgrow; clear hown' hgrow))
          go_ret
          refine ⟨v3, rfl, .inr ?_, hown3.2.1⟩
          rw [hr.out, lv_append, show lv (x :: l.drop k) = [Value.int .u64 (x : Int)] ++ lv (l.drop k) from rfl, ← List.append_assoc]
          exact sln_of_own hown3.1 nn3
    · have hk1 : ¬ (k : Int) < (l.length : Int) := by omega
      have hr := Lib.hid (show ins l x = l.take k ++ x :: l.drop k from ins_at x l k (by omega) (fun j hl _ => HL.out j hl (by omega)) (fun hl => by omega))
      by_cases hck : k = cap
      · subst hck
        have HC4 := Lib.hid (show ∀ (W : World) (i : Nat) (u : Value), (lv (l.drop k))[i]? = some u → W.cell? ((⟨b, o, none⟩ : Addr).add i) = some u from fun W i u hu => by rw [List.drop_of_length_le (by omega)] at hu; cases hu)
        have hown0 : Own1 w.heap.size 23 w [] (.slice (some ⟨w.heap.size, 0, none⟩) 0 0) (w.alloc (.cells #[] 23)) := Own1.made _ _ _ (by decide) rfl
        have hc1 : ∀ (i : Nat) (u : Value), (lv (l.take k))[i]? = some u → (w.alloc (.cells #[] 23)).cell? ((⟨b, o, none⟩ : Addr).add i) = some u := fun i u hu => by
          have hi : i < k := by have := (List.getElem?_eq_some_iff.1 hu).1; rw [lv_length, List.length_take] at this; omega
          have e : (lv l)[i]? = some u := by rw [← hu]; unfold lv; rw [List.getElem?_map, List.getElem?_map, List.getElem?_take_of_lt hi]
          rw [plain_add]
          exact (((Below.refl w.heap.size w).alloc (Nat.le_refl _) (.cells #[] 23)).cell (p := ⟨b, o + i, none⟩) hbl).trans (HC.out i u e)
        have hc3 : ∀ (W : World), Below w.heap.size w W → ∀ (i : Nat) (u : Value), (lv (l.drop k))[i]? = some u → W.cell? ((⟨b, o + k, none⟩ : Addr).add i) = some u := fun W hW i u hu => by
          have e : (lv l)[k + i]? = some u := by rw [← hu]; unfold lv; rw [List.getElem?_map, List.getElem?_map, List.getElem?_drop]
          rw [plain_add, Nat.add_assoc]
          exact (hW.cell (p := ⟨b, o + (k + i), none⟩) hbl).trans (HC.out (k + i) u e)
        have HC3 := Lib.hid hc3
        have htk : (lv (l.take k)).length = k := by rw [lv_length, List.length_take]; omega
        have hdr : (lv (l.drop k)).length = 0 := by rw [lv_length, List.length_drop]; omega
        have h1c : ∀ (m : List Nat), ∀ u ∈ lv m, u.oneCell' = true := fun m u hu => by
          obtain ⟨z, _, rfl⟩ := List.mem_map.1 hu
          rfl
        have hb1 : ([] : List Value).length + k ≤ maxLen := by rw [List.length_nil]; unfold maxLen; omega
        have hb2 : (([] : List Value).length + k) * 8 ≤ 140737488355328 := by rw [List.length_nil]; omega
        have hb3 : (lv (l.take k)).length + 1 ≤ maxLen := by rw [htk]; unfold maxLen; omega
        have hb4 : ((lv (l.take k)).length + 1) * 8 ≤ 140737488355328 := by rw [htk]; omega
        have hb5 : (lv (l.take k) ++ [Value.int .u64 (x : Int)]).length + 0 ≤ maxLen := by rw [List.length_append, htk, List.length_singleton]; unfold maxLen; omega
        have hb6 : ((lv (l.take k) ++ [Value.int .u64 (x : Int)]).length + 0) * 8 ≤ 140737488355328 := by rw [List.length_append, htk, List.length_singleton]; omega
        have HK := Lib.hid hk
        clear hc3
        go_wp2_with (first
          | (at_builtin; refine wpList_append_own _ rfl _ _ 22 rfl w.heap.size 23 i0 (.int .u64 0) 1 8 Try.underlying22 hi hz0 hz1 hz2 rfl (by decide) _ _ _ rfl hown0.1 ⟨b, o, none⟩ k k (lv (l.take k)) rfl (by rw [htk, Nat.mul_one]) hc1 (h1c _) hb1 hb2 (by have := hown0.2.2; omega) ?_; intro v1 w1 hown' hgrow hnil; have nn1 : v1 ≠ .slice none 0 0 := (fun h => by have h2 := (hnil.1 h).1; cases h2); clear hnil; have hown1 := own1_more hown0 (by simpa using hown') htk hgrow; clear hown' hgrow hown0 hc1)
          | (at_builtin; refine wpList_append_own _ rfl _ _ 22 rfl w.heap.size 23 i0 (.int .u64 0) 1 8 Try.underlying22 hi hz0 hz1 hz2 rfl (by decide) _ _ _ rfl (hown1.1.alloc _) ⟨w1.heap.size, 0, none⟩ 1 1 [.int .u64 (x : Int)] rfl rfl (cell_one_new _ _ _) (by simp [Value.oneCell']) hb3 hb4 (by have := hown1.2.2; simp; omega) ?_; intro v2 w2 hown' hgrow hnil; have nn2 : v2 ≠ .slice none 0 0 := (fun h => nn1 (hnil.1 h).1); clear hnil; have hown2 := hown1.snoc hown' hgrow; clear hown' hgrow hown1)
          | (at_builtin; refine wpList_append_own _ rfl _ _ 22 rfl w.heap.size 23 i0 (.int .u64 0) 1 8 Try.underlying22 hi hz0 hz1 hz2 rfl (by decide) _ _ _ rfl hown2.1 ⟨b, o, none⟩ 0 0 (lv (l.drop k)) rfl (by rw [hdr, Nat.mul_one]) (HC4.out w2) (h1c _) hb5 hb6 (by have := hown2.2.2; omega) ?_; intro v3 w3 hown' hgrow hnil; have nn3 : v3 ≠ .slice none 0 0 := (fun h => nn2 (hnil.1 h).1); clear hnil; have hown3 := own1_more hown2 hown' hdr hgrow; clear hown' hgrow))
        go_ret
        refine ⟨v3, rfl, .inr ?_, hown3.2.1⟩
        rw [hr.out, lv_append, show lv (x :: l.drop k) = [Value.int .u64 (x : Int)] ++ lv (l.drop k) from rfl, ← List.append_assoc]
        exact sln_of_own hown3.1 nn3
      · have hck2 : ¬ cap = k := fun e => hck e.symm
        have hown0 : Own1 w.heap.size 23 w [] (.slice (some ⟨w.heap.size, 0, none⟩) 0 0) (w.alloc (.cells #[] 23)) := Own1.made _ _ _ (by decide) rfl
        have hc1 : ∀ (i : Nat) (u : Value), (lv (l.take k))[i]? = some u → (w.alloc (.cells #[] 23)).cell? ((⟨b, o, none⟩ : Addr).add i) = some u := fun i u hu => by
          have hi : i < k := by have := (List.getElem?_eq_some_iff.1 hu).1; rw [lv_length, List.length_take] at this; omega
          have e : (lv l)[i]? = some u := by rw [← hu]; unfold lv; rw [List.getElem?_map, List.getElem?_map, List.getElem?_take_of_lt hi]
          rw [plain_add]
          exact (((Below.refl w.heap.size w).alloc (Nat.le_refl _) (.cells #[] 23)).cell (p := ⟨b, o + i, none⟩) hbl).trans (HC.out i u e)
        have hc3 : ∀ (W : World), Below w.heap.size w W → ∀ (i : Nat) (u : Value), (lv (l.drop k))[i]? = some u → W.cell? ((⟨b, o + k, none⟩ : Addr).add i) = some u := fun W hW i u hu => by
          have e : (lv l)[k + i]? = some u := by rw [← hu]; unfold lv; rw [List.getElem?_map, List.getElem?_map, List.getElem?_drop]
          rw [plain_add, Nat.add_assoc]
          exact (hW.cell (p := ⟨b, o + (k + i), none⟩) hbl).trans (HC.out (k + i) u e)
        have HC3 := Lib.hid hc3
        have htk : (lv (l.take k)).length = k := by rw [lv_length, List.length_take]; omega
        have hdr : (lv (l.drop k)).length = (l.length - k) := by rw [lv_length, List.length_drop]
        have h1c : ∀ (m : List Nat), ∀ u ∈ lv m, u.oneCell' = true := fun m u hu => by
          obtain ⟨z, _, rfl⟩ := List.mem_map.1 hu
          rfl
        have hb1 : ([] : List Value).length + k ≤ maxLen := by rw [List.length_nil]; unfold maxLen; omega
        have hb2 : (([] : List Value).length + k) * 8 ≤ 140737488355328 := by rw [List.length_nil]; omega
        have hb3 : (lv (l.take k)).length + 1 ≤ maxLen := by rw [htk]; unfold maxLen; omega
        have hb4 : ((lv (l.take k)).length + 1) * 8 ≤ 140737488355328 := by rw [htk]; omega
        have hb5 : (lv (l.take k) ++ [Value.int .u64 (x : Int)]).length + (l.length - k) ≤ maxLen := by rw [List.length_append, htk, List.length_singleton]; unfold maxLen; omega
        have hb6 : ((lv (l.take k) ++ [Value.int .u64 (x : Int)]).length + (l.length - k)) * 8 ≤ 140737488355328 := by rw [List.length_append, htk, List.length_singleton]; omega
        have HK := Lib.hid hk
        clear hc3
        go_wp2_with (first
          | (at_builtin; refine wpList_append_own _ rfl _ _ 22 rfl w.heap.size 23 i0 (.int .u64 0) 1 8 Try.underlying22 hi hz0 hz1 hz2 rfl (by decide) _ _ _ rfl hown0.1 ⟨b, o, none⟩ k cap (lv (l.take k)) rfl (by rw [htk, Nat.mul_one]) hc1 (h1c _) hb1 hb2 (by have := hown0.2.2; omega) ?_; intro v1 w1 hown' hgrow hnil; have nn1 : v1 ≠ .slice none 0 0 := (fun h => by have h2 := (hnil.1 h).1; cases h2); clear hnil; have hown1 := own1_more hown0 (by simpa using hown') htk hgrow; clear hown' hgrow hown0 hc1)
          | (at_builtin; refine wpList_append_own _ rfl _ _ 22 rfl w.heap.size 23 i0 (.int .u64 0) 1 8 Try.underlying22 hi hz0 hz1 hz2 rfl (by decide) _ _ _ rfl (hown1.1.alloc _) ⟨w1.heap.size, 0, none⟩ 1 1 [.int .u64 (x : Int)] rfl rfl (cell_one_new _ _ _) (by simp [Value.oneCell']) hb3 hb4 (by have := hown1.2.2; simp; omega) ?_; intro v2 w2 hown' hgrow hnil; have nn2 : v2 ≠ .slice none 0 0 := (fun h => nn1 (hnil.1 h).1); clear hnil; have hown2 := hown1.snoc hown' hgrow; clear hown' hgrow hown1)
          | (at_builtin; refine wpList_append_own _ rfl _ _ 22 rfl w.heap.size 23 i0 (.int .u64 0) 1 8 Try.underlying22 hi hz0 hz1 hz2 rfl (by decide) _ _ _ rfl hown2.1 ⟨b, o + k, none⟩ (l.length - k) (cap - k) (lv (l.drop k)) rfl (by rw [hdr, Nat.mul_one]) (HC3.out _ hown2.2.1) (h1c _) hb5 hb6 (by have := hown2.2.2; omega) ?_; intro v3 w3 hown' hgrow hnil; have nn3 : v3 ≠ .slice none 0 0 := (fun h => nn2 (hnil.1 h).1); clear hnil; have hown3 := own1_more hown2 hown' hdr hgrow; clear hown' hgrow))
        go_ret
        refine ⟨v3, rfl, .inr ?_, hown3.2.1⟩
        rw [hr.out, lv_append, show lv (x :: l.drop k) = [Value.int .u64 (x : Int)] ++ lv (l.drop k) from rfl, ← List.append_assoc]
        exact sln_of_own hown3.1 nn3
set_option maxRecDepth 100000 in
set_option maxHeartbeats 4000000 in
theorem refPut_none (x : Nat) (w : World) :
    Calls Try.prog 28 #[.slice none 0 0, .int .u64 (x : Int)] w fun e w' => ∃ v', e = .returned v' ∧ Slk w' v' (lv [x]) ∧ Below w.heap.size w w' := by
  obtain ⟨i0, hi, hz0, hz1, hz2⟩ := info_parts infoU64
  go_enter Try.func28, Try.ntmps28
  go_wp2
  go_loop [5] (fun i => i = .int .i64 0) (fun i => (intOf i).toNat)
  case atStart => rfl
  case round =>
    subst hrel
    have hown0 : Own1 w.heap.size 23 w [] (.slice (some ⟨w.heap.size, 0, none⟩) 0 0) (w.alloc (.cells #[] 23)) := Own1.made _ _ _ (by decide) rfl
    go_wp2_with (first
      | (at_builtin; refine wpList_append_own_none rfl _ _ 22 rfl w.heap.size 23 i0 1 Try.underlying22 hi _ 0 [] rfl hown0.1 rfl ?_)
      | (at_builtin; refine wpList_append_own _ rfl _ _ 22 rfl w.heap.size 23 i0 (.int .u64 0) 1 8 Try.underlying22 hi hz0 hz1 hz2 rfl (by decide) _ _ _ rfl (hown0.1.alloc _) ⟨w.heap.size + 1, 0, none⟩ 1 1 [.int .u64 (x : Int)] rfl rfl (by have := cell_one_new (w.alloc (.cells #[] 23)) (.int .u64 (x : Int)) 23; simpa using this) (by simp [Value.oneCell']) (by unfold maxLen; decide) (by decide) (by simp; omega) ?_; intro v2 w2 hown' hgrow hnil; have nn2 : v2 ≠ .slice none 0 0 := (fun h => by have h2 := (hnil.1 h).1; cases h2); clear hnil; have hown2 := hown0.snoc hown' hgrow; clear hown' hgrow hown0)
      | (at_builtin; refine wpList_append_own_none rfl _ _ 22 rfl w.heap.size 23 i0 1 Try.underlying22 hi _ 1 [.int .u64 (x : Int)] rfl hown2.1 rfl ?_))
    go_ret
    exact ⟨v2, rfl, .inr (sln_of_own hown2.1 nn2), hown2.2.1⟩
theorem refPut_any {w : World} {v : Value} {l : List Nat} (x : Nat) (h : Slk w v (lv l)) (hx : x < 18446744073709551616) (hb : l.length ≤ 1000) :
    Calls Try.prog 28 #[v, .int .u64 (x : Int)] w fun e w' => ∃ v', e = .returned v' ∧ Slk w' v' (lv (ins l x)) ∧ Below w.heap.size w w' := by
  rcases h with ⟨rfl, hl⟩ | h
  · obtain rfl : l = [] := List.map_eq_nil_iff.1 hl
    exact refPut_none x w
  · exact refPut_some x h hx hb
end Go.Proofs.Ytlembnpplnbagaa.Lt
