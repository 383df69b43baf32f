/- Walks: what the statements about families ask beside: a family in new memory; whether two are the same; whether a label, or a number, is in a list. -/
import Derived.Test.YtlembnpplnbagaaLatC
import Derived.Laws.AppendOwnNone
namespace Go.Proofs.Ytlembnpplnbagaa.Lt
open Go.RowKit

theorem infoU64 : (Try.prog.info? 23).map (fun i => (i.zero, i.size, i.bytes)) = some (some (.int .u64 0), 1, 8) := by kernel_rfl
/-- A slice with room for its length. -/
def Cap (v : Value) : Prop := ∃ A n cap, v = .slice A n cap ∧ n ≤ cap
theorem cap_of_own {w : World} {base n : Nat} {e : TypeId} {v : Value} {us : List Value} (h : w.ownsRow base e 1 v n us) : Cap v := by
  rcases h.2 with ⟨rfl, h0⟩ | ⟨g, cap, cur, rfl, _, _, h1, _⟩
  · exact ⟨_, _, _, rfl, Nat.le_refl _⟩
  · exact ⟨_, _, _, rfl, h1⟩
theorem own_any (v : Value) (l : List Nat) (w : World) (h : Slc w v (lv l)) (hb : l.length * 8 ≤ 140737488355328) :
    Calls Try.prog 7 #[v] w fun e w' => ∃ v, e = .returned v ∧ Slc w' v (lv l) ∧ Cap v ∧ Below w.heap.size w w' := by
  obtain ⟨i0, hi, hz0, hz1, hz2⟩ := info_parts infoU64
  rcases h.split with ⟨rfl, hl⟩ | ⟨a, cap, rfl, hl, hc⟩
  · have HL := Lib.hid hl
    clear hl h
    have hown : Own1 w.heap.size 23 w [] (.slice (some ⟨w.heap.size, 0, none⟩) 0 0) (w.alloc (.cells #[] 23)) := Own1.made _ _ _ (by decide) rfl
    go_enter Try.func7, Try.ntmps7
    go_wp2_with (at_builtin; refine wpList_append_own_none rfl _ _ 22 rfl w.heap.size 23 i0 1 Try.underlying22 hi _ 0 [] rfl hown.1 rfl ?_)
    go_ret
    exact ⟨_, rfl, by rw [HL.out]; exact hown.slc, ⟨_, _, _, rfl, Nat.le_refl _⟩, hown.2.1⟩
  · have hown : Own1 w.heap.size 23 w [] (.slice (some ⟨w.heap.size, 0, none⟩) 0 0) (w.alloc (.cells #[] 23)) := Own1.made _ _ _ (by decide) rfl
    have hc' : ∀ (i : Nat) (u : Value), (lv l)[i]? = some u → (w.alloc (.cells #[] 23)).cell? (a.add i) = some u := fun i u hu => by
      obtain ⟨h1, h2⟩ := hc i u hu
      exact ((Below.refl w.heap.size w).alloc (Nat.le_refl _) (.cells #[] 23)).cell (p := a.add i) (by rw [add_block]; exact h1) |>.trans h2
    clear hc h
    go_enter Try.func7, Try.ntmps7
    go_wp2_with (at_builtin; refine wpList_append_own _ rfl _ _ 22 rfl w.heap.size 23 i0 (.int .u64 0) 1 8 Try.underlying22 hi hz0 hz1 hz2 rfl (by decide) _ _ _ rfl hown.1 a (lv l).length cap (lv l) rfl (by simp) hc' (by simp [lv, Value.oneCell']) (by simpa using hl) (by rw [lv_length]; simp only [List.length_nil]; omega) (by have := hown.2.2; omega) ?_; intro v' w1 hown' hgrow hnil; clear hnil)
    go_ret
    exact ⟨v', rfl, by simpa using Slc.of_own hown', cap_of_own hown', (hown.2.1.grown hgrow hown.2.2 (fun k hk => (hown.1.lt k hk).1))⟩
theorem same_any (u v : Value) (xs ys : List Nat) (w : World) (hu : Slc w u (lv xs)) (hv : Slc w v (lv ys)) :
    Calls Try.prog 14 #[u, v] w fun e w' => e = .returned (.bool (decide (xs = ys))) ∧ ∃ n, w' = w.drewN n := by
  obtain ⟨A, cap, rfl, hm, hc⟩ := nats hu
  obtain ⟨A', cap', rfl, hm', hc'⟩ := nats hv
  clear hu hv
  by_cases hl : xs.length = ys.length
  · have hlb : ((xs.length : Int) != (ys.length : Int)) = false := by simp [hl]
    have HL := Lib.hid hl
    clear hl
    go_enter Try.func14, Try.ntmps14
    go_wp2
    go_loopw [5] (fun i wr => ∃ k n : Nat, k ≤ xs.length ∧ i = .int .i64 k ∧ xs.take k = ys.take k ∧ wr = w.drewN n) (fun i _ => xs.length - (intOf i).toNat)
    case atStart => exact ⟨0, 0, by omega, rfl, by simp, rfl⟩
    case round =>
      obtain ⟨k, n, hk, rfl, ht, rfl⟩ := hrel
      have HT := Lib.hid ht
      clear ht
      by_cases hlt : k < xs.length
      · have hlt' : k < ys.length := by have := HL.out; omega
        obtain ⟨a, rfl, _, hcell⟩ := hc k hlt
        obtain ⟨a', rfl, _, hcell'⟩ := hc' k hlt'
        clear hc hc'
        have hi : (k : Int) < (xs.length : Int) := by omega
        have hi' : (k : Int) < (ys.length : Int) := by omega
        by_cases he : xs[k] = ys[k]
        · have heb : ((xs[k] : Int) != (ys[k] : Int)) = false := by simp [he]
          have hn := Lib.hid (show xs.take (k + 1) = ys.take (k + 1) by rw [take_snoc xs k hlt, take_snoc ys k hlt', HT.out, he])
          clear he
          go_wp2
          go_quiet (fail)
          go_wp2
          go_roundw
          case rel => exact ⟨k + 1, _, by omega, by go_num, hn.out, rfl⟩
          case measure => simp [intOf]; omega
        · have heb : ((xs[k] : Int) != (ys[k] : Int)) = true := by rw [bne_iff_ne]; omega
          have hd := Lib.hid (show decide (xs = ys) = false by
            rw [decide_eq_false_iff_not]; intro h; subst h; exact he rfl)
          clear he
          go_wp2
          go_quiet (fail)
          go_wp2
          go_ret
          exact ⟨by rw [hd.out]; rfl, _, World.drewN_drewN _ _ _⟩
      · have hd := Lib.hid (show decide (xs = ys) = true by
            have h1 := HT.out
            rw [List.take_of_length_le (by omega), List.take_of_length_le (by have := HL.out; omega)] at h1
            simpa using h1)
        go_wp2
        go_ret
        exact ⟨by rw [hd.out]; rfl, _, rfl⟩
  · have hlb : ((xs.length : Int) != (ys.length : Int)) = true := by simp; omega
    have hd := Lib.hid (show decide (xs = ys) = false by
            rw [decide_eq_false_iff_not]; intro h; subst h; exact hl rfl)
    clear hl
    go_enter Try.func14, Try.ntmps14
    go_wp2
    go_ret
    exact ⟨by rw [hd.out]; rfl, 0, rfl⟩

theorem has_any (v : Value) (l : List Nat) (x : Nat) (w : World) (h : Slc w v (lv l)) :
    Calls Try.prog 19 #[v, .int .u64 (x : Int)] w fun e w' => e = .returned (.bool (decide (x ∈ l))) ∧ w = w' := by
  obtain ⟨A, cap, rfl, hm, hc⟩ := nats h
  clear h
  go_enter Try.func19, Try.ntmps19
  go_wp2
  go_loop [5] (fun i => ∃ k : Nat, k ≤ l.length ∧ i = .int .i64 (k : Int) ∧ x ∉ l.take k) (fun i => l.length - (intOf i).toNat)
  case atStart => exact ⟨0, Nat.zero_le _, rfl, by simp⟩
  case round =>
    obtain ⟨k, hk, rfl, hno⟩ := hrel
    have HN := Lib.hid hno
    clear hno
    by_cases hlt : k < l.length
    · obtain ⟨a, rfl, _, hcell⟩ := hc k hlt
      clear hc
      obtain ⟨y, hy⟩ : ∃ y, y = l[k] := ⟨_, rfl⟩
      rw [← hy] at hcell
      by_cases e : y = x
      · have hd := Lib.hid (show decide (x ∈ l) = true from decide_eq_true (by rw [← e, hy]; exact List.getElem_mem hlt))
        subst e
        clear hy
        go_wp2
        go_ret
        exact ⟨by rw [hd.out]; rfl, rfl⟩
      · have hn := Lib.hid (show x ∉ l.take (k + 1) by
          rw [take_snoc l k hlt]
          intro hm
          rcases List.mem_append.1 hm with hm | hm
          · exact HN.out hm
          · exact e (by rw [hy]; exact (List.mem_singleton.1 hm).symm))
        have he : ((y : Int) == (x : Int)) = false := beq_eq_false_iff_ne.2 (by omega)
        clear hy
        go_wp2
        go_round
        case rel => exact ⟨k + 1, by omega, by go_num, hn.out⟩
        case measure => simp [intOf]; omega
    · have hd := Lib.hid (show decide (x ∈ l) = false from decide_eq_false (by have := HN.out; rwa [List.take_of_length_le (by omega)] at this))
      go_wp2
      go_ret
      exact ⟨by rw [hd.out]; rfl, rfl⟩

theorem kitHas_any (v : Value) (l : List Int) (x : Int) (w : World) (h : Slc w v (vals .i64 l)) :
    Calls Try.prog 18 #[v, .int .i64 x] w fun e w' => e = .returned (.bool (decide (x ∈ l))) ∧ w = w' := by
  obtain ⟨A, cap, rfl, hm, hc⟩ := h.ints
  clear h
  go_enter Try.func18, Try.ntmps18
  go_wp2
  go_loop [5] (fun i => ∃ k : Nat, k ≤ l.length ∧ i = .int .i64 (k : Int) ∧ x ∉ l.take k) (fun i => l.length - (intOf i).toNat)
  case atStart => exact ⟨0, Nat.zero_le _, rfl, by simp⟩
  case round =>
    obtain ⟨k, hk, rfl, hno⟩ := hrel
    have HN := Lib.hid hno
    clear hno
    by_cases hlt : k < l.length
    · obtain ⟨a, rfl, _, hcell⟩ := hc k hlt
      clear hc
      obtain ⟨y, hy⟩ : ∃ y, y = l[k] := ⟨_, rfl⟩
      rw [← hy] at hcell
      by_cases e : y = x
      · have hd := Lib.hid (show decide (x ∈ l) = true from decide_eq_true (by rw [← e, hy]; exact List.getElem_mem hlt))
        subst e
        clear hy
        go_wp2
        go_ret
        exact ⟨by rw [hd.out]; rfl, rfl⟩
      · have hn := Lib.hid (show x ∉ l.take (k + 1) by
          rw [take_snoc l k hlt]
          intro hm
          rcases List.mem_append.1 hm with hm | hm
          · exact HN.out hm
          · exact e (by rw [hy]; exact (List.mem_singleton.1 hm).symm))
        have he : ((y : Int) == (x : Int)) = false := beq_eq_false_iff_ne.2 (by omega)
        clear hy
        go_wp2
        go_round
        case rel => exact ⟨k + 1, by omega, by go_num, hn.out⟩
        case measure => simp [intOf]; omega
    · have hd := Lib.hid (show decide (x ∈ l) = false from decide_eq_false (by have := HN.out; rwa [List.take_of_length_le (by omega)] at this))
      go_wp2
      go_ret
      exact ⟨by rw [hd.out]; rfl, rfl⟩
end Go.Proofs.Ytlembnpplnbagaa.Lt
