/- Walk: OwnTexts of the kit. -/
import Derived.Test.YtgcgoiaadigmfaaProg
import Derived.Test.YtgcgoiaadigmfaaBlk
import Derived.Outline
import Derived.Laws.AppendOwnNone
import Derived.WalkMore
import Derived.Laws.OwnMore
namespace Go.Proofs.Ytgcgoiaadigmfaa
open Go.RowKit

theorem infoString : (Try.prog.info? 9).map (fun i => (i.zero, i.size, i.bytes)) = some (some (.string ⟨#[]⟩), 1, 16) := by kernel_rfl

/-- What a function gives that returns a slice of these values at a plain address. -/
def OutSln (w : World) (us : List Value) (e : Ending) (w' : World) : Prop := ∃ v, e = .returned v ∧ Sln w' v us ∧ Below w.heap.size w w'

theorem Sln.of_own {w : World} {base n : Nat} {e : TypeId} {v : Value} {us : List Value} (h : w.ownsRow base e 1 v n us) (hne : v ≠ .slice none 0 0) : Sln w v us := by
  have hl : us.length = n := by have := h.1; omega
  have h2 := h.2
  rcases h2 with ⟨hv, _⟩ | ⟨g, cap, cur, hv, _, hgb, hnc, hcm, _⟩
  · exact absurd hv hne
  · subst hv
    refine ⟨g, 0, cap, by rw [hl], by omega, by omega, (Array.getElem?_eq_some_iff.1 hgb).1, fun i u hu => ?_⟩
    have hx := h.cells (g := g) rfl i u hu
    rw [Nat.zero_add]
    have e : (⟨g, 0, none⟩ : Addr).add i = ⟨g, i, none⟩ := by unfold Addr.add; split <;> simp_all
    rw [e] at hx
    exact hx

theorem ownTexts_any (v : Value) (l : List ByteArray) (w : World) (h : Slc w v (l.map Value.string)) (hb : l.length * 16 ≤ 140737488355328) :
    Calls Try.prog 26 #[v] w fun e w' => OutSln w (l.map Value.string) e w' := by
  obtain ⟨i0, hi, hz0, hz1, hz2⟩ := info_parts infoString
  have hown : Own1 w.heap.size 9 w [] (.slice (some ⟨w.heap.size, 0, none⟩) 0 0) (w.alloc (.cells #[] 9)) := Own1.made _ _ _ (by decide) rfl
  have hnew : Sln (w.alloc (.cells #[] 9)) (.slice (some ⟨w.heap.size, 0, none⟩) 0 0) [] := Sln.blk (Blk.is (us := []) 9 rfl) (by decide)
  rcases h.split with ⟨rfl, hl⟩ | ⟨a, cap, rfl, hl, hc⟩
  · have HL := Lib.hid hl
    clear hl h
    go_enter Try.func26, Try.ntmps26
    go_wp2_with (at_builtin; refine wpList_append_own_none rfl _ _ 44 rfl w.heap.size 9 i0 1 Try.underlying44 hi _ 0 [] rfl hown.1 rfl ?_)
    go_ret
    exact ⟨_, rfl, by rw [HL.out]; exact hnew, hown.2.1⟩
  · have hc' : ∀ (i : Nat) (u : Value), (l.map Value.string)[i]? = some u → (w.alloc (.cells #[] 9)).cell? (a.add i) = some u := fun i u hu => by
      obtain ⟨h1, h2⟩ := hc i u hu
      exact ((Below.refl w.heap.size w).alloc (Nat.le_refl _) (.cells #[] 9)).cell (p := a.add i) (by rw [add_block]; exact h1) |>.trans h2
    clear hc h
    go_enter Try.func26, Try.ntmps26
    go_wp2_with (at_builtin; refine wpList_append_own _ rfl _ _ 44 rfl w.heap.size 9 i0 (.string ⟨#[]⟩) 1 16 Try.underlying44 hi hz0 hz1 hz2 rfl (by decide) _ _ _ rfl hown.1 a (l.map Value.string).length cap (l.map Value.string) rfl (by simp) hc' (by simp [Value.oneCell']) (by simpa using hl) (by simp only [List.length_map, List.length_nil]; omega) (by have := hown.2.2; omega) ?_; intro v' w1 hown' hgrow hnil)
    go_ret
    refine ⟨v', rfl, ?_, (hown.2.1.grown hgrow hown.2.2 (fun k hk => (hown.1.lt k hk).1))⟩
    exact Sln.of_own (n := l.length) (by simpa using hown') (fun h => by
      have h2 : Value.slice (some ⟨w.heap.size, 0, none⟩) 0 0 = .slice none 0 0 := (hnil.1 h).1
      cases h2)
end Go.Proofs.Ytgcgoiaadigmfaa
