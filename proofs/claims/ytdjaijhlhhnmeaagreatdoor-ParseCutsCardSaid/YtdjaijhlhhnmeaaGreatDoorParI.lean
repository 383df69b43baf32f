/- Walks: labels and atoms. -/
import Derived.Test.YtdjaijhlhhnmeaaGreatDoorParH
import Derived.Test.YtdjaijhlhhnmeaaGreatDoorParG
import Derived.Deep.DeepCutAuto
namespace Go.Proofs.YtdjaijhlhhnmeaaGreatDoor
open Go.RowKit
open A8 Tk7 P9

/-- A label as a value. -/
def IsU64 (_ : World) (x : Int) (v : Value) : Prop := v = .int .u64 x ∧ 0 ≤ x ∧ x < 18446744073709551616
theorem moreC_range {e : Nat} : ∀ (m : Nat) (c : Int) (l : List T) (cs : List Int) (r : List T), moreC e m c l = .ok (cs, r) → ∀ c ∈ cs, 0 ≤ c ∧ c ≤ 63
  | 0, _, _, cs, r, h => by cases h; intro c hc; cases hc
  | m + 1, c, l, cs, r, h => by
    unfold moreC at h
    split at h
    · obtain ⟨a, r1, h1, h2⟩ := andThen_some h
      obtain ⟨zs, r2, h3, h4⟩ := andThen_some h2
      cases h4
      intro x hx
      rcases List.mem_cons.1 hx with rfl | hx
      · exact cat_range h1
      · exact moreC_range m a r1 zs r h3 x hx
    · cases h
      intro c hc
      cases hc
theorem cats_range {e : Nat} {l : List T} {cs : List Int} {r : List T} (h : catsP e l = .ok (cs, r)) : ∀ c ∈ cs, 0 ≤ c ∧ c ≤ 63 := by
  obtain ⟨a, r1, h1, h2⟩ := andThen_some h
  obtain ⟨zs, r2, h3, h4⟩ := andThen_some h2
  cases h4
  intro x hx
  rcases List.mem_cons.1 hx with rfl | hx
  · exact cat_range h1
  · exact moreC_range _ a r1 zs r h3 x hx
theorem of_facts {cs : List Int} (h : ∀ c ∈ cs, 0 ≤ c ∧ c ≤ 63) : Lb.ofI cs = (Lb.orAll cs, 0) ∧ 0 ≤ Lb.orAll cs ∧ Lb.orAll cs < 18446744073709551616 := by
  refine ⟨?_, ?_⟩
  · unfold Lb.ofI
    rw [if_pos]
    rw [List.all_eq_true]
    intro c hc
    have := h c hc
    simp [Lb.isCat]
    omega
  · have e : cs = (cs.map Int.toNat).map fun (k : Nat) => (k : Int) := by
      rw [List.map_map]
      conv => lhs; rw [← List.map_id cs]
      refine List.map_congr_left fun c hc => ?_
      have := h c hc
      simp
      omega
    have h2 := orAll_nat (cs.map Int.toNat) (fun k hk => by
      obtain ⟨c, hc, rfl⟩ := List.mem_map.1 hk
      have := h c hc
      omega) 0 (by decide)
    rw [← e] at h2
    have h3 : Lb.orAll cs = (((cs.map Int.toNat).foldl (fun a k => a ||| 2 ^ k) 0 : Nat) : Int) := h2.1
    rw [h3]
    omega
theorem slc_of {w : World} {n : Nat} {v : Value} {us : List Value} (h : Sl w 1 n v us) : Slc w v us := by
  obtain ⟨h1, h2, A, cap, rfl, h4, h5, h6⟩ := h
  have hn : n = us.length := by omega
  subst hn
  exact ⟨A, cap, rfl, h2, h5, fun i hi => h6 i us[i] (List.getElem?_eq_getElem hi)⟩
def lab2 (e : Nat) (r : List T) : R Int := if seesP [125] r = true then .ok (0, r.tail) else andThen (catsP e r) fun cs r => andThen (wantP e [125] r) fun _ r => .ok (Lb.orAll cs, r)
set_option maxRecDepth 100000 in
set_option maxHeartbeats 1000000 in
theorem label9 {w : World} {b : Nat} {g : G9} {l : List T} (h : At9 w b g l) :
    Calls Tryz.prog 93 #[.pointer (some ⟨b, 0, none⟩)] w (Out9 w b g (labelP g.e l) IsU64) := by
  have hM := fun w' (ha : At9 w' b g l) => must_any [123] (by decide) ha
  have hXb : w.heap.size ≠ b := by have := h.lt; omega
  have hXB : Blk (w.alloc (.cells #[.pointer (some ⟨b, 0, none⟩)] 63)) w.heap.size [.pointer (some ⟨b, 0, none⟩)] := Blk.is _ rfl
  have hXS : (w.alloc (.cells #[.pointer (some ⟨b, 0, none⟩)] 63)).heap.size = w.heap.size + 1 := by simp
  unfold labelP
  cases h1 : wantP g.e [123] l with
  | error y =>
    rw [h1] at hM
    go_enter Tryz.func93, Tryz.ntmps93
    go_wp2_with (go_at_call 66; refine (hM _ (h.later (b1 _ _))).mono ?_; intro e' w2 ho; obtain ⟨hg2, rfl⟩ := out_e ho)
    exact ⟨rfl, out_err (grown_to (b1 _ _) hg2)⟩
  | ok ar =>
    obtain ⟨⟨⟩, r⟩ := ar
    rw [andThen_ok]
    rw [h1] at hM
    have hS := fun w' (ha : At9 w' b g r) => skips_any [125] (by decide) ha
    cases hs : seesP [125] r with
    | true =>
      rw [hs] at hS
      simp only [if_true] at hS ⊢
      go_enter Tryz.func93, Tryz.ntmps93
      go_wp2_with (first | (go_at_call 66; refine (hM _ (h.later (b1 _ _))).mono ?_; intro e' w2 ho; obtain ⟨hg2, v2, rfl, hv2, ha2⟩ := out_o ho; cases hv2; have hX2 := hXB.grown hg2 (fun e => hXb (by injection e)); have x0 := hX2.cell 0 _ rfl) | (go_at_call 68; refine (hS _ ha2).mono ?_; rintro e' w3 ⟨rfl, hg3, ha3⟩))
      go_ret
      exact out_ok (grown_trans (grown_to (b1 _ _) hg2) hg3) ⟨rfl, by decide, by decide⟩ ha3
    | false =>
      rw [hs] at hS
      simp only [Bool.false_eq_true, if_false] at hS ⊢
      obtain ⟨XX, hXX⟩ : ∃ XX, XX = (andThen (catsP g.e r) fun cs r => andThen (wantP g.e [125] r) fun _ r => (.ok (Lb.orAll cs, r) : R Int)) := ⟨_, rfl⟩
      rw [← hXX]
      have HXX := Lib.hid hXX
      clear hXX
      obtain ⟨W0, hW0⟩ : ∃ W0, W0 = w.alloc (.cells #[.pointer (some ⟨b, 0, none⟩)] 63) := ⟨_, rfl⟩
      rw [← hW0] at hXB hXS
      have hb0 : Below w.heap.size w W0 := by rw [hW0]; exact b1 _ _
      have hA0 := h.later hb0
      go_enter Tryz.func93, Tryz.ntmps93
      go_wp2_with fail
      rw [← hW0]
      clear hW0
      go_upto_region 5 with (first | (go_at_call 66; refine (hM _ hA0).mono ?_; intro e' w2 ho; obtain ⟨hg2, v2, rfl, hv2, ha2⟩ := out_o ho; cases hv2; have hX2 := hXB.grown hg2 (fun e => hXb (by injection e)); have x0 := hX2.cell 0 _ rfl) | (go_at_call 68; refine (hS _ ha2).mono ?_; rintro e' w3 ⟨rfl, hg3, ha3⟩; have hX3 := hX2.grown hg3 (fun e => hXb (by injection e)); have x1 := hX3.cell 0 _ rfl))
      refine named_wp fun W3 hW3 => ?_
      have hb3 : Below w3.heap.size w3 W3 := by rw [hW3]; exact b1 _ _
      have hY3 : Blk W3 w3.heap.size [.int .i64 (-1)] := by rw [hW3]; exact Blk.is _ rfl
      have hX4 := hX3.later hb3
      have x2 := hX4.cell 0 _ rfl
      have hg03 : w.grownBy W3 (some b) := grown_trans (grown_trans (grown_to hb0 hg2) hg3) (grown_of b hb3)
      have hl3 := hX3.lt
      have hbW3 : b < W3.heap.size := (ha3.later hb3).lt
      have hL := intList h hg03 (ha3.later hb3) hX4 hY3 (Nat.le_refl _) (Nat.le_of_lt hl3) (by omega)
      clear hW3 x0 x1
      cases hc : catsP g.e r with
      | error y =>
        have hxx := HXX.out
        rw [hc, andThen_err] at hxx
        replace HXX := Lib.hid hxx
        clear hxx
        rw [hc] at hL
        go_wp2_with (go_at_call 146; refine hL.mono ?_; rintro e' w4 ⟨hg4, he4, -⟩; obtain rfl := he4 y rfl)
        exact ⟨rfl, by rw [HXX.out]; exact out_err hg4⟩
      | ok ar =>
        obtain ⟨cs, r2⟩ := ar
        have hxx := HXX.out
        rw [hc, andThen_ok] at hxx
        rw [hc] at hL
        obtain ⟨hof, hlo⟩ := of_facts (cats_range hc)
        have hM2 := fun w' (ha : At9 w' b g r2) => must_any [125] (by decide) ha
        have HF := Lib.hid (fun w' v (hs : Sl w' 1 cs.length v (cs.map fun c => .int .i64 c)) => of_any v cs w' (slc_of hs))
        rw [hof] at HF
        obtain ⟨X, hX⟩ : ∃ X, X = Lb.orAll cs := ⟨_, rfl⟩
        rw [← hX] at HF hlo hxx
        clear hX hof hc
        cases h2 : wantP g.e [125] r2 with
        | error y =>
          rw [h2, andThen_err] at hxx
          replace HXX := Lib.hid hxx
          clear hxx
          rw [h2] at hM2
          go_wp2_with (first | (go_at_call 146; refine hL.mono ?_; rintro e' w4 ⟨hg4, -, he4⟩; obtain ⟨v4, rfl, hs4, ha4, hX5⟩ := he4 _ _ rfl; obtain ⟨vA, vm, vc, rfl⟩ := sl_form hs4; have x3 := hX5.cell 0 _ rfl) | (go_at_call 66; refine (hM2 _ ha4).mono ?_; intro e' w5 ho5; obtain ⟨hg5, rfl⟩ := out_e ho5))
          exact ⟨rfl, by rw [HXX.out]; exact out_err (grown_trans hg4 hg5)⟩
        | ok ar =>
          obtain ⟨⟨⟩, r3⟩ := ar
          rw [h2, andThen_ok] at hxx
          replace HXX := Lib.hid hxx
          clear hxx
          rw [h2] at hM2
          go_wp2_with (first | (go_at_call 146; refine hL.mono ?_; rintro e' w4 ⟨hg4, -, he4⟩; obtain ⟨v4, rfl, hs4, ha4, hX5⟩ := he4 _ _ rfl; obtain ⟨vA, vm, vc, rfl⟩ := sl_form hs4; have x3 := hX5.cell 0 _ rfl) | (go_at_call 66; refine (hM2 _ ha4).mono ?_; intro e' w5 ho5; obtain ⟨hg5, v5, rfl, hv5, ha5⟩ := out_o ho5; cases hv5) | (go_at_call 149; refine (HF.out _ _ (sl_le hs4 (Tn.grown hg5 hbW3).out)).mono ?_; rintro e' w6 ⟨rfl, rfl⟩))
          go_ret
          rw [HXX.out]
          exact out_ok (grown_trans hg4 hg5) ⟨rfl, hlo⟩ ha5
end Go.Proofs.YtdjaijhlhhnmeaaGreatDoor
