/- Walks: conditions and aggregates. -/
import Derived.Test.YtdjaijhlhhnmeaaGreatDoorParC
import Derived.Deep.RegionWith
import Derived.Deep.DeepCutAuto
namespace Go.Proofs.YtdjaijhlhhnmeaaGreatDoor
open Go.RowKit
open A8 Tk7 P9

/-- A condition, an aggregate, a condition on one, as values. -/
def IsC (_ : World) (c : Cn) (v : Value) : Prop := v = .agg #[.int .i64 c.op, .int .i64 c.va] ∧ okC c
def IsG (_ : World) (a : Ag) (v : Value) : Prop := v = .agg #[.int .i64 a.fn, .string (strOf a.nm)] ∧ okV a.fn
def IsH (_ : World) (h : Hv) (v : Value) : Prop := v = .agg #[.int .i64 h.ag.fn, .string (strOf h.ag.nm), .int .i64 h.cn.op, .int .i64 h.cn.va] ∧ okC h.cn ∧ okV h.ag.fn
theorem opsOne {w : World} {b : Nat} {g : G9} {l : List T} (B : Nat) (h : At9 w b g l) (hM : w.ownsMap Tryz.prog 9 (plainElem Tryz.prog 3) B 6 (tabD (.map []) 1 opsA.tail)) :
    Calls Tryz.prog 129 #[.pointer (some ⟨b, 0, none⟩), .map (some B)] w (Out9 w b g (oneP opsA g.e l) IsN) := oneOf_any opsA.tail (by decide) (by decide) B 6 h hM
theorem funsOne {w : World} {b : Nat} {g : G9} {l : List T} (B : Nat) (h : At9 w b g l) (hM : w.ownsMap Tryz.prog 9 (plainElem Tryz.prog 3) B 6 (tabD (.map []) 1 funsA.tail)) :
    Calls Tryz.prog 129 #[.pointer (some ⟨b, 0, none⟩), .map (some B)] w (Out9 w b g (oneP funsA g.e l) IsN) := oneOf_any funsA.tail (by decide) (by decide) B 6 h hM
/-- A way that ends in a region that draws: what is left says nothing. -/
theorem dead_end {G : Prop} (w : World) (h : G) : wpAny Tryz.prog .any #[] (fun _ _ _ => True) 0 #[] ⟨#[], []⟩ w → G := fun _ => h
set_option maxRecDepth 100000 in
set_option maxHeartbeats 1000000 in
theorem cond_1 {w : World} {b : Nat} {g : G9} {l : List T} (h : At9 w b g l) (y : F) (hy : oneP opsA g.e l = .error y) :
    Calls Tryz.prog 95 #[.pointer (some ⟨b, 0, none⟩)] w (Out9 w b g (.error y : R Cn) IsC) := by
  have hCm := fun w => comparisons_any w
  have hO := fun w' B (ha : At9 w' b g l) => opsOne B ha
  rw [hy] at hO
  go_enter Tryz.func95, Tryz.ntmps95
  go_wp2
  refine named_wp fun W hW => ?_
  have hWb : Below w.heap.size w W := by rw [hW]; exact b1 _ _
  have hR : Blk W w.heap.size [.int .i64 0, .int .i64 0] := by rw [hW]; exact Blk.is _ rfl
  have hne : w.heap.size ≠ b := by have := h.lt; omega
  have hnb : some w.heap.size ≠ some b := fun e => hne (by injection e)
  have hnB : some W.heap.size ≠ some b := fun e => by injection e with e; have h0 := h.lt; have h1 := hWb.size; omega
  clear hW
  go_region_with (first | (go_at_call 150; refine (hCm _).mono ?_; rintro e' w1 ⟨rfl, hb1, hm1⟩) | (go_at_call 129; refine (hO _ _ (h.later (bstep hWb.drew hb1)) hm1).mono ?_; intro e' w2 ho; obtain ⟨hg2, rfl⟩ := out_e ho; refine dead_end w2 ⟨rfl, out_err (grown_to (bstep hWb.drew hb1) hg2)⟩ ?_))
  all_goals trivial
set_option maxRecDepth 100000 in
set_option maxHeartbeats 1000000 in
theorem cond_2 {w : World} {b : Nat} {g : G9} {l : List T} (h : At9 w b g l) (o : Int) (r : List T) (y : F) (hy : oneP opsA g.e l = .ok (o, r)) (hz : numP g.e (-9223372036854775808) 9223372036854775807 r = .error y) :
    Calls Tryz.prog 95 #[.pointer (some ⟨b, 0, none⟩)] w (Out9 w b g (.error y : R Cn) IsC) := by
  have hCm := fun w => comparisons_any w
  have hO := fun w' B (ha : At9 w' b g l) => opsOne B ha
  rw [hy] at hO
  have hN := fun w' (ha : At9 w' b g r) => number9 (-9223372036854775808) 9223372036854775807 ha
  rw [hz] at hN
  go_enter Tryz.func95, Tryz.ntmps95
  go_wp2
  refine named_wp fun W hW => ?_
  have hWb : Below w.heap.size w W := by rw [hW]; exact b1 _ _
  have hR : Blk W w.heap.size [.int .i64 0, .int .i64 0] := by rw [hW]; exact Blk.is _ rfl
  have hne : w.heap.size ≠ b := by have := h.lt; omega
  have hnb : some w.heap.size ≠ some b := fun e => hne (by injection e)
  have hnB : some W.heap.size ≠ some b := fun e => by injection e with e; have h0 := h.lt; have h1 := hWb.size; omega
  clear hW
  go_region_with (first | (go_at_call 150; refine (hCm _).mono ?_; rintro e' w1 ⟨rfl, hb1, hm1⟩) | (go_at_call 129; refine (hO _ _ (h.later (bstep hWb.drew hb1)) hm1).mono ?_; intro e' w2 ho; obtain ⟨hg2, v2, rfl, rfl, ha2⟩ := out_o ho) | (go_at_call 67; refine (hN _ ha2).mono ?_; intro e' w3 ho3; obtain ⟨hg3, rfl⟩ := out_e ho3; refine dead_end w3 ⟨rfl, out_err (grown_trans (grown_to (bstep hWb.drew hb1) hg2) hg3)⟩ ?_))
  all_goals trivial
set_option maxRecDepth 100000 in
set_option maxHeartbeats 1000000 in
theorem cond_3 {w : World} {b : Nat} {g : G9} {l : List T} (h : At9 w b g l) (o v : Int) (r r2 : List T) (hy : oneP opsA g.e l = .ok (o, r)) (hz : numP g.e (-9223372036854775808) 9223372036854775807 r = .ok (v, r2)) (hk : okC ⟨o, v⟩) :
    Calls Tryz.prog 95 #[.pointer (some ⟨b, 0, none⟩)] w (Out9 w b g (.ok (⟨o, v⟩, r2) : R Cn) IsC) := by
  have hCm := fun w => comparisons_any w
  have hO := fun w' B (ha : At9 w' b g l) => opsOne B ha
  rw [hy] at hO
  have hN := fun w' (ha : At9 w' b g r) => number9 (-9223372036854775808) 9223372036854775807 ha
  rw [hz] at hN
  go_enter Tryz.func95, Tryz.ntmps95
  go_wp2
  refine named_wp fun W hW => ?_
  have hWb : Below w.heap.size w W := by rw [hW]; exact b1 _ _
  have hR : Blk W w.heap.size [.int .i64 0, .int .i64 0] := by rw [hW]; exact Blk.is _ rfl
  have hne : w.heap.size ≠ b := by have := h.lt; omega
  have hnb : some w.heap.size ≠ some b := fun e => hne (by injection e)
  have hnB : some W.heap.size ≠ some b := fun e => by injection e with e; have h0 := h.lt; have h1 := hWb.size; omega
  clear hW
  go_region_with (first | (go_at_call 150; refine (hCm _).mono ?_; rintro e' w1 ⟨rfl, hb1, hm1⟩) | (go_at_call 129; refine (hO _ _ (h.later (bstep hWb.drew hb1)) hm1).mono ?_; intro e' w2 ho; obtain ⟨hg2, v2, rfl, rfl, ha2⟩ := out_o ho) | (go_at_call 67; refine (hN _ ha2).mono ?_; intro e' w3 ho3; obtain ⟨hg3, v3, rfl, rfl, ha3⟩ := out_o ho3; have hR3 := ((hR.drew.later hb1).grown hg2 (fun e => hne (by injection e))).grown hg3 (fun e => hne (by injection e)); have c0 := hR3.cell 0 _ rfl; have c1 := hR3.cell 1 _ rfl; have f0 := hR3.fr 0 _ rfl; have f1 := hR3.fr 1 _ rfl))
  go_wp2
  refine named_post fun V hV => ?_
  obtain ⟨hVb, hVo⟩ := res_out (us := [.int .i64 o, .int .i64 v]) hR3 rfl hV
  have hg : w.grownBy V (some b) := grown_only (grown_trans (grown_to (bstep hWb.drew hb1) hg2) hg3) (Nat.le_refl _) hVo
  have haV : At9 V b g r2 := at9_end h ha3 hg hVo hne
  clear hV c0 c1 f0 f1
  have c0 := hVb.cell 0 _ rfl
  have c1 := hVb.cell 1 _ rfl
  exact bodyPost_ret (v := .agg #[.int .i64 o, .int .i64 v]) (by simp [results, Tryz.results95, go_sem, c0, c1]; try rfl) rfl (out_ok hg ⟨rfl, hk⟩ haV)
theorem num_range {e : Nat} {lo hi : Int} {l : List T} {v : Int} {r : List T} (h : numP e lo hi l = .ok (v, r)) : okV v ∧ lo ≤ v ∧ v ≤ hi := by
  cases l with
  | nil => cases h
  | cons t l =>
    simp only [numP] at h
    split at h
    · split at h
      · rename_i hx
        cases h
        exact ⟨Sm.okI_iff.1 hx.1, hx.2⟩
      · cases h
    · cases h
theorem one_range {tab : List (List UInt8)} {e : Nat} {l : List T} {v : Int} {r : List T} (h : oneP tab e l = .ok (v, r)) : 1 ≤ v ∧ v < (tab.length : Int) := by
  cases l with
  | nil => cases h
  | cons t l =>
    simp only [oneP] at h
    split at h
    · rename_i hx
      cases h
      omega
    · cases h
theorem one_okV {tab : List (List UInt8)} (ht : tab.length ≤ 100) {e : Nat} {l : List T} {v : Int} {r : List T} (h : oneP tab e l = .ok (v, r)) : okV v := by
  have := one_range h
  unfold okV
  omega
theorem cond9 {w : World} {b : Nat} {g : G9} {l : List T} (h : At9 w b g l) :
    Calls Tryz.prog 95 #[.pointer (some ⟨b, 0, none⟩)] w (Out9 w b g (condP g.e l) IsC) := by
  unfold condP
  cases hy : oneP opsA g.e l with
  | error y => exact cond_1 h y hy
  | ok ar =>
    obtain ⟨o, r⟩ := ar
    rw [andThen_ok]
    cases hz : numP g.e (-9223372036854775808) 9223372036854775807 r with
    | error y => exact cond_2 h o r y hy hz
    | ok ar =>
      obtain ⟨v, r2⟩ := ar
      rw [andThen_ok]
      exact cond_3 h o v r r2 hy hz ⟨one_okV (by decide) hy, (num_range hz).1⟩
end Go.Proofs.YtdjaijhlhhnmeaaGreatDoor
