/- Walks: the laws' helpers. -/
import Derived.Test.YtkmkhegekonbmaaDoorRowII
import Derived.Test.YtkmkhegekonbmaaDoorRowY
import Derived.Test.YtkmkhegekonbmaaDoorRowDD
namespace Go.Proofs.YtkmkhegekonbmaaDoor
open Go.RowKit
open Rw6

/-- Rows, their offsets as ints. -/
def rsI (rs : List (Nat × List W)) : List (Int × List Wd) := rs.map fun r => ((r.1 : Int), r.2.map wdOf)
theorem Rown.rsl {w : World} {b : Nat} {rs : List (Nat × List W)} {v : Value} (h : Rown w b rs v) : RSl w v (rsI rs) := by
  obtain ⟨vs, h1, h2, h3⟩ := h
  have hl : (rsI rs).length = rs.length := by unfold rsI; rw [List.length_map]
  refine ⟨vs, by rw [hl, h1], ?_, ?_⟩
  · rw [hl]
    have e : (rsI rs).map (·.1) = rs.map fun r => (r.1 : Int) := by unfold rsI; rw [List.map_map]; rfl
    rw [e]
    exact Sl.of_own h2
  · intro i u r hu hr
    unfold rsI at hr
    rw [List.getElem?_map] at hr
    obtain ⟨r', hr', rfl⟩ := Option.map_eq_some_iff.1 hr
    have := Sl.of_own (h3 i u r' hu hr')
    have e : (r'.2.map wdOf).length = r'.2.length := List.length_map _
    unfold WSl
    simp only [e]
    exact this
/-- What Rows gives: rows that may be read. -/
def RowsQ (w : World) (t : List UInt8) (e : Ending) (w' : World) : Prop :=
  Below w.heap.size w w' ∧
  ((∃ (er : Int) (a : Nat), readG t = .error (er, a) ∧ e = .returned (.tuple #[.slice none 0 0, .agg #[.int .i64 er, .int .i64 (a : Int)]])) ∨
   (∃ rs A c, readG t = .ok rs ∧ e = .returned (.tuple #[.slice A rs.length c, .agg #[.int .i64 0, .int .i64 0]]) ∧ RSl w' (.slice A rs.length c) (rsI rs)))
theorem rowsQ (t : List UInt8) (ht : t.length ≤ 20000) (w : World) : Calls Tryd.prog 25 #[.string (strOf t)] w (RowsQ w t) := by
  refine (rows_any t ht w).mono ?_
  rintro e w' ⟨h1, h2⟩
  refine ⟨h1, ?_⟩
  rcases h2 with h2 | ⟨rs, v, h3, h4, h5⟩
  · exact .inl h2
  · obtain ⟨A, c, rfl⟩ := h5.form
    exact .inr ⟨rs, A, c, h3, h4, h5.rsl⟩
/-- .. of a text that has rows. -/
theorem rows_ok {t : List UInt8} {rs : List (Nat × List W)} (h : readG t = .ok rs) (w : World) :
    Calls Tryd.prog 25 #[.string (strOf t)] w fun e w' => Below w.heap.size w w' ∧ ∃ A c, e = .returned (.tuple #[.slice A rs.length c, .agg #[.int .i64 0, .int .i64 0]]) ∧ RSl w' (.slice A rs.length c) (rsI rs) := by
  have ht := (readG_inv h).1
  refine (rowsQ t ht w).mono ?_
  rintro e w' ⟨h1, h2⟩
  refine ⟨h1, ?_⟩
  rcases h2 with ⟨er, a, h3, _⟩ | ⟨rs', A, c, h3, h4, h5⟩
  · rw [h] at h3; cases h3
  · rw [h] at h3; cases h3; exact ⟨A, c, h4, h5⟩
/-- .. of a text that has none. -/
theorem rows_err {t : List UInt8} {er : Int} {a : Nat} (ht : t.length ≤ 20000) (h : readG t = .error (er, a)) (w : World) :
    Calls Tryd.prog 25 #[.string (strOf t)] w fun e w' => e = .returned (.tuple #[.slice none 0 0, .agg #[.int .i64 er, .int .i64 (a : Int)]]) ∧ Below w.heap.size w w' := by
  refine (rowsQ t ht w).mono ?_
  rintro e w' ⟨h1, h2⟩
  rcases h2 with ⟨er', a', h3, h4⟩ | ⟨rs', A, c, h3, h4, h5⟩
  · rw [h] at h3; cases h3; exact ⟨h4, h1⟩
  · rw [h] at h3; cases h3
theorem wsl_lit (w : World) (ws : List Wd) (hn : ws.length ≤ 1000) : WSl (w.alloc (.cells (wcells ws).toArray 31)) (.slice (some ⟨w.heap.size, 0, none⟩) ws.length ws.length) ws :=
  Sl.of_own (World.ownsRow_lit (base := w.heap.size) (e := 31) (size := 3) w (wcells ws).toArray ws.length (Nat.le_refl _) (by unfold maxLen; omega) (by simp [wcells_len]))
theorem rsl_lit (w : World) (rs : List (Int × List Wd)) (vs : List Value) (hn : rs.length ≤ 1000) (hl : vs.length = rs.length) (h : ∀ (i : Nat) (u : Value) (r : Int × List Wd), vs[i]? = some u → rs[i]? = some r → WSl w u r.2) :
    RSl (w.alloc (.cells (rcells ((rs.map (·.1)).zip vs)).toArray 43)) (.slice (some ⟨w.heap.size, 0, none⟩) rs.length rs.length) rs :=
  ⟨vs, hl, Sl.of_own (World.ownsRow_lit (base := w.heap.size) (e := 43) (size := 2) w (rcells ((rs.map (·.1)).zip vs)).toArray rs.length (Nat.le_refl _) (by unfold maxLen; omega) (by simp [rcells_len]; omega)),
   fun i u r hu hr => (h i u r hu hr).later ((Below.refl _ _).alloc (Nat.le_refl _) _)⟩
theorem rsl_one (w : World) (q : Bool) (x : List UInt8) : RSl ((w.alloc (.cells #[.bool q, .string (strOf x), .int .i64 0] 31)).alloc (.cells #[.int .i64 0, .slice (some ⟨w.heap.size, 0, none⟩) 1 1] 43)) (.slice (some ⟨w.heap.size + 1, 0, none⟩) 1 1) (rsI [(0, [(q, x, 0)])]) := by
  have h1 := wsl_lit w [(q, x, 0)] (by simp)
  have h2 := rsl_lit (w.alloc (.cells (wcells [(q, x, 0)]).toArray 31)) [(0, [(q, x, 0)])] [.slice (some ⟨w.heap.size, 0, none⟩) 1 1] (by simp) rfl (fun i u r hu hr => by
    cases i with
    | zero => cases hu; cases hr; exact h1
    | succ i => simp at hu)
  simp only [World.size_alloc] at h2
  exact h2
theorem below1 (w : World) (o1 : Obj) : Below w.heap.size w (w.alloc o1) := (Below.refl _ _).alloc (Nat.le_refl _) _
theorem below2 (w : World) (o1 o2 : Obj) : Below w.heap.size w ((w.alloc o1).alloc o2) := (below1 w o1).alloc (by simp only [World.size_alloc]; omega) _
theorem below3 (w : World) (o1 o2 o3 : Obj) : Below w.heap.size w (((w.alloc o1).alloc o2).alloc o3) := (below2 w o1 o2).alloc (by simp only [World.size_alloc]; omega) _
theorem wordL_any (q : Bool) (s : ByteArray) (a : Int) (w : World) :
    Calls Tryd.prog 27 #[.bool q, .string s, .int .i64 a] w fun e w' => e = .returned (.agg #[.bool q, .string s, .int .i64 a]) ∧ Below w.heap.size w w' := by
  go_enter Tryd.func27, Tryd.ntmps27
  go_wp2
  refine bodyPost_ret (by simp [results, Tryd.results27, go_sem]; try rfl) rfl ?_
  exact ⟨rfl, by first | exact (Below.refl _ _).alloc (Nat.le_refl _) _ | (go_grown)⟩
theorem numberL_any (q : Bool) (s : ByteArray) (a : Int) (lo hi : Nat) (hs : s.size ≤ 100000) (w : World) :
    Calls Tryd.prog 30 #[.agg #[.bool q, .string s, .int .i64 a], .int .u64 (lo : Int), .int .u64 (hi : Int)] w fun e w' => e = .returned (.int .i64 (numG q s.data.toList lo hi).2) ∧ Below w.heap.size w w' := by
  have hN := fun w => number_is q s a lo hi hs w
  unfold wordV at hN
  obtain ⟨X, hX⟩ : ∃ X, X = numG q s.data.toList lo hi := ⟨_, rfl⟩
  rw [← hX] at hN ⊢
  clear hX
  go_enter Tryd.func30, Tryd.ntmps30
  go_wp2_with (go_at_call 17; refine (hN _).mono ?_; rintro e w' ⟨rfl, hb⟩)
  go_ret
  exact ⟨rfl, ((Below.refl _ _).alloc (Nat.le_refl _) _).trans (hb.mono (by simp))⟩
theorem signedL_any (s : ByteArray) (hs : s.size ≤ 100000) (w : World) :
    Calls Tryd.prog 31 #[.string s] w fun e w' => e = .returned (.tuple #[.int .i64 (sgnG false s.data.toList).1, .int .i64 (sgnG false s.data.toList).2]) ∧ Below w.heap.size w w' := by
  have hN := fun w => signed_is false s 0 hs w
  have hW := fun w => wordL_any false s 0 w
  unfold wordV at hN
  obtain ⟨X, hX⟩ : ∃ X, X = sgnG false s.data.toList := ⟨_, rfl⟩
  rw [← hX] at hN ⊢
  clear hX
  go_enter Tryd.func31, Tryd.ntmps31
  go_wp2_with (first | (go_at_call 27; refine (hW _).mono ?_; rintro e w' ⟨rfl, hb⟩) | (go_at_call 21; refine (hN _).mono ?_; rintro e w'' ⟨rfl, hb'⟩))
  go_ret2
  exact ⟨rfl, hb.trans (hb'.mono hb.size)⟩
theorem fails_any {t : List UInt8} (ht : t.length ≤ 20000) (h : readG t = .error (3, 0)) (w : World) :
    Calls Tryd.prog 28 #[.string (strOf t)] w fun e w' => e = .returned (.bool true) ∧ Below w.heap.size w w' := by
  have hR := fun w => rows_err ht h w
  clear h
  go_enter Tryd.func28, Tryd.ntmps28
  go_wp2_with (go_at_call 25; refine (hR _).mono ?_; rintro e w' ⟨rfl, hb⟩)
  go_ret
  exact ⟨rfl, hb.alloc hb.size _⟩
set_option maxHeartbeats 1000000 in
theorem single_any {t : List UInt8} {q : Bool} {x : List UInt8} (h : readG t = .ok [(0, [(q, x, 0)])]) (w : World) :
    Calls Tryd.prog 26 #[.string (strOf t), .agg #[.bool q, .string (strOf x), .int .i64 0]] w fun e w' => e = .returned (.bool true) ∧ Below w.heap.size w w' := by
  have hR := fun w => rows_ok h w
  clear h
  go_enter Tryd.func26, Tryd.ntmps26
  go_wp2_with (first | (go_at_call 25; refine (hR _).mono ?_; rintro e w' ⟨hb, A, c, rfl, hrs⟩; have hK : Blk w' w.heap.size [.bool q, .string (strOf x), .int .i64 0] := (Blk.is _ rfl).later hb; have hlt := hK.lt; have k0 := hK.cell 0 _ rfl; have k1 := hK.cell 1 _ rfl; have k2 := hK.cell 2 _ rfl; have HRS := Lib.hid hrs; have HB := Lib.hid hb; clear hrs hK hb) | (go_at_call 14; go_loud (have hone := rsl_one (w'.alloc (.cells #[.int .i64 0, .int .i64 0] 47)) q x; simp only [World.size_alloc] at hone; refine (sameRows_same _ _ (rsI [(0, [(q, x, 0)])]) _ (HRS.out.later (below3 _ _ _ _)) hone).mono ?_; rintro e w'' ⟨rfl, n, rfl⟩)))
  go_ret
  exact ⟨rfl, below_drewN (((below1 _ _).trans (HB.out.mono (by simp only [World.size_alloc]; omega))).trans ((below3 _ _ _ _).mono (by omega))) _⟩
end Go.Proofs.YtkmkhegekonbmaaDoor
