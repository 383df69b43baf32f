/- Walks: Sound and Store. -/
import Derived.Test.YtcmdndgaggbhoaaDoorEventB
namespace Go.Proofs.YtcmdndgaggbhoaaDoor.Ev
open Go.RowKit
theorem checkId_is {n c : Int} (l : Int) (h0 : 0 ≤ n) (h : checkIdI n = c) (w : World) :
    Calls Tryd.prog 39 #[idv l n] w fun e w' => e = .returned (.int .i64 c) ∧ Below w.heap.size w w' := h ▸ checkId_any l n h0 w
theorem refCheckId_is {n c : Int} (l : Int) (h0 : 0 ≤ n) (h : checkIdI n = c) (w : World) :
    Calls Tryd.prog 41 #[idv l n] w fun e w' => e = .returned (.int .i64 c) ∧ Below w.heap.size w w' := h ▸ refCheckId_any l n h0 w
theorem check_is {k c : Int} (l v : Int) (h : checkI k = c) (w : World) :
    Calls Tryd.prog 12 #[ev l k v] w fun e w' => e = .returned (.int .i64 c) ∧ Below w.heap.size w w' := h ▸ check_any l k v w
theorem refCheck_is {k c : Int} (l v : Int) (h : checkI k = c) (w : World) :
    Calls Tryd.prog 13 #[ev l k v] w fun e w' => e = .returned (.int .i64 c) ∧ Below w.heap.size w w' := h ▸ refCheck_any l k v w
set_option maxHeartbeats 1000000 in
theorem sound_any (l n o t k v : Int) (hn : 0 ≤ n) (ho : 0 ≤ o) (ht : 0 ≤ t) (w : World) :
    Calls Tryd.prog 20 #[stv l n o t k v] w fun e w' => e = .returned (.int .i64 (soundI n o t k)) ∧ Below w.heap.size w w' := by
  have hOf := fun w => evOf_any l n o t k v w
  by_cases h1 : isCountB n = true
  · have hId := checkId_is l hn (show checkIdI n = 0 by simp [checkIdI, h1])
    by_cases h2 : isKindB k = true
    · have hK := check_is l v (show checkI k = 0 by simp [checkI, h2])
      by_cases h3 : isCountB o = true
      · have hO := isCount_is ho h3
        by_cases h4 : t ≤ 1099511627776
        · rw [show soundI n o t k = 0 by simp [soundI, h1, h2, h3, h4]]
          have h5 : ¬ 1099511627776 < t := by omega
          clear h1 h2 h3 h4
          simp only [stv, ev, idv] at hOf hId hK ⊢
          go_enter Tryd.func20, Tryd.ntmps20
          go_wp2_with fail
          refine (hId _).mono ?_
          rintro e w1 ⟨rfl, hb1⟩
          have hB : Below w.heap.size w w1 := bstep (by go_grown) hb1
          have hS := Blk.later (Blk.new w [.int .u64 l, .int .u64 n, .int .u64 o, .int .u64 t, .int .i64 k, .int .i64 v] 41) hb1
          clear hb1
          have c0 := hS.cell 0 _ rfl
          have c1 := hS.cell 1 _ rfl
          have c2 := hS.cell 2 _ rfl
          have c3 := hS.cell 3 _ rfl
          have c4 := hS.cell 4 _ rfl
          have c5 := hS.cell 5 _ rfl
          go_wp2_with fail
          refine (hOf _).mono ?_
          rintro e w2 ⟨rfl, hb2⟩
          replace hB := bstep hB hb2
          replace hS := hS.later hb2
          clear hb2 c0 c1 c2 c3 c4 c5
          go_wp2_with fail
          refine (hK _).mono ?_
          rintro e w3 ⟨rfl, hb3⟩
          replace hB := bstep hB hb3
          replace hS := hS.later hb3
          clear hb3
          have c2 := hS.cell 2 _ rfl
          have c3 := hS.cell 3 _ rfl
          go_wp2_with (go_at_call 40; refine (hO _).mono ?_; rintro e w' ⟨rfl, rfl⟩)
          go_ret
          exact ⟨rfl, hB⟩
        · rw [show soundI n o t k = 2 by simp [soundI, h1, h2, h4]]
          have h5 : 1099511627776 < t := by omega
          clear h1 h2 h3 h4
          simp only [stv, ev, idv] at hOf hId hK ⊢
          go_enter Tryd.func20, Tryd.ntmps20
          go_wp2_with fail
          refine (hId _).mono ?_
          rintro e w1 ⟨rfl, hb1⟩
          have hB : Below w.heap.size w w1 := bstep (by go_grown) hb1
          have hS := Blk.later (Blk.new w [.int .u64 l, .int .u64 n, .int .u64 o, .int .u64 t, .int .i64 k, .int .i64 v] 41) hb1
          clear hb1
          have c0 := hS.cell 0 _ rfl
          have c1 := hS.cell 1 _ rfl
          have c2 := hS.cell 2 _ rfl
          have c3 := hS.cell 3 _ rfl
          have c4 := hS.cell 4 _ rfl
          have c5 := hS.cell 5 _ rfl
          go_wp2_with fail
          refine (hOf _).mono ?_
          rintro e w2 ⟨rfl, hb2⟩
          replace hB := bstep hB hb2
          replace hS := hS.later hb2
          clear hb2 c0 c1 c2 c3 c4 c5
          go_wp2_with fail
          refine (hK _).mono ?_
          rintro e w3 ⟨rfl, hb3⟩
          replace hB := bstep hB hb3
          replace hS := hS.later hb3
          clear hb3
          have c2 := hS.cell 2 _ rfl
          have c3 := hS.cell 3 _ rfl
          go_wp2_with (go_at_call 40; refine (hO _).mono ?_; rintro e w' ⟨rfl, rfl⟩)
          go_ret
          exact ⟨rfl, hB⟩
      · rw [show soundI n o t k = 2 by simp [soundI, h1, h2, h3]]
        have hO := isCount_is ho (show isCountB o = false by simpa using h3)
        clear h1 h2 h3
        simp only [stv, ev, idv] at hOf hId hK ⊢
        go_enter Tryd.func20, Tryd.ntmps20
        go_wp2_with fail
        refine (hId _).mono ?_
        rintro e w1 ⟨rfl, hb1⟩
        have hB : Below w.heap.size w w1 := bstep (by go_grown) hb1
        have hS := Blk.later (Blk.new w [.int .u64 l, .int .u64 n, .int .u64 o, .int .u64 t, .int .i64 k, .int .i64 v] 41) hb1
        clear hb1
        have c0 := hS.cell 0 _ rfl
        have c1 := hS.cell 1 _ rfl
        have c2 := hS.cell 2 _ rfl
        have c3 := hS.cell 3 _ rfl
        have c4 := hS.cell 4 _ rfl
        have c5 := hS.cell 5 _ rfl
        go_wp2_with fail
        refine (hOf _).mono ?_
        rintro e w2 ⟨rfl, hb2⟩
        replace hB := bstep hB hb2
        replace hS := hS.later hb2
        clear hb2 c0 c1 c2 c3 c4 c5
        go_wp2_with fail
        refine (hK _).mono ?_
        rintro e w3 ⟨rfl, hb3⟩
        replace hB := bstep hB hb3
        replace hS := hS.later hb3
        clear hb3
        have c2 := hS.cell 2 _ rfl
        have c3 := hS.cell 3 _ rfl
        go_wp2_with (go_at_call 40; refine (hO _).mono ?_; rintro e w' ⟨rfl, rfl⟩)
        go_ret
        exact ⟨rfl, hB⟩
    · rw [show soundI n o t k = 11 by simp [soundI, h1, h2]]
      have hK := check_is l v (show checkI k = 11 by simp [checkI, h2])
      clear h1 h2
      simp only [stv, ev, idv] at hOf hId hK ⊢
      go_enter Tryd.func20, Tryd.ntmps20
      go_wp2_with fail
      refine (hId _).mono ?_
      rintro e w1 ⟨rfl, hb1⟩
      have hB : Below w.heap.size w w1 := bstep (by go_grown) hb1
      have hS := Blk.later (Blk.new w [.int .u64 l, .int .u64 n, .int .u64 o, .int .u64 t, .int .i64 k, .int .i64 v] 41) hb1
      clear hb1
      have c0 := hS.cell 0 _ rfl
      have c1 := hS.cell 1 _ rfl
      have c2 := hS.cell 2 _ rfl
      have c3 := hS.cell 3 _ rfl
      have c4 := hS.cell 4 _ rfl
      have c5 := hS.cell 5 _ rfl
      go_wp2_with fail
      refine (hOf _).mono ?_
      rintro e w2 ⟨rfl, hb2⟩
      replace hB := bstep hB hb2
      replace hS := hS.later hb2
      clear hb2 c0 c1 c2 c3 c4 c5
      go_wp2_with fail
      refine (hK _).mono ?_
      rintro e w3 ⟨rfl, hb3⟩
      replace hB := bstep hB hb3
      replace hS := hS.later hb3
      clear hb3
      go_wp2
      go_ret
      exact ⟨rfl, hB⟩
  · rw [show soundI n o t k = 2 by simp [soundI, h1]]
    have hId := checkId_is l hn (show checkIdI n = 2 by simp [checkIdI, h1])
    clear h1 hOf
    simp only [stv, idv] at hId ⊢
    go_enter Tryd.func20, Tryd.ntmps20
    go_wp2_with fail
    refine (hId _).mono ?_
    rintro e w1 ⟨rfl, hb1⟩
    have hB : Below w.heap.size w w1 := bstep (by go_grown) hb1
    go_wp2
    go_ret
    exact ⟨rfl, hB⟩
set_option maxHeartbeats 1000000 in
theorem refSound_any (l n o t k v : Int) (hn : 0 ≤ n) (ho : 0 ≤ o) (ht : 0 ≤ t) (w : World) :
    Calls Tryd.prog 21 #[stv l n o t k v] w fun e w' => e = .returned (.int .i64 (soundI n o t k)) ∧ Below w.heap.size w w' := by
  have hOf := fun w => refEvOf_any l n o t k v w
  by_cases h1 : isCountB n = true
  · have hId := refCheckId_is l hn (show checkIdI n = 0 by simp [checkIdI, h1])
    by_cases h2 : isKindB k = true
    · have hK := refCheck_is l v (show checkI k = 0 by simp [checkI, h2])
      by_cases h3 : o < 1
      · rw [show soundI n o t k = 2 by rw [soundI, if_pos h1, if_pos h2, if_neg (fun h => by have := isCountB_iff.1 h.1; omega)]]
        clear h1 h2
        simp only [stv, ev, idv] at hOf hId hK ⊢
        go_enter Tryd.func21, Tryd.ntmps21
        go_wp2_with fail
        refine (hId _).mono ?_
        rintro e w1 ⟨rfl, hb1⟩
        have hB : Below w.heap.size w w1 := bstep (by go_grown) hb1
        have hS := Blk.later (Blk.new w [.int .u64 l, .int .u64 n, .int .u64 o, .int .u64 t, .int .i64 k, .int .i64 v] 41) hb1
        clear hb1
        have c0 := hS.cell 0 _ rfl
        have c1 := hS.cell 1 _ rfl
        have c2 := hS.cell 2 _ rfl
        have c3 := hS.cell 3 _ rfl
        have c4 := hS.cell 4 _ rfl
        have c5 := hS.cell 5 _ rfl
        go_wp2_with fail
        refine (hOf _).mono ?_
        rintro e w2 ⟨rfl, hb2⟩
        replace hB := bstep hB hb2
        replace hS := hS.later hb2
        clear hb2 c0 c1 c2 c3 c4 c5
        go_wp2_with fail
        refine (hK _).mono ?_
        rintro e w3 ⟨rfl, hb3⟩
        replace hB := bstep hB hb3
        replace hS := hS.later hb3
        clear hb3
        have c2 := hS.cell 2 _ rfl
        have c3 := hS.cell 3 _ rfl
        go_wp2
        go_ret
        exact ⟨rfl, hB⟩
      · by_cases h4 : 1099511627776 < o
        · rw [show soundI n o t k = 2 by rw [soundI, if_pos h1, if_pos h2, if_neg (fun h => by have := isCountB_iff.1 h.1; omega)]]
          clear h1 h2
          simp only [stv, ev, idv] at hOf hId hK ⊢
          go_enter Tryd.func21, Tryd.ntmps21
          go_wp2_with fail
          refine (hId _).mono ?_
          rintro e w1 ⟨rfl, hb1⟩
          have hB : Below w.heap.size w w1 := bstep (by go_grown) hb1
          have hS := Blk.later (Blk.new w [.int .u64 l, .int .u64 n, .int .u64 o, .int .u64 t, .int .i64 k, .int .i64 v] 41) hb1
          clear hb1
          have c0 := hS.cell 0 _ rfl
          have c1 := hS.cell 1 _ rfl
          have c2 := hS.cell 2 _ rfl
          have c3 := hS.cell 3 _ rfl
          have c4 := hS.cell 4 _ rfl
          have c5 := hS.cell 5 _ rfl
          go_wp2_with fail
          refine (hOf _).mono ?_
          rintro e w2 ⟨rfl, hb2⟩
          replace hB := bstep hB hb2
          replace hS := hS.later hb2
          clear hb2 c0 c1 c2 c3 c4 c5
          go_wp2_with fail
          refine (hK _).mono ?_
          rintro e w3 ⟨rfl, hb3⟩
          replace hB := bstep hB hb3
          replace hS := hS.later hb3
          clear hb3
          have c2 := hS.cell 2 _ rfl
          have c3 := hS.cell 3 _ rfl
          go_wp2
          go_ret
          exact ⟨rfl, hB⟩
        · by_cases h5 : 1099511627776 < t
          · rw [show soundI n o t k = 2 by rw [soundI, if_pos h1, if_pos h2, if_neg (fun h => by have := isCountB_iff.1 h.1; omega)]]
            clear h1 h2
            simp only [stv, ev, idv] at hOf hId hK ⊢
            go_enter Tryd.func21, Tryd.ntmps21
            go_wp2_with fail
            refine (hId _).mono ?_
            rintro e w1 ⟨rfl, hb1⟩
            have hB : Below w.heap.size w w1 := bstep (by go_grown) hb1
            have hS := Blk.later (Blk.new w [.int .u64 l, .int .u64 n, .int .u64 o, .int .u64 t, .int .i64 k, .int .i64 v] 41) hb1
            clear hb1
            have c0 := hS.cell 0 _ rfl
            have c1 := hS.cell 1 _ rfl
            have c2 := hS.cell 2 _ rfl
            have c3 := hS.cell 3 _ rfl
            have c4 := hS.cell 4 _ rfl
            have c5 := hS.cell 5 _ rfl
            go_wp2_with fail
            refine (hOf _).mono ?_
            rintro e w2 ⟨rfl, hb2⟩
            replace hB := bstep hB hb2
            replace hS := hS.later hb2
            clear hb2 c0 c1 c2 c3 c4 c5
            go_wp2_with fail
            refine (hK _).mono ?_
            rintro e w3 ⟨rfl, hb3⟩
            replace hB := bstep hB hb3
            replace hS := hS.later hb3
            clear hb3
            have c2 := hS.cell 2 _ rfl
            have c3 := hS.cell 3 _ rfl
            go_wp2
            go_ret
            exact ⟨rfl, hB⟩
          · rw [show soundI n o t k = 0 by rw [soundI, if_pos h1, if_pos h2, if_pos ⟨isCountB_iff.2 (by omega), by omega⟩]]
            clear h1 h2
            simp only [stv, ev, idv] at hOf hId hK ⊢
            go_enter Tryd.func21, Tryd.ntmps21
            go_wp2_with fail
            refine (hId _).mono ?_
            rintro e w1 ⟨rfl, hb1⟩
            have hB : Below w.heap.size w w1 := bstep (by go_grown) hb1
            have hS := Blk.later (Blk.new w [.int .u64 l, .int .u64 n, .int .u64 o, .int .u64 t, .int .i64 k, .int .i64 v] 41) hb1
            clear hb1
            have c0 := hS.cell 0 _ rfl
            have c1 := hS.cell 1 _ rfl
            have c2 := hS.cell 2 _ rfl
            have c3 := hS.cell 3 _ rfl
            have c4 := hS.cell 4 _ rfl
            have c5 := hS.cell 5 _ rfl
            go_wp2_with fail
            refine (hOf _).mono ?_
            rintro e w2 ⟨rfl, hb2⟩
            replace hB := bstep hB hb2
            replace hS := hS.later hb2
            clear hb2 c0 c1 c2 c3 c4 c5
            go_wp2_with fail
            refine (hK _).mono ?_
            rintro e w3 ⟨rfl, hb3⟩
            replace hB := bstep hB hb3
            replace hS := hS.later hb3
            clear hb3
            have c2 := hS.cell 2 _ rfl
            have c3 := hS.cell 3 _ rfl
            go_wp2
            go_ret
            exact ⟨rfl, hB⟩
    · rw [show soundI n o t k = 11 by simp [soundI, h1, h2]]
      have hK := refCheck_is l v (show checkI k = 11 by simp [checkI, h2])
      clear h1 h2
      simp only [stv, ev, idv] at hOf hId hK ⊢
      go_enter Tryd.func21, Tryd.ntmps21
      go_wp2_with fail
      refine (hId _).mono ?_
      rintro e w1 ⟨rfl, hb1⟩
      have hB : Below w.heap.size w w1 := bstep (by go_grown) hb1
      have hS := Blk.later (Blk.new w [.int .u64 l, .int .u64 n, .int .u64 o, .int .u64 t, .int .i64 k, .int .i64 v] 41) hb1
      clear hb1
      have c0 := hS.cell 0 _ rfl
      have c1 := hS.cell 1 _ rfl
      have c2 := hS.cell 2 _ rfl
      have c3 := hS.cell 3 _ rfl
      have c4 := hS.cell 4 _ rfl
      have c5 := hS.cell 5 _ rfl
      go_wp2_with fail
      refine (hOf _).mono ?_
      rintro e w2 ⟨rfl, hb2⟩
      replace hB := bstep hB hb2
      replace hS := hS.later hb2
      clear hb2 c0 c1 c2 c3 c4 c5
      go_wp2_with fail
      refine (hK _).mono ?_
      rintro e w3 ⟨rfl, hb3⟩
      replace hB := bstep hB hb3
      replace hS := hS.later hb3
      clear hb3
      go_wp2
      go_ret
      exact ⟨rfl, hB⟩
  · rw [show soundI n o t k = 2 by simp [soundI, h1]]
    have hId := refCheckId_is l hn (show checkIdI n = 2 by simp [checkIdI, h1])
    clear h1 hOf
    simp only [stv, idv] at hId ⊢
    go_enter Tryd.func21, Tryd.ntmps21
    go_wp2_with fail
    refine (hId _).mono ?_
    rintro e w1 ⟨rfl, hb1⟩
    have hB : Below w.heap.size w w1 := bstep (by go_grown) hb1
    go_wp2
    go_ret
    exact ⟨rfl, hB⟩
/-- What Store gives. -/
def storeV (l k v n o t : Int) : Value :=
  if isKindB k = true then (if soundI n o t k = 0 then .tuple #[stv l n o t k v, .int .i64 0] else .tuple #[stv 0 0 0 0 0 0, .int .i64 (soundI n o t k)]) else .tuple #[stv 0 0 0 0 0 0, .int .i64 11]
theorem sound_is {n o t k c : Int} (l v : Int) (hn : 0 ≤ n) (ho : 0 ≤ o) (ht : 0 ≤ t) (h : soundI n o t k = c) (w : World) :
    Calls Tryd.prog 20 #[stv l n o t k v] w fun e w' => e = .returned (.int .i64 c) ∧ Below w.heap.size w w' := h ▸ sound_any l n o t k v hn ho ht w
set_option maxHeartbeats 1000000 in
theorem store_any (l k v n o t : Int) (hn : 0 ≤ n) (ho : 0 ≤ o) (ht : 0 ≤ t) (w : World) :
    Calls Tryd.prog 18 #[ev l k v, .int .u64 n, .int .u64 o, .int .u64 t] w fun e w' => e = .returned (storeV l k v n o t) ∧ Below w.heap.size w w' := by
  by_cases h1 : isKindB k = true
  · have hK := check_is l v (show checkI k = 0 by simp [checkI, h1])
    by_cases h2 : soundI n o t k = 0
    · have hO := sound_is l v hn ho ht h2
      rw [show storeV l k v n o t = .tuple #[stv l n o t k v, .int .i64 0] by simp [storeV, h1, h2]]
      clear h1 h2
      simp only [stv, ev] at hK hO ⊢
      go_enter Tryd.func18, Tryd.ntmps18
      go_wp2_with fail
      refine named fun W hW => ?_
      have hB : Below w.heap.size w W := by rw [hW]; go_grown
      have hS : Blk W (w.heap.size + 1) [.int .u64 0, .int .u64 0, .int .u64 0, .int .u64 0, .int .i64 0, .int .i64 0] := by rw [hW]; exact Blk.is _ (by simp)
      have hE : Blk W w.heap.size [.int .u64 l, .int .i64 k, .int .i64 v] := by rw [hW]; exact (Blk.is _ rfl).alloc _
      clear hW
      refine (hK _).mono ?_
      rintro e w1 ⟨rfl, hb1⟩
      replace hB := bstep hB hb1
      replace hS := hS.later hb1
      replace hE := hE.later hb1
      clear hb1
      have c0 := hE.cell 0 _ rfl
      have c1 := hE.cell 1 _ rfl
      have c2 := hE.cell 2 _ rfl
      go_wp2_with fail
      refine named fun W hW => ?_
      have hlt := hS.lt
      replace hB : Below w.heap.size w W := by rw [hW]; exact hB.alloc hB.size _
      replace hS : Blk W (w.heap.size + 1) [.int .u64 0, .int .u64 0, .int .u64 0, .int .u64 0, .int .i64 0, .int .i64 0] := by rw [hW]; exact hS.alloc _
      have hN : Blk W w1.heap.size [.int .u64 l, .int .u64 n, .int .u64 o, .int .u64 t, .int .i64 k, .int .i64 v] := by rw [hW]; exact Blk.is _ rfl
      obtain ⟨b, hb⟩ : ∃ b, b = w1.heap.size := ⟨_, rfl⟩
      rw [← hb] at hN hlt ⊢
      clear hW hb c0 c1 c2 hE
      refine (hO _).mono ?_
      rintro e w2 ⟨rfl, hb2⟩
      replace hB := bstep hB hb2
      replace hS := hS.later hb2
      replace hN := hN.later hb2
      clear hb2
      have d0 := hN.cell 0 _ rfl
      have d1 := hN.cell 1 _ rfl
      have d2 := hN.cell 2 _ rfl
      have d3 := hN.cell 3 _ rfl
      have d4 := hN.cell 4 _ rfl
      have d5 := hN.cell 5 _ rfl
      have hltS := hS.lt
      have e0 := hS.cell 0 _ rfl
      have f0 := hS.fr 0 _ rfl
      have e1 := hS.cell 1 _ rfl
      have f1 := hS.fr 1 _ rfl
      have e2 := hS.cell 2 _ rfl
      have f2 := hS.fr 2 _ rfl
      have e3 := hS.cell 3 _ rfl
      have f3 := hS.fr 3 _ rfl
      have e4 := hS.cell 4 _ rfl
      have f4 := hS.fr 4 _ rfl
      have e5 := hS.cell 5 _ rfl
      have f5 := hS.fr 5 _ rfl
      go_wp2
      refine named_post fun V hV => ?_
      have hVS : Blk V (w.heap.size + 1) [.int .u64 l, .int .u64 n, .int .u64 o, .int .u64 t, .int .i64 k, .int .i64 v] := by rw [hV]; exact (((((hS.set 0 _).set 1 _).set 2 _).set 3 _).set 4 _).set 5 _
      have hVB : Below w.heap.size w V := by rw [hV]; exact ((((((hB).setCell (p := ⟨w.heap.size + 1, 0, none⟩) (by simp) _).setCell (p := ⟨w.heap.size + 1, 1, none⟩) (by simp) _).setCell (p := ⟨w.heap.size + 1, 2, none⟩) (by simp) _).setCell (p := ⟨w.heap.size + 1, 3, none⟩) (by simp) _).setCell (p := ⟨w.heap.size + 1, 4, none⟩) (by simp) _).setCell (p := ⟨w.heap.size + 1, 5, none⟩) (by simp) _
      clear hV e0 f0 e1 f1 e2 f2 e3 f3 e4 f4 e5 f5
      have e0 := hVS.cell 0 _ rfl
      have e1 := hVS.cell 1 _ rfl
      have e2 := hVS.cell 2 _ rfl
      have e3 := hVS.cell 3 _ rfl
      have e4 := hVS.cell 4 _ rfl
      have e5 := hVS.cell 5 _ rfl
      refine bodyPost_ret (by simp [results, Tryd.results18, go_sem, e0, e1, e2, e3, e4, e5]; try rfl) rfl ?_
      exact ⟨rfl, hVB⟩
    · obtain ⟨c, hc⟩ : ∃ c, soundI n o t k = c := ⟨_, rfl⟩
      have hO := sound_is l v hn ho ht hc
      rw [show storeV l k v n o t = .tuple #[stv 0 0 0 0 0 0, .int .i64 c] by rw [storeV, if_pos h1, if_neg h2, hc]]
      rw [hc] at h2
      clear h1 hc
      simp only [stv, ev] at hK hO ⊢
      go_enter Tryd.func18, Tryd.ntmps18
      go_wp2_with fail
      refine named fun W hW => ?_
      have hB : Below w.heap.size w W := by rw [hW]; go_grown
      have hS : Blk W (w.heap.size + 1) [.int .u64 0, .int .u64 0, .int .u64 0, .int .u64 0, .int .i64 0, .int .i64 0] := by rw [hW]; exact Blk.is _ (by simp)
      have hE : Blk W w.heap.size [.int .u64 l, .int .i64 k, .int .i64 v] := by rw [hW]; exact (Blk.is _ rfl).alloc _
      clear hW
      refine (hK _).mono ?_
      rintro e w1 ⟨rfl, hb1⟩
      replace hB := bstep hB hb1
      replace hS := hS.later hb1
      replace hE := hE.later hb1
      clear hb1
      have c0 := hE.cell 0 _ rfl
      have c1 := hE.cell 1 _ rfl
      have c2 := hE.cell 2 _ rfl
      go_wp2_with fail
      refine named fun W hW => ?_
      have hlt := hS.lt
      replace hB : Below w.heap.size w W := by rw [hW]; exact hB.alloc hB.size _
      replace hS : Blk W (w.heap.size + 1) [.int .u64 0, .int .u64 0, .int .u64 0, .int .u64 0, .int .i64 0, .int .i64 0] := by rw [hW]; exact hS.alloc _
      have hN : Blk W w1.heap.size [.int .u64 l, .int .u64 n, .int .u64 o, .int .u64 t, .int .i64 k, .int .i64 v] := by rw [hW]; exact Blk.is _ rfl
      obtain ⟨b, hb⟩ : ∃ b, b = w1.heap.size := ⟨_, rfl⟩
      rw [← hb] at hN hlt ⊢
      clear hW hb c0 c1 c2 hE
      refine (hO _).mono ?_
      rintro e w2 ⟨rfl, hb2⟩
      replace hB := bstep hB hb2
      replace hS := hS.later hb2
      replace hN := hN.later hb2
      clear hb2
      have hltS := hS.lt
      have e0 := hS.cell 0 _ rfl
      have f0 := hS.fr 0 _ rfl
      have e1 := hS.cell 1 _ rfl
      have f1 := hS.fr 1 _ rfl
      have e2 := hS.cell 2 _ rfl
      have f2 := hS.fr 2 _ rfl
      have e3 := hS.cell 3 _ rfl
      have f3 := hS.fr 3 _ rfl
      have e4 := hS.cell 4 _ rfl
      have f4 := hS.fr 4 _ rfl
      have e5 := hS.cell 5 _ rfl
      have f5 := hS.fr 5 _ rfl
      go_wp2
      refine named_post fun V hV => ?_
      have hVS : Blk V (w.heap.size + 1) [.int .u64 0, .int .u64 0, .int .u64 0, .int .u64 0, .int .i64 0, .int .i64 0] := by rw [hV]; exact (((((hS.set 0 _).set 1 _).set 2 _).set 3 _).set 4 _).set 5 _
      have hVB : Below w.heap.size w V := by rw [hV]; exact ((((((hB).setCell (p := ⟨w.heap.size + 1, 0, none⟩) (by simp) _).setCell (p := ⟨w.heap.size + 1, 1, none⟩) (by simp) _).setCell (p := ⟨w.heap.size + 1, 2, none⟩) (by simp) _).setCell (p := ⟨w.heap.size + 1, 3, none⟩) (by simp) _).setCell (p := ⟨w.heap.size + 1, 4, none⟩) (by simp) _).setCell (p := ⟨w.heap.size + 1, 5, none⟩) (by simp) _
      clear hV e0 f0 e1 f1 e2 f2 e3 f3 e4 f4 e5 f5
      have e0 := hVS.cell 0 _ rfl
      have e1 := hVS.cell 1 _ rfl
      have e2 := hVS.cell 2 _ rfl
      have e3 := hVS.cell 3 _ rfl
      have e4 := hVS.cell 4 _ rfl
      have e5 := hVS.cell 5 _ rfl
      refine bodyPost_ret (by simp [results, Tryd.results18, go_sem, e0, e1, e2, e3, e4, e5]; try rfl) rfl ?_
      exact ⟨rfl, hVB⟩
  · have hK := check_is l v (show checkI k = 11 by simp [checkI, h1])
    rw [show storeV l k v n o t = .tuple #[stv 0 0 0 0 0 0, .int .i64 11] by simp [storeV, h1]]
    clear h1
    simp only [stv, ev] at hK ⊢
    go_enter Tryd.func18, Tryd.ntmps18
    go_wp2_with fail
    refine named fun W hW => ?_
    have hB : Below w.heap.size w W := by rw [hW]; go_grown
    have hS : Blk W (w.heap.size + 1) [.int .u64 0, .int .u64 0, .int .u64 0, .int .u64 0, .int .i64 0, .int .i64 0] := by rw [hW]; exact Blk.is _ (by simp)
    have hE : Blk W w.heap.size [.int .u64 l, .int .i64 k, .int .i64 v] := by rw [hW]; exact (Blk.is _ rfl).alloc _
    clear hW
    refine (hK _).mono ?_
    rintro e w1 ⟨rfl, hb1⟩
    replace hB := bstep hB hb1
    replace hS := hS.later hb1
    replace hE := hE.later hb1
    clear hb1
    have hltS := hS.lt
    have e0 := hS.cell 0 _ rfl
    have f0 := hS.fr 0 _ rfl
    have e1 := hS.cell 1 _ rfl
    have f1 := hS.fr 1 _ rfl
    have e2 := hS.cell 2 _ rfl
    have f2 := hS.fr 2 _ rfl
    have e3 := hS.cell 3 _ rfl
    have f3 := hS.fr 3 _ rfl
    have e4 := hS.cell 4 _ rfl
    have f4 := hS.fr 4 _ rfl
    have e5 := hS.cell 5 _ rfl
    have f5 := hS.fr 5 _ rfl
    go_wp2
    refine named_post fun V hV => ?_
    have hVS : Blk V (w.heap.size + 1) [.int .u64 0, .int .u64 0, .int .u64 0, .int .u64 0, .int .i64 0, .int .i64 0] := by rw [hV]; exact (((((hS.set 0 _).set 1 _).set 2 _).set 3 _).set 4 _).set 5 _
    have hVB : Below w.heap.size w V := by rw [hV]; exact ((((((hB).setCell (p := ⟨w.heap.size + 1, 0, none⟩) (by simp) _).setCell (p := ⟨w.heap.size + 1, 1, none⟩) (by simp) _).setCell (p := ⟨w.heap.size + 1, 2, none⟩) (by simp) _).setCell (p := ⟨w.heap.size + 1, 3, none⟩) (by simp) _).setCell (p := ⟨w.heap.size + 1, 4, none⟩) (by simp) _).setCell (p := ⟨w.heap.size + 1, 5, none⟩) (by simp) _
    clear hV e0 f0 e1 f1 e2 f2 e3 f3 e4 f4 e5 f5
    have e0 := hVS.cell 0 _ rfl
    have e1 := hVS.cell 1 _ rfl
    have e2 := hVS.cell 2 _ rfl
    have e3 := hVS.cell 3 _ rfl
    have e4 := hVS.cell 4 _ rfl
    have e5 := hVS.cell 5 _ rfl
    refine bodyPost_ret (by simp [results, Tryd.results18, go_sem, e0, e1, e2, e3, e4, e5]; try rfl) rfl ?_
    exact ⟨rfl, hVB⟩
theorem refSound_is {n o t k c : Int} (l v : Int) (hn : 0 ≤ n) (ho : 0 ≤ o) (ht : 0 ≤ t) (h : soundI n o t k = c) (w : World) :
    Calls Tryd.prog 21 #[stv l n o t k v] w fun e w' => e = .returned (.int .i64 c) ∧ Below w.heap.size w w' := h ▸ refSound_any l n o t k v hn ho ht w
set_option maxHeartbeats 1000000 in
theorem refStore_any (l k v n o t : Int) (hn : 0 ≤ n) (ho : 0 ≤ o) (ht : 0 ≤ t) (w : World) :
    Calls Tryd.prog 19 #[ev l k v, .int .u64 n, .int .u64 o, .int .u64 t] w fun e w' => e = .returned (storeV l k v n o t) ∧ Below w.heap.size w w' := by
  by_cases h1 : isKindB k = true
  · have hK := refCheck_is l v (show checkI k = 0 by simp [checkI, h1])
    by_cases h2 : soundI n o t k = 0
    · have hO := refSound_is l v hn ho ht h2
      rw [show storeV l k v n o t = .tuple #[stv l n o t k v, .int .i64 0] by simp [storeV, h1, h2]]
      clear h1 h2
      simp only [stv, ev] at hK hO ⊢
      go_enter Tryd.func19, Tryd.ntmps19
      go_wp2_with fail
      refine named fun W hW => ?_
      have hB : Below w.heap.size w W := by rw [hW]; go_grown
      have hS : Blk W (w.heap.size + 1) [.int .u64 0, .int .u64 0, .int .u64 0, .int .u64 0, .int .i64 0, .int .i64 0] := by rw [hW]; exact Blk.is _ (by simp)
      have hE : Blk W w.heap.size [.int .u64 l, .int .i64 k, .int .i64 v] := by rw [hW]; exact (Blk.is _ rfl).alloc _
      clear hW
      refine (hK _).mono ?_
      rintro e w1 ⟨rfl, hb1⟩
      replace hB := bstep hB hb1
      replace hS := hS.later hb1
      replace hE := hE.later hb1
      clear hb1
      have c0 := hE.cell 0 _ rfl
      have c1 := hE.cell 1 _ rfl
      have c2 := hE.cell 2 _ rfl
      go_wp2_with fail
      refine named fun W hW => ?_
      have hlt := hS.lt
      replace hB : Below w.heap.size w W := by rw [hW]; exact hB.alloc hB.size _
      replace hS : Blk W (w.heap.size + 1) [.int .u64 0, .int .u64 0, .int .u64 0, .int .u64 0, .int .i64 0, .int .i64 0] := by rw [hW]; exact hS.alloc _
      have hN : Blk W w1.heap.size [.int .u64 l, .int .u64 n, .int .u64 o, .int .u64 t, .int .i64 k, .int .i64 v] := by rw [hW]; exact Blk.is _ rfl
      obtain ⟨b, hb⟩ : ∃ b, b = w1.heap.size := ⟨_, rfl⟩
      rw [← hb] at hN hlt ⊢
      clear hW hb c0 c1 c2 hE
      refine (hO _).mono ?_
      rintro e w2 ⟨rfl, hb2⟩
      replace hB := bstep hB hb2
      replace hS := hS.later hb2
      replace hN := hN.later hb2
      clear hb2
      have d0 := hN.cell 0 _ rfl
      have d1 := hN.cell 1 _ rfl
      have d2 := hN.cell 2 _ rfl
      have d3 := hN.cell 3 _ rfl
      have d4 := hN.cell 4 _ rfl
      have d5 := hN.cell 5 _ rfl
      have hltS := hS.lt
      have e0 := hS.cell 0 _ rfl
      have f0 := hS.fr 0 _ rfl
      have e1 := hS.cell 1 _ rfl
      have f1 := hS.fr 1 _ rfl
      have e2 := hS.cell 2 _ rfl
      have f2 := hS.fr 2 _ rfl
      have e3 := hS.cell 3 _ rfl
      have f3 := hS.fr 3 _ rfl
      have e4 := hS.cell 4 _ rfl
      have f4 := hS.fr 4 _ rfl
      have e5 := hS.cell 5 _ rfl
      have f5 := hS.fr 5 _ rfl
      go_wp2
      refine named_post fun V hV => ?_
      have hVS : Blk V (w.heap.size + 1) [.int .u64 l, .int .u64 n, .int .u64 o, .int .u64 t, .int .i64 k, .int .i64 v] := by rw [hV]; exact (((((hS.set 0 _).set 1 _).set 2 _).set 3 _).set 4 _).set 5 _
      have hVB : Below w.heap.size w V := by rw [hV]; exact ((((((hB).setCell (p := ⟨w.heap.size + 1, 0, none⟩) (by simp) _).setCell (p := ⟨w.heap.size + 1, 1, none⟩) (by simp) _).setCell (p := ⟨w.heap.size + 1, 2, none⟩) (by simp) _).setCell (p := ⟨w.heap.size + 1, 3, none⟩) (by simp) _).setCell (p := ⟨w.heap.size + 1, 4, none⟩) (by simp) _).setCell (p := ⟨w.heap.size + 1, 5, none⟩) (by simp) _
      clear hV e0 f0 e1 f1 e2 f2 e3 f3 e4 f4 e5 f5
      have e0 := hVS.cell 0 _ rfl
      have e1 := hVS.cell 1 _ rfl
      have e2 := hVS.cell 2 _ rfl
      have e3 := hVS.cell 3 _ rfl
      have e4 := hVS.cell 4 _ rfl
      have e5 := hVS.cell 5 _ rfl
      refine bodyPost_ret (by simp [results, Tryd.results19, go_sem, e0, e1, e2, e3, e4, e5]; try rfl) rfl ?_
      exact ⟨rfl, hVB⟩
    · obtain ⟨c, hc⟩ : ∃ c, soundI n o t k = c := ⟨_, rfl⟩
      have hO := refSound_is l v hn ho ht hc
      rw [show storeV l k v n o t = .tuple #[stv 0 0 0 0 0 0, .int .i64 c] by rw [storeV, if_pos h1, if_neg h2, hc]]
      rw [hc] at h2
      clear h1 hc
      simp only [stv, ev] at hK hO ⊢
      go_enter Tryd.func19, Tryd.ntmps19
      go_wp2_with fail
      refine named fun W hW => ?_
      have hB : Below w.heap.size w W := by rw [hW]; go_grown
      have hS : Blk W (w.heap.size + 1) [.int .u64 0, .int .u64 0, .int .u64 0, .int .u64 0, .int .i64 0, .int .i64 0] := by rw [hW]; exact Blk.is _ (by simp)
      have hE : Blk W w.heap.size [.int .u64 l, .int .i64 k, .int .i64 v] := by rw [hW]; exact (Blk.is _ rfl).alloc _
      clear hW
      refine (hK _).mono ?_
      rintro e w1 ⟨rfl, hb1⟩
      replace hB := bstep hB hb1
      replace hS := hS.later hb1
      replace hE := hE.later hb1
      clear hb1
      have c0 := hE.cell 0 _ rfl
      have c1 := hE.cell 1 _ rfl
      have c2 := hE.cell 2 _ rfl
      go_wp2_with fail
      refine named fun W hW => ?_
      have hlt := hS.lt
      replace hB : Below w.heap.size w W := by rw [hW]; exact hB.alloc hB.size _
      replace hS : Blk W (w.heap.size + 1) [.int .u64 0, .int .u64 0, .int .u64 0, .int .u64 0, .int .i64 0, .int .i64 0] := by rw [hW]; exact hS.alloc _
      have hN : Blk W w1.heap.size [.int .u64 l, .int .u64 n, .int .u64 o, .int .u64 t, .int .i64 k, .int .i64 v] := by rw [hW]; exact Blk.is _ rfl
      obtain ⟨b, hb⟩ : ∃ b, b = w1.heap.size := ⟨_, rfl⟩
      rw [← hb] at hN hlt ⊢
      clear hW hb c0 c1 c2 hE
      refine (hO _).mono ?_
      rintro e w2 ⟨rfl, hb2⟩
      replace hB := bstep hB hb2
      replace hS := hS.later hb2
      replace hN := hN.later hb2
      clear hb2
      have hltS := hS.lt
      have e0 := hS.cell 0 _ rfl
      have f0 := hS.fr 0 _ rfl
      have e1 := hS.cell 1 _ rfl
      have f1 := hS.fr 1 _ rfl
      have e2 := hS.cell 2 _ rfl
      have f2 := hS.fr 2 _ rfl
      have e3 := hS.cell 3 _ rfl
      have f3 := hS.fr 3 _ rfl
      have e4 := hS.cell 4 _ rfl
      have f4 := hS.fr 4 _ rfl
      have e5 := hS.cell 5 _ rfl
      have f5 := hS.fr 5 _ rfl
      go_wp2
      refine named_post fun V hV => ?_
      have hVS : Blk V (w.heap.size + 1) [.int .u64 0, .int .u64 0, .int .u64 0, .int .u64 0, .int .i64 0, .int .i64 0] := by rw [hV]; exact (((((hS.set 0 _).set 1 _).set 2 _).set 3 _).set 4 _).set 5 _
      have hVB : Below w.heap.size w V := by rw [hV]; exact ((((((hB).setCell (p := ⟨w.heap.size + 1, 0, none⟩) (by simp) _).setCell (p := ⟨w.heap.size + 1, 1, none⟩) (by simp) _).setCell (p := ⟨w.heap.size + 1, 2, none⟩) (by simp) _).setCell (p := ⟨w.heap.size + 1, 3, none⟩) (by simp) _).setCell (p := ⟨w.heap.size + 1, 4, none⟩) (by simp) _).setCell (p := ⟨w.heap.size + 1, 5, none⟩) (by simp) _
      clear hV e0 f0 e1 f1 e2 f2 e3 f3 e4 f4 e5 f5
      have e0 := hVS.cell 0 _ rfl
      have e1 := hVS.cell 1 _ rfl
      have e2 := hVS.cell 2 _ rfl
      have e3 := hVS.cell 3 _ rfl
      have e4 := hVS.cell 4 _ rfl
      have e5 := hVS.cell 5 _ rfl
      refine bodyPost_ret (by simp [results, Tryd.results19, go_sem, e0, e1, e2, e3, e4, e5]; try rfl) rfl ?_
      exact ⟨rfl, hVB⟩
  · have hK := refCheck_is l v (show checkI k = 11 by simp [checkI, h1])
    rw [show storeV l k v n o t = .tuple #[stv 0 0 0 0 0 0, .int .i64 11] by simp [storeV, h1]]
    clear h1
    simp only [stv, ev] at hK ⊢
    go_enter Tryd.func19, Tryd.ntmps19
    go_wp2_with fail
    refine named fun W hW => ?_
    have hB : Below w.heap.size w W := by rw [hW]; go_grown
    have hS : Blk W (w.heap.size + 1) [.int .u64 0, .int .u64 0, .int .u64 0, .int .u64 0, .int .i64 0, .int .i64 0] := by rw [hW]; exact Blk.is _ (by simp)
    have hE : Blk W w.heap.size [.int .u64 l, .int .i64 k, .int .i64 v] := by rw [hW]; exact (Blk.is _ rfl).alloc _
    clear hW
    refine (hK _).mono ?_
    rintro e w1 ⟨rfl, hb1⟩
    replace hB := bstep hB hb1
    replace hS := hS.later hb1
    replace hE := hE.later hb1
    clear hb1
    have hltS := hS.lt
    have e0 := hS.cell 0 _ rfl
    have f0 := hS.fr 0 _ rfl
    have e1 := hS.cell 1 _ rfl
    have f1 := hS.fr 1 _ rfl
    have e2 := hS.cell 2 _ rfl
    have f2 := hS.fr 2 _ rfl
    have e3 := hS.cell 3 _ rfl
    have f3 := hS.fr 3 _ rfl
    have e4 := hS.cell 4 _ rfl
    have f4 := hS.fr 4 _ rfl
    have e5 := hS.cell 5 _ rfl
    have f5 := hS.fr 5 _ rfl
    go_wp2
    refine named_post fun V hV => ?_
    have hVS : Blk V (w.heap.size + 1) [.int .u64 0, .int .u64 0, .int .u64 0, .int .u64 0, .int .i64 0, .int .i64 0] := by rw [hV]; exact (((((hS.set 0 _).set 1 _).set 2 _).set 3 _).set 4 _).set 5 _
    have hVB : Below w.heap.size w V := by rw [hV]; exact ((((((hB).setCell (p := ⟨w.heap.size + 1, 0, none⟩) (by simp) _).setCell (p := ⟨w.heap.size + 1, 1, none⟩) (by simp) _).setCell (p := ⟨w.heap.size + 1, 2, none⟩) (by simp) _).setCell (p := ⟨w.heap.size + 1, 3, none⟩) (by simp) _).setCell (p := ⟨w.heap.size + 1, 4, none⟩) (by simp) _).setCell (p := ⟨w.heap.size + 1, 5, none⟩) (by simp) _
    clear hV e0 f0 e1 f1 e2 f2 e3 f3 e4 f4 e5 f5
    have e0 := hVS.cell 0 _ rfl
    have e1 := hVS.cell 1 _ rfl
    have e2 := hVS.cell 2 _ rfl
    have e3 := hVS.cell 3 _ rfl
    have e4 := hVS.cell 4 _ rfl
    have e5 := hVS.cell 5 _ rfl
    refine bodyPost_ret (by simp [results, Tryd.results19, go_sem, e0, e1, e2, e3, e4, e5]; try rfl) rfl ?_
    exact ⟨rfl, hVB⟩
end Go.Proofs.YtcmdndgaggbhoaaDoor.Ev
