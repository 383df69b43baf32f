/- Walk: whether a query is sound. Made by program (wip/tools/gen_astK.py). -/
import Derived.Test.YtfibmdbplfghcaaGreatDoorAstH
import Derived.Test.YtfibmdbplfghcaaGreatDoorAstF
namespace Go.Proofs.YtfibmdbplfghcaaGreatDoor
open Go.RowKit
open A8 Tk7

/-- A query, and the slices that hold it. -/
structure GQ where
  t : Tr
  wi : Int
  sh : Value
  hv : List Hv
  se : Value
  em : List Ag
def GQ.qu (q : GQ) : Qu := ⟨q.t.nd, q.wi, q.hv, q.em⟩
def GQ.row (q : GQ) : List Value := q.t.row ++ [.int .u64 q.wi, q.sh, q.se]
structure QW (w : World) (q : GQ) : Prop where
  tr : TrW w q.t
  wi : 0 ≤ q.wi ∧ q.wi < 18446744073709551616
  hv : Sl w 4 q.hv.length q.sh (q.hv.flatMap hvC)
  em : Sl w 2 q.em.length q.se (q.em.flatMap agC)
  okh : ∀ h ∈ q.hv, okC h.cn ∧ okV h.ag.fn
  oke : ∀ a ∈ q.em, okV a.fn
theorem QW.later {w w' : World} {q : GQ} (h : QW w q) (hb : Below w.heap.size w w') : QW w' q := ⟨h.tr.later hb, h.wi, h.hv.later hb, h.em.later hb, h.okh, h.oke⟩

set_option maxRecDepth 100000 in
set_option maxHeartbeats 2000000 in
theorem check_s (k mn mx kd : Int) (bd : Bool) (bn : Int) (sc : Value) (nm : ByteArray) (sk : Value) (wi : Int) (sh se : Value) (w : World)
    (hS : ∀ w', Below w.heap.size w w' → Calls Tryz.prog 16 #[.agg #[.int .i64 k, .int .i64 mn, .int .i64 mx, .int .i64 kd, .bool bd, .int .u64 bn, sc, .string nm, sk]] w' fun e w'' => e = .returned (.int .i64 3) ∧ Below w'.heap.size w' w'') :
    Calls Tryz.prog 14 #[.agg #[.int .i64 k, .int .i64 mn, .int .i64 mx, .int .i64 kd, .bool bd, .int .u64 bn, sc, .string nm, sk, .int .u64 wi, sh, se]] w fun e w' => e = .returned (.int .i64 3) ∧ Below w.heap.size w w' := by
  have hbx : ∀ w1, Below (w.alloc (.cells #[.int .i64 k, .int .i64 mn, .int .i64 mx, .int .i64 kd, .bool bd, .int .u64 bn, sc, .string nm, sk, .int .u64 wi, sh, se] 32)).heap.size (w.alloc (.cells #[.int .i64 k, .int .i64 mn, .int .i64 mx, .int .i64 kd, .bool bd, .int .u64 bn, sc, .string nm, sk, .int .u64 wi, sh, se] 32)) w1 → Blk w1 w.heap.size [.int .i64 k, .int .i64 mn, .int .i64 mx, .int .i64 kd, .bool bd, .int .u64 bn, sc, .string nm, sk, .int .u64 wi, sh, se] := fun w1 hb => (Blk.new w [.int .i64 k, .int .i64 mn, .int .i64 mx, .int .i64 kd, .bool bd, .int .u64 bn, sc, .string nm, sk, .int .u64 wi, sh, se] 32).later hb
  go_enter Tryz.func14, Tryz.ntmps14
  go_wp2_with (first | (go_at_call 16; refine (hS _ (b1 _ _)).mono ?_; rintro e w3 ⟨rfl, hb3⟩; have HX := hbx _ hb3; have c9 := HX.cell 9 _ rfl; have c10 := HX.cell 10 _ rfl; have c11 := HX.cell 11 _ rfl; clear HX))
  go_ret
  exact ⟨rfl, bstep (b1 _ _) hb3⟩

set_option maxRecDepth 100000 in
set_option maxHeartbeats 2000000 in
theorem check_w (k mn mx kd : Int) (bd : Bool) (bn : Int) (sc : Value) (nm : ByteArray) (sk : Value) (wi : Int) (sh se : Value) (w : World)
    (hS : ∀ w', Below w.heap.size w w' → Calls Tryz.prog 16 #[.agg #[.int .i64 k, .int .i64 mn, .int .i64 mx, .int .i64 kd, .bool bd, .int .u64 bn, sc, .string nm, sk]] w' fun e w'' => e = .returned (.int .i64 0) ∧ Below w'.heap.size w' w'') (hw : 99999 < wi) :
    Calls Tryz.prog 14 #[.agg #[.int .i64 k, .int .i64 mn, .int .i64 mx, .int .i64 kd, .bool bd, .int .u64 bn, sc, .string nm, sk, .int .u64 wi, sh, se]] w fun e w' => e = .returned (.int .i64 3) ∧ Below w.heap.size w w' := by
  have hbx : ∀ w1, Below (w.alloc (.cells #[.int .i64 k, .int .i64 mn, .int .i64 mx, .int .i64 kd, .bool bd, .int .u64 bn, sc, .string nm, sk, .int .u64 wi, sh, se] 32)).heap.size (w.alloc (.cells #[.int .i64 k, .int .i64 mn, .int .i64 mx, .int .i64 kd, .bool bd, .int .u64 bn, sc, .string nm, sk, .int .u64 wi, sh, se] 32)) w1 → Blk w1 w.heap.size [.int .i64 k, .int .i64 mn, .int .i64 mx, .int .i64 kd, .bool bd, .int .u64 bn, sc, .string nm, sk, .int .u64 wi, sh, se] := fun w1 hb => (Blk.new w [.int .i64 k, .int .i64 mn, .int .i64 mx, .int .i64 kd, .bool bd, .int .u64 bn, sc, .string nm, sk, .int .u64 wi, sh, se] 32).later hb
  go_enter Tryz.func14, Tryz.ntmps14
  go_wp2_with (first | (go_at_call 16; refine (hS _ (b1 _ _)).mono ?_; rintro e w3 ⟨rfl, hb3⟩; have HX := hbx _ hb3; have c9 := HX.cell 9 _ rfl; have c10 := HX.cell 10 _ rfl; have c11 := HX.cell 11 _ rfl; clear HX))
  go_ret
  exact ⟨rfl, bstep (b1 _ _) hb3⟩

set_option maxRecDepth 100000 in
set_option maxHeartbeats 2000000 in
theorem check_h (k mn mx kd : Int) (bd : Bool) (bn : Int) (sc : Value) (nm : ByteArray) (sk : Value) (wi : Int) (sh se : Value) (w : World)
    (hS : ∀ w', Below w.heap.size w w' → Calls Tryz.prog 16 #[.agg #[.int .i64 k, .int .i64 mn, .int .i64 mx, .int .i64 kd, .bool bd, .int .u64 bn, sc, .string nm, sk]] w' fun e w'' => e = .returned (.int .i64 0) ∧ Below w'.heap.size w' w'') (hw : ¬ 99999 < wi) (hH : ∀ w', Below w.heap.size w w' → Calls Tryz.prog 42 #[sh, .func (.func 43) #[] #[]] w' fun e w'' => e = .returned (.bool false) ∧ Below w'.heap.size w' w'') :
    Calls Tryz.prog 14 #[.agg #[.int .i64 k, .int .i64 mn, .int .i64 mx, .int .i64 kd, .bool bd, .int .u64 bn, sc, .string nm, sk, .int .u64 wi, sh, se]] w fun e w' => e = .returned (.int .i64 3) ∧ Below w.heap.size w w' := by
  have hbx : ∀ w1, Below (w.alloc (.cells #[.int .i64 k, .int .i64 mn, .int .i64 mx, .int .i64 kd, .bool bd, .int .u64 bn, sc, .string nm, sk, .int .u64 wi, sh, se] 32)).heap.size (w.alloc (.cells #[.int .i64 k, .int .i64 mn, .int .i64 mx, .int .i64 kd, .bool bd, .int .u64 bn, sc, .string nm, sk, .int .u64 wi, sh, se] 32)) w1 → Blk w1 w.heap.size [.int .i64 k, .int .i64 mn, .int .i64 mx, .int .i64 kd, .bool bd, .int .u64 bn, sc, .string nm, sk, .int .u64 wi, sh, se] := fun w1 hb => (Blk.new w [.int .i64 k, .int .i64 mn, .int .i64 mx, .int .i64 kd, .bool bd, .int .u64 bn, sc, .string nm, sk, .int .u64 wi, sh, se] 32).later hb
  go_enter Tryz.func14, Tryz.ntmps14
  go_wp2_with (first | (go_at_call 16; refine (hS _ (b1 _ _)).mono ?_; rintro e w3 ⟨rfl, hb3⟩; have HX := hbx _ hb3; have c9 := HX.cell 9 _ rfl; have c10 := HX.cell 10 _ rfl; have c11 := HX.cell 11 _ rfl; clear HX) | (go_at_call 42; refine (hH _ (bstep (b1 _ _) hb3)).mono ?_; rintro e w4 ⟨rfl, hb4⟩; have HX := hbx _ (bstep hb3 hb4); have d11 := HX.cell 11 _ rfl; clear HX))
  go_ret
  exact ⟨rfl, bstep (bstep (b1 _ _) hb3) hb4⟩

set_option maxRecDepth 100000 in
set_option maxHeartbeats 2000000 in
theorem check_e (k mn mx kd : Int) (bd : Bool) (bn : Int) (sc : Value) (nm : ByteArray) (sk : Value) (wi : Int) (sh se : Value) (q : Bool) (w : World)
    (hS : ∀ w', Below w.heap.size w w' → Calls Tryz.prog 16 #[.agg #[.int .i64 k, .int .i64 mn, .int .i64 mx, .int .i64 kd, .bool bd, .int .u64 bn, sc, .string nm, sk]] w' fun e w'' => e = .returned (.int .i64 0) ∧ Below w'.heap.size w' w'') (hw : ¬ 99999 < wi) (hH : ∀ w', Below w.heap.size w w' → Calls Tryz.prog 42 #[sh, .func (.func 43) #[] #[]] w' fun e w'' => e = .returned (.bool true) ∧ Below w'.heap.size w' w'') (hE : ∀ w', Below w.heap.size w w' → Calls Tryz.prog 44 #[se, .func (.func 45) #[] #[]] w' fun e w'' => e = .returned (.bool q) ∧ Below w'.heap.size w' w'') :
    Calls Tryz.prog 14 #[.agg #[.int .i64 k, .int .i64 mn, .int .i64 mx, .int .i64 kd, .bool bd, .int .u64 bn, sc, .string nm, sk, .int .u64 wi, sh, se]] w fun e w' => e = .returned (.int .i64 (if q = true then 0 else 3)) ∧ Below w.heap.size w w' := by
  have hbx : ∀ w1, Below (w.alloc (.cells #[.int .i64 k, .int .i64 mn, .int .i64 mx, .int .i64 kd, .bool bd, .int .u64 bn, sc, .string nm, sk, .int .u64 wi, sh, se] 32)).heap.size (w.alloc (.cells #[.int .i64 k, .int .i64 mn, .int .i64 mx, .int .i64 kd, .bool bd, .int .u64 bn, sc, .string nm, sk, .int .u64 wi, sh, se] 32)) w1 → Blk w1 w.heap.size [.int .i64 k, .int .i64 mn, .int .i64 mx, .int .i64 kd, .bool bd, .int .u64 bn, sc, .string nm, sk, .int .u64 wi, sh, se] := fun w1 hb => (Blk.new w [.int .i64 k, .int .i64 mn, .int .i64 mx, .int .i64 kd, .bool bd, .int .u64 bn, sc, .string nm, sk, .int .u64 wi, sh, se] 32).later hb
  cases q with
  | true =>
    go_enter Tryz.func14, Tryz.ntmps14
    go_wp2_with (first | (go_at_call 16; refine (hS _ (b1 _ _)).mono ?_; rintro e w3 ⟨rfl, hb3⟩; have HX := hbx _ hb3; have c9 := HX.cell 9 _ rfl; have c10 := HX.cell 10 _ rfl; have c11 := HX.cell 11 _ rfl; clear HX) | (go_at_call 42; refine (hH _ (bstep (b1 _ _) hb3)).mono ?_; rintro e w4 ⟨rfl, hb4⟩; have HX := hbx _ (bstep hb3 hb4); have d11 := HX.cell 11 _ rfl; clear HX) | (go_at_call 44; refine (hE _ (bstep (bstep (b1 _ _) hb3) hb4)).mono ?_; rintro e w5 ⟨rfl, hb5⟩))
    go_ret
    exact ⟨rfl, bstep (bstep (bstep (b1 _ _) hb3) hb4) hb5⟩
  | false =>
    go_enter Tryz.func14, Tryz.ntmps14
    go_wp2_with (first | (go_at_call 16; refine (hS _ (b1 _ _)).mono ?_; rintro e w3 ⟨rfl, hb3⟩; have HX := hbx _ hb3; have c9 := HX.cell 9 _ rfl; have c10 := HX.cell 10 _ rfl; have c11 := HX.cell 11 _ rfl; clear HX) | (go_at_call 42; refine (hH _ (bstep (b1 _ _) hb3)).mono ?_; rintro e w4 ⟨rfl, hb4⟩; have HX := hbx _ (bstep hb3 hb4); have d11 := HX.cell 11 _ rfl; clear HX) | (go_at_call 44; refine (hE _ (bstep (bstep (b1 _ _) hb3) hb4)).mono ?_; rintro e w5 ⟨rfl, hb5⟩))
    go_ret
    exact ⟨rfl, bstep (bstep (bstep (b1 _ _) hb3) hb4) hb5⟩

theorem checkq_any (q : GQ) (w : World) (hq : QW w q) (hlen : (subsT q.t).length ≤ 999999) (hG : SG w) :
    Calls Tryz.prog 14 #[.agg q.row.toArray] w fun e w' => e = .returned (.int .i64 (checkE q.qu)) ∧ Below w.heap.size w w' := by
  obtain ⟨T, wi, sh, hv, se, em⟩ := q
  obtain ⟨hT, -, hh, he, -, -⟩ := hq
  simp only at hT hh he hlen
  have hS := fun w' (hb : Below w.heap.size w w') => sound_any T w' (hT.later hb) hlen (hG.later hb)
  have hH := fun w' (hb : Below w.heap.size w w') => areAllHave_any sh hv w' (hG.later hb) (hh.later hb)
  have hE := fun w' (hb : Below w.heap.size w w') => areAllAgg_any se em w' (hG.later hb) (he.later hb)
  have hs : soundE T.nd = if soundN 1 T.nd = true then 0 else 3 := rfl
  have hc : checkE (GQ.qu ⟨T, wi, sh, hv, se, em⟩) = if (soundN 1 T.nd && decide (wi ≤ 99999) && hv.all haveB && em.all aggB) = true then 0 else 3 := rfl
  rw [hc]
  rw [hs] at hS
  clear hc hs hT hh he hlen hG
  obtain ⟨p, hp⟩ : ∃ p, p = soundN 1 T.nd := ⟨_, rfl⟩
  obtain ⟨r, hr⟩ : ∃ r, r = hv.all haveB := ⟨_, rfl⟩
  obtain ⟨u, hu⟩ : ∃ u, u = em.all aggB := ⟨_, rfl⟩
  rw [← hp] at hS ⊢
  rw [← hr] at hH ⊢
  rw [← hu] at hE ⊢
  clear hp hr hu
  obtain ⟨k, mn, mx, ⟨⟨kd, bd, bn, cs, nm⟩, sc⟩, sk, ks⟩ := T
  cases p with
  | false => exact check_s k mn mx kd bd bn sc (strOf nm) sk wi sh se w hS
  | true =>
    by_cases hw : 99999 < wi
    · rw [decide_eq_false (by omega)]
      exact check_w k mn mx kd bd bn sc (strOf nm) sk wi sh se w hS hw
    · rw [decide_eq_true (by omega)]
      cases r with
      | false => exact check_h k mn mx kd bd bn sc (strOf nm) sk wi sh se w hS hw hH
      | true => exact check_e k mn mx kd bd bn sc (strOf nm) sk wi sh se u w hS hw hH hE
end Go.Proofs.YtfibmdbplfghcaaGreatDoor
