/- Walk: the document's own Print. Made by program (wip/tools/gen_astPp.py). -/
import Derived.Test.YtfibmdbplfghcaaGreatDoorAstPn
import Derived.Test.YtfibmdbplfghcaaGreatDoorAstCk
namespace Go.Proofs.YtfibmdbplfghcaaGreatDoor
open Go.RowKit
open A8 Tk7 Lb

attribute [local go_sem] below_drew9
attribute [local simp] below_drew9
/-- The first texts of a list, with what stands ahead of it. -/
def preG {α : Type} (bef sep : List UInt8) (f : α → List UInt8) (l : List α) (i : Nat) : List UInt8 := if i = 0 then [] else bef ++ sepL sep ((l.take i).map f)
theorem preG_succ {α : Type} (bef sep : List UInt8) (f : α → List UInt8) (l : List α) (i : Nat) (h : i < l.length) : preG bef sep f l (i + 1) = preG bef sep f l i ++ (if i = 0 then bef else sep) ++ f l[i] := by
  unfold preG
  rw [if_neg (by omega), take_snoc l i h, List.map_append, List.map_cons, List.map_nil, sep_snoc]
  by_cases h0 : i = 0
  · subst h0
    simp
  · have h1 : ¬ (l.take i).map f = [] := by
      rw [List.map_eq_nil_iff, take_nil_len l i h]
      exact h0
    rw [if_neg h1, if_neg h0, if_neg h0]
    simp only [List.append_assoc]
theorem preG_len {α : Type} (bef sep : List UInt8) (f : α → List UInt8) (l : List α) (K : Nat) (hK : ∀ x ∈ l, (f x).length ≤ K) (i : Nat) : (preG bef sep f l i).length ≤ bef.length + (K + sep.length) * l.length := by
  unfold preG
  split
  · simp
  · have h := sepK sep K ((l.take i).map f) (fun y hy => by
      obtain ⟨u, hu, rfl⟩ := List.mem_map.1 hy
      exact hK u (List.mem_of_mem_take hu))
    rw [List.length_map, List.length_take] at h
    have h2 : (K + sep.length) * min i l.length ≤ (K + sep.length) * l.length := Nat.mul_le_mul_left _ (Nat.min_le_right _ _)
    rw [List.length_append]
    omega
theorem preG_all {α : Type} (bef sep : List UInt8) (f : α → List UInt8) (l : List α) : preG bef sep f l l.length = listT bef (l.map f) sep [] := by
  unfold preG listT
  cases l with
  | nil => rfl
  | cons x xs =>
    rw [if_neg (by simp), if_neg (by simp), List.take_of_length_le (Nat.le_refl _), List.append_nil]
/-- 12 cells and what lay. -/
theorem held12 {P : Program} {f : FuncId} {args : Array Value} {v : Value} {W wx : World} {a0 a1 a2 a3 a4 a5 a6 a7 a8 a9 a10 a11 : Addr} {c0 c1 c2 c3 c4 c5 c6 c7 c8 c9 c10 c11 : Value} (hc : ∀ w, Below W.heap.size W w → Calls P f args w fun e w' => e = .returned v ∧ Below w.heap.size w w')
    (h0 : wx.cell? a0 = some c0) (h1 : wx.cell? a1 = some c1) (h2 : wx.cell? a2 = some c2) (h3 : wx.cell? a3 = some c3) (h4 : wx.cell? a4 = some c4) (h5 : wx.cell? a5 = some c5) (h6 : wx.cell? a6 = some c6) (h7 : wx.cell? a7 = some c7) (h8 : wx.cell? a8 = some c8) (h9 : wx.cell? a9 = some c9) (h10 : wx.cell? a10 = some c10) (h11 : wx.cell? a11 = some c11) (h : Below W.heap.size W wx) :
    Calls P f args wx fun e w' => e = .returned v ∧ w'.cell? a0 = some c0 ∧ w'.cell? a1 = some c1 ∧ w'.cell? a2 = some c2 ∧ w'.cell? a3 = some c3 ∧ w'.cell? a4 = some c4 ∧ w'.cell? a5 = some c5 ∧ w'.cell? a6 = some c6 ∧ w'.cell? a7 = some c7 ∧ w'.cell? a8 = some c8 ∧ w'.cell? a9 = some c9 ∧ w'.cell? a10 = some c10 ∧ w'.cell? a11 = some c11 ∧ Below W.heap.size W w' :=
  (hc wx h).mono fun _ w' hh =>
    have hl : ∀ {p : Addr} {v : Value}, wx.cell? p = some v → w'.cell? p = some v := fun {_ _} h => (hh.2.cell (World.block_lt_of_cell? wx _ h)).trans h
    ⟨hh.1, hl h0, hl h1, hl h2, hl h3, hl h4, hl h5, hl h6, hl h7, hl h8, hl h9, hl h10, hl h11, bstep h hh.2⟩
/-- 5 cells and what lay. -/
theorem held5 {P : Program} {f : FuncId} {args : Array Value} {v : Value} {W wx : World} {a0 a1 a2 a3 a4 : Addr} {c0 c1 c2 c3 c4 : Value} (hc : ∀ w, Below W.heap.size W w → Calls P f args w fun e w' => e = .returned v ∧ Below w.heap.size w w')
    (h0 : wx.cell? a0 = some c0) (h1 : wx.cell? a1 = some c1) (h2 : wx.cell? a2 = some c2) (h3 : wx.cell? a3 = some c3) (h4 : wx.cell? a4 = some c4) (h : Below W.heap.size W wx) :
    Calls P f args wx fun e w' => e = .returned v ∧ w'.cell? a0 = some c0 ∧ w'.cell? a1 = some c1 ∧ w'.cell? a2 = some c2 ∧ w'.cell? a3 = some c3 ∧ w'.cell? a4 = some c4 ∧ Below W.heap.size W w' :=
  (hc wx h).mono fun _ w' hh =>
    have hl : ∀ {p : Addr} {v : Value}, wx.cell? p = some v → w'.cell? p = some v := fun {_ _} h => (hh.2.cell (World.block_lt_of_cell? wx _ h)).trans h
    ⟨hh.1, hl h0, hl h1, hl h2, hl h3, hl h4, bstep h hh.2⟩
set_option maxRecDepth 100000 in
theorem rprint_bad (k mn mx kd : Int) (bd : Bool) (bn : Int) (sc : Value) (nm : ByteArray) (sk : Value) (wi : Int) (sh se : Value) (w : World) (hC : ∀ w1, Below w.heap.size w w1 → Calls Tryz.prog 15 #[.agg #[.int .i64 k, .int .i64 mn, .int .i64 mx, .int .i64 kd, .bool bd, .int .u64 bn, sc, .string nm, sk, .int .u64 wi, sh, se]] w1 fun e w' => e = .returned (.int .i64 3) ∧ Below w1.heap.size w1 w') :
    Calls Tryz.prog 11 #[.agg #[.int .i64 k, .int .i64 mn, .int .i64 mx, .int .i64 kd, .bool bd, .int .u64 bn, sc, .string nm, sk, .int .u64 wi, sh, se]] w fun e w' => e = .returned (.tuple #[.string (strOf []), .int .i64 3]) ∧ Below w.heap.size w w' := by
  obtain ⟨W, hWW⟩ : ∃ W, W = w.alloc (.cells #[.int .i64 k, .int .i64 mn, .int .i64 mx, .int .i64 kd, .bool bd, .int .u64 bn, sc, .string nm, sk, .int .u64 wi, sh, se] 32) := ⟨_, rfl⟩
  have hb1 : Below w.heap.size w W := hWW ▸ b1 _ _
  have hBx : Blk W w.heap.size [.int .i64 k, .int .i64 mn, .int .i64 mx, .int .i64 kd, .bool bd, .int .u64 bn, sc, .string nm, sk, .int .u64 wi, sh, se] := hWW ▸ Blk.new w _ _
  have c0 := hBx.cell 0 _ rfl
  have c1 := hBx.cell 1 _ rfl
  have c2 := hBx.cell 2 _ rfl
  have c3 := hBx.cell 3 _ rfl
  have c4 := hBx.cell 4 _ rfl
  have c5 := hBx.cell 5 _ rfl
  have c6 := hBx.cell 6 _ rfl
  have c7 := hBx.cell 7 _ rfl
  have c8 := hBx.cell 8 _ rfl
  have c9 := hBx.cell 9 _ rfl
  have c10 := hBx.cell 10 _ rfl
  have c11 := hBx.cell 11 _ rfl
  have HX := Lib.hid hBx
  have HC := Lib.hid hC
  have HB := Lib.hid hb1
  clear hb1 hBx hC
  go_enter Tryz.func11, Tryz.ntmps11
  go_wp2_with fail
  rw [← hWW]
  clear hWW
  go_wp2_with (go_at_call 15; refine (HC.out _ HB.out).mono ?_; rintro e w2 ⟨rfl, hb2⟩; have hx2 := HX.out.later hb2; clear c0 c1 c2 c3 c4 c5 c6 c7 c8 c9 c10 c11; have c0 := hx2.cell 0 _ rfl; have c1 := hx2.cell 1 _ rfl; have c2 := hx2.cell 2 _ rfl; have c3 := hx2.cell 3 _ rfl; have c4 := hx2.cell 4 _ rfl; have c5 := hx2.cell 5 _ rfl; have c6 := hx2.cell 6 _ rfl; have c7 := hx2.cell 7 _ rfl; have c8 := hx2.cell 8 _ rfl; have c9 := hx2.cell 9 _ rfl; have c10 := hx2.cell 10 _ rfl; have c11 := hx2.cell 11 _ rfl; clear hx2; have HB2 := Lib.hid (bstep HB.out hb2); have HW2 := Lib.hid hb2; clear hb2)
  go_ret2
  exact ⟨rfl, HB2.out⟩
set_option maxRecDepth 100000 in
set_option maxHeartbeats 32000000 in
theorem rprint_in (k mn mx kd : Int) (bd : Bool) (bn : Int) (sc : Value) (nm : ByteArray) (sk : Value) (wi : Int) (H : Option Addr) (hv : List Hv) (ch : Nat) (M : Option Addr) (em : List Ag) (cm : Nat) (T0 : List UInt8) (w : World) (hC : ∀ w1, Below w.heap.size w w1 → Calls Tryz.prog 15 #[.agg #[.int .i64 k, .int .i64 mn, .int .i64 mx, .int .i64 kd, .bool bd, .int .u64 bn, sc, .string nm, sk, .int .u64 wi, .slice H hv.length ch, .slice M em.length cm]] w1 fun e w' => e = .returned (.int .i64 0) ∧ Below w1.heap.size w1 w')
    (hTx : ∀ w1, Below w.heap.size w w1 → Calls Tryz.prog 36 #[.agg #[.int .i64 k, .int .i64 mn, .int .i64 mx, .int .i64 kd, .bool bd, .int .u64 bn, sc, .string nm, sk]] w1 fun e w' => e = .returned (.string (strOf T0)) ∧ Below w1.heap.size w1 w') (hTl : T0.length ≤ 300000) (hwi : 0 ≤ wi ∧ wi < 18446744073709551616)
    (hh : Sl w 4 hv.length (.slice H hv.length ch) (hv.flatMap hvC)) (he : Sl w 2 em.length (.slice M em.length cm) (em.flatMap agC)) (hhl : hv.length ≤ 20) (hel : em.length ≤ 20)
    (hha : ∀ x ∈ hv, haveB x = true ∧ x.ag.nm.length ≤ 30 ∧ okV x.cn.va) (hea : ∀ x ∈ em, aggB x = true ∧ x.nm.length ≤ 30) :
    Calls Tryz.prog 11 #[.agg #[.int .i64 k, .int .i64 mn, .int .i64 mx, .int .i64 kd, .bool bd, .int .u64 bn, sc, .string nm, sk, .int .u64 wi, .slice H hv.length ch, .slice M em.length cm]] w fun e w' => e = .returned (.tuple #[.string (strOf (shS (T0 ++ [32, 119, 105, 116, 104, 105, 110, 32] ++ Lib.itoa wi ++ listT [32, 104, 97, 118, 105, 110, 103, 32] (hv.map haveT) [32, 97, 110, 100, 32] [] ++ listT [32, 101, 109, 105, 116, 32] (em.map aggT) [44, 32] []))), .int .i64 (shE (T0 ++ [32, 119, 105, 116, 104, 105, 110, 32] ++ Lib.itoa wi ++ listT [32, 104, 97, 118, 105, 110, 103, 32] (hv.map haveT) [32, 97, 110, 100, 32] [] ++ listT [32, 101, 109, 105, 116, 32] (em.map aggT) [44, 32] []))]) ∧ Below w.heap.size w w' := by
  rw [← preG_all, ← preG_all]
  have hphl := preG_len [32, 104, 97, 118, 105, 110, 103, 32] [32, 97, 110, 100, 32] haveT hv 75 (fun x hx => haveK (hha x hx).2.1 (hha x hx).2.2)
  have hpel := preG_len [32, 101, 109, 105, 116, 32] [44, 32] aggT em 42 (fun x hx => aggK (hea x hx).2)
  simp only [List.length_cons, List.length_nil] at hphl hpel
  have hphl2 : ∀ i, (preG [32, 104, 97, 118, 105, 110, 103, 32] [32, 97, 110, 100, 32] haveT hv i).length ≤ 5000 := fun i => by have := hphl i; have : 80 * hv.length ≤ 80 * 20 := Nat.mul_le_mul_left 80 hhl; omega
  have hpel2 : ∀ i, (preG [32, 101, 109, 105, 116, 32] [44, 32] aggT em i).length ≤ 5000 := fun i => by have := hpel i; have : 44 * em.length ≤ 44 * 20 := Nat.mul_le_mul_left 44 hel; omega
  have hwl := itoaK wi (by omega) hwi.2
  have hdw : ∀ w1, Below w.heap.size w w1 → Calls Tryz.prog 37 #[.int .u64 wi] w1 fun e w' => e = .returned (.string (strOf (Lib.itoa wi))) ∧ Below w1.heap.size w1 w' := fun w1 _ => by
    have h := rdigits_any wi.toNat (by omega) w1
    rw [show ((wi.toNat : Nat) : Int) = wi by omega] at h
    refine h.mono ?_
    rintro e w' ⟨rfl, m, rfl⟩
    exact ⟨by rw [itoa_form, if_neg (by omega)], below_drewN (Below.refl _ _) m⟩
  have s1 : ∀ w, (Op.stringOp .add (strOf T0) ⟨#[32, 119, 105, 116, 104, 105, 110, 32]⟩).run Tryz.prog w = .ok (.string (strOf (T0 ++ [32, 119, 105, 116, 104, 105, 110, 32]))) w := fun w => sum8 _ [32, 119, 105, 116, 104, 105, 110, 32] (by simp only [List.length_cons, List.length_nil]; omega) w
  have s2 : ∀ w, (Op.stringOp .add (strOf (T0 ++ [32, 119, 105, 116, 104, 105, 110, 32])) (strOf (Lib.itoa wi))).run Tryz.prog w = .ok (.string (strOf (T0 ++ [32, 119, 105, 116, 104, 105, 110, 32] ++ Lib.itoa wi))) w := fun w => sum8 _ _ (by simp only [List.length_append, List.length_cons, List.length_nil]; omega) w
  obtain ⟨A, hA⟩ : ∃ A, A = T0 ++ [32, 119, 105, 116, 104, 105, 110, 32] ++ Lib.itoa wi := ⟨_, rfl⟩
  have hAl : A.length ≤ 301000 := by rw [hA]; simp only [List.length_append, List.length_cons, List.length_nil]; omega
  rw [← hA] at s2 ⊢
  have hSh := fun w1 => rshort_any (A ++ preG [32, 104, 97, 118, 105, 110, 103, 32] [32, 97, 110, 100, 32] haveT hv hv.length ++ preG [32, 101, 109, 105, 116, 32] [44, 32] aggT em em.length) (by have := hphl2 hv.length; have := hpel2 em.length; simp only [List.length_append]; omega) w1
  obtain ⟨TS, hTS⟩ : ∃ S, S = strOf T0 := ⟨_, rfl⟩
  obtain ⟨T1, hT1⟩ : ∃ S, S = strOf (T0 ++ [32, 119, 105, 116, 104, 105, 110, 32]) := ⟨_, rfl⟩
  obtain ⟨WS, hWS⟩ : ∃ S, S = strOf (Lib.itoa wi) := ⟨_, rfl⟩
  obtain ⟨AS, hAS⟩ : ∃ S, S = strOf A := ⟨_, rfl⟩
  obtain ⟨FS, hFS⟩ : ∃ S, S = strOf (A ++ preG [32, 104, 97, 118, 105, 110, 103, 32] [32, 97, 110, 100, 32] haveT hv hv.length ++ preG [32, 101, 109, 105, 116, 32] [44, 32] aggT em em.length) := ⟨_, rfl⟩
  obtain ⟨RS, hRS⟩ : ∃ S, S = strOf (shS (A ++ preG [32, 104, 97, 118, 105, 110, 103, 32] [32, 97, 110, 100, 32] haveT hv hv.length ++ preG [32, 101, 109, 105, 116, 32] [44, 32] aggT em em.length)) := ⟨_, rfl⟩
  obtain ⟨RE, hRE⟩ : ∃ S, S = shE (A ++ preG [32, 104, 97, 118, 105, 110, 103, 32] [32, 97, 110, 100, 32] haveT hv hv.length ++ preG [32, 101, 109, 105, 116, 32] [44, 32] aggT em em.length) := ⟨_, rfl⟩
  rw [← hTS] at hTx s1
  rw [← hT1] at s1 s2
  rw [← hWS] at hdw s2
  rw [← hAS] at s2
  rw [← hFS, ← hRS, ← hRE] at hSh
  rw [← hRS, ← hRE]
  obtain ⟨_, _, hAA, hm, hels⟩ := sl_els (by decide) hvC_len hh
  obtain ⟨_, _, hAB, hm2, hels2⟩ := sl_els (by decide) agC_len he
  cases hAA
  cases hAB
  obtain ⟨W, hWW⟩ : ∃ W, W = w.alloc (.cells #[.int .i64 k, .int .i64 mn, .int .i64 mx, .int .i64 kd, .bool bd, .int .u64 bn, sc, .string nm, sk, .int .u64 wi, .slice H hv.length ch, .slice M em.length cm] 32) := ⟨_, rfl⟩
  have hb1 : Below w.heap.size w W := hWW ▸ b1 _ _
  have hBx : Blk W w.heap.size [.int .i64 k, .int .i64 mn, .int .i64 mx, .int .i64 kd, .bool bd, .int .u64 bn, sc, .string nm, sk, .int .u64 wi, .slice H hv.length ch, .slice M em.length cm] := hWW ▸ Blk.new w _ _
  have c0 := hBx.cell 0 _ rfl
  have c1 := hBx.cell 1 _ rfl
  have c2 := hBx.cell 2 _ rfl
  have c3 := hBx.cell 3 _ rfl
  have c4 := hBx.cell 4 _ rfl
  have c5 := hBx.cell 5 _ rfl
  have c6 := hBx.cell 6 _ rfl
  have c7 := hBx.cell 7 _ rfl
  have c8 := hBx.cell 8 _ rfl
  have c9 := hBx.cell 9 _ rfl
  have c10 := hBx.cell 10 _ rfl
  have c11 := hBx.cell 11 _ rfl
  have HX := Lib.hid hBx
  have HC := Lib.hid hC
  have HB := Lib.hid hb1
  have HE := Lib.hid hels
  have HE2 := Lib.hid hels2
  have HAS := Lib.hid hAS
  have HFS := Lib.hid hFS
  have HPL := Lib.hid hphl2
  have HPL2 := Lib.hid hpel2
  have HPS := Lib.hid (fun i (h : i < hv.length) => preG_succ [32, 104, 97, 118, 105, 110, 103, 32] [32, 97, 110, 100, 32] haveT hv i h)
  have HPS2 := Lib.hid (fun i (h : i < em.length) => preG_succ [32, 101, 109, 105, 116, 32] [44, 32] aggT em i h)
  have HHA := Lib.hid hha
  have HEA := Lib.hid hea
  have HSh := Lib.hid hSh
  clear hb1 hBx hC hels hels2 hh he hAS hFS hphl hpel hphl2 hpel2 hha hea hSh hTS hT1 hWS hRS hRE hA hwl hwi hTl
  go_enter Tryz.func11, Tryz.ntmps11
  go_wp2_with fail
  rw [← hWW]
  clear hWW
  go_upto_region 4 with (go_at_call 15; refine (HC.out _ HB.out).mono ?_; rintro e w2 ⟨rfl, hb2⟩; have hx2 := HX.out.later hb2; clear c0 c1 c2 c3 c4 c5 c6 c7 c8 c9 c10 c11; have c0 := hx2.cell 0 _ rfl; have c1 := hx2.cell 1 _ rfl; have c2 := hx2.cell 2 _ rfl; have c3 := hx2.cell 3 _ rfl; have c4 := hx2.cell 4 _ rfl; have c5 := hx2.cell 5 _ rfl; have c6 := hx2.cell 6 _ rfl; have c7 := hx2.cell 7 _ rfl; have c8 := hx2.cell 8 _ rfl; have c9 := hx2.cell 9 _ rfl; have c10 := hx2.cell 10 _ rfl; have c11 := hx2.cell 11 _ rfl; clear hx2; have HB2 := Lib.hid (bstep HB.out hb2); have HW2 := Lib.hid hb2; clear hb2)
  have hB2 := HB2.out
  go_cut [5] (fun s5 wx => s5 = .string AS ∧ wx.cell? ⟨w.heap.size, 10, none⟩ = some (.slice H hv.length ch) ∧ wx.cell? ⟨w.heap.size, 11, none⟩ = some (.slice M em.length cm) ∧ Below w.heap.size w wx)
  case first =>
    clear HX HC HB HE HE2 HAS HFS HPL HPL2 HPS HPS2 HHA HEA HSh HB2 HW2
    go_region_held3 (fun w' => w'.cell? ⟨w.heap.size, 0, none⟩ = some (.int .i64 k) ∧ w'.cell? ⟨w.heap.size, 1, none⟩ = some (.int .i64 mn) ∧ w'.cell? ⟨w.heap.size, 2, none⟩ = some (.int .i64 mx) ∧ w'.cell? ⟨w.heap.size, 3, none⟩ = some (.int .i64 kd) ∧ w'.cell? ⟨w.heap.size, 4, none⟩ = some (.bool bd) ∧ w'.cell? ⟨w.heap.size, 5, none⟩ = some (.int .u64 bn) ∧ w'.cell? ⟨w.heap.size, 6, none⟩ = some (sc) ∧ w'.cell? ⟨w.heap.size, 7, none⟩ = some (.string nm) ∧ w'.cell? ⟨w.heap.size, 8, none⟩ = some (sk) ∧ w'.cell? ⟨w.heap.size, 9, none⟩ = some (.int .u64 wi) ∧ w'.cell? ⟨w.heap.size, 10, none⟩ = some (.slice H hv.length ch) ∧ w'.cell? ⟨w.heap.size, 11, none⟩ = some (.slice M em.length cm) ∧ Below w.heap.size w w') (go_keep)
      (first | (go_at_call 36; with_reducible refine (held12 (W := w) (a0 := ⟨w.heap.size, 0, none⟩) (c0 := .int .i64 k) (a1 := ⟨w.heap.size, 1, none⟩) (c1 := .int .i64 mn) (a2 := ⟨w.heap.size, 2, none⟩) (c2 := .int .i64 mx) (a3 := ⟨w.heap.size, 3, none⟩) (c3 := .int .i64 kd) (a4 := ⟨w.heap.size, 4, none⟩) (c4 := .bool bd) (a5 := ⟨w.heap.size, 5, none⟩) (c5 := .int .u64 bn) (a6 := ⟨w.heap.size, 6, none⟩) (c6 := sc) (a7 := ⟨w.heap.size, 7, none⟩) (c7 := .string nm) (a8 := ⟨w.heap.size, 8, none⟩) (c8 := sk) (a9 := ⟨w.heap.size, 9, none⟩) (c9 := .int .u64 wi) (a10 := ⟨w.heap.size, 10, none⟩) (c10 := .slice H hv.length ch) (a11 := ⟨w.heap.size, 11, none⟩) (c11 := .slice M em.length cm) hTx ?_ ?_ ?_ ?_ ?_ ?_ ?_ ?_ ?_ ?_ ?_ ?_ ?_ ).mono ?_; (first | assumption | (simp [*])); (first | assumption | (simp [*])); (first | assumption | (simp [*])); (first | assumption | (simp [*])); (first | assumption | (simp [*])); (first | assumption | (simp [*])); (first | assumption | (simp [*])); (first | assumption | (simp [*])); (first | assumption | (simp [*])); (first | assumption | (simp [*])); (first | assumption | (simp [*])); (first | assumption | (simp [*])); (first | assumption | (simp [*])); rintro e w9 ⟨rfl, g0, g1, g2, g3, g4, g5, g6, g7, g8, g9, g10, g11, g12⟩) | (go_at_call 37; with_reducible refine (held12 (W := w) (a0 := ⟨w.heap.size, 0, none⟩) (c0 := .int .i64 k) (a1 := ⟨w.heap.size, 1, none⟩) (c1 := .int .i64 mn) (a2 := ⟨w.heap.size, 2, none⟩) (c2 := .int .i64 mx) (a3 := ⟨w.heap.size, 3, none⟩) (c3 := .int .i64 kd) (a4 := ⟨w.heap.size, 4, none⟩) (c4 := .bool bd) (a5 := ⟨w.heap.size, 5, none⟩) (c5 := .int .u64 bn) (a6 := ⟨w.heap.size, 6, none⟩) (c6 := sc) (a7 := ⟨w.heap.size, 7, none⟩) (c7 := .string nm) (a8 := ⟨w.heap.size, 8, none⟩) (c8 := sk) (a9 := ⟨w.heap.size, 9, none⟩) (c9 := .int .u64 wi) (a10 := ⟨w.heap.size, 10, none⟩) (c10 := .slice H hv.length ch) (a11 := ⟨w.heap.size, 11, none⟩) (c11 := .slice M em.length cm) hdw ?_ ?_ ?_ ?_ ?_ ?_ ?_ ?_ ?_ ?_ ?_ ?_ ?_ ).mono ?_; (first | assumption | (simp [*])); (first | assumption | (simp [*])); (first | assumption | (simp [*])); (first | assumption | (simp [*])); (first | assumption | (simp [*])); (first | assumption | (simp [*])); (first | assumption | (simp [*])); (first | assumption | (simp [*])); (first | assumption | (simp [*])); (first | assumption | (simp [*])); (first | assumption | (simp [*])); (first | assumption | (simp [*])); (first | assumption | (simp [*])); rintro e w9 ⟨rfl, g0, g1, g2, g3, g4, g5, g6, g7, g8, g9, g10, g11, g12⟩))
    go_wp2_with fail
    go_meet
    case rel => exact ⟨rfl, by first | assumption | (simp [*]), by first | assumption | (simp [*]), by first | assumption | (simp [*])⟩
  case rest =>
    obtain ⟨rfl, k10, k11, hBx⟩ := hcut
    clear c0 c1 c2 c3 c4 c5 c6 c7 c8 c9 c10 c11
    have hlt10 := World.block_lt_of_cell? wc _ k10
    have HLT := Lib.hid hlt10
    have C10 := Lib.hid k10
    have C11 := Lib.hid k11
    have HBX := Lib.hid hBx
    clear hB2 hBx HX HC HB HB2 HW2 hTx hdw s1 s2
    obtain ⟨wx, hwx⟩ : ∃ wx, wx = wc := ⟨_, rfl⟩
    subst hwx
    go_wp2
    go_loopg [5, 6] hv.length (fun g ov iv wr => ∃ i : Nat, i ≤ hv.length ∧ g = hv.length - i ∧ iv = .int .i64 (i : Int) ∧ ov = .string (strOf (A ++ preG [32, 104, 97, 118, 105, 110, 103, 32] [32, 97, 110, 100, 32] haveT hv i)) ∧ Hid (Below wx.heap.size wx wr))
    case atStart => exact ⟨0, Nat.zero_le _, rfl, rfl, by rw [HAS.out]; show _ = Value.string (strOf (A ++ [])); rw [List.append_nil], Lib.hid (Below.refl _ _)⟩
    case round =>
      obtain ⟨i, hi, hg, rfl, rfl, HBr⟩ := hrel
      have c10 := (HBr.out.cell (p := ⟨w.heap.size, 10, none⟩) HLT.out).trans C10.out
      clear k10 k11
      by_cases hlt : i < hv.length
      · have g1 : (i : Int) < (hv.length : Int) := by omega
        obtain ⟨a, hHa, _, E⟩ := HE.out i hlt
        replace E := E.later (bstep HBX.out HBr.out)
        have hps := HPS.out i hlt
        have hpl := HPL.out i
        obtain ⟨hab, hnl, hvv⟩ := HHA.out hv[i] (List.getElem_mem hlt)
        obtain ⟨⟨⟨fn, xn⟩, ⟨op, va⟩⟩, hx⟩ : ∃ x, x = hv[i] := ⟨_, rfl⟩
        rw [← hx] at E hps hab hnl hvv
        unfold haveB at hab
        rw [Bool.and_eq_true] at hab
        simp only at hnl hvv hab
        have hAt := fun w1 (_ : Below wx.heap.size wx w1) => raggText_any fn xn hab.1 (by omega) w1
        have hCt := fun w1 (_ : Below wx.heap.size wx w1) => rcondText_any op va hab.2 hvv w1
        have hal := aggK (a := ⟨fn, xn⟩) hnl
        have hcl := condK (c := ⟨op, va⟩) hvv
        simp only [hvC] at E
        obtain ⟨xs, hxn⟩ : ∃ s, s = strOf xn := ⟨_, rfl⟩
        rw [← hxn] at E hAt
        cases hHa
        have e0 := E.at0 _ rfl
        have e1 := E.at1 1 _ (by decide) rfl
        have e2 := E.at1 2 _ (by decide) rfl
        have e3 := E.at1 3 _ (by decide) rfl
        have hwi : IntKind.i64.wrap ((i : Int) + 1) = (i : Int) + 1 := IntWalk.i64_in _ ⟨by omega, by omega⟩
        have hBr := HBr.out
        clear E hx hab hnl hvv HE HE2 HAS HFS HPL HPL2 HPS HPS2 HHA HEA HSh HBX
        by_cases hi0 : i = 0
        · have hps2 : preG [32, 104, 97, 118, 105, 110, 103, 32] [32, 97, 110, 100, 32] haveT hv (i + 1) = preG [32, 104, 97, 118, 105, 110, 103, 32] [32, 97, 110, 100, 32] haveT hv i ++ [32, 104, 97, 118, 105, 110, 103, 32] ++ haveT ⟨⟨fn, xn⟩, ⟨op, va⟩⟩ := by rw [hps, if_pos hi0]
          have hib : ((i : Int) == 0) = true := by rw [hi0]; rfl
          have t1 : ∀ w, (Op.stringOp .add (strOf (A ++ preG [32, 104, 97, 118, 105, 110, 103, 32] [32, 97, 110, 100, 32] haveT hv i)) ⟨#[32, 104, 97, 118, 105, 110, 103, 32]⟩).run Tryz.prog w = .ok (.string (strOf (A ++ preG [32, 104, 97, 118, 105, 110, 103, 32] [32, 97, 110, 100, 32] haveT hv i ++ [32, 104, 97, 118, 105, 110, 103, 32]))) w := fun w => sum8 _ [32, 104, 97, 118, 105, 110, 103, 32] (by simp only [List.length_append, List.length_cons, List.length_nil]; omega) w
          have t2 : ∀ w, (Op.stringOp .add (strOf (A ++ preG [32, 104, 97, 118, 105, 110, 103, 32] [32, 97, 110, 100, 32] haveT hv i ++ [32, 104, 97, 118, 105, 110, 103, 32])) (strOf (aggT ⟨fn, xn⟩))).run Tryz.prog w = .ok (.string (strOf (A ++ preG [32, 104, 97, 118, 105, 110, 103, 32] [32, 97, 110, 100, 32] haveT hv i ++ [32, 104, 97, 118, 105, 110, 103, 32] ++ aggT ⟨fn, xn⟩))) w := fun w => sum8 _ _ (by simp only [List.length_append, List.length_cons, List.length_nil]; omega) w
          have t3 : ∀ w, (Op.stringOp .add (strOf (A ++ preG [32, 104, 97, 118, 105, 110, 103, 32] [32, 97, 110, 100, 32] haveT hv i ++ [32, 104, 97, 118, 105, 110, 103, 32] ++ aggT ⟨fn, xn⟩)) ⟨#[32]⟩).run Tryz.prog w = .ok (.string (strOf (A ++ preG [32, 104, 97, 118, 105, 110, 103, 32] [32, 97, 110, 100, 32] haveT hv i ++ [32, 104, 97, 118, 105, 110, 103, 32] ++ aggT ⟨fn, xn⟩ ++ [32]))) w := fun w => sum8 _ [32] (by simp only [List.length_append, List.length_cons, List.length_nil]; omega) w
          have t4 : ∀ w, (Op.stringOp .add (strOf (A ++ preG [32, 104, 97, 118, 105, 110, 103, 32] [32, 97, 110, 100, 32] haveT hv i ++ [32, 104, 97, 118, 105, 110, 103, 32] ++ aggT ⟨fn, xn⟩ ++ [32])) (strOf (condT ⟨op, va⟩))).run Tryz.prog w = .ok (.string (strOf (A ++ preG [32, 104, 97, 118, 105, 110, 103, 32] [32, 97, 110, 100, 32] haveT hv (i + 1)))) w := fun w => by
            rw [hps2, show A ++ (preG [32, 104, 97, 118, 105, 110, 103, 32] [32, 97, 110, 100, 32] haveT hv i ++ [32, 104, 97, 118, 105, 110, 103, 32] ++ haveT ⟨⟨fn, xn⟩, ⟨op, va⟩⟩) = (A ++ preG [32, 104, 97, 118, 105, 110, 103, 32] [32, 97, 110, 100, 32] haveT hv i ++ [32, 104, 97, 118, 105, 110, 103, 32] ++ aggT ⟨fn, xn⟩ ++ [32]) ++ condT ⟨op, va⟩ by unfold haveT; simp only [List.append_assoc]]
            exact sum8 _ _ (by simp only [List.length_append, List.length_cons, List.length_nil]; omega) w
          obtain ⟨Q0, hQ0⟩ : ∃ P, P = strOf (A ++ preG [32, 104, 97, 118, 105, 110, 103, 32] [32, 97, 110, 100, 32] haveT hv i) := ⟨_, rfl⟩
          obtain ⟨Q1, hQ1⟩ : ∃ P, P = strOf (A ++ preG [32, 104, 97, 118, 105, 110, 103, 32] [32, 97, 110, 100, 32] haveT hv i ++ [32, 104, 97, 118, 105, 110, 103, 32]) := ⟨_, rfl⟩
          obtain ⟨Q2, hQ2⟩ : ∃ P, P = strOf (A ++ preG [32, 104, 97, 118, 105, 110, 103, 32] [32, 97, 110, 100, 32] haveT hv i ++ [32, 104, 97, 118, 105, 110, 103, 32] ++ aggT ⟨fn, xn⟩) := ⟨_, rfl⟩
          obtain ⟨Q3, hQ3⟩ : ∃ P, P = strOf (A ++ preG [32, 104, 97, 118, 105, 110, 103, 32] [32, 97, 110, 100, 32] haveT hv i ++ [32, 104, 97, 118, 105, 110, 103, 32] ++ aggT ⟨fn, xn⟩ ++ [32]) := ⟨_, rfl⟩
          obtain ⟨Q4, hQ4⟩ : ∃ P, P = strOf (A ++ preG [32, 104, 97, 118, 105, 110, 103, 32] [32, 97, 110, 100, 32] haveT hv (i + 1)) := ⟨_, rfl⟩
          obtain ⟨AG, hAG⟩ : ∃ P, P = strOf (aggT ⟨fn, xn⟩) := ⟨_, rfl⟩
          obtain ⟨CT, hCT⟩ : ∃ P, P = strOf (condT ⟨op, va⟩) := ⟨_, rfl⟩
          rw [← hQ0, ← hQ1] at t1
          rw [← hQ1, ← hQ2, ← hAG] at t2
          rw [← hQ2, ← hQ3] at t3
          rw [← hQ3, ← hQ4, ← hCT] at t4
          rw [← hAG] at hAt
          rw [← hCT] at hCt
          rw [← hQ0]
          have HQ4 := Lib.hid hQ4
          clear hps hps2 hpl hal hcl hQ0 hQ1 hQ2 hQ3 hQ4 hAG hCT hi0 hxn hAl
          go_upto_region 11 with fail
          go_region_held3 (fun w' => w'.cell? ⟨w.heap.size, 10, none⟩ = some (.slice (some a) hv.length ch) ∧ w'.cell? (a.add (i * 4)) = some (.int .i64 fn) ∧ w'.cell? ⟨(a.add (i * 4)).block, (a.add (i * 4)).off + 1, none⟩ = some (.string xs) ∧ w'.cell? ⟨(a.add (i * 4)).block, (a.add (i * 4)).off + 2, none⟩ = some (.int .i64 op) ∧ w'.cell? ⟨(a.add (i * 4)).block, (a.add (i * 4)).off + 3, none⟩ = some (.int .i64 va) ∧ Below wx.heap.size wx w') (go_keep)
            (first | (go_at_call 38; with_reducible refine (held5 (W := wx) (a0 := ⟨w.heap.size, 10, none⟩) (c0 := .slice (some a) hv.length ch) (a1 := (a.add (i * 4))) (c1 := .int .i64 fn) (a2 := ⟨(a.add (i * 4)).block, (a.add (i * 4)).off + 1, none⟩) (c2 := .string xs) (a3 := ⟨(a.add (i * 4)).block, (a.add (i * 4)).off + 2, none⟩) (c3 := .int .i64 op) (a4 := ⟨(a.add (i * 4)).block, (a.add (i * 4)).off + 3, none⟩) (c4 := .int .i64 va) hAt ?_ ?_ ?_ ?_ ?_ ?_ ).mono ?_; (first | assumption | (simp [*])); (first | assumption | (simp [*])); (first | assumption | (simp [*])); (first | assumption | (simp [*])); (first | assumption | (simp [*])); (first | assumption | (simp [*])); rintro e w9 ⟨rfl, g0, g1, g2, g3, g4, g5⟩) | (go_at_call 39; with_reducible refine (held5 (W := wx) (a0 := ⟨w.heap.size, 10, none⟩) (c0 := .slice (some a) hv.length ch) (a1 := (a.add (i * 4))) (c1 := .int .i64 fn) (a2 := ⟨(a.add (i * 4)).block, (a.add (i * 4)).off + 1, none⟩) (c2 := .string xs) (a3 := ⟨(a.add (i * 4)).block, (a.add (i * 4)).off + 2, none⟩) (c3 := .int .i64 op) (a4 := ⟨(a.add (i * 4)).block, (a.add (i * 4)).off + 3, none⟩) (c4 := .int .i64 va) hCt ?_ ?_ ?_ ?_ ?_ ?_ ).mono ?_; (first | assumption | (simp [*])); (first | assumption | (simp [*])); (first | assumption | (simp [*])); (first | assumption | (simp [*])); (first | assumption | (simp [*])); (first | assumption | (simp [*])); rintro e w9 ⟨rfl, g0, g1, g2, g3, g4, g5⟩))
          go_wp2
          go_roundg (hv.length - (i + 1))
          case rel => exact ⟨i + 1, by omega, rfl, by go_num, by rw [HQ4.out], Lib.hid (by first | assumption | (simp [*]))⟩
          case measure => omega
        · have hps2 : preG [32, 104, 97, 118, 105, 110, 103, 32] [32, 97, 110, 100, 32] haveT hv (i + 1) = preG [32, 104, 97, 118, 105, 110, 103, 32] [32, 97, 110, 100, 32] haveT hv i ++ [32, 97, 110, 100, 32] ++ haveT ⟨⟨fn, xn⟩, ⟨op, va⟩⟩ := by rw [hps, if_neg hi0]
          have hib : ((i : Int) == 0) = false := by rw [beq_eq_false_iff_ne]; omega
          have t1 : ∀ w, (Op.stringOp .add (strOf (A ++ preG [32, 104, 97, 118, 105, 110, 103, 32] [32, 97, 110, 100, 32] haveT hv i)) ⟨#[32, 97, 110, 100, 32]⟩).run Tryz.prog w = .ok (.string (strOf (A ++ preG [32, 104, 97, 118, 105, 110, 103, 32] [32, 97, 110, 100, 32] haveT hv i ++ [32, 97, 110, 100, 32]))) w := fun w => sum8 _ [32, 97, 110, 100, 32] (by simp only [List.length_append, List.length_cons, List.length_nil]; omega) w
          have t2 : ∀ w, (Op.stringOp .add (strOf (A ++ preG [32, 104, 97, 118, 105, 110, 103, 32] [32, 97, 110, 100, 32] haveT hv i ++ [32, 97, 110, 100, 32])) (strOf (aggT ⟨fn, xn⟩))).run Tryz.prog w = .ok (.string (strOf (A ++ preG [32, 104, 97, 118, 105, 110, 103, 32] [32, 97, 110, 100, 32] haveT hv i ++ [32, 97, 110, 100, 32] ++ aggT ⟨fn, xn⟩))) w := fun w => sum8 _ _ (by simp only [List.length_append, List.length_cons, List.length_nil]; omega) w
          have t3 : ∀ w, (Op.stringOp .add (strOf (A ++ preG [32, 104, 97, 118, 105, 110, 103, 32] [32, 97, 110, 100, 32] haveT hv i ++ [32, 97, 110, 100, 32] ++ aggT ⟨fn, xn⟩)) ⟨#[32]⟩).run Tryz.prog w = .ok (.string (strOf (A ++ preG [32, 104, 97, 118, 105, 110, 103, 32] [32, 97, 110, 100, 32] haveT hv i ++ [32, 97, 110, 100, 32] ++ aggT ⟨fn, xn⟩ ++ [32]))) w := fun w => sum8 _ [32] (by simp only [List.length_append, List.length_cons, List.length_nil]; omega) w
          have t4 : ∀ w, (Op.stringOp .add (strOf (A ++ preG [32, 104, 97, 118, 105, 110, 103, 32] [32, 97, 110, 100, 32] haveT hv i ++ [32, 97, 110, 100, 32] ++ aggT ⟨fn, xn⟩ ++ [32])) (strOf (condT ⟨op, va⟩))).run Tryz.prog w = .ok (.string (strOf (A ++ preG [32, 104, 97, 118, 105, 110, 103, 32] [32, 97, 110, 100, 32] haveT hv (i + 1)))) w := fun w => by
            rw [hps2, show A ++ (preG [32, 104, 97, 118, 105, 110, 103, 32] [32, 97, 110, 100, 32] haveT hv i ++ [32, 97, 110, 100, 32] ++ haveT ⟨⟨fn, xn⟩, ⟨op, va⟩⟩) = (A ++ preG [32, 104, 97, 118, 105, 110, 103, 32] [32, 97, 110, 100, 32] haveT hv i ++ [32, 97, 110, 100, 32] ++ aggT ⟨fn, xn⟩ ++ [32]) ++ condT ⟨op, va⟩ by unfold haveT; simp only [List.append_assoc]]
            exact sum8 _ _ (by simp only [List.length_append, List.length_cons, List.length_nil]; omega) w
          obtain ⟨Q0, hQ0⟩ : ∃ P, P = strOf (A ++ preG [32, 104, 97, 118, 105, 110, 103, 32] [32, 97, 110, 100, 32] haveT hv i) := ⟨_, rfl⟩
          obtain ⟨Q1, hQ1⟩ : ∃ P, P = strOf (A ++ preG [32, 104, 97, 118, 105, 110, 103, 32] [32, 97, 110, 100, 32] haveT hv i ++ [32, 97, 110, 100, 32]) := ⟨_, rfl⟩
          obtain ⟨Q2, hQ2⟩ : ∃ P, P = strOf (A ++ preG [32, 104, 97, 118, 105, 110, 103, 32] [32, 97, 110, 100, 32] haveT hv i ++ [32, 97, 110, 100, 32] ++ aggT ⟨fn, xn⟩) := ⟨_, rfl⟩
          obtain ⟨Q3, hQ3⟩ : ∃ P, P = strOf (A ++ preG [32, 104, 97, 118, 105, 110, 103, 32] [32, 97, 110, 100, 32] haveT hv i ++ [32, 97, 110, 100, 32] ++ aggT ⟨fn, xn⟩ ++ [32]) := ⟨_, rfl⟩
          obtain ⟨Q4, hQ4⟩ : ∃ P, P = strOf (A ++ preG [32, 104, 97, 118, 105, 110, 103, 32] [32, 97, 110, 100, 32] haveT hv (i + 1)) := ⟨_, rfl⟩
          obtain ⟨AG, hAG⟩ : ∃ P, P = strOf (aggT ⟨fn, xn⟩) := ⟨_, rfl⟩
          obtain ⟨CT, hCT⟩ : ∃ P, P = strOf (condT ⟨op, va⟩) := ⟨_, rfl⟩
          rw [← hQ0, ← hQ1] at t1
          rw [← hQ1, ← hQ2, ← hAG] at t2
          rw [← hQ2, ← hQ3] at t3
          rw [← hQ3, ← hQ4, ← hCT] at t4
          rw [← hAG] at hAt
          rw [← hCT] at hCt
          rw [← hQ0]
          have HQ4 := Lib.hid hQ4
          clear hps hps2 hpl hal hcl hQ0 hQ1 hQ2 hQ3 hQ4 hAG hCT hi0 hxn hAl
          go_upto_region 11 with fail
          go_region_held3 (fun w' => w'.cell? ⟨w.heap.size, 10, none⟩ = some (.slice (some a) hv.length ch) ∧ w'.cell? (a.add (i * 4)) = some (.int .i64 fn) ∧ w'.cell? ⟨(a.add (i * 4)).block, (a.add (i * 4)).off + 1, none⟩ = some (.string xs) ∧ w'.cell? ⟨(a.add (i * 4)).block, (a.add (i * 4)).off + 2, none⟩ = some (.int .i64 op) ∧ w'.cell? ⟨(a.add (i * 4)).block, (a.add (i * 4)).off + 3, none⟩ = some (.int .i64 va) ∧ Below wx.heap.size wx w') (go_keep)
            (first | (go_at_call 38; with_reducible refine (held5 (W := wx) (a0 := ⟨w.heap.size, 10, none⟩) (c0 := .slice (some a) hv.length ch) (a1 := (a.add (i * 4))) (c1 := .int .i64 fn) (a2 := ⟨(a.add (i * 4)).block, (a.add (i * 4)).off + 1, none⟩) (c2 := .string xs) (a3 := ⟨(a.add (i * 4)).block, (a.add (i * 4)).off + 2, none⟩) (c3 := .int .i64 op) (a4 := ⟨(a.add (i * 4)).block, (a.add (i * 4)).off + 3, none⟩) (c4 := .int .i64 va) hAt ?_ ?_ ?_ ?_ ?_ ?_ ).mono ?_; (first | assumption | (simp [*])); (first | assumption | (simp [*])); (first | assumption | (simp [*])); (first | assumption | (simp [*])); (first | assumption | (simp [*])); (first | assumption | (simp [*])); rintro e w9 ⟨rfl, g0, g1, g2, g3, g4, g5⟩) | (go_at_call 39; with_reducible refine (held5 (W := wx) (a0 := ⟨w.heap.size, 10, none⟩) (c0 := .slice (some a) hv.length ch) (a1 := (a.add (i * 4))) (c1 := .int .i64 fn) (a2 := ⟨(a.add (i * 4)).block, (a.add (i * 4)).off + 1, none⟩) (c2 := .string xs) (a3 := ⟨(a.add (i * 4)).block, (a.add (i * 4)).off + 2, none⟩) (c3 := .int .i64 op) (a4 := ⟨(a.add (i * 4)).block, (a.add (i * 4)).off + 3, none⟩) (c4 := .int .i64 va) hCt ?_ ?_ ?_ ?_ ?_ ?_ ).mono ?_; (first | assumption | (simp [*])); (first | assumption | (simp [*])); (first | assumption | (simp [*])); (first | assumption | (simp [*])); (first | assumption | (simp [*])); (first | assumption | (simp [*])); rintro e w9 ⟨rfl, g0, g1, g2, g3, g4, g5⟩))
          go_wp2
          go_roundg (hv.length - (i + 1))
          case rel => exact ⟨i + 1, by omega, rfl, by go_num, by rw [HQ4.out], Lib.hid (by first | assumption | (simp [*]))⟩
          case measure => omega
      · have g1 : ¬ (i : Int) < (hv.length : Int) := by omega
        have hil : i = hv.length := by omega
        subst hil
        obtain ⟨A2, hA2⟩ : ∃ A2, A2 = A ++ preG [32, 104, 97, 118, 105, 110, 103, 32] [32, 97, 110, 100, 32] haveT hv hv.length := ⟨_, rfl⟩
        have hA2l : A2.length ≤ 307000 := by rw [hA2, List.length_append]; have := HPL.out hv.length; omega
        obtain ⟨Q0, hQ0⟩ : ∃ P, P = strOf A2 := ⟨_, rfl⟩
        rw [← hA2] at HFS
        rw [← hA2, ← hQ0]
        have HQ0 := Lib.hid hQ0
        have HB0 := HBr
        clear HE HPL HPS HHA HAS hA2 hQ0 hAl
        go_wp2
        go_loopg [5, 7] em.length (fun g ov iv wr => ∃ j : Nat, j ≤ em.length ∧ g = em.length - j ∧ iv = .int .i64 (j : Int) ∧ ov = .string (strOf (A2 ++ preG [32, 101, 109, 105, 116, 32] [44, 32] aggT em j)) ∧ Hid (Below wx.heap.size wx wr))
        case atStart => exact ⟨0, Nat.zero_le _, rfl, rfl, by rw [HQ0.out]; show _ = Value.string (strOf (A2 ++ [])); rw [List.append_nil], HB0⟩
        case round =>
          clear HBr HB0 c10
          obtain ⟨j, hj, hg2, rfl, rfl, HBr⟩ := hrel
          have d11 := (HBr.out.cell (p := ⟨w.heap.size, 11, none⟩) HLT.out).trans C11.out
          by_cases hlt2 : j < em.length
          · have g2 : (j : Int) < (em.length : Int) := by omega
            obtain ⟨a, hMa, _, E⟩ := HE2.out j hlt2
            replace E := E.later (bstep HBX.out HBr.out)
            have hps := HPS2.out j hlt2
            have hpl := HPL2.out j
            obtain ⟨hab, hnl⟩ := HEA.out em[j] (List.getElem_mem hlt2)
            obtain ⟨⟨fn, xn⟩, hx⟩ : ∃ x, x = em[j] := ⟨_, rfl⟩
            rw [← hx] at E hps hab hnl
            simp only at hnl
            have hAt := fun w1 (_ : Below wx.heap.size wx w1) => raggText_any fn xn hab (by omega) w1
            have hal := aggK (a := ⟨fn, xn⟩) hnl
            simp only [agC] at E
            obtain ⟨xs, hxn⟩ : ∃ s, s = strOf xn := ⟨_, rfl⟩
            rw [← hxn] at E hAt
            cases hMa
            have e0 := E.at0 _ rfl
            have e1 := E.at1 1 _ (by decide) rfl
            have hwi : IntKind.i64.wrap ((j : Int) + 1) = (j : Int) + 1 := IntWalk.i64_in _ ⟨by omega, by omega⟩
            clear E hx hab hnl HE2 HFS HPL2 HPS2 HEA HSh HQ0 HBX
            by_cases hi0 : j = 0
            · have hps2 : preG [32, 101, 109, 105, 116, 32] [44, 32] aggT em (j + 1) = preG [32, 101, 109, 105, 116, 32] [44, 32] aggT em j ++ [32, 101, 109, 105, 116, 32] ++ aggT ⟨fn, xn⟩ := by rw [hps, if_pos hi0]
              have hib : ((j : Int) == 0) = true := by rw [hi0]; rfl
              have t1 : ∀ w, (Op.stringOp .add (strOf (A2 ++ preG [32, 101, 109, 105, 116, 32] [44, 32] aggT em j)) ⟨#[32, 101, 109, 105, 116, 32]⟩).run Tryz.prog w = .ok (.string (strOf (A2 ++ preG [32, 101, 109, 105, 116, 32] [44, 32] aggT em j ++ [32, 101, 109, 105, 116, 32]))) w := fun w => sum8 _ [32, 101, 109, 105, 116, 32] (by simp only [List.length_append, List.length_cons, List.length_nil]; omega) w
              have t2 : ∀ w, (Op.stringOp .add (strOf (A2 ++ preG [32, 101, 109, 105, 116, 32] [44, 32] aggT em j ++ [32, 101, 109, 105, 116, 32])) (strOf (aggT ⟨fn, xn⟩))).run Tryz.prog w = .ok (.string (strOf (A2 ++ preG [32, 101, 109, 105, 116, 32] [44, 32] aggT em (j + 1)))) w := fun w => by
                rw [hps2, show A2 ++ (preG [32, 101, 109, 105, 116, 32] [44, 32] aggT em j ++ [32, 101, 109, 105, 116, 32] ++ aggT ⟨fn, xn⟩) = (A2 ++ preG [32, 101, 109, 105, 116, 32] [44, 32] aggT em j ++ [32, 101, 109, 105, 116, 32]) ++ aggT ⟨fn, xn⟩ by simp only [List.append_assoc]]
                exact sum8 _ _ (by simp only [List.length_append, List.length_cons, List.length_nil]; omega) w
              obtain ⟨Q0, hQ0⟩ : ∃ P, P = strOf (A2 ++ preG [32, 101, 109, 105, 116, 32] [44, 32] aggT em j) := ⟨_, rfl⟩
              obtain ⟨Q1, hQ1⟩ : ∃ P, P = strOf (A2 ++ preG [32, 101, 109, 105, 116, 32] [44, 32] aggT em j ++ [32, 101, 109, 105, 116, 32]) := ⟨_, rfl⟩
              obtain ⟨Q4, hQ4⟩ : ∃ P, P = strOf (A2 ++ preG [32, 101, 109, 105, 116, 32] [44, 32] aggT em (j + 1)) := ⟨_, rfl⟩
              obtain ⟨AG, hAG⟩ : ∃ P, P = strOf (aggT ⟨fn, xn⟩) := ⟨_, rfl⟩
              rw [← hQ0, ← hQ1] at t1
              rw [← hQ1, ← hQ4, ← hAG] at t2
              rw [← hAG] at hAt
              rw [← hQ0]
              have HQ4 := Lib.hid hQ4
              clear hps hps2 hpl hal hQ0 hQ1 hQ4 hAG hi0 hxn hA2l
              go_wp2_with (go_at_call 38; refine (hAt _ HBr.out).mono ?_; rintro e w5 ⟨rfl, hb5⟩; replace HBr := Lib.hid (bstep HBr.out hb5); have d11 := (HBr.out.cell (p := ⟨w.heap.size, 11, none⟩) HLT.out).trans C11.out; clear hb5)
              go_roundg (em.length - (j + 1))
              case rel => exact ⟨j + 1, by omega, rfl, by go_num, by rw [HQ4.out], HBr⟩
              case measure => omega
            · have hps2 : preG [32, 101, 109, 105, 116, 32] [44, 32] aggT em (j + 1) = preG [32, 101, 109, 105, 116, 32] [44, 32] aggT em j ++ [44, 32] ++ aggT ⟨fn, xn⟩ := by rw [hps, if_neg hi0]
              have hib : ((j : Int) == 0) = false := by rw [beq_eq_false_iff_ne]; omega
              have t1 : ∀ w, (Op.stringOp .add (strOf (A2 ++ preG [32, 101, 109, 105, 116, 32] [44, 32] aggT em j)) ⟨#[44, 32]⟩).run Tryz.prog w = .ok (.string (strOf (A2 ++ preG [32, 101, 109, 105, 116, 32] [44, 32] aggT em j ++ [44, 32]))) w := fun w => sum8 _ [44, 32] (by simp only [List.length_append, List.length_cons, List.length_nil]; omega) w
              have t2 : ∀ w, (Op.stringOp .add (strOf (A2 ++ preG [32, 101, 109, 105, 116, 32] [44, 32] aggT em j ++ [44, 32])) (strOf (aggT ⟨fn, xn⟩))).run Tryz.prog w = .ok (.string (strOf (A2 ++ preG [32, 101, 109, 105, 116, 32] [44, 32] aggT em (j + 1)))) w := fun w => by
                rw [hps2, show A2 ++ (preG [32, 101, 109, 105, 116, 32] [44, 32] aggT em j ++ [44, 32] ++ aggT ⟨fn, xn⟩) = (A2 ++ preG [32, 101, 109, 105, 116, 32] [44, 32] aggT em j ++ [44, 32]) ++ aggT ⟨fn, xn⟩ by simp only [List.append_assoc]]
                exact sum8 _ _ (by simp only [List.length_append, List.length_cons, List.length_nil]; omega) w
              obtain ⟨Q0, hQ0⟩ : ∃ P, P = strOf (A2 ++ preG [32, 101, 109, 105, 116, 32] [44, 32] aggT em j) := ⟨_, rfl⟩
              obtain ⟨Q1, hQ1⟩ : ∃ P, P = strOf (A2 ++ preG [32, 101, 109, 105, 116, 32] [44, 32] aggT em j ++ [44, 32]) := ⟨_, rfl⟩
              obtain ⟨Q4, hQ4⟩ : ∃ P, P = strOf (A2 ++ preG [32, 101, 109, 105, 116, 32] [44, 32] aggT em (j + 1)) := ⟨_, rfl⟩
              obtain ⟨AG, hAG⟩ : ∃ P, P = strOf (aggT ⟨fn, xn⟩) := ⟨_, rfl⟩
              rw [← hQ0, ← hQ1] at t1
              rw [← hQ1, ← hQ4, ← hAG] at t2
              rw [← hAG] at hAt
              rw [← hQ0]
              have HQ4 := Lib.hid hQ4
              clear hps hps2 hpl hal hQ0 hQ1 hQ4 hAG hi0 hxn hA2l
              go_wp2_with (go_at_call 38; refine (hAt _ HBr.out).mono ?_; rintro e w5 ⟨rfl, hb5⟩; replace HBr := Lib.hid (bstep HBr.out hb5); have d11 := (HBr.out.cell (p := ⟨w.heap.size, 11, none⟩) HLT.out).trans C11.out; clear hb5)
              go_roundg (em.length - (j + 1))
              case rel => exact ⟨j + 1, by omega, rfl, by go_num, by rw [HQ4.out], HBr⟩
              case measure => omega
          · have g2 : ¬ (j : Int) < (em.length : Int) := by omega
            have hil : j = em.length := by omega
            subst hil
            rw [← HFS.out]
            have HBW := Lib.hid (bstep HBX.out HBr.out)
            clear HE2 HPL2 HPS2 HEA HQ0 HFS HBr HBX
            go_wp2_with (go_at_call 40; refine (HSh.out _).mono ?_; rintro e w8 ⟨rfl, hb8⟩)
            go_ret2
            exact ⟨rfl, bstep HBW.out hb8⟩
theorem rPrint_any (q : GQ) (w : World) (hq : QW w q) (hl : lightB q.qu = true) :
    Calls Tryz.prog 11 #[.agg q.row.toArray] w fun e w' => e = .returned (.tuple #[.string (strOf (printS q.qu)), .int .i64 (printE q.qu)]) ∧ Below w.heap.size w w' := by
  have hC := fun w1 (hb : Below w.heap.size w w1) => rCheck_any q w1 (hq.later hb)
  have hll := hl
  have hlb : lightB q.qu = (decide (q.hv.length ≤ 20) && decide (q.em.length ≤ 20) && decide (0 ≤ fewN 250 1 q.t.nd) && q.hv.all (fun h => decide (h.ag.nm.length ≤ 30)) && q.em.all (fun a => decide (a.nm.length ≤ 30))) := rfl
  rw [hlb] at hll
  simp only [Bool.and_eq_true, decide_eq_true_eq, List.all_eq_true] at hll
  obtain ⟨⟨⟨⟨l1, l2⟩, l3⟩, l4⟩, l5⟩ := hll
  obtain ⟨m1, m2⟩ := small_of hq.tr (by omega) l3
  have m3 := textK _ m1
  cases hc : checkB q.qu with
  | false =>
    have e0 : checkE q.qu = 3 := by unfold checkE; rw [hc]; rfl
    have e1 : printS q.qu = [] := by unfold printS; rw [hc]; rfl
    have e2 : printE q.qu = 3 := by unfold printE; rw [hc]; rfl
    rw [e0] at hC
    rw [e1, e2]
    clear e0 e1 e2 hc hlb l1 l2 l3 l4 l5 m1 m2 m3 hl hq
    obtain ⟨⟨k, mn, mx, ⟨⟨kd, bd, bn, cs, nm⟩, sc⟩, sk, ks⟩, wi, sh, hv, se, em⟩ := q
    exact rprint_bad k mn mx kd bd bn sc (strOf nm) sk wi sh se w hC
  | true =>
    have e0 : checkE q.qu = 0 := by unfold checkE; rw [hc]; rfl
    have e1 : printS q.qu = shS (queryT q.qu) := by unfold printS shS; simp only [hc, true_and]
    have e2 : printE q.qu = shE (queryT q.qu) := by unfold printE shE; rw [hc, if_pos rfl]
    rw [e0] at hC
    rw [e1, e2]
    obtain ⟨⟨⟨c1, c2⟩, c3⟩, c4⟩ := checkB_iff.1 hc
    have hTx := fun w1 (hb : Below w.heap.size w w1) => rtext_any q.t w1 (hq.tr.later hb) c1 m1 (by omega)
    have hha : ∀ x ∈ q.hv, haveB x = true ∧ x.ag.nm.length ≤ 30 ∧ okV x.cn.va := fun x hx => ⟨List.all_eq_true.1 c3 x hx, l4 x hx, (hq.okh x hx).1.2⟩
    have hea : ∀ x ∈ q.em, aggB x = true ∧ x.nm.length ≤ 30 := fun x hx => ⟨List.all_eq_true.1 c4 x hx, l5 x hx⟩
    have hh := hq.hv
    have he := hq.em
    have hwi := hq.wi
    clear e0 e1 e2 hc hlb l3 l4 l5 m1 hl hq c1 c2 c3 c4
    obtain ⟨T, wi, sh, hv, se, em⟩ := q
    simp only at hh he hwi hha hea hTx l1 l2 m2 m3
    obtain ⟨H, ch, rfl, -, -⟩ := sl_get (by decide) hh
    obtain ⟨M, cm, rfl, -, -⟩ := sl_get (by decide) he
    have hqt : queryT (GQ.qu ⟨T, wi, .slice H hv.length ch, hv, .slice M em.length cm, em⟩) = textN T.nd ++ [32, 119, 105, 116, 104, 105, 110, 32] ++ Lib.itoa wi ++ listT [32, 104, 97, 118, 105, 110, 103, 32] (hv.map haveT) [32, 97, 110, 100, 32] [] ++ listT [32, 101, 109, 105, 116, 32] (em.map aggT) [44, 32] [] := rfl
    rw [hqt]
    obtain ⟨T0, hT0⟩ : ∃ T0, T0 = textN T.nd := ⟨_, rfl⟩
    rw [← hT0] at hTx m3 ⊢
    have hTl : T0.length ≤ 300000 := by omega
    clear hqt hT0 m2 m3
    obtain ⟨k, mn, mx, ⟨⟨kd, bd, bn, cs, nm⟩, sc⟩, sk, ks⟩ := T
    simp only [Tr.row] at hTx
    exact rprint_in k mn mx kd bd bn sc (strOf nm) sk wi H hv ch M em cm T0 w hC hTx hTl hwi hh he l1 l2 hha hea
end Go.Proofs.YtfibmdbplfghcaaGreatDoor
