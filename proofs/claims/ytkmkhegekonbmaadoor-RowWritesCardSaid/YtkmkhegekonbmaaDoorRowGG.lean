/- Walks: the program's writer of a row. -/
import Derived.Test.YtkmkhegekonbmaaDoorRowFF
import Derived.Deep.OwnRows
import Derived.Deep.Slices
namespace Go.Proofs.YtkmkhegekonbmaaDoor
open Go.RowKit
open Rw6

theorem infoStr6 : (Tryd.prog.info? 9).map (fun i => (i.zero, i.size, i.bytes)) = some (some (.string ⟨#[]⟩), 1, 16) := by kernel_rfl
/-- The cells behind an element's first, as a walk names them. -/
theorem add_at (a : Addr) (n m : Nat) (hm : 0 < m) : (⟨(a.add n).block, (a.add n).off + m, none⟩ : Addr) = a.add (n + m) := by
  rw [← Go.Deep.add_add]
  conv => rhs; unfold Addr.add
  rw [if_neg (by omega)]
  rfl
def okI (ws : List Wd) : Bool := ws.all fun x => okW x.1 x.2.1
def outs (ws : List Wd) : List ByteArray := ws.map fun x => strOf (wordW x.1 x.2.1)
def joinI (ws : List Wd) : List UInt8 := Lib.join (ws.map fun x => wordW x.1 x.2.1) [32]
/-- A row as it is written, or its error. -/
def lineI (ws : List Wd) : List UInt8 × Int :=
  if ws.length = 0 then ([], 7) else if okI ws = true then (if 1000 < (joinI ws).length then ([], 4) else (joinI ws, 0)) else ([], 3)
theorem wordG_ok {q : Bool} {t : List UInt8} : wordG q t = if okW q t = true then (wordW q t, 0) else ([], 3) := by
  unfold wordG okW wordW
  cases q <;> cases bareB t <;> rfl
theorem okI_take {ws : List Wd} {k : Nat} (h : k < ws.length) : okI (ws.take (k + 1)) = (okI (ws.take k) && okW ws[k].1 ws[k].2.1) := by
  unfold okI
  rw [take_snoc ws k h, List.all_append]
  simp
theorem okI_not {ws : List Wd} {k : Nat} (h : k < ws.length) (hn : okW ws[k].1 ws[k].2.1 = false) : okI ws = false := by
  unfold okI
  rw [List.all_eq_false]
  exact ⟨ws[k], List.getElem_mem h, by rw [hn]; decide⟩
def svals (l : List ByteArray) : List Value := l.map Value.string
theorem svals_take {ws : List Wd} {k : Nat} (h : k < ws.length) : (svals (outs (ws.take k)) ++ List.replicate (ws.length - k) (Value.string ⟨#[]⟩)).set k (.string (strOf (wordW ws[k].1 ws[k].2.1))) = svals (outs (ws.take (k + 1))) ++ List.replicate (ws.length - (k + 1)) (Value.string ⟨#[]⟩) := by
  have e : ws.length - k = (ws.length - (k + 1)) + 1 := by omega
  have hl : (svals (outs (ws.take k))).length = k := by unfold svals outs; simp; omega
  rw [e, List.replicate_succ, List.set_append_right _ _ (by omega), hl, Nat.sub_self, take_snoc ws k h]
  unfold svals outs
  simp only [List.map_append, List.map_cons, List.map_nil, List.append_assoc, List.cons_append, List.nil_append, List.set_cons_zero]
theorem svals_at {ws : List Wd} {k : Nat} (h : k < ws.length) : (svals (outs (ws.take k)) ++ List.replicate (ws.length - k) (Value.string ⟨#[]⟩))[k]? = some (.string ⟨#[]⟩) := by
  have hl : (svals (outs (ws.take k))).length = k := by unfold svals outs; simp; omega
  rw [List.getElem?_append_right (by omega), hl, Nat.sub_self]
  have e : ws.length - k = (ws.length - (k + 1)) + 1 := by omega
  rw [e]
  rfl
theorem join_len (l : List (List UInt8)) (m : Nat) (h : ∀ x ∈ l, x.length ≤ m) : (Lib.join l [32]).length ≤ l.length * (m + 1) := by
  induction l with
  | nil => simp [Lib.join]
  | cons x xs ih =>
    have h1 := h x (List.mem_cons_self ..)
    have h2 := ih fun y hy => h y (List.mem_cons_of_mem _ hy)
    rw [List.length_cons, Nat.succ_mul]
    cases xs with
    | nil => simp [Lib.join, List.intercalate]; omega
    | cons y ys =>
      have e : Lib.join (x :: y :: ys) [32] = x ++ ([32] ++ Lib.join (y :: ys) [32]) := by simp [Lib.join, List.intercalate]
      rw [e, List.length_append, List.length_append]
      simp only [List.length_cons, List.length_nil] at *
      omega
theorem escL_len (l : List UInt8) : (escL l).length ≤ 4 * l.length := by
  induction l with
  | nil => simp [escL]
  | cons b l ih =>
    have : (escB b).length ≤ 4 := by unfold escB; split <;> (try split) <;> simp
    unfold escL at ih ⊢
    rw [List.flatMap_cons, List.length_append, List.length_cons]
    omega
theorem wordW_len (q : Bool) (t : List UInt8) : (wordW q t).length ≤ 4 * t.length + 2 := by
  unfold wordW
  have := escL_len t
  split
  · simp only [List.length_cons, List.length_append, List.length_nil]; omega
  · omega
theorem joinI_len {ws : List Wd} {m : Nat} (h : ∀ x ∈ ws, x.2.1.length ≤ m) : (joinI ws).length ≤ ws.length * (4 * m + 3) := by
  have := join_len (ws.map fun x => wordW x.1 x.2.1) (4 * m + 2) fun y hy => by
    obtain ⟨x, hx, rfl⟩ := List.mem_map.1 hy
    have h1 := wordW_len x.1 x.2.1
    have h2 := h x hx
    omega
  rw [List.length_map] at this
  exact this
theorem outs_bytes (ws : List Wd) : (outs ws).map (·.data.toList) = ws.map fun x => wordW x.1 x.2.1 := by
  unfold outs
  rw [List.map_map]
  apply List.map_congr_left
  intro x _
  exact strOf_dat _
theorem outs_len (ws : List Wd) : (outs ws).length = ws.length := by unfold outs; rw [List.length_map]
theorem madeS (n : Nat) : madeCells #[Value.string ⟨#[]⟩] n = (List.replicate n (Value.string ⟨#[]⟩)).toArray := by
  apply Array.ext'
  apply List.ext_getElem?
  intro j
  by_cases hj : j < n
  · simp only [madeCells, Array.toList_map, Array.toList_range, List.getElem?_map, List.getElem?_range hj, Option.map_some]
    simp [hj, Nat.mod_one]
  · rw [List.getElem?_eq_none (by rw [Array.length_toList, size_madeCells]; omega), List.getElem?_eq_none (by simp; omega)]
set_option maxRecDepth 100000 in
set_option maxHeartbeats 4000000 in
theorem lineOf_any (at_ : Int) (v : Value) (ws : List Wd) (w : World) (hv : WSl w v ws) (hl : ws.length ≤ 1000) (hs : ∀ x ∈ ws, x.2.1.length ≤ 20000) :
    Calls Tryd.prog 34 #[.agg #[.int .i64 at_, v]] w fun e w' => e = .returned (.tuple #[.string (strOf (lineI ws).1), .int .i64 (lineI ws).2]) ∧ Below w.heap.size w w' := by
  obtain ⟨A, cap, rfl, hcap, hmax, _, hc⟩ := hv.at_
  have hmk : ∀ w, (Instr.makeSlice 33 (.int .i64 (ws.length : Int)) (.int .i64 (ws.length : Int))).run Tryd.prog w = .ok (.slice (some ⟨w.heap.size, 0, none⟩) ws.length ws.length) (w.alloc (.cells (List.replicate ws.length (Value.string ⟨#[]⟩)).toArray 9)) := fun w => by
    rw [← madeS]
    exact run_make_row' 33 9 (.string ⟨#[]⟩) 16 Tryd.underlying33 infoStr6 rfl .i64 .i64 ws.length (by omega) (by omega) w
  have hW := fun (x : Wd) (h : x.2.1.length ≤ 20000) W => word_is x.1 (strOf x.2.1) x.2.2 (by rw [strOf_size]; omega) W
  have HC := Lib.hid hc
  have HS := Lib.hid hs
  by_cases h0 : ws.length = 0
  · have e0 : lineI ws = ([], 7) := by unfold lineI; rw [if_pos h0]
    rw [e0]
    have hi : (ws.length : Int) = 0 := by omega
    rw [h0]
    clear e0 hmk hW hc hs hv
    go_enter Tryd.func34, Tryd.ntmps34
    go_wp2
    go_ret2
    exact ⟨rfl, (Below.refl _ _).alloc (Nat.le_refl _) _⟩
  · have hwd : ∀ (x : Wd), x.2.1.length ≤ 20000 → ∀ W, Calls Tryd.prog 15 #[.agg #[.bool x.1, .string (strOf x.2.1), .int .i64 x.2.2]] W fun e w' => e = .returned (if okW x.1 x.2.1 = true then .tuple #[.string (strOf (wordW x.1 x.2.1)), .int .i64 0] else .tuple #[.string ⟨#[]⟩, .int .i64 3]) ∧ Below W.heap.size W w' := fun x h W => by
      have := hW x h W
      rw [strOf_dat, wordG_ok] at this
      refine this.mono ?_
      rintro e w' ⟨rfl, hb⟩
      refine ⟨?_, hb⟩
      cases okW x.1 x.2.1 <;> rfl
    clear hW
    have hi : ((ws.length : Int) == 0) = false := by rw [beq_eq_false_iff_ne]; omega
    have hz : ¬ ws.length = 0 := h0
    clear hc hs hv h0
    go_enter Tryd.func34, Tryd.ntmps34
    go_wp2
    clear hmk
    go_loopw [21] (fun i wr => ∃ k : Nat, k ≤ ws.length ∧ i = .int .i64 (k : Int) ∧ okI (ws.take k) = true ∧ Hid (Blk wr (w.heap.size + 1) (svals (outs (ws.take k)) ++ List.replicate (ws.length - k) (Value.string ⟨#[]⟩))) ∧ Below w.heap.size w wr) (fun i _ => ws.length - (intOf i).toNat)
    case atStart =>
      refine ⟨0, Nat.zero_le _, rfl, rfl, Lib.hid ?_, by go_grown⟩
      exact Blk.is _ (by simp)
    case round =>
      obtain ⟨k, hk, rfl, hok, hK, hB⟩ := hrel
      by_cases hlt : k < ws.length
      · obtain ⟨a, rfl, hab, c0, c1, c2⟩ := HC.out k hlt
        have d0 := (hB.cell (p := a.add (k * 3)) (by rw [add_block]; omega)).trans c0
        have d1 := (hB.cell (p := a.add (k * 3 + 1)) (by rw [add_block]; omega)).trans c1
        have d2 := (hB.cell (p := a.add (k * 3 + 2)) (by rw [add_block]; omega)).trans c2
        rw [← add_at _ _ _ (by decide)] at d1 d2
        have hi' : (k : Int) < (ws.length : Int) := by omega
        have hBk := fun w => hwd ws[k] (HS.out _ (List.getElem_mem hlt)) w
        have hnx := okI_take hlt
        rw [hok, Bool.true_and] at hnx
        have hfa := okI_not hlt
        have hsv := svals_take hlt
        obtain ⟨b, hb⟩ : ∃ b, b = okW ws[k].1 ws[k].2.1 := ⟨_, rfl⟩
        obtain ⟨s, hse⟩ : ∃ s, s = strOf (wordW ws[k].1 ws[k].2.1) := ⟨_, rfl⟩
        rw [← hb] at hBk hnx hfa
        rw [← hse] at hBk hsv
        have HSV := Lib.hid hsv
        have HNX := Lib.hid hnx
        clear c0 c1 c2 hb hse hsv hnx hok
        cases b with
        | true =>
          clear hfa
          rw [if_pos rfl] at hBk
          go_wp2_with (go_at_call 15; refine (hBk _).mono ?_; rintro e w' ⟨rfl, hb⟩; have HK := Lib.hid ((hK.out.alloc _).later hb); have HB := Lib.hid ((hB.alloc hB.size _).trans (hb.mono (by have := hB.size; simp; omega))); have s0 := HK.out.cell k _ (svals_at hlt); have sf := HK.out.fr k _ (svals_at hlt))
          go_roundw
          case rel => exact ⟨k + 1, by omega, by go_num, HNX.out, Lib.hid (by rw [← HSV.out]; exact HK.out.set k _), HB.out.setCell (p := ⟨w.heap.size + 1, k, none⟩) (by simp) _⟩
          case measure => simp [intOf]; omega
        | false =>
          have HFA := Lib.hid (hfa rfl)
          clear hfa
          rw [if_neg (by decide)] at hBk
          go_wp2_with (go_at_call 15; refine (hBk _).mono ?_; rintro e w' ⟨rfl, hb⟩)
          go_ret2
          exact ⟨by rw [show lineI ws = ([], 3) by unfold lineI; rw [if_neg hz, if_neg (by rw [HFA.out]; decide)]]; rfl, (hB.alloc hB.size _).trans (hb.mono (by have := hB.size; first | omega | (simp; omega)))⟩
      · have hkz : k = ws.length := by omega
        subst hkz
        have hi' : ¬ (ws.length : Int) < (ws.length : Int) := by omega
        rw [List.take_length] at hok hK
        rw [Nat.sub_self, List.replicate_zero, List.append_nil] at hK
        have hjl := joinI_len (ws := ws) (m := 20000) HS.out
        have hj := Tryd.strings_Join (w.heap.size + 1) 0 ws.length (outs ws) ⟨#[32]⟩ wr (fun j x hx => by rw [Nat.zero_add]; exact hK.out.cell j _ (by unfold svals; rw [List.getElem?_map, hx]; rfl)) hK.out.lt (by rw [outs_len]; omega) (by rw [outs_len]; omega) (by
          rw [outs_bytes]
          have := Nat.mul_le_mul_right (4 * 20000 + 3) hl
          show (joinI ws).length ≤ _
          omega)
        rw [outs_bytes, outs_len] at hj
        have hL : lineI ws = if 1000 < (joinI ws).length then ([], 4) else (joinI ws, 0) := by unfold lineI; rw [if_neg hz, if_pos hok]
        have hjs : (⟨(Lib.join (ws.map fun x => wordW x.1 x.2.1) (⟨#[32]⟩ : ByteArray).data.toList).toArray⟩ : ByteArray) = strOf (joinI ws) := rfl
        rw [hjs] at hj
        obtain ⟨J, hJ⟩ : ∃ J, J = joinI ws := ⟨_, rfl⟩
        rw [← hJ] at hL hj hjl
        have hsz := strOf_size J
        clear hjs hJ hok hK hwd HC
        by_cases hlg : 1000 < J.length
        · rw [if_pos hlg] at hL
          have HL := Lib.hid hL
          clear hL
          have hlg' : (1000 : Int) < ((strOf J).size : Int) := by omega
          go_wp2_with (go_at_call 54; refine hj.mono ?_; rintro e w' ⟨rfl, hb⟩)
          go_ret2
          exact ⟨by rw [HL.out]; rfl, hB.trans (hb.mono hB.size)⟩
        · rw [if_neg hlg] at hL
          have HL := Lib.hid hL
          clear hL
          have hlg' : ¬ (1000 : Int) < ((strOf J).size : Int) := by omega
          go_wp2_with (go_at_call 54; refine hj.mono ?_; rintro e w' ⟨rfl, hb⟩)
          go_ret2
          exact ⟨by rw [HL.out]; rfl, hB.trans (hb.mono hB.size)⟩
end Go.Proofs.YtkmkhegekonbmaaDoor
