/- Walks: the program's longest sign. -/
import Derived.Test.YtmdlndmibodimaaDoorTokD
import Derived.Deep.LoopGhost
import Derived.BigQuiet
namespace Go.Proofs.YtmdlndmibodimaaDoor
open Go.RowKit
open Tk7

/-- The signs in the program's order. -/
def signsL : List (List UInt8) := [[33, 61], [60, 61], [62, 61], [61], [60], [62], [59], [124], [123], [125], [44], [40], [41], [91], [93], [64], [58]]
/-- The first sign of a list with which l begins. -/
def firstS (L : List (List UInt8)) (l : List UInt8) : List UInt8 := (L.find? fun c => c.isPrefixOf l).getD []
def firstQ (b : UInt8) (q : Bool) : List UInt8 :=
  if b == 33 && q then [33, 61] else if b == 60 && q then [60, 61] else if b == 62 && q then [62, 61] else
  if oneB b then [b] else []
def firstN (b : UInt8) (q : Bool) : Nat := if twoB b && q then 2 else if oneB b then 1 else 0
theorem firstN_len : ∀ b : Fin 256, ∀ q : Bool, (firstQ (UInt8.ofNat b.val) q).length = firstN (UInt8.ofNat b.val) q := by decide +kernel
/-- The variable holds the signs. -/
def SG (w : World) : Prop := 0 < w.heap.size ∧ ∀ (i : Nat) (c : List UInt8), signsL[i]? = some c → w.cell? ⟨0, i, none⟩ = some (.string (strOf c))
theorem SG.later {w w' : World} (h : SG w) (hb : Below w.heap.size w w') : SG w' :=
  ⟨Nat.lt_of_lt_of_le h.1 hb.size, fun i c hc => (hb.cell (p := ⟨0, i, none⟩) h.1).trans (h.2 i c hc)⟩
theorem SG.grown {w w' : World} {row : Option Nat} (h : SG w) (hg : w.grownBy w' row) (hne : some 0 ≠ row) : SG w' := by
  refine ⟨Nat.lt_of_lt_of_le h.1 hg.size, fun i c hc => ?_⟩
  exact (World.cell?_of_block (w := w) (a := ⟨0, i, none⟩) (hg.block _ h.1 hne)).trans (h.2 i c hc)
theorem SG.drewN {w : World} (h : SG w) (n : Nat) : SG (w.drewN n) := h.later (below_drewN (Below.refl _ _) n)
def signA : Array Value := #[Value.string (strOf [33, 61]), .string (strOf [60, 61]), .string (strOf [62, 61]), .string (strOf [61]), .string (strOf [60]), .string (strOf [62]), .string (strOf [59]), .string (strOf [124]), .string (strOf [123]), .string (strOf [125]), .string (strOf [44]), .string (strOf [40]), .string (strOf [41]), .string (strOf [91]), .string (strOf [93]), .string (strOf [64]), .string (strOf [58])]
theorem arr_idx : ∀ (i : Nat) (c : List UInt8), signsL[i]? = some c → ∀ w : World, (Instr.index 88 (.agg signA) (.int .i64 (i : Int))).run Tryd.prog w = .ok (.string (strOf c)) w := by
  have x0 : ∀ w : World, (Instr.index 88 (.agg #[Value.string (strOf [33, 61]), .string (strOf [60, 61]), .string (strOf [62, 61]), .string (strOf [61]), .string (strOf [60]), .string (strOf [62]), .string (strOf [59]), .string (strOf [124]), .string (strOf [123]), .string (strOf [125]), .string (strOf [44]), .string (strOf [40]), .string (strOf [41]), .string (strOf [91]), .string (strOf [93]), .string (strOf [64]), .string (strOf [58])]) (.int .i64 0)).run Tryd.prog w = .ok (.string (strOf [33, 61])) w := fun _ => by kernel_rfl
  have x1 : ∀ w : World, (Instr.index 88 (.agg #[Value.string (strOf [33, 61]), .string (strOf [60, 61]), .string (strOf [62, 61]), .string (strOf [61]), .string (strOf [60]), .string (strOf [62]), .string (strOf [59]), .string (strOf [124]), .string (strOf [123]), .string (strOf [125]), .string (strOf [44]), .string (strOf [40]), .string (strOf [41]), .string (strOf [91]), .string (strOf [93]), .string (strOf [64]), .string (strOf [58])]) (.int .i64 1)).run Tryd.prog w = .ok (.string (strOf [60, 61])) w := fun _ => by kernel_rfl
  have x2 : ∀ w : World, (Instr.index 88 (.agg #[Value.string (strOf [33, 61]), .string (strOf [60, 61]), .string (strOf [62, 61]), .string (strOf [61]), .string (strOf [60]), .string (strOf [62]), .string (strOf [59]), .string (strOf [124]), .string (strOf [123]), .string (strOf [125]), .string (strOf [44]), .string (strOf [40]), .string (strOf [41]), .string (strOf [91]), .string (strOf [93]), .string (strOf [64]), .string (strOf [58])]) (.int .i64 2)).run Tryd.prog w = .ok (.string (strOf [62, 61])) w := fun _ => by kernel_rfl
  have x3 : ∀ w : World, (Instr.index 88 (.agg #[Value.string (strOf [33, 61]), .string (strOf [60, 61]), .string (strOf [62, 61]), .string (strOf [61]), .string (strOf [60]), .string (strOf [62]), .string (strOf [59]), .string (strOf [124]), .string (strOf [123]), .string (strOf [125]), .string (strOf [44]), .string (strOf [40]), .string (strOf [41]), .string (strOf [91]), .string (strOf [93]), .string (strOf [64]), .string (strOf [58])]) (.int .i64 3)).run Tryd.prog w = .ok (.string (strOf [61])) w := fun _ => by kernel_rfl
  have x4 : ∀ w : World, (Instr.index 88 (.agg #[Value.string (strOf [33, 61]), .string (strOf [60, 61]), .string (strOf [62, 61]), .string (strOf [61]), .string (strOf [60]), .string (strOf [62]), .string (strOf [59]), .string (strOf [124]), .string (strOf [123]), .string (strOf [125]), .string (strOf [44]), .string (strOf [40]), .string (strOf [41]), .string (strOf [91]), .string (strOf [93]), .string (strOf [64]), .string (strOf [58])]) (.int .i64 4)).run Tryd.prog w = .ok (.string (strOf [60])) w := fun _ => by kernel_rfl
  have x5 : ∀ w : World, (Instr.index 88 (.agg #[Value.string (strOf [33, 61]), .string (strOf [60, 61]), .string (strOf [62, 61]), .string (strOf [61]), .string (strOf [60]), .string (strOf [62]), .string (strOf [59]), .string (strOf [124]), .string (strOf [123]), .string (strOf [125]), .string (strOf [44]), .string (strOf [40]), .string (strOf [41]), .string (strOf [91]), .string (strOf [93]), .string (strOf [64]), .string (strOf [58])]) (.int .i64 5)).run Tryd.prog w = .ok (.string (strOf [62])) w := fun _ => by kernel_rfl
  have x6 : ∀ w : World, (Instr.index 88 (.agg #[Value.string (strOf [33, 61]), .string (strOf [60, 61]), .string (strOf [62, 61]), .string (strOf [61]), .string (strOf [60]), .string (strOf [62]), .string (strOf [59]), .string (strOf [124]), .string (strOf [123]), .string (strOf [125]), .string (strOf [44]), .string (strOf [40]), .string (strOf [41]), .string (strOf [91]), .string (strOf [93]), .string (strOf [64]), .string (strOf [58])]) (.int .i64 6)).run Tryd.prog w = .ok (.string (strOf [59])) w := fun _ => by kernel_rfl
  have x7 : ∀ w : World, (Instr.index 88 (.agg #[Value.string (strOf [33, 61]), .string (strOf [60, 61]), .string (strOf [62, 61]), .string (strOf [61]), .string (strOf [60]), .string (strOf [62]), .string (strOf [59]), .string (strOf [124]), .string (strOf [123]), .string (strOf [125]), .string (strOf [44]), .string (strOf [40]), .string (strOf [41]), .string (strOf [91]), .string (strOf [93]), .string (strOf [64]), .string (strOf [58])]) (.int .i64 7)).run Tryd.prog w = .ok (.string (strOf [124])) w := fun _ => by kernel_rfl
  have x8 : ∀ w : World, (Instr.index 88 (.agg #[Value.string (strOf [33, 61]), .string (strOf [60, 61]), .string (strOf [62, 61]), .string (strOf [61]), .string (strOf [60]), .string (strOf [62]), .string (strOf [59]), .string (strOf [124]), .string (strOf [123]), .string (strOf [125]), .string (strOf [44]), .string (strOf [40]), .string (strOf [41]), .string (strOf [91]), .string (strOf [93]), .string (strOf [64]), .string (strOf [58])]) (.int .i64 8)).run Tryd.prog w = .ok (.string (strOf [123])) w := fun _ => by kernel_rfl
  have x9 : ∀ w : World, (Instr.index 88 (.agg #[Value.string (strOf [33, 61]), .string (strOf [60, 61]), .string (strOf [62, 61]), .string (strOf [61]), .string (strOf [60]), .string (strOf [62]), .string (strOf [59]), .string (strOf [124]), .string (strOf [123]), .string (strOf [125]), .string (strOf [44]), .string (strOf [40]), .string (strOf [41]), .string (strOf [91]), .string (strOf [93]), .string (strOf [64]), .string (strOf [58])]) (.int .i64 9)).run Tryd.prog w = .ok (.string (strOf [125])) w := fun _ => by kernel_rfl
  have x10 : ∀ w : World, (Instr.index 88 (.agg #[Value.string (strOf [33, 61]), .string (strOf [60, 61]), .string (strOf [62, 61]), .string (strOf [61]), .string (strOf [60]), .string (strOf [62]), .string (strOf [59]), .string (strOf [124]), .string (strOf [123]), .string (strOf [125]), .string (strOf [44]), .string (strOf [40]), .string (strOf [41]), .string (strOf [91]), .string (strOf [93]), .string (strOf [64]), .string (strOf [58])]) (.int .i64 10)).run Tryd.prog w = .ok (.string (strOf [44])) w := fun _ => by kernel_rfl
  have x11 : ∀ w : World, (Instr.index 88 (.agg #[Value.string (strOf [33, 61]), .string (strOf [60, 61]), .string (strOf [62, 61]), .string (strOf [61]), .string (strOf [60]), .string (strOf [62]), .string (strOf [59]), .string (strOf [124]), .string (strOf [123]), .string (strOf [125]), .string (strOf [44]), .string (strOf [40]), .string (strOf [41]), .string (strOf [91]), .string (strOf [93]), .string (strOf [64]), .string (strOf [58])]) (.int .i64 11)).run Tryd.prog w = .ok (.string (strOf [40])) w := fun _ => by kernel_rfl
  have x12 : ∀ w : World, (Instr.index 88 (.agg #[Value.string (strOf [33, 61]), .string (strOf [60, 61]), .string (strOf [62, 61]), .string (strOf [61]), .string (strOf [60]), .string (strOf [62]), .string (strOf [59]), .string (strOf [124]), .string (strOf [123]), .string (strOf [125]), .string (strOf [44]), .string (strOf [40]), .string (strOf [41]), .string (strOf [91]), .string (strOf [93]), .string (strOf [64]), .string (strOf [58])]) (.int .i64 12)).run Tryd.prog w = .ok (.string (strOf [41])) w := fun _ => by kernel_rfl
  have x13 : ∀ w : World, (Instr.index 88 (.agg #[Value.string (strOf [33, 61]), .string (strOf [60, 61]), .string (strOf [62, 61]), .string (strOf [61]), .string (strOf [60]), .string (strOf [62]), .string (strOf [59]), .string (strOf [124]), .string (strOf [123]), .string (strOf [125]), .string (strOf [44]), .string (strOf [40]), .string (strOf [41]), .string (strOf [91]), .string (strOf [93]), .string (strOf [64]), .string (strOf [58])]) (.int .i64 13)).run Tryd.prog w = .ok (.string (strOf [91])) w := fun _ => by kernel_rfl
  have x14 : ∀ w : World, (Instr.index 88 (.agg #[Value.string (strOf [33, 61]), .string (strOf [60, 61]), .string (strOf [62, 61]), .string (strOf [61]), .string (strOf [60]), .string (strOf [62]), .string (strOf [59]), .string (strOf [124]), .string (strOf [123]), .string (strOf [125]), .string (strOf [44]), .string (strOf [40]), .string (strOf [41]), .string (strOf [91]), .string (strOf [93]), .string (strOf [64]), .string (strOf [58])]) (.int .i64 14)).run Tryd.prog w = .ok (.string (strOf [93])) w := fun _ => by kernel_rfl
  have x15 : ∀ w : World, (Instr.index 88 (.agg #[Value.string (strOf [33, 61]), .string (strOf [60, 61]), .string (strOf [62, 61]), .string (strOf [61]), .string (strOf [60]), .string (strOf [62]), .string (strOf [59]), .string (strOf [124]), .string (strOf [123]), .string (strOf [125]), .string (strOf [44]), .string (strOf [40]), .string (strOf [41]), .string (strOf [91]), .string (strOf [93]), .string (strOf [64]), .string (strOf [58])]) (.int .i64 15)).run Tryd.prog w = .ok (.string (strOf [64])) w := fun _ => by kernel_rfl
  have x16 : ∀ w : World, (Instr.index 88 (.agg #[Value.string (strOf [33, 61]), .string (strOf [60, 61]), .string (strOf [62, 61]), .string (strOf [61]), .string (strOf [60]), .string (strOf [62]), .string (strOf [59]), .string (strOf [124]), .string (strOf [123]), .string (strOf [125]), .string (strOf [44]), .string (strOf [40]), .string (strOf [41]), .string (strOf [91]), .string (strOf [93]), .string (strOf [64]), .string (strOf [58])]) (.int .i64 16)).run Tryd.prog w = .ok (.string (strOf [58])) w := fun _ => by kernel_rfl
  intro i c hc w
  match i with
  | 0 => cases hc; exact x0 w
  | 1 => cases hc; exact x1 w
  | 2 => cases hc; exact x2 w
  | 3 => cases hc; exact x3 w
  | 4 => cases hc; exact x4 w
  | 5 => cases hc; exact x5 w
  | 6 => cases hc; exact x6 w
  | 7 => cases hc; exact x7 w
  | 8 => cases hc; exact x8 w
  | 9 => cases hc; exact x9 w
  | 10 => cases hc; exact x10 w
  | 11 => cases hc; exact x11 w
  | 12 => cases hc; exact x12 w
  | 13 => cases hc; exact x13 w
  | 14 => cases hc; exact x14 w
  | 15 => cases hc; exact x15 w
  | 16 => cases hc; exact x16 w
  | i + 17 => exact absurd hc (by rw [List.getElem?_eq_none (by show 17 ≤ i + 17; omega)]; simp)
theorem arr_is {A : Array Value} (hA : (#[Value.string (strOf [33, 61]), .string (strOf [60, 61]), .string (strOf [62, 61]), .string (strOf [61]), .string (strOf [60]), .string (strOf [62]), .string (strOf [59]), .string (strOf [124]), .string (strOf [123]), .string (strOf [125]), .string (strOf [44]), .string (strOf [40]), .string (strOf [41]), .string (strOf [91]), .string (strOf [93]), .string (strOf [64]), .string (strOf [58])] : Array Value) = A) :
    ∀ (i : Nat) (c : List UInt8), signsL[i]? = some c → ∀ w : World, (Instr.index 88 (.agg A) (.int .i64 (i : Int))).run Tryd.prog w = .ok (.string (strOf c)) w := by
  subst hA
  exact arr_idx
theorem strOf_get {l : List UInt8} {k : Nat} (h : k < (strOf l).size) (h2 : k < l.length) : (strOf l)[k]'h = l[k] := rfl
theorem prefix_not {c l : List UInt8} {k : Nat} (h1 : k < c.length) (h2 : k < l.length) (h : ¬ l[k] = c[k]) : c.isPrefixOf l = false := by
  cases hp : c.isPrefixOf l with
  | false => rfl
  | true =>
    obtain ⟨t, rfl⟩ := List.isPrefixOf_iff_prefix.1 hp
    exact absurd (List.getElem_append_left h1) h
theorem int_eq_byte (a b : UInt8) : (a.toNat : Int) = (b.toNat : Int) ↔ a = b :=
  ⟨fun h => UInt8.toNat_inj.1 (by omega), fun h => by rw [h]⟩
theorem drop_sign {i : Nat} {c : List UInt8} (h : signsL[i]? = some c) : signsL.drop i = c :: signsL.drop (i + 1) := by
  obtain ⟨hi, rfl⟩ := List.getElem?_eq_some_iff.1 h
  exact List.drop_eq_getElem_cons hi
theorem first_skip {c l : List UInt8} {L : List (List UInt8)} (h : c.isPrefixOf l = false) : firstS (c :: L) l = firstS L l := by
  unfold firstS
  rw [List.find?_cons, h]
theorem first_is {c l : List UInt8} {L : List (List UInt8)} (h : c.isPrefixOf l = true) : firstS (c :: L) l = c := by
  unfold firstS
  rw [List.find?_cons, h]
  rfl
theorem not_prefix_long {c l : List UInt8} (h : l.length < c.length) : c.isPrefixOf l = false := by
  cases hp : c.isPrefixOf l with
  | false => rfl
  | true => have := (List.isPrefixOf_iff_prefix.1 hp).length_le; omega
theorem signs_len : ∀ (i : Nat) (c : List UInt8), signsL[i]? = some c → c.length ≤ 2 ∧ 1 ≤ c.length := by
  have h : ∀ c ∈ signsL, c.length ≤ 2 ∧ 1 ≤ c.length := by decide
  exact fun i c hc => h c (List.mem_of_getElem? hc)
set_option maxRecDepth 100000 in
set_option maxHeartbeats 2000000 in
theorem signOf_any (l : List UInt8) (hl : l.length ≤ maxLen) (w : World) (h : SG w) :
    Calls Tryd.prog 50 #[.string (strOf l)] w fun e w' => e = .returned (.string (strOf (firstS signsL l))) ∧ ∃ n, w' = w.drewN n := by
  have d0 := h.2 0 _ rfl
  have d1 := h.2 1 _ rfl
  have d2 := h.2 2 _ rfl
  have d3 := h.2 3 _ rfl
  have d4 := h.2 4 _ rfl
  have d5 := h.2 5 _ rfl
  have d6 := h.2 6 _ rfl
  have d7 := h.2 7 _ rfl
  have d8 := h.2 8 _ rfl
  have d9 := h.2 9 _ rfl
  have d10 := h.2 10 _ rfl
  have d11 := h.2 11 _ rfl
  have d12 := h.2 12 _ rfl
  have d13 := h.2 13 _ rfl
  have d14 := h.2 14 _ rfl
  have d15 := h.2 15 _ rfl
  have d16 := h.2 16 _ rfl
  have hlt := h.1
  go_enter Tryd.func50, Tryd.ntmps50
  go_wp2
  go_step3
  go_wp2
  go_step3
  go_wp2
  generalize hA : (#[Value.string (strOf [33, 61]), .string (strOf [60, 61]), .string (strOf [62, 61]), .string (strOf [61]), .string (strOf [60]), .string (strOf [62]), .string (strOf [59]), .string (strOf [124]), .string (strOf [123]), .string (strOf [125]), .string (strOf [44]), .string (strOf [40]), .string (strOf [41]), .string (strOf [91]), .string (strOf [93]), .string (strOf [64]), .string (strOf [58])] : Array Value) = A
  have hA2 := Lib.hid (arr_is hA)
  clear hA d0 d1 d2 d3 d4 d5 d6 d7 d8 d9 d10 d11 d12 d13 d14 d15 d16
  have hsz : (strOf l).size = l.length := strOf_size l
  unfold maxLen at hl
  go_loopg [7] 17 (fun g iv wr => ∃ (i n : Nat), i ≤ 17 ∧ g = 17 - i ∧ iv = .int .i64 (i : Int) ∧ wr = w.drewN n ∧ Hid (firstS signsL l = firstS (signsL.drop i) l))
  case atStart => exact ⟨0, 0, by omega, rfl, rfl, rfl, Lib.hid rfl⟩
  case round =>
    obtain ⟨i, n, hi, hg, rfl, rfl, hF⟩ := hrel
    by_cases hz : i = 17
    · subst hz
      have e1 := Lib.hid hF.out
      go_wp2
      rw [Exit.noGoto_ret]
      go_ret
      exact ⟨by rw [e1.out]; rfl, _, rfl⟩
    · have hi17 : i < 17 := by omega
      have h1 : (i : Int) < 17 := by omega
      obtain ⟨c, hc⟩ : ∃ c, signsL[i]? = some c := ⟨_, List.getElem?_eq_getElem hi17⟩
      have hAi := hA2.out i c hc
      have hdr := Lib.hid (drop_sign hc)
      have hcl := signs_len i c hc
      have hcs : (strOf c).size = c.length := strOf_size c
      obtain ⟨C, hC⟩ : ∃ C, C = strOf c := ⟨_, rfl⟩
      rw [← hC] at hAi hcs
      have HC := Lib.hid hC
      have hC2 := hC
      clear hC
      have hwi : IntKind.i64.wrap ((i : Int) + 1) = (i : Int) + 1 := IntWalk.i64_in _ ⟨by omega, by omega⟩
      clear hz hc hA2
      by_cases hlong : l.length < c.length
      · have h2 : (l.length : Int) < (c.length : Int) := by omega
        have hF2 := Lib.hid (show firstS signsL l = firstS (signsL.drop (i + 1)) l by rw [hF.out, hdr.out, first_skip (not_prefix_long hlong)])
        clear hC2
        go_wp2
        go_roundg (17 - (i + 1))
        case rel => exact ⟨i + 1, n, by omega, rfl, by go_num, rfl, hF2⟩
        case measure => omega
      · have h2 : ¬ (l.length : Int) < (c.length : Int) := by omega
        have HC2 := Lib.hid hC2
        clear hC2
        go_wp2
        go_loopg [17] c.length (fun g kv wr => ∃ (k n : Nat), k ≤ c.length ∧ g = c.length - k ∧ kv = .int .i64 (k : Int) ∧ wr = w.drewN n ∧ Hid (c.take k = l.take k))
        case atStart => exact ⟨0, n, by omega, rfl, rfl, rfl, Lib.hid rfl⟩
        case round =>
          obtain ⟨k, n, hk, hgk, rfl, rfl, hT⟩ := hrel
          by_cases hkc : k = c.length
          · subst hkc
            have hpre : c.isPrefixOf l = true := by
              have := hT.out
              rw [List.take_length] at this
              rw [List.isPrefixOf_iff_prefix, this]
              exact List.take_prefix _ _
            have e1 := Lib.hid (show firstS signsL l = c by rw [hF.out, hdr.out, first_is hpre])
            clear hpre
            go_wp2
            rw [Exit.noGoto_ret]
            go_ret
            exact ⟨by rw [e1.out, ← HC.out]; rfl, _, rfl⟩
          · have hkc2 : k < c.length := by omega
            have hkl : k < l.length := by omega
            have g1 : (k : Int) < (c.length : Int) := by omega
            have g2 : (0 : Int) ≤ (k : Int) := by omega
            have g3 : (k : Int) < (l.length : Int) := by omega
            have q1 : k < (strOf l).size := by rw [hsz]; exact hkl
            have q2 : k < C.size := by rw [hcs]; exact hkc2
            have hcx : (C[k]'q2) = c[k] := by have hC2 := HC2.out; subst hC2; rfl
            have hlx : ((strOf l)[k]'q1) = l[k] := rfl
            have hT2 := Lib.hid (fun (h : l[k] = c[k]) => show c.take (k + 1) = l.take (k + 1) by rw [take_snoc _ _ hkc2, take_snoc _ _ hkl, hT.out]; exact congrArg (fun z => l.take k ++ [z]) h.symm)
            have hF2 := Lib.hid (fun (h : ¬ l[k] = c[k]) => show firstS signsL l = firstS (signsL.drop (i + 1)) l by rw [hF.out, hdr.out, first_skip (prefix_not hkc2 hkl h)])
            obtain ⟨x, hx⟩ : ∃ x : Int, ((((strOf l)[k]'q1).toNat : Nat) : Int) = x := ⟨_, rfl⟩
            obtain ⟨y, hy⟩ : ∃ y : Int, (((C[k]'q2).toNat : Nat) : Int) = y := ⟨_, rfl⟩
            have hxy := Lib.hid (show x = y ↔ l[k] = c[k] by rw [← hx, ← hy, hcx, hlx]; exact int_eq_byte _ _)
            have hwk : IntKind.i64.wrap ((k : Int) + 1) = (k : Int) + 1 := IntWalk.i64_in _ ⟨by omega, by omega⟩
            clear hcx hlx hkc
            by_cases he : x = y
            · have HE := Lib.hid (hxy.out.1 he)
              subst he
              clear hxy
              go_wp2
              go_quiet (fail)
              go_wp2
              go_roundg (c.length - (k + 1))
              case rel => exact ⟨k + 1, _, by omega, rfl, by go_num, rfl, Lib.hid (hT2.out HE.out)⟩
              case measure => omega
            · have HE := Lib.hid (fun h => he (hxy.out.2 h))
              have heb : (x == y) = false := by rw [beq_eq_false_iff_ne]; exact he
              have heb2 : (x != y) = true := by simp [heb, bne]
              clear hxy
              go_wp2
              go_quiet (fail)
              go_wp2
              go_roundg (17 - (i + 1))
              case rel => exact ⟨i + 1, _, by omega, rfl, by go_num, rfl, Lib.hid (hF2.out HE.out)⟩
              case measure => omega
end Go.Proofs.YtmdlndmibodimaaDoor
