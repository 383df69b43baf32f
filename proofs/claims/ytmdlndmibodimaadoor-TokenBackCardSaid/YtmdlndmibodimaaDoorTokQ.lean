/- Walk: TokenBlanks. -/
import Derived.Test.YtmdlndmibodimaaDoorTokP
import Derived.Test.YtmdlndmibodimaaDoorTokO
namespace Go.Proofs.YtmdlndmibodimaaDoor
open Go.RowKit
open Tk7

def getI (l : List Int) (i : Nat) : Int := (l[i]?).getD 0
def remI (k : Int) : Nat := ((k.tmod 3 + 3).tmod 3).toNat
theorem rem_facts (k : Int) : -3 < k.tmod 3 ∧ k.tmod 3 < 3 ∧ ((k.tmod 3 + 3).tmod 3) = (remI k : Int) ∧ remI k < 3 := by
  have h1 : -3 < k.tmod 3 := by have := Int.lt_tmod_of_pos k (show (0 : Int) < 3 by decide); omega
  have h2 : k.tmod 3 < 3 := Int.tmod_lt_of_pos k (by decide)
  have h3 : 0 ≤ (k.tmod 3 + 3).tmod 3 := Int.tmod_nonneg 3 (by omega)
  have h4 : (k.tmod 3 + 3).tmod 3 < 3 := Int.tmod_lt_of_pos _ (by decide)
  refine ⟨h1, h2, ?_, ?_⟩
  · unfold remI; omega
  · unfold remI; omega
/-- The blanks in front of token i. -/
def gI (l : List Int) (i : Nat) : List UInt8 := [32, 9, 10].take (1 + remI (getI l i))
theorem gI_ok (l : List Int) (i : Nat) : (gI l i) ≠ [] ∧ (∀ b ∈ gI l i, blankB b = true) ∧ (gI l i).length = 1 + remI (getI l i) := by
  have h := (rem_facts (getI l i)).2.2.2
  unfold gI
  generalize remI (getI l i) = r at h
  match r, h with
  | 0, _ => exact ⟨by simp, by simp [blankB], rfl⟩
  | 1, _ => exact ⟨by simp, by simp [blankB], rfl⟩
  | 2, _ => exact ⟨by simp, by simp [blankB], rfl⟩
theorem some_cut (l : List Int) (i : Nat) : (⟨#[32, 9, 10, 13, 32, 32, 10, 32]⟩ : ByteArray).extract 0 (1 + remI (getI l i)) = strOf (gI l i) := by
  have h := (rem_facts (getI l i)).2.2.2
  unfold gI
  generalize remI (getI l i) = r at h
  match r, h with
  | 0, _ => rfl
  | 1, _ => rfl
  | 2, _ => rfl
/-- The text behind i tokens, blanks in front of each. -/
def catB (l : List Int) (ts : List T) : Nat → List UInt8
  | 0 => []
  | i + 1 => catB l ts i ++ (gI l i ++ ((ts[i]?).map (·.2.1)).getD [])
theorem catB_spread (l : List Int) (e : List UInt8) : ∀ (ts : List T) (k : Nat), catB l ts k ++ spread ((List.range' k (ts.length - k)).map (gI l)) (ts.drop k) e = catB l ts ts.length ++ e ∨ ts.length < k := by
  intro ts k
  by_cases hk : ts.length < k
  · exact .inr hk
  · left
    obtain ⟨d, hd⟩ : ∃ d, d = ts.length - k := ⟨_, rfl⟩
    rw [← hd]
    induction d generalizing k with
    | zero =>
      obtain rfl : k = ts.length := by omega
      rw [List.drop_length]
      rfl
    | succ d ih =>
      have hk2 : k < ts.length := by omega
      rw [List.drop_eq_getElem_cons hk2]
      have h := ih (k + 1) (by omega) (by omega)
      rw [← h]
      simp only [List.range'_succ, List.map_cons, spread, catB]
      rw [List.getElem?_eq_getElem hk2]
      simp
theorem catB_len (l : List Int) (ts : List T) : ∀ i, i ≤ ts.length → (catB l ts i).length ≤ 3 * i + ((ts.take i).map fun t => t.2.1.length).sum := by
  intro i
  induction i with
  | zero => intro _; simp [catB]
  | succ i ih =>
    intro hi
    have h1 := ih (by omega)
    have h2 := (gI_ok l i).2.2
    have h3 := (rem_facts (getI l i)).2.2.2
    have hlt : i < ts.length := by omega
    unfold catB
    rw [take_snoc _ _ hlt, List.map_append, List.sum_append, List.length_append, List.length_append, List.getElem?_eq_getElem hlt]
    simp only [Option.map_some, Option.getD_some, List.map_cons, List.map_nil, List.sum_cons, List.sum_nil]
    omega
theorem blanks_toks {l : List Int} {ts : List T} {t : List UInt8} (h : toksR t = .ok ts) (ht : t.length ≤ 90) : (catB l ts ts.length).length ≤ 360 ∧ ∃ us, toksR (catB l ts ts.length ++ [32, 9, 10, 13]) = .ok us ∧ sameT us ts := by
  have hl := (toks_lt h).2
  have h1 := laid_of t.length t 0 ts (Nat.le_refl _) hl
  have h2 := laid_len ts t 0 h1
  have h3 := laid_tok ts t 0 h1
  have h4 := toksR_len h
  have h5 := catB_len l ts ts.length (Nat.le_refl _)
  rw [List.take_length] at h5
  refine ⟨by omega, ?_⟩
  have h6 := (catB_spread l [32, 9, 10, 13] ts 0).resolve_right (by omega)
  rw [List.drop_zero, Nat.sub_zero] at h6
  obtain ⟨us, h7, h8⟩ := toks_spread ((List.range' 0 ts.length).map (gI l)) ts [32, 9, 10, 13] 0 (by simp) (fun g hg => by
    obtain ⟨i, _, rfl⟩ := List.mem_map.1 hg
    exact ⟨(gI_ok l i).1, (gI_ok l i).2.1⟩) h3 (by simp [blankB])
  refine ⟨us, ?_, h8⟩
  rw [toksG_zero _ (by rw [List.length_append]; simp; omega), ← h6]
  exact h7
theorem catB_part (l : List Int) {ts : List T} {t : List UInt8} (h : toksR t = .ok ts) (ht : t.length ≤ 90) (i : Nat) (hi : i ≤ ts.length) : (catB l ts i).length ≤ 360 := by
  have hl := (toks_lt h).2
  have h1 := laid_of t.length t 0 ts (Nat.le_refl _) hl
  have h2 := laid_len ts t 0 h1
  have h4 := toksR_len h
  have h5 := catB_len l ts i hi
  have h6 : ((ts.take i).map fun t => t.2.1.length).sum ≤ (ts.map fun t => t.2.1.length).sum := by
    conv => rhs; rw [← List.take_append_drop i ts, List.map_append, List.sum_append]
    exact Nat.le_add_right _ _
  omega
theorem tok_len {ts : List T} {t : List UInt8} (h : toksR t = .ok ts) (i : Nat) (hi : i < ts.length) : (ts[i]).2.1.length ≤ t.length := by
  have hl := (toks_lt h).2
  have h1 := laid_at ts t 0 (laid_of t.length t 0 ts (Nat.le_refl _) hl) ts[i] (List.getElem_mem hi)
  omega
set_option maxRecDepth 100000 in
set_option maxHeartbeats 4000000 in
theorem blanks_err (t : List UInt8) (v : Value) (nums : List Int) (ht : t.length ≤ 90) (e : Int × Nat) (h : toksR t = .error e) (w : World) (hG : SG w) (hv : Slc w v (vals .i64 nums)) :
    Calls Tryd.prog 7 #[.string (strOf t), v] w fun e w' => e = .returned (.bool true) ∧ Below w.heap.size w w' := by
  obtain ⟨A, cap, rfl, _, _⟩ := hv.ints
  obtain ⟨er, p⟩ := e
  have her : er = 3 := (toks_fault (by omega) h).1
  subst her
  have hT := fun w hG => tokens_err h w hG
  have e1 : (strOf t).size = t.length := strOf_size t
  obtain ⟨S, hS⟩ : ∃ S, S = strOf t := ⟨_, rfl⟩
  rw [← hS] at hT e1 ⊢
  have g1 : ¬ (90 : Int) < (t.length : Int) := by omega
  clear hS
  go_enter Tryd.func7, Tryd.ntmps7
  go_wp2_with (first
    | (go_at_call 9; with_reducible refine (hT _ hG).mono ?_; rintro e w1 ⟨rfl, hb1⟩; have hG1 := (hG.later hb1).later (below1 w1 (.cells #[.int .i64 3, .int .i64 (p : Int)] 25)))
    | (go_at_call 17; with_reducible refine (awake_any _ hG1).mono ?_; rintro e w7 ⟨rfl, hb7⟩))
  go_ret
  exact ⟨rfl, bstep (bstep hb1 (below1 w1 _)) hb7⟩
set_option maxRecDepth 100000 in
set_option maxHeartbeats 4000000 in
theorem blanks_ok (t : List UInt8) (v : Value) (nums : List Int) (ht : t.length ≤ 90) (ts : List T) (h : toksR t = .ok ts) (w : World) (hG : SG w) (hv : Slc w v (vals .i64 nums)) :
    Calls Tryd.prog 7 #[.string (strOf t), v] w fun e w' => e = .returned (.bool true) ∧ Below w.heap.size w w' := by
  obtain ⟨A0, cap, rfl, hnl, hnc⟩ := hv.ints
  have hT := fun w hG => tokens_ok h w hG
  have e1 : (strOf t).size = t.length := strOf_size t
  obtain ⟨S, hS⟩ : ∃ S, S = strOf t := ⟨_, rfl⟩
  rw [← hS] at hT e1 ⊢
  have g1 : ¬ (90 : Int) < (t.length : Int) := by omega
  have h4 := toksR_len h
  obtain ⟨hCL, us, hus, hsame⟩ := blanks_toks (l := nums) h ht
  have hT2 := fun w hG => tokens_ok hus w hG
  have hSame := fun w u v (hu : KSl w u (us.map tkOf)) (hv : KSl w v (ts.map tkOf)) => same_any u v _ _ w hu hv
  rw [sameK_toks hsame] at hSame
  have HPart := Lib.hid (fun i hi => catB_part nums h ht i hi)
  have HTok := Lib.hid (fun i hi => tok_len h i hi)
  have HNC := Lib.hid hnc
  clear hS hv hnc hus hsame
  go_enter Tryd.func7, Tryd.ntmps7
  go_wp2_with fail
  refine (hT _ hG).mono ?_
  rintro e w1 ⟨A1, c1, rfl, hb1, ho1⟩
  obtain ⟨W, hWW⟩ : ∃ W, W = w1.alloc (.cells #[.int .i64 0, .int .i64 0] 25) := ⟨_, rfl⟩
  have bW : Below w1.heap.size w1 W := by rw [hWW]; exact below1 _ _
  have F1 : Blk W w1.heap.size [.int .i64 0, .int .i64 0] := by rw [hWW]; exact Blk.is _ rfl
  have f10 := F1.cell 0 _ rfl
  have hk1 := (own_ts ho1).later bW
  have GW := (hG.later hb1).later bW
  have BW := bstep hb1 bW
  clear hT ho1 bW
  go_upto_region 4 with (fail)
  rw [← hWW]
  clear hWW
  obtain ⟨A1', c1', hsl, hk2, _, _, hkc⟩ := hk1.at_
  rw [List.length_map] at hsl
  simp only [Value.slice.injEq] at hsl
  obtain ⟨rfl, _, rfl⟩ := hsl
  have HKC := Lib.hid hkc
  have HK1 := Lib.hid hk1
  clear hkc hk1
  go_wp2
  go_loopg [7, 8] ts.length (fun g ov iv wr => ∃ (i n : Nat), i ≤ ts.length ∧ g = ts.length - i ∧ iv = .int .i64 (i : Int) ∧ ov = .string (strOf (catB nums ts i)) ∧ wr = W.drewN n)
  case atStart => exact ⟨0, 0, Nat.zero_le _, rfl, rfl, rfl, rfl⟩
  case round =>
    obtain ⟨i, n, hi, hg, rfl, rfl, rfl⟩ := hrel
    have hwi : IntKind.i64.wrap ((i : Int) + 1) = (i : Int) + 1 := IntWalk.i64_in _ ⟨by omega, by omega⟩
    by_cases hlt : i < ts.length
    · obtain ⟨a, rfl, ha, -, d1, -⟩ := HKC.out i (by rw [List.length_map]; exact hlt)
      rw [← add_at _ (i * 3) 1 (by decide), List.getElem_map] at d1
      have hcat : catB nums ts (i + 1) = catB nums ts i ++ (gI nums i ++ ts[i].2.1) := by
        show catB nums ts i ++ (gI nums i ++ ((ts[i]?).map (·.2.1)).getD []) = _
        rw [List.getElem?_eq_getElem hlt]
        rfl
      have d2 : W.cell? ⟨(a.add (i * 3)).block, (a.add (i * 3)).off + 1, none⟩ = some (.string (strOf ts[i].2.1)) := d1
      have s1 := HPart.out i hi
      have s2 := HTok.out i hlt
      have s3 := (gI_ok nums i).2.2
      obtain ⟨r1, r2, r3, r4⟩ := rem_facts (getI nums i)
      have hcut := some_cut nums i
      have hap1 : strOf (catB nums ts i) ++ strOf (gI nums i) = strOf (catB nums ts i ++ gI nums i) := (strOf_app _ _).symm
      have hap2 : strOf (catB nums ts i ++ gI nums i) ++ strOf ts[i].2.1 = strOf (catB nums ts (i + 1)) := by rw [← strOf_app, hcat, List.append_assoc]
      have z1 : (strOf (catB nums ts i)).size = (catB nums ts i).length := strOf_size _
      have z2 : (strOf (gI nums i)).size = (gI nums i).length := strOf_size _
      have z3 : (strOf ts[i].2.1).size = (ts[i].2.1).length := strOf_size _
      have z4 : (strOf (catB nums ts i ++ gI nums i)).size = (catB nums ts i).length + (gI nums i).length := by rw [strOf_size, List.length_append]
      obtain ⟨R, hR⟩ : ∃ R, R = remI (getI nums i) := ⟨_, rfl⟩
      rw [← hR] at r3 r4 hcut s3
      obtain ⟨O1, hO1⟩ : ∃ O, O = strOf (catB nums ts i) := ⟨_, rfl⟩
      obtain ⟨O2, hO2⟩ : ∃ O, O = strOf (gI nums i) := ⟨_, rfl⟩
      obtain ⟨O3, hO3⟩ : ∃ O, O = strOf ts[i].2.1 := ⟨_, rfl⟩
      obtain ⟨O4, hO4⟩ : ∃ O, O = strOf (catB nums ts i ++ gI nums i) := ⟨_, rfl⟩
      obtain ⟨O5, hO5⟩ : ∃ O, O = strOf (catB nums ts (i + 1)) := ⟨_, rfl⟩
      rw [← hO1] at hap1 z1 ⊢
      rw [← hO2] at hap1 z2 hcut
      rw [← hO3] at d2 hap2 z3
      rw [← hO4] at hap1 hap2 z4
      rw [← hO5] at hap2
      have HO5 := Lib.hid hO5
      have y1 : ¬ 9223372036854775807 < O1.size + O2.size := by omega
      have y2 : ¬ 9223372036854775807 < O4.size + O3.size := by omega
      rw [z1, z2] at y1
      rw [z3, z4] at y2
      have x1 : (i : Int) < (ts.length : Int) := by omega
      clear hcat d1 hO1 hO2 hO3 hO4 hO5 hR
      by_cases hn : i < nums.length
      · obtain ⟨b, rfl, hb, hcell⟩ := HNC.out i hn
        have hgi : nums[i] = getI nums i := by unfold getI; rw [List.getElem?_eq_getElem hn]; rfl
        rw [hgi] at hcell
        have hcell2 : W.cell? (b.add i) = some (.int .i64 (getI nums i)) := (BW.cell (p := b.add i) (by rw [add_block]; exact hb)).trans hcell
        obtain ⟨k, hk⟩ : ∃ k, k = getI nums i := ⟨_, rfl⟩
        rw [← hk] at hcell2 r1 r2 r3
        obtain ⟨q, hq⟩ : ∃ q, k.tmod 3 = q := ⟨_, rfl⟩
        rw [hq] at r1 r2 r3
        have w1' : IntKind.i64.wrap (q + 3) = q + 3 := IntWalk.i64_in _ ⟨by omega, by omega⟩
        have w2' : IntKind.i64.wrap (1 + (R : Int)) = ((1 + R : Nat) : Int) := by rw [IntWalk.i64_in _ ⟨by omega, by omega⟩]; omega
        have x2 : (i : Int) < (nums.length : Int) := by omega
        obtain ⟨G, hGG⟩ : ∃ G, G = 1 + R := ⟨_, rfl⟩
        rw [← hGG] at w2' hcut
        have x3 : (0 : Int) ≤ (G : Int) := by omega
        have x4 : (G : Int) ≤ 8 := by omega
        clear hk hgi hcell hGG
        go_upto_region 13 with (fail)
        go_quiet (fail)
        go_wp2
        go_roundg (ts.length - (i + 1))
        case rel => exact ⟨i + 1, _, by omega, rfl, by go_num, by rw [HO5.out], rfl⟩
        case measure => omega
      · have hgi : getI nums i = 0 := by unfold getI; rw [List.getElem?_eq_none (by omega)]; rfl
        rw [hgi] at r3
        have hR0 : R = 0 := by
          have e : ((0 : Int).tmod 3 + 3).tmod 3 = 0 := by decide
          rw [e] at r3
          omega
        subst hR0
        have x2 : ¬ (i : Int) < (nums.length : Int) := by omega
        have t0 : (0 : Int).tmod 3 = 0 := by decide
        have t3 : (3 : Int).tmod 3 = 0 := by decide
        have hcut1 : (⟨#[32, 9, 10, 13, 32, 32, 10, 32]⟩ : ByteArray).extract 0 1 = O2 := hcut
        clear hgi r1 r2 r3 hcut
        go_upto_region 13 with (fail)
        go_quiet (fail)
        go_wp2
        go_roundg (ts.length - (i + 1))
        case rel => exact ⟨i + 1, _, by omega, rfl, by go_num, by rw [HO5.out], rfl⟩
        case measure => omega
    · obtain rfl : i = ts.length := by omega
      have x1 : ¬ (ts.length : Int) < (ts.length : Int) := by omega
      have hcut : (⟨#[32, 9, 10, 13, 32, 32, 10, 32]⟩ : ByteArray).extract 0 4 = ⟨#[32, 9, 10, 13]⟩ := by decide
      have hap : strOf (catB nums ts ts.length) ++ (⟨#[32, 9, 10, 13]⟩ : ByteArray) = strOf (catB nums ts ts.length ++ [32, 9, 10, 13]) := (strOf_app _ [32, 9, 10, 13]).symm
      have z1 : (strOf (catB nums ts ts.length)).size = (catB nums ts ts.length).length := strOf_size _
      have z5 : (⟨#[32, 9, 10, 13]⟩ : ByteArray).size = 4 := rfl
      obtain ⟨O1, hO1⟩ : ∃ O, O = strOf (catB nums ts ts.length) := ⟨_, rfl⟩
      obtain ⟨O2, hO2⟩ : ∃ O, O = strOf (catB nums ts ts.length ++ [32, 9, 10, 13]) := ⟨_, rfl⟩
      obtain ⟨B4, hB4⟩ : ∃ O, O = (⟨#[32, 9, 10, 13]⟩ : ByteArray) := ⟨_, rfl⟩
      rw [← hO1] at hap z1 ⊢
      rw [← hO2] at hap hT2
      rw [← hB4] at hap hcut z5
      have y1 : ¬ 9223372036854775807 < O1.size + B4.size := by omega
      have y2 : ¬ 9223372036854775807 < O1.size + 4 := by omega
      rw [z1] at y1 y2
      rw [z5] at y1
      clear hO1 hO2 hB4 HKC HNC HPart HTok
      go_upto_region 15 with (go_at_call 9; with_reducible refine (hT2 _ (GW.drewN n)).mono ?_; rintro e w3 ⟨A3, c3, rfl, hb3, ho3⟩)
      have b4 := bstep hb3 (below1 w3 (.cells #[.int .i64 0, .int .i64 0] 25))
      have M1 := (HK1.out.drewN n).later b4
      have M3 := (own_ts ho3).later (below1 w3 (.cells #[.int .i64 0, .int .i64 0] 25))
      have hS := hSame _ _ _ M3 M1
      have MG := (GW.drewN n).later b4
      have MB := bstep (below_drewN BW n) b4
      clear hSame ho3 HK1 M1 M3
      go_wp2_with (first
        | (go_at_call 23; with_reducible refine hS.mono ?_; rintro e w4 ⟨rfl, hb4⟩)
        | (go_at_call 17; with_reducible refine (awake_any _ (MG.later hb4)).mono ?_; rintro e w7 ⟨rfl, hb7⟩))
      go_ret
      exact ⟨rfl, bstep (bstep MB hb4) hb7⟩
theorem blanks_any (s : ByteArray) (v : Value) (nums : List Int) (w : World) (hG : SG w) (hv : Slc w v (vals .i64 nums)) :
    Calls Tryd.prog 7 #[.string s, v] w fun e w' => e = .returned (.bool true) ∧ Below w.heap.size w w' := by
  by_cases h : s.size ≤ 90
  · rw [str_is (s := s) rfl]
    have hl : s.data.toList.length ≤ 90 := by rw [bytes_size]; exact h
    cases hr : toksR s.data.toList with
    | error e => exact blanks_err _ v nums hl e hr w hG hv
    | ok ts => exact blanks_ok _ v nums hl ts hr w hG hv
  · obtain ⟨A, cap, rfl, _, _⟩ := hv.ints
    have g1 : (90 : Int) < (s.size : Int) := by omega
    clear h hv
    go_enter Tryd.func7, Tryd.ntmps7
    go_wp2_with (go_at_call 17; with_reducible refine (awake_any _ hG).mono ?_; rintro e w7 ⟨rfl, hb7⟩)
    go_ret
    exact ⟨rfl, hb7⟩
end Go.Proofs.YtmdlndmibodimaaDoor
