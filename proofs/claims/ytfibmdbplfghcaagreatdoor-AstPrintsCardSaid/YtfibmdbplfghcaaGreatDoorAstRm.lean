/- Walk: the document's own text of an atom. -/
import Derived.Test.YtfibmdbplfghcaaGreatDoorAstRz
import Derived.Test.YtfibmdbplfghcaaGreatDoorAstTl
namespace Go.Proofs.YtfibmdbplfghcaaGreatDoor
open Go.RowKit
open A8 Tk7 Lb

theorem conv_one (w : World) (c : UInt8) :
    (convert 64 9 (.slice (some ⟨w.heap.size, 0, none⟩) 1 1)).run Tryz.prog (w.alloc (.cells #[.int .u8 (c.toNat : Int)] 5)) = .ok (.string (strOf [c])) (w.alloc (.cells #[.int .u8 (c.toNat : Int)] 5)) :=
  conv_bytes (l := [c]) Tryz.underlying64 Tryz.underlying5 Tryz.underlying9 (Slc.lit w (bvals [c]) 5 1 rfl (by omega)) (by simp)
/-- The text of the first conditions. -/
def preC (cs : List Cn) (i : Nat) : List UInt8 := if i = 0 then [] else 91 :: sepL [44] ((cs.take i).map condT)
theorem preC_succ (cs : List Cn) (i : Nat) (h : i < cs.length) : preC cs (i + 1) = preC cs i ++ (if i = 0 then [91] else [44]) ++ condT cs[i] := by
  unfold preC
  rw [if_neg (by omega), take_snoc cs i h, List.map_append, List.map_cons, List.map_nil, sep_snoc]
  by_cases h0 : i = 0
  · subst h0
    simp
  · rw [if_neg (by
      intro e
      have h3 := congrArg List.length e
      rw [List.length_map, List.length_take, List.length_nil] at h3
      omega), if_neg h0, if_neg h0]
    simp
theorem preC_len (cs : List Cn) (hv : ∀ c ∈ cs, okV c.va) (i : Nat) : (preC cs i).length ≤ 1 + 32 * cs.length := by
  unfold preC
  split
  · simp
  · have h := sepK [44] 31 ((cs.take i).map condT) (fun y hy => by
      obtain ⟨u, hu, rfl⟩ := List.mem_map.1 hy
      exact condK (hv u (List.mem_of_mem_take hu)))
    rw [List.length_map, List.length_take] at h
    simp only [List.length_cons, List.length_nil] at h ⊢
    have h2 : (31 + (0 + 1)) * min i cs.length ≤ 32 * cs.length := Nat.mul_le_mul_left 32 (Nat.min_le_right _ _)
    omega
def endC (n : Nat) : List UInt8 := if n = 0 then [] else [93]
def nmT (nm : List UInt8) : List UInt8 := if nm.isEmpty = true then [] else 58 :: nm
theorem atomT_form (kd : Int) (bd : Bool) (bn : Int) (cs : List Cn) (nm : List UInt8) : atomT ⟨kd, bd, bn, cs, nm⟩ = ([UInt8.ofNat (65 + kd.toNat)] ++ if bd = true then 64 :: labelT bn else []) ++ preC cs cs.length ++ endC cs.length ++ nmT nm := by
  unfold atomT listT preC endC nmT
  cases cs with
  | nil => simp
  | cons x xs =>
    rw [if_neg (show ¬ ((x :: xs).map condT).isEmpty = true by simp), if_neg (show ¬ (x :: xs).length = 0 by simp), if_neg (show ¬ (x :: xs).length = 0 by simp), List.take_of_length_le (Nat.le_refl _)]
    simp
set_option maxRecDepth 100000 in
set_option maxHeartbeats 8000000 in
/-- Behind the label. -/
theorem ratomText_any (g : GA) (w : World) (hg : OneA w g) (ha : atomB g.a = true) (hn : g.a.nm.length ≤ 1000) (hcl : g.a.cs.length ≤ 1000) :
    Calls Tryz.prog 76 #[.agg (gaC g).toArray] w fun e w' => e = .returned (.string (strOf (atomT g.a))) ∧ Below w.heap.size w w' := by
  obtain ⟨hok, hsl⟩ := hg
  obtain ⟨⟨kd, bd, bn, cs, nm⟩, sc⟩ := g
  obtain ⟨-, hbn, hcv, -⟩ := hok
  simp only at hsl ha hn hcl hbn hcv
  obtain ⟨C, cc, rfl, hm, hels⟩ := sl_els (by decide) cnC_len hsl
  simp only [gaC]
  rw [atomT_form]
  have hab : atomB ⟨kd, bd, bn, cs, nm⟩ = ((decide (0 ≤ kd) && decide (kd ≤ 25)) && (bd || decide (bn = 0)) && cs.all condB && (nm.isEmpty || nameB nm)) := rfl
  rw [hab] at ha
  simp only [Bool.and_eq_true, decide_eq_true_eq, List.all_eq_true] at ha
  obtain ⟨⟨⟨⟨k0, k1⟩, -⟩, hcb⟩, -⟩ := ha
  obtain ⟨c, hc⟩ : ∃ c, c = UInt8.ofNat (65 + kd.toNat) := ⟨_, rfl⟩
  have hcN : (c.toNat : Int) = 65 + kd := by rw [hc, UInt8.toNat_ofNat']; omega
  rw [← hc]
  have hw1 : IntKind.i64.wrap (65 + kd) = (c.toNat : Int) := by rw [IntWalk.i64_in _ ⟨by omega, by omega⟩, hcN]
  have hw2 : IntKind.u8.wrap (c.toNat : Int) = (c.toNat : Int) := by
    have := UInt8.toNat_lt c
    rw [IntKind.wrap_u8]
    omega
  obtain ⟨W, hWW⟩ : ∃ W, W = w.alloc (.cells #[.int .i64 kd, .bool bd, .int .u64 bn, .slice C cs.length cc, .string (strOf nm)] 25) := ⟨_, rfl⟩
  have hb1 : Below w.heap.size w W := hWW ▸ b1 _ _
  have hBx : Blk W w.heap.size [.int .i64 kd, .bool bd, .int .u64 bn, .slice C cs.length cc, .string (strOf nm)] := hWW ▸ Blk.new w _ _
  have hWs : W.heap.size = w.heap.size + 1 := by rw [hWW]; simp
  have hconv := conv_one W c
  rw [hWs, hWW] at hconv
  obtain ⟨V, hV⟩ : ∃ V, V = W.alloc (.cells #[.int .u8 (c.toNat : Int)] 5) := ⟨_, rfl⟩
  have HB := Lib.hid (show Below w.heap.size w V from hV ▸ bstep hb1 (b1 _ _))
  have hbV := hV ▸ hBx.alloc (.cells #[.int .u8 (c.toNat : Int)] 5)
  have HX := Lib.hid hbV
  have hLab := rlabel_any bn.toNat (by omega)
  have hbne : ((bn.toNat : Nat) : Int) = bn := by omega
  rw [hbne] at hLab
  rw [hWW] at hV
  -- the sums
  have hlb := labelK bn
  obtain ⟨A, hA⟩ : ∃ A, A = ([c] ++ if bd = true then 64 :: labelT bn else []) := ⟨_, rfl⟩
  have hAl : A.length ≤ 200 := by
    rw [hA]
    split
    · simp; omega
    · simp
  have s1 : ∀ w, (Op.stringOp .add (strOf [c]) ⟨#[64]⟩).run Tryz.prog w = .ok (.string (strOf ([c] ++ [64]))) w := fun w => sum8 [c] [64] (by simp) w
  have s2 : bd = true → ∀ w, (Op.stringOp .add (strOf ([c] ++ [64])) (strOf (labelT bn))).run Tryz.prog w = .ok (.string (strOf A)) w := fun h w => by
    rw [hA, if_pos h, show [c] ++ 64 :: labelT bn = ([c] ++ [64]) ++ labelT bn by simp]
    exact sum8 _ _ (by simp; omega) w
  have hA3 : bd = false → strOf [c] = strOf A := fun h => by rw [hA, if_neg (by rw [h]; decide)]; rfl
  rw [← hA]
  obtain ⟨FT, hFT⟩ : ∃ F, F = strOf (A ++ preC cs cs.length ++ endC cs.length ++ nmT nm) := ⟨_, rfl⟩
  rw [← hFT]
  have HFT := Lib.hid hFT
  clear hFT
  obtain ⟨S0, hS0⟩ : ∃ S, S = strOf [c] := ⟨_, rfl⟩
  obtain ⟨S1, hS1⟩ : ∃ S, S = strOf ([c] ++ [64]) := ⟨_, rfl⟩
  obtain ⟨D0, hD0⟩ : ∃ S, S = strOf (labelT bn) := ⟨_, rfl⟩
  obtain ⟨SA, hSA⟩ : ∃ S, S = strOf A := ⟨_, rfl⟩
  rw [← hS0, ← hS1] at s1
  rw [← hS1, ← hD0, ← hSA] at s2
  rw [← hS0, ← hSA] at hA3
  rw [← hD0] at hLab
  rw [← hS0] at hconv
  have HSA := Lib.hid hSA
  have hpl := preC_len cs (fun c hc => (hcv c hc).2)
  have HP := Lib.hid (fun i (h : i < cs.length) => preC_succ cs i h)
  have HPL := Lib.hid hpl
  have HE := Lib.hid hels
  have HCB := Lib.hid hcb
  have HCV := Lib.hid hcv
  have HA3 := Lib.hid hA3
  obtain ⟨sn, hsn⟩ : ∃ s, s = strOf nm := ⟨_, rfl⟩
  rw [← hsn] at hconv HX hV ⊢
  have HSN := Lib.hid hsn
  have loop : ∀ (V' : World), Below V.heap.size V V' → Blk V' w.heap.size [.int .i64 kd, .bool bd, .int .u64 bn, .slice C cs.length cc, .string sn] ∧ Below w.heap.size w V' := fun V' h => ⟨HX.out.later h, bstep HB.out h⟩
  have HL := Lib.hid loop
  have i0 := HX.out.cell 0 _ rfl
  have i1 := HX.out.cell 1 _ rfl
  have i2 := HX.out.cell 2 _ rfl
  have i3 := HX.out.cell 3 _ rfl
  have i4 := HX.out.cell 4 _ rfl
  have vlt := HX.out.lt
  clear hc hcN hWs hbV hbne hlb hA hA3 hpl hels hcb hcv hsn loop hab hb1 hBx k0 k1 hbn hsl HB HX hWW hS0 hS1 hD0 hSA
  cases bd with
  | true =>
    have t2 := s2 rfl
    clear s2 HA3
    go_enter Tryz.func76, Tryz.ntmps76
    go_wp2_with fail
    rw [← hV]
    clear hV
    go_wp2_with (go_at_call 102; refine (hLab _).mono ?_; rintro e w2 ⟨rfl, m, rfl⟩)
    go_loopg [3, 4] cs.length (fun g ov iv wr => ∃ i : Nat, i ≤ cs.length ∧ g = cs.length - i ∧ iv = .int .i64 (i : Int) ∧ ov = .string (strOf (A ++ preC cs i)) ∧ Hid (Below V.heap.size V wr))
    case atStart => exact ⟨0, Nat.zero_le _, rfl, rfl, by rw [HSA.out]; show _ = Value.string (strOf (A ++ [])); rw [List.append_nil], Lib.hid (below_drewN (Below.refl _ _) _)⟩
    case round =>
      obtain ⟨i, hi, hg, rfl, rfl, hW⟩ := hrel
      have HW := hW.out
      have hx := HL.out _ HW
      have c0 := hx.1.cell 0 _ rfl
      have c1 := hx.1.cell 1 _ rfl
      have c2 := hx.1.cell 2 _ rfl
      have c3 := hx.1.cell 3 _ rfl
      have c4 := hx.1.cell 4 _ rfl
      have clt := hx.1.lt
      by_cases hlt : i < cs.length
      · by_cases hi0 : i = 0
        · have hps := HP.out i hlt
          rw [if_pos hi0] at hps
          have hl1 := HPL.out i
          obtain ⟨a, hCa, _, E⟩ := HE.out i hlt
          replace E := E.later hx.2
          rw [show a.add (i * 2) = a by rw [hi0]; unfold Addr.add; rfl] at E
          have hcb := HCB.out cs[i] (List.getElem_mem hlt)
          have hcv := (HCV.out cs[i] (List.getElem_mem hlt)).2
          obtain ⟨⟨op, va⟩, hcx⟩ : ∃ x, x = cs[i] := ⟨_, rfl⟩
          rw [← hcx] at E hcb hcv hps
          have hD := fun w1 => rcondText_any op va hcb hcv w1
          have hdl := condK (c := ⟨op, va⟩) hcv
          simp only [cnC] at E
          have e0 := E.at0 _ rfl
          have e1 := E.at1 1 _ (by decide) rfl
          subst hCa
          have g1 : (i : Int) < (cs.length : Int) := by omega
          have hib : ((i : Int) == 0) = true := by rw [hi0]; rfl
          have hib2 : (i : Int) = 0 := by omega
          have HI0 := Lib.hid hi0
          clear hi0
          have hwi : IntKind.i64.wrap ((i : Int) + 1) = (i : Int) + 1 := IntWalk.i64_in _ ⟨by omega, by omega⟩
          have t1 : ∀ w, (Op.stringOp .add (strOf (A ++ preC cs i)) ⟨#[91]⟩).run Tryz.prog w = .ok (.string (strOf (A ++ preC cs i ++ [91]))) w := fun w => sum8 _ [91] (by simp; omega) w
          have t2 : ∀ w, (Op.stringOp .add (strOf (A ++ preC cs i ++ [91])) (strOf (condT ⟨op, va⟩))).run Tryz.prog w = .ok (.string (strOf (A ++ preC cs (i + 1)))) w := fun w => by
            rw [hps, show A ++ (preC cs i ++ [91] ++ condT ⟨op, va⟩) = (A ++ preC cs i ++ [91]) ++ condT ⟨op, va⟩ by simp]
            exact sum8 _ _ (by simp; omega) w
          obtain ⟨P0, hP0⟩ : ∃ P, P = strOf (A ++ preC cs i) := ⟨_, rfl⟩
          obtain ⟨P1, hP1⟩ : ∃ P, P = strOf (A ++ preC cs i ++ [91]) := ⟨_, rfl⟩
          obtain ⟨P2, hP2⟩ : ∃ P, P = strOf (A ++ preC cs (i + 1)) := ⟨_, rfl⟩
          obtain ⟨D, hDD⟩ : ∃ P, P = strOf (condT ⟨op, va⟩) := ⟨_, rfl⟩
          rw [← hP0, ← hP1] at t1
          rw [← hP1, ← hP2, ← hDD] at t2
          rw [← hDD] at hD
          rw [← hP0]
          have HP2 := Lib.hid hP2
          have HX2 := Lib.hid hx.1
          clear E hcb hcv hcx hdl hps hl1 hP0 hP1 hP2 hDD hx HE
          go_wp2_with (go_at_call 39; refine (hD _).mono ?_; rintro e w3 ⟨rfl, hb3⟩; have hx3 := HX2.out.later hb3; have d3 := hx3.cell 3 _ rfl; clear hx3)
          go_roundg (cs.length - (i + 1))
          case rel => exact ⟨i + 1, by omega, rfl, by go_num, by rw [HP2.out], Lib.hid (bstep HW hb3)⟩
          case measure => omega
        · have hps := HP.out i hlt
          rw [if_neg hi0] at hps
          have hl1 := HPL.out i
          obtain ⟨a, hCa, _, E⟩ := HE.out i hlt
          replace E := E.later hx.2

          have hcb := HCB.out cs[i] (List.getElem_mem hlt)
          have hcv := (HCV.out cs[i] (List.getElem_mem hlt)).2
          obtain ⟨⟨op, va⟩, hcx⟩ : ∃ x, x = cs[i] := ⟨_, rfl⟩
          rw [← hcx] at E hcb hcv hps
          have hD := fun w1 => rcondText_any op va hcb hcv w1
          have hdl := condK (c := ⟨op, va⟩) hcv
          simp only [cnC] at E
          have e0 := E.at0 _ rfl
          have e1 := E.at1 1 _ (by decide) rfl
          subst hCa
          have g1 : (i : Int) < (cs.length : Int) := by omega
          have hib : ((i : Int) == 0) = false := by rw [beq_eq_false_iff_ne]; omega
          have hib2 : ¬ (i : Int) = 0 := by omega
          have hwi : IntKind.i64.wrap ((i : Int) + 1) = (i : Int) + 1 := IntWalk.i64_in _ ⟨by omega, by omega⟩
          have t1 : ∀ w, (Op.stringOp .add (strOf (A ++ preC cs i)) ⟨#[44]⟩).run Tryz.prog w = .ok (.string (strOf (A ++ preC cs i ++ [44]))) w := fun w => sum8 _ [44] (by simp; omega) w
          have t2 : ∀ w, (Op.stringOp .add (strOf (A ++ preC cs i ++ [44])) (strOf (condT ⟨op, va⟩))).run Tryz.prog w = .ok (.string (strOf (A ++ preC cs (i + 1)))) w := fun w => by
            rw [hps, show A ++ (preC cs i ++ [44] ++ condT ⟨op, va⟩) = (A ++ preC cs i ++ [44]) ++ condT ⟨op, va⟩ by simp]
            exact sum8 _ _ (by simp; omega) w
          obtain ⟨P0, hP0⟩ : ∃ P, P = strOf (A ++ preC cs i) := ⟨_, rfl⟩
          obtain ⟨P1, hP1⟩ : ∃ P, P = strOf (A ++ preC cs i ++ [44]) := ⟨_, rfl⟩
          obtain ⟨P2, hP2⟩ : ∃ P, P = strOf (A ++ preC cs (i + 1)) := ⟨_, rfl⟩
          obtain ⟨D, hDD⟩ : ∃ P, P = strOf (condT ⟨op, va⟩) := ⟨_, rfl⟩
          rw [← hP0, ← hP1] at t1
          rw [← hP1, ← hP2, ← hDD] at t2
          rw [← hDD] at hD
          rw [← hP0]
          have HP2 := Lib.hid hP2
          have HX2 := Lib.hid hx.1
          clear E hcb hcv hcx hdl hps hl1 hP0 hP1 hP2 hDD hx HE
          go_wp2_with (go_at_call 39; refine (hD _).mono ?_; rintro e w3 ⟨rfl, hb3⟩; have hx3 := HX2.out.later hb3; have d3 := hx3.cell 3 _ rfl; clear hx3)
          go_roundg (cs.length - (i + 1))
          case rel => exact ⟨i + 1, by omega, rfl, by go_num, by rw [HP2.out], Lib.hid (bstep HW hb3)⟩
          case measure => omega
      · have g1 : ¬ (i : Int) < (cs.length : Int) := by omega
        have hil : i = cs.length := by omega
        subst hil
        clear HE HP HCB HCV
        by_cases hz : cs.length = 0
        · have z1 : ¬ (0 : Int) < (cs.length : Int) := by omega
          have hzE := show endC cs.length = [] from if_pos hz
          obtain ⟨Z, hZ⟩ : ∃ Z, Z = A ++ preC cs cs.length ++ [] := ⟨_, rfl⟩
          have hZl : Z.length ≤ 40000 := by rw [hZ]; have := HPL.out cs.length; simp; omega
          obtain ⟨P, hP⟩ : ∃ P, P = strOf (A ++ preC cs cs.length) := ⟨_, rfl⟩
          obtain ⟨ZS, hZS⟩ : ∃ P, P = strOf Z := ⟨_, rfl⟩
          have hPZ : P = ZS := by rw [hP, hZS, hZ, List.append_nil]
          rw [← hP, hPZ]
          have HSN := HSN.out
          by_cases hn0 : nm = []
          · have n1 : sn.toList.isEmpty = true := by rw [HSN, strOf_toL, hn0]; rfl
            have n2 : sn.toList = [] := by rw [HSN, strOf_toL, hn0]
            have HR := Lib.hid (show ZS = FT by rw [HFT.out, hzE, show nmT nm = [] by rw [hn0]; rfl, List.append_nil, ← hZ]; exact hZS)
            have hx2 := Lib.hid hx.2
            clear HSN hP hZS hZ hZl hzE hx
            go_wp2
            go_ret
            exact ⟨by rw [HR.out]; rfl, hx2.out⟩
          · have n1 : sn.toList.isEmpty = false := by rw [HSN, strOf_toL]; cases nm <;> simp_all
            have n2 : ¬ sn.toList = [] := by rw [HSN, strOf_toL]; exact hn0
            have s4 : ∀ w, (Op.stringOp .add (strOf Z) ⟨#[58]⟩).run Tryz.prog w = .ok (.string (strOf (Z ++ [58]))) w := fun w => sum8 _ [58] (by simp; omega) w
            have s5 : ∀ w, (Op.stringOp .add (strOf (Z ++ [58])) sn).run Tryz.prog w = .ok (.string (strOf (Z ++ 58 :: nm))) w := fun w => by
              rw [HSN, show Z ++ 58 :: nm = (Z ++ [58]) ++ nm by simp]
              exact sum8 _ _ (by simp; omega) w
            obtain ⟨Z1, hZ1⟩ : ∃ P, P = strOf (Z ++ [58]) := ⟨_, rfl⟩
            obtain ⟨Z2, hZ2⟩ : ∃ P, P = strOf (Z ++ 58 :: nm) := ⟨_, rfl⟩
            rw [← hZS, ← hZ1] at s4
            rw [← hZ1, ← hZ2] at s5
            have HR := Lib.hid (show Z2 = FT by rw [HFT.out, hzE, show nmT nm = 58 :: nm by unfold nmT; rw [if_neg (by cases nm <;> simp_all)], ← hZ]; exact hZ2)
            have hx2 := Lib.hid hx.2
            clear HSN hP hZS hZ1 hZ2 hZ hZl hzE hx
            go_wp2
            go_ret
            exact ⟨by rw [HR.out]; rfl, hx2.out⟩
        · have z1 : (0 : Int) < (cs.length : Int) := by omega
          have hzE := show endC cs.length = [93] from if_neg hz
          obtain ⟨Z, hZ⟩ : ∃ Z, Z = A ++ preC cs cs.length ++ [93] := ⟨_, rfl⟩
          have hZl : Z.length ≤ 40000 := by rw [hZ]; have := HPL.out cs.length; simp; omega
          have s3 : ∀ w, (Op.stringOp .add (strOf (A ++ preC cs cs.length)) ⟨#[93]⟩).run Tryz.prog w = .ok (.string (strOf Z)) w := fun w => by rw [hZ]; exact sum8 _ [93] (by have := HPL.out cs.length; simp; omega) w
          obtain ⟨P, hP⟩ : ∃ P, P = strOf (A ++ preC cs cs.length) := ⟨_, rfl⟩
          obtain ⟨ZS, hZS⟩ : ∃ P, P = strOf Z := ⟨_, rfl⟩
          rw [← hP, ← hZS] at s3
          rw [← hP]
          have HSN := HSN.out
          by_cases hn0 : nm = []
          · have n1 : sn.toList.isEmpty = true := by rw [HSN, strOf_toL, hn0]; rfl
            have n2 : sn.toList = [] := by rw [HSN, strOf_toL, hn0]
            have HR := Lib.hid (show ZS = FT by rw [HFT.out, hzE, show nmT nm = [] by rw [hn0]; rfl, List.append_nil, ← hZ]; exact hZS)
            have hx2 := Lib.hid hx.2
            clear HSN hP hZS hZ hZl hzE hx
            go_wp2
            go_ret
            exact ⟨by rw [HR.out]; rfl, hx2.out⟩
          · have n1 : sn.toList.isEmpty = false := by rw [HSN, strOf_toL]; cases nm <;> simp_all
            have n2 : ¬ sn.toList = [] := by rw [HSN, strOf_toL]; exact hn0
            have s4 : ∀ w, (Op.stringOp .add (strOf Z) ⟨#[58]⟩).run Tryz.prog w = .ok (.string (strOf (Z ++ [58]))) w := fun w => sum8 _ [58] (by simp; omega) w
            have s5 : ∀ w, (Op.stringOp .add (strOf (Z ++ [58])) sn).run Tryz.prog w = .ok (.string (strOf (Z ++ 58 :: nm))) w := fun w => by
              rw [HSN, show Z ++ 58 :: nm = (Z ++ [58]) ++ nm by simp]
              exact sum8 _ _ (by simp; omega) w
            obtain ⟨Z1, hZ1⟩ : ∃ P, P = strOf (Z ++ [58]) := ⟨_, rfl⟩
            obtain ⟨Z2, hZ2⟩ : ∃ P, P = strOf (Z ++ 58 :: nm) := ⟨_, rfl⟩
            rw [← hZS, ← hZ1] at s4
            rw [← hZ1, ← hZ2] at s5
            have HR := Lib.hid (show Z2 = FT by rw [HFT.out, hzE, show nmT nm = 58 :: nm by unfold nmT; rw [if_neg (by cases nm <;> simp_all)], ← hZ]; exact hZ2)
            have hx2 := Lib.hid hx.2
            clear HSN hP hZS hZ1 hZ2 hZ hZl hzE hx
            go_wp2
            go_ret
            exact ⟨by rw [HR.out]; rfl, hx2.out⟩
  | false =>
    have hA3 := HA3.out rfl
    subst hA3
    clear s1 s2 HA3
    go_enter Tryz.func76, Tryz.ntmps76
    go_upto_region 4 with fail
    rw [← hV]
    clear hV
    go_wp2
    go_loopg [3, 4] cs.length (fun g ov iv wr => ∃ i : Nat, i ≤ cs.length ∧ g = cs.length - i ∧ iv = .int .i64 (i : Int) ∧ ov = .string (strOf (A ++ preC cs i)) ∧ Hid (Below V.heap.size V wr))
    case atStart => exact ⟨0, Nat.zero_le _, rfl, rfl, by rw [HSA.out]; show _ = Value.string (strOf (A ++ [])); rw [List.append_nil], Lib.hid (Below.refl _ _)⟩
    case round =>
      obtain ⟨i, hi, hg, rfl, rfl, hW⟩ := hrel
      have HW := hW.out
      have hx := HL.out _ HW
      have c0 := hx.1.cell 0 _ rfl
      have c1 := hx.1.cell 1 _ rfl
      have c2 := hx.1.cell 2 _ rfl
      have c3 := hx.1.cell 3 _ rfl
      have c4 := hx.1.cell 4 _ rfl
      have clt := hx.1.lt
      by_cases hlt : i < cs.length
      · by_cases hi0 : i = 0
        · have hps := HP.out i hlt
          rw [if_pos hi0] at hps
          have hl1 := HPL.out i
          obtain ⟨a, hCa, _, E⟩ := HE.out i hlt
          replace E := E.later hx.2
          rw [show a.add (i * 2) = a by rw [hi0]; unfold Addr.add; rfl] at E
          have hcb := HCB.out cs[i] (List.getElem_mem hlt)
          have hcv := (HCV.out cs[i] (List.getElem_mem hlt)).2
          obtain ⟨⟨op, va⟩, hcx⟩ : ∃ x, x = cs[i] := ⟨_, rfl⟩
          rw [← hcx] at E hcb hcv hps
          have hD := fun w1 => rcondText_any op va hcb hcv w1
          have hdl := condK (c := ⟨op, va⟩) hcv
          simp only [cnC] at E
          have e0 := E.at0 _ rfl
          have e1 := E.at1 1 _ (by decide) rfl
          subst hCa
          have g1 : (i : Int) < (cs.length : Int) := by omega
          have hib : ((i : Int) == 0) = true := by rw [hi0]; rfl
          have hib2 : (i : Int) = 0 := by omega
          have HI0 := Lib.hid hi0
          clear hi0
          have hwi : IntKind.i64.wrap ((i : Int) + 1) = (i : Int) + 1 := IntWalk.i64_in _ ⟨by omega, by omega⟩
          have t1 : ∀ w, (Op.stringOp .add (strOf (A ++ preC cs i)) ⟨#[91]⟩).run Tryz.prog w = .ok (.string (strOf (A ++ preC cs i ++ [91]))) w := fun w => sum8 _ [91] (by simp; omega) w
          have t2 : ∀ w, (Op.stringOp .add (strOf (A ++ preC cs i ++ [91])) (strOf (condT ⟨op, va⟩))).run Tryz.prog w = .ok (.string (strOf (A ++ preC cs (i + 1)))) w := fun w => by
            rw [hps, show A ++ (preC cs i ++ [91] ++ condT ⟨op, va⟩) = (A ++ preC cs i ++ [91]) ++ condT ⟨op, va⟩ by simp]
            exact sum8 _ _ (by simp; omega) w
          obtain ⟨P0, hP0⟩ : ∃ P, P = strOf (A ++ preC cs i) := ⟨_, rfl⟩
          obtain ⟨P1, hP1⟩ : ∃ P, P = strOf (A ++ preC cs i ++ [91]) := ⟨_, rfl⟩
          obtain ⟨P2, hP2⟩ : ∃ P, P = strOf (A ++ preC cs (i + 1)) := ⟨_, rfl⟩
          obtain ⟨D, hDD⟩ : ∃ P, P = strOf (condT ⟨op, va⟩) := ⟨_, rfl⟩
          rw [← hP0, ← hP1] at t1
          rw [← hP1, ← hP2, ← hDD] at t2
          rw [← hDD] at hD
          rw [← hP0]
          have HP2 := Lib.hid hP2
          have HX2 := Lib.hid hx.1
          clear E hcb hcv hcx hdl hps hl1 hP0 hP1 hP2 hDD hx HE
          go_wp2_with (go_at_call 39; refine (hD _).mono ?_; rintro e w3 ⟨rfl, hb3⟩; have hx3 := HX2.out.later hb3; have d3 := hx3.cell 3 _ rfl; clear hx3)
          go_roundg (cs.length - (i + 1))
          case rel => exact ⟨i + 1, by omega, rfl, by go_num, by rw [HP2.out], Lib.hid (bstep HW hb3)⟩
          case measure => omega
        · have hps := HP.out i hlt
          rw [if_neg hi0] at hps
          have hl1 := HPL.out i
          obtain ⟨a, hCa, _, E⟩ := HE.out i hlt
          replace E := E.later hx.2

          have hcb := HCB.out cs[i] (List.getElem_mem hlt)
          have hcv := (HCV.out cs[i] (List.getElem_mem hlt)).2
          obtain ⟨⟨op, va⟩, hcx⟩ : ∃ x, x = cs[i] := ⟨_, rfl⟩
          rw [← hcx] at E hcb hcv hps
          have hD := fun w1 => rcondText_any op va hcb hcv w1
          have hdl := condK (c := ⟨op, va⟩) hcv
          simp only [cnC] at E
          have e0 := E.at0 _ rfl
          have e1 := E.at1 1 _ (by decide) rfl
          subst hCa
          have g1 : (i : Int) < (cs.length : Int) := by omega
          have hib : ((i : Int) == 0) = false := by rw [beq_eq_false_iff_ne]; omega
          have hib2 : ¬ (i : Int) = 0 := by omega
          have hwi : IntKind.i64.wrap ((i : Int) + 1) = (i : Int) + 1 := IntWalk.i64_in _ ⟨by omega, by omega⟩
          have t1 : ∀ w, (Op.stringOp .add (strOf (A ++ preC cs i)) ⟨#[44]⟩).run Tryz.prog w = .ok (.string (strOf (A ++ preC cs i ++ [44]))) w := fun w => sum8 _ [44] (by simp; omega) w
          have t2 : ∀ w, (Op.stringOp .add (strOf (A ++ preC cs i ++ [44])) (strOf (condT ⟨op, va⟩))).run Tryz.prog w = .ok (.string (strOf (A ++ preC cs (i + 1)))) w := fun w => by
            rw [hps, show A ++ (preC cs i ++ [44] ++ condT ⟨op, va⟩) = (A ++ preC cs i ++ [44]) ++ condT ⟨op, va⟩ by simp]
            exact sum8 _ _ (by simp; omega) w
          obtain ⟨P0, hP0⟩ : ∃ P, P = strOf (A ++ preC cs i) := ⟨_, rfl⟩
          obtain ⟨P1, hP1⟩ : ∃ P, P = strOf (A ++ preC cs i ++ [44]) := ⟨_, rfl⟩
          obtain ⟨P2, hP2⟩ : ∃ P, P = strOf (A ++ preC cs (i + 1)) := ⟨_, rfl⟩
          obtain ⟨D, hDD⟩ : ∃ P, P = strOf (condT ⟨op, va⟩) := ⟨_, rfl⟩
          rw [← hP0, ← hP1] at t1
          rw [← hP1, ← hP2, ← hDD] at t2
          rw [← hDD] at hD
          rw [← hP0]
          have HP2 := Lib.hid hP2
          have HX2 := Lib.hid hx.1
          clear E hcb hcv hcx hdl hps hl1 hP0 hP1 hP2 hDD hx HE
          go_wp2_with (go_at_call 39; refine (hD _).mono ?_; rintro e w3 ⟨rfl, hb3⟩; have hx3 := HX2.out.later hb3; have d3 := hx3.cell 3 _ rfl; clear hx3)
          go_roundg (cs.length - (i + 1))
          case rel => exact ⟨i + 1, by omega, rfl, by go_num, by rw [HP2.out], Lib.hid (bstep HW hb3)⟩
          case measure => omega
      · have g1 : ¬ (i : Int) < (cs.length : Int) := by omega
        have hil : i = cs.length := by omega
        subst hil
        clear HE HP HCB HCV
        by_cases hz : cs.length = 0
        · have z1 : ¬ (0 : Int) < (cs.length : Int) := by omega
          have hzE := show endC cs.length = [] from if_pos hz
          obtain ⟨Z, hZ⟩ : ∃ Z, Z = A ++ preC cs cs.length ++ [] := ⟨_, rfl⟩
          have hZl : Z.length ≤ 40000 := by rw [hZ]; have := HPL.out cs.length; simp; omega
          obtain ⟨P, hP⟩ : ∃ P, P = strOf (A ++ preC cs cs.length) := ⟨_, rfl⟩
          obtain ⟨ZS, hZS⟩ : ∃ P, P = strOf Z := ⟨_, rfl⟩
          have hPZ : P = ZS := by rw [hP, hZS, hZ, List.append_nil]
          rw [← hP, hPZ]
          have HSN := HSN.out
          by_cases hn0 : nm = []
          · have n1 : sn.toList.isEmpty = true := by rw [HSN, strOf_toL, hn0]; rfl
            have n2 : sn.toList = [] := by rw [HSN, strOf_toL, hn0]
            have HR := Lib.hid (show ZS = FT by rw [HFT.out, hzE, show nmT nm = [] by rw [hn0]; rfl, List.append_nil, ← hZ]; exact hZS)
            have hx2 := Lib.hid hx.2
            clear HSN hP hZS hZ hZl hzE hx
            go_wp2
            go_ret
            exact ⟨by rw [HR.out]; rfl, hx2.out⟩
          · have n1 : sn.toList.isEmpty = false := by rw [HSN, strOf_toL]; cases nm <;> simp_all
            have n2 : ¬ sn.toList = [] := by rw [HSN, strOf_toL]; exact hn0
            have s4 : ∀ w, (Op.stringOp .add (strOf Z) ⟨#[58]⟩).run Tryz.prog w = .ok (.string (strOf (Z ++ [58]))) w := fun w => sum8 _ [58] (by simp; omega) w
            have s5 : ∀ w, (Op.stringOp .add (strOf (Z ++ [58])) sn).run Tryz.prog w = .ok (.string (strOf (Z ++ 58 :: nm))) w := fun w => by
              rw [HSN, show Z ++ 58 :: nm = (Z ++ [58]) ++ nm by simp]
              exact sum8 _ _ (by simp; omega) w
            obtain ⟨Z1, hZ1⟩ : ∃ P, P = strOf (Z ++ [58]) := ⟨_, rfl⟩
            obtain ⟨Z2, hZ2⟩ : ∃ P, P = strOf (Z ++ 58 :: nm) := ⟨_, rfl⟩
            rw [← hZS, ← hZ1] at s4
            rw [← hZ1, ← hZ2] at s5
            have HR := Lib.hid (show Z2 = FT by rw [HFT.out, hzE, show nmT nm = 58 :: nm by unfold nmT; rw [if_neg (by cases nm <;> simp_all)], ← hZ]; exact hZ2)
            have hx2 := Lib.hid hx.2
            clear HSN hP hZS hZ1 hZ2 hZ hZl hzE hx
            go_wp2
            go_ret
            exact ⟨by rw [HR.out]; rfl, hx2.out⟩
        · have z1 : (0 : Int) < (cs.length : Int) := by omega
          have hzE := show endC cs.length = [93] from if_neg hz
          obtain ⟨Z, hZ⟩ : ∃ Z, Z = A ++ preC cs cs.length ++ [93] := ⟨_, rfl⟩
          have hZl : Z.length ≤ 40000 := by rw [hZ]; have := HPL.out cs.length; simp; omega
          have s3 : ∀ w, (Op.stringOp .add (strOf (A ++ preC cs cs.length)) ⟨#[93]⟩).run Tryz.prog w = .ok (.string (strOf Z)) w := fun w => by rw [hZ]; exact sum8 _ [93] (by have := HPL.out cs.length; simp; omega) w
          obtain ⟨P, hP⟩ : ∃ P, P = strOf (A ++ preC cs cs.length) := ⟨_, rfl⟩
          obtain ⟨ZS, hZS⟩ : ∃ P, P = strOf Z := ⟨_, rfl⟩
          rw [← hP, ← hZS] at s3
          rw [← hP]
          have HSN := HSN.out
          by_cases hn0 : nm = []
          · have n1 : sn.toList.isEmpty = true := by rw [HSN, strOf_toL, hn0]; rfl
            have n2 : sn.toList = [] := by rw [HSN, strOf_toL, hn0]
            have HR := Lib.hid (show ZS = FT by rw [HFT.out, hzE, show nmT nm = [] by rw [hn0]; rfl, List.append_nil, ← hZ]; exact hZS)
            have hx2 := Lib.hid hx.2
            clear HSN hP hZS hZ hZl hzE hx
            go_wp2
            go_ret
            exact ⟨by rw [HR.out]; rfl, hx2.out⟩
          · have n1 : sn.toList.isEmpty = false := by rw [HSN, strOf_toL]; cases nm <;> simp_all
            have n2 : ¬ sn.toList = [] := by rw [HSN, strOf_toL]; exact hn0
            have s4 : ∀ w, (Op.stringOp .add (strOf Z) ⟨#[58]⟩).run Tryz.prog w = .ok (.string (strOf (Z ++ [58]))) w := fun w => sum8 _ [58] (by simp; omega) w
            have s5 : ∀ w, (Op.stringOp .add (strOf (Z ++ [58])) sn).run Tryz.prog w = .ok (.string (strOf (Z ++ 58 :: nm))) w := fun w => by
              rw [HSN, show Z ++ 58 :: nm = (Z ++ [58]) ++ nm by simp]
              exact sum8 _ _ (by simp; omega) w
            obtain ⟨Z1, hZ1⟩ : ∃ P, P = strOf (Z ++ [58]) := ⟨_, rfl⟩
            obtain ⟨Z2, hZ2⟩ : ∃ P, P = strOf (Z ++ 58 :: nm) := ⟨_, rfl⟩
            rw [← hZS, ← hZ1] at s4
            rw [← hZ1, ← hZ2] at s5
            have HR := Lib.hid (show Z2 = FT by rw [HFT.out, hzE, show nmT nm = 58 :: nm by unfold nmT; rw [if_neg (by cases nm <;> simp_all)], ← hZ]; exact hZ2)
            have hx2 := Lib.hid hx.2
            clear HSN hP hZS hZ1 hZ2 hZ hZl hzE hx
            go_wp2
            go_ret
            exact ⟨by rw [HR.out]; rfl, hx2.out⟩
end Go.Proofs.YtfibmdbplfghcaaGreatDoor
