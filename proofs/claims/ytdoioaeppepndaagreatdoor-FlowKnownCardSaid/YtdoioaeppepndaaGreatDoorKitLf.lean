/- Walk: a leaf of the kit's queries. Made by program (wip/tools/gen_kitLf.py). -/
import Derived.Test.YtdoioaeppepndaaGreatDoorProg
import Derived.Test.YtdoioaeppepndaaGreatDoorKitQs
import Derived.Test.YtdoioaeppepndaaGreatDoorParMem
import Derived.Deep.DeepCutAuto
import Derived.Outline
import Derived.IntWalk
namespace Go.Proofs.YtdoioaeppepndaaGreatDoor
open Go.RowKit
open A8 Tk7 P9 Kq

theorem dv_nat (k n : Nat) : Int.tdiv (k : Int) (n : Int) = ((k / n : Nat) : Int) := rfl
theorem md_nat (k n : Nat) : Int.tmod (k : Int) (n : Int) = ((k % n : Nat) : Int) := rfl
/-- A leaf in memory. -/
def klfT (k p : Nat) (sc : Value) : Tr := .mk 1 (kMn k) (kMx k) ⟨kA k p, sc⟩ (.slice none 0 0) []
def LfR (w : World) (k p : Nat) (e : Ending) (w' : World) : Prop :=
  ∃ A n c, Below w.heap.size w w' ∧ TrW (hide (fun j => decide (j < w.heap.size)) w') (klfT k p (.slice A n c)) ∧ e = .returned (.agg (klfT k p (.slice A n c)).row.toArray)
/-- What stands while a leaf's atom is made: it lies in the block A. -/
structure LC (w : World) (A : Nat) (us : List Value) (cs : List Cn) (sv : Value) (wx : World) : Prop where
  lt : w.heap.size < A
  bel : Below w.heap.size w wx
  res : Blk wx w.heap.size [.int .i64 0, .int .i64 0, .int .i64 0, .int .i64 0, .bool false, .int .u64 0, .slice none 0 0, .string ⟨#[]⟩, .slice none 0 0]
  blk : Blk wx A us
  sl : ∃ m, A < m ∧ Sl (hide (fun k => decide (k < m)) wx) 2 cs.length sv (cs.flatMap cnC)
theorem lc_set {w : World} {A : Nat} {us : List Value} {cs : List Cn} {sv : Value} {wx : World} (h : LC w A us cs sv wx) (i : Nat) (u : Value) : LC w A (us.set i u) cs sv (wx.setCell ⟨A, i, none⟩ u) := by
  have hl := h.lt
  have ho : Only A wx (wx.setCell ⟨A, i, none⟩ u) := (Only.refl A wx).setCell i u
  obtain ⟨m, hm, hs⟩ := h.sl
  exact ⟨h.lt, h.bel.trans (ho.below.mono (Nat.le_of_lt hl)), h.res.other (p := ⟨A, i, none⟩) (by simp only; omega) u, h.blk.set i u, ⟨m, hm, sl_le hs ((Tn.only ho hm).le (Nat.le_refl _))⟩⟩
theorem lc_drew {w : World} {A : Nat} {us : List Value} {cs : List Cn} {sv : Value} {wx : World} (h : LC w A us cs sv wx) : LC w A us cs sv wx.drew := by
  obtain ⟨m, hm, hs⟩ := h.sl
  exact ⟨h.lt, h.bel.drew, h.res.drew, h.blk.drew, ⟨m, hm, sl_le hs (hide_le (Nat.le_refl _) fun _ _ hp => ⟨hp, rfl⟩)⟩⟩
/-- One condition, in a new block. -/
theorem lc_cond {w : World} {A : Nat} {us : List Value} {wx : World} (h : LC w A us [] (.slice none 0 0) wx) (c : Cn) (t : TypeId) : LC w A us [c] (.slice (some ⟨wx.heap.size, 0, none⟩) 1 1) (wx.alloc (.cells (cnC c).toArray t)) :=
  ⟨h.lt, bstep h.bel (b1 _ _), h.res.alloc _, h.blk.alloc _, ⟨wx.heap.size, h.blk.lt, sl_lit (Blk.new wx (cnC c) t) 2 1 rfl (by omega) (by simp)⟩⟩
theorem lc_alloc {w : World} {A : Nat} {us : List Value} {cs : List Cn} {sv : Value} {wx : World} (h : LC w A us cs sv wx) (o : Obj) : LC w A us cs sv (wx.alloc o) := by
  obtain ⟨m, hm, hs⟩ := h.sl
  exact ⟨h.lt, bstep h.bel (b1 _ _), h.res.alloc _, h.blk.alloc _, ⟨m, hm, sl_le hs (hide_le (by simp) fun k hk hp => ⟨hp, (b1 wx o).block k hk⟩)⟩⟩
theorem conv_one (w : World) (c : UInt8) (v : Int) (hv : v = (c.toNat : Int)) :
    (convert 150 9 (.slice (some ⟨w.heap.size, 0, none⟩) 1 1)).run Tryz.prog (w.alloc (.cells #[.int .u8 v] 5)) = .ok (.string (strOf [c])) (w.alloc (.cells #[.int .u8 v] 5)) := by
  subst hv
  exact conv_bytes (l := [c]) Tryz.underlying150 Tryz.underlying5 Tryz.underlying9 (Slc.lit w (bvals [c]) 5 1 rfl (by omega)) (by simp)
theorem lf_end {w : World} {A k p : Nat} {us : List Value} {kd : Int} {bd : Bool} {bn : Int} {cs : List Cn} {nm : List UInt8} {sA : Option Addr} {sn sc : Nat} {wx WN V : World} (_hk : k < 1073741824) (hA : kA k p = ⟨kd, bd, bn, cs, nm⟩) (h : LC w A us cs (.slice sA sn sc) wx) (hb : Below wx.heap.size wx WN) (ho : Only w.heap.size WN V) :
    LfR w k p (.returned (.agg #[.int .i64 1, .int .i64 (kMn k), .int .i64 (kMx k), .int .i64 kd, .bool bd, .int .u64 bn, .slice sA sn sc, .string (strOf nm), .slice none 0 0])) V := by
  have hl := h.lt
  obtain ⟨m, hm, hs⟩ := h.sl
  obtain ⟨a1, a2, a3, a4⟩ := kA_sm k p
  have m1 := kMn_in k
  have m2 := kMx_in k
  have hkd : (kA k p).kd = ((k % 3 : Nat) : Int) := rfl
  refine ⟨sA, sn, sc, (bstep h.bel hb).trans ho.below, fun t ht => ?_, ?_⟩
  · have h1 : t ∈ [klfT k p (.slice sA sn sc)] := ht
    rw [List.mem_singleton] at h1
    subst h1
    refine ⟨⟨by unfold okV; omega, small_okV (by omega), small_okV (by omega)⟩, ⟨⟨small_okV (show _ ≤ (kA k p).kd ∧ (kA k p).kd ≤ _ from by rw [hkd]; omega), ⟨a1.1, Int.lt_trans a1.2 (by decide)⟩, a2, Nat.le_trans a4 (by unfold maxLen; omega)⟩, ?_⟩, Sl.nil _ 9⟩
    show Sl _ 2 (kA k p).cs.length (.slice sA sn sc) ((kA k p).cs.flatMap cnC)
    rw [hA]
    exact sl_le hs (((Tn.below hb).trans (Tn.only ho (by omega))).le (by omega))
  · unfold klfT
    rw [hA]
    rfl
set_option maxRecDepth 100000 in
set_option maxHeartbeats 4000000 in
theorem leaf_any (k p : Nat) (hk : k < 1073741824) (hp : p ≤ 10) (w : World) :
    Calls Tryz.prog 67 #[.int .i64 (k : Int), .int .i64 (p : Int)] w (LfR w k p) := by
  have hR0 : Blk (w.alloc (.cells #[.int .i64 0, .int .i64 0, .int .i64 0, .int .i64 0, .bool false, .int .u64 0, .slice none 0 0, .string ⟨#[]⟩, .slice none 0 0] 31)) w.heap.size [.int .i64 0, .int .i64 0, .int .i64 0, .int .i64 0, .bool false, .int .u64 0, .slice none 0 0, .string ⟨#[]⟩, .slice none 0 0] := Blk.is _ rfl
  obtain ⟨kd, hkd⟩ : ∃ kd, kd = (kA k p).kd := ⟨_, rfl⟩
  obtain ⟨bd, hbd⟩ : ∃ bd, bd = (kA k p).bd := ⟨_, rfl⟩
  obtain ⟨bn, hbn⟩ : ∃ bn, bn = (kA k p).bn := ⟨_, rfl⟩
  obtain ⟨cs, hcs⟩ : ∃ cs, cs = (kA k p).cs := ⟨_, rfl⟩
  obtain ⟨nm, hnm⟩ : ∃ nm, nm = (kA k p).nm := ⟨_, rfl⟩
  have HA : Hid (kA k p = ⟨kd, bd, bn, cs, nm⟩) := Lib.hid (by rw [hkd, hbd, hbn, hcs, hnm])
  have HKD : Hid (kd = ((k % 3 : Nat) : Int)) := Lib.hid hkd
  have HBD : Hid (bd = decide (k / 3 % 3 = 1)) := Lib.hid hbd
  have HBN : Hid (bn = if k / 3 % 3 = 1 then ((k / 9 % 4 : Nat) : Int) else 0) := Lib.hid hbn
  have HCS : Hid (cs = if k / 36 % 3 = 1 then [⟨1 + ((k / 108 % 6 : Nat) : Int), ((k / 648 % 5 : Nat) : Int) - 2⟩] else []) := Lib.hid hcs
  have HNM : Hid (nm = if k / 3240 % 2 = 1 then [UInt8.ofNat (112 + p)] else []) := Lib.hid hnm
  clear hkd hbd hbn hcs hnm
  obtain ⟨za0, e_za0, r_za0⟩ : ∃ x : Int, (k : Int) % 3 = x ∧ x = ((k % 3 : Nat) : Int) := ⟨_, rfl, by omega⟩
  have lo_za0 : 0 ≤ za0 := by omega
  have hi_za0 : za0 < 3 := by rw [r_za0]; omega
  replace r_za0 := Lib.hid r_za0
  obtain ⟨zb1, e_zb1, r_zb1⟩ : ∃ x : Int, (k : Int) / 3 = x ∧ x = ((k / 3 : Nat) : Int) := ⟨_, rfl, by omega⟩
  have lo_zb1 : 0 ≤ zb1 := by omega
  have hi_zb1 : zb1 < 1073741824 := by rw [r_zb1]; omega
  replace r_zb1 := Lib.hid r_zb1
  obtain ⟨zb2, e_zb2, r_zb2⟩ : ∃ x : Int, zb1 % 3 = x ∧ x = ((k / 3 % 3 : Nat) : Int) := ⟨_, rfl, by rw [r_zb1.out]; omega⟩
  have lo_zb2 : 0 ≤ zb2 := by omega
  have hi_zb2 : zb2 < 3 := by rw [r_zb2]; omega
  replace r_zb2 := Lib.hid r_zb2
  have h0 : za0 = kd := by rw [HKD.out]; exact r_za0.out
  subst h0
  go_enter Tryz.func67, Tryz.ntmps67
  go_upto_if 13 with fail
  refine named_wp fun W hW => ?_
  obtain ⟨A, hA⟩ : ∃ A, A = w.heap.size + 1 := ⟨_, rfl⟩
  have hC0 : LC w A [.int .i64 za0, .bool false, .int .u64 0, .slice none 0 0, .string ⟨#[]⟩] [] (.slice none 0 0) W := by
    rw [hW, hA]
    exact ⟨Nat.lt_succ_self _, b2 _ _ _, hR0.alloc _, Blk.is (us := [.int .i64 za0, .bool false, .int .u64 0, .slice none 0 0, .string ⟨#[]⟩]) _ (by simp), ⟨w.heap.size + 2, by omega, Sl.nil _ 2⟩⟩
  rw [← hA]
  clear hW hA hR0
  go_cut [] (fun wx => LC w A [.int .i64 za0, .bool bd, .int .u64 bn, .slice none 0 0, .string ⟨#[]⟩] [] (.slice none 0 0) wx)
  case first =>
    have k1 := hC0.blk.cell 1 _ rfl
    have q1 := hC0.blk.fr 1 _ rfl
    have k2 := hC0.blk.cell 2 _ rfl
    have q2 := hC0.blk.fr 2 _ rfl
    by_cases hc : k / 3 % 3 = 1
    · have h3 : zb2 = 1 := by rw [r_zb2.out, hc]; rfl
      subst h3
      obtain ⟨zc1, e_zc1, r_zc1⟩ : ∃ x : Int, (k : Int) / 9 = x ∧ x = ((k / 9 : Nat) : Int) := ⟨_, rfl, by omega⟩
      have lo_zc1 : 0 ≤ zc1 := by omega
      have hi_zc1 : zc1 < 1073741824 := by rw [r_zc1]; omega
      replace r_zc1 := Lib.hid r_zc1
      obtain ⟨zc2, e_zc2, r_zc2⟩ : ∃ x : Int, zc1 % 4 = x ∧ x = ((k / 9 % 4 : Nat) : Int) := ⟨_, rfl, by rw [r_zc1.out]; omega⟩
      have lo_zc2 : 0 ≤ zc2 := by omega
      have hi_zc2 : zc2 < 4 := by rw [r_zc2]; omega
      replace r_zc2 := Lib.hid r_zc2
      have HC := Lib.hid (lc_set (lc_set hC0 1 (.bool true)) 2 (.int .u64 zc2))
      have h1 : bd = true := by rw [HBD.out]; exact decide_eq_true hc
      have h2 : bn = zc2 := by rw [HBN.out, if_pos hc, r_zc2.out]
      subst h1
      subst h2
      clear hC0 hc
      go_wp2_with fail
      go_meet
      case rel => exact HC.out
    · have h1 : bd = false := by rw [HBD.out]; exact decide_eq_false hc
      have h2 : bn = 0 := by rw [HBN.out, if_neg hc]
      have hc2 : (zb2 == 1) = false := by rw [beq_eq_false_iff_ne, r_zb2.out]; omega
      subst h1
      subst h2
      clear hc
      go_wp2_with fail
      go_meet
      case rel => exact hC0
  case rest =>
    clear hC0
    have hC1 := hcut
    clear hcut r_zb1 r_zb2 e_za0 e_zb1 e_zb2 lo_zb1 lo_zb2 hi_zb1 hi_zb2
    obtain ⟨zd1, e_zd1, r_zd1⟩ : ∃ x : Int, (k : Int) / 36 = x ∧ x = ((k / 36 : Nat) : Int) := ⟨_, rfl, by omega⟩
    have lo_zd1 : 0 ≤ zd1 := by omega
    have hi_zd1 : zd1 < 1073741824 := by rw [r_zd1]; omega
    replace r_zd1 := Lib.hid r_zd1
    obtain ⟨zd2, e_zd2, r_zd2⟩ : ∃ x : Int, zd1 % 3 = x ∧ x = ((k / 36 % 3 : Nat) : Int) := ⟨_, rfl, by rw [r_zd1.out]; omega⟩
    have lo_zd2 : 0 ≤ zd2 := by omega
    have hi_zd2 : zd2 < 3 := by rw [r_zd2]; omega
    replace r_zd2 := Lib.hid r_zd2
    go_upto_if 23 with fail
    go_cut [] (fun wx => ∃ sA sn sc, LC w A [.int .i64 za0, .bool bd, .int .u64 bn, .slice sA sn sc, .string ⟨#[]⟩] cs (.slice sA sn sc) wx)
    case first =>
      by_cases hc : k / 36 % 3 = 1
      · have h3 : zd2 = 1 := by rw [r_zd2.out, hc]; rfl
        subst h3
        clear e_zd1 e_zd2
        obtain ⟨zf1, e_zf1, r_zf1⟩ : ∃ x : Int, (k : Int) / 108 = x ∧ x = ((k / 108 : Nat) : Int) := ⟨_, rfl, by omega⟩
        have lo_zf1 : 0 ≤ zf1 := by omega
        have hi_zf1 : zf1 < 1073741824 := by rw [r_zf1]; omega
        replace r_zf1 := Lib.hid r_zf1
        obtain ⟨zf2, e_zf2, r_zf2⟩ : ∃ x : Int, zf1 % 6 = x ∧ x = ((k / 108 % 6 : Nat) : Int) := ⟨_, rfl, by rw [r_zf1.out]; omega⟩
        have lo_zf2 : 0 ≤ zf2 := by omega
        have hi_zf2 : zf2 < 6 := by rw [r_zf2]; omega
        replace r_zf2 := Lib.hid r_zf2
        obtain ⟨zg1, e_zg1, r_zg1⟩ : ∃ x : Int, (k : Int) / 648 = x ∧ x = ((k / 648 : Nat) : Int) := ⟨_, rfl, by omega⟩
        have lo_zg1 : 0 ≤ zg1 := by omega
        have hi_zg1 : zg1 < 1073741824 := by rw [r_zg1]; omega
        replace r_zg1 := Lib.hid r_zg1
        obtain ⟨zg2, e_zg2, r_zg2⟩ : ∃ x : Int, zg1 % 5 = x ∧ x = ((k / 648 % 5 : Nat) : Int) := ⟨_, rfl, by rw [r_zg1.out]; omega⟩
        have lo_zg2 : 0 ≤ zg2 := by omega
        have hi_zg2 : zg2 < 5 := by rw [r_zg2]; omega
        replace r_zg2 := Lib.hid r_zg2
        have HC := Lib.hid (lc_set (lc_cond hC1 ⟨1 + zf2, zg2 - 2⟩ 94) 3 (.slice (some ⟨wc.heap.size, 0, none⟩) 1 1))
        have h1 : cs = [⟨1 + zf2, zg2 - 2⟩] := by rw [HCS.out, if_pos hc, r_zf2.out, r_zg2.out]
        subst h1
        have hKA : Blk (wc.alloc (.cells #[.int .i64 (1 + zf2), .int .i64 (zg2 - 2)] 94)) A [.int .i64 za0, .bool bd, .int .u64 bn, .slice none 0 0, .string ⟨#[]⟩] := hC1.blk.alloc _
        have k3 := hKA.cell 3 _ rfl
        have q3 := hKA.fr 3 _ rfl
        clear hC1 hc hKA
        go_wp2_with fail
        go_meet
        case rel => exact ⟨_, _, _, HC.out⟩
      · have h1 : cs = [] := by rw [HCS.out, if_neg hc]
        have hc2 : (zd2 == 1) = false := by rw [beq_eq_false_iff_ne, r_zd2.out]; omega
        subst h1
        clear hc
        go_wp2_with fail
        go_meet
        case rel => exact ⟨_, _, _, hC1⟩
    case rest =>
      clear hC1
      obtain ⟨sA, sn, sc, hC2⟩ := hcut
      clear r_zd1 r_zd2 e_zd1 e_zd2 lo_zd1 lo_zd2 hi_zd1 hi_zd2
      obtain ⟨zh1, e_zh1, r_zh1⟩ : ∃ x : Int, (k : Int) / 3240 = x ∧ x = ((k / 3240 : Nat) : Int) := ⟨_, rfl, by omega⟩
      have lo_zh1 : 0 ≤ zh1 := by omega
      have hi_zh1 : zh1 < 1073741824 := by rw [r_zh1]; omega
      replace r_zh1 := Lib.hid r_zh1
      obtain ⟨zh2, e_zh2, r_zh2⟩ : ∃ x : Int, zh1 % 2 = x ∧ x = ((k / 3240 % 2 : Nat) : Int) := ⟨_, rfl, by rw [r_zh1.out]; omega⟩
      have lo_zh2 : 0 ≤ zh2 := by omega
      have hi_zh2 : zh2 < 2 := by rw [r_zh2]; omega
      replace r_zh2 := Lib.hid r_zh2
      go_upto_if 38 with fail
      go_cut [] (fun wx => LC w A [.int .i64 za0, .bool bd, .int .u64 bn, .slice sA sn sc, .string (strOf nm)] cs (.slice sA sn sc) wx)
      case first =>
        by_cases hc : k / 3240 % 2 = 1
        · have h3 : zh2 = 1 := by rw [r_zh2.out, hc]; rfl
          subst h3
          clear e_zh1 e_zh2
          obtain ⟨zp, e_zp⟩ : ∃ x : Int, 112 + (p : Int) = x := ⟨_, rfl⟩
          have hp1 : 112 ≤ zp ∧ zp ≤ 122 := by omega
          have hp2 : zp % 256 = zp := by omega
          have hcv := conv_one wc (UInt8.ofNat (112 + p)) zp (by rw [UInt8.toNat_ofNat', ← e_zp]; omega)
          have h1 : nm = [UInt8.ofNat (112 + p)] := by rw [HNM.out, if_pos hc]
          clear HNM
          obtain ⟨ch, hch⟩ : ∃ ch, ch = UInt8.ofNat (112 + p) := ⟨_, rfl⟩
          rw [← hch] at h1 hcv
          clear hch
          subst h1
          have HC := Lib.hid (lc_set (lc_alloc hC2 (.cells #[.int .u8 zp] 5)) 4 (.string (strOf [ch])))
          have hKA : Blk (wc.alloc (.cells #[.int .u8 zp] 5)) A [.int .i64 za0, .bool bd, .int .u64 bn, .slice sA sn sc, .string ⟨#[]⟩] := hC2.blk.alloc _
          have k4 := hKA.cell 4 _ rfl
          have q4 := hKA.fr 4 _ rfl
          clear hC2 hc hKA
          go_wp2_with fail
          go_meet
          case rel => exact HC.out
        · have h1 : nm = [] := by rw [HNM.out, if_neg hc]
          have hc2 : (zh2 == 1) = false := by rw [beq_eq_false_iff_ne, r_zh2.out]; omega
          subst h1
          clear hc
          go_wp2_with fail
          go_meet
          case rel => exact hC2
      case rest =>
        clear hC2
        have hC3 := hcut
        clear hcut r_zh1 r_zh2 e_zh1 e_zh2 lo_zh1 lo_zh2 hi_zh1 hi_zh2
        obtain ⟨zi1, e_zi1, r_zi1⟩ : ∃ x : Int, (k : Int) / 6480 = x ∧ x = ((k / 6480 : Nat) : Int) := ⟨_, rfl, by omega⟩
        have lo_zi1 : 0 ≤ zi1 := by omega
        have hi_zi1 : zi1 < 1073741824 := by rw [r_zi1]; omega
        replace r_zi1 := Lib.hid r_zi1
        obtain ⟨zi2, e_zi2, r_zi2⟩ : ∃ x : Int, zi1 % 5 = x ∧ x = ((k / 6480 % 5 : Nat) : Int) := ⟨_, rfl, by rw [r_zi1.out]; omega⟩
        have lo_zi2 : 0 ≤ zi2 := by omega
        have hi_zi2 : zi2 < 5 := by rw [r_zi2]; omega
        replace r_zi2 := Lib.hid r_zi2
        have u0 := hC3.blk.cell 0 _ rfl
        have u1 := hC3.blk.cell 1 _ rfl
        have u2 := hC3.blk.cell 2 _ rfl
        have u3 := hC3.blk.cell 3 _ rfl
        have u4 := hC3.blk.cell 4 _ rfl
        go_upto_if 50 with fail
        refine named_wp fun WN hWN => ?_
        have hb5 : Below wc.heap.size wc WN := by rw [hWN]; exact b1 _ _
        have hN : Blk WN wc.heap.size [.int .i64 1, .int .i64 1, .int .i64 1, .int .i64 za0, .bool bd, .int .u64 bn, .slice sA sn sc, .string (strOf nm), .slice none 0 0] := by rw [hWN]; exact Blk.is (us := [.int .i64 1, .int .i64 1, .int .i64 1, .int .i64 za0, .bool bd, .int .u64 bn, .slice sA sn sc, .string (strOf nm), .slice none 0 0]) _ rfl
        have hRN := hC3.res.later hb5
        have hAlt := hC3.blk.lt
        have hwlt : w.heap.size < A := hC3.lt
        have HF : Hid (∀ W5 V, Below wc.heap.size wc W5 → Only w.heap.size W5 V → LfR w k p (.returned (.agg #[.int .i64 1, .int .i64 (kMn k), .int .i64 (kMx k), .int .i64 za0, .bool bd, .int .u64 bn, .slice sA sn sc, .string (strOf nm), .slice none 0 0])) V) := Lib.hid (fun W5 V hb h2 => lf_end hk HA.out hC3 hb h2)
        have hbs : ∀ u v : Value, Below wc.heap.size wc ((WN.setCell ⟨wc.heap.size, 1, none⟩ u).setCell ⟨wc.heap.size, 2, none⟩ v) := fun u v => hb5.trans ((((Only.refl wc.heap.size WN).setCell 1 u).setCell 2 v).below)
        have hne : w.heap.size ≠ wc.heap.size := by omega
        have HBS := Lib.hid hbs
        have HRN := Lib.hid hRN
        have HB5 := Lib.hid hb5
        have HNE := Lib.hid hne
        clear hWN hC3 u0 u1 u2 u3 u4 hAlt hwlt hb5 hRN hbs hne HA HKD HBD HBN HCS HNM
        obtain ⟨B, hB⟩ : ∃ B, B = wc.heap.size := ⟨_, rfl⟩
        rw [← hB] at hN HBS HNE HF HB5 ⊢
        clear hB
        by_cases hc : k / 6480 % 5 = 1
        · have h3 : zi2 = 1 := by rw [r_zi2.out, hc]; rfl
          subst h3
          clear e_zi1 e_zi2
          obtain ⟨zj1, e_zj1, r_zj1⟩ : ∃ x : Int, (k : Int) / 32400 = x ∧ x = ((k / 32400 : Nat) : Int) := ⟨_, rfl, by omega⟩
          have lo_zj1 : 0 ≤ zj1 := by omega
          have hi_zj1 : zj1 < 1073741824 := by rw [r_zj1]; omega
          replace r_zj1 := Lib.hid r_zj1
          obtain ⟨zj2, e_zj2, r_zj2⟩ : ∃ x : Int, zj1 % 2 = x ∧ x = ((k / 32400 % 2 : Nat) : Int) := ⟨_, rfl, by rw [r_zj1.out]; omega⟩
          have lo_zj2 : 0 ≤ zj2 := by omega
          have hi_zj2 : zj2 < 2 := by rw [r_zj2]; omega
          replace r_zj2 := Lib.hid r_zj2
          obtain ⟨zl1, e_zl1, r_zl1⟩ : ∃ x : Int, (k : Int) / 64800 = x ∧ x = ((k / 64800 : Nat) : Int) := ⟨_, rfl, by omega⟩
          have lo_zl1 : 0 ≤ zl1 := by omega
          have hi_zl1 : zl1 < 1073741824 := by rw [r_zl1]; omega
          replace r_zl1 := Lib.hid r_zl1
          obtain ⟨zl2, e_zl2, r_zl2⟩ : ∃ x : Int, zl1 % 2 = x ∧ x = ((k / 64800 % 2 : Nat) : Int) := ⟨_, rfl, by rw [r_zl1.out]; omega⟩
          have lo_zl2 : 0 ≤ zl2 := by omega
          have hi_zl2 : zl2 < 2 := by rw [r_zl2]; omega
          replace r_zl2 := Lib.hid r_zl2
          have hmn : kMn k = 1 + zj2 := by unfold kMn; rw [if_pos hc, r_zj2.out]
          have hmx : kMx k = 2 + zl2 := by unfold kMx; rw [if_pos hc, r_zl2.out]
          have HMN := Lib.hid hmn
          have HMX := Lib.hid hmx
          have n1 := hN.cell 1 _ rfl
          have n2 := hN.cell 2 _ rfl
          have m1 := hN.fr 1 _ rfl
          have m2 := hN.fr 2 _ rfl
          clear hc hmn hmx
          go_upto_region 11 with fail
          refine named_wp fun W6 hW6 => ?_
          have hN6 : Blk W6 B [.int .i64 1, .int .i64 (1 + zj2), .int .i64 (2 + zl2), .int .i64 za0, .bool bd, .int .u64 bn, .slice sA sn sc, .string (strOf nm), .slice none 0 0] := by rw [hW6]; exact (hN.set 1 _).set 2 _
          have hR6 : Blk W6 w.heap.size [.int .i64 0, .int .i64 0, .int .i64 0, .int .i64 0, .bool false, .int .u64 0, .slice none 0 0, .string ⟨#[]⟩, .slice none 0 0] := by rw [hW6]; exact (HRN.out.other (p := ⟨B, 1, none⟩) (fun e => HNE.out e.symm) _).other (p := ⟨B, 2, none⟩) (fun e => HNE.out e.symm) _
          have hb6 : Below B wc W6 := by rw [hW6]; exact HBS.out _ _
          have hmn := HMN.out
          have hmx := HMX.out
          clear hW6 hN n1 n2 m1 m2
          have c0 := hN6.cell 0 _ rfl
          have c1 := hN6.cell 1 _ rfl
          have c2 := hN6.cell 2 _ rfl
          have c3 := hN6.cell 3 _ rfl
          have c4 := hN6.cell 4 _ rfl
          have c5 := hN6.cell 5 _ rfl
          have c6 := hN6.cell 6 _ rfl
          have c7 := hN6.cell 7 _ rfl
          have c8 := hN6.cell 8 _ rfl
          have d0 := hR6.cell 0 _ rfl
          have gd0 := hR6.fr 0 _ rfl
          have d1 := hR6.cell 1 _ rfl
          have gd1 := hR6.fr 1 _ rfl
          have d2 := hR6.cell 2 _ rfl
          have gd2 := hR6.fr 2 _ rfl
          have d3 := hR6.cell 3 _ rfl
          have gd3 := hR6.fr 3 _ rfl
          have d4 := hR6.cell 4 _ rfl
          have gd4 := hR6.fr 4 _ rfl
          have d5 := hR6.cell 5 _ rfl
          have gd5 := hR6.fr 5 _ rfl
          have d6 := hR6.cell 6 _ rfl
          have gd6 := hR6.fr 6 _ rfl
          have d7 := hR6.cell 7 _ rfl
          have gd7 := hR6.fr 7 _ rfl
          have d8 := hR6.cell 8 _ rfl
          have gd8 := hR6.fr 8 _ rfl
          go_wp2
          refine named_post fun V hV => ?_
          obtain ⟨h1, h2⟩ : Blk V w.heap.size [.int .i64 1, .int .i64 (1 + zj2), .int .i64 (2 + zl2), .int .i64 za0, .bool bd, .int .u64 bn, .slice sA sn sc, .string (strOf nm), .slice none 0 0] ∧ Only w.heap.size W6 V := by
            have h3 := res_out hR6 (us := [.int .i64 1, .int .i64 (1 + zj2), .int .i64 (2 + zl2), .int .i64 za0, .bool bd, .int .u64 bn, .slice sA sn sc, .string (strOf nm), .slice none 0 0]) rfl rfl
            rcases (show V = (fillW W6 w.heap.size 0 [.int .i64 1, .int .i64 (1 + zj2), .int .i64 (2 + zl2), .int .i64 za0, .bool bd, .int .u64 bn, .slice sA sn sc, .string (strOf nm), .slice none 0 0]) ∨ V = (fillW W6 w.heap.size 0 [.int .i64 1, .int .i64 (1 + zj2), .int .i64 (2 + zl2), .int .i64 za0, .bool bd, .int .u64 bn, .slice sA sn sc, .string (strOf nm), .slice none 0 0]).drew by first | exact .inl hV | exact .inr hV) with rfl | rfl
            · exact h3
            · exact ⟨h3.1.drew, h3.2.drewN 1⟩
          clear hV c0 d0 gd0 c1 d1 gd1 c2 d2 gd2 c3 d3 gd3 c4 d4 gd4 c5 d5 gd5 c6 d6 gd6 c7 d7 gd7 c8 d8 gd8
          have c0 := h1.cell 0 _ rfl
          have c1 := h1.cell 1 _ rfl
          have c2 := h1.cell 2 _ rfl
          have c3 := h1.cell 3 _ rfl
          have c4 := h1.cell 4 _ rfl
          have c5 := h1.cell 5 _ rfl
          have c6 := h1.cell 6 _ rfl
          have c7 := h1.cell 7 _ rfl
          have c8 := h1.cell 8 _ rfl
          have hfin := HF.out W6 V hb6 h2
          rw [hmn, hmx] at hfin
          exact bodyPost_ret (v := .agg #[.int .i64 1, .int .i64 (1 + zj2), .int .i64 (2 + zl2), .int .i64 za0, .bool bd, .int .u64 bn, .slice sA sn sc, .string (strOf nm), .slice none 0 0]) (by simp [results, Tryz.results67, go_sem, c0, c1, c2, c3, c4, c5, c6, c7, c8]; try rfl) rfl hfin
        · have hmn : kMn k = 1 := by unfold kMn; rw [if_neg hc]
          have hmx : kMx k = 1 := by unfold kMx; rw [if_neg hc]
          have hc2 : (zi2 == 1) = false := by rw [beq_eq_false_iff_ne, r_zi2.out]; omega
          clear hc
          go_upto_region 11 with fail
          refine named_wp fun W6 hW6 => ?_
          have hN6 : Blk W6 B [.int .i64 1, .int .i64 1, .int .i64 1, .int .i64 za0, .bool bd, .int .u64 bn, .slice sA sn sc, .string (strOf nm), .slice none 0 0] := by rw [hW6]; exact hN
          have hR6 : Blk W6 w.heap.size [.int .i64 0, .int .i64 0, .int .i64 0, .int .i64 0, .bool false, .int .u64 0, .slice none 0 0, .string ⟨#[]⟩, .slice none 0 0] := by rw [hW6]; exact HRN.out
          have hb6 : Below B wc W6 := by rw [hW6]; exact HB5.out
          clear hW6 hN
          have c0 := hN6.cell 0 _ rfl
          have c1 := hN6.cell 1 _ rfl
          have c2 := hN6.cell 2 _ rfl
          have c3 := hN6.cell 3 _ rfl
          have c4 := hN6.cell 4 _ rfl
          have c5 := hN6.cell 5 _ rfl
          have c6 := hN6.cell 6 _ rfl
          have c7 := hN6.cell 7 _ rfl
          have c8 := hN6.cell 8 _ rfl
          have d0 := hR6.cell 0 _ rfl
          have gd0 := hR6.fr 0 _ rfl
          have d1 := hR6.cell 1 _ rfl
          have gd1 := hR6.fr 1 _ rfl
          have d2 := hR6.cell 2 _ rfl
          have gd2 := hR6.fr 2 _ rfl
          have d3 := hR6.cell 3 _ rfl
          have gd3 := hR6.fr 3 _ rfl
          have d4 := hR6.cell 4 _ rfl
          have gd4 := hR6.fr 4 _ rfl
          have d5 := hR6.cell 5 _ rfl
          have gd5 := hR6.fr 5 _ rfl
          have d6 := hR6.cell 6 _ rfl
          have gd6 := hR6.fr 6 _ rfl
          have d7 := hR6.cell 7 _ rfl
          have gd7 := hR6.fr 7 _ rfl
          have d8 := hR6.cell 8 _ rfl
          have gd8 := hR6.fr 8 _ rfl
          go_wp2
          refine named_post fun V hV => ?_
          obtain ⟨h1, h2⟩ : Blk V w.heap.size [.int .i64 1, .int .i64 1, .int .i64 1, .int .i64 za0, .bool bd, .int .u64 bn, .slice sA sn sc, .string (strOf nm), .slice none 0 0] ∧ Only w.heap.size W6 V := by
            have h3 := res_out hR6 (us := [.int .i64 1, .int .i64 1, .int .i64 1, .int .i64 za0, .bool bd, .int .u64 bn, .slice sA sn sc, .string (strOf nm), .slice none 0 0]) rfl rfl
            rcases (show V = (fillW W6 w.heap.size 0 [.int .i64 1, .int .i64 1, .int .i64 1, .int .i64 za0, .bool bd, .int .u64 bn, .slice sA sn sc, .string (strOf nm), .slice none 0 0]) ∨ V = (fillW W6 w.heap.size 0 [.int .i64 1, .int .i64 1, .int .i64 1, .int .i64 za0, .bool bd, .int .u64 bn, .slice sA sn sc, .string (strOf nm), .slice none 0 0]).drew by first | exact .inl hV | exact .inr hV) with rfl | rfl
            · exact h3
            · exact ⟨h3.1.drew, h3.2.drewN 1⟩
          clear hV c0 d0 gd0 c1 d1 gd1 c2 d2 gd2 c3 d3 gd3 c4 d4 gd4 c5 d5 gd5 c6 d6 gd6 c7 d7 gd7 c8 d8 gd8
          have c0 := h1.cell 0 _ rfl
          have c1 := h1.cell 1 _ rfl
          have c2 := h1.cell 2 _ rfl
          have c3 := h1.cell 3 _ rfl
          have c4 := h1.cell 4 _ rfl
          have c5 := h1.cell 5 _ rfl
          have c6 := h1.cell 6 _ rfl
          have c7 := h1.cell 7 _ rfl
          have c8 := h1.cell 8 _ rfl
          have hfin := HF.out W6 V hb6 h2
          rw [hmn, hmx] at hfin
          exact bodyPost_ret (v := .agg #[.int .i64 1, .int .i64 1, .int .i64 1, .int .i64 za0, .bool bd, .int .u64 bn, .slice sA sn sc, .string (strOf nm), .slice none 0 0]) (by simp [results, Tryz.results67, go_sem, c0, c1, c2, c3, c4, c5, c6, c7, c8]; try rfl) rfl hfin
end Go.Proofs.YtdoioaeppepndaaGreatDoor
