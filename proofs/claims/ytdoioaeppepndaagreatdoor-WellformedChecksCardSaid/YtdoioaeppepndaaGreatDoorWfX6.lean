/- The document's own: names, named, Check in steps. -/
import Derived.Test.YtdoioaeppepndaaGreatDoorWfX5
namespace Go.Proofs.YtdoioaeppepndaaGreatDoor
open Go.RowKit
open A8 W10
attribute [local go_sem] Oper.semAt_some

def namF (Z : List (A8.At × Bool)) : List (List UInt8) := (Z.filter fun z => !z.1.nm.isEmpty && !z.2).map fun z => z.1.nm
theorem namF_snoc (Z : List (A8.At × Bool)) (a : A8.At) (b : Bool) : namF (Z ++ [(a, b)]) = namF Z ++ (if a.nm.isEmpty = false ∧ b = false then [a.nm] else []) := by
  unfold namF
  rw [List.filter_append, List.map_append]
  congr 1
  cases ha : a.nm.isEmpty <;> cases b <;> simp [ha]
theorem onceF_app : ∀ (P Q pre : List (List UInt8)), onceF pre (P ++ Q) = (onceF pre P && onceF (pre ++ P) Q)
  | [], Q, pre => by rw [List.nil_append, onceF, List.append_nil, Bool.true_and]
  | x :: P, Q, pre => by rw [List.cons_append, onceF, onceF, onceF_app P Q (pre ++ [x]), Bool.and_assoc, List.append_assoc]; rfl
theorem onceF_snoc (P : List (List UInt8)) (x : List UInt8) : onceF [] (P ++ [x]) = (onceF [] P && (x.isEmpty || !P.contains x)) := by
  rw [onceF_app, onceF, onceF, Bool.and_true, List.nil_append]
theorem once_bad {L : List (List UInt8)} {i : Nat} (_hi : i < L.length) (h : onceF [] (L.take (i + 1)) = false) : onceF [] L = false := by
  have h2 := onceF_app (L.take (i + 1)) (L.drop (i + 1)) []
  rw [List.take_append_drop, h] at h2
  exact h2
theorem namF_len (Z : List (A8.At × Bool)) : (namF Z).length ≤ Z.length := by unfold namF; rw [List.length_map]; exact List.length_filter_le _ _
theorem gaC_len10 (g : GA) : (gaC g).length = 5 := rfl
set_option maxRecDepth 100000 in
set_option maxHeartbeats 16000000 in
theorem rnames_any (q : GQ) (w : World) (hq : QW w q) (As : List A8.At) (Bs : List Bool) (hlB : Bs.length = As.length) (hln : As.length ≤ 100000)
    (hA : ∀ w1, Below w.heap.size w w1 → Calls Tryz.prog 89 #[.agg q.t.row.toArray] w1 fun e w' => ∃ (gs : List GA) (A : Option Addr) (c : Nat), gs.map (fun g => g.a) = As ∧ e = .returned (.tuple #[.slice A gs.length c, .int .i64 0]) ∧ Sl w' 5 gs.length (.slice A gs.length c) (gs.flatMap gaC) ∧ Below w1.heap.size w1 w')
    (hN : ∀ w1, Below w.heap.size w w1 → Calls Tryz.prog 116 #[.agg q.t.row.toArray] w1 fun e w' => ∃ (A : Option Addr) (c : Nat), e = .returned (.tuple #[.slice A Bs.length c, .int .i64 0]) ∧ Sl w' 1 Bs.length (.slice A Bs.length c) (Bs.flatMap fun b => [.bool b]) ∧ Below w1.heap.size w1 w') :
    Calls Tryz.prog 80 #[.agg q.row.toArray] w fun e w' => ∃ v, e = .returned (.tuple #[v, .bool (onceF [] (As.map fun a => a.nm))]) ∧ w'.ownsRow w.heap.size 9 1 v (if onceF [] (As.map fun a => a.nm) = true then namF (As.zip Bs) else []).length ((if onceF [] (As.map fun a => a.nm) = true then namF (As.zip Bs) else []).map fun s => .string (strOf s)) ∧ Below w.heap.size w w' := by
  obtain ⟨T, wi, sh, hv, se, em⟩ := q
  have hsh := hq.hv
  have hse := hq.em
  have hone := hq.tr.one
  simp only at hsh hse hone hA hN
  obtain ⟨k, mn, mx, ⟨⟨kd, bd, bn, cs, nm⟩, sc⟩, sk, ks⟩ := T
  obtain ⟨-, ⟨-, hsc⟩, hsl⟩ := hone
  obtain ⟨C1, n1, c1, rfl⟩ := sl_form10 hsc
  obtain ⟨B1, m1, e1, rfl⟩ := sl_form10 hsl
  obtain ⟨H1, h1, ch, rfl⟩ := sl_form10 hsh
  obtain ⟨E1, g1e, ce, rfl⟩ := sl_form10 hse
  simp only [GQ.row, Tr.row, List.cons_append, List.nil_append] at hA hN ⊢
  clear hsc hsl hsh hse hq
  obtain ⟨L, hL⟩ : ∃ L, L = As.map (fun a => a.nm) := ⟨_, rfl⟩
  rw [← hL]
  obtain ⟨ON, hON⟩ : ∃ ON, ON = onceF [] L := ⟨_, rfl⟩
  rw [← hON]
  obtain ⟨RL, hRL⟩ : ∃ RL, RL = if ON = true then namF (As.zip Bs) else [] := ⟨_, rfl⟩
  rw [← hRL]
  have HRL := Lib.hid hRL
  clear hRL
  have HON := Lib.hid hON
  have HL := Lib.hid hL
  clear hON hL
  obtain ⟨i0, hi0, hz0, hz1, hz2⟩ := info_parts infoStr10c
  go_enter Tryz.func80, Tryz.ntmps80
  go_upto_region 1 with fail
  refine named_wp ?_
  intro W1 hW1
  have hX : Blk W1 w.heap.size [.int .i64 k, .int .i64 mn, .int .i64 mx, .int .i64 kd, .bool bd, .int .u64 bn, .slice C1 n1 c1, .string (strOf nm), .slice B1 m1 e1, .int .u64 wi, .slice H1 h1 ch, .slice E1 g1e ce] := by rw [hW1]; exact Blk.new w [.int .i64 k, .int .i64 mn, .int .i64 mx, .int .i64 kd, .bool bd, .int .u64 bn, .slice C1 n1 c1, .string (strOf nm), .slice B1 m1 e1, .int .u64 wi, .slice H1 h1 ch, .slice E1 g1e ce] 35
  have hb1 : Below w.heap.size w W1 := by rw [hW1]; exact b1 _ _
  clear hW1
  have x0 := hX.cell 0 _ rfl
  have x1 := hX.cell 1 _ rfl
  have x2 := hX.cell 2 _ rfl
  have x3 := hX.cell 3 _ rfl
  have x4 := hX.cell 4 _ rfl
  have x5 := hX.cell 5 _ rfl
  have x6 := hX.cell 6 _ rfl
  have x7 := hX.cell 7 _ rfl
  have x8 := hX.cell 8 _ rfl
  have xlt := hX.lt
  go_wp2_with fail
  refine (hA W1 hb1).mono ?_
  rintro r w2 ⟨gs, A, c, hgs, rfl, hs2, hb2⟩
  clear hA xlt x0 x1 x2 x3 x4 x5 x6 x7 x8
  have hX2 := hX.later hb2
  have x0 := hX2.cell 0 _ rfl
  have x1 := hX2.cell 1 _ rfl
  have x2 := hX2.cell 2 _ rfl
  have x3 := hX2.cell 3 _ rfl
  have x4 := hX2.cell 4 _ rfl
  have x5 := hX2.cell 5 _ rfl
  have x6 := hX2.cell 6 _ rfl
  have x7 := hX2.cell 7 _ rfl
  have x8 := hX2.cell 8 _ rfl
  have xlt := hX2.lt
  have hb12 := bstep hb1 hb2
  go_wp2_with fail
  refine (hN w2 hb12).mono ?_
  rintro r w3 ⟨D, d, rfl, hs3, hb3⟩
  clear hN xlt x0 x1 x2 x3 x4 x5 x6 x7 x8
  obtain ⟨A', c', hv1, -, hels⟩ := sl_els (by decide) gaC_len10 (hs2.later hb3)
  injection hv1 with q1 q2 q3
  subst q1
  subst q3
  obtain ⟨D', d', hv2, -, gels⟩ := sl_els (f := fun b : Bool => [Value.bool b]) (by decide) (fun _ => rfl) hs3
  injection hv2 with q4 q5 q6
  subst q4
  subst q6
  have hgl : gs.length = L.length := by rw [HL.out, ← hgs, List.length_map, List.length_map]
  have hbl : Bs.length = L.length := by rw [HL.out, List.length_map, hlB]
  rw [hgl]
  have HE := Lib.hid hels
  have HG := Lib.hid gels
  have HB := Lib.hid (bstep hb12 hb3)
  have HGS := Lib.hid hgs
  have HGL := Lib.hid hgl
  have HBL := Lib.hid hbl
  have hLl : L.length ≤ 100000 := by rw [HL.out, List.length_map]; exact hln
  clear hels gels hs2 hs3 hb1 hb2 hb3 hb12 hX hX2 hgs hgl hbl q2 q5 hlB hln
  go_wp2
  go_loopg [8, 9, 10] L.length (fun gh ov iv _v10 wr => ∃ (i nn : Nat) (O : Option Addr) (oc : Nat), i ≤ L.length ∧ gh = L.length - i ∧ ov = .slice O nn oc ∧ iv = .int .i64 (i : Int) ∧ Hid (wr.ownsRow w3.heap.size 9 1 (.slice O nn oc) nn ((namF ((As.zip Bs).take i)).map fun s => .string (strOf s))) ∧ Hid (Below w3.heap.size w3 wr) ∧ Hid (nn = (namF ((As.zip Bs).take i)).length) ∧ Hid (onceF [] (L.take i) = true))
  case atStart => exact ⟨0, 0, none, 0, Nat.zero_le _, rfl, rfl, rfl, Lib.hid (World.ownsRow_nil _ _ _ _), Lib.hid (Below.refl _ _), Lib.hid rfl, Lib.hid rfl⟩
  case round =>
    obtain ⟨i, nn, O, oc, hi, hg, rfl, rfl, hO, hb, hnn, hon⟩ := hrel
    rename World => wr
    have hij : (0 : Int) ≤ (i : Int) := by omega
    by_cases hlt : i < L.length
    · have g1 : (i : Int) < (L.length : Int) := by omega
      have hwk : IntKind.i64.wrap ((i : Int) + 1) = (i : Int) + 1 := IntWalk.i64_in _ ⟨by omega, by omega⟩
      obtain ⟨a, rfl, halt, E⟩ := HE.out i (by rw [HGL.out]; exact hlt)
      obtain ⟨x, hx⟩ : ∃ x, x = L[i] := ⟨_, rfl⟩
      have hnm : ∀ (j : Nat) (hj : j < L.length), (gs[j]'(by rw [HGL.out]; exact hj)).a.nm = L[j] := fun j hj => by simp only [HL.out, ← HGS.out, List.getElem_map]
      have hcx : ∀ w1, Below w3.heap.size w3 w1 → w1.cell? ⟨(a.add (i * 5)).block, (a.add (i * 5)).off + 4, none⟩ = some (.string (strOf x)) := fun w1 hw => by rw [hx, ← hnm i hlt]; exact (E.later hw).at1 4 _ (by decide) rfl
      have hcl : ∀ w1, Below w3.heap.size w3 w1 → (a.add (i * 5)).block < w1.heap.size := fun w1 hw => (E.later hw).lt
      have hck : ∀ (j : Nat) (hj : j < L.length) w1, Below w3.heap.size w3 w1 → w1.cell? ⟨(a.add (j * 5)).block, (a.add (j * 5)).off + 4, none⟩ = some (.string (strOf L[j])) ∧ (a.add (j * 5)).block < w1.heap.size := fun j hj w1 hw => by
        obtain ⟨a2, ha2, -, E2⟩ := HE.out j (by rw [HGL.out]; exact hj)
        cases ha2
        rw [← hnm j hj]
        exact ⟨(E2.later hw).at1 4 _ (by decide) rfl, (E2.later hw).lt⟩
      have hi6 : i < Bs.length := by rw [HBL.out]; exact hlt
      have g6 : (i : Int) < (Bs.length : Int) := by omega
      obtain ⟨a6, rfl, ha6, E6⟩ := HG.out i hi6
      obtain ⟨b, hbb⟩ : ∃ b, b = Bs[i] := ⟨_, rfl⟩
      rw [← hbb] at E6
      have hzi : (As.zip Bs).take (i + 1) = (As.zip Bs).take i ++ [(As[i]'(by have := HL.out; rw [this, List.length_map] at hlt; exact hlt), b)] := by rw [List.take_succ_eq_append_getElem (by rw [List.length_zip]; have := HL.out; rw [this, List.length_map] at hlt; omega), List.getElem_zip, hbb]
      have hai : (As[i]'(by have := HL.out; rw [this, List.length_map] at hlt; exact hlt)).nm = x := by rw [hx]; simp only [HL.out, List.getElem_map]
      have hnz : namF ((As.zip Bs).take (i + 1)) = namF ((As.zip Bs).take i) ++ (if x.isEmpty = false ∧ b = false then [x] else []) := by rw [hzi, namF_snoc, hai]
      have hot : onceF [] (L.take (i + 1)) = (onceF [] (L.take i) && (x.isEmpty || !(L.take i).contains x)) := by rw [List.take_succ_eq_append_getElem hlt, onceF_snoc, ← hx]
      rw [hon.out, Bool.true_and] at hot
      have HCX := Lib.hid hcx
      have HCL := Lib.hid hcl
      have HCK := Lib.hid hck
      have HNZ := Lib.hid hnz
      have HOT := Lib.hid hot
      have HE6 := Lib.hid E6
      have HLT := Lib.hid hlt
      have HNN := Lib.hid hnn.out
      clear hcx hcl hck hnz hot E6 E hzi hai hbb hx hnm hon hnn halt ha6 hi6
      cases hxe : x.isEmpty with
      | true =>
        obtain rfl : x = [] := List.isEmpty_iff.1 hxe
        clear hxe
        go_wp2
        go_loopg [10] i (fun gh kv wx => ∃ (kk : Nat), kk ≤ i ∧ gh = i - kk ∧ kv = .int .i64 (kk : Int) ∧ Hid (Below wr.heap.size wr wx) ∧ Hid (True))
        case atStart => exact ⟨0, Nat.zero_le _, rfl, rfl, Lib.hid (Below.refl _ _), Lib.hid trivial⟩
        case round =>
          obtain ⟨kk, hk, hgk, rfl, hbk, hkn⟩ := hrel
          rename World => wx
          have hk0 : (0 : Int) ≤ (kk : Int) := by omega
          have hb3 := bstep hb.out hbk.out
          by_cases hlk : kk < i
          · have gk1 : (kk : Int) < (i : Int) := by omega
            have gk2 : (kk : Int) < (L.length : Int) := by omega
            have hwkk : IntKind.i64.wrap ((kk : Int) + 1) = (kk : Int) + 1 := IntWalk.i64_in _ ⟨by omega, by omega⟩
            have c1 := HCX.out wx hb3
            have c2 := HCL.out wx hb3
            obtain ⟨c3, c4⟩ := HCK.out kk (by omega) wx hb3
            have hse : strOf [] = ⟨#[]⟩ := rfl
            rw [hse] at c1
            go_upto_region 10 with fail
            go_cut [52] (fun v wy => v = .bool false ∧ Hid (Below wx.heap.size wx wy))
            case first =>
              go_quiet (fail)
              go_wp2
              go_meet
              case rel => exact ⟨rfl, Lib.hid (below_drewN (Below.refl _ _) _)⟩
            case rest =>
            obtain ⟨rfl, hby⟩ := hcut
            clear c1 c2 c3 c4
            have HBn := Lib.hid (bstep hbk.out hby.out)
            clear hby hbk hb3
            go_wp2
            go_roundg (i - (kk + 1))
            case rel => exact ⟨kk + 1, by omega, rfl, by go_num, HBn, Lib.hid trivial⟩
            case measure => omega
          · have gk1 : ¬ (kk : Int) < (i : Int) := by omega
            obtain rfl : i = kk := by omega
            have c1 := HCX.out wx hb3
            have c2 := HCL.out wx hb3
            have hO2 := own_later hO.out hbk.out
            have hse : strOf [] = ⟨#[]⟩ := rfl
            rw [hse] at c1
            have HO2 := Lib.hid hO2
            have HB3 := Lib.hid hb3
            clear hO2 hb3 hO hb hbk hkn hse hgk hk
            have HNS : Hid (namF ((As.zip Bs).take (i + 1)) = namF ((As.zip Bs).take i)) := Lib.hid (by rw [HNZ.out, if_neg (by simp), List.append_nil])
            have HOS : Hid (onceF [] (L.take (i + 1)) = true) := Lib.hid (by rw [HOT.out]; rfl)
            go_wp2
            go_roundg (L.length - (i + 1))
            case rel => exact ⟨i + 1, nn, O, oc, by omega, rfl, rfl, by go_num, Lib.hid (by rw [HNS.out]; exact HO2.out), HB3, Lib.hid (by rw [HNS.out]; exact HNN.out), HOS⟩
            case measure => omega
      | false =>
        have hxb0 : ¬ strOf x = strOf [] := fun h => by rw [strOf_inj10 h] at hxe; cases hxe
        have HXE := Lib.hid hxe
        have hn0 := str_nel hxb0
        obtain ⟨xb, hxb⟩ : ∃ xb, xb = strOf x := ⟨_, rfl⟩
        rw [← hxb] at hn0
        have HXB := Lib.hid hxb
        clear hxb0 hxe hxb
        go_wp2
        go_loopg [10] i (fun gh kv wx => ∃ (kk : Nat), kk ≤ i ∧ gh = i - kk ∧ kv = .int .i64 (kk : Int) ∧ Hid (Below wr.heap.size wr wx) ∧ Hid (∀ (j : Nat) (hj : j < kk) (hjl : j < L.length), L[j] ≠ x))
        case atStart => exact ⟨0, Nat.zero_le _, rfl, rfl, Lib.hid (Below.refl _ _), Lib.hid (fun j hj => by omega)⟩
        case round =>
          obtain ⟨kk, hk, hgk, rfl, hbk, hkn⟩ := hrel
          rename World => wx
          have hk0 : (0 : Int) ≤ (kk : Int) := by omega
          have hb3 := bstep hb.out hbk.out
          by_cases hlk : kk < i
          · have gk1 : (kk : Int) < (i : Int) := by omega
            have gk2 : (kk : Int) < (L.length : Int) := by omega
            have hwkk : IntKind.i64.wrap ((kk : Int) + 1) = (kk : Int) + 1 := IntWalk.i64_in _ ⟨by omega, by omega⟩
            have c1 := HCX.out wx hb3
            have c2 := HCL.out wx hb3
            obtain ⟨c3, c4⟩ := HCK.out kk (by omega) wx hb3
            rw [← HXB.out] at c1
            obtain ⟨yv, hyv⟩ : ∃ yv, yv = L[kk]'(by omega) := ⟨_, rfl⟩
            rw [← hyv] at c3
            obtain ⟨yb, hyb⟩ : ∃ yb, yb = strOf yv := ⟨_, rfl⟩
            rw [← hyb] at c3
            by_cases he : yv = x
            · have hybx : yb = xb := by rw [hyb, HXB.out, he]
              subst hybx
              have hONf : ON = false := by rw [HON.out]; exact once_bad (by have := HLT.out; exact this) (by rw [HOT.out, HXE.out, Bool.false_or, Bool.not_eq_false']; rw [List.contains_eq_mem, decide_eq_true_eq, ← he, hyv, List.mem_take_iff_getElem]; exact ⟨kk, by omega, rfl⟩)
              have hRLn : RL = [] := by rw [HRL.out, hONf]; rfl
              subst hRLn
              subst hONf
              clear hyb hyv he HRL
              go_upto_region 10 with fail
              go_cut [52] (fun v wy => v = .bool true ∧ Hid (Below wx.heap.size wx wy))
              case first =>
                go_quiet (fail)
                go_wp2
                go_meet
                case rel => exact ⟨by first | rfl | simp, Lib.hid (below_drewN (Below.refl _ _) _)⟩
              case rest =>
              obtain ⟨rfl, hby⟩ := hcut
              have HBn := Lib.hid (bstep (bstep HB.out hb3) hby.out)
              clear hby hbk hb3 c1 c2 c3 c4
              go_wp2
              go_ret2
              exact ⟨_, rfl, World.ownsRow_nil _ _ _ _, HBn.out⟩
            · have hyne : yb ≠ xb := by rw [hyb, HXB.out]; exact fun h => he (strOf_inj10 h)
              have hq1 := str_ne hyne
              have hkn2 : Hid (∀ (j : Nat) (hj : j < kk + 1) (hjl : j < L.length), L[j] ≠ x) := Lib.hid (fun j hj hjl => (Nat.lt_or_ge j kk).elim (fun h => hkn.out j h hjl) (fun h => by have e : j = kk := (by omega); subst e; rw [← hyv]; exact he))
              clear hyb hyv he hyne hkn
              go_upto_region 10 with fail
              go_cut [52] (fun v wy => v = .bool false ∧ Hid (Below wx.heap.size wx wy))
              case first =>
                go_quiet (fail)
                go_wp2
                go_meet
                case rel => exact ⟨by first | rfl | simp, Lib.hid (below_drewN (Below.refl _ _) _)⟩
              case rest =>
              obtain ⟨rfl, hby⟩ := hcut
              have HBn := Lib.hid (bstep hbk.out hby.out)
              clear hby hbk hb3 c1 c2 c3 c4
              go_wp2
              go_roundg (i - (kk + 1))
              case rel => exact ⟨kk + 1, by omega, rfl, by go_num, HBn, hkn2⟩
              case measure => omega
          · have gk1 : ¬ (kk : Int) < (i : Int) := by omega
            obtain rfl : i = kk := by omega
            have c1 := HCX.out wx hb3
            have c2 := HCL.out wx hb3
            have hO2 := own_later hO.out hbk.out
            rw [← HXB.out] at c1
            have c6 : wx.cell? (a6.add i) = some (.bool b) := by have := (HE6.out.later hb3).at0 _ rfl; rwa [Nat.mul_one] at this
            have c7 : (a6.add i).block < wx.heap.size := by have := (HE6.out.later hb3).lt; rwa [Nat.mul_one] at this
            have HOS : Hid (onceF [] (L.take (i + 1)) = true) := Lib.hid (by
              rw [HOT.out, HXE.out, Bool.false_or, Bool.not_eq_true', List.contains_eq_mem, decide_eq_false_iff_not]
              intro hm
              obtain ⟨j, hj, hjx⟩ := List.mem_take_iff_getElem.1 hm
              exact hkn.out j (by omega) (by omega) hjx)
            have HO2 := Lib.hid hO2
            have HB3 := Lib.hid hb3
            clear hO2 hb3 hO hb hbk hkn hgk hk
            cases b with
            | true =>
              have HNS : Hid (namF ((As.zip Bs).take (i + 1)) = namF ((As.zip Bs).take i)) := Lib.hid (by rw [HNZ.out, if_neg (by simp), List.append_nil])
              go_wp2
              go_roundg (L.length - (i + 1))
              case rel => exact ⟨i + 1, nn, O, oc, by omega, rfl, rfl, by go_num, Lib.hid (by rw [HNS.out]; exact HO2.out), HB3, Lib.hid (by rw [HNS.out]; exact HNN.out), HOS⟩
              case measure => omega
            | false =>
              have HNS : Hid (namF ((As.zip Bs).take (i + 1)) = namF ((As.zip Bs).take i) ++ [x]) := Lib.hid (by rw [HNZ.out, if_pos ⟨HXE.out, rfl⟩])
              have hnl : nn ≤ 100000 := by rw [HNN.out]; exact Nat.le_trans (namF_len _) (by rw [List.length_take]; omega)
              obtain ⟨A3, c3, w4, hrun, hown, hgrow⟩ := run_append_any (P := Tryz.prog) (wx.alloc (.cells #[.string xb] 9)) w3.heap.size 69 69 9 i0 (.string ⟨#[]⟩) 1 16 Tryz.underlying69 hi0 hz0 hz1 hz2 rfl (by decide) _ nn ((namF ((As.zip Bs).take i)).map fun s => .string (strOf s)) (own_later HO2.out (b1 _ _)) _ 1 [.string xb] (Sl.lit (Blk.is (us := [.string xb]) 9 rfl) 1 1 rfl (by decide)) (fun u hu => by rw [List.mem_singleton.1 hu]; rfl) (by unfold maxLen; omega) (by omega) (bstep HB3.out (b1 _ _)).size (nn + 1) ((namF ((As.zip Bs).take i) ++ [x]).map fun s => .string (strOf s)) rfl (by rw [List.map_append, HXB.out]; rfl)
              have HOW := Lib.hid hown
              have HBW := Lib.hid ((bstep HB3.out (b1 _ _)).grown hgrow (bstep HB3.out (b1 _ _)).size (fun j e => (HO2.out.lt j e).1))
              clear hown hgrow HO2 HB3
              go_wp2_with (at_builtin; refine wpList_append_run rfl _ _ _ rfl rfl rfl hrun ?_)
              go_roundg (L.length - (i + 1))
              case rel => exact ⟨i + 1, nn + 1, A3, c3, by omega, rfl, rfl, by go_num, Lib.hid (by rw [HNS.out]; exact HOW.out), HBW, Lib.hid (by rw [HNS.out, List.length_append, ← HNN.out]; rfl), HOS⟩
              case measure => omega
    · have g1 : ¬ (i : Int) < (L.length : Int) := by omega
      have hON1 : ON = true := by rw [HON.out, ← hon.out, List.take_of_length_le (by omega)]
      have hzt : (As.zip Bs).take i = As.zip Bs := List.take_of_length_le (by rw [List.length_zip]; have := HL.out; rw [this, List.length_map] at hi; have := HBL.out; have := HGL.out; have h9 := congrArg List.length HL.out; rw [List.length_map] at h9; omega)
      have hO2 := hO.out
      have hn2 := hnn.out
      rw [hzt] at hO2 hn2
      have hNF : RL = namF (As.zip Bs) := by rw [HRL.out, if_pos hON1]
      subst hON1
      rw [← hNF] at hO2 hn2
      have HOO := Lib.hid hO2
      have HNN2 := Lib.hid hn2
      have HBW := Lib.hid (bstep HB.out hb.out)
      clear hNF hO2 hn2 hzt hO hb hnn hon HE HG HRL
      go_wp2
      go_ret2
      exact ⟨_, rfl, by rw [← HNN2.out]; exact own_mono HOO.out HB.out.size, HBW.out⟩
end Go.Proofs.YtdoioaeppepndaaGreatDoor
namespace Go.Proofs.YtdoioaeppepndaaGreatDoor
open Go.RowKit
open A8 W10
attribute [local go_sem] Oper.semAt_some

set_option maxRecDepth 100000 in
set_option maxHeartbeats 16000000 in
theorem rnamed_any (q : GQ) (w : World) (hq : QW w q) (As : List A8.At) (Bs : List Bool) (NL UL : List (List UInt8)) (hlB : Bs.length = As.length) (hln : As.length ≤ 100000) (hlu : UL.length ≤ 100000)
    (hA : ∀ w1, Below w.heap.size w w1 → Calls Tryz.prog 89 #[.agg q.t.row.toArray] w1 fun e w' => ∃ (gs : List GA) (A : Option Addr) (c : Nat), gs.map (fun g => g.a) = As ∧ e = .returned (.tuple #[.slice A gs.length c, .int .i64 0]) ∧ Sl w' 5 gs.length (.slice A gs.length c) (gs.flatMap gaC) ∧ Below w1.heap.size w1 w')
    (hN : ∀ w1, Below w.heap.size w w1 → Calls Tryz.prog 116 #[.agg q.t.row.toArray] w1 fun e w' => ∃ (A : Option Addr) (c : Nat), e = .returned (.tuple #[.slice A Bs.length c, .int .i64 0]) ∧ Sl w' 1 Bs.length (.slice A Bs.length c) (Bs.flatMap fun b => [.bool b]) ∧ Below w1.heap.size w1 w')
    (hM : ∀ w1, Below w.heap.size w w1 → Calls Tryz.prog 80 #[.agg q.row.toArray] w1 fun e w' => ∃ (v : Value) (bq : Bool), e = .returned (.tuple #[v, .bool bq]) ∧ w'.ownsRow w1.heap.size 9 1 v NL.length (NL.map fun s => .string (strOf s)) ∧ Below w1.heap.size w1 w')
    (hU : ∀ w1, Below w.heap.size w w1 → Calls Tryz.prog 86 #[.agg q.row.toArray] w1 fun e w' => ∃ (v : Value), e = .returned v ∧ w'.ownsRow w1.heap.size 9 1 v UL.length (UL.map fun s => .string (strOf s)) ∧ Below w1.heap.size w1 w') :
    Calls Tryz.prog 83 #[.agg q.row.toArray] w fun e w' => e = .returned (.bool ((As.zip Bs).all (fun z => !(z.2 && !z.1.nm.isEmpty)) && UL.all (fun s => NL.contains s))) ∧ Below w.heap.size w w' := by
  obtain ⟨T, wi, sh, hv, se, em⟩ := q
  have hsh := hq.hv
  have hse := hq.em
  have hone := hq.tr.one
  simp only at hsh hse hone hA hN
  obtain ⟨k, mn, mx, ⟨⟨kd, bd, bn, cs, nm⟩, sc⟩, sk, ks⟩ := T
  obtain ⟨-, ⟨-, hsc⟩, hsl⟩ := hone
  obtain ⟨C1, n1, c1, rfl⟩ := sl_form10 hsc
  obtain ⟨B1, m1, e1, rfl⟩ := sl_form10 hsl
  obtain ⟨H1, h1, ch, rfl⟩ := sl_form10 hsh
  obtain ⟨E1, g1e, ce, rfl⟩ := sl_form10 hse
  simp only [GQ.row, Tr.row, List.cons_append, List.nil_append] at hA hN hM hU ⊢
  clear hsc hsl hsh hse hq
  obtain ⟨RES, hRES⟩ : ∃ RES, RES = ((As.zip Bs).all (fun z => !(z.2 && !z.1.nm.isEmpty)) && UL.all (fun s => NL.contains s)) := ⟨_, rfl⟩
  rw [← hRES]
  have HRES := Lib.hid hRES
  clear hRES
  have HM := Lib.hid hM
  have HU := Lib.hid hU
  clear hM hU
  go_enter Tryz.func83, Tryz.ntmps83
  go_upto_region 1 with fail
  refine named_wp ?_
  intro W1 hW1
  have hX : Blk W1 w.heap.size [.int .i64 k, .int .i64 mn, .int .i64 mx, .int .i64 kd, .bool bd, .int .u64 bn, .slice C1 n1 c1, .string (strOf nm), .slice B1 m1 e1, .int .u64 wi, .slice H1 h1 ch, .slice E1 g1e ce] := by rw [hW1]; exact Blk.new w [.int .i64 k, .int .i64 mn, .int .i64 mx, .int .i64 kd, .bool bd, .int .u64 bn, .slice C1 n1 c1, .string (strOf nm), .slice B1 m1 e1, .int .u64 wi, .slice H1 h1 ch, .slice E1 g1e ce] 35
  have hb1 : Below w.heap.size w W1 := by rw [hW1]; exact b1 _ _
  clear hW1
  have x0 := hX.cell 0 _ rfl
  have x1 := hX.cell 1 _ rfl
  have x2 := hX.cell 2 _ rfl
  have x3 := hX.cell 3 _ rfl
  have x4 := hX.cell 4 _ rfl
  have x5 := hX.cell 5 _ rfl
  have x6 := hX.cell 6 _ rfl
  have x7 := hX.cell 7 _ rfl
  have x8 := hX.cell 8 _ rfl
  have xlt := hX.lt
  go_wp2_with fail
  refine (hA W1 hb1).mono ?_
  rintro r w2 ⟨gs, A, c, hgs, rfl, hs2, hb2⟩
  clear hA xlt x0 x1 x2 x3 x4 x5 x6 x7 x8
  have hX2 := hX.later hb2
  have x0 := hX2.cell 0 _ rfl
  have x1 := hX2.cell 1 _ rfl
  have x2 := hX2.cell 2 _ rfl
  have x3 := hX2.cell 3 _ rfl
  have x4 := hX2.cell 4 _ rfl
  have x5 := hX2.cell 5 _ rfl
  have x6 := hX2.cell 6 _ rfl
  have x7 := hX2.cell 7 _ rfl
  have x8 := hX2.cell 8 _ rfl
  have xlt := hX2.lt
  have hb12 := bstep hb1 hb2
  go_wp2_with fail
  refine (hN w2 hb12).mono ?_
  rintro r w3 ⟨D, d, rfl, hs3, hb3⟩
  clear hN xlt x0 x1 x2 x3 x4 x5 x6 x7 x8
  obtain ⟨A', c', hv1, -, hels⟩ := sl_els (by decide) gaC_len10 (hs2.later hb3)
  injection hv1 with q1 q2 q3
  subst q1
  subst q3
  obtain ⟨D', d', hv2, -, gels⟩ := sl_els (f := fun b : Bool => [Value.bool b]) (by decide) (fun _ => rfl) hs3
  injection hv2 with q4 q5 q6
  subst q4
  subst q6
  have hgl : gs.length = As.length := by rw [← hgs, List.length_map]
  rw [hgl]
  have HE := Lib.hid hels
  have HG := Lib.hid gels
  have HB := Lib.hid (bstep hb12 hb3)
  have HGS := Lib.hid hgs
  have HGL := Lib.hid hgl
  have HBL := Lib.hid hlB
  have HX := Lib.hid (hX2.later hb3)
  have hLl : As.length ≤ 100000 := hln
  clear hels gels hs2 hs3 hb1 hb2 hb3 hb12 hX hX2 hgs hgl q2 q5 hlB hln
  go_wp2
  go_loopg [7] As.length (fun gh iv wr => ∃ (i : Nat), i ≤ As.length ∧ gh = As.length - i ∧ iv = .int .i64 (i : Int) ∧ Hid (((As.zip Bs).take i).all (fun z => !(z.2 && !z.1.nm.isEmpty)) = true) ∧ Hid (Below w3.heap.size w3 wr))
  case atStart => exact ⟨0, Nat.zero_le _, rfl, rfl, Lib.hid rfl, Lib.hid (Below.refl _ _)⟩
  case round =>
    obtain ⟨i, hi, hg, rfl, hal, hb⟩ := hrel
    rename World => wr
    have hij : (0 : Int) ≤ (i : Int) := by omega
    by_cases hlt : i < As.length
    · have g1 : (i : Int) < (As.length : Int) := by omega
      have hwk : IntKind.i64.wrap ((i : Int) + 1) = (i : Int) + 1 := IntWalk.i64_in _ ⟨by omega, by omega⟩
      obtain ⟨a, rfl, halt, E⟩ := HE.out i (by rw [HGL.out]; exact hlt)
      have hi6 : i < Bs.length := by rw [HBL.out]; exact hlt
      have g6 : (i : Int) < (Bs.length : Int) := by omega
      obtain ⟨a6, rfl, ha6, E6⟩ := HG.out i hi6
      obtain ⟨x, hx⟩ : ∃ x, x = As[i].nm := ⟨_, rfl⟩
      have hga : (gs[i]'(by rw [HGL.out]; exact hlt)).a = As[i] := by simp only [← HGS.out, List.getElem_map]
      obtain ⟨b, hbb⟩ : ∃ b, b = Bs[i] := ⟨_, rfl⟩
      rw [← hbb] at E6
      replace E := E.later hb.out
      replace E6 := E6.later hb.out
      have c1 : wr.cell? ⟨(a.add (i * 5)).block, (a.add (i * 5)).off + 4, none⟩ = some (.string (strOf x)) := by rw [hx, ← hga]; exact E.at1 4 _ (by decide) rfl
      have c2 := E.lt
      have c6 : wr.cell? (a6.add i) = some (.bool b) := by have := E6.at0 _ rfl; rwa [Nat.mul_one] at this
      have c7 : (a6.add i).block < wr.heap.size := by have := E6.lt; rwa [Nat.mul_one] at this
      have hzi : ((As.zip Bs).take (i + 1)).all (fun z => !(z.2 && !z.1.nm.isEmpty)) = !(b && !x.isEmpty) := by rw [List.take_succ_eq_append_getElem (by rw [List.length_zip]; omega), List.all_append, hal.out, List.getElem_zip, hbb, hx]; simp
      have hbad : (!(b && !x.isEmpty)) = false → (As.zip Bs).all (fun z => !(z.2 && !z.1.nm.isEmpty)) = false := fun h => List.all_eq_false.2 ⟨(As[i], Bs[i]), List.mem_of_getElem? (i := i) (by rw [List.getElem?_eq_getElem (by rw [List.length_zip]; omega), List.getElem_zip]), by rw [← hbb, ← hx, h]; decide⟩
      have HZI := Lib.hid hzi
      have HBAD := Lib.hid hbad
      clear hzi hbad E E6 hal hbb hx hga halt ha6 hi6
      cases b with
      | false =>
        go_wp2
        go_roundg (As.length - (i + 1))
        case rel => exact ⟨i + 1, by omega, rfl, by go_num, Lib.hid (by rw [HZI.out]; rfl), hb⟩
        case measure => omega
      | true =>
        cases hxe : x.isEmpty with
        | true =>
          obtain rfl : x = [] := List.isEmpty_iff.1 hxe
          clear hxe
          have hse : strOf [] = ⟨#[]⟩ := rfl
          rw [hse] at c1
          clear hse
          go_wp2
          go_roundg (As.length - (i + 1))
          case rel => exact ⟨i + 1, by omega, rfl, by go_num, Lib.hid (by rw [HZI.out]; rfl), hb⟩
          case measure => omega
        | false =>
          have hxb0 : ¬ strOf x = strOf [] := fun h => by rw [strOf_inj10 h] at hxe; cases hxe
          have hn0 := str_nel hxb0
          obtain ⟨xb, hxb⟩ : ∃ xb, xb = strOf x := ⟨_, rfl⟩
          rw [← hxb] at hn0 c1
          have hR : RES = false := by rw [HRES.out, HBAD.out (by rw [hxe]; rfl)]; rfl
          subst hR
          have HBW := Lib.hid (bstep HB.out hb.out)
          clear hxb0 hxe hxb HRES HBAD HZI HM HU HE HG hb
          go_wp2
          go_ret
          exact ⟨rfl, HBW.out⟩
    · have g1 : ¬ (i : Int) < (As.length : Int) := by omega
      have hal2 : (As.zip Bs).all (fun z => !(z.2 && !z.1.nm.isEmpty)) = true := by have h1 : (As.zip Bs).take i = As.zip Bs := List.take_of_length_le (by rw [List.length_zip]; omega); rw [← h1]; exact hal.out
      have hres2 : RES = UL.all (fun s => NL.contains s) := by rw [HRES.out, hal2, Bool.true_and]
      have HRES2 := Lib.hid hres2
      have hb0 := bstep HB.out hb.out
      have hX := HX.out.later hb.out
      have HB0 := Lib.hid hb0
      have HX0 := Lib.hid hX
      go_upto_region 8 with fail
      clear hal hal2 hres2 hi hg hlt g1 HRES HE HG hb hb0
      have x0 := hX.cell 0 _ rfl
      have x1 := hX.cell 1 _ rfl
      have x2 := hX.cell 2 _ rfl
      have x3 := hX.cell 3 _ rfl
      have x4 := hX.cell 4 _ rfl
      have x5 := hX.cell 5 _ rfl
      have x6 := hX.cell 6 _ rfl
      have x7 := hX.cell 7 _ rfl
      have x8 := hX.cell 8 _ rfl
      have x9 := hX.cell 9 _ rfl
      have x10 := hX.cell 10 _ rfl
      have x11 := hX.cell 11 _ rfl
      have xlt := hX.lt
      clear hX
      go_wp2_with fail
      refine (HM.out wr HB0.out).mono ?_
      rintro r w4 ⟨vn, bq, rfl, hon, hb4⟩
      obtain ⟨NA, nc, rfl⟩ := own_form hon
      clear xlt x0 x1 x2 x3 x4 x5 x6 x7 x8 x9 x10 x11
      have hX4 := HX0.out.later hb4
      have x0 := hX4.cell 0 _ rfl
      have x1 := hX4.cell 1 _ rfl
      have x2 := hX4.cell 2 _ rfl
      have x3 := hX4.cell 3 _ rfl
      have x4 := hX4.cell 4 _ rfl
      have x5 := hX4.cell 5 _ rfl
      have x6 := hX4.cell 6 _ rfl
      have x7 := hX4.cell 7 _ rfl
      have x8 := hX4.cell 8 _ rfl
      have x9 := hX4.cell 9 _ rfl
      have x10 := hX4.cell 10 _ rfl
      have x11 := hX4.cell 11 _ rfl
      have xlt := hX4.lt
      have hb04 := bstep HB0.out hb4
      go_wp2_with fail
      refine (HU.out w4 hb04).mono ?_
      rintro r w5 ⟨vu, rfl, hou, hb5⟩
      obtain ⟨UA, uc, rfl⟩ := own_form hou
      clear xlt hX4 x0 x1 x2 x3 x4 x5 x6 x7 x8 x9 x10 x11
      have hmap : ∀ l : List (List UInt8), (l.map strOf).map Value.string = l.map fun s => .string (strOf s) := fun l => by rw [List.map_map]; rfl
      have hsn : Slc w5 (.slice NA NL.length nc) ((NL.map strOf).map Value.string) := by rw [hmap]; exact (Slc.of_own hon).below hb5
      have hsu : Slc w5 (.slice UA UL.length uc) ((UL.map strOf).map Value.string) := by rw [hmap]; exact Slc.of_own hou
      have HSN := Lib.hid hsn
      have HSU := Lib.hid hsu
      have HB5 := Lib.hid (bstep hb04 hb5)
      have hUl : UL.length ≤ 100000 := hlu
      clear hsn hsu hmap hon hou hb4 hb5 hb04 HM HU HX0 hlu
      go_wp2
      go_loopg [11] UL.length (fun gh iv wz => ∃ (i : Nat), i ≤ UL.length ∧ gh = UL.length - i ∧ iv = .int .i64 (i : Int) ∧ Hid ((UL.take i).all (fun s => NL.contains s) = true) ∧ wz = w5)
      case atStart => exact ⟨0, Nat.zero_le _, rfl, rfl, Lib.hid rfl, rfl⟩
      case round =>
        obtain ⟨j, hj, hgj, rfl, hal, rfl⟩ := hrel
        rename World => w5
        have hj0 : (0 : Int) ≤ (j : Int) := by omega
        by_cases hlj : j < UL.length
        · have gj : (j : Int) < (UL.length : Int) := by omega
          have hwj : IntKind.i64.wrap ((j : Int) + 1) = (j : Int) + 1 := IntWalk.i64_in _ ⟨by omega, by omega⟩
          obtain ⟨U2, uc2, huv, -, -, hcu⟩ := HSU.out
          injection huv with u1 u2 u3
          subst u1
          subst u3
          obtain ⟨a, rfl, halt, hcell⟩ := hcu j (by rw [List.length_map, List.length_map]; exact hlj)
          rw [List.getElem_map, List.getElem_map] at hcell
          clear hcu u2
          obtain ⟨s, hs⟩ : ∃ s, s = UL[j] := ⟨_, rfl⟩
          rw [← hs] at hcell
          have hat := rat_any _ NL s w5 HSN.out
          have hneg := at_neg s NL
          obtain ⟨I, hI⟩ : ∃ I, I = atF s NL 0 := ⟨_, rfl⟩
          rw [← hI] at hat hneg
          have halj : (UL.take (j + 1)).all (fun s => NL.contains s) = NL.contains s := by rw [List.take_succ_eq_append_getElem hlj, List.all_append, hal.out, ← hs]; simp
          have hbad : NL.contains s = false → UL.all (fun s => NL.contains s) = false := fun h => List.all_eq_false.2 ⟨s, by rw [hs]; exact List.getElem_mem hlj, by rw [h]; decide⟩
          have HALJ := Lib.hid halj
          have HBAD := Lib.hid hbad
          clear halj hbad hal hs hI
          by_cases hin : s ∈ NL
          · have hI0 : ¬ I < 0 := fun h => hneg.1 h hin
            have HIN := Lib.hid hin
            clear hneg hin
            go_wp2_with fail
            refine hat.mono ?_
            rintro r _ ⟨rfl, rfl⟩
            go_wp2
            go_roundg (UL.length - (j + 1))
            case rel => exact ⟨j + 1, by omega, rfl, by go_num, Lib.hid (by rw [HALJ.out]; simpa using HIN.out), rfl⟩
            case measure => omega
          · have hI0 : I < 0 := hneg.2 hin
            have hR : RES = false := by rw [HRES2.out, HBAD.out (by simpa using hin)]
            subst hR
            clear hneg hin HRES2 HBAD HALJ HSU HSN
            go_wp2_with fail
            refine hat.mono ?_
            rintro r _ ⟨rfl, rfl⟩
            go_wp2
            go_ret
            exact ⟨rfl, HB5.out⟩
        · have gj : ¬ (j : Int) < (UL.length : Int) := by omega
          have hR : RES = true := by rw [HRES2.out, ← hal.out, List.take_of_length_le (by omega)]
          subst hR
          clear hal HRES2 HSU HSN
          go_wp2
          go_ret
          exact ⟨rfl, HB5.out⟩
end Go.Proofs.YtdoioaeppepndaaGreatDoor
namespace Go.Proofs.YtdoioaeppepndaaGreatDoor
open Go.RowKit
open A8 W10
attribute [local go_sem] Oper.semAt_some

/-- The first error, of what the parts find. -/
def seqE (c f : Bool) (d : Nat) (rg st on nk : Bool) : Int :=
  if c = false then 3 else if f = true then 6 else if 6 < d then 22 else if rg = false then 2 else if st = false then 9 else if on = false then 8 else if nk = false then 12 else 0
set_option maxRecDepth 100000 in
set_option maxHeartbeats 16000000 in
theorem rcheck_seq (q : GQ) (w : World) (hq : QW w q) (c f : Bool) (d : Nat) (rg st on nk : Bool) (_hd : d ≤ 1000000)
    (hC : ∀ w1, Below w.heap.size w w1 → Calls Tryz.prog 77 #[.agg q.row.toArray] w1 fun e w' => e = .returned (.int .i64 (if c = true then 0 else 3)) ∧ Below w1.heap.size w1 w')
    (hF : c = true → ∀ w1, Below w.heap.size w w1 → Calls Tryz.prog 78 #[.agg q.row.toArray] w1 fun e w' => e = .returned (.bool f) ∧ Below w1.heap.size w1 w')
    (hD : c = true → ∀ w1, Below w.heap.size w w1 → Calls Tryz.prog 79 #[.agg q.t.row.toArray] w1 fun e w' => e = .returned (.tuple #[.int .i64 (d : Int), .int .i64 0]) ∧ Below w1.heap.size w1 w')
    (hM : c = true → ∀ w1, Below w.heap.size w w1 → Calls Tryz.prog 80 #[.agg q.row.toArray] w1 fun e w' => ∃ v : Value, e = .returned (.tuple #[v, .bool on]) ∧ Below w1.heap.size w1 w')
    (hR : c = true → ∀ w1, Below w.heap.size w w1 → Calls Tryz.prog 81 #[.agg q.row.toArray] w1 fun e w' => e = .returned (.bool rg) ∧ Below w1.heap.size w1 w')
    (hS : c = true → ∀ w1, Below w.heap.size w w1 → Calls Tryz.prog 82 #[.agg q.t.row.toArray, .bool true] w1 fun e w' => e = .returned (.bool st) ∧ Below w1.heap.size w1 w')
    (hK : c = true → ∀ w1, Below w.heap.size w w1 → Calls Tryz.prog 83 #[.agg q.row.toArray] w1 fun e w' => e = .returned (.bool nk) ∧ Below w1.heap.size w1 w') :
    Calls Tryz.prog 33 #[.agg q.row.toArray] w fun e w' => e = .returned (.int .i64 (seqE c f d rg st on nk)) ∧ Below w.heap.size w w' := by
  obtain ⟨T, wi, sh, hv, se, em⟩ := q
  have hsh := hq.hv
  have hse := hq.em
  have hone := hq.tr.one
  simp only at hsh hse hone hD hS
  obtain ⟨k, mn, mx, ⟨⟨kd, bd, bn, cs, nm⟩, sc⟩, sk, ks⟩ := T
  obtain ⟨-, ⟨-, hsc⟩, hsl⟩ := hone
  obtain ⟨C1, n1, c1, rfl⟩ := sl_form10 hsc
  obtain ⟨B1, m1, e1, rfl⟩ := sl_form10 hsl
  obtain ⟨H1, h1, ch, rfl⟩ := sl_form10 hsh
  obtain ⟨E1, g1e, ce, rfl⟩ := sl_form10 hse
  simp only [GQ.row, Tr.row, List.cons_append, List.nil_append] at hC hF hD hM hR hS hK ⊢
  clear hsc hsl hsh hse hq
  obtain ⟨RES, hRES⟩ : ∃ RES, RES = seqE c f d rg st on nk := ⟨_, rfl⟩
  rw [← hRES]
  have HRES := Lib.hid hRES
  clear hRES
  have HC := Lib.hid hC
  have HF := Lib.hid hF
  have HD := Lib.hid hD
  have HM := Lib.hid hM
  have HR := Lib.hid hR
  have HS := Lib.hid hS
  have HK := Lib.hid hK
  clear hC hF hD hM hR hS hK
  go_enter Tryz.func33, Tryz.ntmps33
  go_upto_region 1 with fail
  refine named_wp ?_
  intro W1 hW1
  have hX : Blk W1 w.heap.size [.int .i64 k, .int .i64 mn, .int .i64 mx, .int .i64 kd, .bool bd, .int .u64 bn, .slice C1 n1 c1, .string (strOf nm), .slice B1 m1 e1, .int .u64 wi, .slice H1 h1 ch, .slice E1 g1e ce] := by rw [hW1]; exact Blk.new w [.int .i64 k, .int .i64 mn, .int .i64 mx, .int .i64 kd, .bool bd, .int .u64 bn, .slice C1 n1 c1, .string (strOf nm), .slice B1 m1 e1, .int .u64 wi, .slice H1 h1 ch, .slice E1 g1e ce] 35
  have hb1 : Below w.heap.size w W1 := by rw [hW1]; exact b1 _ _
  clear hW1
  have HX := Lib.hid hX
  have HB1 := Lib.hid hb1
  clear hX hb1
  have hx := HX.out
  have x0 := hx.cell 0 _ rfl
  have x1 := hx.cell 1 _ rfl
  have x2 := hx.cell 2 _ rfl
  have x3 := hx.cell 3 _ rfl
  have x4 := hx.cell 4 _ rfl
  have x5 := hx.cell 5 _ rfl
  have x6 := hx.cell 6 _ rfl
  have x7 := hx.cell 7 _ rfl
  have x8 := hx.cell 8 _ rfl
  have x9 := hx.cell 9 _ rfl
  have x10 := hx.cell 10 _ rfl
  have x11 := hx.cell 11 _ rfl
  have xlt := hx.lt
  clear hx
  go_wp2_with fail
  refine (HC.out W1 HB1.out).mono ?_
  rintro r u2 ⟨rfl, hu2⟩
  clear xlt x0 x1 x2 x3 x4 x5 x6 x7 x8 x9 x10 x11
  cases c with
  | false =>
    have hV : RES = 3 := by rw [HRES.out]; simp [seqE]
    subst hV
    clear HRES
    go_wp2
    go_ret
    exact ⟨rfl, bstep HB1.out hu2⟩
  | true =>
    have hx := HX.out.later hu2
    have x0 := hx.cell 0 _ rfl
    have x1 := hx.cell 1 _ rfl
    have x2 := hx.cell 2 _ rfl
    have x3 := hx.cell 3 _ rfl
    have x4 := hx.cell 4 _ rfl
    have x5 := hx.cell 5 _ rfl
    have x6 := hx.cell 6 _ rfl
    have x7 := hx.cell 7 _ rfl
    have x8 := hx.cell 8 _ rfl
    have x9 := hx.cell 9 _ rfl
    have x10 := hx.cell 10 _ rfl
    have x11 := hx.cell 11 _ rfl
    have xlt := hx.lt
    clear hx
    go_wp2_with fail
    refine (HF.out (by first | trivial | rfl) u2 (bstep HB1.out hu2)).mono ?_
    rintro r u3 ⟨rfl, hu3⟩
    clear xlt x0 x1 x2 x3 x4 x5 x6 x7 x8 x9 x10 x11
    cases f with
    | true =>
      have hV : RES = 6 := by rw [HRES.out]; simp [seqE]
      subst hV
      clear HRES
      go_wp2
      go_ret
      exact ⟨rfl, bstep HB1.out (bstep hu2 hu3)⟩
    | false =>
      have hx := HX.out.later (bstep hu2 hu3)
      have x0 := hx.cell 0 _ rfl
      have x1 := hx.cell 1 _ rfl
      have x2 := hx.cell 2 _ rfl
      have x3 := hx.cell 3 _ rfl
      have x4 := hx.cell 4 _ rfl
      have x5 := hx.cell 5 _ rfl
      have x6 := hx.cell 6 _ rfl
      have x7 := hx.cell 7 _ rfl
      have x8 := hx.cell 8 _ rfl
      have xlt := hx.lt
      clear hx
      go_wp2_with fail
      refine (HD.out (by first | trivial | rfl) u3 (bstep HB1.out (bstep hu2 hu3))).mono ?_
      rintro r u4 ⟨rfl, hu4⟩
      clear xlt x0 x1 x2 x3 x4 x5 x6 x7 x8
      have hx := HX.out.later (bstep (bstep hu2 hu3) hu4)
      have x0 := hx.cell 0 _ rfl
      have x1 := hx.cell 1 _ rfl
      have x2 := hx.cell 2 _ rfl
      have x3 := hx.cell 3 _ rfl
      have x4 := hx.cell 4 _ rfl
      have x5 := hx.cell 5 _ rfl
      have x6 := hx.cell 6 _ rfl
      have x7 := hx.cell 7 _ rfl
      have x8 := hx.cell 8 _ rfl
      have x9 := hx.cell 9 _ rfl
      have x10 := hx.cell 10 _ rfl
      have x11 := hx.cell 11 _ rfl
      have xlt := hx.lt
      clear hx
      go_wp2_with fail
      refine (HM.out (by first | trivial | rfl) u4 (bstep HB1.out (bstep (bstep hu2 hu3) hu4))).mono ?_
      rintro r u5 ⟨vn, rfl, hu5⟩
      clear xlt x0 x1 x2 x3 x4 x5 x6 x7 x8 x9 x10 x11
      by_cases h6 : 6 < d
      · have h6i : (6 : Int) < (d : Int) := by omega
        have hV : RES = 22 := by rw [HRES.out]; simp [seqE, h6]
        subst hV
        clear HRES
        go_wp2
        go_ret
        exact ⟨rfl, bstep HB1.out (bstep (bstep (bstep hu2 hu3) hu4) hu5)⟩
      · have h6i : ¬ (6 : Int) < (d : Int) := by omega
        have H6 := Lib.hid h6
        clear h6
        have hx := HX.out.later (bstep (bstep (bstep hu2 hu3) hu4) hu5)
        have x0 := hx.cell 0 _ rfl
        have x1 := hx.cell 1 _ rfl
        have x2 := hx.cell 2 _ rfl
        have x3 := hx.cell 3 _ rfl
        have x4 := hx.cell 4 _ rfl
        have x5 := hx.cell 5 _ rfl
        have x6 := hx.cell 6 _ rfl
        have x7 := hx.cell 7 _ rfl
        have x8 := hx.cell 8 _ rfl
        have x9 := hx.cell 9 _ rfl
        have x10 := hx.cell 10 _ rfl
        have x11 := hx.cell 11 _ rfl
        have xlt := hx.lt
        clear hx
        go_wp2_with fail
        refine (HR.out (by first | trivial | rfl) u5 (bstep HB1.out (bstep (bstep (bstep hu2 hu3) hu4) hu5))).mono ?_
        rintro r u6 ⟨rfl, hu6⟩
        clear xlt x0 x1 x2 x3 x4 x5 x6 x7 x8 x9 x10 x11
        cases rg with
        | false =>
          have hV : RES = 2 := by rw [HRES.out]; simp [seqE, H6.out]
          subst hV
          clear HRES
          go_wp2
          go_ret
          exact ⟨rfl, bstep HB1.out (bstep (bstep (bstep (bstep hu2 hu3) hu4) hu5) hu6)⟩
        | true =>
          have hx := HX.out.later (bstep (bstep (bstep (bstep hu2 hu3) hu4) hu5) hu6)
          have x0 := hx.cell 0 _ rfl
          have x1 := hx.cell 1 _ rfl
          have x2 := hx.cell 2 _ rfl
          have x3 := hx.cell 3 _ rfl
          have x4 := hx.cell 4 _ rfl
          have x5 := hx.cell 5 _ rfl
          have x6 := hx.cell 6 _ rfl
          have x7 := hx.cell 7 _ rfl
          have x8 := hx.cell 8 _ rfl
          have xlt := hx.lt
          clear hx
          go_wp2_with fail
          refine (HS.out (by first | trivial | rfl) u6 (bstep HB1.out (bstep (bstep (bstep (bstep hu2 hu3) hu4) hu5) hu6))).mono ?_
          rintro r u7 ⟨rfl, hu7⟩
          clear xlt x0 x1 x2 x3 x4 x5 x6 x7 x8
          cases st with
          | false =>
            have hV : RES = 9 := by rw [HRES.out]; simp [seqE, H6.out]
            subst hV
            clear HRES
            go_wp2
            go_ret
            exact ⟨rfl, bstep HB1.out (bstep (bstep (bstep (bstep (bstep hu2 hu3) hu4) hu5) hu6) hu7)⟩
          | true =>
            cases on with
            | false =>
              have hV : RES = 8 := by rw [HRES.out]; simp [seqE, H6.out]
              subst hV
              clear HRES
              go_wp2
              go_ret
              exact ⟨rfl, bstep HB1.out (bstep (bstep (bstep (bstep (bstep hu2 hu3) hu4) hu5) hu6) hu7)⟩
            | true =>
              have hx := HX.out.later (bstep (bstep (bstep (bstep (bstep hu2 hu3) hu4) hu5) hu6) hu7)
              have x0 := hx.cell 0 _ rfl
              have x1 := hx.cell 1 _ rfl
              have x2 := hx.cell 2 _ rfl
              have x3 := hx.cell 3 _ rfl
              have x4 := hx.cell 4 _ rfl
              have x5 := hx.cell 5 _ rfl
              have x6 := hx.cell 6 _ rfl
              have x7 := hx.cell 7 _ rfl
              have x8 := hx.cell 8 _ rfl
              have x9 := hx.cell 9 _ rfl
              have x10 := hx.cell 10 _ rfl
              have x11 := hx.cell 11 _ rfl
              have xlt := hx.lt
              clear hx
              go_wp2_with fail
              refine (HK.out (by first | trivial | rfl) u7 (bstep HB1.out (bstep (bstep (bstep (bstep (bstep hu2 hu3) hu4) hu5) hu6) hu7))).mono ?_
              rintro r u8 ⟨rfl, hu8⟩
              clear xlt x0 x1 x2 x3 x4 x5 x6 x7 x8 x9 x10 x11
              cases nk with
              | false =>
                have hV : RES = 12 := by rw [HRES.out]; simp [seqE, H6.out]
                subst hV
                clear HRES
                go_wp2
                go_ret
                exact ⟨rfl, bstep HB1.out (bstep (bstep (bstep (bstep (bstep (bstep hu2 hu3) hu4) hu5) hu6) hu7) hu8)⟩
              | true =>
                have hV : RES = 0 := by rw [HRES.out]; simp [seqE, H6.out]
                subst hV
                clear HRES
                go_wp2
                go_ret
                exact ⟨rfl, bstep HB1.out (bstep (bstep (bstep (bstep (bstep (bstep hu2 hu3) hu4) hu5) hu6) hu7) hu8)⟩
end Go.Proofs.YtdoioaeppepndaaGreatDoor
