/- Walk: what the iterator over the names that are used owes a range over it. -/
import Derived.Test.YtdoioaeppepndaaGreatDoorWfC
import Derived.Test.YtdoioaeppepndaaGreatDoorAstThr
namespace Go.Proofs.YtdoioaeppepndaaGreatDoor
open Go.RowKit Go.Shelf
open A8 W10
attribute [local go_sem] Oper.semAt_some

theorem El.same' {w w' : World} {p : Addr} {us : List Value} {m : Nat} (h : El w p us) (hb : SameB m w w') (hm : w.heap.size ≤ m) : El w' p us :=
  h.same ⟨hb.1, fun k hk => hb.2 k (by omega)⟩
theorem useH_snoc (hv : List Hv) (i : Nat) (h : i < hv.length) : (hv.take (i + 1)).map (fun h => h.ag.nm) = (hv.take i).map (fun h => h.ag.nm) ++ [hv[i].ag.nm] := by rw [take_snoc hv i h, List.map_append]; rfl
theorem useE_snoc (em : List Ag) (i : Nat) (h : i < em.length) : (em.take (i + 1)).map (fun h => h.nm) = (em.take i).map (fun h => h.nm) ++ [em[i].nm] := by rw [take_snoc em i h, List.map_append]; rfl
theorem take_pre {α β : Type} (f : α → β) (l : List α) (i : Nat) : (l.take i).map f <+: l.map f := by
  rw [List.map_take]
  exact List.take_prefix _ _
theorem wuses_any (q : GQ) (w : World) (ho : ∃ (Ac Ak Ah Ae : Option Addr) (cc ck ch ce nc nk nh ne : Nat) (g : GA) (k mn mx : Int) (ks : List Tr), g.sc = .slice Ac nc cc ∧ q.t = .mk k mn mx g (.slice Ak nk ck) ks ∧ q.sh = .slice Ah nh ch ∧ q.se = .slice Ae ne ce) :
    Calls Tryz.prog 85 #[.agg q.row.toArray] w fun e w' => e = .returned (.func (.func 119) #[] #[.pointer (some ⟨w.heap.size, 0, none⟩)]) ∧ w' = w.alloc (.cells q.row.toArray 35) := by
  obtain ⟨Ac, Ak, Ah, Ae, cc, ck, ch, ce, nc, nk, nh, ne, ⟨a, sc⟩, k, mn, mx, ks, h1, h2, h3, h4⟩ := ho
  obtain ⟨T, wi, sh, hv, se, em⟩ := q
  simp only at h1 h2 h3 h4
  subst h1 h2 h3 h4
  simp only [GQ.row, Tr.row, List.cons_append, List.nil_append]
  go_enter Tryz.func85, Tryz.ntmps85
  go_wp2
  go_ret
  exact ⟨rfl, rfl⟩
set_option maxRecDepth 100000 in
set_option maxHeartbeats 8000000 in
theorem wuses_seq (w0 : World) (q : GQ) (hq : QW w0 q) (b : Nat) (w : World) (hS : SameB w0.heap.size w0 w) (hB : Bx w b 35 q.row) :
    SeqO Tryz.prog 119 #[.pointer (some ⟨b, 0, none⟩)] (fun s : List UInt8 => #[.string (strOf s)]) KT 3 w0.heap.size (useL q.qu) w := by
  intro n l J Jx W hW hJ hJx hY h0
  have hSW := hS.trans (SameB.of (hW.mono hS.1))
  have hm0 := hSW.1
  replace hB := hB.later hW
  obtain ⟨hT, -, hh, he, -, -⟩ := hq
  obtain ⟨T, wi, sh, hv, se, em⟩ := q
  simp only at hT hh he
  obtain ⟨A, cap, rfl, hlen, hels⟩ := sl_els (by decide) hvC_len hh
  obtain ⟨A2, cap2, rfl, hlen2, hels2⟩ := sl_els (by decide) agC_len he
  have hu : useL (GQ.qu ⟨T, wi, .slice A hv.length cap, hv, .slice A2 em.length cap2, em⟩) = hv.map (fun h => h.ag.nm) ++ em.map (fun a => a.nm) := rfl
  rw [hu] at hY ⊢
  clear hu hh he hT
  obtain ⟨k, mn, mx, ⟨⟨kd, bd, bn, cs, nm⟩, sc⟩, sk, ks⟩ := T
  simp only [GQ.row, Tr.row, List.cons_append, List.nil_append] at hB
  have c10 := hB.blk.cell 10 _ rfl
  have HE := Lib.hid hels
  have HE2 := Lib.hid hels2
  have HB := Lib.hid hB
  have HY := Lib.hid hY
  have H0 := Lib.hid h0
  have hbl := hB.lt
  clear hels hels2 hB hY h0 hS
  refine callsIn_of_wp Tryz.func119 rfl trivial ?_ rfl
  simp only [Tryz.ntmps119, List.size_toArray, List.length_cons, List.length_nil, Nat.reduceAdd, Nat.reduceSub, Array.replicate_succ, Array.replicate_zero, List.push_toArray, List.append_toArray, List.nil_append, List.cons_append]
  gi_wp2
  gi_loopw [10] (fun v wr => ∃ i : Nat, i ≤ hv.length ∧ v = .int .i64 (i : Int) ∧ KeepW KT 3 w0.heap.size W.heap.size W wr ∧ J ((hv.take i).map fun h => h.ag.nm) wr) (fun v _ => hv.length - (intOf v).toNat)
  case atStart => exact ⟨0, Nat.zero_le _, rfl, KeepW.refl _ _, H0.out⟩
  case round =>
    obtain ⟨i, hi, rfl, hk, hJi⟩ := hrel
    by_cases hlt : i < hv.length
    · obtain ⟨a, rfl, ha, E⟩ := HE.out i hlt
      have hSr := sameb_keep hSW hk
      replace E := E.same hSr
      have h1 : (i : Int) < (hv.length : Int) := by omega
      have hwk : IntKind.i64.wrap ((i : Int) + 1) = (i : Int) + 1 := IntWalk.i64_in _ ⟨by omega, by omega⟩
      have hwr := hk.size
      have hyy := fun (W5 : World) (hb : Below wr.heap.size wr W5) => HY.out (n - 1) ((hv.take i).map fun h => h.ag.nm) hv[i].ag.nm W5 (hJ _ _ _ hJi (Turn.of hb)) (by rw [← useH_snoc hv i hlt]; exact (take_pre _ _ _).trans (List.prefix_append _ _)) (by have := hb.size; omega)
      have hsn := useH_snoc hv i hlt
      obtain ⟨ys, hys⟩ : ∃ ys, ys = (hv.take i).map (fun h => h.ag.nm) ++ [hv[i].ag.nm] := ⟨_, rfl⟩
      rw [← hys] at hyy hsn
      obtain ⟨h, hh⟩ : ∃ h, h = hv[i] := ⟨_, rfl⟩
      rw [← hh] at E hyy
      clear hys hh
      obtain ⟨⟨fn, nmv⟩, op, va⟩ := h
      have e0 := E.at0 _ rfl
      have e1 := E.at1 1 _ (by decide) rfl
      have e2 := E.at1 2 _ (by decide) rfl
      have e3 := E.at1 3 _ (by decide) rfl
      have HK := Lib.hid hk
      have HS := Lib.hid hsn
      have HYY := Lib.hid hyy
      clear E hk hJi hsn hyy c10
      obtain ⟨fy, ty, ay, by_, hy, hR⟩ := HYY.out (wr.alloc (.cells #[.int .i64 fn, .string (strOf nmv), .int .i64 op, .int .i64 va] 96)) (b1 _ _)
      gi_wp2
      refine ⟨(fun h => by cases h), ?_⟩
      refine hR.mono ?_
      clear hR hy e0 e1 e2 e3
      rintro e W5 ⟨hkf, (⟨rfl, hJ5, hk5⟩ | ⟨rfl, hJx5⟩)⟩
      · gi_wp2
        go_roundw
        case rel => exact ⟨i + 1, by omega, by rfl, HK.out.trans ((KeepW.of (b1 _ _)).trans hk5), by rw [HS.out]; exact hJ5⟩
        case measure => simp [intOf]; omega
      · gi_wp2
        refine bodyPost_ret (results_none rfl _ _ _) rfl ?_
        refine ⟨⟨_, rfl⟩, .inr ⟨ys, ?_, hJx5⟩⟩
        rw [← HS.out]
        exact (take_pre _ _ _).trans (List.prefix_append _ _)
    · have h1 : ¬ (i : Int) < (hv.length : Int) := by omega
      have hall : hv.take i = hv := by rw [List.take_of_length_le (by omega)]
      rw [hall] at hJi
      have c11 := (bx_keep HB.out hk (by decide)).blk.cell 11 _ rfl
      clear HE hall c10
      gi_wp2
      gi_loopw [24] (fun v w2 => ∃ j : Nat, j ≤ em.length ∧ v = .int .i64 (j : Int) ∧ KeepW KT 3 w0.heap.size W.heap.size W w2 ∧ J (hv.map (fun h => h.ag.nm) ++ (em.take j).map fun h => h.nm) w2) (fun v _ => em.length - (intOf v).toNat)
      case atStart => exact ⟨0, Nat.zero_le _, rfl, hk, by simpa using hJi⟩
      case round =>
        clear hJi hk c11
        obtain ⟨j, hj, rfl, hk, hJj⟩ := hrel
        by_cases hlt : j < em.length
        · obtain ⟨a, rfl, ha, E⟩ := HE2.out j hlt
          have hSr := sameb_keep hSW hk
          replace E := E.same hSr
          have h1 : (j : Int) < (em.length : Int) := by omega
          have hwk : IntKind.i64.wrap ((j : Int) + 1) = (j : Int) + 1 := IntWalk.i64_in _ ⟨by omega, by omega⟩
          have hwr := hk.size
          have hsn : (hv.map (fun h => h.ag.nm) ++ (em.take (j + 1)).map fun h => h.nm) = (hv.map (fun h => h.ag.nm) ++ (em.take j).map fun h => h.nm) ++ [em[j].nm] := by rw [useE_snoc em j hlt, List.append_assoc]
          have hpr : (hv.map (fun h => h.ag.nm) ++ (em.take (j + 1)).map fun h => h.nm) <+: hv.map (fun h => h.ag.nm) ++ em.map fun h => h.nm := (List.prefix_append_right_inj _).2 (take_pre _ _ _)
          have hyy := fun (W5 : World) (hb : Below wr.heap.size wr W5) => HY.out (n - 1) (hv.map (fun h => h.ag.nm) ++ (em.take j).map fun h => h.nm) em[j].nm W5 (hJ _ _ _ hJj (Turn.of hb)) (by rw [← hsn]; exact hpr) (by have := hb.size; omega)
          obtain ⟨ys, hys⟩ : ∃ ys, ys = (hv.map (fun h => h.ag.nm) ++ (em.take j).map fun h => h.nm) ++ [em[j].nm] := ⟨_, rfl⟩
          rw [← hys] at hyy hsn
          obtain ⟨h, hh⟩ : ∃ h, h = em[j] := ⟨_, rfl⟩
          rw [← hh] at E hyy
          clear hys hh
          obtain ⟨fn, nmv⟩ := h
          have e0 := E.at0 _ rfl
          have e1 := E.at1 1 _ (by decide) rfl
          have HK := Lib.hid hk
          have HS := Lib.hid hsn
          have HP := Lib.hid hpr
          have HYY := Lib.hid hyy
          clear E hk hJj hsn hyy hpr
          obtain ⟨fy, ty, ay, by_, hy, hR⟩ := HYY.out (wr.alloc (.cells #[.int .i64 fn, .string (strOf nmv)] 92)) (b1 _ _)
          gi_wp2
          refine ⟨(fun h => by cases h), ?_⟩
          refine hR.mono ?_
          clear hR hy e0 e1
          rintro e W5 ⟨hkf, (⟨rfl, hJ5, hk5⟩ | ⟨rfl, hJx5⟩)⟩
          · gi_wp2
            go_roundw
            case rel => exact ⟨j + 1, by omega, by rfl, HK.out.trans ((KeepW.of (b1 _ _)).trans hk5), by rw [HS.out]; exact hJ5⟩
            case measure => simp [intOf]; omega
          · gi_wp2
            refine bodyPost_ret (results_none rfl _ _ _) rfl ?_
            exact ⟨⟨_, rfl⟩, .inr ⟨ys, HS.out ▸ HP.out, hJx5⟩⟩
        · have h1 : ¬ (j : Int) < (em.length : Int) := by omega
          have hall : em.take j = em := by rw [List.take_of_length_le (by omega)]
          rw [hall] at hJj
          have HJ := Lib.hid hJj
          clear HE2 hall hJj
          gi_wp2
          go_end0
          exact ⟨⟨_, rfl⟩, .inl HJ.out⟩
end Go.Proofs.YtdoioaeppepndaaGreatDoor
