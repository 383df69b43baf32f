/- Walk: the document's own closure of a family. -/
import Derived.Test.YtlembnpplnbagaaLatG
import Derived.Test.YtlembnpplnbagaaHeld
import Derived.Deep.RegionHeld3
namespace Go.Proofs.Ytlembnpplnbagaa.Lt
open Go.RowKit

def clStep (out : List Nat) (x : Nat) : List Nat := out.foldl (fun o b => ins o (b ||| x)) (ins out x)
def clGo : List Nat → List Nat → Option (List Nat)
  | out, [] => some out
  | out, x :: l => if 256 < (clStep out x).length then none else clGo (clStep out x) l
def closureR (l : List Nat) : List Nat × Int := if 64 < l.length then ([], 6) else match clGo [] l with | none => ([], 6) | some o => (o, 0)
theorem ins_len (l : List Nat) (x : Nat) : (ins l x).length ≤ l.length + 1 := by
  induction l with
  | nil => exact Nat.le_refl _
  | cons y l ih =>
    unfold ins
    split
    · simpa using ih
    · split
      · simp
      · simp
theorem ins_u64 {l : List Nat} {x : Nat} (h : U64 l) (hx : x < 18446744073709551616) : U64 (ins l x) := by
  induction l with
  | nil => intro z hz; obtain rfl := List.mem_singleton.1 hz; exact hx
  | cons y l ih =>
    have ih2 := ih (fun z hz => h z (by simp [hz]))
    unfold ins
    split
    · intro z hz
      rcases List.mem_cons.1 hz with e | e
      · rw [e]; exact h y (by simp)
      · exact ih2 z e
    · split
      · exact h
      · intro z hz
        rcases List.mem_cons.1 hz with e | e
        · rw [e]; exact hx
        · exact h z e
theorem slc_of_slk {w : World} {v : Value} {us : List Value} (h : Slk w v us) : Slc w v us := by
  rcases h with ⟨rfl, rfl⟩ | ⟨b, o, cap, rfl, h1, h2, h3, h4⟩
  · exact Slc.nil w
  · refine ⟨some ⟨b, o, none⟩, cap, rfl, h2, (fun h => by cases h), fun i hi => ⟨_, rfl, h3, ?_⟩⟩
    rw [plain_add]
    exact h4 i _ (List.getElem?_eq_getElem hi)
theorem Slk_later {w w' : World} {v : Value} {us : List Value} (h : Slk w v us) (hb : Below w.heap.size w w') : Slk w' v us := by
  rcases h with h | h
  · exact .inl h
  · exact .inr (h.later hb)
theorem Slk_drew (w : World) (v : Value) (us : List Value) : Slk w.drew v us = Slk w v us := rfl
theorem heldP {P : Program} {f : FuncId} {args : Array Value} {us : List Value} {W wx : World} {a0 a1 : Addr} {c0 c1 v : Value} {vs : List Value} (hc : ∀ w, Slk w v vs → Calls P f args w fun e w' => ∃ v', e = .returned v' ∧ Slk w' v' us ∧ Below w.heap.size w w')
    (h0 : wx.cell? a0 = some c0) (h1 : wx.cell? a1 = some c1) (hs : Slk wx v vs) (hb : Below W.heap.size W wx) :
    Calls P f args wx fun e w' => ∃ v', e = .returned v' ∧ Slk w' v' us ∧ w'.cell? a0 = some c0 ∧ w'.cell? a1 = some c1 ∧ Slk w' v vs ∧ Below W.heap.size W w' :=
  (hc wx hs).mono fun _ w' ⟨v', he, h2, hh⟩ =>
    have hl : ∀ {p : Addr} {v : Value}, wx.cell? p = some v → w'.cell? p = some v := fun {_ _} h => (hh.cell (World.block_lt_of_cell? wx _ h)).trans h
    ⟨v', he, h2, hl h0, hl h1, Slk_later hs hh, bstep hb hh⟩
attribute [local go_sem] Slk_drew below_drew_eq
attribute [local simp] Slk_drew below_drew_eq
def Out3 (w : World) (us : List Value) (c : Int) (e : Ending) (w' : World) : Prop := ∃ v, e = .returned (.tuple #[v, .int .i64 c]) ∧ Slk w' v us ∧ Below w.heap.size w w'
theorem Out3.of {w : World} {us : List Value} {c : Int} {e : Ending} {w' : World} (v : Value) (h1 : e = .returned (.tuple #[v, .int .i64 c])) (h2 : Slk w' v us) (h3 : Below w.heap.size w w') : Out3 w us c e w' := ⟨v, h1, h2, h3⟩
set_option maxRecDepth 100000 in
set_option maxHeartbeats 8000000 in
theorem refClosure_any {w : World} {v : Value} {l : List Nat} (h : Slc w v (lv l)) (hu : U64 l) :
    Calls Try.prog 16 #[v] w (Out3 w (lv (closureR l).1) (closureR l).2) := by
  obtain ⟨R, hR⟩ : ∃ R, R = closureR l := ⟨_, rfl⟩
  rw [← hR]
  unfold closureR at hR
  by_cases hl : 64 < l.length
  · rw [if_pos hl] at hR
    subst hR
    have hF := family_is h (c := 6) (by unfold famE; rw [if_pos hl])
    obtain ⟨A, cap, rfl, hm, hc⟩ := nats h
    clear h hc hl
    go_enter Try.func16, Try.ntmps16
    go_wp2_with fail
    refine hF.mono ?_
    rintro e w' ⟨rfl, rfl⟩
    go_wp2
    go_returns
    exact Out3.of _ rfl (.inl ⟨rfl, rfl⟩) (Below.refl _ _)
  · rw [if_neg hl] at hR
    have HR := Lib.hid hR
    clear hR
    have hF := family_is h (c := 0) (by unfold famE; rw [if_neg hl])
    obtain ⟨A, cap, rfl, hm, hc⟩ := nats h
    have HC := Lib.hid hc
    clear h hl hc
    obtain ⟨G, hG⟩ : ∃ G, G = clGo [] l := ⟨_, rfl⟩
    have HG := Lib.hid hG
    clear hG
    go_enter Try.func16, Try.ntmps16
    go_wp2_with fail
    refine hF.mono ?_
    rintro e w' ⟨rfl, rfl⟩
    go_wp2
    go_loopw [5, 6] (fun v i wr => ∃ (p : Nat) (o : List Nat), p ≤ l.length ∧ i = .int .i64 (p : Int) ∧ Slk wr v (lv o) ∧ U64 o ∧ o.length ≤ 256 ∧ Below w.heap.size w wr ∧ G = clGo o (l.drop p)) (fun _ i _ => l.length - (intOf i).toNat)
    case atStart => exact ⟨0, [], Nat.zero_le _, rfl, .inl ⟨rfl, rfl⟩, (fun _ h => by cases h), by decide, Below.refl _ _, HG.out⟩
    case round =>
      obtain ⟨p, o, hp, rfl, hs, huo, hol, hB, hg⟩ := hrel
      have HGo := Lib.hid hg
      clear hg
      by_cases hlt : p < l.length
      · obtain ⟨a, rfl, hab, hcp⟩ := HC.out p hlt
        obtain ⟨x, hx⟩ : ∃ x, x = l[p] := ⟨_, rfl⟩
        have hxl : x < 18446744073709551616 := by rw [hx]; exact hu _ (List.getElem_mem hlt)
        rw [← hx] at hcp
        have HD := Lib.hid (show l.drop p = x :: l.drop (p + 1) by rw [hx]; exact List.drop_eq_getElem_cons hlt)
        clear hx
        have hcp2 : wr.cell? (a.add p) = some (.int .u64 (x : Int)) := (hB.cell (p := a.add p) (by rw [add_block]; exact hab)).trans hcp
        have hp0 : (0 : Int) ≤ (p : Int) := by omega
        have hp1 : (p : Int) < (l.length : Int) := by omega
        obtain ⟨A', cap', rfl, hm', hc'⟩ := nats (slc_of_slk hs)
        have HC' := Lib.hid hc'
        have hPut := refPut_any x hs hxl (by omega)
        clear hcp hc'
        obtain ⟨W0, hW0⟩ : ∃ W, W = wr := ⟨_, rfl⟩
        subst hW0
        go_wp2_with fail
        refine hPut.mono ?_
        rintro e w1 ⟨v1, rfl, hs1, hb1⟩
        have hB1 := bstep hB hb1
        have hcp3 : w1.cell? (a.add p) = some (.int .u64 (x : Int)) := (hb1.cell (World.block_lt_of_cell? _ _ hcp2)).trans hcp2
        have HS := Lib.hid hs
        have HB1 := Lib.hid hb1
        clear hPut hcp2 hs hB hb1
        go_wp2
        go_loopw [5, 8] (fun v k wr => ∃ (q : Nat) (O : List Nat), q ≤ o.length ∧ k = .int .i64 (q : Int) ∧ Slk wr v (lv O) ∧ U64 O ∧ O.length ≤ 257 + q ∧ Below w1.heap.size w1 wr ∧ O = (o.take q).foldl (fun o b => ins o (b ||| x)) (ins o x)) (fun _ k _ => o.length - (intOf k).toNat)
        case atStart => exact ⟨0, _, Nat.zero_le _, rfl, hs1, ins_u64 huo hxl, by have := ins_len o x; omega, Below.refl _ _, rfl⟩
        case round =>
          obtain ⟨q, O, hq, rfl, hsO, huO, hlO, hBO, hO⟩ := hrel
          have HO := Lib.hid hO
          clear hO
          by_cases hqt : q < o.length
          · obtain ⟨a', rfl, hab', hcq⟩ := HC'.out q hqt
            obtain ⟨y, hy⟩ : ∃ y, y = o[q] := ⟨_, rfl⟩
            have hyl : y < 18446744073709551616 := by rw [hy]; exact huo _ (List.getElem_mem hqt)
            rw [← hy] at hcq
            have hcq2 : wr.cell? (a'.add q) = some (.int .u64 (y : Int)) := (hBO.cell (World.block_lt_of_cell? _ _ ((HB1.out.cell (World.block_lt_of_cell? _ _ hcq)).trans hcq))).trans ((HB1.out.cell (World.block_lt_of_cell? _ _ hcq)).trans hcq)
            have hcp4 : wr.cell? (a.add p) = some (.int .u64 (x : Int)) := (hBO.cell (World.block_lt_of_cell? _ _ hcp3)).trans hcp3
            have hor := u64_or_nat y x hyl hxl
            have hyx := or_lt hyl hxl
            have HN := Lib.hid (show ins O (y ||| x) = (o.take (q + 1)).foldl (fun o b => ins o (b ||| x)) (ins o x) by rw [take_snoc o q hqt, List.foldl_append, ← HO.out, ← hy]; rfl)
            have hlN := ins_len O (y ||| x)
            have huN := ins_u64 huO hyx
            have hq0 : (0 : Int) ≤ (q : Int) := by omega
            have hq1 : (q : Int) < (o.length : Int) := by omega
            obtain ⟨z, hz⟩ : ∃ z, z = y ||| x := ⟨_, rfl⟩
            rw [← hz] at hor HN hlN huN hyx
            have hPut := fun W (hS : Slk W u5 (lv O)) => refPut_any z hS hyx (by omega)
            have hbr := Below.refl wr.heap.size wr
            clear hcq hz hyx hyl hy
            go_wp2_with fail
            go_region_held3 (fun w' => w'.cell? (a'.add q) = some (.int .u64 (y : Int)) ∧ w'.cell? (a.add p) = some (.int .u64 (x : Int)) ∧ Slk w' u5 (lv O) ∧ Below wr.heap.size wr w') (go_keep)
              ((go_at_call 28; with_reducible refine (heldP (W := wr) (a0 := a'.add q) (a1 := a.add p) (c0 := .int .u64 (y : Int)) (c1 := .int .u64 (x : Int)) (v := u5) (vs := lv O) hPut ?_ ?_ ?_ ?_).mono ?_; (simp [*]); (simp [*]); (simp [*]); (simp [*]); rintro e w9 ⟨v9, rfl, g0, g1, g2, g3, g4⟩))
            go_wp2
            go_roundw
            case rel => exact ⟨q + 1, _, by omega, by go_num, g0, huN, by omega, bstep hBO g4, HN.out⟩
            case measure => simp [intOf]; omega
          · obtain rfl : q = o.length := by omega
            have hOs : O = clStep o x := by rw [HO.out, List.take_length]; rfl
            obtain ⟨A5, cap5, hv5, hm5, _⟩ := nats (slc_of_slk hsO)
            subst hv5
            have hBf := bstep hB1 hBO
            by_cases hbig : 256 < O.length
            · have c1 : (256 : Int) < (O.length : Int) := by omega
              have hGn : G = none := by
                rw [HGo.out, HD.out]
                show (if 256 < (clStep o x).length then none else clGo (clStep o x) (l.drop (p + 1))) = none
                rw [if_pos (by rw [← hOs]; exact hbig)]
              have hRv := Lib.hid (show R = ([], 6) by rw [HR.out, ← HG.out, hGn])
              clear hGn hOs hbig
              go_wp2
              go_returns
              rw [hRv.out]
              exact Out3.of _ rfl (.inl ⟨rfl, rfl⟩) hBf
            · have c1 : ¬ (256 : Int) < (O.length : Int) := by omega
              have hGn := Lib.hid (show G = clGo O (l.drop (p + 1)) by
                rw [HGo.out, HD.out]
                show (if 256 < (clStep o x).length then none else clGo (clStep o x) (l.drop (p + 1))) = _
                rw [if_neg (by rw [← hOs]; exact hbig), ← hOs])
              have hO256 : O.length ≤ 256 := by omega
              clear hOs hbig
              go_wp2
              go_roundw
              case rel => exact ⟨p + 1, O, by omega, by go_num, hsO, huO, hO256, hBf, hGn.out⟩
              case measure => simp [intOf]; omega
      · obtain rfl : p = l.length := by omega
        have hRv := Lib.hid (show R = (o, 0) by
          have h1 := HGo.out
          rw [List.drop_of_length_le (Nat.le_refl _)] at h1
          rw [HR.out, ← HG.out, h1]
          rfl)
        go_wp2
        go_returns
        rw [hRv.out]
        exact Out3.of _ rfl hs hB
end Go.Proofs.Ytlembnpplnbagaa.Lt
