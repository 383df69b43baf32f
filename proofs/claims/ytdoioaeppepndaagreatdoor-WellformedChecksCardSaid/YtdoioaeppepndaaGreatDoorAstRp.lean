/- Walks: the program's Negated; the document's own Atoms and Negated; the kit's SameBools of two lists that are the same. -/
import Derived.Test.YtdoioaeppepndaaGreatDoorAstAx
import Derived.Test.YtdoioaeppepndaaGreatDoorAstDg
namespace Go.Proofs.YtdoioaeppepndaaGreatDoor
open Go.RowKit Go.Shelf
open A8 Tk7

/-- Which atoms of a node are negated. -/
def negN (n : Nd) : List Bool := if soundN 1 n = true then (leavesN n).map (fun n => decide (n.kind = 2)) else []
/-- The cells of a list of bools. -/
def blC (b : Bool) : List Value := [.bool b]
theorem blC_len (b : Bool) : (blC b).length = 1 := rfl
/-- What Negated gives. -/
def NegP (w0 : World) (L : List Bool) (S : Int) (e : Ending) (w' : World) : Prop := ∃ (gs : List Bool) (A : Option Addr) (c : Nat), IsL gs L ∧ e = .returned (.tuple #[.slice A gs.length c, .int .i64 S]) ∧ Sl w' 1 gs.length (.slice A gs.length c) (gs.flatMap blC) ∧ Below w0.heap.size w0 w'
/-- What Atoms gives. -/
def AtsP (w0 : World) (L : List At) (S : Int) (e : Ending) (w' : World) : Prop := ∃ (gs : List GA) (A : Option Addr) (c : Nat), IsL (gs.map (fun g => g.a)) L ∧ e = .returned (.tuple #[.slice A gs.length c, .int .i64 S]) ∧ Ats w' (.slice A gs.length c) gs ∧ Below w0.heap.size w0 w'
theorem NegP.of {w0 w' : World} {L gs : List Bool} {S : Int} {A : Option Addr} {c : Nat} (h1 : gs = L) (h2 : Sl w' 1 gs.length (.slice A gs.length c) (gs.flatMap blC)) (h3 : Below w0.heap.size w0 w') : NegP w0 L S (.returned (.tuple #[.slice A gs.length c, .int .i64 S])) w' := ⟨gs, A, c, h1, rfl, h2, h3⟩
theorem AtsP.of {w0 w' : World} {L : List At} {gs : List GA} {S : Int} {A : Option Addr} {c : Nat} (h1 : gs.map (fun g => g.a) = L) (h2 : Ats w' (.slice A gs.length c) gs) (h3 : Below w0.heap.size w0 w') : AtsP w0 L S (.returned (.tuple #[.slice A gs.length c, .int .i64 S])) w' := ⟨gs, A, c, h1, rfl, h2, h3⟩
set_option maxRecDepth 100000 in
set_option maxHeartbeats 8000000 in
theorem rNegated_any (T : Tr) (w : World) (hT : TrW w T) (hn : nodesN T.nd ≤ 1000000) :
    Calls Tryz.prog 116 #[.agg T.row.toArray] w (NegP w (negN T.nd) (soundE T.nd)) := by
  obtain ⟨i0, hi0, hz0, hz1, hz2⟩ := info_parts infoBool8
  have hS := fun w1 (hb : Below w.heap.size w w1) => rSound_any T w1 (hT.later hb)
  have hD := fun w1 (hb : Below w.heap.size w w1) => rleaves_any T w1 (hT.later hb) hn
  have hse : soundE T.nd = if soundN 1 T.nd = true then 0 else 3 := rfl
  have hls := lv_sound T
  have hll := lv_len T
  have hng : negN T.nd = if soundN 1 T.nd = true then (leavesN T.nd).map (fun n => decide (n.kind = 2)) else [] := rfl
  rw [hse] at hS ⊢
  rw [hng]
  have hbx : ∀ w1, Below (w.alloc (.cells T.row.toArray 31)).heap.size (w.alloc (.cells T.row.toArray 31)) w1 → Blk w1 w.heap.size T.row := fun w1 hb => (Blk.new w _ _).later hb
  obtain ⟨r, hr⟩ : ∃ r, r = soundN 1 T.nd := ⟨_, rfl⟩
  obtain ⟨ls, hlv⟩ : ∃ ls, ls = lvT T := ⟨_, rfl⟩
  rw [← hr] at hS hls ⊢
  rw [← hlv] at hD hls hll
  have hle : ls.length ≤ 1000000 := Nat.le_trans hll hn
  obtain ⟨LV, hLV⟩ : ∃ LV, LV = leavesN T.nd := ⟨_, rfl⟩
  rw [← hLV] at hls ⊢
  clear hse hr hlv hLV hT hn hll hng
  obtain ⟨k, mn, mx, ⟨⟨kd, bd, bn, cs, nm⟩, sc⟩, sk, ks⟩ := T
  simp only [Tr.row] at hS hbx ⊢
  have hD' : ∀ w1, Below w.heap.size w w1 → Calls Tryz.prog 120 #[.agg #[.int .i64 k, .int .i64 mn, .int .i64 mx, .int .i64 kd, .bool bd, .int .u64 bn, sc, .string (strOf nm), sk]] w1 fun e w' => ∃ (A : Option Addr) (c : Nat), e = .returned (.slice A ls.length c) ∧ Sl w' 9 ls.length (.slice A ls.length c) (ls.flatMap Tr.row) ∧ Below w1.heap.size w1 w' := hD
  have HS := Lib.hid hS
  have HD := Lib.hid hD'
  have HX := Lib.hid hbx
  have HLS := Lib.hid hls
  clear hS hD hD' hbx hls
  cases r with
  | false =>
    simp only [if_neg (show ¬ (false = true) by decide)] at HS ⊢
    go_enter Tryz.func116, Tryz.ntmps116
    go_wp2_with (go_at_call 114; refine (HS.out _ (b1 _ _)).mono ?_; rintro e w2 ⟨rfl, hb2⟩)
    go_ret2
    exact NegP.of (gs := []) rfl (Sl.nil _ _) (bstep (b1 _ _) hb2)
  | true =>
    simp only [if_true] at HS ⊢
    replace HLS := Lib.hid (HLS.out rfl)
    go_enter Tryz.func116, Tryz.ntmps116
    go_wp2_with (first | (go_at_call 114; refine (HS.out _ (b1 _ _)).mono ?_; rintro e w2 ⟨rfl, hb2⟩; have hB := HX.out _ hb2; have HB := Lib.hid (bstep (b1 _ _) hb2); have c0 := hB.cell 0 _ rfl; have c1 := hB.cell 1 _ rfl; have c2 := hB.cell 2 _ rfl; have c3 := hB.cell 3 _ rfl; have c4 := hB.cell 4 _ rfl; have c5 := hB.cell 5 _ rfl; have c6 := hB.cell 6 _ rfl; have c7 := hB.cell 7 _ rfl; have c8 := hB.cell 8 _ rfl; clear hB hb2) | (go_at_call 120; refine (HD.out _ HB.out).mono ?_; rintro e w3 ⟨A, cc, rfl, hsl, hb3⟩; replace HB := Lib.hid (bstep HB.out hb3); have HSL := Lib.hid hsl; clear hsl hb3 c0 c1 c2 c3 c4 c5 c6 c7 c8))
    have hels := (sl_els (by decide) row_len HSL.out)
    obtain ⟨A', cc', hAA, hm, hels⟩ := hels
    cases hAA
    have HE := Lib.hid hels
    clear hels HS HD HX HSL
    go_loopg [6, 7] ls.length (fun gh ov iv wr => ∃ (i : Nat), i ≤ ls.length ∧ gh = ls.length - i ∧ iv = .int .i64 (i : Int) ∧ Hid (wr.ownsRow w3.heap.size 4 1 ov i ((ls.take i).flatMap fun t => [.bool (decide (t.nd.kind = 2))])) ∧ Hid (Below w3.heap.size w3 wr))
    case atStart => exact ⟨0, Nat.zero_le _, rfl, rfl, Lib.hid (World.ownsRow_nil _ _ _ _), Lib.hid (Below.refl _ _)⟩
    case round =>
      obtain ⟨i, hi, hg, rfl, hO, hb⟩ := hrel
      by_cases hlt : i < ls.length
      · have g1 : (i : Int) < (ls.length : Int) := by omega
        obtain ⟨a, hBa, ha, E⟩ := HE.out i hlt
        replace E := E.later hb.out
        have htk : (ls.take (i + 1)).flatMap (fun t => ([.bool (decide (t.nd.kind = 2))] : List Value)) = (ls.take i).flatMap (fun t => [.bool (decide (t.nd.kind = 2))]) ++ [.bool (decide ((ls[i]).nd.kind = 2))] := by
          rw [take_snoc ls i hlt, List.flatMap_append]
          simp
        obtain ⟨t, ht⟩ : ∃ t, t = ls[i] := ⟨_, rfl⟩
        rw [← ht] at E htk
        clear ht
        subst hBa
        obtain ⟨k', mn', mx', ⟨⟨kd', bd', bn', cs', nm'⟩, sc'⟩, sk', ks'⟩ := t
        simp only [Tr.row] at E
        have e0 := E.at0 _ rfl
        have hwk : IntKind.i64.wrap ((i : Int) + 1) = (i : Int) + 1 := IntWalk.i64_in _ ⟨by omega, by omega⟩
        change _ = _ ++ [(.bool (decide (k' = 2)) : Value)] at htk
        obtain ⟨B, hB⟩ : ∃ B, decide (k' = 2) = B := ⟨_, rfl⟩
        have hB2 : (k' == 2) = B := by rw [← hB]; cases h : decide (k' = 2) <;> simp_all
        rw [hB] at htk
        have hlit : Blk (wr.alloc (.cells #[.bool B] 4)) wr.heap.size [.bool B] := Blk.new wr [.bool B] 4
        obtain ⟨A3, c3, w4, hrun, hown, hgrow⟩ := run_append_any (P := Tryz.prog) (wr.alloc (.cells #[.bool B] 4)) w3.heap.size 156 156 4 i0 (.bool false) 1 1 Tryz.underlying156 hi0 hz0 hz1 hz2 rfl (by decide) _ i _ (own_later hO.out (b1 wr (.cells #[.bool B] 4))) (.slice (some ⟨wr.heap.size, 0, none⟩) 1 1) 1 [.bool B] (Sl.lit hlit 1 1 rfl (by omega)) (fun u hu => by rw [List.mem_singleton.1 hu]; rfl) (by unfold maxLen; omega) (by omega) (Nat.le_trans hb.out.size (by simp)) (i + 1) _ rfl rfl
        have HOW := Lib.hid hown
        have HBW := Lib.hid (hb.out.trans ((b1 wr (.cells #[.bool B] 4)).mono hb.out.size) |>.grown hgrow (Nat.le_trans hb.out.size (by simp)) (fun j e => (hO.out.lt j e).1))
        have HTK := Lib.hid htk
        clear hown hgrow hlit htk HE hB E
        go_wp2_with (at_builtin; refine wpList_append_run rfl _ _ _ rfl rfl rfl hrun ?_)
        go_roundg (ls.length - (i + 1))
        case rel =>
          refine ⟨i + 1, by omega, rfl, by go_num, Lib.hid ?_, HBW⟩
          have h := HOW.out
          rw [HTK.out]
          exact h
        case measure => omega
      · have g1 : ¬ (i : Int) < (ls.length : Int) := by omega
        have hil : i = ls.length := by omega
        subst hil
        have htk : ls.take ls.length = ls := List.take_of_length_le (Nat.le_refl _)
        rw [htk] at hO
        obtain ⟨A2, c2, rfl⟩ := own_form hO.out
        clear HE htk
        go_wp2
        go_ret2
        have h1 := Sl.of_own hO.out
        have h2 : ls.flatMap (fun t => ([.bool (decide (t.nd.kind = 2))] : List Value)) = (ls.map fun t => decide (t.nd.kind = 2)).flatMap blC := by rw [List.flatMap_map]; rfl
        have h3 : (ls.map fun t => decide (t.nd.kind = 2)) = LV.map fun n => decide (n.kind = 2) := by rw [← HLS.out, List.map_map]; rfl
        rw [h2, h3] at h1
        have h4 : ls.length = (LV.map fun n => decide (n.kind = 2)).length := by rw [← h3, List.length_map]
        rw [h4] at h1 ⊢
        exact NegP.of rfl h1 (bstep HB.out hb.out)
set_option maxRecDepth 100000 in
set_option maxHeartbeats 16000000 in
theorem rAtoms_any (T : Tr) (w : World) (hT : TrW w T) (hn : nodesN T.nd ≤ 1000000) (hcs : ∀ t ∈ subsT T, t.nd.atom.cs.length ≤ 1000000) :
    Calls Tryz.prog 89 #[.agg T.row.toArray] w (AtsP w (atomsN T.nd) (soundE T.nd)) := by
  obtain ⟨i0, hi0, hz0, hz1, hz2⟩ := info_parts infoCond
  obtain ⟨i1, hi1, hy0, hy1, hy2⟩ := info_parts infoAtom
  have hS := fun w1 (hb : Below w.heap.size w w1) => rSound_any T w1 (hT.later hb)
  have hD := fun w1 (hb : Below w.heap.size w w1) => rleaves_any T w1 (hT.later hb) hn
  have hse : soundE T.nd = if soundN 1 T.nd = true then 0 else 3 := rfl
  have hls := lv_sound T
  have hll := lv_len T
  have hone : ∀ t ∈ lvT T, OneT w t ∧ t.nd.atom.cs.length ≤ 1000000 := fun t ht => ⟨hT t (lv_sub T t ht), hcs t (lv_sub T t ht)⟩
  have hng : atomsN T.nd = if soundN 1 T.nd = true then (leavesN T.nd).map Nd.atom else [] := rfl
  rw [hse] at hS ⊢
  rw [hng]
  have hbx : ∀ w1, Below (w.alloc (.cells T.row.toArray 31)).heap.size (w.alloc (.cells T.row.toArray 31)) w1 → Blk w1 w.heap.size T.row := fun w1 hb => (Blk.new w _ _).later hb
  obtain ⟨r, hr⟩ : ∃ r, r = soundN 1 T.nd := ⟨_, rfl⟩
  obtain ⟨ls, hlv⟩ : ∃ ls, ls = lvT T := ⟨_, rfl⟩
  rw [← hr] at hS hls ⊢
  rw [← hlv] at hD hls hll hone
  have hle : ls.length ≤ 1000000 := Nat.le_trans hll hn
  obtain ⟨LV, hLV⟩ : ∃ LV, LV = leavesN T.nd := ⟨_, rfl⟩
  rw [← hLV] at hls ⊢
  clear hse hr hlv hLV hT hn hll hng hcs
  obtain ⟨k, mn, mx, ⟨⟨kd, bd, bn, cs, nm⟩, sc⟩, sk, ks⟩ := T
  simp only [Tr.row] at hS hbx ⊢
  have hD' : ∀ w1, Below w.heap.size w w1 → Calls Tryz.prog 120 #[.agg #[.int .i64 k, .int .i64 mn, .int .i64 mx, .int .i64 kd, .bool bd, .int .u64 bn, sc, .string (strOf nm), sk]] w1 fun e w' => ∃ (A : Option Addr) (c : Nat), e = .returned (.slice A ls.length c) ∧ Sl w' 9 ls.length (.slice A ls.length c) (ls.flatMap Tr.row) ∧ Below w1.heap.size w1 w' := hD
  have HS := Lib.hid hS
  have HD := Lib.hid hD'
  have HX := Lib.hid hbx
  have HLS := Lib.hid hls
  have HON := Lib.hid hone
  clear hS hD hD' hbx hls hone
  cases r with
  | false =>
    simp only [if_neg (show ¬ (false = true) by decide)] at HS ⊢
    go_enter Tryz.func89, Tryz.ntmps89
    go_wp2_with (go_at_call 114; refine (HS.out _ (b1 _ _)).mono ?_; rintro e w2 ⟨rfl, hb2⟩)
    go_ret2
    exact AtsP.of (gs := []) rfl ⟨Sl.nil _ _, fun g hg => by cases hg⟩ (bstep (b1 _ _) hb2)
  | true =>
    simp only [if_true] at HS ⊢
    replace HLS := Lib.hid (HLS.out rfl)
    go_enter Tryz.func89, Tryz.ntmps89
    go_wp2_with (first | (go_at_call 114; refine (HS.out _ (b1 _ _)).mono ?_; rintro e w2 ⟨rfl, hb2⟩; have hB := HX.out _ hb2; have HB := Lib.hid (bstep (b1 _ _) hb2); have c0 := hB.cell 0 _ rfl; have c1 := hB.cell 1 _ rfl; have c2 := hB.cell 2 _ rfl; have c3 := hB.cell 3 _ rfl; have c4 := hB.cell 4 _ rfl; have c5 := hB.cell 5 _ rfl; have c6 := hB.cell 6 _ rfl; have c7 := hB.cell 7 _ rfl; have c8 := hB.cell 8 _ rfl; clear hB hb2) | (go_at_call 120; refine (HD.out _ HB.out).mono ?_; rintro e w3 ⟨A, cc, rfl, hsl, hb3⟩; replace HB := Lib.hid (bstep HB.out hb3); have HSL := Lib.hid hsl; clear hsl hb3 c0 c1 c2 c3 c4 c5 c6 c7 c8))
    have hels := (sl_els (by decide) row_len HSL.out)
    obtain ⟨A', cc', hAA, hm, hels⟩ := hels
    cases hAA
    have HE := Lib.hid hels
    clear hels HS HD HX HSL
    go_loopg [6, 7] ls.length (fun gh ov iv wr => ∃ (i : Nat) (gs : List GA), i ≤ ls.length ∧ gh = ls.length - i ∧ iv = .int .i64 (i : Int) ∧ Hid (gs.map (fun g => g.a) = (ls.take i).map fun t => t.nd.atom) ∧ Hid (wr.ownsRow w3.heap.size 28 5 ov i (gs.flatMap gaC)) ∧ Hid (∀ g ∈ gs, wr.ownsRow w3.heap.size 94 2 g.sc g.a.cs.length (g.a.cs.flatMap cnC)) ∧ Hid (Below w3.heap.size w3 wr))
    case atStart => exact ⟨0, [], Nat.zero_le _, rfl, rfl, Lib.hid rfl, Lib.hid (World.ownsRow_nil _ _ _ _), Lib.hid (fun g hg => by cases hg), Lib.hid (Below.refl _ _)⟩
    case round =>
      obtain ⟨i, gs, hi, hg, rfl, hL, hO, hC, hb⟩ := hrel
      by_cases hlt : i < ls.length
      · have g1 : (i : Int) < (ls.length : Int) := by omega
        obtain ⟨a, hBa, ha, E⟩ := HE.out i hlt
        replace E := E.later hb.out
        have htk : (ls.take (i + 1)).map (fun t => t.nd.atom) = (ls.take i).map (fun t => t.nd.atom) ++ [(ls[i]).nd.atom] := by
          rw [take_snoc ls i hlt, List.map_append]
          rfl
        obtain ⟨ht1, ht2⟩ := HON.out ls[i] (List.getElem_mem hlt)
        replace ht1 := ht1.later (bstep HB.out hb.out)
        obtain ⟨t, ht⟩ : ∃ t, t = ls[i] := ⟨_, rfl⟩
        rw [← ht] at E htk ht1 ht2
        clear ht
        subst hBa
        obtain ⟨k', mn', mx', ⟨⟨kd', bd', bn', cs', nm'⟩, sc'⟩, sk', ks'⟩ := t
        obtain ⟨-, ⟨-, hsc⟩, -⟩ := ht1
        change cs'.length ≤ 1000000 at ht2
        change _ = _ ++ [(⟨kd', bd', bn', cs', nm'⟩ : At)] at htk
        simp only [Tr.row] at E hsc
        have e3 := E.at1 3 _ (by decide) rfl
        have e4 := E.at1 4 _ (by decide) rfl
        have e5 := E.at1 5 _ (by decide) rfl
        have e6 := E.at1 6 _ (by decide) rfl
        have e7 := E.at1 7 _ (by decide) rfl
        have hwk : IntKind.i64.wrap ((i : Int) + 1) = (i : Int) + 1 := IntWalk.i64_in _ ⟨by omega, by omega⟩
        -- the first append: a copy of the conditions
        obtain ⟨w1, hw1⟩ : ∃ w1, w1 = wr.alloc (.cells #[.int .i64 kd', .bool bd', .int .u64 bn', sc', .string (strOf nm')] 28) := ⟨_, rfl⟩
        have hs1 : w1.heap.size = wr.heap.size + 1 := by rw [hw1]; simp
        have hb1 : Below wr.heap.size wr w1 := hw1 ▸ b1 _ _
        have B1 : Blk w1 wr.heap.size [.int .i64 kd', .bool bd', .int .u64 bn', sc', .string (strOf nm')] := hw1 ▸ Blk.new wr _ _
        have hb2 : Below w1.heap.size w1 (w1.alloc (.cells #[] 94)) := b1 _ _
        have ho1 : (w1.alloc (.cells #[] 94)).ownsRow w1.heap.size 94 2 (.slice (some ⟨w1.heap.size, 0, none⟩) 0 0) 0 [] := World.ownsRow_made w1 #[] 0 (Nat.le_refl _) (by unfold maxLen; omega) rfl
        obtain ⟨A3, c3, w4, hrun, hown, hgrow⟩ := run_append_any (P := Tryz.prog) (w1.alloc (.cells #[] 94)) w1.heap.size 26 26 94 i0 (.agg #[.int .i64 0, .int .i64 0]) 2 16 Tryz.underlying26 hi0 hz0 hz1 hz2 rfl (by decide) _ 0 [] ho1 sc' cs'.length _ (hsc.later (bstep hb1 hb2)) (cn_one cs') (by unfold maxLen; omega) (by omega) hb2.size cs'.length _ (Nat.zero_add _) rfl
        rw [List.nil_append] at hown
        have hb4 : Below w1.heap.size w1 w4 := hb2.grown hgrow hb2.size (fun j e => by cases e; exact Nat.le_refl _)
        have B4 := B1.later hb4
        -- the store, and the literal
        obtain ⟨w5, hw5⟩ : ∃ w5, w5 = w4.setCell ⟨wr.heap.size, 3, none⟩ (.slice A3 cs'.length c3) := ⟨_, rfl⟩
        have B5 : Blk w5 wr.heap.size [.int .i64 kd', .bool bd', .int .u64 bn', .slice A3 cs'.length c3, .string (strOf nm')] := hw5 ▸ B4.set 3 _
        have hs5 : w5.heap.size = w4.heap.size := by rw [hw5]; simp [World.setCell]
        have ho5 : w5.ownsRow w1.heap.size 94 2 (.slice A3 cs'.length c3) cs'.length (cs'.flatMap cnC) := hw5 ▸ own_set hown (by omega) _ _
        have hb5 : Below wr.heap.size wr w5 := by
          rw [hw5]
          exact Below.setCell (p := ⟨wr.heap.size, 3, none⟩) (bstep hb1 hb4) (Nat.le_refl _) _
        have hb6 : Below wr.heap.size wr (w5.alloc (.cells #[.int .i64 kd', .bool bd', .int .u64 bn', .slice A3 cs'.length c3, .string (strOf nm')] 28)) := bstep hb5 (b1 _ _)
        have hlit : Blk (w5.alloc (.cells #[.int .i64 kd', .bool bd', .int .u64 bn', .slice A3 cs'.length c3, .string (strOf nm')] 28)) w5.heap.size (gaC ⟨⟨kd', bd', bn', cs', nm'⟩, .slice A3 cs'.length c3⟩) := Blk.new w5 (gaC ⟨⟨kd', bd', bn', cs', nm'⟩, .slice A3 cs'.length c3⟩) 28
        obtain ⟨A6, c6, w6, hrun2, hown2, hgrow2⟩ := run_append_any (P := Tryz.prog) (w5.alloc (.cells #[.int .i64 kd', .bool bd', .int .u64 bn', .slice A3 cs'.length c3, .string (strOf nm')] 28)) w3.heap.size 79 79 28 i1 (.agg #[.int .i64 0, .bool false, .int .u64 0, .slice none 0 0, .string ⟨#[]⟩]) 5 64 Tryz.underlying79 hi1 hy0 hy1 hy2 rfl (by decide) _ i _ (own_later hO.out hb6) (.slice (some ⟨w5.heap.size, 0, none⟩) 1 1) 1 _ (Sl.lit hlit 5 1 rfl (by omega)) (fun u hu => by
          simp only [gaC, List.mem_cons, List.not_mem_nil, or_false] at hu
          rcases hu with rfl | rfl | rfl | rfl | rfl <;> rfl) (by unfold maxLen; omega) (by omega) (Nat.le_trans hb.out.size hb6.size) (i + 1) _ rfl rfl
        have HOW := Lib.hid hown2
        have HBW := Lib.hid ((bstep hb.out hb6).grown hgrow2 (bstep hb.out hb6).size (fun j e => (hO.out.lt j e).1))
        have HCN : Hid (∀ g ∈ gs ++ [(⟨⟨kd', bd', bn', cs', nm'⟩, .slice A3 cs'.length c3⟩ : GA)], w6.ownsRow w3.heap.size 94 2 g.sc g.a.cs.length (g.a.cs.flatMap cnC)) := Lib.hid fun g hg' => by
          have h3 : (w5.alloc (.cells #[.int .i64 kd', .bool bd', .int .u64 bn', .slice A3 cs'.length c3, .string (strOf nm')] 28)).ownsRow w3.heap.size 94 2 g.sc g.a.cs.length (g.a.cs.flatMap cnC) := by
            rcases List.mem_append.1 hg' with hg' | hg'
            · exact own_later (hC.out g hg') hb6
            · rw [List.mem_singleton.1 hg']
              exact own_mono (own_later ho5 (b1 _ _)) (by have := hb.out.size; omega)
          exact h3.kept hgrow2 (own_block_ne h3 (own_later hO.out hb6) (by decide))
        have q0 := B4.cell 0 _ rfl
        have q1 := B4.cell 1 _ rfl
        have q2 := B4.cell 2 _ rfl
        have q3 := B4.cell 3 _ rfl
        have q4 := B4.cell 4 _ rfl
        have f3 := B4.fr 3 _ rfl
        have hlt4 := B4.lt
        obtain ⟨N, hN⟩ : ∃ N, N = cs'.length := ⟨_, rfl⟩
        rw [← hN] at hrun hrun2 hw5
        rw [hs5] at hrun2
        rw [hw5] at hrun2
        rw [hs1, hw1] at hrun
        have HL := Lib.hid (show (gs ++ [(⟨⟨kd', bd', bn', cs', nm'⟩, .slice A3 cs'.length c3⟩ : GA)]).map (fun g => g.a) = (ls.take (i + 1)).map (fun t => t.nd.atom) by rw [List.map_append, hL.out, htk]; rfl)
        rw [← hN] at HCN HOW HL
        obtain ⟨S, cS, hS'⟩ : ∃ S cS, sc' = .slice S cs'.length cS := by obtain ⟨_, _, S, cS, h, _⟩ := hsc; exact ⟨S, cS, h⟩
        subst hS'
        rw [← hN] at e6 hrun q3
        clear hown hgrow hlit htk HE E hown2 hgrow2 B1 B4 B5 hb1 hb2 hb4 hb5 hb6 ho1 ho5 hw1 hw5 hs1 hs5 hsc hN ht2 HLS HON hL hC
        go_wp2_with (at_builtin; first | refine wpList_append_run rfl _ _ _ rfl rfl rfl hrun ?_ | refine wpList_append_run rfl _ _ _ rfl rfl rfl hrun2 ?_)
        go_roundg (ls.length - (i + 1))
        case rel =>
          refine ⟨i + 1, _, by omega, rfl, by go_num, HL, Lib.hid ?_, HCN, HBW⟩
          have h := HOW.out
          rw [List.flatMap_append]
          simpa using h
        case measure => omega
      · have g1 : ¬ (i : Int) < (ls.length : Int) := by omega
        have hil : i = ls.length := by omega
        subst hil
        have htk : ls.take ls.length = ls := List.take_of_length_le (Nat.le_refl _)
        rw [htk] at hL
        obtain ⟨A2, c2, rfl⟩ := own_form hO.out
        clear HE htk HON
        go_wp2
        go_ret2
        have h4 : ls.length = gs.length := by have := congrArg List.length hL.out; simpa using this.symm
        have h1 := Sl.of_own hO.out
        rw [h4] at h1 ⊢
        refine AtsP.of ?_ ⟨h1, fun g hg => Sl.of_own (hC.out g hg)⟩ (bstep HB.out hb.out)
        show gs.map _ = _
        rw [hL.out, ← HLS.out, List.map_map]
        rfl
end Go.Proofs.YtdoioaeppepndaaGreatDoor
