/- Walks: what Parse, Pattern and Atom give, in plain memory; Again, Is. -/
import Derived.Test.YtdjaijhlhhnmeaaGreatDoorParO
import Derived.Test.YtdjaijhlhhnmeaaGreatDoorPMt
namespace Go.Proofs.YtdjaijhlhhnmeaaGreatDoor
open Go.RowKit
open A8 Tk7 P9

theorem le_unhide {P : Nat → Bool} {w : World} : Le (hide P w) w := hide_out (Nat.le_refl _) fun _ _ _ => rfl
def ftV (y : F) : Value := .agg #[.int .i64 y.1, .int .i64 (y.2 : Int)]
def RdQ (w : World) {α β : Type} (x : Except F α) (z : List Value) (nd : β → α) (V : World → β → Prop) (row : β → List Value) (e : Ending) (w' : World) : Prop :=
  Below w.heap.size w w' ∧ (∀ y, x = .error y → e = .returned (.tuple #[.agg z.toArray, ftV y])) ∧ ∀ a, x = .ok a → ∃ G : β, nd G = a ∧ V w' G ∧ e = .returned (.tuple #[.agg (row G).toArray, ftV (0, 0)])
theorem parse_any (t : List UInt8) (w : World) (hG : SG w) (hE : ER w) :
    Calls Tryz.prog 11 #[.string (strOf t)] w (RdQ w (parseP t) quZ GQ.qu QW GQ.row) :=
  (parseQ t w hG hE).mono fun e w' ⟨h1, h2, h3⟩ => ⟨h1, h2, fun a ha => by
    obtain ⟨v, h4, G, h5, h6, rfl⟩ := h3 a ha
    exact ⟨G, h5, qw_le h6 le_unhide, h4⟩⟩
theorem parsep_any (t : List UInt8) (w : World) (hG : SG w) (hE : ER w) :
    Calls Tryz.prog 18 #[.string (strOf t)] w (RdQ w (patternP t) ndZ Tr.nd TrW Tr.row) :=
  (parseN t w hG hE).mono fun e w' ⟨h1, h2, h3⟩ => ⟨h1, h2, fun a ha => by
    obtain ⟨v, h4, G, h5, h6, rfl⟩ := h3 a ha
    exact ⟨G, h5, trW_le h6 le_unhide, h4⟩⟩
theorem parsea_any (t : List UInt8) (w : World) (hG : SG w) (hE : ER w) :
    Calls Tryz.prog 20 #[.string (strOf t)] w (RdQ w (aloneP t) atZ (fun g => g.a) OneA gaC) :=
  (parseA t w hG hE).mono fun e w' ⟨h1, h2, h3⟩ => ⟨h1, h2, fun a ha => by
    obtain ⟨v, h4, sc, h5, rfl⟩ := h3 a ha
    exact ⟨⟨a, sc⟩, rfl, oneA_le h5 le_unhide, h4⟩⟩
theorem subsN_len : ∀ n : Nd, (subsN n).length = nodesN n := fun n => by
  refine Nd.ind (P := fun n => (subsN n).length = nodesN n) (fun k mn mx a ks ih => ?_) n
  rw [subsN, nodesN, List.length_cons]
  have : ∀ l : List Nd, (∀ x ∈ l, (subsN x).length = nodesN x) → (subsL l).length = nodesL l := by
    intro l
    induction l with
    | nil => intro _; rfl
    | cons x xs ih2 =>
      intro h
      rw [subsL, nodesL, List.length_append, h x List.mem_cons_self, ih2 fun y hy => h y (List.mem_cons_of_mem _ hy)]
  rw [this ks ih]
  omega
theorem subsT_len (T : Tr) : (subsT T).length = nodesN T.nd := by
  rw [← subsN_len, ← subsT_nd, List.length_map]
/-- What writing a parsed text again gives. -/
def againP (t : List UInt8) : Except F (List UInt8) :=
  match parseP t with
  | .error y => .error y
  | .ok q => if (queryT q).length ≤ 400 then .ok (queryT q) else .error (4, 400)
def AgR (w : World) (t : List UInt8) (e : Ending) (w' : World) : Prop :=
  Below w.heap.size w w' ∧ (∀ y, againP t = .error y → e = .returned (.tuple #[.string (strOf []), ftV y])) ∧ ∀ s, againP t = .ok s → e = .returned (.tuple #[.string (strOf s), ftV (0, 0)])
theorem print_of {t : List UInt8} {q : Qu} (h : parseP t = .ok q) {G : GQ} (hG : G.qu = q) (w : World) (hL : Lay w) (hq : QW w G) :
    Calls Tryz.prog 27 #[.agg G.row.toArray] w fun e w' => e = .returned (.tuple #[.string (strOf (if (queryT q).length ≤ 400 then queryT q else [])), .int .i64 (if (queryT q).length ≤ 400 then 0 else 4)]) ∧ Below w.heap.size w w' := by
  obtain ⟨⟨h1, h2⟩, ⟨h3, h4⟩, h5, h6⟩ := parse_sound h
  have hp := print_any G w hL hq (by rw [subsT_len]; have : G.t.nd = q.p := by rw [← hG]; rfl
                                     rw [this]; omega) (by rw [hG]; omega)
  rw [hG] at hp
  unfold printS printE at hp
  rw [h1] at hp
  simpa using hp
/-- The end of Again: the fault is laid in its block. -/
theorem again_end {w W V : World} {a b : Value} (hb : Below w.heap.size w W) (hF : Blk W w.heap.size [.int .i64 0, .int .i64 0]) (hV : V = (fillW W w.heap.size 0 [a, b]).drew ∨ V = fillW W w.heap.size 0 [a, b]) :
    Below w.heap.size w V ∧ V.cell? ⟨w.heap.size, 0, none⟩ = some a ∧ V.cell? ⟨w.heap.size, 1, none⟩ = some b := by
  obtain ⟨h1, h2⟩ := res_out hF (us := [a, b]) rfl rfl
  rcases hV with rfl | rfl
  · exact ⟨(hb.trans h2.below).drew, h1.drew.cell 0 _ rfl, h1.drew.cell 1 _ rfl⟩
  · exact ⟨hb.trans h2.below, h1.cell 0 _ rfl, h1.cell 1 _ rfl⟩
theorem qrow9 (k mn mx kd : Int) (bd : Bool) (bn : Int) (cs : List Cn) (nm : List UInt8) (sc sk : Value) (ks : List Tr) (wi : Int) (sh se : Value) (hv : List Hv) (em : List Ag) :
    GQ.row ⟨.mk k mn mx ⟨⟨kd, bd, bn, cs, nm⟩, sc⟩ sk ks, wi, sh, hv, se, em⟩ = [.int .i64 k, .int .i64 mn, .int .i64 mx, .int .i64 kd, .bool bd, .int .u64 bn, sc, .string (strOf nm), sk, .int .u64 wi, sh, se] := rfl
set_option maxRecDepth 100000 in
set_option maxHeartbeats 2000000 in
theorem again_any (t : List UInt8) (w : World) (hL : Lay w) (hE : ER w) :
    Calls Tryz.prog 13 #[.string (strOf t)] w (AgR w t) := by
  obtain ⟨W, hWW⟩ : ∃ W, W = w.alloc (.cells #[.int .i64 0, .int .i64 0] 36) := ⟨_, rfl⟩
  have hb1 : Below w.heap.size w W := hWW ▸ b1 _ _
  have hF1 : Blk W w.heap.size [.int .i64 0, .int .i64 0] := by rw [hWW]; exact Blk.is _ rfl
  have hQ := parse_any t W (hL.sg.later hb1) (hE.later hb1)
  unfold AgR againP
  cases hx : parseP t with
  | error y =>
    have hy := (fault_in hx).1
    have hb0 : (y.1 == 0) = false := by rw [beq_eq_false_iff_ne]; exact hy
    have hb2 : (y.1 != 0) = true := by simp only [bne, hb0]; rfl
    rw [hx] at hQ
    clear hx hy
    subst hWW
    go_enter Tryz.func13, Tryz.ntmps13
    go_upto_region 3 with (go_at_call 11; refine hQ.mono ?_; rintro e w3 ⟨hb3, he3, -⟩; have hF3 := hF1.later hb3; obtain rfl := he3 y rfl; unfold ftV)
    refine named_wp fun W2 hW2 => ?_
    have hb4 : Below w3.heap.size w3 W2 := by rw [hW2]; exact b2 _ _ _
    have hF4 := hF3.later hb4
    have hY : Blk W2 (w3.heap.size + 1) [.int .i64 y.1, .int .i64 (y.2 : Int)] := by rw [hW2]; exact Blk.is _ (by simp)
    clear hW2
    have f0 := hF4.cell 0 _ rfl
    have g0 := hF4.fr 0 _ rfl
    have f1 := hF4.cell 1 _ rfl
    have g1 := hF4.fr 1 _ rfl
    have c0 := hY.cell 0 _ rfl
    have c1 := hY.cell 1 _ rfl
    (first | go_region | skip)
    go_wp2
    refine named_post fun V hV => ?_
    obtain ⟨hVb, v0, v1⟩ := again_end (a := .int .i64 y.1) (b := .int .i64 (y.2 : Int)) (bstep hb1 (bstep hb3 hb4)) hF4 (by first | exact .inl hV | exact .inr hV)
    clear hV
    exact bodyPost_ret (v := .tuple #[.string (strOf []), .agg #[.int .i64 y.1, .int .i64 (y.2 : Int)]]) (by simp [results, Tryz.results13, go_sem, v0, v1]; try rfl) rfl ⟨hVb, (fun y' h => by cases h; rfl), fun s h => by cases h⟩
  | ok q =>
    have hP := fun (G : GQ) (hG : G.qu = q) w' (hb : Below w.heap.size w w') => print_of hx hG w' (hL.later hb)
    rw [hx] at hQ
    clear hx
    obtain ⟨p, hp⟩ : ∃ p, p = decide ((queryT q).length ≤ 400) := ⟨_, rfl⟩
    cases p with
    | true =>
      have hp2 := of_decide_eq_true hp.symm
      simp only [if_pos hp2] at hP ⊢
      clear hp hp2
      subst hWW
      go_enter Tryz.func13, Tryz.ntmps13
      go_upto_region 4 with (go_at_call 11; refine hQ.mono ?_; rintro e w3 ⟨hb3, -, ho3⟩; have hF3 := hF1.later hb3; obtain ⟨⟨⟨k, mn, mx, ⟨⟨kd, bd, bn, cs, nm⟩, sc⟩, sk, ks⟩, wi, sh, hv, se, em⟩, hG, hGq, rfl⟩ := ho3 q rfl; obtain ⟨⟨qA, qn, qc, rfl⟩, ⟨rA, rn, rc, rfl⟩⟩ := tr_form (show ndK.E _ _ from hGq.tr); obtain ⟨sA, sn, sc, rfl⟩ := sl_form hGq.hv; obtain ⟨uA, un, uc, rfl⟩ := sl_form hGq.em; have hP3 := hP _ hG; simp only [qrow9] at hP3 ⊢; unfold ftV)
      refine named_wp fun W2 hW2 => ?_
      have hb4 : Below w3.heap.size w3 W2 := by rw [hW2]; exact b2 _ _ _
      have hF4 := hF3.later hb4
      have hY : Blk W2 w3.heap.size [.int .i64 k, .int .i64 mn, .int .i64 mx, .int .i64 kd, .bool bd, .int .u64 bn, .slice qA qn qc, .string (strOf nm), .slice rA rn rc, .int .u64 wi, .slice sA sn sc, .slice uA un uc] := by rw [hW2]; exact (Blk.is _ rfl).alloc _
      have f0 := hF4.cell 0 _ rfl
      have g0 := hF4.fr 0 _ rfl
      have f1 := hF4.cell 1 _ rfl
      have g1 := hF4.fr 1 _ rfl
      have c0 := hY.cell 0 _ rfl
      have c1 := hY.cell 1 _ rfl
      have c2 := hY.cell 2 _ rfl
      have c3 := hY.cell 3 _ rfl
      have c4 := hY.cell 4 _ rfl
      have c5 := hY.cell 5 _ rfl
      have c6 := hY.cell 6 _ rfl
      have c7 := hY.cell 7 _ rfl
      have c8 := hY.cell 8 _ rfl
      have c9 := hY.cell 9 _ rfl
      have c10 := hY.cell 10 _ rfl
      have c11 := hY.cell 11 _ rfl
      have hZ : Blk W2 (w3.heap.size + 1) [.int .i64 0, .int .i64 0] := by rw [hW2]; exact Blk.is _ (by simp)
      have d0 := hZ.cell 0 _ rfl
      have hP4 := hP3 W2 (bstep hb1 (bstep hb3 hb4)) (hGq.later hb4)
      clear hW2 hP3 hQ
      go_upto_region 7 with (go_at_call 27; refine hP4.mono ?_; rintro e w5 ⟨rfl, hb5⟩)
      have hF5 := hF4.later hb5
      clear f0 f1 g0 g1
      have f0 := hF5.cell 0 _ rfl
      have g0 := hF5.fr 0 _ rfl
      have f1 := hF5.cell 1 _ rfl
      have g1 := hF5.fr 1 _ rfl
      (first | go_region | skip)
      go_wp2
      refine named_post fun V hV => ?_
      obtain ⟨hVb, v0, v1⟩ := again_end (a := .int .i64 0) (b := .int .i64 0) (bstep hb1 (bstep hb3 (bstep hb4 hb5))) hF5 (by first | exact .inl hV | exact .inr hV)
      clear hV
      exact bodyPost_ret (v := .tuple #[.string (strOf (queryT q)), .agg #[.int .i64 0, .int .i64 0]]) (by simp [results, Tryz.results13, go_sem, v0, v1]; try rfl) rfl ⟨hVb, (fun y' h => by cases h), fun s h => by cases h; rfl⟩
    | false =>
      have hp2 := of_decide_eq_false hp.symm
      simp only [if_neg hp2] at hP ⊢
      clear hp hp2
      subst hWW
      go_enter Tryz.func13, Tryz.ntmps13
      go_upto_region 4 with (go_at_call 11; refine hQ.mono ?_; rintro e w3 ⟨hb3, -, ho3⟩; have hF3 := hF1.later hb3; obtain ⟨⟨⟨k, mn, mx, ⟨⟨kd, bd, bn, cs, nm⟩, sc⟩, sk, ks⟩, wi, sh, hv, se, em⟩, hG, hGq, rfl⟩ := ho3 q rfl; obtain ⟨⟨qA, qn, qc, rfl⟩, ⟨rA, rn, rc, rfl⟩⟩ := tr_form (show ndK.E _ _ from hGq.tr); obtain ⟨sA, sn, sc, rfl⟩ := sl_form hGq.hv; obtain ⟨uA, un, uc, rfl⟩ := sl_form hGq.em; have hP3 := hP _ hG; simp only [qrow9] at hP3 ⊢; unfold ftV)
      refine named_wp fun W2 hW2 => ?_
      have hb4 : Below w3.heap.size w3 W2 := by rw [hW2]; exact b2 _ _ _
      have hF4 := hF3.later hb4
      have hY : Blk W2 w3.heap.size [.int .i64 k, .int .i64 mn, .int .i64 mx, .int .i64 kd, .bool bd, .int .u64 bn, .slice qA qn qc, .string (strOf nm), .slice rA rn rc, .int .u64 wi, .slice sA sn sc, .slice uA un uc] := by rw [hW2]; exact (Blk.is _ rfl).alloc _
      have f0 := hF4.cell 0 _ rfl
      have g0 := hF4.fr 0 _ rfl
      have f1 := hF4.cell 1 _ rfl
      have g1 := hF4.fr 1 _ rfl
      have c0 := hY.cell 0 _ rfl
      have c1 := hY.cell 1 _ rfl
      have c2 := hY.cell 2 _ rfl
      have c3 := hY.cell 3 _ rfl
      have c4 := hY.cell 4 _ rfl
      have c5 := hY.cell 5 _ rfl
      have c6 := hY.cell 6 _ rfl
      have c7 := hY.cell 7 _ rfl
      have c8 := hY.cell 8 _ rfl
      have c9 := hY.cell 9 _ rfl
      have c10 := hY.cell 10 _ rfl
      have c11 := hY.cell 11 _ rfl
      have hZ : Blk W2 (w3.heap.size + 1) [.int .i64 0, .int .i64 0] := by rw [hW2]; exact Blk.is _ (by simp)
      have d0 := hZ.cell 0 _ rfl
      have hP4 := hP3 W2 (bstep hb1 (bstep hb3 hb4)) (hGq.later hb4)
      clear hW2 hP3 hQ
      go_upto_region 6 with (go_at_call 27; refine hP4.mono ?_; rintro e w5 ⟨rfl, hb5⟩)
      have hF5 := hF4.later hb5
      clear f0 f1 g0 g1
      have f0 := hF5.cell 0 _ rfl
      have g0 := hF5.fr 0 _ rfl
      have f1 := hF5.cell 1 _ rfl
      have g1 := hF5.fr 1 _ rfl
      (first | go_region | skip)
      go_wp2
      refine named_post fun V hV => ?_
      obtain ⟨hVb, v0, v1⟩ := again_end (a := .int .i64 4) (b := .int .i64 400) (bstep hb1 (bstep hb3 (bstep hb4 hb5))) hF5 (by first | exact .inl hV | exact .inr hV)
      clear hV
      exact bodyPost_ret (v := .tuple #[.string (strOf []), .agg #[.int .i64 4, .int .i64 400]]) (by simp [results, Tryz.results13, go_sem, v0, v1]; try rfl) rfl ⟨hVb, (fun y' h => by cases h; rfl), fun s h => by cases h⟩
set_option maxRecDepth 100000 in
set_option maxHeartbeats 2000000 in
theorem is_any (t : List UInt8) (w : World) (hG : SG w) (hE : ER w) :
    Calls Tryz.prog 16 #[.string (strOf t)] w fun e w' => e = .returned (.bool (parseP t).isOk) ∧ Below w.heap.size w w' := by
  have hQ := parse_any t w hG hE
  cases hx : parseP t with
  | error y =>
    have hy := (fault_in hx).1
    have hb0 : (y.1 == 0) = false := by rw [beq_eq_false_iff_ne]; exact hy
    rw [hx] at hQ
    clear hx hy
    go_enter Tryz.func16, Tryz.ntmps16
    go_wp2_with (go_at_call 11; refine hQ.mono ?_; rintro e w3 ⟨hb3, he3, -⟩; obtain rfl := he3 y rfl; unfold ftV)
    go_ret
    exact ⟨rfl, bstep hb3 (b2 _ _ _)⟩
  | ok q =>
    rw [hx] at hQ
    clear hx
    go_enter Tryz.func16, Tryz.ntmps16
    go_wp2_with (go_at_call 11; refine hQ.mono ?_; rintro e w3 ⟨hb3, -, ho3⟩; obtain ⟨⟨⟨k, mn, mx, ⟨⟨kd, bd, bn, cs, nm⟩, sc⟩, sk, ks⟩, wi, sh, hv, se, em⟩, -, hGq, rfl⟩ := ho3 q rfl; obtain ⟨⟨qA, qn, qc, rfl⟩, ⟨rA, rn, rc, rfl⟩⟩ := tr_form (show ndK.E _ _ from hGq.tr); obtain ⟨sA, sn, sc, rfl⟩ := sl_form hGq.hv; obtain ⟨uA, un, uc, rfl⟩ := sl_form hGq.em; simp only [qrow9]; unfold ftV)
    go_ret
    exact ⟨rfl, bstep hb3 (b2 _ _ _)⟩
end Go.Proofs.YtdjaijhlhhnmeaaGreatDoor
