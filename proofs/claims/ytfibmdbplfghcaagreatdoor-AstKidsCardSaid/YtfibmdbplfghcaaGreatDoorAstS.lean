/- Walks: the program's Pattern and Print. -/
import Derived.Test.YtfibmdbplfghcaaGreatDoorAstR
namespace Go.Proofs.YtfibmdbplfghcaaGreatDoor
open Go.RowKit Go.Shelf
open A8 Tk7 Lb

theorem queryw_any (w0 : World) (hL : Lay w0) (b : Nat) (l : List UInt8) (q : GQ) (hq : QW w0 q) (hc : checkB q.qu = true) (w : World) (hW : Wt w0.heap.size b l w) (hB : Below w0.heap.size w0 w) (hl : l.length + (queryT q.qu).length ≤ 1000000) :
    Calls Tryz.prog 34 #[.pointer (some ⟨b, 0, none⟩), .agg q.row.toArray] w (WrP w0.heap.size b l (queryT q.qu) w) := by
  obtain ⟨T, wi, sh, hv, se, em⟩ := q
  obtain ⟨hT, hwi, hh, he, hoh, hoe⟩ := hq
  have hT0 : queryT (GQ.qu ⟨T, wi, sh, hv, se, em⟩) = textN T.nd ++ [32, 119, 105, 116, 104, 105, 110, 32] ++ Lib.itoa wi ++ listT [32, 104, 97, 118, 105, 110, 103, 32] (hv.map haveT) [32, 97, 110, 100, 32] [] ++ listT [32, 101, 109, 105, 116, 32] (em.map aggT) [44, 32] [] := rfl
  have hc0 : checkB (GQ.qu ⟨T, wi, sh, hv, se, em⟩) = (soundN 1 T.nd && decide (wi ≤ 99999) && hv.all haveB && em.all aggB) := rfl
  rw [hc0, Bool.and_eq_true, Bool.and_eq_true, Bool.and_eq_true, decide_eq_true_eq] at hc
  obtain ⟨⟨⟨hs, hw⟩, hhv⟩, hem⟩ := hc
  simp only at hT hwi hh he hoh hoe
  rw [hT0] at hl ⊢
  simp only [List.length_append, List.length_cons, List.length_nil] at hl
  have hok : okV wi := by unfold okV; omega
  have hX := node_any w0 hL b T 1
  obtain ⟨n0, hn⟩ : ∃ n0, n0 = w0.heap.size := ⟨_, rfl⟩
  have hrow : GQ.row ⟨T, wi, sh, hv, se, em⟩ = T.row ++ [.int .u64 wi, sh, se] := rfl
  rw [hrow]
  have hN := fun w1 (hk : Kept w0.heap.size b w w1) (h : Wt w0.heap.size b l w1) => hX l w1 hT hs (hB.trans hk.1) h (by omega)
  obtain ⟨k, mn, mx, ⟨⟨kd, bd, bn, cs, nm⟩, sc⟩, sk, ks⟩ := T
  have hwr : IntKind.i64.wrap wi = wi := IntWalk.i64_in _ ⟨by omega, by omega⟩
  exact query_walk w0.heap.size b l _ _ _ _ k mn mx kd bd bn sc (strOf nm) sk wi sh se w hW hwr (by omega)
    hN
    (fun w1 l1 hk hl1 h => number_any w0 hL b l1 wi hok w1 h (hB.trans hk.1) (by rw [hl1]; simp only [List.length_append, List.length_cons, List.length_nil]; omega))
    (fun w1 l1 hk hl1 h => writeListHave_any w0.heap.size b (fun w2 => Below w0.heap.size w0 w2) l1 [32, 104, 97, 118, 105, 110, 103, 32] [32, 97, 110, 100, 32] [] _ _ _ rfl rfl rfl sh hv haveT w1 (hB.trans hk.1) (fun _ _ h k => h.trans k.1) (fun w2 h => hh.later h)
      (fun x hx acc w2 hI hW2 hl2 => have_any w0 hL b acc x (List.all_eq_true.1 hhv x hx) (hoh x hx).1 w2 hW2 hI hl2) h (by rw [hl1]; simp only [List.length_append, List.length_cons, List.length_nil]; omega))
    (fun w1 l1 hk hl1 h => writeListAgg_any w0.heap.size b (fun w2 => Below w0.heap.size w0 w2) l1 [32, 101, 109, 105, 116, 32] [44, 32] [] _ _ _ rfl rfl rfl se em aggT w1 (hB.trans hk.1) (fun _ _ h k => h.trans k.1) (fun w2 h => he.later h)
      (fun x hx acc w2 hI hW2 hl2 => agg_any w0 hL b acc x (List.all_eq_true.1 hem x hx) w2 hW2 hI hl2) h (by rw [hl1]; simp only [List.length_append, List.length_cons, List.length_nil]; omega))
theorem text_ne {d : Nat} {n : Nd} (h : soundN d n = true) : textN n ≠ [] := by
  cases n with
  | mk k mn mx a ks =>
    rw [soundN, Bool.and_eq_true, Bool.and_eq_true] at h
    have hn := h.1.2
    unfold nodeB at hn
    rw [textN]
    have ha : atomT a ≠ [] := by simp [atomT]
    by_cases e1 : k = 1
    · rw [if_pos e1]
      simp [ha]
    · rw [if_neg e1] at hn ⊢
      by_cases e2 : k = 2
      · rw [if_pos e2]; simp
      · rw [if_neg e2] at hn ⊢
        have h2 : (k = 3 ∨ k = 4) ∧ 2 ≤ ks.length := by
          by_cases e : k = 3 ∨ k = 4
          · rw [if_pos e] at hn
            simp only [Bool.and_eq_true, decide_eq_true_eq] at hn
            exact ⟨e, hn.2⟩
          · rw [if_neg e] at hn; cases hn
        have hsep : ∀ s : List UInt8, s ≠ [] → sepL s (textL k ks) ≠ [] := fun s hs => by
          rw [textL_map]
          cases ks with
          | nil => simp at h2
          | cons x r =>
            cases r with
            | nil => simp at h2
            | cons y r => simp [sepL, hs]
        rcases h2.1 with e | e
        · rw [if_pos e]; exact hsep _ (by simp)
        · rw [if_neg (by omega), if_pos e]; exact hsep _ (by simp)
set_option maxRecDepth 100000 in
set_option maxHeartbeats 4000000 in
theorem pattern_any (T : Tr) (w : World) (hL : Lay w) (hT : TrW w T) (hlen : (subsT T).length ≤ 999999) (hl : (textN T.nd).length ≤ 1000000) :
    Calls Tryz.prog 12 #[.agg T.row.toArray] w fun e w' => e = .returned (.tuple #[.string (strOf (patternS T.nd)), .int .i64 (patternE T.nd)]) ∧ Below w.heap.size w w' := by
  have hS := fun w1 (hb : Below w.heap.size w w1) => sound_any T w1 (hT.later hb) hlen (hL.sg.later hb)
  have hX := node_any w hL
  have hse : soundE T.nd = if soundN 1 T.nd = true then 0 else 3 := rfl
  rw [hse] at hS
  cases hs : soundN 1 T.nd with
  | false =>
    have h1 : patternS T.nd = [] := by unfold patternS; rw [hs, if_neg (by simp)]
    have h2 : patternE T.nd = 3 := by unfold patternE; rw [hs, if_neg (by simp)]
    rw [h1, h2]
    rw [hs] at hS
    clear h1 h2 hse hX hT hL hs hl
    obtain ⟨k, mn, mx, ⟨⟨kd, bd, bn, cs, nm⟩, sc⟩, sk, ks⟩ := T
    simp only [Tr.row] at hS ⊢
    go_enter Tryz.func12, Tryz.ntmps12
    go_wp2_with (go_at_call 16; refine (hS _ (b1 _ _)).mono ?_; rintro e w2 ⟨rfl, hb2⟩)
    go_ret2
    exact ⟨rfl, bstep (b1 _ _) hb2⟩
  | true =>
    have h1 : patternS T.nd = if (textN T.nd).length ≤ 400 then textN T.nd else [] := by
      unfold patternS
      rw [hs]
      simp only [true_and]
    have h2 : patternE T.nd = if (textN T.nd).length ≤ 400 then 0 else 4 := by unfold patternE; rw [hs, if_pos rfl]
    have hne := text_ne hs
    rw [h1, h2]
    have hN := fun b w1 (h : Below w.heap.size w w1) (hW : Wt w.heap.size b [] w1) => hX b T 1 [] w1 hT hs h hW (by simpa using hl)
    rw [hs, if_pos rfl] at hS
    obtain ⟨x, hx⟩ : ∃ x, x = textN T.nd := ⟨_, rfl⟩
    rw [← hx] at hN hne ⊢
    have hTx := fun b w1 (hW : Wt w.heap.size b x w1) => wrText_any w.heap.size b x w1 hW hne
    unfold WrP at hN
    simp only [List.nil_append] at hN
    obtain ⟨S, hSS⟩ : ∃ S, S = strOf (if x.length ≤ 400 then x else []) := ⟨_, rfl⟩
    obtain ⟨E, hE⟩ : ∃ E : Int, E = if x.length ≤ 400 then 0 else 4 := ⟨_, rfl⟩
    rw [← hSS, ← hE] at hTx ⊢
    clear h1 h2 hse hX hT hL hs hl hx hSS hE hne
    obtain ⟨k, mn, mx, ⟨⟨kd, bd, bn, cs, nm⟩, sc⟩, sk, ks⟩ := T
    have hbx : ∀ w1, Below (w.alloc (.cells (Tr.row (.mk k mn mx ⟨⟨kd, bd, bn, cs, nm⟩, sc⟩ sk ks)).toArray 28)).heap.size (w.alloc (.cells (Tr.row (.mk k mn mx ⟨⟨kd, bd, bn, cs, nm⟩, sc⟩ sk ks)).toArray 28)) w1 → Blk w1 w.heap.size (Tr.row (.mk k mn mx ⟨⟨kd, bd, bn, cs, nm⟩, sc⟩ sk ks)) := fun w1 hb => (Blk.new w _ _).later hb
    simp only [Tr.row] at hS hN hbx ⊢
    go_enter Tryz.func12, Tryz.ntmps12
    go_wp2_with (go_at_call 16; refine (hS _ (b1 _ _)).mono ?_; rintro e w2 ⟨rfl, hb2⟩; have hB := hbx _ hb2; have c0 := hB.cell 0 _ rfl; have c1 := hB.cell 1 _ rfl; have c2 := hB.cell 2 _ rfl; have c3 := hB.cell 3 _ rfl; have c4 := hB.cell 4 _ rfl; have c5 := hB.cell 5 _ rfl; have c6 := hB.cell 6 _ rfl; have c7 := hB.cell 7 _ rfl; have c8 := hB.cell 8 _ rfl; have clt := hB.lt; clear hB)
    have hb3 := bstep (b1 w _) hb2
    refine (hN w2.heap.size _ (hb3.trans ((b1 w2 _).mono hb3.size)) (fresh_wt w.heap.size w2 hb3.size)).mono ?_
    rintro e w3 ⟨rfl, h3, k3⟩
    have hb4 : Below w.heap.size w w3 := (hb3.trans ((b1 w2 _).mono hb3.size)).trans k3.1
    go_wp2_with (go_at_call 35; refine (hTx _ _ h3).mono ?_; rintro e w4 ⟨rfl, h4⟩)
    go_ret2
    exact ⟨rfl, hb4.trans h4⟩
end Go.Proofs.YtfibmdbplfghcaaGreatDoor
