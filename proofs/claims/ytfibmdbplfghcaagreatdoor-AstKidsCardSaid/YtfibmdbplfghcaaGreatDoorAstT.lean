/- Walk: the program's Print. -/
import Derived.Test.YtfibmdbplfghcaaGreatDoorAstS
namespace Go.Proofs.YtfibmdbplfghcaaGreatDoor
open Go.RowKit Go.Shelf
open A8 Tk7 Lb

theorem qrow_is (k mn mx kd : Int) (bd : Bool) (bn : Int) (cs : List Cn) (nm : List UInt8) (sc sk : Value) (ks : List Tr) (wi : Int) (sh se : Value) (hv : List Hv) (em : List Ag) :
    GQ.row ⟨.mk k mn mx ⟨⟨kd, bd, bn, cs, nm⟩, sc⟩ sk ks, wi, sh, hv, se, em⟩ = [.int .i64 k, .int .i64 mn, .int .i64 mx, .int .i64 kd, .bool bd, .int .u64 bn, sc, .string (strOf nm), sk, .int .u64 wi, sh, se] := rfl
theorem query_ne (q : Qu) : queryT q ≠ [] := by
  unfold queryT
  simp
set_option maxRecDepth 100000 in
set_option maxHeartbeats 4000000 in
theorem print_any (q : GQ) (w : World) (hL : Lay w) (hq : QW w q) (hlen : (subsT q.t).length ≤ 999999) (hl : (queryT q.qu).length ≤ 1000000) :
    Calls Tryz.prog 10 #[.agg q.row.toArray] w fun e w' => e = .returned (.tuple #[.string (strOf (printS q.qu)), .int .i64 (printE q.qu)]) ∧ Below w.heap.size w w' := by
  have hS := fun w1 (hb : Below w.heap.size w w1) => checkq_any q w1 (hq.later hb) hlen (hL.sg.later hb)
  have hX := queryw_any w hL
  have hse : checkE q.qu = if checkB q.qu = true then 0 else 3 := rfl
  rw [hse] at hS
  cases hs : checkB q.qu with
  | false =>
    have h1 : printS q.qu = [] := by unfold printS; rw [hs, if_neg (by simp)]
    have h2 : printE q.qu = 3 := by unfold printE; rw [hs, if_neg (by simp)]
    rw [h1, h2]
    rw [hs] at hS
    clear h1 h2 hse hX hq hL hs hl hlen
    obtain ⟨⟨k, mn, mx, ⟨⟨kd, bd, bn, cs, nm⟩, sc⟩, sk, ks⟩, wi, sh, hv, se, em⟩ := q
    rw [qrow_is] at hS ⊢
    go_enter Tryz.func10, Tryz.ntmps10
    go_wp2_with (go_at_call 14; refine (hS _ (b1 _ _)).mono ?_; rintro e w2 ⟨rfl, hb2⟩)
    go_ret2
    exact ⟨rfl, bstep (b1 _ _) hb2⟩
  | true =>
    have h1 : printS q.qu = if (queryT q.qu).length ≤ 400 then queryT q.qu else [] := by
      unfold printS
      rw [hs]
      simp only [true_and]
    have h2 : printE q.qu = if (queryT q.qu).length ≤ 400 then 0 else 4 := by unfold printE; rw [hs, if_pos rfl]
    have hne := query_ne q.qu
    rw [h1, h2]
    have hN := fun b w1 (h : Below w.heap.size w w1) (hW : Wt w.heap.size b [] w1) => hX b [] q hq hs w1 hW h (by simpa using hl)
    rw [hs, if_pos rfl] at hS
    obtain ⟨x, hx⟩ : ∃ x, x = queryT q.qu := ⟨_, rfl⟩
    rw [← hx] at hN hne ⊢
    have hTx := fun b w1 (hW : Wt w.heap.size b x w1) => wrText_any w.heap.size b x w1 hW hne
    unfold WrP at hN
    simp only [List.nil_append] at hN
    obtain ⟨S, hSS⟩ : ∃ S, S = strOf (if x.length ≤ 400 then x else []) := ⟨_, rfl⟩
    obtain ⟨E, hE⟩ : ∃ E : Int, E = if x.length ≤ 400 then 0 else 4 := ⟨_, rfl⟩
    rw [← hSS, ← hE] at hTx ⊢
    clear h1 h2 hse hX hq hL hs hl hx hSS hE hne hlen
    have hbx : ∀ w1, Below (w.alloc (.cells q.row.toArray 32)).heap.size (w.alloc (.cells q.row.toArray 32)) w1 → Blk w1 w.heap.size q.row := fun w1 hb => (Blk.new w _ _).later hb
    obtain ⟨⟨k, mn, mx, ⟨⟨kd, bd, bn, cs, nm⟩, sc⟩, sk, ks⟩, wi, sh, hv, se, em⟩ := q
    rw [qrow_is] at hS hbx ⊢
    simp only [qrow_is] at hN
    go_enter Tryz.func10, Tryz.ntmps10
    go_wp2_with (go_at_call 14; refine (hS _ (b1 _ _)).mono ?_; rintro e w2 ⟨rfl, hb2⟩; have hB := hbx _ hb2; have c0 := hB.cell 0 _ rfl; have c1 := hB.cell 1 _ rfl; have c2 := hB.cell 2 _ rfl; have c3 := hB.cell 3 _ rfl; have c4 := hB.cell 4 _ rfl; have c5 := hB.cell 5 _ rfl; have c6 := hB.cell 6 _ rfl; have c7 := hB.cell 7 _ rfl; have c8 := hB.cell 8 _ rfl; have c9 := hB.cell 9 _ rfl; have c10 := hB.cell 10 _ rfl; have c11 := hB.cell 11 _ rfl; have clt := hB.lt; clear hB)
    have hb3 := bstep (b1 w _) hb2
    refine (hN w2.heap.size _ (hb3.trans ((b1 w2 _).mono hb3.size)) (fresh_wt w.heap.size w2 hb3.size)).mono ?_
    rintro e w3 ⟨rfl, h3, k3⟩
    have hb4 : Below w.heap.size w w3 := (hb3.trans ((b1 w2 _).mono hb3.size)).trans k3.1
    go_wp2_with (go_at_call 35; refine (hTx _ _ h3).mono ?_; rintro e w4 ⟨rfl, h4⟩)
    go_ret2
    exact ⟨rfl, hb4.trans h4⟩
end Go.Proofs.YtfibmdbplfghcaaGreatDoor
