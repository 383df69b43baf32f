/- Walks: what the writer writes of atoms, of how often they stand, of nodes. -/
import Derived.Test.YtfibmdbplfghcaaGreatDoorAstN
import Derived.Test.YtfibmdbplfghcaaGreatDoorAstM
namespace Go.Proofs.YtfibmdbplfghcaaGreatDoor
open Go.RowKit Go.Shelf
open A8 Tk7 Lb

theorem bel_kept {n0 b : Nat} {w0 w w1 : World} (hB : Below n0 w0 w) (hk : Kept n0 b w w1) : Below n0 w0 w1 := hB.trans hk.1
theorem sl_bel {w0 w1 : World} {sz n : Nat} {v : Value} {us : List Value} (h : Sl w0 sz n v us) (hB : Below w0.heap.size w0 w1) : Sl w1 sz n v us := h.later hB
theorem atomw_any (w0 : World) (hL : Lay w0) (b : Nat) (l : List UInt8) (g : GA) (hg : OneA w0 g) (ha : atomB g.a = true) (w : World) (hW : Wt w0.heap.size b l w) (hB : Below w0.heap.size w0 w) (hl : l.length + (atomT g.a).length ≤ 1000000) :
    Calls Tryz.prog 80 #[.pointer (some ⟨b, 0, none⟩), .agg (gaC g).toArray] w (WrP w0.heap.size b l (atomT g.a) w) := by
  obtain ⟨⟨kd, bd, bn, cs, nm⟩, sc⟩ := g
  obtain ⟨⟨-, hbn, hcs, -⟩, hsl⟩ := hg
  simp only [atomB, Bool.and_eq_true, decide_eq_true_eq] at ha
  obtain ⟨⟨⟨⟨hk1, hk2⟩, -⟩, hall⟩, -⟩ := ha
  simp only at hsl hbn hcs
  obtain ⟨i, rfl⟩ : ∃ i : Nat, kd = (i : Int) := ⟨kd.toNat, by omega⟩
  obtain ⟨r, rfl⟩ : ∃ r : Nat, bn = (r : Int) := ⟨bn.toNat, by omega⟩
  have hsl2 := hsl
  obtain ⟨A, c, rfl, -, -⟩ := sl_get (by decide) hsl
  have hn := strOf_toL nm
  have hie : i ≤ 25 := by omega
  have hT : atomT ⟨(i : Int), bd, (r : Int), cs, nm⟩ = [UInt8.ofNat (65 + i)] ++ (if bd = true then 64 :: labelT (r : Int) else []) ++ listT [91] (cs.map condT) [44] [93] ++ (if nm.isEmpty = true then [] else 58 :: nm) := rfl
  rw [hT] at hl ⊢
  simp only [List.length_append, List.length_singleton] at hl
  have hC : ∀ acc w1, Kept w0.heap.size b w w1 → Wt w0.heap.size b acc w1 → acc.length + (listT [91] (cs.map condT) [44] [93]).length ≤ 1000000 → Calls Tryz.prog 104 #[.pointer (some ⟨b, 0, none⟩), .string ⟨#[91]⟩, .slice A cs.length c, .string ⟨#[44]⟩, .string ⟨#[93]⟩, .func (.func 101) #[.pointer (some ⟨b, 0, none⟩)] #[]] w1 (WrP w0.heap.size b acc (listT [91] (cs.map condT) [44] [93]) w1) := fun acc w1 hk h1 h2 =>
    writeListCond_any w0.heap.size b (fun w2 => Below w0.heap.size w0 w2) acc [91] [44] [93] _ _ _ rfl rfl rfl _ cs condT w1 (hB.trans hk.1) (fun _ _ h k => h.trans k.1) (fun w2 h => hsl2.later h)
      (fun x hx acc w2 hI hW2 hl2 => cond_any w0 hL b acc x (List.all_eq_true.1 hall x hx) (hcs x hx) w2 hW2 hI hl2) h1 h2
  have hLb : ∀ w1, Kept w0.heap.size b w w1 → Calls Tryz.prog 103 #[.int .u64 (r : Int)] w1 fun e w2 => e = .returned (.string (strOf (labelT (r : Int)))) ∧ Below w1.heap.size w1 w2 := fun w1 hk => by
    have hL1 := hL.later (hB.trans hk.1)
    exact text_any r w1 (by omega) hL1.bru.1 hL1.bru.2
  have hMe := isEmpty_is nm
  simp only [gaC]
  cases bd with
  | true =>
    simp only [if_true, List.length_cons] at hl ⊢
    cases hem : nm.isEmpty with
    | true =>
      rw [hem] at hl hMe
      simp only [if_true, List.length_nil] at hl ⊢
      exact atom_be w0.heap.size b l _ _ i r hie A _ c (strOf nm) w hW (by omega) hLb hC hMe
    | false =>
      rw [hem] at hl hMe
      simp only [Bool.false_eq_true, if_false, List.length_cons] at hl ⊢
      exact atom_bm w0.heap.size b l _ _ nm i r hie A _ c (strOf nm) w hW (by omega) hLb hC rfl hMe
  | false =>
    simp only [Bool.false_eq_true, if_false, List.length_nil] at hl ⊢
    cases hem : nm.isEmpty with
    | true =>
      rw [hem] at hl hMe
      simp only [if_true, List.length_nil] at hl ⊢
      exact atom_ne w0.heap.size b l _ i r hie A _ c (strOf nm) w hW (by omega) hC hMe
    | false =>
      rw [hem] at hl hMe
      simp only [Bool.false_eq_true, if_false, List.length_cons] at hl ⊢
      exact atom_nm w0.heap.size b l _ nm i r hie A _ c (strOf nm) w hW (by omega) hC rfl hMe
set_option maxRecDepth 100000 in
set_option maxHeartbeats 2000000 in
theorem times1_any (w0 : World) (hL : Lay w0) (b p : Nat) (l : List UInt8) (v : Int) (hv : okV v) (w : World) (hW : Wt w0.heap.size b l w) (hB : Below w0.heap.size w0 w) (hp : Blk w p [.pointer (some ⟨b, 0, none⟩)]) (hl : l.length + (Lib.itoa v).length ≤ 1000000) :
    Calls Tryz.prog 106 #[.int .i64 v, .pointer (some ⟨p, 0, none⟩)] w (WrP w0.heap.size b l (Lib.itoa v) w) := by
  have hn := number_any w0 hL b l v hv w hW hB hl
  have c0 := hp.cell 0 _ rfl
  obtain ⟨x, hx⟩ : ∃ x, x = Lib.itoa v := ⟨_, rfl⟩
  rw [← hx] at hn ⊢
  obtain ⟨n0, hn0⟩ : ∃ n0, n0 = w0.heap.size := ⟨_, rfl⟩
  rw [← hn0] at hn ⊢
  have fin : ∀ w2, Wt n0 b (l ++ x) w2 → Kept n0 b w w2 → WrP n0 b l x w (.returned (.tuple #[])) w2 := fun w2 h1 h2 => ⟨rfl, h1, h2⟩
  unfold WrP at hn
  clear hx hn0 hL hW hB hp hl
  go_enter Tryz.func106, Tryz.ntmps106
  go_wp2_with (go_at_call 69; refine hn.mono ?_; rintro e w2 ⟨rfl, h1, h2⟩)
  go_end0
  exact fin _ h1 h2
set_option maxRecDepth 100000 in
set_option maxHeartbeats 4000000 in
theorem timesw_any (w0 : World) (hL : Lay w0) (b : Nat) (l : List UInt8) (mn mx : Int) (h1 : okV mn) (h2 : okV mx) (w : World) (hW : Wt w0.heap.size b l w) (hB : Below w0.heap.size w0 w) (hl : l.length + (timesT mn mx).length ≤ 1000000) :
    Calls Tryz.prog 81 #[.pointer (some ⟨b, 0, none⟩), .int .i64 mn, .int .i64 mx] w (WrP w0.heap.size b l (timesT mn mx) w) := by
  have hn0 := wt_le hW
  by_cases hone : mn = 1 ∧ mx = 1
  · have hT : timesT mn mx = [] := if_pos hone
    obtain ⟨rfl, rfl⟩ := hone
    rw [hT]
    have fin : WrP w0.heap.size b l [] w (.returned (.tuple #[])) (w.alloc (.cells #[.pointer (some ⟨b, 0, none⟩)] 102)) := ⟨rfl, by rw [List.append_nil]; exact hW.later (b1 _ _), Kept.of (b1 _ _) hn0⟩
    clear hW hB hl hT hL h1 h2 hn0
    go_enter Tryz.func81, Tryz.ntmps81
    go_wp2
    go_end0
    exact fin
  · have hT : timesT mn mx = listT [123] ([mn, mx].map Lib.itoa) [44] [125] := if_neg hone
    rw [hT] at hl ⊢
    obtain ⟨W, hWW⟩ : ∃ W, W = (w.alloc (.cells #[.pointer (some ⟨b, 0, none⟩)] 102)).alloc (.cells #[.int .i64 mn, .int .i64 mx] 3) := ⟨_, rfl⟩
    have hlt := wt_lt hW
    have hb2 : Below w.heap.size w W := hWW ▸ b2 _ _ _
    have hX1 : Bx W w.heap.size 102 [.pointer (some ⟨b, 0, none⟩)] := by rw [hWW]; exact (Bx.new w [.pointer (some ⟨b, 0, none⟩)] _).later (b1 _ _)
    have hX2 : Bx W (w.heap.size + 1) 3 [.int .i64 mn, .int .i64 mx] := by
      rw [hWW]
      have := Bx.new (w.alloc (.cells #[.pointer (some ⟨b, 0, none⟩)] 102)) [.int .i64 mn, .int .i64 mx] 3
      rw [World.size_alloc] at this
      exact this
    have hq := writeListInt_any w0.heap.size b w.heap.size (fun w1 => Below w0.heap.size w0 w1 ∧ Bx w1 w.heap.size 102 [.pointer (some ⟨b, 0, none⟩)] ∧ Bx w1 (w.heap.size + 1) 3 [.int .i64 mn, .int .i64 mx])
      l [123] [44] [125] ⟨#[123]⟩ ⟨#[44]⟩ ⟨#[125]⟩ rfl rfl rfl (.slice (some ⟨w.heap.size + 1, 0, none⟩) 2 2) [mn, mx] Lib.itoa W ⟨hB.trans (hb2.mono hn0), hX1, hX2⟩
      (fun w1 w2 h k => ⟨h.1.trans k.1, h.2.1.kept k (by omega) (by decide), h.2.2.kept k (by omega) (by decide)⟩)
      (fun w1 h => Sl.lit h.2.2.blk 1 2 rfl (by decide))
      (fun x hx acc w1 hI hW1 hl1 => times1_any w0 hL b w.heap.size acc x (by
        rcases List.mem_cons.1 hx with rfl | hx
        · exact h1
        · rcases List.mem_cons.1 hx with rfl | hx
          · exact h2
          · cases hx) w1 hW1 hI.1 hI.2.1.blk hl1) (hW.later hb2) hl
    obtain ⟨x, hx⟩ : ∃ x, x = listT [123] ([mn, mx].map Lib.itoa) [44] [125] := ⟨_, rfl⟩
    rw [← hx] at hq ⊢
    obtain ⟨n0, hn⟩ : ∃ n0, n0 = w0.heap.size := ⟨_, rfl⟩
    rw [← hn] at hq hn0 ⊢
    have fin : ∀ w2, Wt n0 b (l ++ x) w2 → Kept n0 b W w2 → WrP n0 b l x w (.returned (.tuple #[])) w2 := fun w2 h1 h2 => ⟨rfl, h1, (Kept.of hb2 hn0).trans h2⟩
    unfold WrP at hq
    clear hx hn hL hW hB hl hT hX1 hX2 hb2 h1 h2 hlt
    by_cases e1 : mn = 1
    · have e2 : ¬ mx = 1 := fun h => hone ⟨e1, h⟩
      have e3 : (mx == 1) = false := by rw [beq_eq_false_iff_ne]; exact e2
      subst e1
      clear hone
      go_enter Tryz.func81, Tryz.ntmps81
      go_wp2_with fail
      rw [← hWW]
      clear hWW
      refine hq.mono ?_
      rintro e w2 ⟨rfl, h1, h2⟩
      go_wp2
      go_end0
      exact fin _ h1 h2
    · have e3 : (mn == 1) = false := by rw [beq_eq_false_iff_ne]; exact e1
      clear hone
      go_enter Tryz.func81, Tryz.ntmps81
      go_wp2_with fail
      rw [← hWW]
      clear hWW
      refine hq.mono ?_
      rintro e w2 ⟨rfl, h1, h2⟩
      go_wp2
      go_end0
      exact fin _ h1 h2
end Go.Proofs.YtfibmdbplfghcaaGreatDoor
