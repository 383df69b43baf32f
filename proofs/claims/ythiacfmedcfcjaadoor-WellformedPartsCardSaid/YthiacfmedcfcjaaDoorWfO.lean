/- Walk: the names that are used, each once. Made by program (wip/tools/gen_wfO.py). -/
import Derived.Test.YthiacfmedcfcjaaDoorWfQ
namespace Go.Proofs.YthiacfmedcfcjaaDoor
open Go.RowKit Go.Shelf Go.Maps
open A8 W10
attribute [local go_sem] Oper.semAt_some

def mapT (l : List (List UInt8)) : DataW Unit := l.foldl (fun D s => D.put (.string s) (.lit (.bool true))) (.map [])
theorem mapT_snoc (l : List (List UInt8)) (s : List UInt8) : mapT (l ++ [s]) = (mapT l).put (.string s) (.lit (.bool true)) := by
  unfold mapT
  rw [List.foldl_append]
  rfl
theorem mapT_isMap (l : List (List UInt8)) : IsMap (mapT l) := by
  refine snoc_ind (P := fun l => IsMap (mapT l)) ⟨[], rfl⟩ (fun l s h => ?_) l
  rw [mapT_snoc]
  exact h.put _ _
theorem mapT_at (l : List (List UInt8)) (s : List UInt8) : (mapT l).atKey (.string s) (.lit (.bool false)) = .lit (.bool (l.contains s)) := by
  refine snoc_ind (P := fun l => (mapT l).atKey (.string s) (.lit (.bool false)) = .lit (.bool (l.contains s))) rfl (fun l x h => ?_) l
  rw [mapT_snoc]
  by_cases hx : s = x
  · subst hx
    rw [atKey_put_same (mapT_isMap l) (wkeyLit s)]
    simp
  · rw [atKey_put_other (by intro e; cases e; exact hx rfl), h]
    have : (l ++ [x]).contains s = l.contains s := by
      rw [Bool.eq_iff_iff]
      simp [hx]
    rw [this]
theorem firsts_snoc (x : List UInt8) (l : List (List UInt8)) : ∀ seen, firsts seen (l ++ [x]) = firsts seen l ++ (if seen.contains x = true ∨ l.contains x = true then [] else [x]) := by
  induction l with
  | nil =>
    intro seen
    simp only [List.nil_append, firsts]
    by_cases h : seen.contains x = true
    · rw [if_pos h, if_pos (.inl h)]
    · rw [if_neg h, if_neg (by simpa using h)]
  | cons s r ih =>
    intro seen
    rw [List.cons_append, firsts, firsts]
    by_cases h : seen.contains s = true
    · rw [if_pos h, if_pos h, ih]
      congr 1
      have : (seen.contains x = true ∨ (s :: r).contains x = true) ↔ (seen.contains x = true ∨ r.contains x = true) := by
        rw [List.contains_eq_mem] at h
        simp only [decide_eq_true_eq] at h
        simp only [List.contains_eq_mem, decide_eq_true_eq, List.mem_cons]
        constructor
        · rintro (h1 | rfl | h1)
          · exact .inl h1
          · exact .inl h
          · exact .inr h1
        · rintro (h1 | h1)
          · exact .inl h1
          · exact .inr (.inr h1)
      simp only [this]
    · rw [if_neg h, if_neg h, ih, List.cons_append]
      congr 2
      have : (seen.contains x = true ∨ (s :: r).contains x = true) ↔ ((seen ++ [s]).contains x = true ∨ r.contains x = true) := by
        simp only [List.contains_eq_mem, decide_eq_true_eq, List.mem_cons, List.mem_append, List.not_mem_nil, or_false]
        constructor
        · rintro (h1 | h1 | h1)
          · exact .inl (.inl h1)
          · exact .inl (.inr h1)
          · exact .inr h1
        · rintro ((h1 | h1) | h1)
          · exact .inl h1
          · exact .inr (.inl h1)
          · exact .inr (.inr h1)
      simp only [this]
theorem firsts_mem (s : List UInt8) (l : List (List UInt8)) : (firsts [] l).contains s = l.contains s := by
  refine snoc_ind (P := fun l => (firsts [] l).contains s = l.contains s) rfl (fun l x h => ?_) l
  rw [firsts_snoc, Bool.eq_iff_iff]
  simp only [List.contains_eq_mem, decide_eq_true_eq] at h ⊢
  have h' : s ∈ firsts [] l ↔ s ∈ l := by simpa using h
  simp only [List.mem_append, List.mem_singleton, List.not_mem_nil, false_or]
  split
  · rename_i hx
    simp only [List.not_mem_nil, or_false, h']
    constructor
    · exact .inl
    · rintro (h1 | rfl)
      · exact h1
      · exact hx
  · simp only [List.mem_singleton, h']
theorem firsts_len (l : List (List UInt8)) : (firsts [] l).length ≤ l.length := by
  refine snoc_ind (P := fun l => (firsts [] l).length ≤ l.length) (Nat.le_refl _) (fun l x h => ?_) l
  rw [firsts_snoc, List.length_append, List.length_append]
  split <;> simp <;> omega
set_option maxRecDepth 100000 in
set_option maxHeartbeats 8000000 in
theorem wUses_any (q : GQ) (w : World) (hq : QW w q) (hlen : (subsT q.t).length ≤ 999999) (hG : SG w) (hnu : ∀ s ∈ useL q.qu, s.length ≤ maxLen) (hul : (useL q.qu).length ≤ 1000000) :
    Calls Tryd.prog 17 #[.agg q.row.toArray] w (TxtP w (usesL q.qu) (wfE q.qu)) := by
  have hc := fun w1 (hb : Below w.heap.size w w1) => wcheck_any q w1 (hq.later hb) hlen (hG.later hb) hnu
  have huq := fun (b : Nat) (w2 : World) (h1 : SameB w.heap.size w w2) (h2 : Bx w2 b 39 q.row) => wuses_seq w q hq b w2 h1 h2
  have hun := fun w' ho => wuses_any q w' ho
  have hns : usesL q.qu = if wfE q.qu = 0 then firsts [] (useL q.qu) else [] := rfl
  rw [hns]
  obtain ⟨E, hE⟩ : ∃ E, E = wfE q.qu := ⟨_, rfl⟩
  obtain ⟨L, hL⟩ : ∃ L, L = useL q.qu := ⟨_, rfl⟩
  rw [← hL] at huq hnu hul ⊢
  rw [← hE] at hc ⊢
  clear hns hG hE
  obtain ⟨T, wi, sh, hv, se, em⟩ := q
  obtain ⟨hT, hwi, hh, he, -, -⟩ := hq
  simp only at hT hh he hlen hwi
  obtain ⟨Ah, ch, rfl, hlh, -⟩ := sl_get (by decide) hh
  obtain ⟨Ae, ce, rfl, hle, -⟩ := sl_get (by decide) he
  clear hh he
  simp only at huq hun hc
  clear hL
  have hone := hT.one
  obtain ⟨k, mn, mx, ⟨⟨kd, bd, bn, cs, nm⟩, sc⟩, sk, ks⟩ := T
  obtain ⟨-, ⟨-, hsc⟩, hsl⟩ := hone
  simp only at hsc
  obtain ⟨A1, cap1, rfl, -, -⟩ := sl_get (by decide) hsc
  obtain ⟨A, cap, rfl, -, -⟩ := sl_get (by decide) hsl
  clear hsc hsl
  clear hT hlen
  have hun2 := fun w' => hun w' ⟨A1, A, Ah, Ae, cap1, cap, ch, ce, _, _, _, _, _, _, _, _, _, rfl, rfl, rfl, rfl⟩
  clear hun
  simp only [GQ.row, Tr.row, List.cons_append, List.nil_append] at hc huq hun2 ⊢
  have HC := Lib.hid hc
  have HQ := Lib.hid huq
  have HNU := Lib.hid hnu
  clear hc huq hnu
  by_cases hE : E = 0
  · subst hE
    rw [if_pos rfl]
    have hbx : ∀ w1, Below (w.alloc (.cells #[.int .i64 k, .int .i64 mn, .int .i64 mx, .int .i64 kd, .bool bd, .int .u64 bn, .slice A1 cs.length cap1, .string (strOf nm), .slice A ks.length cap, .int .u64 wi, .slice Ah hv.length ch, .slice Ae em.length ce] 39)).heap.size (w.alloc (.cells #[.int .i64 k, .int .i64 mn, .int .i64 mx, .int .i64 kd, .bool bd, .int .u64 bn, .slice A1 cs.length cap1, .string (strOf nm), .slice A ks.length cap, .int .u64 wi, .slice Ah hv.length ch, .slice Ae em.length ce] 39)) w1 → Blk w1 w.heap.size [.int .i64 k, .int .i64 mn, .int .i64 mx, .int .i64 kd, .bool bd, .int .u64 bn, .slice A1 cs.length cap1, .string (strOf nm), .slice A ks.length cap, .int .u64 wi, .slice Ah hv.length ch, .slice Ae em.length ce] := fun w1 hb => ((Bx.new w [.int .i64 k, .int .i64 mn, .int .i64 mx, .int .i64 kd, .bool bd, .int .u64 bn, .slice A1 cs.length cap1, .string (strOf nm), .slice A ks.length cap, .int .u64 wi, .slice Ah hv.length ch, .slice Ae em.length ce] 39).later hb).blk
    have HX := Lib.hid hbx
    clear hbx
    refine (callsIn_wide (n := 5)).1 ?_
    refine callsIn_of_wp_marks Tryd.func17 rfl trivial ?_ rfl
    simp only [Tryd.ntmps17, List.size_toArray, List.length_cons, List.length_nil, Nat.reduceAdd, Nat.reduceSub, Array.replicate_succ, Array.replicate_zero, List.push_toArray, List.append_toArray, List.nil_append, List.cons_append]
    have hmm := @run_makeMap Tryd.prog
    gi_upto_region 6 with (refine ⟨trivial, ?_⟩; gi_at_call 12; refine (callsIn_wide.2 (HC.out _ (b1 _ _))).mono ?_; rintro e w2 ⟨rfl, hb2⟩)
    clear hmm
    have zlt : w.heap.size < w2.heap.size := (HX.out w2 hb2).lt
    obtain ⟨W5, hW5⟩ : ∃ W5, W5 = ((w2.alloc (.cells #[.slice none 0 0] 42)).alloc (.map #[] 0)).alloc (.cells #[.map (some (w2.heap.size + 1))] 73) := ⟨_, rfl⟩
    rw [← hW5]
    have hb5 : Below (w.alloc (.cells #[.int .i64 k, .int .i64 mn, .int .i64 mx, .int .i64 kd, .bool bd, .int .u64 bn, .slice A1 cs.length cap1, .string (strOf nm), .slice A ks.length cap, .int .u64 wi, .slice Ah hv.length ch, .slice Ae em.length ce] 39)).heap.size (w.alloc (.cells #[.int .i64 k, .int .i64 mn, .int .i64 mx, .int .i64 kd, .bool bd, .int .u64 bn, .slice A1 cs.length cap1, .string (strOf nm), .slice A ks.length cap, .int .u64 wi, .slice Ah hv.length ch, .slice Ae em.length ce] 39)) W5 := hW5 ▸ bstep hb2 (b3 _ _ _ _)
    have hsz5 : W5.heap.size = w2.heap.size + 3 := by rw [hW5]; simp
    have z0 := (HX.out W5 hb5).cell 0 _ rfl
    have z1 := (HX.out W5 hb5).cell 1 _ rfl
    have z2 := (HX.out W5 hb5).cell 2 _ rfl
    have z3 := (HX.out W5 hb5).cell 3 _ rfl
    have z4 := (HX.out W5 hb5).cell 4 _ rfl
    have z5 := (HX.out W5 hb5).cell 5 _ rfl
    have z6 := (HX.out W5 hb5).cell 6 _ rfl
    have z7 := (HX.out W5 hb5).cell 7 _ rfl
    have z8 := (HX.out W5 hb5).cell 8 _ rfl
    have z9 := (HX.out W5 hb5).cell 9 _ rfl
    have z10 := (HX.out W5 hb5).cell 10 _ rfl
    have z11 := (HX.out W5 hb5).cell 11 _ rfl
    have hun3 := hun2 W5
    have HW5 := Lib.hid hW5
    clear hun2 hW5
    gi_wp2_with (refine ⟨trivial, ?_⟩; refine (callsIn_wide.2 hun3).mono ?_; rintro e w' ⟨rfl, rfl⟩)
    clear hun3 z0 z1 z2 z3 z4 z5 z6 z7 z8 z9 z10 z11
    obtain ⟨W3, hW3⟩ : ∃ W3, W3 = W5.alloc (.cells #[.int .i64 k, .int .i64 mn, .int .i64 mx, .int .i64 kd, .bool bd, .int .u64 bn, .slice A1 cs.length cap1, .string (strOf nm), .slice A ks.length cap, .int .u64 wi, .slice Ah hv.length ch, .slice Ae em.length ce] 39) := ⟨_, rfl⟩
    rw [← hW3]
    have hst := show Below w.heap.size w W3 ∧ W3.heap.size = w2.heap.size + 4 ∧ Bx W3 w2.heap.size 42 [.slice none 0 0] ∧ W3.ownsMap Tryd.prog 9 (plainElem Tryd.prog 4) (w2.heap.size + 1) 0 (mapT []) ∧ Bx W3 (w2.heap.size + 1 + 1) 73 [.map (some (w2.heap.size + 1))] ∧ Bx W3 (w2.heap.size + 1 + 1 + 1) 39 [.int .i64 k, .int .i64 mn, .int .i64 mx, .int .i64 kd, .bool bd, .int .u64 bn, .slice A1 cs.length cap1, .string (strOf nm), .slice A ks.length cap, .int .u64 wi, .slice Ah hv.length ch, .slice Ae em.length ce] from by
      rw [hW3, HW5.out]
      have h1 := Bx.new w2 [.slice none 0 0] 42
      have h2 := World.ownsMap_made (H := Unit) (w2.alloc (.cells #[.slice none 0 0] 42)) Tryd.prog 9 (plainElem Tryd.prog 4)
      have h3 := Bx.new ((w2.alloc (.cells #[.slice none 0 0] 42)).alloc (.map #[] 0)) [.map (some (w2.heap.size + 1))] 73
      have h4 := Bx.new (((w2.alloc (.cells #[.slice none 0 0] 42)).alloc (.map #[] 0)).alloc (.cells #[.map (some (w2.heap.size + 1))] 73)) [.int .i64 k, .int .i64 mn, .int .i64 mx, .int .i64 kd, .bool bd, .int .u64 bn, .slice A1 cs.length cap1, .string (strOf nm), .slice A ks.length cap, .int .u64 wi, .slice Ah hv.length ch, .slice Ae em.length ce] 39
      simp only [World.size_alloc] at h2 h3 h4
      exact ⟨bstep (bstep (bstep (b1 _ _) hb2) (b3 _ _ _ _)) (b1 _ _), by simp, ((h1.later (b1 _ _)).later (b1 _ _)).later (b1 _ _), (h2.alloc _).alloc _, h3.later (b1 _ _), h4⟩
    obtain ⟨hb3, hsz3, hl3, hm3, hx3, hq3⟩ := hst
    have hwl : w.heap.size < w2.heap.size := zlt
    have hseq := HQ.out (w2.heap.size + 1 + 1 + 1) W3 (SameB.of hb3) hq3
    clear hW3 HW5 hb5 hq3 HQ HX HC
    refine wpIn_range_own (gf := 48) (lb := #[.pointer (some ⟨w2.heap.size + 1 + 1 + 1, 0, none⟩)]) (by first | rfl | simp [hsz5, go_sem]) (enters_of Tryd.func48 (by kernel_rfl) rfl)
      hseq (by omega) (Below.refl _ _) (fun _ => rfl)
      (fun pre Wx => ∃ v, Bx Wx w2.heap.size 42 [v] ∧ Wx.ownsRow w.heap.size 9 1 v (firsts [] pre).length ((firsts [] pre).map fun s => .string (strOf s)) ∧ Below w.heap.size w Wx ∧ Wx.ownsMap Tryd.prog 9 (plainElem Tryd.prog 4) (w2.heap.size + 1) (firsts [] pre).length (mapT (firsts [] pre)) ∧ Bx Wx (w2.heap.size + 1 + 1) 73 [.map (some (w2.heap.size + 1))])
      (fun pre Wx => False)
      ?hI ?hIx ?h0 (fun x act Wx => act = { tmps := #[.agg #[.int .i64 k, .int .i64 mn, .int .i64 mx, .int .i64 kd, .bool bd, .int .u64 bn, .slice A1 cs.length cap1, .string (strOf nm), .slice A ks.length cap, .int .u64 wi, .slice Ah hv.length ch, .slice Ae em.length ce], .pointer (some ⟨w.heap.size, 0, none⟩), .slice none 0 0, .int .i64 0, .int .i64 0, .pointer (some ⟨w2.heap.size, 0, none⟩), .pointer (some ⟨w2.heap.size + 1 + 1, 0, none⟩), .string (strOf x), .agg #[.int .i64 k, .int .i64 mn, .int .i64 mx, .int .i64 kd, .bool bd, .int .u64 bn, .slice A1 cs.length cap1, .string (strOf nm), .slice A ks.length cap, .int .u64 wi, .slice Ah hv.length ch, .slice Ae em.length ce], .int .i64 0, .int .i64 0, .bool false, undef, .map (some (w2.heap.size + 1)), .agg #[.int .i64 k, .int .i64 mn, .int .i64 mx, .int .i64 kd, .bool bd, .int .u64 bn, .slice A1 cs.length cap1, .string (strOf nm), .slice A ks.length cap, .int .u64 wi, .slice Ah hv.length ch, .slice Ae em.length ce], .func (.func 48) #[] #[.pointer (some ⟨w2.heap.size + 1 + 1 + 1, 0, none⟩)], .string (strOf x), undef, undef, undef, undef, undef, undef, undef, undef, undef, undef, undef], defers := [] }) ?hA ?assign ?body ?done ?stop
    case hI =>
      rintro s Wx Wy ⟨v, g1, g2, g3, g4, g5⟩ ht
      exact ⟨v, bx_turn g1 ht (.inl (by omega)), row_turn g2 ht (by decide), ht.below g3 (by omega) (Nat.le_refl _), owns_turn g4 ht (by omega), bx_turn g5 ht (.inl (by omega))⟩
    case hIx =>
      rintro s Wx Wy g1 ht
      exact g1.elim
    case h0 => exact ⟨_, hl3, World.ownsRow_nil _ _ _ _, hb3, hm3, hx3⟩
    case hA =>
      rintro x act s Wx Wy row h3 hg hr
      exact h3
    case assign =>
      intro l2 pre x Wx K hp hsz hi hK
      clear hi hseq
      gi_wp2
      exact hK _ _ rfl (Below.refl _ _)
    case body =>
      rintro l2 pre x act Wx hp hsz ⟨v, g1, g2, g3, g4, g5⟩ rfl
      have hpl : (firsts [] pre).length + 1 ≤ 1000000 := by
        have h2 := hp.length_le
        have h3 := firsts_len pre
        rw [List.length_append, List.length_singleton] at h2
        omega
      have hkey := wkey x (HNU.out x (hp.subset (by simp)))
      have hat := mapT_at (firsts [] pre) x
      rw [firsts_mem] at hat
      have hfs := firsts_snoc x pre []
      obtain ⟨cc, hcc⟩ : ∃ cc, cc = pre.contains x := ⟨_, rfl⟩
      rw [← hcc] at hat hfs
      have hfs2 : firsts [] (pre ++ [x]) = firsts [] pre ++ (if cc = true then [] else [x]) := by rw [hfs]; simp
      obtain ⟨xs, hxs⟩ : ∃ xs, xs = pre ++ [x] := ⟨_, rfl⟩
      rw [← hxs] at hfs2 ⊢
      obtain ⟨fs, hfse⟩ : ∃ fs, fs = firsts [] pre := ⟨_, rfl⟩
      rw [← hfse] at hfs2 hat hpl g2 g4
      clear hxs hp hcc hfse hfs
      have HKEY := Lib.hid hkey
      have m1 := g1.blk.cell 0 _ rfl
      have m2 := g1.blk.fr 0 _ rfl
      have x1 := g5.blk.cell 0 _ rfl
      have hml := g1.lt
      have hrun := g2
      cases cc with
      | true =>
        have HAT2 : RowKit.Hid ((mapT fs).atKey (.string x) (.lit (.bool false)) = .lit (.bool true)) := Lib.hid hat
        have HFS : RowKit.Hid (firsts [] xs = fs) := Lib.hid (by rw [hfs2]; simp)
        have G1 := Lib.hid g1
        have G2 := Lib.hid g2
        have G3 := Lib.hid g3
        have G4 := Lib.hid g4
        have G5 := Lib.hid g5
        obtain ⟨nn, hnn⟩ : ∃ nn, nn = strOf x := ⟨_, rfl⟩
        rw [← hnn] at HKEY ⊢
        clear hat hfs2 hkey g1 g2 g3 g4 g5 hseq hrun hnn
        gi_wp2_with (gi_at_lookup; refine wpListIn_lookup_bool _ rfl _ _ 73 rfl 9 4 wkeys Tryd.underlying73 Tryd.underlying4 (zeroBool10 _) _ _ _ rfl G4.out _ _ rfl HKEY.out _ HAT2.out ?_)
        exact ⟨KeepW.refl _ _, v, G1.out, by rw [HFS.out]; exact G2.out, G3.out, by rw [HFS.out]; exact G4.out, G5.out⟩
      | false =>
        have HAT2 : RowKit.Hid ((mapT fs).atKey (.string x) (.lit (.bool false)) = .lit (.bool false)) := Lib.hid hat
        have hfs3 : firsts [] xs = fs ++ [x] := by rw [hfs2]; simp
        have HFS := Lib.hid hfs3
        have hmp : (firsts [] xs).map (fun s => Value.string (strOf s)) = (fs.map fun s => .string (strOf s)) ++ [.string (strOf x)] := by rw [hfs3, List.map_append]; rfl
        have hxl : (firsts [] xs).length = fs.length + 1 := by rw [hfs3]; simp
        have hmt : mapT (firsts [] xs) = (mapT fs).put (.string x) (.lit (.bool true)) := by rw [hfs3, mapT_snoc]
        obtain ⟨pl, hple⟩ : ∃ pl, pl = fs.length := ⟨_, rfl⟩
        rw [← hple] at hpl hxl g2 g4
        obtain ⟨us, hus⟩ : ∃ us, us = fs.map fun s => Value.string (strOf s) := ⟨_, rfl⟩
        rw [← hus] at hmp g2
        obtain ⟨D, hD⟩ : ∃ D, D = mapT fs := ⟨_, rfl⟩
        rw [← hD] at g4 hmt HAT2
        obtain ⟨A5, c5, rfl⟩ := own_form g2
        obtain ⟨i0, hi0, hz0, hz1, hz2⟩ := info_parts infoStr10
        obtain ⟨nn, hnn⟩ : ∃ nn, nn = strOf x := ⟨_, rfl⟩
        rw [← hnn] at hmp HKEY ⊢
        have HPL : RowKit.Hid (pl < maxLen) := Lib.hid (by unfold maxLen; omega)
        have hneb : (Value.slice A5 pl c5).ownBlock ≠ some (w2.heap.size + 1) := fun e => by
          rcases g2.2 with ⟨h1, -⟩ | ⟨g, cap, cur, h1, h2, h3, -⟩
          · rw [h1] at e; cases e
          · rw [h1] at e
            injection e with e
            obtain ⟨o, ho1, ho2⟩ := owns_obj g4
            simp only at e
            rw [← e, h3] at ho1
            cases ho1
            cases ho2
        have hput : ∀ w7, Wx.grownBy w7 (some (w2.heap.size + 1)) → w7.cell? ⟨w2.heap.size, 0, none⟩ = some (.slice A5 pl c5) ∧ w7.frozen? ⟨w2.heap.size, 0, none⟩ = false ∧ (w7.alloc (.cells #[.string nn] 9)).ownsRow w.heap.size 9 1 (.slice A5 pl c5) pl us := fun w7 hg => by
          have h1 := bx_grown g1 hg (by omega)
          exact ⟨h1.blk.cell 0 _ rfl, h1.blk.fr 0 _ rfl, (g2.kept hg (.inr hneb)).alloc _⟩
        have hside : ∀ w7, Wx.grownBy w7 (some (w2.heap.size + 1)) → (∀ j u, [Value.string nn][j]? = some u → (w7.alloc (.cells #[.string nn] 9)).cell? ((⟨w7.heap.size, 0, none⟩ : Addr).add j) = some u) ∧ True ∧ w.heap.size ≤ (w7.alloc (.cells #[.string nn] 9)).heap.size := fun w7 hg => by
          refine ⟨fun j u h => ?_, trivial, by have := g3.size; have := hg.size; simp; omega⟩
          cases j with
          | zero => exact (Blk.new w7 [.string nn] 9).cell 0 u h
          | succ j => simp at h
        have hgr : ∀ v' w7 w1, Wx.grownBy w7 (some (w2.heap.size + 1)) → w1.ownsRow w.heap.size 9 1 v' (pl + 1) (us ++ [.string nn]) → (w7.alloc (.cells #[.string nn] 9)).grownBy w1 (Value.slice A5 pl c5).ownBlock → w1.cell? ⟨w2.heap.size, 0, none⟩ = some (.slice A5 pl c5) ∧ w1.frozen? ⟨w2.heap.size, 0, none⟩ = false := fun v' w7 w1 hg h1 h2 => by
          have h := (Boxed.appended (B := w2.heap.size) (t := 42) (bx_grown g1 hg (by omega)) (by decide) (g2.kept hg (.inr hneb)) (by have := g3.size; have := hg.size; omega) (by omega) h1 h2).1
          have hb : Bx w1 w2.heap.size 42 [.slice A5 pl c5] := h
          exact ⟨hb.blk.cell 0 _ rfl, hb.blk.fr 0 _ rfl⟩
        have s2 : ∀ u ∈ [Value.string nn], u.oneCell' = true := by simp [Value.oneCell']
        have s3' : pl + 1 ≤ maxLen := by unfold maxLen; omega
        have s4 : (pl + 1) * 16 ≤ 140737488355328 := by omega
        have HPUT := Lib.hid hput
        have HSIDE := Lib.hid hside
        have HGR := Lib.hid hgr
        have HMP := Lib.hid hmp
        have HXL := Lib.hid hxl
        have HMT := Lib.hid hmt
        have HNE := Lib.hid hneb
        have G1 := Lib.hid g1
        have G2 := Lib.hid g2
        have G3 := Lib.hid g3
        have G4 := Lib.hid g4
        have G5 := Lib.hid g5
        clear hput hside hgr hmp hxl hmt hneb g1 g2 g3 g4 g5 hat hfs2 hfs3 hkey hseq hple hus hD hnn HFS hrun
        gi_wp2_with (first | (gi_at_lookup; refine wpListIn_lookup_bool _ rfl _ _ 73 rfl 9 4 wkeys Tryd.underlying73 Tryd.underlying4 (zeroBool10 _) _ _ _ rfl G4.out _ _ rfl HKEY.out _ HAT2.out ?_) | (gi_at_mapUpdate; refine wpListIn_mapUpdate_own _ rfl _ _ _ 73 rfl 9 4 wkeys Tryd.underlying73 _ _ _ _ rfl G4.out HPL.out _ _ (.string x) rfl rfl HKEY.out (.lit (.bool true)) [] (plainElem_bool Tryd.underlying4 _) ?_; intro w7 hown7 hg7; obtain ⟨p1, p2, p3⟩ := HPUT.out w7 hg7; obtain ⟨s1, s3, s5⟩ := HSIDE.out w7 hg7) | (gi_at_builtin; refine wpListIn_append_own _ rfl _ _ 42 rfl w.heap.size 9 i0 _ 1 16 Tryd.underlying42 hi0 hz0 hz1 hz2 rfl (by decide) (.slice A5 pl c5) pl us rfl p3 ⟨w7.heap.size, 0, none⟩ 1 1 [.string nn] rfl rfl s1 s2 s3' s4 s5 ?_; intro v' w1 hown1 hg1 hnil; obtain ⟨A6, c6, rfl⟩ := own_form hown1; obtain ⟨m3, m4⟩ := HGR.out _ w7 w1 hg7 hown1 hg1; clear p1 p2))
        have h1 := bx_grown G1.out hg7 (by omega)
        have h2 := G2.out.kept hg7 (.inr HNE.out)
        have hb7 : Below w.heap.size w w7 := G3.out.grown hg7 G3.out.size (fun j e => by cases e; omega)
        have hB := Boxed.appended (B := w2.heap.size) (t := 42) h1 (by decide) h2 (by have := hb7.size; omega) (by omega) hown1 hg1
        obtain ⟨o, ho1, ho2⟩ := owns_obj G4.out
        obtain ⟨o7, ho71, ho72⟩ := owns_obj hown7
        have hm1 : w1.ownsMap Tryd.prog 9 (plainElem Tryd.prog 4) (w2.heap.size + 1) (pl + 1) (D.put (.string x) (.lit (.bool true))) := (hown7.alloc _).kept hg1 (fun e => HNE.out e.symm)
        have hx1 : Bx w1 (w2.heap.size + 1 + 1) 73 [.map (some (w2.heap.size + 1))] := by
          have h3 := bx_grown G5.out hg7 (by omega)
          refine (hg1.block _ (by rw [World.size_alloc]; have := h3.lt; omega) (fun e => ?_)).trans (h3.later (b1 _ _))
          rcases h2.2 with ⟨h4, -⟩ | ⟨g, cap, cur, h4, h5, h6, -⟩
          · rw [h4] at e; cases e
          · rw [h4] at e
            injection e with e
            simp only at e
            have h7 : w7.heap[w2.heap.size + 1 + 1]? = _ := h3
            rw [e, h6] at h7
            cases h7
        exact ⟨(keep_grown (by omega) (by omega) ho1 ho2 hg7).trans ((KeepW.of (b1 _ _)).trans ((row_keep (h2.alloc _) hg1 (Nat.le_refl _) (by decide) (by decide)).trans (keep_set (by omega) hB.1 (by decide) (.inr (by decide)) 0 _))), _, hB.2.1, by rw [HXL.out, HMP.out]; exact hB.2.2.1, ⟨hB.2.2.2.2.os.trans hb7.os, hB.2.2.2.2.tape.trans hb7.tape, hB.2.2.2.2.output.trans hb7.output, Nat.le_trans hb7.size hB.2.2.2.2.size, fun k hk => (hB.2.2.2.2.block k hk).trans (hb7.block k hk)⟩, by rw [HXL.out, HMT.out]; exact hm1.setCell (by simp) _, bx_other hx1 (by simp; omega) _⟩
    case done =>
      rintro D Wx hD ⟨v, g1, g2, g3, -, -⟩ hKd
      obtain ⟨A5, c5, rfl⟩ := own_form g2
      have m1 := g1.blk.cell 0 _ rfl
      have HD := Lib.hid hKd
      obtain ⟨fs, hfs⟩ : ∃ fs, fs = firsts [] L := ⟨_, rfl⟩
      rw [← hfs] at g2 m1
      have HFS := Lib.hid hfs
      have G2 := Lib.hid g2
      have G3 := Lib.hid g3
      clear hseq g1 g2 g3 hKd hfs
      gi_wp2
      rw [← HFS.out]
      refine leaves_marks (t := 3) (B := W3.heap.size) (fun W' => Below w.heap.size w W' ∧ W'.ownsRow w.heap.size 9 1 (.slice A5 fs.length c5) fs.length (fs.map fun s => .string (strOf s))) (fun W1 W2 h ht => ⟨ht.below h.1 (by omega) (Nat.le_refl _), row_turn h.2 ht (by decide)⟩) (fun W' h => ⟨.tuple #[.slice A5 fs.length c5, .int .i64 0], by simp [results, Tryd.f17, go_sem], ⟨_, rfl, h.2, h.1⟩⟩) [D] Wx (by simp) (fun E hE => by rw [List.mem_singleton] at hE; subst hE; exact ⟨by omega, HD.out⟩) ⟨G3.out, G2.out⟩
    case stop =>
      rintro D pre Wx hD hp g1 hKd
      exact g1.elim
  · have hEb : (E == 0) = false := by simpa using hE
    rw [if_neg hE]
    clear hun2
    go_enter Tryd.func17, Tryd.ntmps17
    go_wp2_with (go_at_call 12; refine (HC.out _ (b1 _ _)).mono ?_; rintro e w2 ⟨rfl, hb2⟩)
    go_ret2
    exact ⟨_, rfl, World.ownsRow_nil _ _ _ _, bstep (b1 _ _) hb2⟩
end Go.Proofs.YthiacfmedcfcjaaDoor
