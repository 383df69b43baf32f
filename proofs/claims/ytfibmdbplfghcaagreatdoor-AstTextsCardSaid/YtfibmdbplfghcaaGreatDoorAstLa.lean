/- Walks: what the program takes of the leaves: Atoms, Negated. Made by program (wip/tools/gen_astLf.py). -/
import Derived.Test.YtfibmdbplfghcaaGreatDoorAstLb
namespace Go.Proofs.YtfibmdbplfghcaaGreatDoor
open Go.RowKit Go.Shelf
open A8 Tk7 Lb
attribute [local go_sem] Oper.semAt_some

set_option maxRecDepth 100000 in
set_option maxHeartbeats 16000000 in
theorem leavesA_any (T : Tr) (w : World) (hT : TrW w T) (hlen : (subsT T).length ≤ 999999) (hG : SG w) (hcs : ∀ t ∈ subsT T, t.nd.atom.cs.length ≤ 1000000) :
    Calls Tryz.prog 54 #[.agg T.row.toArray, .func (.func 55) #[] #[]] w fun e w' => ∃ (gs : List GA) (v : Value), IsL (gs.map (fun g => g.a)) (if soundN 1 T.nd = true then (leavesN T.nd).map Nd.atom else []) ∧ e = .returned (.tuple #[v, .int .i64 (soundE T.nd)]) ∧ w'.ownsRow w.heap.size 25 5 v gs.length (gs.flatMap gaC) ∧ (∀ g ∈ gs, w'.ownsRow w.heap.size 59 2 g.sc g.a.cs.length (g.a.cs.flatMap cnC)) ∧ Below w.heap.size w w' := by
  obtain ⟨i0, hi, hz0, hz1, hz2⟩ := info_parts infoAtom
  have hS := fun w1 (hb : Below w.heap.size w w1) => sound_any T w1 (hT.later hb) hlen (hG.later hb)
  have hse : soundE T.nd = if soundN 1 T.nd = true then 0 else 3 := rfl
  rw [hse] at hS ⊢
  cases hs : soundN 1 T.nd with
  | false =>
    rw [hs] at hS
    clear hse hs hT hlen hG hcs
    obtain ⟨k, mn, mx, ⟨⟨kd, bd, bn, cs, nm⟩, sc⟩, sk, ks⟩ := T
    simp only [Tr.row] at hS ⊢
    go_enter Tryz.func54, Tryz.ntmps54
    go_wp2_with (go_at_call 16; refine (hS _ (b2 _ _ _)).mono ?_; rintro e w2 ⟨rfl, hb2⟩)
    go_ret2
    exact ⟨[], rfl, .slice none 0 0, rfl, World.ownsRow_nil _ _ _ _, (by intro g hg; cases hg), bstep (b2 _ _ _) hb2⟩
  | true =>
    rw [hs, if_pos rfl] at hS
    rw [if_pos rfl, if_pos rfl]
    have hval : leafF Nd.atom (preT 1 T) = (leavesN T.nd).map Nd.atom := leafF_all _ T 1
    have hpl : (preT 1 T).length ≤ 999999 := by rw [← List.length_map (f := Prod.snd), preT_snd]; exact hlen
    have hnd := fun w => nodes_any T w
    have hst := fun (b : Nat) (W : World) (hS : SameB w.heap.size w W) (hB : Blk W b T.row) => nodes_stops 2 w T hT hlen b W hS hB
    obtain ⟨L, hLL⟩ : ∃ L, L = preT 1 T := ⟨_, rfl⟩
    have hmem : ∀ x ∈ L, TrW w x.2 ∧ x.2.nd.atom.cs.length ≤ 1000000 := fun x hx => by
      rw [hLL] at hx
      have h1 := preT_mem hx
      exact ⟨fun u hu => hT u (subs_trans h1 hu), hcs _ h1⟩
    have HV := Lib.hid hval
    rw [← hLL] at hst hpl HV
    clear hse hs hT hlen hG hcs hval hLL
    have hbx : ∀ w1, Below ((w.alloc (.cells T.row.toArray 28)).alloc (.cells #[.func (.func 55) #[] #[]] 93)).heap.size ((w.alloc (.cells T.row.toArray 28)).alloc (.cells #[.func (.func 55) #[] #[]] 93)) w1 → Blk w1 w.heap.size T.row ∧ Bx w1 (w.heap.size + 1) 93 [.func (.func 55) #[] #[]] := fun w1 hb => ⟨((Blk.new w _ _).alloc _).later hb, by
      have := (Bx.new (w.alloc (.cells T.row.toArray 28)) [.func (.func 55) #[] #[]] 93).later hb
      rw [World.size_alloc] at this
      exact this⟩
    obtain ⟨S, hSS⟩ : ∃ S, S = (leavesN T.nd).map Nd.atom := ⟨_, rfl⟩
    rw [← hSS] at HV ⊢
    clear hSS
    obtain ⟨k, mn, mx, ⟨⟨kd, bd, bn, cs, nm⟩, sc⟩, sk, ks⟩ := T
    replace hst : ∀ (b : Nat) (W : World), SameB w.heap.size w W → Blk W b [.int .i64 k, .int .i64 mn, .int .i64 mx, .int .i64 kd, .bool bd, .int .u64 bn, sc, .string (strOf nm), sk] → SeqL Fence.wide 2 Tryz.prog 91 #[.pointer (some ⟨b, 0, none⟩)] (fun x : Nat × Tr => #[.int .i64 (x.1 : Int), .agg x.2.row.toArray]) (KeepN w.heap.size) L W := hst
    simp only [Tr.row] at hnd hS hbx ⊢
    refine (callsIn_wide (n := 3)).1 ?_
    refine callsIn_of_wp_marks Tryz.func54 rfl trivial ?_ rfl
    simp only [Tryz.ntmps54, List.size_toArray, List.length_cons, List.length_nil, Nat.reduceAdd, Nat.reduceSub, Array.replicate_succ, Array.replicate_zero, List.push_toArray, List.append_toArray, List.nil_append, List.cons_append]
    gi_wp2_with (first | (refine ⟨trivial, ?_⟩; gi_at_call 16; refine (callsIn_wide.2 (hS _ (b2 _ _ _))).mono ?_; rintro e w2 ⟨rfl, hb2⟩; obtain ⟨hB, hFn⟩ := hbx _ hb2; have c0 := hB.cell 0 _ rfl; have c1 := hB.cell 1 _ rfl; have c2 := hB.cell 2 _ rfl; have c3 := hB.cell 3 _ rfl; have c4 := hB.cell 4 _ rfl; have c5 := hB.cell 5 _ rfl; have c6 := hB.cell 6 _ rfl; have c7 := hB.cell 7 _ rfl; have c8 := hB.cell 8 _ rfl; have clt := hB.lt; clear hB) | (refine ⟨trivial, ?_⟩; gi_at_call 49; refine (callsIn_wide.2 (hnd _)).mono ?_; rintro e w' ⟨rfl, rfl⟩))
    clear c0 c1 c2 c3 c4 c5 c6 c7 c8
    have hb3 := bstep (b2 w _ _) hb2
    have hmB : w.heap.size + 2 ≤ w2.heap.size := by have := hb2.size; simp at this; omega
    obtain ⟨W0, hW0⟩ : ∃ W0, W0 = (w2.alloc (.cells #[.slice none 0 0] 44)).alloc (.cells #[.int .i64 k, .int .i64 mn, .int .i64 mx, .int .i64 kd, .bool bd, .int .u64 bn, sc, .string (strOf nm), sk] 28) := ⟨_, rfl⟩
    rw [show ((w2.alloc (.cells #[.slice none 0 0] 44)).alloc (.cells #[.int .i64 k, .int .i64 mn, .int .i64 mx, .int .i64 kd, .bool bd, .int .u64 bn, sc, .string (strOf nm), sk] 28)) = W0 from hW0.symm]
    have hb0 : Below w2.heap.size w2 W0 := hW0 ▸ b2 w2 _ _
    have hsz : W0.heap.size = w2.heap.size + 2 := by rw [hW0]; simp
    have hK0 : Bx W0 w2.heap.size 44 [.slice none 0 0] := by rw [hW0]; exact (Bx.new w2 [.slice none 0 0] 44).later (b1 _ _)
    have hK1 : Blk W0 (w2.heap.size + 1) [.int .i64 k, .int .i64 mn, .int .i64 mx, .int .i64 kd, .bool bd, .int .u64 bn, sc, .string (strOf nm), sk] := by rw [hW0]; exact Blk.is (us := [.int .i64 k, .int .i64 mn, .int .i64 mx, .int .i64 kd, .bool bd, .int .u64 bn, sc, .string (strOf nm), sk]) _ (by simp)
    have hbw : Below w.heap.size w W0 := bstep hb3 hb0
    replace hFn := hFn.later hb0
    clear hW0 hbx hb2 clt
    refine wpIn_range_list rfl (by decide) (gf := 91) (lb := #[.pointer (some ⟨w2.heap.size + 1, 0, none⟩)]) rfl trivial (enters_of Tryz.func91 (by kernel_rfl) rfl)
      (hst (w2.heap.size + 1) W0 (SameB.of hbw) hK1)
      (fun h k => KeepN.trans h k) (KeepN.put (by omega)) (fun W W' h => KeepN.of W W' h) (Below.refl _ _) (fun _ => rfl)
      (fun pre W => ∃ (gs : List GA) (v : Value), IsL (gs.map (fun g => g.a)) (leafF Nd.atom pre) ∧ LR 44 25 93 5 (.func (.func 55) #[] #[]) gaC (fun g : GA => [(g.sc, g.a.cs.length, g.a.cs.flatMap cnC)]) w2.heap.size w gs v W) (fun _ _ => False)
      ?hI ?hIx ?h0 (fun x act W => ∃ b, w2.heap.size + 2 ≤ b ∧ act = { tmps := #[.agg #[.int .i64 k, .int .i64 mn, .int .i64 mx, .int .i64 kd, .bool bd, .int .u64 bn, sc, .string (strOf nm), sk], .func (.func 55) #[] #[], .pointer (some ⟨w.heap.size, 0, none⟩), .pointer (some ⟨w.heap.size + 1, 0, none⟩), .slice none 0 0, .int .i64 0, .int .i64 0, .pointer (some ⟨w2.heap.size, 0, none⟩), undef, .pointer (some ⟨b, 0, none⟩), .agg #[.int .i64 k, .int .i64 mn, .int .i64 mx, .int .i64 kd, .bool bd, .int .u64 bn, sc, .string (strOf nm), sk], .int .i64 0, .int .i64 0, .bool false, undef, .agg #[.int .i64 k, .int .i64 mn, .int .i64 mx, .int .i64 kd, .bool bd, .int .u64 bn, sc, .string (strOf nm), sk], .func (.func 91) #[] #[.pointer (some ⟨w2.heap.size + 1, 0, none⟩)], .int .i64 (x.1 : Int), .agg x.2.row.toArray, undef, undef, undef, undef, undef, undef, undef, undef, undef, undef, undef], defers := [] } ∧ Blk W b x.2.row) ?hA ?assign ?body ?done ?stop
    case hI =>
      rintro s A B row ⟨gs, v, h1, h2⟩ hg hr
      exact ⟨gs, v, h1, h2.grown (by omega) hg fun j e => by have := hr j e; rw [hsz] at this; exact this⟩
    case hIx => intro s A B row h; exact h.elim
    case h0 => exact ⟨[], _, rfl, hK0, World.ownsRow_nil _ _ _ _, (by intro g hg; cases hg), hFn, hbw, by omega⟩
    case hA =>
      rintro x act s A B row ⟨b, h1, h2, h3⟩ hg hr
      exact ⟨b, h1, h2, blk_noncells (by cases x.2; simp [Tr.row]) h3 hg fun j e => (hr j e).2⟩
    case assign =>
      intro l pre x W K hp hW hK
      have ho := (hmem x (hp.subset (by simp))).1.one
      rw [hsz] at hW
      obtain ⟨d, k', mn', mx', ⟨⟨kd', bd', bn', cs', nm'⟩, sc'⟩, sk', ks'⟩ := x
      obtain ⟨-, ⟨-, h1⟩, h2⟩ := ho
      simp only at h1
      obtain ⟨A1, c1, rfl, -, -⟩ := sl_get (by decide) h1
      obtain ⟨A2, c2, rfl, -, -⟩ := sl_get (by decide) h2
      simp only [Tr.row] at hK ⊢
      clear h1 h2 hst hnd hmem
      gi_wp2
      exact hK _ _ ⟨W.heap.size, by omega, rfl, Blk.new _ _ _⟩ (b1 _ _)
    case body =>
      rintro l pre x act W hp ⟨gs, v, hgs, h⟩ ⟨b, hb4, rfl, hB⟩
      have ho := (hmem x (hp.subset (by simp))).1.one
      have hcx := (hmem x (hp.subset (by simp))).2
      have hgl : gs.length ≤ 999999 := by
        have h1 := leafF_le Nd.atom pre
        unfold IsL at hgs; rw [← hgs, List.length_map] at h1
        have h2 := hp.length_le
        rw [List.length_append] at h2
        omega
      obtain ⟨d, k', mn', mx', ⟨⟨kd', bd', bn', cs', nm'⟩, sc'⟩, sk', ks'⟩ := x
      simp only [Tr.row] at hB ⊢
      obtain ⟨-, hoA, hsk⟩ := ho.same (SameB.of h.bel)
      obtain ⟨A9, cp9, rfl, -, -⟩ := sl_get (by decide) hsk
      have c0 := hB.cell 0 _ rfl
      have c1 := hB.cell 1 _ rfl
      have c2 := hB.cell 2 _ rfl
      have c3 := hB.cell 3 _ rfl
      have c4 := hB.cell 4 _ rfl
      have c5 := hB.cell 5 _ rfl
      have c6 := hB.cell 6 _ rfl
      have c7 := hB.cell 7 _ rfl
      have c8 := hB.cell 8 _ rfl
      have r0 := h.out.blk.cell 0 _ rfl
      have r1 := h.out.blk.fr 0 _ rfl
      have p0 := h.fn.blk.cell 0 _ rfl
      have H := Lib.hid h
      by_cases hk : ks' = []
      · subst hk
        have hF : Calls Tryz.prog 55 #[.agg #[.int .i64 k', .int .i64 mn', .int .i64 mx', .int .i64 kd', .bool bd', .int .u64 bn', sc', .string (strOf nm'), .slice A9 0 cp9]] W.drew fun e w' => ∃ (A3 : Option Addr) (c3 : Nat), e = .returned (.agg #[.int .i64 kd', .bool bd', .int .u64 bn', .slice A3 cs'.length c3, .string (strOf nm')]) ∧ w'.ownsRow W.heap.size 59 2 (.slice A3 cs'.length c3) cs'.length (cs'.flatMap cnC) ∧ Below W.heap.size W w' := by
          have hoD : OneA W.drew ⟨⟨kd', bd', bn', cs', nm'⟩, sc'⟩ := ⟨hoA.1, hoA.2⟩
          refine (atoms1_any (.mk k' mn' mx' ⟨⟨kd', bd', bn', cs', nm'⟩, sc'⟩ (.slice A9 0 cp9) []) ⟨⟨kd', bd', bn', cs', nm'⟩, sc'⟩ W.drew ⟨_, _, _, _, _, rfl⟩ hoD hcx).mono ?_
          rintro e w' ⟨⟨ga, gsc⟩, rfl, rfl, h1, h2⟩
          obtain ⟨A3, c3, rfl⟩ := own_form h1
          exact ⟨A3, c3, rfl, h1, below_drew h2⟩
        have hSn : ∀ g : GA, g.a = ⟨kd', bd', bn', cs', nm'⟩ → IsL ((gs ++ [g]).map (fun g => g.a)) (leafF Nd.atom (pre ++ [(d, Tr.mk k' mn' mx' ⟨⟨kd', bd', bn', cs', nm'⟩, sc'⟩ (.slice A9 0 cp9) [])])) := fun g hg => by
          unfold IsL at hgs ⊢
          rw [leafF_leaf _ _ _ rfl, List.map_append, hgs, List.map_cons, List.map_nil, hg]
          rfl
        have HF := Lib.hid hF
        have HS := Lib.hid hSn
        clear hst hnd hmem hB h ho hoA hsk hF hSn hgs hp hcx
        simp only [List.length_nil]
        gi_wp2
        refine wpIn_region_any (by kernel_rfl) ?_
        change wpAnyIn _ _ _ _ _ _ _ _ _ (World.drew _)
        refine wpAnyIn_ready (rs := [0, 1, 2]) (by kernel_rfl) (by simp) ?_
        refine AllReadyIn.cons rfl (fun K hK => ?_) ?_
        · go_simp
          refine hK _ _ ?_
          clear hK K
          refine wpAnyIn_ready (rs := [1, 2]) (by kernel_rfl) (by simp) ?_
          refine AllReadyIn.cons rfl (fun K hK => ?_) ?_
          · go_simp
            refine hK _ _ ?_
            clear hK K
            refine wpAnyIn_ready (rs := [2]) (by kernel_rfl) (by simp) ?_
            refine AllReadyIn.cons rfl (fun K hK => ?_) ?_
            · go_simp
              refine hK _ _ ?_
              clear hK K
              refine wpAnyIn_ready (rs := [3]) (by kernel_rfl) (by simp) ?_
              refine AllReadyIn.cons rfl (fun K hK => ?_) ?_
              · go_simp
                refine ⟨trivial, ?_⟩
                refine (CallsIn.inRound l (callsIn_wide.2 HF.out)).mono ?_
                rintro e w1 ⟨A3, c3, rfl, hcr, hb1⟩
                have r0 := (H.out.out.later hb1).blk.cell 0 _ rfl
                have rp := fun o => ((H.out.out.later hb1).later (b1 w1 o)).blk.cell 0 _ rfl
                refine hK _ _ ?_
                clear hK K
                refine wpAnyIn_ready (rs := [4]) (by kernel_rfl) (by simp) ?_
                refine AllReadyIn.cons rfl (fun K hK => ?_) ?_
                · go_simp
                  refine hK _ _ ?_
                  clear hK K
                  refine wpAnyIn_ready (rs := [5]) (by kernel_rfl) (by simp) ?_
                  refine AllReadyIn.cons rfl (fun K hK => ?_) ?_
                  · refine stepIn_append_own rfl _ _ 44 rfl (w2.heap.size + 2) 25 i0 (.agg #[.int .i64 0, .bool false, .int .u64 0, .slice none 0 0, .string ⟨#[]⟩]) 5 64 Tryz.underlying44 hi hz0 hz1 hz2 rfl (by decide) v gs.length (gs.flatMap gaC) rfl (own_later (own_later H.out.row hb1) (b1 _ _)) ⟨w1.heap.size, 0, none⟩ 1 1 [.int .i64 kd', .bool bd', .int .u64 bn', .slice A3 cs'.length c3, .string (strOf nm')] rfl rfl (blk_cells (blk_new' w1 [.int .i64 kd', .bool bd', .int .u64 bn', .slice A3 cs'.length c3, .string (strOf nm')] 25)) (by simp [Value.oneCell']) (by unfold maxLen; omega) (by omega) (by have := H.out.big; have := hb1.size; simp; omega) ?_
                    intro v' w3 hown' hgrow _
                    refine hK _ _ ?_
                    clear hK K
                    obtain ⟨g', cap', rfl⟩ := ownsRow_succ hown'
                    obtain ⟨ho2, hk2, hkN2, hv2⟩ := H.out.round (g := (⟨⟨kd', bd', bn', cs', nm'⟩, .slice A3 cs'.length c3⟩ : GA)) (by omega) (by decide) (by decide) (by decide) hb1 (by intro r hr; rw [List.mem_singleton.1 hr]; exact hcr) hown' hgrow
                    have hgs2 := HS.out ⟨⟨kd', bd', bn', cs', nm'⟩, .slice A3 cs'.length c3⟩ rfl
                    have z0 := ho2.blk.cell 0 _ rfl
                    have z1 := ho2.blk.fr 0 _ rfl
                    refine wpAnyIn_ready (rs := [6]) (by kernel_rfl) (by simp) ?_
                    refine AllReadyIn.cons rfl (fun K hK => ?_) ?_
                    · go_simp
                      refine hK _ _ ?_
                      clear hK K
                      refine wpAnyIn_done (by kernel_rfl) ?_ _
                      exact ⟨hk2, hkN2, _, _, hgs2, hv2⟩
                    exact AllReadyIn.nil
                  exact AllReadyIn.nil
                exact AllReadyIn.nil
              exact AllReadyIn.nil
            exact AllReadyIn.nil
          refine AllReadyIn.cons rfl (fun K hK => ?_) ?_
          · go_simp
            refine hK _ _ ?_
            clear hK K
            refine wpAnyIn_ready (rs := [1]) (by kernel_rfl) (by simp) ?_
            refine AllReadyIn.cons rfl (fun K hK => ?_) ?_
            · go_simp
              refine hK _ _ ?_
              clear hK K
              refine wpAnyIn_ready (rs := [3]) (by kernel_rfl) (by simp) ?_
              refine AllReadyIn.cons rfl (fun K hK => ?_) ?_
              · go_simp
                refine ⟨trivial, ?_⟩
                refine (CallsIn.inRound l (callsIn_wide.2 HF.out)).mono ?_
                rintro e w1 ⟨A3, c3, rfl, hcr, hb1⟩
                have r0 := (H.out.out.later hb1).blk.cell 0 _ rfl
                have rp := fun o => ((H.out.out.later hb1).later (b1 w1 o)).blk.cell 0 _ rfl
                refine hK _ _ ?_
                clear hK K
                refine wpAnyIn_ready (rs := [4]) (by kernel_rfl) (by simp) ?_
                refine AllReadyIn.cons rfl (fun K hK => ?_) ?_
                · go_simp
                  refine hK _ _ ?_
                  clear hK K
                  refine wpAnyIn_ready (rs := [5]) (by kernel_rfl) (by simp) ?_
                  refine AllReadyIn.cons rfl (fun K hK => ?_) ?_
                  · refine stepIn_append_own rfl _ _ 44 rfl (w2.heap.size + 2) 25 i0 (.agg #[.int .i64 0, .bool false, .int .u64 0, .slice none 0 0, .string ⟨#[]⟩]) 5 64 Tryz.underlying44 hi hz0 hz1 hz2 rfl (by decide) v gs.length (gs.flatMap gaC) rfl (own_later (own_later H.out.row hb1) (b1 _ _)) ⟨w1.heap.size, 0, none⟩ 1 1 [.int .i64 kd', .bool bd', .int .u64 bn', .slice A3 cs'.length c3, .string (strOf nm')] rfl rfl (blk_cells (blk_new' w1 [.int .i64 kd', .bool bd', .int .u64 bn', .slice A3 cs'.length c3, .string (strOf nm')] 25)) (by simp [Value.oneCell']) (by unfold maxLen; omega) (by omega) (by have := H.out.big; have := hb1.size; simp; omega) ?_
                    intro v' w3 hown' hgrow _
                    refine hK _ _ ?_
                    clear hK K
                    obtain ⟨g', cap', rfl⟩ := ownsRow_succ hown'
                    obtain ⟨ho2, hk2, hkN2, hv2⟩ := H.out.round (g := (⟨⟨kd', bd', bn', cs', nm'⟩, .slice A3 cs'.length c3⟩ : GA)) (by omega) (by decide) (by decide) (by decide) hb1 (by intro r hr; rw [List.mem_singleton.1 hr]; exact hcr) hown' hgrow
                    have hgs2 := HS.out ⟨⟨kd', bd', bn', cs', nm'⟩, .slice A3 cs'.length c3⟩ rfl
                    have z0 := ho2.blk.cell 0 _ rfl
                    have z1 := ho2.blk.fr 0 _ rfl
                    refine wpAnyIn_ready (rs := [6]) (by kernel_rfl) (by simp) ?_
                    refine AllReadyIn.cons rfl (fun K hK => ?_) ?_
                    · go_simp
                      refine hK _ _ ?_
                      clear hK K
                      refine wpAnyIn_done (by kernel_rfl) ?_ _
                      exact ⟨hk2, hkN2, _, _, hgs2, hv2⟩
                    exact AllReadyIn.nil
                  exact AllReadyIn.nil
                exact AllReadyIn.nil
              exact AllReadyIn.nil
            exact AllReadyIn.nil
          exact AllReadyIn.nil
        refine AllReadyIn.cons rfl (fun K hK => ?_) ?_
        · go_simp
          refine hK _ _ ?_
          clear hK K
          refine wpAnyIn_ready (rs := [0, 2]) (by kernel_rfl) (by simp) ?_
          refine AllReadyIn.cons rfl (fun K hK => ?_) ?_
          · go_simp
            refine hK _ _ ?_
            clear hK K
            refine wpAnyIn_ready (rs := [2]) (by kernel_rfl) (by simp) ?_
            refine AllReadyIn.cons rfl (fun K hK => ?_) ?_
            · go_simp
              refine hK _ _ ?_
              clear hK K
              refine wpAnyIn_ready (rs := [3]) (by kernel_rfl) (by simp) ?_
              refine AllReadyIn.cons rfl (fun K hK => ?_) ?_
              · go_simp
                refine ⟨trivial, ?_⟩
                refine (CallsIn.inRound l (callsIn_wide.2 HF.out)).mono ?_
                rintro e w1 ⟨A3, c3, rfl, hcr, hb1⟩
                have r0 := (H.out.out.later hb1).blk.cell 0 _ rfl
                have rp := fun o => ((H.out.out.later hb1).later (b1 w1 o)).blk.cell 0 _ rfl
                refine hK _ _ ?_
                clear hK K
                refine wpAnyIn_ready (rs := [4]) (by kernel_rfl) (by simp) ?_
                refine AllReadyIn.cons rfl (fun K hK => ?_) ?_
                · go_simp
                  refine hK _ _ ?_
                  clear hK K
                  refine wpAnyIn_ready (rs := [5]) (by kernel_rfl) (by simp) ?_
                  refine AllReadyIn.cons rfl (fun K hK => ?_) ?_
                  · refine stepIn_append_own rfl _ _ 44 rfl (w2.heap.size + 2) 25 i0 (.agg #[.int .i64 0, .bool false, .int .u64 0, .slice none 0 0, .string ⟨#[]⟩]) 5 64 Tryz.underlying44 hi hz0 hz1 hz2 rfl (by decide) v gs.length (gs.flatMap gaC) rfl (own_later (own_later H.out.row hb1) (b1 _ _)) ⟨w1.heap.size, 0, none⟩ 1 1 [.int .i64 kd', .bool bd', .int .u64 bn', .slice A3 cs'.length c3, .string (strOf nm')] rfl rfl (blk_cells (blk_new' w1 [.int .i64 kd', .bool bd', .int .u64 bn', .slice A3 cs'.length c3, .string (strOf nm')] 25)) (by simp [Value.oneCell']) (by unfold maxLen; omega) (by omega) (by have := H.out.big; have := hb1.size; simp; omega) ?_
                    intro v' w3 hown' hgrow _
                    refine hK _ _ ?_
                    clear hK K
                    obtain ⟨g', cap', rfl⟩ := ownsRow_succ hown'
                    obtain ⟨ho2, hk2, hkN2, hv2⟩ := H.out.round (g := (⟨⟨kd', bd', bn', cs', nm'⟩, .slice A3 cs'.length c3⟩ : GA)) (by omega) (by decide) (by decide) (by decide) hb1 (by intro r hr; rw [List.mem_singleton.1 hr]; exact hcr) hown' hgrow
                    have hgs2 := HS.out ⟨⟨kd', bd', bn', cs', nm'⟩, .slice A3 cs'.length c3⟩ rfl
                    have z0 := ho2.blk.cell 0 _ rfl
                    have z1 := ho2.blk.fr 0 _ rfl
                    refine wpAnyIn_ready (rs := [6]) (by kernel_rfl) (by simp) ?_
                    refine AllReadyIn.cons rfl (fun K hK => ?_) ?_
                    · go_simp
                      refine hK _ _ ?_
                      clear hK K
                      refine wpAnyIn_done (by kernel_rfl) ?_ _
                      exact ⟨hk2, hkN2, _, _, hgs2, hv2⟩
                    exact AllReadyIn.nil
                  exact AllReadyIn.nil
                exact AllReadyIn.nil
              exact AllReadyIn.nil
            exact AllReadyIn.nil
          refine AllReadyIn.cons rfl (fun K hK => ?_) ?_
          · go_simp
            refine hK _ _ ?_
            clear hK K
            refine wpAnyIn_ready (rs := [0, 3]) (by kernel_rfl) (by simp) ?_
            refine AllReadyIn.cons rfl (fun K hK => ?_) ?_
            · go_simp
              refine hK _ _ ?_
              clear hK K
              refine wpAnyIn_ready (rs := [3]) (by kernel_rfl) (by simp) ?_
              refine AllReadyIn.cons rfl (fun K hK => ?_) ?_
              · go_simp
                refine ⟨trivial, ?_⟩
                refine (CallsIn.inRound l (callsIn_wide.2 HF.out)).mono ?_
                rintro e w1 ⟨A3, c3, rfl, hcr, hb1⟩
                have r0 := (H.out.out.later hb1).blk.cell 0 _ rfl
                have rp := fun o => ((H.out.out.later hb1).later (b1 w1 o)).blk.cell 0 _ rfl
                refine hK _ _ ?_
                clear hK K
                refine wpAnyIn_ready (rs := [4]) (by kernel_rfl) (by simp) ?_
                refine AllReadyIn.cons rfl (fun K hK => ?_) ?_
                · go_simp
                  refine hK _ _ ?_
                  clear hK K
                  refine wpAnyIn_ready (rs := [5]) (by kernel_rfl) (by simp) ?_
                  refine AllReadyIn.cons rfl (fun K hK => ?_) ?_
                  · refine stepIn_append_own rfl _ _ 44 rfl (w2.heap.size + 2) 25 i0 (.agg #[.int .i64 0, .bool false, .int .u64 0, .slice none 0 0, .string ⟨#[]⟩]) 5 64 Tryz.underlying44 hi hz0 hz1 hz2 rfl (by decide) v gs.length (gs.flatMap gaC) rfl (own_later (own_later H.out.row hb1) (b1 _ _)) ⟨w1.heap.size, 0, none⟩ 1 1 [.int .i64 kd', .bool bd', .int .u64 bn', .slice A3 cs'.length c3, .string (strOf nm')] rfl rfl (blk_cells (blk_new' w1 [.int .i64 kd', .bool bd', .int .u64 bn', .slice A3 cs'.length c3, .string (strOf nm')] 25)) (by simp [Value.oneCell']) (by unfold maxLen; omega) (by omega) (by have := H.out.big; have := hb1.size; simp; omega) ?_
                    intro v' w3 hown' hgrow _
                    refine hK _ _ ?_
                    clear hK K
                    obtain ⟨g', cap', rfl⟩ := ownsRow_succ hown'
                    obtain ⟨ho2, hk2, hkN2, hv2⟩ := H.out.round (g := (⟨⟨kd', bd', bn', cs', nm'⟩, .slice A3 cs'.length c3⟩ : GA)) (by omega) (by decide) (by decide) (by decide) hb1 (by intro r hr; rw [List.mem_singleton.1 hr]; exact hcr) hown' hgrow
                    have hgs2 := HS.out ⟨⟨kd', bd', bn', cs', nm'⟩, .slice A3 cs'.length c3⟩ rfl
                    have z0 := ho2.blk.cell 0 _ rfl
                    have z1 := ho2.blk.fr 0 _ rfl
                    refine wpAnyIn_ready (rs := [6]) (by kernel_rfl) (by simp) ?_
                    refine AllReadyIn.cons rfl (fun K hK => ?_) ?_
                    · go_simp
                      refine hK _ _ ?_
                      clear hK K
                      refine wpAnyIn_done (by kernel_rfl) ?_ _
                      exact ⟨hk2, hkN2, _, _, hgs2, hv2⟩
                    exact AllReadyIn.nil
                  exact AllReadyIn.nil
                exact AllReadyIn.nil
              exact AllReadyIn.nil
            refine AllReadyIn.cons rfl (fun K hK => ?_) ?_
            · go_simp
              refine ⟨trivial, ?_⟩
              refine (CallsIn.inRound l (callsIn_wide.2 HF.out)).mono ?_
              rintro e w1 ⟨A3, c3, rfl, hcr, hb1⟩
              have r0 := (H.out.out.later hb1).blk.cell 0 _ rfl
              have rp := fun o => ((H.out.out.later hb1).later (b1 w1 o)).blk.cell 0 _ rfl
              refine hK _ _ ?_
              clear hK K
              refine wpAnyIn_ready (rs := [0, 4]) (by kernel_rfl) (by simp) ?_
              refine AllReadyIn.cons rfl (fun K hK => ?_) ?_
              · go_simp
                refine hK _ _ ?_
                clear hK K
                refine wpAnyIn_ready (rs := [4]) (by kernel_rfl) (by simp) ?_
                refine AllReadyIn.cons rfl (fun K hK => ?_) ?_
                · go_simp
                  refine hK _ _ ?_
                  clear hK K
                  refine wpAnyIn_ready (rs := [5]) (by kernel_rfl) (by simp) ?_
                  refine AllReadyIn.cons rfl (fun K hK => ?_) ?_
                  · refine stepIn_append_own rfl _ _ 44 rfl (w2.heap.size + 2) 25 i0 (.agg #[.int .i64 0, .bool false, .int .u64 0, .slice none 0 0, .string ⟨#[]⟩]) 5 64 Tryz.underlying44 hi hz0 hz1 hz2 rfl (by decide) v gs.length (gs.flatMap gaC) rfl (own_later (own_later H.out.row hb1) (b1 _ _)) ⟨w1.heap.size, 0, none⟩ 1 1 [.int .i64 kd', .bool bd', .int .u64 bn', .slice A3 cs'.length c3, .string (strOf nm')] rfl rfl (blk_cells (blk_new' w1 [.int .i64 kd', .bool bd', .int .u64 bn', .slice A3 cs'.length c3, .string (strOf nm')] 25)) (by simp [Value.oneCell']) (by unfold maxLen; omega) (by omega) (by have := H.out.big; have := hb1.size; simp; omega) ?_
                    intro v' w3 hown' hgrow _
                    refine hK _ _ ?_
                    clear hK K
                    obtain ⟨g', cap', rfl⟩ := ownsRow_succ hown'
                    obtain ⟨ho2, hk2, hkN2, hv2⟩ := H.out.round (g := (⟨⟨kd', bd', bn', cs', nm'⟩, .slice A3 cs'.length c3⟩ : GA)) (by omega) (by decide) (by decide) (by decide) hb1 (by intro r hr; rw [List.mem_singleton.1 hr]; exact hcr) hown' hgrow
                    have hgs2 := HS.out ⟨⟨kd', bd', bn', cs', nm'⟩, .slice A3 cs'.length c3⟩ rfl
                    have z0 := ho2.blk.cell 0 _ rfl
                    have z1 := ho2.blk.fr 0 _ rfl
                    refine wpAnyIn_ready (rs := [6]) (by kernel_rfl) (by simp) ?_
                    refine AllReadyIn.cons rfl (fun K hK => ?_) ?_
                    · go_simp
                      refine hK _ _ ?_
                      clear hK K
                      refine wpAnyIn_done (by kernel_rfl) ?_ _
                      exact ⟨hk2, hkN2, _, _, hgs2, hv2⟩
                    exact AllReadyIn.nil
                  exact AllReadyIn.nil
                exact AllReadyIn.nil
              refine AllReadyIn.cons rfl (fun K hK => ?_) ?_
              · go_simp
                refine hK _ _ ?_
                clear hK K
                refine wpAnyIn_ready (rs := [0]) (by kernel_rfl) (by simp) ?_
                refine AllReadyIn.cons rfl (fun K hK => ?_) ?_
                · go_simp
                  refine hK _ _ ?_
                  clear hK K
                  refine wpAnyIn_ready (rs := [5]) (by kernel_rfl) (by simp) ?_
                  refine AllReadyIn.cons rfl (fun K hK => ?_) ?_
                  · refine stepIn_append_own rfl _ _ 44 rfl (w2.heap.size + 2) 25 i0 (.agg #[.int .i64 0, .bool false, .int .u64 0, .slice none 0 0, .string ⟨#[]⟩]) 5 64 Tryz.underlying44 hi hz0 hz1 hz2 rfl (by decide) v gs.length (gs.flatMap gaC) rfl (own_later (own_later H.out.row hb1) (b1 _ _)) ⟨w1.heap.size, 0, none⟩ 1 1 [.int .i64 kd', .bool bd', .int .u64 bn', .slice A3 cs'.length c3, .string (strOf nm')] rfl rfl (blk_cells (blk_new' w1 [.int .i64 kd', .bool bd', .int .u64 bn', .slice A3 cs'.length c3, .string (strOf nm')] 25)) (by simp [Value.oneCell']) (by unfold maxLen; omega) (by omega) (by have := H.out.big; have := hb1.size; simp; omega) ?_
                    intro v' w3 hown' hgrow _
                    refine hK _ _ ?_
                    clear hK K
                    obtain ⟨g', cap', rfl⟩ := ownsRow_succ hown'
                    obtain ⟨ho2, hk2, hkN2, hv2⟩ := H.out.round (g := (⟨⟨kd', bd', bn', cs', nm'⟩, .slice A3 cs'.length c3⟩ : GA)) (by omega) (by decide) (by decide) (by decide) hb1 (by intro r hr; rw [List.mem_singleton.1 hr]; exact hcr) hown' hgrow
                    have hgs2 := HS.out ⟨⟨kd', bd', bn', cs', nm'⟩, .slice A3 cs'.length c3⟩ rfl
                    have z0 := ho2.blk.cell 0 _ rfl
                    have z1 := ho2.blk.fr 0 _ rfl
                    refine wpAnyIn_ready (rs := [6]) (by kernel_rfl) (by simp) ?_
                    refine AllReadyIn.cons rfl (fun K hK => ?_) ?_
                    · go_simp
                      refine hK _ _ ?_
                      clear hK K
                      refine wpAnyIn_done (by kernel_rfl) ?_ _
                      exact ⟨hk2, hkN2, _, _, hgs2, hv2⟩
                    exact AllReadyIn.nil
                  exact AllReadyIn.nil
                exact AllReadyIn.nil
              exact AllReadyIn.nil
            exact AllReadyIn.nil
          exact AllReadyIn.nil
        refine AllReadyIn.cons rfl (fun K hK => ?_) ?_
        · go_simp
          refine hK _ _ ?_
          clear hK K
          refine wpAnyIn_ready (rs := [0, 1]) (by kernel_rfl) (by simp) ?_
          refine AllReadyIn.cons rfl (fun K hK => ?_) ?_
          · go_simp
            refine hK _ _ ?_
            clear hK K
            refine wpAnyIn_ready (rs := [1]) (by kernel_rfl) (by simp) ?_
            refine AllReadyIn.cons rfl (fun K hK => ?_) ?_
            · go_simp
              refine hK _ _ ?_
              clear hK K
              refine wpAnyIn_ready (rs := [3]) (by kernel_rfl) (by simp) ?_
              refine AllReadyIn.cons rfl (fun K hK => ?_) ?_
              · go_simp
                refine ⟨trivial, ?_⟩
                refine (CallsIn.inRound l (callsIn_wide.2 HF.out)).mono ?_
                rintro e w1 ⟨A3, c3, rfl, hcr, hb1⟩
                have r0 := (H.out.out.later hb1).blk.cell 0 _ rfl
                have rp := fun o => ((H.out.out.later hb1).later (b1 w1 o)).blk.cell 0 _ rfl
                refine hK _ _ ?_
                clear hK K
                refine wpAnyIn_ready (rs := [4]) (by kernel_rfl) (by simp) ?_
                refine AllReadyIn.cons rfl (fun K hK => ?_) ?_
                · go_simp
                  refine hK _ _ ?_
                  clear hK K
                  refine wpAnyIn_ready (rs := [5]) (by kernel_rfl) (by simp) ?_
                  refine AllReadyIn.cons rfl (fun K hK => ?_) ?_
                  · refine stepIn_append_own rfl _ _ 44 rfl (w2.heap.size + 2) 25 i0 (.agg #[.int .i64 0, .bool false, .int .u64 0, .slice none 0 0, .string ⟨#[]⟩]) 5 64 Tryz.underlying44 hi hz0 hz1 hz2 rfl (by decide) v gs.length (gs.flatMap gaC) rfl (own_later (own_later H.out.row hb1) (b1 _ _)) ⟨w1.heap.size, 0, none⟩ 1 1 [.int .i64 kd', .bool bd', .int .u64 bn', .slice A3 cs'.length c3, .string (strOf nm')] rfl rfl (blk_cells (blk_new' w1 [.int .i64 kd', .bool bd', .int .u64 bn', .slice A3 cs'.length c3, .string (strOf nm')] 25)) (by simp [Value.oneCell']) (by unfold maxLen; omega) (by omega) (by have := H.out.big; have := hb1.size; simp; omega) ?_
                    intro v' w3 hown' hgrow _
                    refine hK _ _ ?_
                    clear hK K
                    obtain ⟨g', cap', rfl⟩ := ownsRow_succ hown'
                    obtain ⟨ho2, hk2, hkN2, hv2⟩ := H.out.round (g := (⟨⟨kd', bd', bn', cs', nm'⟩, .slice A3 cs'.length c3⟩ : GA)) (by omega) (by decide) (by decide) (by decide) hb1 (by intro r hr; rw [List.mem_singleton.1 hr]; exact hcr) hown' hgrow
                    have hgs2 := HS.out ⟨⟨kd', bd', bn', cs', nm'⟩, .slice A3 cs'.length c3⟩ rfl
                    have z0 := ho2.blk.cell 0 _ rfl
                    have z1 := ho2.blk.fr 0 _ rfl
                    refine wpAnyIn_ready (rs := [6]) (by kernel_rfl) (by simp) ?_
                    refine AllReadyIn.cons rfl (fun K hK => ?_) ?_
                    · go_simp
                      refine hK _ _ ?_
                      clear hK K
                      refine wpAnyIn_done (by kernel_rfl) ?_ _
                      exact ⟨hk2, hkN2, _, _, hgs2, hv2⟩
                    exact AllReadyIn.nil
                  exact AllReadyIn.nil
                exact AllReadyIn.nil
              exact AllReadyIn.nil
            exact AllReadyIn.nil
          refine AllReadyIn.cons rfl (fun K hK => ?_) ?_
          · go_simp
            refine hK _ _ ?_
            clear hK K
            refine wpAnyIn_ready (rs := [0, 3]) (by kernel_rfl) (by simp) ?_
            refine AllReadyIn.cons rfl (fun K hK => ?_) ?_
            · go_simp
              refine hK _ _ ?_
              clear hK K
              refine wpAnyIn_ready (rs := [3]) (by kernel_rfl) (by simp) ?_
              refine AllReadyIn.cons rfl (fun K hK => ?_) ?_
              · go_simp
                refine ⟨trivial, ?_⟩
                refine (CallsIn.inRound l (callsIn_wide.2 HF.out)).mono ?_
                rintro e w1 ⟨A3, c3, rfl, hcr, hb1⟩
                have r0 := (H.out.out.later hb1).blk.cell 0 _ rfl
                have rp := fun o => ((H.out.out.later hb1).later (b1 w1 o)).blk.cell 0 _ rfl
                refine hK _ _ ?_
                clear hK K
                refine wpAnyIn_ready (rs := [4]) (by kernel_rfl) (by simp) ?_
                refine AllReadyIn.cons rfl (fun K hK => ?_) ?_
                · go_simp
                  refine hK _ _ ?_
                  clear hK K
                  refine wpAnyIn_ready (rs := [5]) (by kernel_rfl) (by simp) ?_
                  refine AllReadyIn.cons rfl (fun K hK => ?_) ?_
                  · refine stepIn_append_own rfl _ _ 44 rfl (w2.heap.size + 2) 25 i0 (.agg #[.int .i64 0, .bool false, .int .u64 0, .slice none 0 0, .string ⟨#[]⟩]) 5 64 Tryz.underlying44 hi hz0 hz1 hz2 rfl (by decide) v gs.length (gs.flatMap gaC) rfl (own_later (own_later H.out.row hb1) (b1 _ _)) ⟨w1.heap.size, 0, none⟩ 1 1 [.int .i64 kd', .bool bd', .int .u64 bn', .slice A3 cs'.length c3, .string (strOf nm')] rfl rfl (blk_cells (blk_new' w1 [.int .i64 kd', .bool bd', .int .u64 bn', .slice A3 cs'.length c3, .string (strOf nm')] 25)) (by simp [Value.oneCell']) (by unfold maxLen; omega) (by omega) (by have := H.out.big; have := hb1.size; simp; omega) ?_
                    intro v' w3 hown' hgrow _
                    refine hK _ _ ?_
                    clear hK K
                    obtain ⟨g', cap', rfl⟩ := ownsRow_succ hown'
                    obtain ⟨ho2, hk2, hkN2, hv2⟩ := H.out.round (g := (⟨⟨kd', bd', bn', cs', nm'⟩, .slice A3 cs'.length c3⟩ : GA)) (by omega) (by decide) (by decide) (by decide) hb1 (by intro r hr; rw [List.mem_singleton.1 hr]; exact hcr) hown' hgrow
                    have hgs2 := HS.out ⟨⟨kd', bd', bn', cs', nm'⟩, .slice A3 cs'.length c3⟩ rfl
                    have z0 := ho2.blk.cell 0 _ rfl
                    have z1 := ho2.blk.fr 0 _ rfl
                    refine wpAnyIn_ready (rs := [6]) (by kernel_rfl) (by simp) ?_
                    refine AllReadyIn.cons rfl (fun K hK => ?_) ?_
                    · go_simp
                      refine hK _ _ ?_
                      clear hK K
                      refine wpAnyIn_done (by kernel_rfl) ?_ _
                      exact ⟨hk2, hkN2, _, _, hgs2, hv2⟩
                    exact AllReadyIn.nil
                  exact AllReadyIn.nil
                exact AllReadyIn.nil
              exact AllReadyIn.nil
            refine AllReadyIn.cons rfl (fun K hK => ?_) ?_
            · go_simp
              refine ⟨trivial, ?_⟩
              refine (CallsIn.inRound l (callsIn_wide.2 HF.out)).mono ?_
              rintro e w1 ⟨A3, c3, rfl, hcr, hb1⟩
              have r0 := (H.out.out.later hb1).blk.cell 0 _ rfl
              have rp := fun o => ((H.out.out.later hb1).later (b1 w1 o)).blk.cell 0 _ rfl
              refine hK _ _ ?_
              clear hK K
              refine wpAnyIn_ready (rs := [0, 4]) (by kernel_rfl) (by simp) ?_
              refine AllReadyIn.cons rfl (fun K hK => ?_) ?_
              · go_simp
                refine hK _ _ ?_
                clear hK K
                refine wpAnyIn_ready (rs := [4]) (by kernel_rfl) (by simp) ?_
                refine AllReadyIn.cons rfl (fun K hK => ?_) ?_
                · go_simp
                  refine hK _ _ ?_
                  clear hK K
                  refine wpAnyIn_ready (rs := [5]) (by kernel_rfl) (by simp) ?_
                  refine AllReadyIn.cons rfl (fun K hK => ?_) ?_
                  · refine stepIn_append_own rfl _ _ 44 rfl (w2.heap.size + 2) 25 i0 (.agg #[.int .i64 0, .bool false, .int .u64 0, .slice none 0 0, .string ⟨#[]⟩]) 5 64 Tryz.underlying44 hi hz0 hz1 hz2 rfl (by decide) v gs.length (gs.flatMap gaC) rfl (own_later (own_later H.out.row hb1) (b1 _ _)) ⟨w1.heap.size, 0, none⟩ 1 1 [.int .i64 kd', .bool bd', .int .u64 bn', .slice A3 cs'.length c3, .string (strOf nm')] rfl rfl (blk_cells (blk_new' w1 [.int .i64 kd', .bool bd', .int .u64 bn', .slice A3 cs'.length c3, .string (strOf nm')] 25)) (by simp [Value.oneCell']) (by unfold maxLen; omega) (by omega) (by have := H.out.big; have := hb1.size; simp; omega) ?_
                    intro v' w3 hown' hgrow _
                    refine hK _ _ ?_
                    clear hK K
                    obtain ⟨g', cap', rfl⟩ := ownsRow_succ hown'
                    obtain ⟨ho2, hk2, hkN2, hv2⟩ := H.out.round (g := (⟨⟨kd', bd', bn', cs', nm'⟩, .slice A3 cs'.length c3⟩ : GA)) (by omega) (by decide) (by decide) (by decide) hb1 (by intro r hr; rw [List.mem_singleton.1 hr]; exact hcr) hown' hgrow
                    have hgs2 := HS.out ⟨⟨kd', bd', bn', cs', nm'⟩, .slice A3 cs'.length c3⟩ rfl
                    have z0 := ho2.blk.cell 0 _ rfl
                    have z1 := ho2.blk.fr 0 _ rfl
                    refine wpAnyIn_ready (rs := [6]) (by kernel_rfl) (by simp) ?_
                    refine AllReadyIn.cons rfl (fun K hK => ?_) ?_
                    · go_simp
                      refine hK _ _ ?_
                      clear hK K
                      refine wpAnyIn_done (by kernel_rfl) ?_ _
                      exact ⟨hk2, hkN2, _, _, hgs2, hv2⟩
                    exact AllReadyIn.nil
                  exact AllReadyIn.nil
                exact AllReadyIn.nil
              refine AllReadyIn.cons rfl (fun K hK => ?_) ?_
              · go_simp
                refine hK _ _ ?_
                clear hK K
                refine wpAnyIn_ready (rs := [0]) (by kernel_rfl) (by simp) ?_
                refine AllReadyIn.cons rfl (fun K hK => ?_) ?_
                · go_simp
                  refine hK _ _ ?_
                  clear hK K
                  refine wpAnyIn_ready (rs := [5]) (by kernel_rfl) (by simp) ?_
                  refine AllReadyIn.cons rfl (fun K hK => ?_) ?_
                  · refine stepIn_append_own rfl _ _ 44 rfl (w2.heap.size + 2) 25 i0 (.agg #[.int .i64 0, .bool false, .int .u64 0, .slice none 0 0, .string ⟨#[]⟩]) 5 64 Tryz.underlying44 hi hz0 hz1 hz2 rfl (by decide) v gs.length (gs.flatMap gaC) rfl (own_later (own_later H.out.row hb1) (b1 _ _)) ⟨w1.heap.size, 0, none⟩ 1 1 [.int .i64 kd', .bool bd', .int .u64 bn', .slice A3 cs'.length c3, .string (strOf nm')] rfl rfl (blk_cells (blk_new' w1 [.int .i64 kd', .bool bd', .int .u64 bn', .slice A3 cs'.length c3, .string (strOf nm')] 25)) (by simp [Value.oneCell']) (by unfold maxLen; omega) (by omega) (by have := H.out.big; have := hb1.size; simp; omega) ?_
                    intro v' w3 hown' hgrow _
                    refine hK _ _ ?_
                    clear hK K
                    obtain ⟨g', cap', rfl⟩ := ownsRow_succ hown'
                    obtain ⟨ho2, hk2, hkN2, hv2⟩ := H.out.round (g := (⟨⟨kd', bd', bn', cs', nm'⟩, .slice A3 cs'.length c3⟩ : GA)) (by omega) (by decide) (by decide) (by decide) hb1 (by intro r hr; rw [List.mem_singleton.1 hr]; exact hcr) hown' hgrow
                    have hgs2 := HS.out ⟨⟨kd', bd', bn', cs', nm'⟩, .slice A3 cs'.length c3⟩ rfl
                    have z0 := ho2.blk.cell 0 _ rfl
                    have z1 := ho2.blk.fr 0 _ rfl
                    refine wpAnyIn_ready (rs := [6]) (by kernel_rfl) (by simp) ?_
                    refine AllReadyIn.cons rfl (fun K hK => ?_) ?_
                    · go_simp
                      refine hK _ _ ?_
                      clear hK K
                      refine wpAnyIn_done (by kernel_rfl) ?_ _
                      exact ⟨hk2, hkN2, _, _, hgs2, hv2⟩
                    exact AllReadyIn.nil
                  exact AllReadyIn.nil
                exact AllReadyIn.nil
              exact AllReadyIn.nil
            exact AllReadyIn.nil
          exact AllReadyIn.nil
        exact AllReadyIn.nil
      · have hk0 : ks'.length ≠ 0 := fun e => hk (List.eq_nil_of_length_eq_zero e)
        have hkz : ¬ ((ks'.length : Int) = 0) := by omega
        have hSn : leafF Nd.atom (pre ++ [(d, Tr.mk k' mn' mx' ⟨⟨kd', bd', bn', cs', nm'⟩, sc'⟩ (.slice A9 ks'.length cp9) ks')]) = leafF Nd.atom pre := by
          refine leafF_non _ _ _ ?_
          rw [nd_mk]
          show (ks'.map Tr.nd).isEmpty = false
          cases ks' with
          | nil => exact absurd rfl hk
          | cons y ys => rfl
        have HS := Lib.hid hSn
        have HG := Lib.hid hgs
        clear hst hnd hmem hB h ho hoA hsk hgs hp hSn hk hk0
        gi_wp2
        exact ⟨KeepsOthers.refl _, KeepN.refl _ _, gs, Eq.trans HG.out HS.out.symm, v, H.out⟩
    case done =>
      rintro D W hD ⟨gs, v, hgs, h⟩ hK
      have hDD : w.heap.size ≤ D := by omega
      have hE := HV.out
      have r0 := h.out.blk.cell 0 _ rfl
      obtain ⟨A2, c2, rfl⟩ := own_form h.row
      have H := Lib.hid h
      have HG := Lib.hid hgs
      clear h hst hnd hmem hgs
      gi_wp2
      refine ⟨by simp, .inl ⟨_, _, rfl, run_takeDeferred hK, ?_⟩⟩
      refine ⟨_, results_tmp2 rfl _ _ _, gs, _, Eq.trans HG.out hE, rfl, own_mono (own_put H.out.row hK rfl) (by omega), (fun g hg => own_mono (own_put (H.out.cns g hg _ (List.mem_singleton.2 rfl)) hK rfl) (by omega)), below_put H.out.bel hK hDD⟩
    case stop =>
      rintro D pre W hD hp h hK
      exact h.elim
end Go.Proofs.YtfibmdbplfghcaaGreatDoor
