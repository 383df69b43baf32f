/- Texts that are cut off. Nothing here speaks of the program. -/
import Derived.Test.YtdjaijhlhhnmeaaGreatDoorPMt
namespace Go.Proofs.YtdjaijhlhhnmeaaGreatDoor.P9
open Go.Proofs.YtdjaijhlhhnmeaaGreatDoor.Tk7 Go.Proofs.YtdjaijhlhhnmeaaGreatDoor.A8

theorem tw_take (p : UInt8 → Bool) : ∀ (r : List UInt8) (j : Nat), (r.take j).takeWhile p = (r.takeWhile p).take j
  | [], j => by simp
  | c :: r, 0 => by simp
  | c :: r, j + 1 => by
    rw [List.take_succ_cons, List.takeWhile_cons, List.takeWhile_cons]
    cases p c with
    | true => simp [tw_take p r j]
    | false => simp
/-- The token at the beginning of a text that is cut off: the same if a byte behind it is there; else what is there, or none. -/
theorem begG_cut {l : List UInt8} {m : Nat} (hn : (begG l).2 ≠ 0) (hm : 1 ≤ m) : ((begG l).2 < m → begG (l.take m) = begG l) ∧ (m ≤ (begG l).2 → (begG (l.take m)).2 = 0 ∨ (begG (l.take m)).2 = m) := by
  cases l with
  | nil => simp [begG] at hn
  | cons b r =>
    obtain ⟨j, rfl⟩ : ∃ j, m = j + 1 := ⟨m - 1, by omega⟩
    rw [List.take_succ_cons]
    simp only [begG] at hn ⊢
    by_cases h1 : smallB b = true
    · simp only [h1, if_true] at hn ⊢
      rw [tw_take, List.length_take]
      refine ⟨fun h => ?_, fun h => .inr ?_⟩
      · rw [Nat.min_eq_right (by omega)]
      · rw [Nat.min_eq_left (by omega)]
    · simp only [h1] at hn ⊢
      by_cases h2 : largeB b = true
      · simp only [h2, if_true] at hn ⊢
        refine ⟨fun _ => by simp, fun h => .inr ?_⟩
        simp at h ⊢
        omega
      · simp only [h2] at hn ⊢
        by_cases h3 : (digB b || b == 45) = true
        · simp only [h3, if_true] at hn ⊢
          simp only [Bool.false_eq_true, if_false] at hn ⊢
          unfold numG at hn ⊢
          rw [tw_take]
          obtain ⟨d, hd⟩ : ∃ d, d = r.takeWhile digB := ⟨_, rfl⟩
          rw [← hd] at hn ⊢
          have hlen : (d.take j).length = min j d.length := List.length_take
          by_cases h4 : (b == 45) = true
          · simp only [h4, if_true] at hn ⊢
            have h5 : rightD true d = true := by
              cases h : rightD true d with
              | true => rfl
              | false => rw [h] at hn; simp at hn
            simp only [h5, if_true] at hn ⊢
            refine ⟨fun h => ?_, fun h => ?_⟩
            · rw [List.take_of_length_le (by omega), h5]
              simp
            · cases rightD true (d.take j) with
              | true => right; simp only [if_true]; omega
              | false => left; simp
          · simp only [h4] at hn ⊢
            simp only [Bool.false_eq_true, if_false] at hn ⊢
            have h5 : rightD false (b :: d) = true := by
              cases h : rightD false (b :: d) with
              | true => rfl
              | false => rw [h] at hn; simp at hn
            simp only [h5, if_true] at hn ⊢
            refine ⟨fun h => ?_, fun h => ?_⟩
            · rw [List.take_of_length_le (by omega), h5]
              simp
            · cases rightD false (b :: d.take j) with
              | true => right; simp only [if_true]; omega
              | false => left; simp
        · simp only [h3] at hn ⊢
          simp only [Bool.false_eq_true, if_false] at hn ⊢
          obtain ⟨sg, hS, hS2, hS1⟩ : ∃ sg : Option UInt8 → Nat, (∀ s, signG (b :: s) = sg s.head?) ∧ (∀ h, sg h ≤ 2) ∧ sg none ≤ 1 := by
            refine ⟨fun h => if twoB b && h == some 61 then 2 else if oneB b then 1 else 0, fun s => rfl, fun h => ?_, ?_⟩
            · simp only
              split
              · omega
              · split <;> omega
            · simp only
              split
              · rename_i hh
                simp at hh
              · split <;> omega
          simp only [hS] at hn ⊢
          have h6 := hS2 r.head?
          cases j with
          | zero =>
            rw [List.take_zero, List.head?_nil]
            refine ⟨fun h => ?_, fun _ => ?_⟩
            · exfalso; omega
            · omega
          | succ j =>
            have hh : (r.take (j + 1)).head? = r.head? := by cases r <;> simp
            rw [hh]
            exact ⟨fun _ => rfl, fun h => .inr (by omega)⟩
/-- The tokens of a text that is cut off, but for the last one, are those of the text. -/
theorem toks_cut : ∀ (n : Nat) (l : List UInt8) (m k : Nat) (us vs : List T), l.length ≤ n → toksG l k = .ok us → toksG (l.take m) k = .ok vs → ∀ v ∈ vs.dropLast, v ∈ us := by
  intro n
  induction n with
  | zero =>
    intro l m k us vs hl _ hv v hm
    rw [List.eq_nil_of_length_eq_zero (by omega : l.length = 0), List.take_nil] at hv
    cases hv
    cases hm
  | succ n ih =>
    intro l m k us vs hl hu hv v hmem
    obtain ⟨g, hg1, hg2, -⟩ := dropWhile_split l
    obtain ⟨l1, hl1⟩ : ∃ l1, l1 = l.dropWhile blankB := ⟨_, rfl⟩
    rw [← hl1] at hg1
    by_cases hm : m ≤ g.length
    · rw [hg1, List.take_append_of_le_length hm, toks_blanks (fun b hb => hg2 b (List.mem_of_mem_take hb))] at hv
      cases hv
      cases hmem
    · have e1 : l.take m = g ++ l1.take (m - g.length) := by
        rw [hg1, List.take_append]
        rw [List.take_of_length_le (by omega)]
      rw [e1, toks_blank hg2] at hv
      have hu' : toksG l1 (k + g.length) = .ok us := by
        rw [hg1, toks_blank hg2] at hu
        exact hu
      cases l1 with
      | nil =>
        rw [List.take_nil] at hv
        cases hv
        cases hmem
      | cons b r =>
        have hb : blankB b = false := dropWhile_head hl1.symm
        have hd : ∀ s : List UInt8, (b :: s).dropWhile blankB = b :: s := fun s => by rw [List.dropWhile_cons, hb]; simp
        rw [toksG_eq, hd] at hu'
        simp only at hu'
        split at hu'
        · cases hu'
        · rename_i hn0
          obtain ⟨j, hj⟩ : ∃ j, m - g.length = j + 1 := ⟨m - g.length - 1, by omega⟩
          have hc := begG_cut (l := b :: r) (m := j + 1) hn0 (by omega)
          rw [hj, List.take_succ_cons] at hv
          rw [toksG_eq, hd] at hv
          simp only at hv
          rw [List.take_succ_cons] at hc
          split at hv
          · cases hv
          · rename_i hn1
            by_cases hlt : (begG (b :: r)).2 < j + 1
            · have e2 := hc.1 hlt
              rw [e2] at hv
              have e3 : (b :: r.take j).take (begG (b :: r)).2 = (b :: r).take (begG (b :: r)).2 := by
                rw [← List.take_succ_cons, List.take_take, Nat.min_eq_left (by omega)]
              have e4 : (b :: r.take j).drop (begG (b :: r)).2 = ((b :: r).drop (begG (b :: r)).2).take (j + 1 - (begG (b :: r)).2) := by
                rw [← List.take_succ_cons, List.drop_take]
              rw [e3, e4] at hv
              rw [Nat.sub_self, Nat.add_zero] at hu' hv
              cases hx : toksG ((b :: r).drop (begG (b :: r)).2) (k + g.length + (begG (b :: r)).2) with
              | error y => rw [hx] at hu'; cases hu'
              | ok us' =>
                cases hy : toksG (((b :: r).drop (begG (b :: r)).2).take (j + 1 - (begG (b :: r)).2)) (k + g.length + (begG (b :: r)).2) with
                | error y => rw [hy] at hv; cases hv
                | ok vs' =>
                  rw [hx] at hu'
                  rw [hy] at hv
                  cases hu'
                  cases hv
                  have hlen : ((b :: r).drop (begG (b :: r)).2).length ≤ n := by
                    have : l.length = g.length + (b :: r).length := by rw [← List.length_append, ← hg1]
                    rw [List.length_drop]
                    omega
                  cases vs' with
                  | nil => cases hmem
                  | cons z zs =>
                    rw [List.dropLast_cons_cons] at hmem
                    rcases List.mem_cons.1 hmem with rfl | h
                    · exact List.mem_cons_self
                    · exact List.mem_cons_of_mem _ (ih _ _ _ us' (z :: zs) hlen hx hy v h)
            · have e2 : (begG (b :: r.take j)).2 = j + 1 := by
                rcases hc.2 (by omega) with h | h
                · exact absurd h hn1
                · exact h
              have e3 : (b :: r.take j).drop (begG (b :: r.take j)).2 = [] := by
                rw [e2]
                apply List.drop_eq_nil_of_le
                rw [List.length_cons, List.length_take]
                omega
              rw [e3, toks_nil] at hv
              cases hv
              cases hmem
/-- Where a query is read, 'within' stands ahead of another token. -/
theorem query_within {e f : Nat} {vs : List T} {q : Qu} {r : List T} (h : queryP e f vs = .ok (q, r)) : ∃ v ∈ vs.dropLast, v.2.1 = withinA := by
  obtain ⟨p, r1, h1, h2⟩ := andThen_some h
  obtain ⟨u, r2, h3, h4⟩ := andThen_some h2
  obtain ⟨wi, r3, h5, h6⟩ := andThen_some h4
  obtain ⟨pre, hp⟩ := pat_ends _ _ vs p r1 h1
  unfold wantP at h3
  split at h3
  · rename_i hs
    cases h3
    cases r1 with
    | nil => cases hs
    | cons w r1 =>
      simp only [seesP, beq_iff_eq] at hs
      simp only [List.tail_cons] at h5
      cases r1 with
      | nil => cases h5
      | cons x r1 =>
        refine ⟨w, ?_, hs⟩
        rw [← hp, List.dropLast_append_of_ne_nil (by simp)]
        exact List.mem_append_right _ (by rw [List.dropLast_cons_cons]; exact List.mem_cons_self)
  · cases h3
/-- A query's text that is cut off and is a query: its pattern's text stands at the beginning. -/
theorem cut_query {q : Qu} (h : checkB q = true) (ho : OkQ q) (m : Nat) {q' : Qu} (hp : parseP ((queryT q).take m) = .ok q') : q'.p = q.p ∧ (textN q.p).length ≤ m := by
  have hsp := (checkB_facts h).1
  obtain ⟨Y, hY, hY2⟩ : ∃ Y : List UInt8, queryT q = textN q.p ++ 32 :: Y ∧ ∃ s, Y = 119 :: s := ⟨_, by unfold queryT; rw [List.append_assoc, List.append_assoc, List.append_assoc]; rfl, _, rfl⟩
  unfold parseP wholeP at hp
  cases ht : toksP ((queryT q).take m) with
  | error y => rw [ht] at hp; cases hp
  | ok vs =>
    rw [ht] at hp
    simp only at hp
    have hvs : toksG ((queryT q).take m) 0 = .ok vs := by
      unfold toksP at ht
      split at ht
      · cases ht
      · exact ht
    cases hq : queryP ((queryT q).take m).length (vs.length + 1) vs with
    | error y => rw [hq] at hp; cases hp
    | ok ar =>
      obtain ⟨q2, r⟩ := ar
      rw [hq] at hp
      cases r with
      | cons x r => cases hp
      | nil =>
        cases hp
        by_cases hm : m < (textN q.p).length
        · exfalso
          obtain ⟨us, h1, -, h3⟩ := (node_reads 0 q.p 1 hsp ho.p).2.2 [] 0 [] ⟨nb_nil _, nx_nil _⟩ (toks_nil _)
          rw [List.append_nil, List.append_nil] at h1
          have h4 : (queryT q).take m = (textN q.p).take m := by rw [hY, List.take_append_of_le_length (by omega)]
          rw [h4] at hvs
          obtain ⟨v, hv, hw⟩ := query_within hq
          exact h3 trivial v (toks_cut _ _ m 0 us vs (Nat.le_refl _) h1 hvs v hv) hw
        · refine ⟨?_, by omega⟩
          obtain ⟨Z, hZ⟩ : ∃ Z, (queryT q).take m = textN q.p ++ Z ∧ (Z = [] ∨ ∃ z, Z = 32 :: z ∧ ∃ j, z = Y.take j) := by
            refine ⟨(32 :: Y).take (m - (textN q.p).length), ?_, ?_⟩
            · rw [hY, List.take_append, List.take_of_length_le (by omega)]
            · cases m - (textN q.p).length with
              | zero => exact .inl rfl
              | succ j => exact .inr ⟨Y.take j, by rw [List.take_succ_cons], j, rfl⟩
          obtain ⟨hZ1, hZ2⟩ := hZ
          have hF : Fp Z := by
            rcases hZ2 with rfl | ⟨z, rfl, j, rfl⟩
            · exact ⟨nb_nil _, nx_nil _⟩
            · refine ⟨(nb_blank (by decide)).2 ?_, nx_cons (by decide)⟩
              obtain ⟨s, rfl⟩ := hY2
              cases j with
              | zero => exact nb_nil _
              | succ j => rw [List.take_succ_cons]; exact nb_cons (by decide) (by decide)
          have hts : ∃ ts, toksG Z (0 + (textN q.p).length) = .ok ts := by
            rcases hZ2 with rfl | ⟨z, rfl, j, rfl⟩
            · exact ⟨[], toks_nil _⟩
            · rw [hZ1, toks_both _ _ _ _ (Nat.le_refl _)] at hvs
              rw [show (32 :: Y.take j : List UInt8) = [32] ++ Y.take j from rfl, toks_blank (g := [32]) (by decide)]
              cases ha : toksG (textN q.p) 0 with
              | error y => rw [ha] at hvs; cases hvs
              | ok as' =>
                rw [ha] at hvs
                cases hb : toksG (Y.take j) (0 + (textN q.p).length + 1) with
                | error y => rw [hb] at hvs; cases hvs
                | ok bs => exact ⟨bs, rfl⟩
          obtain ⟨ts, hts⟩ := hts
          obtain ⟨us, h1, h2, -⟩ := (node_reads ((queryT q).take m).length q.p 1 hsp ho.p).2.2 Z 0 ts hF hts
          rw [← hZ1, hvs] at h1
          cases h1
          have h3 := h2 _ (Nat.le_refl _)
          obtain ⟨p, r1, g1, g2⟩ := andThen_some hq
          have h4 : patP ((queryT q).take m).length ((us ++ ts).length + 1) (us ++ ts) = .ok (q.p, ts) := h3
          rw [h4] at g1
          cases g1
          obtain ⟨u, r2, g3, g4⟩ := andThen_some g2
          obtain ⟨wi, r3, g5, g6⟩ := andThen_some g4
          obtain ⟨hs, r4, g7, g8⟩ := andThen_some g6
          obtain ⟨es, r5, g9, g10⟩ := andThen_some g8
          cases g10
          rfl
end Go.Proofs.YtdjaijhlhhnmeaaGreatDoor.P9
