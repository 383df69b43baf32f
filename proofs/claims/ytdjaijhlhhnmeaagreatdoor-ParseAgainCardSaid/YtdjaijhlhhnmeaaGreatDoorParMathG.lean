/- What is parsed is sound, and not large. Nothing here speaks of the program. -/
import Derived.Test.YtdjaijhlhhnmeaaGreatDoorParMathF
import Derived.Test.YtdjaijhlhhnmeaaGreatDoorParMathD
namespace Go.Proofs.YtdjaijhlhhnmeaaGreatDoor.P9
open Go.Proofs.YtdjaijhlhhnmeaaGreatDoor.Tk7 Go.Proofs.YtdjaijhlhhnmeaaGreatDoor.A8

def lensT : List Nd → Nat
  | [] => 0
  | n :: ns => (textN n).length + lensT ns
/-- A node that is read between these tokens: it is sound as deep as it is; how large it is. -/
structure Nok (l r : List T) (n : Nd) : Prop where
  s : ∀ d, d + depthN n ≤ 201 → soundN d n = true
  d : 2 * depthN n + r.length ≤ l.length + 1
  c : nodesN n + 1 + 2 * r.length ≤ 2 * l.length
  t : (textN n).length + 10 + 200 * r.length ≤ 200 * l.length
  o : OkT9 n
/-- .. nodes, each with something before it. -/
structure Mok (l r : List T) (ns : List Nd) : Prop where
  s : ∀ n ∈ ns, ∀ d, d + depthN n ≤ 201 → soundN d n = true
  d : 2 * depthL ns + r.length ≤ l.length
  c : nodesL ns + 3 * ns.length + 2 * r.length ≤ 2 * l.length
  t : lensT ns + 210 * ns.length + 200 * r.length ≤ 200 * l.length
  o : ∀ n ∈ ns, OkT9 n
theorem Nok.mono {l r l' r' : List T} {n : Nd} (h : Nok l r n) (h1 : l.length ≤ l'.length) (h2 : r'.length ≤ r.length) : Nok l' r' n :=
  ⟨h.s, by have := h.d; omega, by have := h.c; omega, by have := h.t; omega, h.o⟩
theorem depth_pos (n : Nd) : 1 ≤ depthN n := by
  obtain ⟨k, mn, mx, a, ks⟩ := n
  rw [depthN]
  omega
theorem nodes_pos (n : Nd) : 1 ≤ nodesN n := by
  obtain ⟨k, mn, mx, a, ks⟩ := n
  rw [nodesN]
  omega
theorem depthL_mem {ns : List Nd} {n : Nd} (h : n ∈ ns) : depthN n ≤ depthL ns := by
  induction ns with
  | nil => cases h
  | cons m ms ih =>
    rw [depthL]
    rcases List.mem_cons.1 h with rfl | h
    · exact Nat.le_max_left _ _
    · exact Nat.le_trans (ih h) (Nat.le_max_right _ _)
theorem mokNil (l : List T) : Mok l l [] := ⟨(fun n hn => by cases hn), by simp [depthL], by simp [nodesL], by simp [lensT], (fun n hn => by cases hn)⟩
theorem mokCons {l l1 r1 r : List T} {n : Nd} {ns : List Nd} (hl : l1.length + 1 = l.length) (h : Nok l1 r1 n) (h2 : Mok r1 r ns) : Mok l r (n :: ns) where
  s := fun m hm => by
    rcases List.mem_cons.1 hm with rfl | hm
    · exact h.s
    · exact h2.s m hm
  d := by
    have a1 := h.d
    have a2 := h2.d
    have a3 := h.c
    have a4 := nodes_pos n
    rw [depthL]
    omega
  c := by
    have a1 := h.c
    have a2 := h2.c
    rw [nodesL, List.length_cons]
    omega
  t := by
    have a1 := h.t
    have a2 := h2.t
    rw [lensT, List.length_cons]
    omega
  o := fun m hm => by
    rcases List.mem_cons.1 hm with rfl | hm
    · exact h.o
    · exact h2.o m hm
theorem sepS (sep : List UInt8) : ∀ l : List (List UInt8), (sepL sep l).length ≤ (l.map List.length).sum + sep.length * l.length
  | [] => by simp [sepL]
  | [x] => by simp [sepL]
  | x :: y :: r => by
    have := sepS sep (y :: r)
    rw [sepL]
    simp only [List.length_append, List.map_cons, List.sum_cons, List.length_cons, Nat.mul_succ] at this ⊢
    omega
theorem textL_sum (k : Int) : ∀ ns : List Nd, ((textL k ns).map List.length).sum ≤ lensT ns + 2 * ns.length ∧ (textL k ns).length = ns.length
  | [] => by simp [textL, lensT]
  | n :: ns => by
    obtain ⟨h1, h2⟩ := textL_sum k ns
    rw [textL, lensT]
    simp only [List.map_cons, List.sum_cons, List.length_cons]
    have : (wrapT k n.kind (textN n)).length ≤ (textN n).length + 2 := by
      unfold wrapT
      split
      · simp only [List.length_append, List.length_cons, List.length_nil]
        omega
      · omega
    exact ⟨by omega, by omega⟩
theorem okB_no : OkB noA := by
  refine ⟨by decide, fun c hc => ?_⟩
  cases hc
/-- A node of nodes. -/
theorem joinOk {l r1 r : List T} {k : Int} (hk : k = 3 ∨ k = 4) {n : Nd} {ns : List Nd} (h : Nok l r1 n) (h2 : Mok r1 r ns) (hs : r.length ≤ r1.length) : Nok l r (joinP k (n :: ns)) := by
  cases ns with
  | nil => exact h.mono (Nat.le_refl _) hs
  | cons m ms =>
    obtain ⟨zs, hz⟩ : ∃ zs, zs = m :: ms := ⟨_, rfl⟩
    have hj : joinP k (n :: m :: ms) = .mk k 0 0 noA (n :: zs) := by rw [hz]; rfl
    rw [hj]
    have hz1 : 1 ≤ zs.length := by rw [hz]; simp
    have hz2 : 1 ≤ nodesL zs := by
      rw [hz, nodesL]
      have := nodes_pos m
      omega
    rw [← hz] at h2
    clear hz hj
    have a1 := h.d
    have a2 := h2.d
    have a3 := h.c
    have a4 := h2.c
    have a5 := nodes_pos n
    have a6 := h.t
    have a7 := h2.t
    have hs : ∀ x ∈ n :: zs, ∀ d, d + depthN x ≤ 201 → soundN d x = true := fun x hx => by
      rcases List.mem_cons.1 hx with rfl | hx
      · exact h.s
      · exact h2.s x hx
    refine ⟨fun d hd => ?_, ?_, ?_, ?_, ?_⟩
    · rw [depthN] at hd
      rw [soundN, soundL_all]
      have e1 : decide (d ≤ 200) = true := by
        rw [decide_eq_true_eq]
        have := depthL_mem (List.mem_cons_self (a := n) (l := zs))
        have := depth_pos n
        omega
      have e2 : nodeB k 0 0 noA (n :: zs).length = true := by
        unfold nodeB
        rw [if_neg (by omega), if_neg (by omega), if_pos hk]
        have : decide (2 ≤ (n :: zs).length) = true := by rw [decide_eq_true_eq, List.length_cons]; omega
        rw [this]
        rfl
      have e3 : (n :: zs).all (soundN (d + 1)) = true := by
        rw [List.all_eq_true]
        intro x hx
        exact hs x hx (d + 1) (by have := depthL_mem hx; omega)
      rw [e1, e2, e3]
      rfl
    · rw [depthN, depthL]
      omega
    · rw [nodesN, nodesL]
      omega
    · have t1 : (textN (.mk k 0 0 noA (n :: zs))).length ≤ lensT (n :: zs) + 5 * (n :: zs).length := by
        obtain ⟨b1, b2⟩ := textL_sum k (n :: zs)
        rw [textN]
        rw [if_neg (by omega), if_neg (by omega)]
        split
        · have := sepS [32, 59, 32] (textL k (n :: zs))
          simp only [List.length_cons, List.length_nil] at this b1 b2 ⊢
          omega
        · rw [if_pos (by omega)]
          have := sepS [32, 124, 32] (textL k (n :: zs))
          simp only [List.length_cons, List.length_nil] at this b1 b2 ⊢
          omega
      rw [lensT, List.length_cons] at t1
      omega
    · intro t ht
      rw [subsN, subsL_flat] at ht
      rcases List.mem_cons.1 ht with rfl | ht
      · exact okB_no
      · obtain ⟨x, hx, ht2⟩ := List.mem_flatMap.1 ht
        rcases List.mem_cons.1 hx with rfl | hx
        · exact h.o t ht2
        · exact h2.o x hx t ht2
def Rds (p : List T → R Nd) : Prop := ∀ l n r, TsOk l → p l = .ok (n, r) → Nok l r n
theorem more_nok {x : List UInt8} {p : List T → R Nd} (hp : Rds p) (hE : P9.Ends p) : ∀ (f : Nat) (l : List T) (zs : List Nd) (r : List T), TsOk l → moreP x p f l = .ok (zs, r) → Mok l r zs
  | 0, l, zs, r, _, h => by cases h; exact mokNil l
  | f + 1, l, zs, r, hl, h => by
    unfold moreP at h
    split at h
    · rename_i hs
      obtain ⟨a, r1, h1, h2⟩ := andThen_some h
      obtain ⟨as', r2, h3, h4⟩ := andThen_some h2
      cases h4
      exact mokCons (sees_len hs) (hp _ a r1 hl.tail h1) (more_nok hp hE f r1 as' r (hl.sfx ((hE _ a r1 h1).trans (tail_sfx l))) h3)
    · cases h
      exact mokNil l
theorem join_nok {x : List UInt8} {p : List T → R Nd} (hp : Rds p) (hE : P9.Ends p) {k : Int} (hk : k = 3 ∨ k = 4) : Rds (fun l => andThen (listP x p l) fun ns r => .ok (joinP k ns, r)) := fun l n r hl h => by
  obtain ⟨ns, r1, h1, h2⟩ := andThen_some h
  cases h2
  obtain ⟨a, r2, h3, h4⟩ := andThen_some h1
  obtain ⟨zs, r3, h5, h6⟩ := andThen_some h4
  cases h6
  exact joinOk hk (hp l a r2 hl h3) (more_nok hp hE _ r2 zs r (hl.sfx (hE l a r2 h3)) h5) (more_ends hE _ r2 zs r h5).length_le
theorem leaf_ok9 {k mn mx : Int} {a : At} (hb : OkB a) (hn : nodeB k mn mx a 0 = true) : (∀ d, d + depthN (.mk k mn mx a []) ≤ 201 → soundN d (.mk k mn mx a []) = true) ∧ OkT9 (.mk k mn mx a []) := by
  refine ⟨fun d hd => ?_, fun t ht => ?_⟩
  · rw [depthN, depthL] at hd
    rw [soundN, soundL, List.length_nil, hn]
    simp
    omega
  · rw [subsN, subsL] at ht
    rcases List.mem_cons.1 ht with rfl | ht
    · exact hb
    · cases ht
theorem unit_nok (e : Nat) {pat : List T → R Nd} (hp : Rds pat) : Rds (unitP e pat) := fun l n r hl h => by
  unfold unitP at h
  split at h
  · rename_i hs
    obtain ⟨m, r1, h1, h2⟩ := andThen_some h
    obtain ⟨u, r2, h3, h4⟩ := andThen_some h2
    cases h4
    have := want_len h3
    have := sees_len hs
    exact (hp l.tail _ _ hl.tail h1).mono (by omega) (by omega)
  · obtain ⟨a, r1, h1, h2⟩ := andThen_some h
    obtain ⟨m, r2, h3, h4⟩ := andThen_some h2
    cases h4
    obtain ⟨a1, a2, a3, a4, a5⟩ := atom_ok hl h1
    obtain ⟨⟨b1, b2⟩, b3, b4⟩ := times_ok h3
    have hn : nodeB 1 m.1 m.2 a 0 = true := by
      unfold nodeB
      rw [if_pos rfl, a1]
      simp [b1.1, b1.2, b2.1, b2.2]
    obtain ⟨c1, c2⟩ := leaf_ok9 a2 hn
    refine ⟨c1, ?_, ?_, ?_, c2⟩
    · rw [depthN, depthL]; omega
    · rw [nodesN, nodesL]; omega
    · rw [textN, if_pos rfl, List.length_append]; omega
theorem item_nok (e : Nat) {pat : List T → R Nd} (hp : Rds pat) : Rds (itemP e pat) := fun l n r hl h => by
  unfold itemP at h
  split at h
  · rename_i hs
    obtain ⟨a, r1, h1, h2⟩ := andThen_some h
    cases h2
    obtain ⟨a1, a2, a3, a4, a5⟩ := atom_ok hl.tail h1
    have hl' := sees_len hs
    have hn : nodeB 2 0 0 a 0 = true := by
      unfold nodeB
      rw [if_neg (by decide), if_pos rfl, a1]
      rfl
    obtain ⟨c1, c2⟩ := leaf_ok9 a2 hn
    refine ⟨c1, ?_, ?_, ?_, c2⟩
    · rw [depthN, depthL]; omega
    · rw [nodesN, nodesL]; omega
    · rw [textN, if_neg (by decide), if_pos rfl, List.length_append]
      simp only [List.length_cons, List.length_nil]
      omega
  · exact unit_nok e hp l n r hl h
theorem pat_nok (e : Nat) : ∀ f, Rds (patP e f)
  | 0 => fun l n r _ h => by cases h
  | f + 1 => join_nok (p := seqP e (patP e f)) (join_nok (p := itemP e (patP e f)) (item_nok e (pat_nok e f)) (item_ends e (pat_ends e f)) (.inl rfl)) (seq_ends e (pat_ends e f)) (.inr rfl)
theorem toks_facts {t : List UInt8} {ts : List T} (h : toksP t = .ok ts) : TsOk ts ∧ ts.length ≤ 400 ∧ t.length ≤ 400 := by
  unfold toksP at h
  split at h
  · cases h
  · rename_i hl
    have h1 := laid_of t.length t 0 ts (Nat.le_refl _) h
    have h2 := laid_tok ts t 0 h1
    have h3 := laid_len ts t 0 h1
    refine ⟨h2, ?_, by omega⟩
    have h4 : ∀ us : List T, (∀ u ∈ us, isTok u.1 u.2.1 = true) → us.length ≤ (us.map fun t => t.2.1.length).sum := by
      intro us
      induction us with
      | nil => intro _; simp
      | cons u us ih =>
        intro hu
        have := ih fun v hv => hu v (List.mem_cons_of_mem _ hv)
        have h5 := hu u List.mem_cons_self
        have h6 : 1 ≤ u.2.1.length := by
          cases hx : u.2.1 with
          | nil => rw [hx] at h5; simp [isTok] at h5
          | cons b s => simp
        simp only [List.length_cons, List.map_cons, List.sum_cons]
        omega
    have := h4 ts h2
    omega
theorem listK {bef btw : List UInt8} {ls : List (List UInt8)} {K : Nat} (h : ∀ x ∈ ls, x.length ≤ K) : (listT bef ls btw []).length ≤ bef.length + (K + btw.length) * ls.length := by
  unfold listT
  split
  · simp
  · have := sepK btw K ls h
    simp only [List.length_append, List.length_nil]
    omega
/-- What is parsed from a text is sound, and not large. -/
theorem parse_sound {t : List UInt8} {q : Qu} (h : parseP t = .ok q) : (checkB q = true ∧ OkQ q) ∧ (nodesN q.p ≤ 800 ∧ (textN q.p).length ≤ 80000) ∧ (queryT q).length ≤ 200000 ∧ q.wi ≤ 99999 := by
  unfold parseP wholeP at h
  cases ht : toksP t with
  | error y => rw [ht] at h; cases h
  | ok ts =>
    rw [ht] at h
    obtain ⟨hts, hn, -⟩ := toks_facts ht
    simp only at h
    cases hq : queryP t.length (ts.length + 1) ts with
    | error y => rw [hq] at h; cases h
    | ok ar =>
      obtain ⟨q', r⟩ := ar
      rw [hq] at h
      cases r with
      | cons x r => cases h
      | nil =>
        cases h
        obtain ⟨p, r1, h1, h2⟩ := andThen_some hq
        obtain ⟨u, r2, h3, h4⟩ := andThen_some h2
        obtain ⟨wi, r3, h5, h6⟩ := andThen_some h4
        obtain ⟨hs, r4, h7, h8⟩ := andThen_some h6
        obtain ⟨es, r5, h9, h10⟩ := andThen_some h8
        cases h10
        have a1 := pat_nok t.length _ ts p r1 hts h1
        have hts1 : TsOk r1 := hts.sfx (pat_ends _ _ ts p r1 h1)
        have hts2 : TsOk r2 := hts1.sfx (want_ends _ _ r1 u r2 h3)
        have hts3 : TsOk r3 := hts2.sfx (num_ends _ _ _ r2 wi r3 h5)
        have hts4 : TsOk r4 := hts3.sfx (haves_ends _ r3 hs r4 h7)
        have l1 := (pat_ends _ _ ts p r1 h1).length_le
        have l2 := (want_ends _ _ r1 u r2 h3).length_le
        have l3 := (num_ends _ _ _ r2 wi r3 h5).length_le
        have l4 := (haves_ends _ r3 hs r4 h7).length_le
        obtain ⟨b1, b2, b3⟩ := num_okV h5
        have c1 : (∀ x ∈ hs, (haveB x = true ∧ okC x.cn) ∧ (haveT x).length ≤ 39) ∧ hs.length ≤ 400 := by
          unfold havesP at h7
          split at h7
          · rename_i hsee
            have := sees_len hsee
            obtain ⟨k1, k2⟩ := list_ok (Q := fun x => (haveB x = true ∧ okC x.cn) ∧ (haveT x).length ≤ 39) (k := 0) (fun l c r _ h => by
              obtain ⟨m1, m2, m3, m4⟩ := have_ok h
              exact ⟨⟨⟨m1, m2.1⟩, m4⟩, by omega⟩) (have_ends t.length) hts3.tail h7
            exact ⟨k1, by omega⟩
          · cases h7
            exact ⟨(fun x hx => by cases hx), by simp⟩
        have d1 : (∀ x ∈ es, aggB x = true ∧ (aggT x).length ≤ 15) ∧ es.length ≤ 400 := by
          unfold emitsP at h9
          split at h9
          · rename_i hsee
            have := sees_len hsee
            obtain ⟨k1, k2⟩ := list_ok (Q := fun x => aggB x = true ∧ (aggT x).length ≤ 15) (k := 0) (fun l c r _ h => by
              obtain ⟨m1, m2, m3, m4⟩ := agg_ok h
              exact ⟨⟨m1, m4⟩, by omega⟩) (agg_ends t.length) hts4.tail h9
            exact ⟨k1, by omega⟩
          · cases h9
            exact ⟨(fun x hx => by cases hx), by simp⟩
        have e1 := a1.d
        have e2 := a1.c
        have e3 := a1.t
        have e4 := itoaK b1
        have e5 := listK (bef := [32, 104, 97, 118, 105, 110, 103, 32]) (btw := [32, 97, 110, 100, 32]) (ls := hs.map haveT) (K := 39) (fun x hx => by
          obtain ⟨c, hc, rfl⟩ := List.mem_map.1 hx
          exact (c1.1 c hc).2)
        have e6 := listK (bef := [32, 101, 109, 105, 116, 32]) (btw := [44, 32]) (ls := es.map aggT) (K := 15) (fun x hx => by
          obtain ⟨c, hc, rfl⟩ := List.mem_map.1 hx
          exact (d1.1 c hc).2)
        rw [List.length_map] at e5 e6
        simp only [List.length_cons, List.length_nil] at e5 e6
        refine ⟨⟨?_, ?_⟩, ⟨by simp only; omega, by simp only; omega⟩, ?_, b2.2⟩
        · unfold checkB
          simp only [Bool.and_eq_true, decide_eq_true_eq, List.all_eq_true]
          exact ⟨⟨⟨a1.s 1 (by omega), b2.2⟩, fun x hx => (c1.1 x hx).1.1⟩, fun x hx => (d1.1 x hx).1⟩
        · exact ⟨a1.o, b2.1, fun x hx => (c1.1 x hx).1.2⟩
        · unfold queryT
          simp only [List.length_append, List.length_cons, List.length_nil]
          omega
end Go.Proofs.YtdjaijhlhhnmeaaGreatDoor.P9
