/- Lists of parts in memory: what stands while a list is read. -/
import Derived.Test.YtdjaijhlhhnmeaaGreatDoorParD
import Derived.Maps.AppendAt
namespace Go.Proofs.YtdjaijhlhhnmeaaGreatDoor
open Go.RowKit
open A8 Tk7 P9

/-- A kind of elements: ghosts γ, that say what was read and how it lies in memory. -/
structure Elt (α γ : Type) where
  val : γ → α
  vl : γ → Value
  cells : γ → List Value
  E : World → γ → Prop
  sz : Nat
  len : ∀ c, (cells c).length = sz
  one : ∀ {W : World} {c : γ}, E W c → ∀ u ∈ cells c, u.oneCell' = true
  mono : ∀ {W W' : World} {c : γ}, E W c → Le W W' → E W' c
/-- A part, a list of parts, as values. -/
def IsE {α γ : Type} (K : Elt α γ) (W : World) (a : α) (v : Value) : Prop := ∃ c, K.val c = a ∧ K.E W c ∧ v = K.vl c
def IsL {α γ : Type} (K : Elt α γ) (W : World) (zs : List α) (v : Value) : Prop := ∃ cs : List γ, cs.map K.val = zs ∧ Sl W K.sz cs.length v (cs.flatMap K.cells) ∧ ∀ c ∈ cs, K.E W c
/-- What stands while a list is read: x is what comes of all, v the parts so far. -/
structure LI {α γ : Type} (K : Elt α γ) (w : World) (b : Nat) (g : G9) (e : TypeId) (s : List UInt8) (p : List T → R α) (l : List T) (x : R (List α)) (m : Nat) (v : Value) (wr : World) (cs : List γ) (r : List T) : Prop where
  fuel : r.length ≤ m
  eq : x = andThen (moreP s p m r) fun zs r' => .ok (cs.map K.val ++ zs, r')
  at9 : At9 wr b g r
  gr : w.grownBy wr (some b)
  own : wr.ownsRow w.heap.size e K.sz v cs.length (cs.flatMap K.cells)
  el : ∀ c ∈ cs, K.E (hide (fun k => decide (k < w.heap.size) || (v.ownBlock == some k)) wr) c
  few : cs.length + r.length ≤ g.ts.length + 1
  le : r.length ≤ l.length
theorem li_end {α γ : Type} {K : Elt α γ} {w : World} {b : Nat} {g : G9} {e : TypeId} {s : List UInt8} {p : List T → R α} {l : List T} {x : R (List α)} {m : Nat} {v : Value} {wr : World} {cs : List γ} {r : List T} (h : LI K w b g e s p l x m v wr cs r) (hs : seesP s r = false) :
    x = .ok (cs.map K.val, r) ∧ Out9 w b g (.ok (cs.map K.val, r) : R (List α)) (IsL K) (.returned v) wr := by
  refine ⟨?_, out_ok h.gr ⟨cs, rfl, sl_row h.own (fun k hk => by simp only [decide_eq_false_iff_not]; omega), fun c hc => K.mono (h.el c hc) ?_⟩ h.at9⟩
  · rw [h.eq]
    have : moreP s p m r = .ok ([], r) := by
      cases m with
      | zero => rfl
      | succ m =>
        show (if seesP s r = true then _ else _) = _
        rw [if_neg (by rw [hs]; decide)]
    rw [this, andThen_ok, List.append_nil]
  · refine hide_le (Nat.le_refl _) fun k _ hp => ⟨?_, rfl⟩
    simp only [Bool.or_eq_false_iff] at hp
    exact hp.1
theorem li_err {α γ : Type} {K : Elt α γ} {w : World} {b : Nat} {g : G9} {e : TypeId} {s : List UInt8} {p : List T → R α} {l : List T} {x : R (List α)} {m : Nat} {v : Value} {wr : World} {cs : List γ} {r : List T} (h : LI K w b g e s p l x m v wr cs r) (hs : seesP s r = true) {y : F} (hy : p r.tail = .error y) : x = .error y := by
  rw [h.eq]
  cases m with
  | zero =>
    have := h.fuel
    cases r with
    | nil => cases hs
    | cons t r => simp at this
  | succ m =>
    show andThen (if seesP s r = true then _ else _) _ = _
    rw [if_pos hs, hy]
    rfl
/-- A block that holds the cells of one element, as a row of the call's own. -/
theorem row_lit {w : World} {base : Nat} {e : TypeId} {sz : Nat} (us : List Value) (hl : us.length = sz) (hb : base ≤ w.heap.size) : (w.alloc (.cells us.toArray e)).ownsRow base e sz (.slice (some ⟨w.heap.size, 0, none⟩) 1 1) 1 us := by
  refine ⟨by omega, .inr ⟨w.heap.size, 1, us.toArray, rfl, hb, ?_, Nat.le_refl _, by unfold maxLen; omega, by simp; omega, ?_⟩⟩
  · show (w.heap.push _)[w.heap.size]? = some _
    simp
  · simp [← hl]
theorem li_start {α γ : Type} {K : Elt α γ} {w : World} {b : Nat} {g : G9} {e : TypeId} {s : List UInt8} {p : List T → R α} (hE : P9.Ends p) {l r : List T} {a : α} (h0 : At9 w b g l) (hp : p l = .ok (a, r)) {w1 : World} (hg : w.grownBy w1 (some b)) (c : γ) (hc : K.val c = a) (hEc : K.E (hide (fun k => decide (k < w.heap.size)) w1) c) (ha : At9 w1 b g r) :
    LI K w b g e s p l (listP s p l) r.length (.slice (some ⟨w1.heap.size, 0, none⟩) 1 1) (w1.alloc (.cells (K.cells c).toArray e)) [c] r := by
  have hle := (hE l a r hp).length_le
  refine ⟨Nat.le_refl _, ?_, ha.later (b1 _ _), grown_trans hg (grown_of b (b1 _ _)), ?_, fun c' hc' => ?_, ?_, hle⟩
  · unfold listP
    rw [hp, andThen_ok]
    simp only [List.map_cons, List.map_nil, hc]
    rfl
  · have := row_lit (w := w1) (base := w.heap.size) (e := e) (K.cells c) (K.len c) hg.size
    simp only [List.flatMap_cons, List.flatMap_nil, List.append_nil]
    exact this
  · rw [List.mem_singleton.1 hc']
    refine K.mono hEc (hide_le (by simp) fun k hk hx => ⟨?_, ?_⟩)
    · simp only [decide_eq_false_iff_not] at hx
      simp only [Bool.or_eq_false_iff, decide_eq_false_iff_not]
      refine ⟨hx, ?_⟩
      simp [Value.ownBlock]
      omega
    · exact (b1 w1 (.cells (K.cells c).toArray e)).block k hk
  · obtain ⟨n, h1, h2, _⟩ := h0.n
    have : l.length ≤ g.ts.length := by rw [h2, List.length_drop]; omega
    simp only [List.length_cons, List.length_nil]
    omega
theorem li_next {α γ : Type} {K : Elt α γ} {w : World} {b : Nat} {g : G9} {e : TypeId} {s : List UInt8} {p : List T → R α} (hE : P9.Ends p) {l : List T} {x : R (List α)} {m : Nat} {v : Value} {wr : World} {cs : List γ} {r r2 : List T} {a : α} (h0 : At9 w b g l) (h : LI K w b g e s p l x m v wr cs r) (hs : seesP s r = true) (hp : p r.tail = .ok (a, r2))
    {w1 w2 w3 : World} (hg1 : wr.grownBy w1 (some b)) (hg2 : w1.grownBy w2 (some b)) (c : γ) (hc : K.val c = a) (hEc : K.E (hide (fun k => decide (k < w1.heap.size)) w2) c) (ha : At9 w2 b g r2)
    {v' : Value} (hown : w3.ownsRow w.heap.size e K.sz v' (cs.length + 1) (cs.flatMap K.cells ++ K.cells c)) (hg3 : (w2.alloc (.cells (K.cells c).toArray e)).grownBy w3 v.ownBlock) (hloc : v'.ownBlock = v.ownBlock ∨ v'.ownBlock = some (w2.alloc (.cells (K.cells c).toArray e)).heap.size) :
    ∃ m', m = m' + 1 ∧ LI K w b g e s p l x m' v' w3 (cs ++ [c]) r2 := by
  have hb := h0.lt
  have hr0 : r ≠ [] := fun e => by rw [e] at hs; cases hs
  have hrl : r.tail.length + 1 = r.length := by cases r with
    | nil => exact absurd rfl hr0
    | cons t r => rfl
  have hle := (hE _ a r2 hp).length_le
  have hf := h.fuel
  obtain ⟨m', rfl⟩ : ∃ m', m = m' + 1 := ⟨m - 1, by omega⟩
  have hlv := h.own.lt
  have hvb : ∀ k, v.ownBlock = some k → w.heap.size ≤ k ∧ k < wr.heap.size := hlv
  have hg12 := grown_trans hg1 hg2
  have hsz2 : wr.heap.size ≤ w2.heap.size := hg12.size
  have hb4 := b1 w2 (.cells (K.cells c).toArray e)
  have hs4 : w2.heap.size + 1 = (w2.alloc (.cells (K.cells c).toArray e)).heap.size := by simp
  have hs3 : w2.heap.size + 1 ≤ w3.heap.size := by rw [hs4]; exact hg3.size
  have hold : ∀ k, k < w2.heap.size → some k ≠ v.ownBlock → w3.heap[k]? = w2.heap[k]? := fun k hk hne => (hg3.block k (by omega) hne).trans (hb4.block k hk)
  have hv'n : ∀ k, k < w2.heap.size → v'.ownBlock = some k → v.ownBlock = some k := fun k hk e => by
    rcases hloc with h1 | h1
    · rw [← h1]; exact e
    · rw [h1] at e
      injection e with e
      omega
  have hgw : w.grownBy w3 (some b) := by
    refine ⟨hg3.os.trans (hg12.os.trans h.gr.os), hg3.tape.trans (hg12.tape.trans h.gr.tape), hg3.output.trans (hg12.output.trans h.gr.output), Nat.le_trans h.gr.size (by omega), fun k hk hne => ?_⟩
    have hk2 := h.gr.size
    refine (hold k (by omega) (fun e => by have := hvb k e.symm; omega)).trans ((hg12.block k (by omega) hne).trans (h.gr.block k hk hne))
  refine ⟨m', rfl, ?_, ?_, ?_, hgw, ?_, ?_, ?_, ?_⟩
  · omega
  · rw [h.eq]
    show andThen (if seesP s r = true then _ else _) _ = _
    rw [if_pos hs, hp, andThen_ok]
    cases moreP s p m' r2 with
    | error y => rfl
    | ok ar =>
      obtain ⟨zs, r'⟩ := ar
      show (Except.ok (cs.map K.val ++ (a :: zs), r') : R (List α)) = .ok ((cs ++ [c]).map K.val ++ zs, r')
      rw [List.map_append, List.append_assoc]
      simp [hc]
  · obtain ⟨n, n1, n2, n3⟩ := ha.n
    have hblk : w3.heap[b]? = w2.heap[b]? := hold b (by have := ha.lt; omega) (fun e => by have := hvb b e.symm; omega)
    have hbW : Blk w3 b [g.v, .int .i64 (n : Int), .int .i64 (g.e : Int)] := ⟨by have := n3.lt; omega, fun i u hu => (World.cell?_of_block (w := w2) (a := ⟨b, i, none⟩) hblk).trans (n3.cell i u hu), fun i u hu => (World.frozen?_of_block (w := w2) (a := ⟨b, i, none⟩) hblk).trans (n3.fr i u hu)⟩
    exact h0.to hgw ⟨n, n1, n2, hbW⟩
  · rw [List.length_append, List.flatMap_append]
    simpa using hown
  · intro c' hc'
    rcases List.mem_append.1 hc' with hc' | hc'
    · refine K.mono (h.el c' hc') (hide_le (by omega) fun k hk hx => ?_)
      simp only [Bool.or_eq_false_iff, decide_eq_false_iff_not, beq_eq_false_iff_ne] at hx ⊢
      refine ⟨⟨hx.1, fun e => hx.2 (hv'n k (by omega) e)⟩, ?_⟩
      exact (hold k (by omega) (fun e => hx.2 e.symm)).trans (hg12.block k hk (fun e => by injection e with e; omega))
    · rw [List.mem_singleton.1 hc']
      have hs1 := hg1.size
      refine K.mono hEc (hide_le (by omega) fun k hk hx => ?_)
      simp only [Bool.or_eq_false_iff, decide_eq_false_iff_not, beq_eq_false_iff_ne] at hx ⊢
      have hne : v.ownBlock ≠ some k := fun e => by have := hvb k e; omega
      have := h.gr.size
      exact ⟨⟨by omega, fun e => hne (hv'n k hk e)⟩, hold k hk (fun e => hne e.symm)⟩
  · have := h.few
    rw [List.length_append]
    simp only [List.length_cons, List.length_nil]
    omega
  · have := h.le
    omega
/-- .. in a later world, of which the reader's block alone has turned. -/
theorem li_move {α γ : Type} {K : Elt α γ} {w : World} {b : Nat} {g : G9} {e : TypeId} {s : List UInt8} {p : List T → R α} {l : List T} {x : R (List α)} {m : Nat} {v : Value} {wr w1 : World} {cs : List γ} {r : List T} (hb : b < w.heap.size) (h : LI K w b g e s p l x m v wr cs r) (hg : wr.grownBy w1 (some b)) (ha : At9 w1 b g r) : LI K w b g e s p l x m v w1 cs r := by
  have hlv := h.own.lt
  have hsz := h.gr.size
  refine ⟨h.fuel, h.eq, ha, grown_trans h.gr hg, h.own.kept hg ?_, fun c hc => K.mono (h.el c hc) (hide_le hg.size fun k hk hx => ?_), h.few, h.le⟩
  · cases hv : v.ownBlock with
    | none => exact .inl rfl
    | some k => exact .inr (fun e => by injection e with e; have := hlv k hv; omega)
  · simp only [Bool.or_eq_false_iff, decide_eq_false_iff_not, beq_eq_false_iff_ne] at hx ⊢
    exact ⟨hx, hg.block k hk (fun e => by injection e with e; omega)⟩
theorem li_own {w wr w1 : World} {b sz n : Nat} {e : TypeId} {v : Value} {us : List Value} (hlv : ∀ k, v.ownBlock = some k → w.heap.size ≤ k ∧ k < wr.heap.size) (hg : wr.grownBy w1 (some b)) (hb : b < w.heap.size) (h : wr.ownsRow w.heap.size e sz v n us) : w1.ownsRow w.heap.size e sz v n us := by
  refine h.kept hg ?_
  cases hv : v.ownBlock with
  | none => exact .inl rfl
  | some k => exact .inr (fun e => by injection e with e; have := hlv k hv; omega)
theorem new_cells {w : World} {t : TypeId} (us : List Value) : ∀ (j : Nat) (u : Value), us[j]? = some u → (w.alloc (.cells us.toArray t)).cell? ((⟨w.heap.size, 0, none⟩ : Addr).add j) = some u := blk_cells (Blk.new w us t)
theorem out_mono {w w' : World} {b : Nat} {g : G9} {α : Type} {x : R α} {V V' : World → α → Value → Prop} {e : Ending} (hV : ∀ W a v, V W a v → V' W a v) (h : Out9 w b g x V e w') : Out9 w b g x V' e w' := by
  refine ⟨h.1, ?_⟩
  have h2 := h.2
  cases x with
  | error y => exact h2
  | ok ar =>
    obtain ⟨a, r⟩ := ar
    obtain ⟨v, h3, h4, h5⟩ := h2
    exact ⟨v, h3, hV _ _ _ h4, h5⟩
theorem infoNd : (Tryz.prog.info? 29).map (fun i => (i.zero, i.size, i.bytes)) = some (some (.agg #[.int .i64 0, .int .i64 0, .int .i64 0, .int .i64 0, .bool false, .int .u64 0, .slice none 0 0, .string ⟨#[]⟩, .slice none 0 0]), 9, 112) := by kernel_rfl
theorem infoCn : (Tryz.prog.info? 72).map (fun i => (i.zero, i.size, i.bytes)) = some (some (.agg #[.int .i64 0, .int .i64 0]), 2, 16) := by kernel_rfl
theorem infoHv : (Tryz.prog.info? 74).map (fun i => (i.zero, i.size, i.bytes)) = some (some (.agg #[.int .i64 0, .string ⟨#[]⟩, .int .i64 0, .int .i64 0]), 4, 40) := by kernel_rfl
theorem infoAg : (Tryz.prog.info? 70).map (fun i => (i.zero, i.size, i.bytes)) = some (some (.agg #[.int .i64 0, .string ⟨#[]⟩]), 2, 24) := by kernel_rfl
theorem infoI : (Tryz.prog.info? 3).map (fun i => (i.zero, i.size, i.bytes)) = some (some (.int .i64 0), 1, 8) := by kernel_rfl
/-- Conditions, aggregates, conditions on them, nodes. -/
def cnK : Elt Cn Cn where
  val := id
  vl c := .agg #[.int .i64 c.op, .int .i64 c.va]
  cells := cnC
  E _ c := okC c
  sz := 2
  len _ := rfl
  one _ := by simp [cnC, Value.oneCell']
  mono h _ := h
def agK : Elt Ag Ag where
  val := id
  vl c := .agg #[.int .i64 c.fn, .string (strOf c.nm)]
  cells := agC
  E _ c := okV c.fn
  sz := 2
  len _ := rfl
  one _ := by simp [agC, Value.oneCell']
  mono h _ := h
def hvK : Elt Hv Hv where
  val := id
  vl h := .agg #[.int .i64 h.ag.fn, .string (strOf h.ag.nm), .int .i64 h.cn.op, .int .i64 h.cn.va]
  cells := hvC
  E _ h := okC h.cn ∧ okV h.ag.fn
  sz := 4
  len _ := rfl
  one _ := by simp [hvC, Value.oneCell']
  mono h _ := h
theorem sl_one {W : World} {sz n : Nat} {v : Value} {us : List Value} (h : Sl W sz n v us) : v.oneCell' = true := by
  obtain ⟨_, _, A, cap, rfl, _⟩ := h
  rfl
def ndK : Elt Nd Tr where
  val := Tr.nd
  vl t := .agg t.row.toArray
  cells := Tr.row
  E := TrW
  sz := 9
  len := row_len
  one {W c} h := by
    obtain ⟨k, mn, mx, ⟨a, sc⟩, sk, ks⟩ := c
    have h1 := h.one
    have h2 := sl_one h1.2.1.2
    have h3 := sl_one h1.2.2
    simp only at h2
    simp [Tr.row, Value.oneCell'] at h2 h3 ⊢
    exact ⟨h2, h3⟩
  mono h hl := trW_le h hl
def inK : Elt Int Int where
  val := id
  vl n := .int .i64 n
  cells n := [.int .i64 n]
  E _ n := 0 ≤ n ∧ n < 64
  sz := 1
  len _ := rfl
  one _ := by simp [Value.oneCell']
  mono h _ := h
theorem sl_form {W : World} {sz n : Nat} {v : Value} {us : List Value} (h : Sl W sz n v us) : ∃ A m c, v = .slice A m c := by
  obtain ⟨_, _, A, cap, rfl, _⟩ := h
  exact ⟨A, n, cap, rfl⟩
theorem tr_form {W : World} {k mn mx : Int} {a : A8.At} {sc sk : Value} {ks : List Tr} (h : ndK.E W (.mk k mn mx ⟨a, sc⟩ sk ks)) : (∃ A n c, sc = .slice A n c) ∧ ∃ A n c, sk = .slice A n c := by
  have h' : TrW W (.mk k mn mx ⟨a, sc⟩ sk ks) := h
  have h1 := h'.one
  exact ⟨sl_form h1.2.1.2, sl_form h1.2.2⟩
end Go.Proofs.YtdjaijhlhhnmeaaGreatDoor
