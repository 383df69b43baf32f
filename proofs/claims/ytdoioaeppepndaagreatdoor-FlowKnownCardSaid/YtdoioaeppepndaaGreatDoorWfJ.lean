/- Walk: whether two atoms have the same name. Made by program (wip/tools/gen_wfJ.py). -/
import Derived.Test.YtdoioaeppepndaaGreatDoorWfI
import Derived.Maps.OwnIn
import Derived.Maps.OwnSet
namespace Go.Proofs.YtdoioaeppepndaaGreatDoor
open Go.RowKit Go.Shelf Go.Maps
open A8 W10
attribute [local go_sem] Oper.semAt_some

theorem wkeys : Keyed Tryz.prog 9 := Maps.string_keyed Tryz.underlying9
theorem wkey (s : List UInt8) (h : s.length ≤ maxLen) : keyOf Tryz.prog 9 (.string (strOf s)) = some (.string s) := by
  have := WideMaps.keyOf_string_mk (P := Tryz.prog) (s := strOf s) Tryz.underlying9 (by unfold strOf ByteArray.size; simpa using h)
  rw [this]
  simp [strOf]
theorem wkeyLit (s : List UInt8) : WideAt.IsKeyLit (.string s) := trivial
theorem plainElem_bool_inv {P : Program} {e : TypeId} (he : P.underlying e = some .bool) {v : Value} {c : Bool} {ps : List MemPlace} (h : plainElem (H := Unit) P e v = some (.lit (.bool c), ps)) : v = .bool c := by
  unfold plainElem at h
  rw [he] at h
  cases v <;> simp_all
theorem zeroBool10 (w : World) : (zeroValue 4).run Tryz.prog w = .ok (.bool false) w := by kernel_rfl
/-- 'm[k]' at elements of bool, inside a fence. -/
theorem wpListIn_lookup_bool {F : Fence} {nF : Nat} {P : Program} (w : World) {ops : Array Oper} {rest : List Oper} {o : Oper} {a : Act} {Q : Exit → Act → World → Prop}
    (hg : o.guard = none) (m x : Operand) (t : TypeId) (hop : o.op = Op.lookup t m x false)
    (k e : TypeId) (K : Keyed P k) (ht : P.underlying t = some (.map k e)) (he : P.underlying e = some .bool) (hz : (zeroValue e).run P w = .ok (.bool false) w) (b n : Nat) (D : DataW Unit)
    (hm : a.eval m = .map (some b)) (hown : w.ownsMap P k (plainElem P e) b n D) (key : Value) (kl : Lit) (hx : a.eval x = key) (hkey : keyOf P k key = some kl)
    (c : Bool) (hat : D.atKey kl (.lit (.bool false)) = .lit (.bool c)) (hK : wpListIn F nF P ops Q rest (a.put o.dst (.bool c)) w) :
    wpListIn F nF P ops Q (o :: rest) a w := by
  refine wpListIn_plain hg fun K' hK' => ?_
  obtain ⟨v, ps, hrun, hv⟩ := hown.lookup K ht hz (plainElem_bool he false) hkey
  rw [hat] at hv
  obtain rfl := plainElem_bool_inv he hv
  unfold Oper.wpIn
  refine ⟨by simp [Oper.about, hop], ?_⟩
  rw [Oper.semAt_plain F _ _ (by rw [hop]; intro c hc'; cases hc')]
  simp [execOp, hop, hm, hx, hrun, Result.andThen]
  exact hK' _ _ hK
/-- A map's block that is turned. -/
theorem keep_grown10 {m B b : Nat} {t : TypeId} {W W' : World} {o : Obj} (hm : m ≤ b) (hB : b < B) (ho : W.heap[b]? = some o) (hc : o.isCells = false) (hg : W.grownBy W' (some b)) : KeepW KT t m B W W' := by
  refine ⟨hg.size, fun k u hk hx => (hg.block k (Array.getElem?_eq_some_iff.1 hk).1 fun e => ?_).trans hk⟩
  cases e
  rw [ho] at hk
  cases hk
  rcases hx with hx | ⟨cs, u, fr, rfl, -⟩ | ⟨hx, -⟩
  · omega
  · cases hc
  · omega
theorem owns_turn {W W' : World} {B b n : Nat} {t k : TypeId} {R : Value → Option (DataW Unit × List MemPlace)} {D : DataW Unit} (h : W.ownsMap Tryz.prog k R b n D) (ht : Turn t B W W') (hB : b < B) : W'.ownsMap Tryz.prog k R b n D := by
  obtain ⟨es, clock, hb, F, h2, h3⟩ := h
  exact ⟨es, clock, ht.same _ _ hb (.inl hB), F, h2, h3⟩
theorem owns_below {W W' : World} {b n : Nat} {k : TypeId} {R : Value → Option (DataW Unit × List MemPlace)} {D : DataW Unit} (h : W.ownsMap Tryz.prog k R b n D) (hb : Below W.heap.size W W') : W'.ownsMap Tryz.prog k R b n D := by
  obtain ⟨es, clock, h1, F, h2, h3⟩ := h
  exact ⟨es, clock, (hb.block b (Array.getElem?_eq_some_iff.1 h1).1).trans h1, F, h2, h3⟩
theorem owns_obj {W : World} {b n : Nat} {k : TypeId} {R : Value → Option (DataW Unit × List MemPlace)} {D : DataW Unit} (h : W.ownsMap Tryz.prog k R b n D) : ∃ o : Obj, W.heap[b]? = some o ∧ o.isCells = false := by
  obtain ⟨es, clock, h1, _⟩ := h
  exact ⟨_, h1, rfl⟩
theorem bx_grown {W W' : World} {b c : Nat} {u : TypeId} {us : List Value} (h : Bx W c u us) (hg : W.grownBy W' (some b)) (hne : c ≠ b) : Bx W' c u us := (hg.block c h.lt (fun e => hne (by cases e; rfl))).trans h
theorem ResP.grown {w W W' : World} {b c : Nat} {e : Int} (h : ResP w b e W) (hg : W.grownBy W' (some c)) (hc : w.heap.size ≤ c) (hne : b ≠ c) : ResP w b e W' :=
  ⟨bx_grown h.1 hg hne, h.2.grown hg h.2.size (fun j e => by cases e; omega)⟩

/-- What the program has seen. -/
def mapB (l : List (List UInt8)) : DataW Unit := l.foldl (fun D s => D.put (.string s) (.lit (.bool (!s.isEmpty)))) (.map [])
theorem mapB_snoc (l : List (List UInt8)) (s : List UInt8) : mapB (l ++ [s]) = (mapB l).put (.string s) (.lit (.bool (!s.isEmpty))) := by
  unfold mapB
  rw [List.foldl_append]
  rfl
theorem snoc_ind {α : Type} {P : List α → Prop} (h0 : P []) (h1 : ∀ l x, P l → P (l ++ [x])) : ∀ l, P l := by
  intro l
  rw [← List.reverse_reverse l]
  induction l.reverse with
  | nil => exact h0
  | cons x r ih => rw [List.reverse_cons]; exact h1 _ _ ih
theorem mapB_isMap (l : List (List UInt8)) : IsMap (mapB l) := by
  refine snoc_ind (P := fun l => IsMap (mapB l)) ⟨[], rfl⟩ (fun l s h => ?_) l
  rw [mapB_snoc]
  exact h.put _ _
theorem mapB_at (l : List (List UInt8)) (s : List UInt8) : (mapB l).atKey (.string s) (.lit (.bool false)) = .lit (.bool (l.contains s && !s.isEmpty)) := by
  refine snoc_ind (P := fun l => (mapB l).atKey (.string s) (.lit (.bool false)) = .lit (.bool (l.contains s && !s.isEmpty))) rfl (fun l x h => ?_) l
  rw [mapB_snoc]
  by_cases hx : s = x
  · subst hx
    rw [atKey_put_same (mapB_isMap l) (wkeyLit s)]
    simp
  · rw [atKey_put_other (by intro e; cases e; exact hx rfl), h]
    have : (l ++ [x]).contains s = l.contains s := by
      rw [Bool.eq_iff_iff]
      simp [hx]
    rw [this]
theorem onceL_snoc (l : List (List UInt8)) (x : List UInt8) : onceL (l ++ [x]) = (onceL l && (x.isEmpty || !l.contains x)) := by
  induction l with
  | nil => simp [onceL]
  | cons s r ih =>
    rw [List.cons_append, onceL, onceL, ih]
    rw [Bool.eq_iff_iff]
    by_cases hs : s = x
    · subst hs
      cases h1 : s.isEmpty <;> simp
    · have hs' : ¬ x = s := fun e => hs e.symm
      simp [hs, hs']
      constructor
      · rintro ⟨h1, h2, h3⟩; exact ⟨⟨h1, h2⟩, h3⟩
      · rintro ⟨⟨h1, h2⟩, h3⟩; exact ⟨h1, h2, h3⟩
theorem onceL_pre {a b : List (List UInt8)} (h : a <+: b) (ha : onceL a = false) : onceL b = false := by
  obtain ⟨r, rfl⟩ := h
  refine snoc_ind (P := fun r => onceL (a ++ r) = false) (by simpa using ha) (fun l x h => ?_) r
  rw [← List.append_assoc, onceL_snoc, h]
  rfl
/-- The names of leaves. -/
def nmsL (l : List (Tr × Nat)) : List (List UInt8) := l.map fun x => nmT x.1
theorem nmsL_snoc (l : List (Tr × Nat)) (x : Tr × Nat) : nmsL (l ++ [x]) = nmsL l ++ [nmT x.1] := by simp [nmsL]
theorem nmsL_pre {a b : List (Tr × Nat)} (h : a <+: b) : nmsL a <+: nmsL b := by
  obtain ⟨r, rfl⟩ := h
  exact ⟨nmsL r, by simp [nmsL]⟩
theorem nmT_nd (t : Tr) : nmT t = t.nd.atom.nm := by
  cases t with
  | mk k mn mx g sk ks => rw [nd_mk]; rfl
theorem nmsL_nd (T : Tr) : nmsL (lfL (subsT T)) = leafNames T.nd := by
  unfold nmsL leafNames
  have h1 : ((lfL (subsT T)).map fun x => nmT x.1) = ((lfL (subsT T)).map Prod.fst).map nmT := by rw [List.map_map]; rfl
  rw [h1, lfL_fst, ← lf_nd, List.map_map]
  exact List.map_congr_left fun t _ => nmT_nd t
set_option maxRecDepth 100000 in
set_option maxHeartbeats 8000000 in
theorem checkTwice_any (q : GQ) (w : World) (hq : QW w q) (hlen : (subsT q.t).length ≤ 999999) :
    Calls Tryz.prog 108 #[.agg q.row.toArray] w fun e w' => e = .returned (.int .i64 (if onceL (leafNames q.qu.p) = true then 0 else 8)) ∧ Below w.heap.size w w' := by
  obtain ⟨T, wi, sh, hv, se, em⟩ := q
  obtain ⟨hT, hwi, hh, he, -, -⟩ := hq
  simp only at hT hh he hlen hwi
  obtain ⟨Ah, ch, rfl, hlh, -⟩ := sl_get (by decide) hh
  obtain ⟨Ae, ce, rfl, hle, -⟩ := sl_get (by decide) he
  clear hh he
  have hfull : onceL (leafNames (GQ.qu ⟨T, wi, .slice Ah hv.length ch, hv, .slice Ae em.length ce, em⟩).p) = onceL (nmsL (lfL (subsT T))) := by rw [nmsL_nd]; rfl
  rw [hfull]
  clear hfull
  obtain ⟨E, hE⟩ : ∃ E : Int, E = if onceL (nmsL (lfL (subsT T))) = true then 0 else 8 := ⟨_, rfl⟩
  rw [← hE]
  have hnd := fun w => wleaves_any T w
  have hseq := fun (b' : Nat) (w' : World) => wleaves_seq w T hT (by omega) b' w'
  have hmem : ∀ x ∈ lfL (subsT T), TrW w x.1 := fun x hx u hu => hT u (subs_trans (lf_mem hx) hu)
  have hLl : (lfL (subsT T)).length ≤ 1000000 := by
    have h1 : (lfL (subsT T)).length = ((subsT T).filter lfB).length := by rw [← lfL_fst, List.length_map]
    have h2 := List.length_filter_le lfB (subsT T)
    omega
  obtain ⟨L, hL⟩ : ∃ L, L = lfL (subsT T) := ⟨_, rfl⟩
  rw [← hL] at hmem hseq hE hLl
  have HE := Lib.hid hE
  clear hL hE
  have hone := hT.one
  obtain ⟨k, mn, mx, ⟨⟨kd, bd, bn, cs, nm⟩, sc⟩, sk, ks⟩ := T
  obtain ⟨-, ⟨-, hsc⟩, hsl⟩ := hone
  simp only at hsc
  obtain ⟨A1, cap1, rfl, -, -⟩ := sl_get (by decide) hsc
  obtain ⟨A, cap, rfl, -, -⟩ := sl_get (by decide) hsl
  clear hsc hsl
  clear hT hlen
  simp only [GQ.row, Tr.row, List.cons_append, List.nil_append] at hnd hseq ⊢
  have HM := Lib.hid hmem
  have HQ := Lib.hid hseq
  clear hmem hseq
  refine (callsIn_wide (n := 5)).1 ?_
  refine callsIn_of_wp_marks Tryz.func108 rfl trivial ?_ rfl
  simp only [Tryz.ntmps108, List.size_toArray, List.length_cons, List.length_nil, Nat.reduceAdd, Nat.reduceSub, Array.replicate_succ, Array.replicate_zero, List.push_toArray, List.append_toArray, List.nil_append, List.cons_append]
  have hz := fun (_ : Nat) => show (((((w.alloc (.cells #[.int .i64 k, .int .i64 mn, .int .i64 mx, .int .i64 kd, .bool bd, .int .u64 bn, .slice A1 cs.length cap1, .string (strOf nm), .slice A ks.length cap, .int .u64 wi, .slice Ah hv.length ch, .slice Ae em.length ce] 35)).alloc (.cells #[.int .i64 0] 23)).alloc (.map #[] 0)).alloc (.cells #[.map (some (w.heap.size + 1 + 1))] 128)).alloc (.cells #[.int .i64 k, .int .i64 mn, .int .i64 mx, .int .i64 kd, .bool bd, .int .u64 bn, .slice A1 cs.length cap1, .string (strOf nm), .slice A ks.length cap] 31)).heap.size = w.heap.size + 5 ∧ ResP w (w.heap.size + 1) 0 (((((w.alloc (.cells #[.int .i64 k, .int .i64 mn, .int .i64 mx, .int .i64 kd, .bool bd, .int .u64 bn, .slice A1 cs.length cap1, .string (strOf nm), .slice A ks.length cap, .int .u64 wi, .slice Ah hv.length ch, .slice Ae em.length ce] 35)).alloc (.cells #[.int .i64 0] 23)).alloc (.map #[] 0)).alloc (.cells #[.map (some (w.heap.size + 1 + 1))] 128)).alloc (.cells #[.int .i64 k, .int .i64 mn, .int .i64 mx, .int .i64 kd, .bool bd, .int .u64 bn, .slice A1 cs.length cap1, .string (strOf nm), .slice A ks.length cap] 31)) ∧ (((((w.alloc (.cells #[.int .i64 k, .int .i64 mn, .int .i64 mx, .int .i64 kd, .bool bd, .int .u64 bn, .slice A1 cs.length cap1, .string (strOf nm), .slice A ks.length cap, .int .u64 wi, .slice Ah hv.length ch, .slice Ae em.length ce] 35)).alloc (.cells #[.int .i64 0] 23)).alloc (.map #[] 0)).alloc (.cells #[.map (some (w.heap.size + 1 + 1))] 128)).alloc (.cells #[.int .i64 k, .int .i64 mn, .int .i64 mx, .int .i64 kd, .bool bd, .int .u64 bn, .slice A1 cs.length cap1, .string (strOf nm), .slice A ks.length cap] 31)).ownsMap Tryz.prog 9 (plainElem Tryz.prog 4) (w.heap.size + 1 + 1) 0 (mapB []) ∧ Bx (((((w.alloc (.cells #[.int .i64 k, .int .i64 mn, .int .i64 mx, .int .i64 kd, .bool bd, .int .u64 bn, .slice A1 cs.length cap1, .string (strOf nm), .slice A ks.length cap, .int .u64 wi, .slice Ah hv.length ch, .slice Ae em.length ce] 35)).alloc (.cells #[.int .i64 0] 23)).alloc (.map #[] 0)).alloc (.cells #[.map (some (w.heap.size + 1 + 1))] 128)).alloc (.cells #[.int .i64 k, .int .i64 mn, .int .i64 mx, .int .i64 kd, .bool bd, .int .u64 bn, .slice A1 cs.length cap1, .string (strOf nm), .slice A ks.length cap] 31)) (w.heap.size + 1 + 1 + 1) 128 [.map (some (w.heap.size + 1 + 1))] ∧ Bx (((((w.alloc (.cells #[.int .i64 k, .int .i64 mn, .int .i64 mx, .int .i64 kd, .bool bd, .int .u64 bn, .slice A1 cs.length cap1, .string (strOf nm), .slice A ks.length cap, .int .u64 wi, .slice Ah hv.length ch, .slice Ae em.length ce] 35)).alloc (.cells #[.int .i64 0] 23)).alloc (.map #[] 0)).alloc (.cells #[.map (some (w.heap.size + 1 + 1))] 128)).alloc (.cells #[.int .i64 k, .int .i64 mn, .int .i64 mx, .int .i64 kd, .bool bd, .int .u64 bn, .slice A1 cs.length cap1, .string (strOf nm), .slice A ks.length cap] 31)) (w.heap.size + 1 + 1 + 1 + 1) 31 [.int .i64 k, .int .i64 mn, .int .i64 mx, .int .i64 kd, .bool bd, .int .u64 bn, .slice A1 cs.length cap1, .string (strOf nm), .slice A ks.length cap] from by
    have h2 := Bx.new (w.alloc (.cells #[.int .i64 k, .int .i64 mn, .int .i64 mx, .int .i64 kd, .bool bd, .int .u64 bn, .slice A1 cs.length cap1, .string (strOf nm), .slice A ks.length cap, .int .u64 wi, .slice Ah hv.length ch, .slice Ae em.length ce] 35)) [.int .i64 0] 23
    have h3 := World.ownsMap_made (H := Unit) ((w.alloc (.cells #[.int .i64 k, .int .i64 mn, .int .i64 mx, .int .i64 kd, .bool bd, .int .u64 bn, .slice A1 cs.length cap1, .string (strOf nm), .slice A ks.length cap, .int .u64 wi, .slice Ah hv.length ch, .slice Ae em.length ce] 35)).alloc (.cells #[.int .i64 0] 23)) Tryz.prog 9 (plainElem Tryz.prog 4)
    have h4 := Bx.new (((w.alloc (.cells #[.int .i64 k, .int .i64 mn, .int .i64 mx, .int .i64 kd, .bool bd, .int .u64 bn, .slice A1 cs.length cap1, .string (strOf nm), .slice A ks.length cap, .int .u64 wi, .slice Ah hv.length ch, .slice Ae em.length ce] 35)).alloc (.cells #[.int .i64 0] 23)).alloc (.map #[] 0)) [.map (some (w.heap.size + 1 + 1))] 128
    have h5 := Bx.new ((((w.alloc (.cells #[.int .i64 k, .int .i64 mn, .int .i64 mx, .int .i64 kd, .bool bd, .int .u64 bn, .slice A1 cs.length cap1, .string (strOf nm), .slice A ks.length cap, .int .u64 wi, .slice Ah hv.length ch, .slice Ae em.length ce] 35)).alloc (.cells #[.int .i64 0] 23)).alloc (.map #[] 0)).alloc (.cells #[.map (some (w.heap.size + 1 + 1))] 128)) [.int .i64 k, .int .i64 mn, .int .i64 mx, .int .i64 kd, .bool bd, .int .u64 bn, .slice A1 cs.length cap1, .string (strOf nm), .slice A ks.length cap] 31
    simp only [World.size_alloc] at h2 h3 h4 h5
    exact ⟨by simp, ⟨((h2.later (b1 _ _)).later (b1 _ _)).later (b1 _ _), bstep (b3 _ _ _ _) (b2 _ _ _)⟩, (h3.alloc _).alloc _, h4.later (b1 _ _), h5⟩
  have HZ := Lib.hid hz
  have hmm := @run_makeMap Tryz.prog
  clear hz
  gi_wp2_with (refine ⟨trivial, ?_⟩; refine (callsIn_wide.2 (hnd _)).mono ?_; rintro e w' ⟨rfl, rfl⟩)
  clear hnd hmm
  have hW3 := HZ.out 0
  obtain ⟨W3, hW3e⟩ : ∃ W3, W3 = ((((w.alloc (.cells #[.int .i64 k, .int .i64 mn, .int .i64 mx, .int .i64 kd, .bool bd, .int .u64 bn, .slice A1 cs.length cap1, .string (strOf nm), .slice A ks.length cap, .int .u64 wi, .slice Ah hv.length ch, .slice Ae em.length ce] 35)).alloc (.cells #[.int .i64 0] 23)).alloc (.map #[] 0)).alloc (.cells #[.map (some (w.heap.size + 1 + 1))] 128)).alloc (.cells #[.int .i64 k, .int .i64 mn, .int .i64 mx, .int .i64 kd, .bool bd, .int .u64 bn, .slice A1 cs.length cap1, .string (strOf nm), .slice A ks.length cap] 31) := ⟨_, rfl⟩
  rw [← hW3e] at hW3
  rw [← hW3e]
  obtain ⟨hsz3, hR3, hM3, hB3, hN3⟩ := hW3
  have hseq := HQ.out (w.heap.size + 1 + 1 + 1 + 1) W3 (SameB.of hR3.2) hN3
  clear hW3e HQ hN3 HZ
  refine wpIn_range_own (gf := 121) (lb := #[.pointer (some ⟨w.heap.size + 1 + 1 + 1 + 1, 0, none⟩)]) rfl (enters_of Tryz.func121 (by kernel_rfl) rfl)
    hseq (by omega) (Below.refl _ _) (fun _ => rfl)
    (fun pre Wx => onceL (nmsL pre) = true ∧ ResP w (w.heap.size + 1) 0 Wx ∧ Wx.ownsMap Tryz.prog 9 (plainElem Tryz.prog 4) (w.heap.size + 1 + 1) pre.length (mapB (nmsL pre)) ∧ Bx Wx (w.heap.size + 1 + 1 + 1) 128 [.map (some (w.heap.size + 1 + 1))])
    (fun pre Wx => onceL (nmsL pre) = false ∧ ResP w (w.heap.size + 1) 8 Wx)
    ?hI ?hIx ?h0 (fun x act Wx => ∃ b5, w.heap.size + 1 + 1 + 1 < b5 ∧ Bx Wx b5 31 x.1.row ∧ act = { tmps := #[.agg #[.int .i64 k, .int .i64 mn, .int .i64 mx, .int .i64 kd, .bool bd, .int .u64 bn, .slice A1 cs.length cap1, .string (strOf nm), .slice A ks.length cap, .int .u64 wi, .slice Ah hv.length ch, .slice Ae em.length ce], .pointer (some ⟨w.heap.size, 0, none⟩), .pointer (some ⟨w.heap.size + 1, 0, none⟩), .pointer (some ⟨w.heap.size + 1 + 1 + 1, 0, none⟩), undef, .pointer (some ⟨b5, 0, none⟩), undef, .map (some (w.heap.size + 1 + 1)), .pointer (some ⟨w.heap.size, 0, none⟩), .agg #[.int .i64 k, .int .i64 mn, .int .i64 mx, .int .i64 kd, .bool bd, .int .u64 bn, .slice A1 cs.length cap1, .string (strOf nm), .slice A ks.length cap], .func (.func 121) #[] #[.pointer (some ⟨w.heap.size + 1 + 1 + 1 + 1, 0, none⟩)], .int .i64 (x.2 : Int), .agg x.1.row.toArray, undef, undef, undef, undef, undef, undef, undef, undef, undef, undef], defers := [] }) ?hA ?assign ?body ?done ?stop
  case hI =>
    rintro s Wx Wy ⟨g0, g1, g2, g3⟩ ht
    exact ⟨g0, g1.turn ht (by omega), owns_turn g2 ht (by omega), bx_turn g3 ht (.inl (by omega))⟩
  case hIx =>
    rintro s Wx Wy ⟨g0, g1⟩ ht
    exact ⟨g0, g1.turn ht (by omega)⟩
  case h0 => exact ⟨rfl, hR3, hM3, hB3⟩
  case hA =>
    rintro x act s Wx Wy row ⟨b5, h1, h2, h3⟩ hg hr
    exact ⟨b5, h1, bx_noncells h2 hg (fun j e => (hr j e).2), h3⟩
  case assign =>
    intro l2 pre x Wx K hp hsz hi hK
    have ho := (HM.out x (hp.subset (by simp))).one
    obtain ⟨x, c⟩ := x
    obtain ⟨k2, mn2, mx2, ⟨⟨kd2, bd2, bn2, cs2, nm2⟩, sc2⟩, sk2, ks2⟩ := x
    obtain ⟨-, ⟨-, e1⟩, e2⟩ := ho
    simp only at e1
    obtain ⟨A5, c5, rfl, hcl, -⟩ := sl_get (by decide) e1
    obtain ⟨A6, c6, rfl, hkl, -⟩ := sl_get (by decide) e2
    simp only [Tr.row] at hK ⊢
    clear e1 e2 hi hseq
    gi_wp2
    exact hK _ _ ⟨Wx.heap.size, by omega, Bx.new _ _ _, rfl⟩ (b1 _ _)
  case body =>
    rintro l2 pre x act Wx hp hsz ⟨g0, g1, g2, g3⟩ ⟨b5, hb5l, hb5, rfl⟩
    have ho := (HM.out x (hp.subset (by simp))).one
    have hpl : pre.length < maxLen := by
      have h2 := hp.length_le
      rw [List.length_append, List.length_singleton] at h2
      unfold maxLen
      omega
    have hrs : onceL (nmsL (pre ++ [x])) = ((nmT x.1).isEmpty || !(nmsL pre).contains (nmT x.1)) := by rw [nmsL_snoc, onceL_snoc, g0]; rfl
    have hmp : mapB (nmsL (pre ++ [x])) = (mapB (nmsL pre)).put (.string (nmT x.1)) (.lit (.bool (!(nmT x.1).isEmpty))) := by rw [nmsL_snoc, mapB_snoc]
    have hat := mapB_at (nmsL pre) (nmT x.1)
    have hxl : (pre ++ [x]).length = pre.length + 1 := by simp
    obtain ⟨xs, hxs⟩ : ∃ xs, xs = pre ++ [x] := ⟨_, rfl⟩
    rw [← hxs] at hrs hmp hxl ⊢
    obtain ⟨pl, hple⟩ : ∃ pl, pl = pre.length := ⟨_, rfl⟩
    rw [← hple] at hpl hxl g2
    obtain ⟨D, hD⟩ : ∃ D, D = mapB (nmsL pre) := ⟨_, rfl⟩
    rw [← hD] at hmp hat g2
    obtain ⟨cc, hcc⟩ : ∃ cc, cc = (nmsL pre).contains (nmT x.1) := ⟨_, rfl⟩
    rw [← hcc] at hrs hat
    clear hxs hp g0 hple hD hcc
    obtain ⟨x, c⟩ := x
    have hnm : (nmT x).length ≤ maxLen := by
      cases x with
      | mk k mn mx g sk ks => exact ho.2.1.1.nm
    obtain ⟨k2, mn2, mx2, ⟨⟨kd2, bd2, bn2, cs2, nm2⟩, sc2⟩, sk2, ks2⟩ := x
    obtain ⟨-, ⟨-, e1⟩, e2⟩ := ho
    simp only at e1
    obtain ⟨A5, c5, rfl, hcl, -⟩ := sl_get (by decide) e1
    obtain ⟨A6, c6, rfl, hkl, -⟩ := sl_get (by decide) e2
    simp only [Tr.row, nmT] at hb5 hrs hmp hat hnm ⊢
    clear e1 e2 hseq
    have hK5 := hb5.blk
    have d7 := hK5.cell 7 _ rfl
    have m1 := g3.blk.cell 0 _ rfl
    have r1 := g1.cell
    have r2 := g1.fr
    have hkey := wkey nm2 hnm
    obtain ⟨st, hst⟩ : ∃ st, st = strOf nm2 := ⟨_, rfl⟩
    obtain ⟨em2, hem⟩ : ∃ em2, em2 = nm2.isEmpty := ⟨_, rfl⟩
    have hse : st.toList.isEmpty = em2 := by rw [hst, strOf_toL, hem]
    rw [← hst] at hkey d7 ⊢
    rw [← hem] at hrs hmp hat
    have hemE : em2 = true → st.toList = [] := fun h => by rw [hst, strOf_toL]; rw [hem] at h; simpa using h
    have hemN : em2 = false → ¬ st.toList = [] := fun h => by rw [hst, strOf_toL]; rw [hem] at h; simpa using h
    have HR := Lib.hid hrs
    have HMP := Lib.hid hmp
    have HAT := Lib.hid hat
    have HKEY := Lib.hid hkey
    have HXL := Lib.hid hxl
    have HPL := Lib.hid hpl
    have G1 := Lib.hid g1
    have G2 := Lib.hid g2
    have G3 := Lib.hid g3
    clear hK5 hb5 hrs hmp hat hkey hxl hpl g1 g2 g3 hem hst hnm
    cases em2 with
    | true =>
      have HAT2 : RowKit.Hid (D.atKey (.string nm2) (.lit (.bool false)) = .lit (.bool false)) := Lib.hid (by rw [HAT.out]; simp)
      have HS2 : RowKit.Hid (onceL (nmsL xs) = true) := Lib.hid (by rw [HR.out]; rfl)
      have hnn := hemE rfl
      clear HAT HR hemE hemN
      gi_wp2_with (first | (gi_at_lookup; refine wpListIn_lookup_bool _ rfl _ _ 128 rfl 9 4 wkeys Tryz.underlying128 Tryz.underlying4 (zeroBool10 _) _ _ _ rfl G2.out _ _ rfl HKEY.out _ HAT2.out ?_) | (gi_at_mapUpdate; refine wpListIn_mapUpdate_own _ rfl _ _ _ 128 rfl 9 4 wkeys Tryz.underlying128 _ _ _ _ rfl G2.out HPL.out _ _ (.string nm2) rfl rfl HKEY.out (.lit (.bool false)) [] (plainElem_bool Tryz.underlying4 _) ?_; intro w7 hown7 hg7))
      have hob := owns_obj G2.out
      obtain ⟨o, ho1, ho2⟩ := hob
      exact ⟨keep_grown10 (by omega) (by omega) ho1 ho2 hg7, HS2.out, G1.out.grown hg7 (by omega) (by omega), by rw [HXL.out, HMP.out]; exact hown7, bx_grown G3.out hg7 (by omega)⟩
    | false =>
      cases cc with
      | true =>
        have HAT2 : RowKit.Hid (D.atKey (.string nm2) (.lit (.bool false)) = .lit (.bool true)) := Lib.hid (by rw [HAT.out]; rfl)
        have HS2 : RowKit.Hid (onceL (nmsL xs) = false) := Lib.hid (by rw [HR.out]; rfl)
        clear HAT HR hemE hemN
        gi_wp2_with (gi_at_lookup; refine wpListIn_lookup_bool _ rfl _ _ 128 rfl 9 4 wkeys Tryz.underlying128 Tryz.underlying4 (zeroBool10 _) _ _ _ rfl G2.out _ _ rfl HKEY.out _ HAT2.out ?_)
        exact ⟨KeepsFrom.setCell _ _ _ _, HS2.out, G1.out.set (by omega) 8⟩
      | false =>
        have HAT2 : RowKit.Hid (D.atKey (.string nm2) (.lit (.bool false)) = .lit (.bool false)) := Lib.hid (by rw [HAT.out]; rfl)
        have HS2 : RowKit.Hid (onceL (nmsL xs) = true) := Lib.hid (by rw [HR.out]; rfl)
        have hnn := hemN rfl
        clear HAT HR hemE hemN
        gi_wp2_with (first | (gi_at_lookup; refine wpListIn_lookup_bool _ rfl _ _ 128 rfl 9 4 wkeys Tryz.underlying128 Tryz.underlying4 (zeroBool10 _) _ _ _ rfl G2.out _ _ rfl HKEY.out _ HAT2.out ?_) | (gi_at_mapUpdate; refine wpListIn_mapUpdate_own _ rfl _ _ _ 128 rfl 9 4 wkeys Tryz.underlying128 _ _ _ _ rfl G2.out HPL.out _ _ (.string nm2) rfl rfl HKEY.out (.lit (.bool true)) [] (plainElem_bool Tryz.underlying4 _) ?_; intro w7 hown7 hg7))
        have hob := owns_obj G2.out
        obtain ⟨o, ho1, ho2⟩ := hob
        exact ⟨keep_grown10 (by omega) (by omega) ho1 ho2 hg7, HS2.out, G1.out.grown hg7 (by omega) (by omega), by rw [HXL.out, HMP.out]; exact hown7, bx_grown G3.out hg7 (by omega)⟩
  case done =>
    rintro D Wx hD ⟨g0, g1, -, -⟩ hKd
    clear hseq
    have he : E = 0 := by rw [HE.out, if_pos g0]
    have HH := Lib.hid he
    clear he
    have HG := Lib.hid g1
    have r1 := g1.cell
    have r2 := g1.fr
    have HD := Lib.hid hKd
    clear g1 hKd g0
    gi_wp2
    exact fin_one (fun W h => by simp [results, Tryz.f108, go_sem, h.cell]) (Nat.le_refl _) (show w.heap.size ≤ D by omega) (def_set HD.out) ((HG.out.set (by omega) 0).eq HH.out)
  case stop =>
    rintro D pre Wx hD hp ⟨g0, g1⟩ hKd
    clear hseq
    have he : E = 8 := by
      rw [HE.out, if_neg]
      rw [onceL_pre (nmsL_pre hp) g0]
      simp
    have HH := Lib.hid he
    clear he g0 hp
    gi_wp2
    exact fin_one (fun W h => by simp [results, Tryz.f108, go_sem, h.cell]) (Nat.le_refl _) (show w.heap.size ≤ D by omega) hKd (g1.eq HH.out)
end Go.Proofs.YtdoioaeppepndaaGreatDoor
