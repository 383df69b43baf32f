/- Nodes in new memory. -/
import Derived.Test.YtdoioaeppepndaaGreatDoorKitQm
import Derived.Test.YtdoioaeppepndaaGreatDoorAppRun
import Derived.Deep.QuietTactic
import Derived.Outline
import Derived.Deep.LoopGhost
import Derived.IntWalk
namespace Go.Proofs.YtdoioaeppepndaaGreatDoor
open Go.RowKit
open A8 Tk7 P9

theorem infoCn10 : (Tryz.prog.info? 94).map (fun i => (i.zero, i.size, i.bytes)) = some (some (.agg #[.int .i64 0, .int .i64 0]), 2, 16) := by kernel_rfl
/-- A row of the call's own, seen where its block is not hidden. -/
theorem sl_own {w : World} {base sz n : Nat} {e : TypeId} {v : Value} {us : List Value} (h : w.ownsRow base e sz v n us) {P : Nat → Bool} (hp : ∀ k, v.ownBlock = some k → P k = false) : Sl (hide P w) sz n v us := by
  obtain ⟨h1, h2, A, cap, rfl, h4, h5, h6⟩ := Sl.of_own h
  refine ⟨h1, h2, A, cap, rfl, h4, h5, fun i u hu => ?_⟩
  obtain ⟨a, rfl, hl, hc⟩ := h6 i u hu
  refine ⟨a, rfl, by rw [hide_size]; exact hl, ?_⟩
  have h7 := hide_heap P w a.block
  rw [hp _ rfl] at h7
  have h8 : (hide P w).heap[a.block]? = w.heap[a.block]? := by
    rw [h7]
    cases w.heap[a.block]? <;> rfl
  exact (World.cell?_of_block (w := w) (a := a.add i) (by rw [add_block]; exact h8)).trans hc
def nil3 : Value := .slice none 0 0
/-- A node whose conditions and kids lie from m on, the kids in a row of the call's own. -/
structure OwnT (m : Nat) (W : World) (k mn mx : Int) (g : GA) (v : Value) (ks : List Tr) : Prop where
  ok : okV k ∧ okV mn ∧ okV mx
  atom : OneA (hide (two m v nil3) W) g
  own : W.ownsRow m 31 9 v ks.length (ks.flatMap Tr.row)
  el : ∀ c ∈ ks, Fr m v nil3 W c
theorem fr_below {m : Nat} {x y : Value} {W : World} {T : Tr} (h : Fr m x y W T) : TrW W T := trW_le h (hide_out (Nat.le_refl _) fun _ _ _ => rfl)
theorem two_out2 {m : Nat} {v : Value} {k : Nat} (h : two m v nil3 k = false) : decide (k < m) = false := by have := (two_no h).2.2; simp; omega
theorem OwnT.tr {m : Nat} {W : World} {k mn mx : Int} {g : GA} {v : Value} {ks : List Tr} (h : OwnT m W k mn mx g v ks) : TrW (hide (fun k => decide (k < m)) W) (.mk k mn mx g v ks) := by
  intro t ht
  simp only [subsT, subsTL_flat, List.mem_cons, List.mem_flatMap] at ht
  rcases ht with rfl | ⟨c, hc, ht⟩
  · exact ⟨h.ok, oneA_le h.atom (hide_le (Nat.le_refl _) fun k _ hp => ⟨two_out2 hp, rfl⟩), sl_row h.own fun k hk => by simp; omega⟩
  · exact fr_out (h.el c hc) t ht
theorem OwnT.trW {m : Nat} {W : World} {k mn mx : Int} {g : GA} {v : Value} {ks : List Tr} (h : OwnT m W k mn mx g v ks) : TrW W (.mk k mn mx g v ks) := trW_le h.tr (hide_out (Nat.le_refl _) fun _ _ _ => rfl)
theorem OwnT.later {m : Nat} {W W' : World} {k mn mx : Int} {g : GA} {v : Value} {ks : List Tr} (h : OwnT m W k mn mx g v ks) (hb : Below W.heap.size W W') : OwnT m W' k mn mx g v ks :=
  ⟨h.ok, oneA_le h.atom (hide_le hb.size fun k hk hp => ⟨hp, hb.block k hk⟩), own_later h.own hb, fun c hc => fr_later (h.el c hc) hb⟩
/-- .. where a block below m has turned. -/
theorem OwnT.low {m : Nat} {W W' : World} {k mn mx : Int} {g : GA} {v : Value} {ks : List Tr} (h : OwnT m W k mn mx g v ks) {b : Nat} (hg : W.grownBy W' (some b)) (hb : b < m) : OwnT m W' k mn mx g v ks := by
  have hle : Le (hide (two m v nil3) W) (hide (two m v nil3) W') := hide_le hg.size fun k hk hp => ⟨hp, hg.block k hk (fun e => by injection e with e; have := (two_no hp).2.2; omega)⟩
  exact ⟨h.ok, oneA_le h.atom hle, h.own.kept hg (.inr fun e => by have := (h.own.lt _ e).1; omega), fun c hc => trW_le (h.el c hc) hle⟩
/-- Nine cells put where an element of a row lies. -/
def putE (W : World) (p : Addr) (v0 v1 v2 v3 v4 v5 v6 v7 v8 : Value) : World :=
  ((((((((W.setCell p v0).setCell ⟨p.block, p.off + 1, none⟩ v1).setCell ⟨p.block, p.off + 2, none⟩ v2).setCell ⟨p.block, p.off + 3, none⟩ v3).setCell ⟨p.block, p.off + 4, none⟩ v4).setCell ⟨p.block, p.off + 5, none⟩ v5).setCell ⟨p.block, p.off + 6, none⟩ v6).setCell ⟨p.block, p.off + 7, none⟩ v7).setCell ⟨p.block, p.off + 8, none⟩ v8
theorem addK (g n : Nat) : (⟨g, 0, none⟩ : Addr).add n = ⟨g, n, none⟩ := by unfold Addr.add; split <;> simp_all
def set9 (xs : List Value) (n : Nat) (us : List Value) : List Value := xs.take n ++ us ++ xs.drop (n + 9)
theorem set_nine (xs : List Value) (n : Nat) (h : n + 9 ≤ xs.length) (v0 v1 v2 v3 v4 v5 v6 v7 v8 : Value) :
    ((((((((xs.set n v0).set (n + 1) v1).set (n + 2) v2).set (n + 3) v3).set (n + 4) v4).set (n + 5) v5).set (n + 6) v6).set (n + 7) v7).set (n + 8) v8 = set9 xs n [v0, v1, v2, v3, v4, v5, v6, v7, v8] := by
  have e : xs = xs.take n ++ (xs.drop n).take 9 ++ xs.drop (n + 9) := by
    rw [List.append_assoc, ← List.drop_drop, List.take_append_drop, List.take_append_drop]
  have hl : ((xs.drop n).take 9).length = 9 := by rw [List.length_take, List.length_drop]; omega
  have ht : (xs.take n).length = n := by rw [List.length_take]; omega
  unfold set9
  generalize xs.take n = a at *
  generalize xs.drop (n + 9) = b at *
  generalize (xs.drop n).take 9 = c at *
  subst e
  subst ht
  match c, hl with
  | [c0, c1, c2, c3, c4, c5, c6, c7, c8], _ =>
    simp [List.append_assoc]
theorem flat_set {f : Tr → List Value} (hf : ∀ t, (f t).length = 9) : ∀ (ks : List Tr) (i : Nat) (t : Tr), i < ks.length → set9 (ks.flatMap f) (i * 9) (f t) = (ks.set i t).flatMap f
  | [], i, t, h => by cases h
  | k :: ks, 0, t, _ => by
    unfold set9
    rw [List.set_cons_zero, List.flatMap_cons, List.flatMap_cons, Nat.zero_mul, List.take_zero, List.nil_append, Nat.zero_add]
    congr 1
    rw [List.drop_append_of_le_length (by rw [hf]; omega), List.drop_of_length_le (by rw [hf]; omega), List.nil_append]
  | k :: ks, i + 1, t, h => by
    have ih := flat_set hf ks i t (by simpa using h)
    unfold set9 at ih ⊢
    rw [List.set_cons_succ, List.flatMap_cons, List.flatMap_cons, ← ih]
    have h1 : (i + 1) * 9 = (f k).length + i * 9 := by rw [hf]; omega
    have h2 : (i + 1) * 9 + 9 = (f k).length + (i * 9 + 9) := by rw [hf]; omega
    rw [h2, h1, List.take_length_add_append, List.drop_length_add_append]
    simp [List.append_assoc]
theorem putE_own {W : World} {m n g c i : Nat} {xs : List Value} (h : W.ownsRow m 31 9 (.slice (some ⟨g, 0, none⟩) n c) n xs) (hi : i < n) (v0 v1 v2 v3 v4 v5 v6 v7 v8 : Value) :
    (putE W ((⟨g, 0, none⟩ : Addr).add (i * 9)) v0 v1 v2 v3 v4 v5 v6 v7 v8).ownsRow m 31 9 (.slice (some ⟨g, 0, none⟩) n c) n (set9 xs (i * 9) [v0, v1, v2, v3, v4, v5, v6, v7, v8]) ∧ W.grownBy (putE W ((⟨g, 0, none⟩ : Addr).add (i * 9)) v0 v1 v2 v3 v4 v5 v6 v7 v8) (some g) := by
  have hl := h.1
  have hx : i * 9 + 9 ≤ xs.length := by omega
  rw [addK, ← set_nine xs (i * 9) hx]
  unfold putE
  have s0 := h.stored (i * 9) v0
  have s1 := s0.1.stored (i * 9 + 1) v1
  have s2 := s1.1.stored (i * 9 + 2) v2
  have s3 := s2.1.stored (i * 9 + 3) v3
  have s4 := s3.1.stored (i * 9 + 4) v4
  have s5 := s4.1.stored (i * 9 + 5) v5
  have s6 := s5.1.stored (i * 9 + 6) v6
  have s7 := s6.1.stored (i * 9 + 7) v7
  have s8 := s7.1.stored (i * 9 + 8) v8
  exact ⟨s8.1, (((((((s0.2.trans s1.2).trans s2.2).trans s3.2).trans s4.2).trans s5.2).trans s6.2).trans s7.2).trans s8.2⟩
theorem mem_set {α : Type} {l : List α} {i : Nat} {x c : α} (h : c ∈ l.set i x) : c ∈ l ∨ c = x := List.mem_or_eq_of_mem_set h
/-- A kid put into the row. -/
theorem OwnT.put {m n g c i : Nat} {W : World} {k mn mx : Int} {a : GA} {ks : List Tr} (h : OwnT m W k mn mx a (.slice (some ⟨g, 0, none⟩) n c) ks) (hi : i < ks.length) {T : Tr} (hT : Fr m (.slice (some ⟨g, 0, none⟩) n c) nil3 W T) {v0 v1 v2 v3 v4 v5 v6 v7 v8 : Value} (hr : T.row = [v0, v1, v2, v3, v4, v5, v6, v7, v8]) :
    OwnT m (putE W ((⟨g, 0, none⟩ : Addr).add (i * 9)) v0 v1 v2 v3 v4 v5 v6 v7 v8) k mn mx a (.slice (some ⟨g, 0, none⟩) n c) (ks.set i T) ∧ W.grownBy (putE W ((⟨g, 0, none⟩ : Addr).add (i * 9)) v0 v1 v2 v3 v4 v5 v6 v7 v8) (some g) := by
  have hn : n = ks.length := by
    rcases h.own.2 with ⟨hv, _⟩ | ⟨g', cap, cur, hv, _⟩
    · cases hv
    · cases hv; rfl
  have ho := h.own
  rw [← hn] at ho
  have hp := putE_own ho (hn ▸ hi) v0 v1 v2 v3 v4 v5 v6 v7 v8
  have hle : Le (hide (two m (.slice (some ⟨g, 0, none⟩) n c) nil3) W) (hide (two m (.slice (some ⟨g, 0, none⟩) n c) nil3) (putE W ((⟨g, 0, none⟩ : Addr).add (i * 9)) v0 v1 v2 v3 v4 v5 v6 v7 v8)) :=
    hide_le hp.2.size fun k hk hq => ⟨hq, hp.2.block k hk (fun e => (two_no hq).1 e.symm)⟩
  refine ⟨⟨h.ok, oneA_le h.atom hle, ?_, fun d hd => ?_⟩, hp.2⟩
  · rw [List.length_set, ← hn, ← flat_set row_len ks i T hi, hr]
    exact hp.1
  · rcases mem_set hd with hd | rfl
    · exact trW_le (h.el d hd) hle
    · exact trW_le hT hle
theorem cn_one10 {cs : List Cn} : ∀ u ∈ cs.flatMap cnC, u.oneCell' = true := by
  intro u hu
  obtain ⟨c, _, hc⟩ := List.mem_flatMap.1 hu
  simp only [cnC, List.mem_cons, List.not_mem_nil, or_false] at hc
  rcases hc with rfl | rfl <;> rfl
set_option maxRecDepth 100000 in
set_option maxHeartbeats 4000000 in
theorem ownAtom_any (g : GA) (w : World) (hg : OneA w g) (hc : g.a.cs.length ≤ 1000) : Calls Tryz.prog 102 #[.agg (gaC g).toArray] w fun e w' =>
    ∃ A c, e = .returned (.agg (gaC ⟨g.a, .slice A g.a.cs.length c⟩).toArray) ∧ Below w.heap.size w w' ∧ w'.ownsRow w.heap.size 94 2 (.slice A g.a.cs.length c) g.a.cs.length (g.a.cs.flatMap cnC) := by
  obtain ⟨⟨kd, bd, bn, cs, nm⟩, sc⟩ := g
  obtain ⟨-, hsl⟩ := hg
  simp only [gaC] at hsl hc ⊢
  obtain ⟨i0, hi0, hz0, hz1, hz2⟩ := info_parts infoCn10
  obtain ⟨A, m, cap, rfl⟩ := sl_form hsl
  have hA : Blk (((w.alloc (.cells #[.int .i64 kd, .bool bd, .int .u64 bn, .slice A m cap, .string (strOf nm)] 28)).alloc (.cells #[.int .i64 0, .bool false, .int .u64 0, .slice none 0 0, .string ⟨#[]⟩] 28)).alloc (.cells #[] 94)) w.heap.size [.int .i64 kd, .bool bd, .int .u64 bn, .slice A m cap, .string (strOf nm)] := ((Blk.new w [.int .i64 kd, .bool bd, .int .u64 bn, .slice A m cap, .string (strOf nm)] 28).alloc _).alloc _
  have hB : Blk (((w.alloc (.cells #[.int .i64 kd, .bool bd, .int .u64 bn, .slice A m cap, .string (strOf nm)] 28)).alloc (.cells #[.int .i64 0, .bool false, .int .u64 0, .slice none 0 0, .string ⟨#[]⟩] 28)).alloc (.cells #[] 94)) (w.heap.size + 1) [.int .i64 0, .bool false, .int .u64 0, .slice none 0 0, .string ⟨#[]⟩] := (Blk.is (us := [.int .i64 0, .bool false, .int .u64 0, .slice none 0 0, .string ⟨#[]⟩]) 28 (by simp)).alloc _
  have hown : (((w.alloc (.cells #[.int .i64 kd, .bool bd, .int .u64 bn, .slice A m cap, .string (strOf nm)] 28)).alloc (.cells #[.int .i64 0, .bool false, .int .u64 0, .slice none 0 0, .string ⟨#[]⟩] 28)).alloc (.cells #[] 94)).ownsRow (w.heap.size + 2) 94 2 (.slice (some ⟨w.heap.size + 2, 0, none⟩) 0 0) 0 [] := by
    have := World.ownsRow_made (base := w.heap.size + 2) (e := 94) (size := 2) ((w.alloc (.cells #[.int .i64 kd, .bool bd, .int .u64 bn, .slice A m cap, .string (strOf nm)] 28)).alloc (.cells #[.int .i64 0, .bool false, .int .u64 0, .slice none 0 0, .string ⟨#[]⟩] 28)) #[] 0 (by simp) (by decide) rfl
    simpa using this
  obtain ⟨A3, c3, w4, hrun, hown', hgrow⟩ := run_append_any (P := Tryz.prog) _ (w.heap.size + 2) 26 26 94 i0 (.agg #[.int .i64 0, .int .i64 0]) 2 16 Tryz.underlying26 hi0 hz0 hz1 hz2 rfl (by decide) _ 0 [] hown _ cs.length (cs.flatMap cnC) (hsl.later (b3 w _ _ _)) cn_one10 (by unfold maxLen; omega) (by omega) (by simp) cs.length (cs.flatMap cnC) (Nat.zero_add _) (List.nil_append _)
  have hA4 := hA.grown hgrow (fun e => by simp [Value.ownBlock] at e)
  have hB4 := hB.grown hgrow (fun e => by simp [Value.ownBlock] at e)
  have hb4 : Below w.heap.size w w4 := (b3 w _ _ _).grown hgrow (by simp; omega) (fun k e => by simp [Value.ownBlock] at e; omega)
  have HO := Lib.hid hown'
  have HA4 := Lib.hid hA4
  have HF := Lib.hid hB4
  have HB := Lib.hid hb4
  clear hown' hgrow hA hB hown hsl hc hb4
  have y0 := hA4.cell 0 _ rfl
  have k0 := hA4.fr 0 _ rfl
  have y1 := hA4.cell 1 _ rfl
  have k1 := hA4.fr 1 _ rfl
  have y2 := hA4.cell 2 _ rfl
  have k2 := hA4.fr 2 _ rfl
  have y3 := hA4.cell 3 _ rfl
  have k3 := hA4.fr 3 _ rfl
  have y4 := hA4.cell 4 _ rfl
  have k4 := hA4.fr 4 _ rfl
  have d0 := hB4.cell 0 _ rfl
  have e0 := hB4.fr 0 _ rfl
  have d1 := hB4.cell 1 _ rfl
  have e1 := hB4.fr 1 _ rfl
  have d2 := hB4.cell 2 _ rfl
  have e2 := hB4.fr 2 _ rfl
  have d3 := hB4.cell 3 _ rfl
  have e3 := hB4.fr 3 _ rfl
  have d4 := hB4.cell 4 _ rfl
  have e4 := hB4.fr 4 _ rfl
  clear hA4 hB4
  go_enter Tryz.func102, Tryz.ntmps102
  go_wp2_with (at_builtin; refine wpList_append_run rfl _ _ _ rfl rfl rfl hrun ?_)
  refine named_post ?_
  intro W5 hW5
  have hZ : Blk W5 (w.heap.size + 1) [.int .i64 kd, .bool bd, .int .u64 bn, .slice A3 cs.length c3, .string (strOf nm)] := by
    rw [hW5]
    exact (((((HF.out.other (p := ⟨w.heap.size, 3, none⟩) (by simp) _).set 0 _).set 1 _).set 2 _).set 3 _).set 4 _
  have hB5 : Below w.heap.size w W5 := by
    rw [hW5]
    exact (((((HB.out.setCell (p := ⟨w.heap.size, 3, none⟩) (Nat.le_refl _) _).setCell (p := ⟨w.heap.size + 1, 0, none⟩) (Nat.le_succ _) _).setCell (p := ⟨w.heap.size + 1, 1, none⟩) (Nat.le_succ _) _).setCell (p := ⟨w.heap.size + 1, 2, none⟩) (Nat.le_succ _) _).setCell (p := ⟨w.heap.size + 1, 3, none⟩) (Nat.le_succ _) _).setCell (p := ⟨w.heap.size + 1, 4, none⟩) (Nat.le_succ _) _
  have hO5 : W5.ownsRow (w.heap.size + 2) 94 2 (.slice A3 cs.length c3) cs.length (cs.flatMap cnC) := by
    rw [hW5]
    exact own_set (own_set (own_set (own_set (own_set (own_set HO.out (b := w.heap.size) (by omega) 3 _) (b := w.heap.size + 1) (by omega) 0 _) (b := w.heap.size + 1) (by omega) 1 _) (b := w.heap.size + 1) (by omega) 2 _) (b := w.heap.size + 1) (by omega) 3 _) (b := w.heap.size + 1) (by omega) 4 _
  clear hW5
  have z0 := hZ.cell 0 _ rfl
  have z1 := hZ.cell 1 _ rfl
  have z2 := hZ.cell 2 _ rfl
  have z3 := hZ.cell 3 _ rfl
  have z4 := hZ.cell 4 _ rfl
  refine bodyPost_ret (by simp [results, Tryz.results102, go_sem, z0, z1, z2, z3, z4]; try rfl) rfl ?_
  exact ⟨A3, c3, rfl, hB5, own_mono hO5 (by omega)⟩
end Go.Proofs.YtdoioaeppepndaaGreatDoor
namespace Go.Proofs.YtdoioaeppepndaaGreatDoor
open Go.RowKit
open A8 Tk7 P9
attribute [local go_sem] Oper.semAt_some

/-- Small lists in each part. -/
def Bnd (N : Nd) : Prop := ∀ t ∈ subsN N, t.atom.cs.length ≤ 1000 ∧ t.kids.length ≤ 1000
theorem mem_subsL : ∀ {ks : List Nd} {n t : Nd}, n ∈ ks → t ∈ subsN n → t ∈ subsL ks
  | n :: ns, m, t, h, ht => by
    rw [subsL, List.mem_append]
    rcases List.mem_cons.1 h with rfl | h
    · exact .inl ht
    · exact .inr (mem_subsL h ht)
theorem Bnd.kid {k mn mx : Int} {a : A8.At} {ks : List Nd} (h : Bnd (.mk k mn mx a ks)) {n : Nd} (hn : n ∈ ks) : Bnd n := fun t ht => h t (by rw [subsN]; exact List.mem_cons_of_mem _ (mem_subsL hn ht))
/-- What OwnNode gives: the node in new memory. -/
def OutOwn (w : World) (N : Nd) (e : Ending) (w' : World) : Prop :=
  ∃ (k mn mx kd : Int) (bd : Bool) (bn : Int) (cs : List Cn) (nm : List UInt8) (B : Option Addr) (p q : Nat) (A : Option Addr) (n c : Nat) (ks : List Tr),
    e = .returned (.agg #[.int .i64 k, .int .i64 mn, .int .i64 mx, .int .i64 kd, .bool bd, .int .u64 bn, .slice B p q, .string (strOf nm), .slice A n c]) ∧
    (Tr.mk k mn mx ⟨⟨kd, bd, bn, cs, nm⟩, .slice B p q⟩ (.slice A n c) ks).nd = N ∧ Below w.heap.size w w' ∧ OwnT w.heap.size w' k mn mx ⟨⟨kd, bd, bn, cs, nm⟩, .slice B p q⟩ (.slice A n c) ks
theorem OwnT.mono {m m' : Nat} {W : World} {k mn mx : Int} {g : GA} {v : Value} {ks : List Tr} (h : OwnT m W k mn mx g v ks) (hm : m' ≤ m) : OwnT m' W k mn mx g v ks := by
  have hle : Le (hide (two m v nil3) W) (hide (two m' v nil3) W) := hide_le (Nat.le_refl _) fun k _ hp => ⟨two_is (two_no hp).1 (two_no hp).2.1 (by have := (two_no hp).2.2; omega), rfl⟩
  exact ⟨h.ok, oneA_le h.atom hle, own_mono h.own hm, fun c hc => trW_le (h.el c hc) hle⟩
theorem own_node {w W3 wr : World} {k mn mx : Int} {a : A8.At} {B : Option Addr} {q : Nat} {v : Value} {ts : List Tr} (hok : okV k ∧ okV mn ∧ okV mx) (hoa : OkA a) (hc : W3.ownsRow (w.heap.size + 2) 94 2 (.slice B a.cs.length q) a.cs.length (a.cs.flatMap cnC)) (hs : w.heap.size + 2 ≤ W3.heap.size) (hq : QI W3 wr v nil3 ts []) :
    OwnT (w.heap.size + 2) wr k mn mx ⟨a, .slice B a.cs.length q⟩ v ts := by
  have hv : ∀ k, v.ownBlock = some k → W3.heap.size ≤ k := fun k e => (hq.own.lt k e).1
  have hc2 := own_later hc hq.bel
  refine ⟨hok, ⟨hoa, sl_own hc2 fun k e => two_is (fun e2 => ?_) (fun e2 => by cases e2) (hc.lt k e).1⟩, own_mono hq.own hs, fun c hcc => trW_le (hq.el c hcc) (hide_le (Nat.le_refl _) fun k _ hp => ⟨two_is (two_no hp).1 (two_no hp).2.1 (by have := (two_no hp).2.2; omega), rfl⟩)⟩
  have h1 := (hc.lt k e).2
  have h2 := hv k e2
  omega
set_option maxRecDepth 100000 in
set_option maxHeartbeats 32000000 in
theorem ownNode_any (T : Tr) : ∀ w, TrW w T → Bnd T.nd → Calls Tryz.prog 62 #[.agg T.row.toArray] w (OutOwn w T.nd) := by
  refine Tr.ind (P := fun T => ∀ w, TrW w T → Bnd T.nd → Calls Tryz.prog 62 #[.agg T.row.toArray] w (OutOwn w T.nd)) (fun k mn mx g sk ks ih => ?_) T
  intro w hT hB
  have hsub := hB
  have hB0 := hB (.mk k mn mx g.a (ks.map Tr.nd)) (by rw [nd_mk, subsN]; exact List.mem_cons_self)
  have hAt := fun (w1 : World) (hb : Below w.heap.size w w1) => ownAtom_any g w1 (hT.one.2.1.later hb) hB0.1
  have hlen : ks.length ≤ 1000 := by have := hB0.2; simpa [Nd.kids] using this
  have hkid : ∀ t ∈ ks, Bnd t.nd := fun t ht => by rw [nd_mk] at hB; exact hB.kid (List.mem_map_of_mem ht)
  have hih := fun (t : Tr) (ht : t ∈ ks) (w1 : World) (hb : Below w.heap.size w w1) => ih t ht w1 ((hT.kid ht).later hb) (hkid t ht)
  have hone := hT.one
  have hok := hone.1
  obtain ⟨⟨kd, bd, bn, cs, nm⟩, sc⟩ := g
  obtain ⟨-, ⟨hoa, hsc⟩, hsl⟩ := hone
  obtain ⟨A1, n1, c1, rfl⟩ := sl_form hsc
  obtain ⟨A, cap, rfl, -, hels⟩ := sl_els (by decide) row_len hsl
  clear ih hT hB hB0 hsub hkid hsc hsl
  simp only [gaC] at hAt
  have hnd : (Tr.mk k mn mx ⟨⟨kd, bd, bn, cs, nm⟩, .slice A1 n1 c1⟩ (.slice A ks.length cap) ks).nd = .mk k mn mx ⟨kd, bd, bn, cs, nm⟩ (ks.map Tr.nd) := nd_mk _ _ _ _ _ _
  rw [hnd]
  clear hnd
  simp only [Tr.row]
  have HIH := Lib.hid hih
  have HEL := Lib.hid hels
  have HOA := Lib.hid hoa
  have HOK := Lib.hid hok
  clear hih hels hoa hok
  obtain ⟨iN, hiN, hzN0, hzN1, hzN2⟩ := info_parts infoNd
  go_enter Tryz.func62, Tryz.ntmps62
  go_upto_region 1 with fail
  refine named_wp ?_
  intro W1 hW1
  have hA1 : Blk W1 w.heap.size [.int .i64 k, .int .i64 mn, .int .i64 mx, .int .i64 kd, .bool bd, .int .u64 bn, .slice A1 n1 c1, .string (strOf nm), .slice A ks.length cap] := by rw [hW1]; exact (Blk.new w [.int .i64 k, .int .i64 mn, .int .i64 mx, .int .i64 kd, .bool bd, .int .u64 bn, .slice A1 n1 c1, .string (strOf nm), .slice A ks.length cap] 31).alloc _
  have hF1 : Blk W1 (w.heap.size + 1) [.int .i64 0, .int .i64 0, .int .i64 0, .int .i64 0, .bool false, .int .u64 0, .slice none 0 0, .string ⟨#[]⟩, .slice none 0 0] := by rw [hW1]; exact Blk.is (us := [.int .i64 0, .int .i64 0, .int .i64 0, .int .i64 0, .bool false, .int .u64 0, .slice none 0 0, .string ⟨#[]⟩, .slice none 0 0]) 31 (by simp)
  have hb1 : Below w.heap.size w W1 := by rw [hW1]; exact b2 w _ _
  have hs1 : W1.heap.size = w.heap.size + 2 := by rw [hW1]; simp
  clear hW1
  have x0 := hA1.cell 0 _ rfl
  have x1 := hA1.cell 1 _ rfl
  have x2 := hA1.cell 2 _ rfl
  have x3 := hA1.cell 3 _ rfl
  have x4 := hA1.cell 4 _ rfl
  have x5 := hA1.cell 5 _ rfl
  have x6 := hA1.cell 6 _ rfl
  have x7 := hA1.cell 7 _ rfl
  have x8 := hA1.cell 8 _ rfl
  go_wp2_with fail
  refine (hAt W1 hb1).mono ?_
  rintro r w2 ⟨B, q, rfl, hb2, hcs⟩
  clear hAt x0 x1 x2 x3 x4 x5 x6 x7 x8
  have hA2 := hA1.later hb2
  have hF2 := hF1.later hb2
  have hB2 := bstep hb1 hb2
  have y0 := hA2.cell 0 _ rfl
  have z0 := hA2.fr 0 _ rfl
  have y1 := hA2.cell 1 _ rfl
  have z1 := hA2.fr 1 _ rfl
  have y2 := hA2.cell 2 _ rfl
  have z2 := hA2.fr 2 _ rfl
  have y3 := hA2.cell 3 _ rfl
  have z3 := hA2.fr 3 _ rfl
  have y4 := hA2.cell 4 _ rfl
  have z4 := hA2.fr 4 _ rfl
  have y5 := hA2.cell 5 _ rfl
  have z5 := hA2.fr 5 _ rfl
  have y6 := hA2.cell 6 _ rfl
  have z6 := hA2.fr 6 _ rfl
  have y7 := hA2.cell 7 _ rfl
  have z7 := hA2.fr 7 _ rfl
  have y8 := hA2.cell 8 _ rfl
  have z8 := hA2.fr 8 _ rfl
  have ylt := hA2.lt
  clear hA1 hF1 hb1
  go_upto_region 2 with fail
  refine named_wp ?_
  intro W3 hW3
  clear y0 y1 y2 y3 y4 y5 y6 y7 y8 z0 z1 z2 z3 z4 z5 z6 z7 z8 ylt
  have hA3 : Blk W3 w.heap.size [.int .i64 k, .int .i64 mn, .int .i64 mx, .int .i64 kd, .bool bd, .int .u64 bn, .slice B cs.length q, .string (strOf nm), .slice A ks.length cap] := by rw [hW3]; exact (((((hA2.set 3 _).set 4 _).set 5 _).set 6 _).set 7 _)
  have hF3 : Blk W3 (w.heap.size + 1) [.int .i64 0, .int .i64 0, .int .i64 0, .int .i64 0, .bool false, .int .u64 0, .slice none 0 0, .string ⟨#[]⟩, .slice none 0 0] := by rw [hW3]; exact ((((hF2.other (p := ⟨w.heap.size, 3, none⟩) (by simp) _).other (p := ⟨w.heap.size, 4, none⟩) (by simp) _).other (p := ⟨w.heap.size, 5, none⟩) (by simp) _).other (p := ⟨w.heap.size, 6, none⟩) (by simp) _).other (p := ⟨w.heap.size, 7, none⟩) (by simp) _
  have hb3 : Below w.heap.size w W3 := by rw [hW3]; exact ((((hB2.setCell (p := ⟨w.heap.size, 3, none⟩) (Nat.le_refl _) _).setCell (p := ⟨w.heap.size, 4, none⟩) (Nat.le_refl _) _).setCell (p := ⟨w.heap.size, 5, none⟩) (Nat.le_refl _) _).setCell (p := ⟨w.heap.size, 6, none⟩) (Nat.le_refl _) _).setCell (p := ⟨w.heap.size, 7, none⟩) (Nat.le_refl _) _
  have hcs3 : W3.ownsRow (w.heap.size + 2) 94 2 (.slice B cs.length q) cs.length (cs.flatMap cnC) := by
    rw [hs1] at hcs
    rw [hW3]
    exact own_set (own_set (own_set (own_set (own_set hcs (b := w.heap.size) (by omega) 3 _) (b := w.heap.size) (by omega) 4 _) (b := w.heap.size) (by omega) 5 _) (b := w.heap.size) (by omega) 6 _) (b := w.heap.size) (by omega) 7 _
  have HS3 : Hid (w.heap.size + 2 ≤ W3.heap.size) := Lib.hid (by have := hF3.lt; omega)
  clear hW3 hA2 hF2 hB2 hb2 hcs hs1
  have HA := Lib.hid hA3
  have HF := Lib.hid hF3
  have HB := Lib.hid hb3
  have HC := Lib.hid hcs3
  clear hA3 hF3 hb3 hcs3
  go_wp2
  go_loopg [3, 4] ks.length (fun g kv iv wr => ∃ (j : Nat) (A3 : Option Addr) (c3 : Nat) (ts : List Tr), j ≤ ks.length ∧ g = ks.length - j ∧ kv = .slice A3 j c3 ∧ iv = .int .i64 (j : Int) ∧ Hid (QI W3 wr (.slice A3 j c3) nil3 ts [] ∧ ts.length = j ∧ ts.map Tr.nd = (ks.take j).map Tr.nd))
  case atStart => exact ⟨0, none, 0, [], by omega, rfl, rfl, rfl, Lib.hid ⟨QI.nil W3, rfl, rfl⟩⟩
  case round =>
    obtain ⟨j, A3, c3, ts, hj, hg, rfl, rfl, HQ⟩ := hrel
    have hj0 : (0 : Int) ≤ (j : Int) := by omega
    rename World => wr
    have hAr := HA.out.later HQ.out.1.bel
    have hFr := HF.out.later HQ.out.1.bel
    have hBr := bstep HB.out HQ.out.1.bel
    by_cases hlt : j < ks.length
    · have hjlt : (j : Int) < (ks.length : Int) := by omega
      have hwj : IntKind.i64.wrap ((j : Int) + 1) = (j : Int) + 1 := IntWalk.i64_in _ ⟨by omega, by omega⟩
      have y8 := hAr.cell 8 _ rfl
      obtain ⟨a, rfl, hablk, hel⟩ := HEL.out j hlt
      have hel2 := hel.later hBr
      have hih2 := HIH.out ks[j] (List.getElem_mem hlt) wr hBr
      obtain ⟨T2, hT2⟩ : ∃ T2, T2 = ks[j] := ⟨_, rfl⟩
      rw [← hT2] at hel2 hih2
      have HT2 := Lib.hid hT2
      clear hT2 hel
      obtain ⟨k2, mn2, mx2, ⟨⟨kd2, bd2, bn2, cs2, nm2⟩, sc2⟩, sk2, ks2⟩ := T2
      simp only [Tr.row] at hel2 hih2
      have x0 := hel2.at0 _ rfl
      have x1 := hel2.at1 1 _ (by omega) rfl
      have x2 := hel2.at1 2 _ (by omega) rfl
      have x3 := hel2.at1 3 _ (by omega) rfl
      have x4 := hel2.at1 4 _ (by omega) rfl
      have x5 := hel2.at1 5 _ (by omega) rfl
      have x6 := hel2.at1 6 _ (by omega) rfl
      have x7 := hel2.at1 7 _ (by omega) rfl
      have x8 := hel2.at1 8 _ (by omega) rfl
      have xlt := hel2.lt
      have HA2 := Lib.hid hAr
      have HB2 := Lib.hid hBr
      clear hAr hFr hBr hel2
      go_wp2_with fail
      refine hih2.mono ?_
      rintro r w4 ⟨k3, mn3, mx3, kd3, bd3, bn3, cs3, nm3, B3, p3, q3, D3, m3, e3, ks3, rfl, hn3, hb4, hO4⟩
      clear hih2 y8 xlt x0 x1 x2 x3 x4 x5 x6 x7 x8
      have htr := hO4.tr
      have hone2 := ndK.one (W := hide (fun k => decide (k < wr.heap.size)) w4) htr
      have hq4 := HQ.out.1.later hb4
      have hfr := fr_new (n := W3.heap.size) (x := .slice A3 j c3) (y := nil3) htr HQ.out.1.bel.size HQ.out.1.vlt (fun k e => by cases e)
      have hlj := HQ.out.2.1
      have hown := hq4.own
      rw [hlj] at hown
      have hsz5 := hq4.bel.size
      have HN3 := Lib.hid hn3
      have HK := Lib.hid (fun (v' : Value) (w9 : World) (h1 : w9.ownsRow W3.heap.size 31 9 v' (j + 1) (ts.flatMap Tr.row ++ (Tr.mk k3 mn3 mx3 ⟨⟨kd3, bd3, bn3, cs3, nm3⟩, .slice B3 p3 q3⟩ (.slice D3 m3 e3) ks3).row)) h2 h3 => hq4.kid hfr (v' := v') (w3 := w9) (o := .cells #[.int .i64 k3, .int .i64 mn3, .int .i64 mx3, .int .i64 kd3, .bool bd3, .int .u64 bn3, .slice B3 p3 q3, .string (strOf nm3), .slice D3 m3 e3] 31) (by rw [hlj]; exact h1) h2 h3)
      simp only [Tr.row] at HK hone2
      clear hb4 hO4 htr hq4 hfr HA2 HB2
      clear hn3
      go_wp2_with (at_builtin; refine wpList_append_own_at _ rfl _ _ 29 rfl W3.heap.size 31 iN (.agg #[.int .i64 0, .int .i64 0, .int .i64 0, .int .i64 0, .bool false, .int .u64 0, .slice none 0 0, .string ⟨#[]⟩, .slice none 0 0]) 9 112 Tryz.underlying29 hiN hzN0 hzN1 hzN2 rfl (by decide) _ _ _ rfl (hown.alloc _) ⟨w4.heap.size, 0, none⟩ 1 1 ([.int .i64 k3, .int .i64 mn3, .int .i64 mx3, .int .i64 kd3, .bool bd3, .int .u64 bn3, .slice B3 p3 q3, .string (strOf nm3), .slice D3 m3 e3]) rfl rfl (new_cells _) hone2 (by unfold maxLen; omega) (by omega) (by rw [World.size_alloc]; omega) ?_; intro v' w9 hown' hgrow hnil hloc)
      have hq9 := HK.out v' w9 hown' hgrow hloc
      obtain ⟨vA, vc, hvv⟩ := own_form hown'
      subst hvv
      go_roundg (ks.length - (j + 1))
      case rel => exact ⟨j + 1, vA, vc, _, by omega, rfl, rfl, by go_num, Lib.hid ⟨hq9, by rw [List.length_append, hlj]; rfl, by rw [List.map_append, HQ.out.2.2, List.take_succ_eq_append_getElem hlt, List.map_append, List.map_cons, List.map_nil, List.map_cons, List.map_nil, HN3.out, HT2.out]⟩⟩
      case measure => omega
    · have hjlt : ¬ (j : Int) < (ks.length : Int) := by omega
      obtain rfl : ks.length = j := by omega
      have HA2 := Lib.hid hAr
      have HF2 := Lib.hid hFr
      have HB2 := Lib.hid hBr
      have y0 := hAr.cell 0 _ rfl
      have z0 := hAr.fr 0 _ rfl
      have y1 := hAr.cell 1 _ rfl
      have z1 := hAr.fr 1 _ rfl
      have y2 := hAr.cell 2 _ rfl
      have z2 := hAr.fr 2 _ rfl
      have y3 := hAr.cell 3 _ rfl
      have z3 := hAr.fr 3 _ rfl
      have y4 := hAr.cell 4 _ rfl
      have z4 := hAr.fr 4 _ rfl
      have y5 := hAr.cell 5 _ rfl
      have z5 := hAr.fr 5 _ rfl
      have y6 := hAr.cell 6 _ rfl
      have z6 := hAr.fr 6 _ rfl
      have y7 := hAr.cell 7 _ rfl
      have z7 := hAr.fr 7 _ rfl
      have y8 := hAr.cell 8 _ rfl
      have z8 := hAr.fr 8 _ rfl
      have d0 := hFr.cell 0 _ rfl
      have e0 := hFr.fr 0 _ rfl
      have d1 := hFr.cell 1 _ rfl
      have e1 := hFr.fr 1 _ rfl
      have d2 := hFr.cell 2 _ rfl
      have e2 := hFr.fr 2 _ rfl
      have d3 := hFr.cell 3 _ rfl
      have e3 := hFr.fr 3 _ rfl
      have d4 := hFr.cell 4 _ rfl
      have e4 := hFr.fr 4 _ rfl
      have d5 := hFr.cell 5 _ rfl
      have e5 := hFr.fr 5 _ rfl
      have d6 := hFr.cell 6 _ rfl
      have e6 := hFr.fr 6 _ rfl
      have d7 := hFr.cell 7 _ rfl
      have e7 := hFr.fr 7 _ rfl
      have d8 := hFr.cell 8 _ rfl
      have e8 := hFr.fr 8 _ rfl
      have ylt := hAr.lt
      have dlt := hFr.lt
      clear hAr hFr hBr HA HF hj hg hlt
      go_wp2
      refine named_post ?_
      intro W5 hW5
      clear y0 y1 y2 y3 y4 y5 y6 y7 y8 z0 z1 z2 z3 z4 z5 z6 z7 z8 d0 d1 d2 d3 d4 d5 d6 d7 d8 e0 e1 e2 e3 e4 e5 e6 e7 e8 ylt dlt
      have hlj := HQ.out.2.1
      have hZ : Blk W5 (w.heap.size + 1) [.int .i64 k, .int .i64 mn, .int .i64 mx, .int .i64 kd, .bool bd, .int .u64 bn, .slice B cs.length q, .string (strOf nm), .slice A3 ks.length c3] := by rw [hW5]; exact ((((((((((HF2.out.other (p := ⟨w.heap.size, 8, none⟩) (by simp) _).set 0 _).set 1 _).set 2 _).set 3 _).set 4 _).set 5 _).set 6 _).set 7 _).set 8 _)
      have hB5 : Below w.heap.size w W5 := by rw [hW5]; exact ((((((((((HB2.out.setCell (p := ⟨w.heap.size, 8, none⟩) (Nat.le_refl _) _).setCell (p := ⟨w.heap.size + 1, 0, none⟩) (Nat.le_succ _) _).setCell (p := ⟨w.heap.size + 1, 1, none⟩) (Nat.le_succ _) _).setCell (p := ⟨w.heap.size + 1, 2, none⟩) (Nat.le_succ _) _).setCell (p := ⟨w.heap.size + 1, 3, none⟩) (Nat.le_succ _) _).setCell (p := ⟨w.heap.size + 1, 4, none⟩) (Nat.le_succ _) _).setCell (p := ⟨w.heap.size + 1, 5, none⟩) (Nat.le_succ _) _).setCell (p := ⟨w.heap.size + 1, 6, none⟩) (Nat.le_succ _) _).setCell (p := ⟨w.heap.size + 1, 7, none⟩) (Nat.le_succ _) _).setCell (p := ⟨w.heap.size + 1, 8, none⟩) (Nat.le_succ _) _)
      have hO5 : OwnT w.heap.size W5 k mn mx ⟨⟨kd, bd, bn, cs, nm⟩, .slice B cs.length q⟩ (.slice A3 ks.length c3) ts := by
        have h3 := own_node HOK.out HOA.out HC.out HS3.out HQ.out.1
        rw [hW5]
        exact ((((((((((h3.low (grown_setb _ w.heap.size 8 _) (by omega)).low (grown_setb _ (w.heap.size + 1) 0 _) (by omega)).low (grown_setb _ (w.heap.size + 1) 1 _) (by omega)).low (grown_setb _ (w.heap.size + 1) 2 _) (by omega)).low (grown_setb _ (w.heap.size + 1) 3 _) (by omega)).low (grown_setb _ (w.heap.size + 1) 4 _) (by omega)).low (grown_setb _ (w.heap.size + 1) 5 _) (by omega)).low (grown_setb _ (w.heap.size + 1) 6 _) (by omega)).low (grown_setb _ (w.heap.size + 1) 7 _) (by omega)).low (grown_setb _ (w.heap.size + 1) 8 _) (by omega)).mono (by omega)
      clear hW5
      have z0 := hZ.cell 0 _ rfl
      have z1 := hZ.cell 1 _ rfl
      have z2 := hZ.cell 2 _ rfl
      have z3 := hZ.cell 3 _ rfl
      have z4 := hZ.cell 4 _ rfl
      have z5 := hZ.cell 5 _ rfl
      have z6 := hZ.cell 6 _ rfl
      have z7 := hZ.cell 7 _ rfl
      have z8 := hZ.cell 8 _ rfl
      refine bodyPost_ret (by simp [results, Tryz.results62, go_sem, z0, z1, z2, z3, z4, z5, z6, z7, z8]; try rfl) rfl ?_
      exact ⟨k, mn, mx, kd, bd, bn, cs, nm, B, cs.length, q, A3, ks.length, c3, ts, rfl, by rw [nd_mk, HQ.out.2.2, List.take_length], hB5, hO5⟩
end Go.Proofs.YtdoioaeppepndaaGreatDoor
