/- Walk: the kit's query. Made by program (wip/tools/gen_kitQw.py). -/
import Derived.Test.YtdoioaeppepndaaGreatDoorKitLf
import Derived.Test.YtdoioaeppepndaaGreatDoorKitQm
import Derived.Test.YtdoioaeppepndaaGreatDoorKMa
import Derived.Test.YtdoioaeppepndaaGreatDoorAstThr
import Derived.Deep.LoopGhost
import Derived.Deep.CutBlock
import Derived.Deep.DeepCutAuto
namespace Go.Proofs.YtdoioaeppepndaaGreatDoor
open Go.RowKit
open A8 Tk7 P9 Kq

/-- A guard in memory. -/
def gdT (k : Nat) (sc : Value) : Tr := .mk 2 0 0 ⟨bareA (kA k 0), sc⟩ (.slice none 0 0) []
theorem gd_tr {W : World} {k : Nat} {sc : Value} (h : TrW W (klfT k 0 sc)) : TrW W (gdT k sc) := fun u hu => by
  have h1 : u ∈ [gdT k sc] := hu
  rw [List.mem_singleton] at h1
  subst h1
  obtain ⟨-, ⟨h2, h3⟩, h4⟩ := h.one
  exact ⟨⟨by unfold okV; omega, small_okV (by omega), small_okV (by omega)⟩, ⟨⟨h2.kd, h2.bn, h2.cs, Nat.zero_le _⟩, h3⟩, Sl.nil _ 9⟩
/-- Two leaves to choose from. -/
def alT (b : Nat) (x y : Tr) : Tr := .mk 4 0 0 ga0 (.slice (some ⟨b, 0, none⟩) 2 2) [x, y]
/-- The blocks below m, those of two slices, and one more. -/
def three (m : Nat) (x y : Value) (b : Nat) : Nat → Bool := fun k => two m x y k || k == b
theorem three_no {m : Nat} {x y : Value} {b k : Nat} (h : three m x y b k = false) : x.ownBlock ≠ some k ∧ y.ownBlock ≠ some k ∧ k ≠ b ∧ m ≤ k := by
  unfold three at h
  simp only [Bool.or_eq_false_iff] at h
  exact ⟨(two_no h.1).1, (two_no h.1).2.1, by simpa using h.2, (two_no h.1).2.2⟩
theorem three_is {m : Nat} {x y : Value} {b k : Nat} (h1 : x.ownBlock ≠ some k) (h2 : y.ownBlock ≠ some k) (h3 : k ≠ b) (h4 : m ≤ k) : three m x y b k = false := by
  unfold three
  simp only [Bool.or_eq_false_iff]
  exact ⟨two_is h1 h2 h4, by simpa using h3⟩
/-- What stands behind a piece: it lies in the block b. -/
structure QO (w wx : World) (v vn : Value) (cs : List Tr) (ns : List (List UInt8)) (b : Nat) (T : Tr) : Prop where
  qi : QI w wx v vn cs ns
  el : ∀ c ∈ cs, TrW (hide (three w.heap.size v vn b) wx) c
  tr : TrW (hide (three w.heap.size v vn b) wx) T
  blk : Blk wx b T.row
  lv : ∀ k, v.ownBlock = some k → k ≠ b
  ln : ∀ k, vn.ownBlock = some k → k ≠ b
theorem QO.fr {w wx : World} {v vn : Value} {cs : List Tr} {ns : List (List UInt8)} {b : Nat} {T : Tr} (h : QO w wx v vn cs ns b T) : Fr w.heap.size v vn wx T :=
  trW_le h.tr (hide_le (Nat.le_refl _) fun _ _ hp => ⟨two_is (three_no hp).1 (three_no hp).2.1 (three_no hp).2.2.2, rfl⟩)
theorem QO.later {w wx W : World} {v vn : Value} {cs : List Tr} {ns : List (List UInt8)} {b : Nat} {T : Tr} (h : QO w wx v vn cs ns b T) (hb : Below wx.heap.size wx W) : QO w W v vn cs ns b T :=
  ⟨h.qi.later hb, fun c hc => trW_le (h.el c hc) (hide_le hb.size fun k hk hp => ⟨hp, hb.block k hk⟩), trW_le h.tr (hide_le hb.size fun k hk hp => ⟨hp, hb.block k hk⟩), h.blk.later hb, h.lv, h.ln⟩
/-- A tree of new blocks, with the block behind them. -/
theorem new_three {v vn : Value} {w wr w4 W5 : World} {T : Tr} {b : Nat} (hw : w.heap.size ≤ wr.heap.size) (ht : TrW (hide (fun j => decide (j < wr.heap.size)) w4) T) (hv : ∀ k, v.ownBlock = some k → k < wr.heap.size) (hn : ∀ k, vn.ownBlock = some k → k < wr.heap.size) (hb5 : Below w4.heap.size w4 W5) (hb : w4.heap.size ≤ b ∨ b < wr.heap.size) : TrW (hide (three w.heap.size v vn b) W5) T :=
  trW_le ht (hide_le hb5.size fun k hk hp => by
    simp only [decide_eq_false_iff_not] at hp
    exact ⟨three_is (fun e => by have := hv k e; omega) (fun e => by have := hn k e; omega) (by omega) (by omega), hb5.block k hk⟩)
theorem qo_new {w wr w4 W5 : World} {v vn : Value} {cs : List Tr} {ns : List (List UInt8)} {T : Tr} (h : QI w wr v vn cs ns) (hb4 : Below wr.heap.size wr w4) (ht : TrW (hide (fun j => decide (j < wr.heap.size)) w4) T) (hb5 : Below w4.heap.size w4 W5) (hG : Blk W5 w4.heap.size T.row) : QO w W5 v vn cs ns w4.heap.size T := by
  have hs := hb4.size
  refine ⟨(h.later hb4).later hb5, fun c hc => ?_, new_three h.bel.size ht h.vlt h.nlt hb5 (.inl (Nat.le_refl _)), hG, fun k e => by have := h.vlt k e; omega, fun k e => by have := h.nlt k e; omega⟩
  refine trW_le (h.el c hc) (hide_le (Nat.le_trans hs hb5.size) fun k hk hp => ⟨three_is (two_no hp).1 (two_no hp).2.1 (by omega) (two_no hp).2.2, (hb5.block k (by omega)).trans (hb4.block k hk)⟩)
theorem QO.name {w wr w3 : World} {v vn vn' : Value} {cs : List Tr} {ns : List (List UInt8)} {b : Nat} {T : Tr} (h : QO w wr v vn cs ns b T) {s : List UInt8} {o : Obj} (hown : w3.ownsRow w.heap.size 9 1 vn' (ns.length + 1) (ns.flatMap nmC ++ nmC s)) (hg : (wr.alloc o).grownBy w3 vn.ownBlock) (hloc : vn'.ownBlock = vn.ownBlock ∨ vn'.ownBlock = some (wr.alloc o).heap.size) :
    QO w w3 v vn' cs (ns ++ [s]) b T ∧ (∀ D, TrW (hide (three w.heap.size v vn b) wr) D → TrW (hide (three w.heap.size v vn' b) w3) D) ∧ ∀ b2 us, Blk wr b2 us → (∀ k, vn.ownBlock = some k → k ≠ b2) → Blk w3 b2 us := by
  have hlt := h.blk.lt
  have hs : wr.heap.size + 1 ≤ w3.heap.size := by have := hg.size; rw [World.size_alloc] at this; exact this
  have hf : ∀ D, TrW (hide (three w.heap.size v vn b) wr) D → TrW (hide (three w.heap.size v vn' b) w3) D := fun D hD => trW_le hD (hide_le (by omega) fun k hk hp => by
    obtain ⟨p1, p2, p3, p4⟩ := three_no hp
    refine ⟨three_is p1 (fun e => ?_) p3 p4, (hg.block k (by rw [World.size_alloc]; omega) (fun e => p2 e.symm)).trans ((b1 wr o).block k hk)⟩
    rcases hloc with h1 | h1
    · rw [h1] at e
      exact p2 e
    · rw [h1, World.size_alloc] at e
      injection e with e
      omega)
  refine ⟨⟨(h.qi.name hown hg hloc).1, fun c hc => hf c (h.el c hc), hf T h.tr, blk_app h.blk hg h.ln, h.lv, fun k e => ?_⟩, hf, fun b2 us hb2 hn2 => blk_app hb2 hg hn2⟩
  rcases hloc with h1 | h1
  · exact h.ln k (h1 ▸ e)
  · rw [h1, World.size_alloc] at e
    injection e with e
    omega
/-- What stands ahead of a piece's append. -/
structure QE (w wx : World) (v vn : Value) (cs : List Tr) (ns : List (List UInt8)) (b : Nat) (T : Tr) : Prop where
  qi : QI w wx v vn cs ns
  fr : Fr w.heap.size v vn wx T
  blk : Blk wx b T.row
theorem QO.end_ {w wx : World} {v vn : Value} {cs : List Tr} {ns : List (List UInt8)} {b : Nat} {T : Tr} (h : QO w wx v vn cs ns b T) : QE w wx v vn cs ns b T := ⟨h.qi, h.fr, h.blk⟩
theorem ownsRow_only {W V : World} {base sz n b : Nat} {e : TypeId} {x : Value} {us : List Value} (h : W.ownsRow base e sz x n us) (ho : Only b W V) (hx : ∀ k, x.ownBlock = some k → k ≠ b) : V.ownsRow base e sz x n us :=
  h.kept (only_grown ho) (.inr fun e => hx b e rfl)
theorem QO.alt {w wx Wa V : World} {v vn : Value} {cs : List Tr} {ns : List (List UInt8)} {b : Nat} {T T2 : Tr} (h : QO w wx v vn cs ns b T) (hw : w.heap.size ≤ b) (h2 : TrW (hide (three w.heap.size v vn b) wx) T2) (hWa : Wa = wx.alloc (.cells (T.row ++ T2.row).toArray 31)) (ho : Only b Wa V) (hV : Blk V b (alT wx.heap.size T T2).row) : QE w V v vn cs ns b (alT wx.heap.size T T2) := by
  have hlt := h.blk.lt
  have hba : Below wx.heap.size wx Wa := by rw [hWa]; exact b1 _ _
  have hN : Blk Wa wx.heap.size (T.row ++ T2.row) := by rw [hWa]; exact Blk.is _ rfl
  have hNV : Blk V wx.heap.size (T.row ++ T2.row) := hN.grown (only_grown ho) (fun e => by injection e with e; omega)
  have hle : Le (hide (three w.heap.size v vn b) wx) (hide (two w.heap.size v vn) V) := hide_le (by rw [ho.size]; exact hba.size) fun k hk hp => by
    obtain ⟨p1, p2, p3, p4⟩ := three_no hp
    exact ⟨two_is p1 p2 p4, (ho.block k p3).trans (hba.block k hk)⟩
  refine ⟨⟨(bstep h.qi.bel hba).trans (ho.below.mono hw), ownsRow_only (own_later h.qi.own hba) ho h.lv, ownsRow_only (own_later h.qi.nms hba) ho h.ln, fun c hc => trW_le (h.el c hc) hle⟩, fun u hu => ?_, hV⟩
  have hu2 : u = alT wx.heap.size T T2 ∨ u ∈ subsT T ∨ u ∈ subsT T2 := by
    unfold alT at hu ⊢
    simp only [subsT, subsTL_flat, List.flatMap_cons, List.flatMap_nil, List.append_nil, List.mem_cons, List.mem_append] at hu
    exact hu
  rcases hu2 with rfl | hu2 | hu2
  · refine ⟨⟨by unfold okV; omega, small_okV (by omega), small_okV (by omega)⟩, one0 _, ?_⟩
    have hl2 : two w.heap.size v vn wx.heap.size = false := two_is (fun e => by have := h.qi.vlt _ e; omega) (fun e => by have := h.qi.nlt _ e; omega) h.qi.bel.size
    have := sl_lit hNV 9 2 (by rw [List.length_append, row_len, row_len]) (by omega) hl2
    simpa using this
  · exact trW_le h.tr hle u hu2
  · exact trW_le h2 hle u hu2
theorem own_n {w : World} {base sz n n' c : Nat} {e : TypeId} {A : Option Addr} {us : List Value} (h : w.ownsRow base e sz (.slice A n' c) n us) : n' = n := by
  rcases h.2 with ⟨h1, h2⟩ | ⟨g, cap, cur, h1, _⟩
  · cases h1
    exact h2.symm
  · cases h1
    rfl
theorem own_at {w : World} {base sz n n' c : Nat} {e : TypeId} {A : Option Addr} {us : List Value} (h : w.ownsRow base e sz (.slice A n' c) n us) (h0 : 0 < n) : ∃ g, A = some ⟨g, 0, none⟩ ∧ ∀ (j : Nat) (u : Value), us[j]? = some u → w.cell? ((⟨g, 0, none⟩ : Addr).add j) = some u := by
  have hcell := fun g => h.cells (g := g)
  rcases h.2 with ⟨h1, h2⟩ | ⟨g, cap, cur, h1, _⟩
  · omega
  · cases h1
    exact ⟨g, rfl, hcell g rfl⟩
theorem part_out {W : World} {R : Nat} {xs us : List Value} (h : Blk W R xs) (hl : us.length ≤ xs.length) : Blk (fillW W R 0 us) R (us ++ xs.drop us.length) ∧ Only R W (fillW W R 0 us) := by
  have h1 := fill_blk R us 0 W xs h (by omega)
  rw [List.take_zero, List.nil_append, Nat.zero_add] at h1
  exact ⟨h1, fill_only R us 0 W⟩
theorem add0 (g j : Nat) : (⟨g, 0, none⟩ : Addr).add j = ⟨g, j, none⟩ := by unfold Addr.add; split <;> simp_all
theorem leaf0_tr {W W' : World} {sc : Value} (h : TrW W (klfT 0 0 sc)) : TrW W' (klfT 0 0 sc) := fun u hu => by
  have h1 : u ∈ [klfT 0 0 sc] := hu
  rw [List.mem_singleton] at h1
  subst h1
  obtain ⟨h2, ⟨h3, h4⟩, -⟩ := h.one
  obtain ⟨a1, a2, A, cap, a3, a4, a5, -⟩ := h4
  exact ⟨h2, ⟨h3, a1, a2, A, cap, a3, a4, a5, fun i u hu => by cases hu⟩, Sl.nil _ 9⟩
theorem infoQs : (Tryz.prog.info? 9).map (fun i => (i.zero, i.size, i.bytes)) = some (some (.string ⟨#[]⟩), 1, 16) := by kernel_rfl
theorem nmL_is (k p : Nat) (nm : List UInt8) (h : (kA k p).nm = nm) : nmL (kA k p) = if nm.isEmpty = true then [] else [nm] := by unfold nmL; rw [h]
theorem strOf_mt (nm : List UInt8) : (strOf nm).toList.isEmpty = nm.isEmpty := by rw [ByteArray.toList_eq]; rfl
theorem atI_get (l : List Int) (i : Nat) : atI l i = l.getD i 0 := by
  unfold atI
  split
  · rename_i h
    rw [List.getD_eq_getElem?_getD, List.getElem?_eq_getElem h]
    rfl
  · rename_i h
    rw [List.getD_eq_getElem?_getD, List.getElem?_eq_none (by omega)]
    rfl
theorem kNum_is (l : List Int) (i : Nat) : (kNum l i : Int) = l.getD i 0 % 1073741824 ∧ kNum l i < 1073741824 := by
  unfold kNum
  omega
/-- What stands between the first loop's rounds. -/
def QR (w : World) (l : List Int) (i : Nat) (v vn : Value) (p : Nat) (wr : World) : Prop := ∃ cs, QI w wr v vn cs (kLoop l i).names ∧ cs.map Tr.nd = (kLoop l i).kids ∧ p = (kLoop l i).place
/-- A leaf, its parts under names. -/
structure LfH (w : World) (k p : Nat) (mn mx kd : Int) (bd : Bool) (bn : Int) (nm : List UInt8) (sc : Value) (w' : World) : Prop where
  tr : TrW (hide (fun j => decide (j < w.heap.size)) w') (klfT k p sc)
  row : (klfT k p sc).row = [.int .i64 1, .int .i64 mn, .int .i64 mx, .int .i64 kd, .bool bd, .int .u64 bn, sc, .string (strOf nm), (.slice none 0 0)]
  gow : (gdT k sc).row = [.int .i64 2, .int .i64 0, .int .i64 0, .int .i64 (kA k 0).kd, .bool (kA k 0).bd, .int .u64 (kA k 0).bn, sc, .string ⟨#[]⟩, (.slice none 0 0)]
  at_ : (kA k p).kd = kd ∧ (kA k p).bd = bd ∧ (kA k p).bn = bn ∧ (kA k p).nm = nm
def LfL (w : World) (k p : Nat) (e : Ending) (w' : World) : Prop :=
  ∃ (mn mx kd bn : Int) (bd : Bool) (nm : List UInt8) (A : Option Addr) (n c : Nat), Below w.heap.size w w' ∧ e = .returned (.agg #[.int .i64 1, .int .i64 mn, .int .i64 mx, .int .i64 kd, .bool bd, .int .u64 bn, (.slice A n c), .string (strOf nm), (.slice none 0 0)]) ∧ Hid (LfH w k p mn mx kd bd bn nm (.slice A n c) w')
theorem leaf_let (k p : Nat) (hk : k < 1073741824) (hp : p ≤ 10) (x y : Int) (hx : x = (k : Int)) (hy : y = (p : Int)) (w : World) : Calls Tryz.prog 67 #[.int .i64 x, .int .i64 y] w (LfL w k p) := by
  subst hx
  subst hy
  refine (leaf_any k p hk hp w).mono ?_
  rintro e w' ⟨A, n, c, h1, h2, rfl⟩
  exact ⟨kMn k, kMx k, (kA k p).kd, (kA k p).bn, (kA k p).bd, (kA k p).nm, A, n, c, h1, rfl, Lib.hid ⟨h2, rfl, rfl, rfl, rfl, rfl, rfl⟩⟩
theorem kTail_end (l : List Int) (ns : List (List UInt8)) : ∀ j, j ≤ 3 → l.length ≤ 5 + j → kTail l ns j = kTail l ns 3 := by
  have h : ∀ d j, j + d = 3 → l.length ≤ 5 + j → kTail l ns j = kTail l ns 3 := fun d => by
    induction d with
    | zero => intro j hj _; rw [show j = 3 from hj]
    | succ d ih =>
      intro j hj hl
      rw [← ih (j + 1) (by omega) (by omega), kTail, if_neg (by omega)]
  intro j hj hl
  exact h (3 - j) j (by omega) hl
theorem kLoop_end (l : List Int) : ∀ i, i ≤ 4 → (l.length ≤ i ∨ i = 4) → kLoop l i = kLoop l 4 := by
  have h : ∀ j i, i + j = 4 → l.length ≤ i → kLoop l i = kLoop l 4 := fun j => by
    induction j with
    | zero => intro i hi _; rw [show i = 4 from hi]
    | succ j ih =>
      intro i hi hl
      rw [← ih (i + 1) (by omega) (by omega), kLoop, if_neg (by omega)]
  intro i hi hx
  rcases hx with hx | rfl
  · exact h (4 - i) i (by omega) hx
  · rfl
set_option maxRecDepth 100000 in
set_option maxHeartbeats 4000000 in
theorem query_any (V : Value) (l : List Int) (w : World) (hv : Slc w V (vals .i64 l)) :
    Calls Tryz.prog 28 #[V] w fun e w' => ∃ G : GQ, G.qu = kitQ l ∧ QW w' G ∧ e = .returned (.agg G.row.toArray) ∧ Below w.heap.size w w' := by
  obtain ⟨A, cap, rfl, hm, hcell⟩ := hv.ints
  have hAt := fun w' (hb : Below w.heap.size w w') (i : Nat) => at_any _ l w' (hv.below hb) i
  have hMod := fun (n : Int) w' => mod_any n 1073741824 w' (by omega) (by omega)
  have hMod8 := fun (n : Int) w' => mod_any n 8 w' (by omega) (by omega)
  have hLf := fun (k p : Nat) (hk : k < 1073741824) (hp : p ≤ 10) w' => leaf_any k p hk hp w'
  obtain ⟨iN, hiN, hzN0, hzN1, hzN2⟩ := info_parts infoNd
  obtain ⟨iS, hiS, hzS0, hzS1, hzS2⟩ := info_parts infoQs
  obtain ⟨iH, hiiH, hziH0, hziH1, hziH2⟩ := info_parts infoHv
  obtain ⟨iG, hiiG, hziG0, hziG1, hziG2⟩ := info_parts infoAg
  have hR0 : Blk (w.alloc (.cells #[.int .i64 0, .int .i64 0, .int .i64 0, .int .i64 0, .bool false, .int .u64 0, .slice none 0 0, .string ⟨#[]⟩, .slice none 0 0, .int .u64 0, .slice none 0 0, .slice none 0 0] 35)) w.heap.size [.int .i64 0, .int .i64 0, .int .i64 0, .int .i64 0, .bool false, .int .u64 0, .slice none 0 0, .string ⟨#[]⟩, .slice none 0 0, .int .u64 0, .slice none 0 0, .slice none 0 0] := Blk.is _ rfl
  have hb0 : Below w.heap.size w (w.alloc (.cells #[.int .i64 0, .int .i64 0, .int .i64 0, .int .i64 0, .bool false, .int .u64 0, .slice none 0 0, .string ⟨#[]⟩, .slice none 0 0, .int .u64 0, .slice none 0 0, .slice none 0 0] 35)) := b1 _ _
  go_enter Tryz.func28, Tryz.ntmps28
  go_upto_block 0 with fail
  refine named_wp fun W0 hW0 => ?_
  have hR : Blk W0 w.heap.size [.int .i64 0, .int .i64 0, .int .i64 0, .int .i64 0, .bool false, .int .u64 0, .slice none 0 0, .string ⟨#[]⟩, .slice none 0 0, .int .u64 0, .slice none 0 0, .slice none 0 0] := by rw [hW0]; exact hR0
  have hB : Below w.heap.size w W0 := by rw [hW0]; exact hb0
  clear hW0 hR0 hb0
  have HV := Lib.hid hv
  have HCELL := Lib.hid hcell
  have HR := Lib.hid hR
  have HB := Lib.hid hB
  clear hv hcell hR hB
  go_cut [3, 4] (fun v3 v4 wx => ∃ cs A3 n3 c3 A4 n4 c4, v3 = .slice A3 n3 c3 ∧ v4 = .slice A4 n4 c4 ∧ Hid (QI W0 wx v3 v4 cs (kLoop l 4).names ∧ cs.map Tr.nd = (kLoop l 4).kids))
  case first =>
    go_wp2_with fail
    go_loopg [3, 4, 5, 6] 5 (fun gm v3 v4 v5 v6 wr => ∃ (m i p : Nat) (A3 : Option Addr) (n3 c3 : Nat) (A4 : Option Addr) (n4 c4 : Nat), gm = m + 1 ∧ m + i = 4 ∧ i ≤ l.length ∧ v3 = .slice A3 n3 c3 ∧ v4 = .slice A4 n4 c4 ∧ v5 = .int .i64 (p : Int) ∧ v6 = .int .i64 (i : Int) ∧ Hid (QR W0 l i v3 v4 p wr))
    case atStart => exact ⟨4, 0, 0, none, 0, 0, none, 0, 0, rfl, rfl, Nat.zero_le _, rfl, rfl, rfl, rfl, Lib.hid ⟨[], QI.nil _, rfl, rfl⟩⟩
    case round =>
      obtain ⟨m, i, p, A3, n3, c3, A4, n4, c4, rfl, hgi, hil, rfl, rfl, rfl, rfl, hR⟩ := hrel
      by_cases hlt : i < l.length
      · have hi : (i : Int) < (l.length : Int) := by omega
        by_cases h4 : i < 4
        · have hi4 : (i : Int) < 4 := by omega
          obtain ⟨cs, hq, hc, hpl⟩ := hR.out
          have hok := kLoop_ok l i (by omega)
          have hp10 : p ≤ 8 := by rw [hpl]; have := hok.pl; omega
          have hfew : cs.length ≤ 100 := by have h1 := hok.len; rw [← hc, List.length_map] at h1; omega
          have hnfew : (kLoop l i).names.length ≤ 100 := by have h1 := hok.nms; omega
          obtain ⟨k, hk⟩ : ∃ k, k = kNum l i := ⟨_, rfl⟩
          have hk30 : k < 1073741824 := by rw [hk]; exact (kNum_is l i).2
          obtain ⟨a, hA, hab, hcl⟩ := HCELL.out i hlt
          subst hA
          have hcw : wr.cell? (a.add i) = some (.int .i64 l[i]) := (hq.bel.cell (p := a.add i) (by rw [add_block]; exact Nat.lt_of_lt_of_le hab HB.out.size)).trans ((HB.out.cell (p := a.add i) (by rw [add_block]; exact hab)).trans hcl)
          have hxk : l[i] % 1073741824 = (k : Int) := by rw [hk, (kNum_is l i).1, List.getD_eq_getElem?_getD, List.getElem?_eq_getElem hlt]; rfl
          obtain ⟨x, hx⟩ : ∃ x, x = l[i] := ⟨_, rfl⟩
          rw [← hx] at hcw hxk
          have hM := fun w' => hMod x w'
          rw [hxk] at hM
          have hstep : Hid (kLoop l (i + 1) = kStep i k (kLoop l i)) := Lib.hid (by rw [kLoop, if_pos hlt, hk])
          obtain ⟨ns, hns⟩ : ∃ ns, ns = (kLoop l i).names := ⟨_, rfl⟩
          obtain ⟨ks, hks⟩ : ∃ ks, ks = (kLoop l i).kids := ⟨_, rfl⟩
          have HST : Hid (kLoop l i = ⟨ks, ns, p⟩) := Lib.hid (by rw [hns, hks, hpl])
          rw [← hns] at hq hnfew
          rw [← hks] at hc
          have HC := Lib.hid hc
          have HQ := Lib.hid hq
          clear hx hxk hcl hk hns hks hpl hc hok hR hq
          go_upto_region 8 with (go_at_call 66; refine (hM _).mono ?_; rintro e w3 ⟨rfl, rfl⟩)
          clear hcw
          obtain ⟨g, hg⟩ : ∃ g, g = decide (0 < i ∧ k / 7 % 4 = 1) := ⟨_, rfl⟩
          have HG := Lib.hid hg
          clear hg
          go_cut [37] (fun v37 wx => v37 = .bool g ∧ wx = wr)
          case first =>
            by_cases hpos : 0 < i
            · have hpi : 0 < (i : Int) := by omega
              obtain ⟨z7, e_z7, r_z7⟩ : ∃ x : Int, (k : Int) / 7 = x ∧ x = ((k / 7 : Nat) : Int) := ⟨_, rfl, by omega⟩
              have lo_z7 : 0 ≤ z7 := by omega
              have hi_z7 : z7 < 1073741824 := by rw [r_z7]; omega
              replace r_z7 := Lib.hid r_z7
              obtain ⟨z74, e_z74, r_z74⟩ : ∃ x : Int, z7 % 4 = x ∧ x = ((k / 7 % 4 : Nat) : Int) := ⟨_, rfl, by rw [r_z7.out]; omega⟩
              have lo_z74 : 0 ≤ z74 := by omega
              have hi_z74 : z74 < 4 := by rw [r_z74]; omega
              replace r_z74 := Lib.hid r_z74
              by_cases hg : k / 7 % 4 = 1
              · have hz : z74 = 1 := by rw [r_z74.out, hg]; rfl
                subst hz
                have hgt : g = true := by rw [HG.out]; exact decide_eq_true ⟨hpos, hg⟩
                subst hgt
                go_wp2_with fail
                go_meet
                case rel => exact ⟨rfl, rfl⟩
              · have hz : (z74 == 1) = false := by rw [beq_eq_false_iff_ne, r_z74.out]; omega
                have hgt : g = false := by rw [HG.out]; exact decide_eq_false (fun h => hg h.2)
                subst hgt
                go_wp2_with fail
                go_meet
                case rel => exact ⟨rfl, rfl⟩
            · have hpi : ¬ 0 < (i : Int) := by omega
              have hgt : g = false := by rw [HG.out]; exact decide_eq_false (fun h => hpos h.1)
              subst hgt
              go_wp2_with fail
              go_meet
              case rel => exact ⟨rfl, rfl⟩
          case rest =>
          obtain ⟨rfl, hwc⟩ := hcut
          rw [hwc]
          clear hwc
          go_upto_if 37 with fail
          go_cut [3] (fun v3 wx => ∃ cs' A' n' c', v3 = .slice A' n' c' ∧ cs'.length ≤ 101 ∧ Hid (QI W0 wx v3 (.slice A4 n4 c4) cs' ns ∧ cs'.map Tr.nd = ks ++ kGuard i k))
          case first =>
            have hM3 := HC.out
            cases g with
            | true =>
                have hgd : kGuard i k = [.mk 2 0 0 (bareA (kA (k / 28) 0)) []] := by unfold kGuard; rw [if_pos (of_decide_eq_true HG.out.symm)]
                have HGD := Lib.hid hgd
                clear hgd
                obtain ⟨z28, e_z28, r_z28⟩ : ∃ x : Int, (k : Int) / 28 = x ∧ x = ((k / 28 : Nat) : Int) := ⟨_, rfl, by omega⟩
                have lo_z28 : 0 ≤ z28 := by omega
                have hi_z28 : z28 < 1073741824 := by rw [r_z28]; omega
                replace r_z28 := Lib.hid r_z28
                have hL := fun w' => leaf_let (k / 28) 0 (by omega) (by omega) z28 0 r_z28.out rfl w'
                go_upto_region 10 with (go_at_call 67; refine (hL _).mono ?_; rintro e w4 ⟨mn, mx, kd, bn, bd, nm, sA, sn, sc, hb4, rfl, HL⟩)
                refine named_wp fun W5 hW5 => ?_
                have hb5 : Below w4.heap.size w4 W5 := by rw [hW5]; exact b1 _ _
                have hG : Blk W5 w4.heap.size [.int .i64 1, .int .i64 mn, .int .i64 mx, .int .i64 kd, .bool bd, .int .u64 bn, (.slice sA sn sc), .string (strOf nm), (.slice none 0 0)] := by rw [hW5]; exact Blk.is (us := [.int .i64 1, .int .i64 mn, .int .i64 mx, .int .i64 kd, .bool bd, .int .u64 bn, (.slice sA sn sc), .string (strOf nm), (.slice none 0 0)]) _ rfl
                clear hW5
                have hq5 := (HQ.out.later hb4).later hb5
                have hown := hq5.own
                have hsz5 := hq5.bel.size
                have hH := HL.out
                obtain ⟨j1, j2, j3, j4⟩ := hH.at_
                have hgt := gd_tr hH.tr
                have hgo := hH.gow
                rw [j1, j2, j3] at hgo
                have hone := ndK.one (W := hide (fun j => decide (j < wr.heap.size)) w4) (c := gdT (k / 28) (.slice sA sn sc)) hgt
                have hone2 : ∀ u ∈ (gdT (k / 28) (.slice sA sn sc)).row, u.oneCell' = true := hone
                rw [hgo] at hone2
                have hfr : Fr W0.heap.size (.slice A3 n3 c3) (.slice A4 n4 c4) W5 (gdT (k / 28) (.slice sA sn sc)) := fr_later (fr_new hgt HQ.out.bel.size HQ.out.vlt HQ.out.nlt) hb5
                have HK := Lib.hid (fun v' w9 h1 h2 h3 => hq5.kid hfr (v' := v') (w3 := w9) (o := .cells #[.int .i64 2, .int .i64 0, .int .i64 0, .int .i64 kd, .bool bd, .int .u64 bn, (.slice sA sn sc), .string ⟨#[]⟩, (.slice none 0 0)] 31) (by rw [hgo]; exact h1) h2 h3)
                have c0 := hG.cell 0 _ rfl
                have c1 := hG.cell 1 _ rfl
                have c2 := hG.cell 2 _ rfl
                have c3 := hG.cell 3 _ rfl
                have c4 := hG.cell 4 _ rfl
                have c5 := hG.cell 5 _ rfl
                have c6 := hG.cell 6 _ rfl
                have c7 := hG.cell 7 _ rfl
                have c8 := hG.cell 8 _ rfl
                clear hq5 hH hgt hgo hone hfr hG hb4 hb5 HL j1 j2 j3 j4
                go_wp2_with (at_builtin; refine wpList_append_own_at _ rfl _ _ 29 rfl W0.heap.size 31 iN (.agg #[.int .i64 0, .int .i64 0, .int .i64 0, .int .i64 0, .bool false, .int .u64 0, .slice none 0 0, .string ⟨#[]⟩, .slice none 0 0]) 9 112 Tryz.underlying29 hiN hzN0 hzN1 hzN2 rfl (by decide) _ _ _ rfl (hown.alloc _) ⟨W5.heap.size, 0, none⟩ 1 1 ([.int .i64 2, .int .i64 0, .int .i64 0, .int .i64 kd, .bool bd, .int .u64 bn, (.slice sA sn sc), .string ⟨#[]⟩, (.slice none 0 0)]) rfl rfl (new_cells _) hone2 (by unfold maxLen; omega) (by omega) (by rw [World.size_alloc]; omega) ?_; intro v' w9 hown' hgrow hnil hloc)
                have hq9 := HK.out v' w9 hown' hgrow hloc
                obtain ⟨vA, vc, hvv⟩ := own_form hown'
                subst hvv
                go_meet
                case rel => exact ⟨_, _, _, _, rfl, by simp; omega, Lib.hid ⟨hq9, by rw [List.map_append, HC.out, HGD.out]; rfl⟩⟩
            | false =>
              have hgd : kGuard i k = [] := by unfold kGuard; rw [if_neg (of_decide_eq_false HG.out.symm)]
              have HX := Lib.hid (And.intro HQ.out (show cs.map Tr.nd = ks ++ kGuard i k by rw [hgd, List.append_nil]; exact hM3))
              clear hgd hM3
              go_wp2_with fail
              go_meet
              case rel => exact ⟨_, _, _, _, rfl, by omega, HX⟩
          case rest =>
          obtain ⟨cs1, A1, n1, c1, rfl, hf1, HQ1⟩ := hcut
          clear HQ HC HG hfew g
          have hL := fun w' => leaf_let k p hk30 (by omega) (k : Int) (p : Int) rfl rfl w'
          go_upto_region 12 with (go_at_call 67; refine (hL _).mono ?_; rintro e w4 ⟨mn, mx, kd, bn, bd, nm, sA, sn, sc, hb4, rfl, HL⟩)
          refine named_wp fun W5 hW5 => ?_
          obtain ⟨b9, hb9⟩ : ∃ b9, b9 = w4.heap.size := ⟨_, rfl⟩
          have hO : QO W0 W5 (.slice A1 n1 c1) (.slice A4 n4 c4) cs1 ns b9 (klfT k p (.slice sA sn sc)) := by
            rw [hb9]
            exact qo_new HQ1.out.1 hb4 HL.out.tr (by rw [hW5]; exact b1 _ _) (by rw [HL.out.row, hW5]; exact Blk.is _ rfl)
          have hb90 : W0.heap.size ≤ b9 := by rw [hb9]; exact Nat.le_trans HQ1.out.1.bel.size hb4.size
          rw [← hb9]
          have hrow := HL.out.row
          have hname := nmL_is k p nm HL.out.at_.2.2.2
          have HROW := Lib.hid hrow
          have HNM := Lib.hid hname
          have HKS := Lib.hid HQ1.out.2
          have hblk := hO.blk
          rw [hrow] at hblk
          obtain ⟨em, hem⟩ : ∃ em, nm.isEmpty = em := ⟨_, rfl⟩
          have he2 : (strOf nm).toList.isEmpty = em := by rw [strOf_mt, hem]
          have HEM := Lib.hid hem
          have HO := Lib.hid hO
          clear hW5 hb9 hb4 hL HL hrow hname hO HQ1 hem
          have c7 := hblk.cell 7 _ rfl
          go_upto_if 66 with fail
          go_cut [4] (fun v4 wx => ∃ A' n' c' ns', v4 = .slice A' n' c' ∧ ns'.length ≤ 101 ∧ Hid (QO W0 wx (.slice A1 n1 c1) v4 cs1 ns' b9 (klfT k p (.slice sA sn sc)) ∧ ns' = ns ++ nmL (kA k p)))
          case first =>
            cases em with
            | true =>
              have HX := Lib.hid (And.intro HO.out (show ns = ns ++ nmL (kA k p) by rw [HNM.out, HEM.out]; simp))
              go_wp2_with fail
              go_meet
              case rel => exact ⟨_, _, _, _, rfl, by omega, HX⟩
            | false =>
              have hown := HO.out.qi.nms
              have hsz5 := HO.out.qi.bel.size
              have HK := Lib.hid (fun v' w9 h1 h2 h3 => (HO.out.name (vn' := v') (w3 := w9) (s := nm) (o := .cells #[.string (strOf nm)] 9) h1 h2 h3).1)
              have hnx : ns ++ [nm] = ns ++ nmL (kA k p) := by rw [HNM.out, HEM.out]; simp
              have HNX := Lib.hid hnx
              clear hnx
              go_wp2_with (at_builtin; refine wpList_append_own_at _ rfl _ _ 69 rfl W0.heap.size 9 iS (.string ⟨#[]⟩) 1 16 Tryz.underlying69 hiS hzS0 hzS1 hzS2 rfl (by decide) _ _ _ rfl (hown.alloc _) ⟨W5.heap.size, 0, none⟩ 1 1 [.string (strOf nm)] rfl rfl (new_cells _) (by simp [Value.oneCell']) (by unfold maxLen; omega) (by omega) (by rw [World.size_alloc]; omega) ?_; intro v' w9 hown' hgrow hnil hloc)
              have hq9 := HK.out v' w9 hown' hgrow hloc
              obtain ⟨vA, vc, hvv⟩ := own_form hown'
              subst hvv
              go_meet
              case rel => exact ⟨_, _, _, _, rfl, by simp; omega, Lib.hid ⟨hq9, HNX.out⟩⟩
          case rest =>
          obtain ⟨A5, n5, c5, ns5, rfl, hf5, HO5⟩ := hcut
          clear HO HNM HEM he2 c7 hblk em
          obtain ⟨z77, e_z77, r_z77⟩ : ∃ x : Int, (k : Int) % 7 = x ∧ x = ((k % 7 : Nat) : Int) := ⟨_, rfl, by omega⟩
          have lo_z77 : 0 ≤ z77 := by omega
          have hi_z77 : z77 < 7 := by rw [r_z77]; omega
          replace r_z77 := Lib.hid r_z77
          go_upto_if 75 with fail
          go_cut [4, 5] (fun v4 v5 wx => ∃ A' n' c' ns' p' T k' mn' mx' kd' bn' bd' nm' sA' sn' sc' rA' rn' rc', v4 = .slice A' n' c' ∧ v5 = .int .i64 ((p' : Nat) : Int) ∧ Hid (QE W0 wx (.slice A1 n1 c1) v4 cs1 ns' b9 T ∧ T.row = [.int .i64 k', .int .i64 mn', .int .i64 mx', .int .i64 kd', .bool bd', .int .u64 bn', (.slice sA' sn' sc'), .string nm', (.slice rA' rn' rc')] ∧ kStep i k ⟨ks, ns, p⟩ = ⟨ks ++ kGuard i k ++ [T.nd], ns', p'⟩))
          case first =>
            by_cases h7 : k % 7 = 1
            · have hz : z77 = 1 := by rw [r_z77.out, h7]; rfl
              subst hz
              obtain ⟨z5, e_z5, r_z5⟩ : ∃ x : Int, (k : Int) / 5 = x ∧ x = ((k / 5 : Nat) : Int) := ⟨_, rfl, by omega⟩
              have lo_z5 : 0 ≤ z5 := by omega
              have hi_z5 : z5 < 1073741824 := by rw [r_z5]; omega
              replace r_z5 := Lib.hid r_z5
              have hL := fun w' => leaf_let (k / 5) (p + 1) (by omega) (by omega) z5 ((p : Int) + 1) r_z5.out (by omega) w'
              go_upto_region 17 with (go_at_call 67; refine (hL _).mono ?_; rintro e w6 ⟨mn2, mx2, kd2, bn2, bd2, nm2, tA, tn, tc, hb6, rfl, HL2⟩)
              refine named_wp fun W7 hW7 => ?_
              have hb7 : Below w6.heap.size w6 W7 := by rw [hW7]; exact b1 _ _
              have hG2 : Blk W7 w6.heap.size [.int .i64 1, .int .i64 mn2, .int .i64 mx2, .int .i64 kd2, .bool bd2, .int .u64 bn2, (.slice tA tn tc), .string (strOf nm2), (.slice none 0 0)] := by rw [hW7]; exact Blk.is (us := [.int .i64 1, .int .i64 mn2, .int .i64 mx2, .int .i64 kd2, .bool bd2, .int .u64 bn2, (.slice tA tn tc), .string (strOf nm2), (.slice none 0 0)]) _ rfl
              have hO7 := (HO5.out.1.later hb6).later hb7
              have ht2 : TrW (hide (three W0.heap.size (.slice A1 n1 c1) (.slice A5 n5 c5) b9) W7) (klfT (k / 5) (p + 1) (.slice tA tn tc)) := new_three HO5.out.1.qi.bel.size HL2.out.tr HO5.out.1.qi.vlt HO5.out.1.qi.nlt hb7 (.inr HO5.out.1.blk.lt)
              have hb29 : Hid (∀ k, (Value.slice A5 n5 c5).ownBlock = some k → k ≠ w6.heap.size) := Lib.hid (fun k e => by have := HO5.out.1.qi.nlt k e; have := hb6.size; omega)
              have hrow2 := HL2.out.row
              have HROW2 := Lib.hid hrow2
              have hname := nmL_is (k / 5) (p + 1) nm2 HL2.out.at_.2.2.2
              have HNM := Lib.hid hname
              have HNS := Lib.hid HO5.out.2
              have hne2 : Hid (b9 ≠ w6.heap.size) := Lib.hid (by have h1 := HO5.out.1.blk.lt; have h2 := hb6.size; omega)
              obtain ⟨b2', hb2'⟩ : ∃ b2', b2' = w6.heap.size := ⟨_, rfl⟩
              rw [← hb2'] at hG2 hb29 hne2 ⊢
              obtain ⟨em, hem⟩ : ∃ em, nm2.isEmpty = em := ⟨_, rfl⟩
              have he2 : (strOf nm2).toList.isEmpty = em := by rw [strOf_mt, hem]
              have HEM := Lib.hid hem
              have HO := Lib.hid hO7
              have HT2 := Lib.hid ht2
              clear hW7 hb7 hb6 hL HL2 hrow2 hname hO7 ht2 HO5 hem hb2' e_z5 lo_z5 hi_z5 r_z5 e_z77 lo_z77 hi_z77 r_z77
              have c7 := hG2.cell 7 _ rfl
              go_upto_if 85 with fail
              go_cut [4] (fun v4 wx => ∃ A' n' c' ns', v4 = .slice A' n' c' ∧ Hid (QO W0 wx (.slice A1 n1 c1) v4 cs1 ns' b9 (klfT k p (.slice sA sn sc)) ∧ ns' = ns5 ++ nmL (kA (k / 5) (p + 1)) ∧ TrW (hide (three W0.heap.size (.slice A1 n1 c1) v4 b9) wx) (klfT (k / 5) (p + 1) (.slice tA tn tc)) ∧ Blk wx b2' [.int .i64 1, .int .i64 mn2, .int .i64 mx2, .int .i64 kd2, .bool bd2, .int .u64 bn2, (.slice tA tn tc), .string (strOf nm2), (.slice none 0 0)]))
              case first =>
                cases em with
                | true =>
                  have HX := Lib.hid (And.intro HO.out (And.intro (show ns5 = ns5 ++ nmL (kA (k / 5) (p + 1)) by rw [HNM.out, HEM.out]; simp) (And.intro HT2.out hG2)))
                  go_wp2_with fail
                  go_meet
                  case rel => exact ⟨_, _, _, _, rfl, HX⟩
                | false =>
                  have hown := HO.out.qi.nms
                  have hsz5 := HO.out.qi.bel.size
                  have HK := Lib.hid (fun v' w9 h1 h2 h3 => HO.out.name (vn' := v') (w3 := w9) (s := nm2) (o := .cells #[.string (strOf nm2)] 9) h1 h2 h3)
                  have hnx : ns5 ++ [nm2] = ns5 ++ nmL (kA (k / 5) (p + 1)) := by rw [HNM.out, HEM.out]; simp
                  have HNX := Lib.hid hnx
                  have HG2 := Lib.hid hG2
                  clear hnx hG2
                  go_wp2_with (at_builtin; refine wpList_append_own_at _ rfl _ _ 69 rfl W0.heap.size 9 iS (.string ⟨#[]⟩) 1 16 Tryz.underlying69 hiS hzS0 hzS1 hzS2 rfl (by decide) _ _ _ rfl (hown.alloc _) ⟨W7.heap.size, 0, none⟩ 1 1 [.string (strOf nm2)] rfl rfl (new_cells _) (by simp [Value.oneCell']) (by unfold maxLen; omega) (by omega) (by rw [World.size_alloc]; omega) ?_; intro v' w9 hown' hgrow hnil hloc)
                  obtain ⟨hq9, hf9, hk9⟩ := HK.out v' w9 hown' hgrow hloc
                  obtain ⟨vA, vc, hvv⟩ := own_form hown'
                  subst hvv
                  go_meet
                  case rel => exact ⟨_, _, _, _, rfl, Lib.hid ⟨hq9, HNX.out, hf9 _ HT2.out, hk9 _ _ HG2.out hb29.out⟩⟩
              case rest =>
              obtain ⟨A6, n6, c6, ns6, rfl, HO6⟩ := hcut
              clear HO HNM HEM HT2 he2 c7 hG2 em hb29
              obtain ⟨k1, k2, k3, k4⟩ := HO6.out
              have hblk := k1.blk
              rw [HROW.out] at hblk
              have HX := Lib.hid (fun Wa V hWa ho hV => k1.alt (Wa := Wa) (V := V) (T2 := klfT (k / 5) (p + 1) (.slice tA tn tc)) hb90 k3 hWa ho hV)
              have hns6 : kStep i k ⟨ks, ns, p⟩ = ⟨ks ++ kGuard i k ++ [(alT wc.heap.size (klfT k p (.slice sA sn sc)) (klfT (k / 5) (p + 1) (.slice tA tn tc))).nd], ns6, p + 2⟩ := by
                unfold kStep
                rw [if_pos h7, k2, HNS.out]
                rfl
              have HNS6 := Lib.hid hns6
              obtain ⟨NB, hNB⟩ : ∃ NB, NB = (.cells #[.int .i64 1, .int .i64 mn, .int .i64 mx, .int .i64 kd, .bool bd, .int .u64 bn, .slice sA sn sc, .string (strOf nm), .slice none 0 0, .int .i64 1, .int .i64 mn2, .int .i64 mx2, .int .i64 kd2, .bool bd2, .int .u64 bn2, .slice tA tn tc, .string (strOf nm2), .slice none 0 0] 31 : Obj) := ⟨_, rfl⟩
              have hKA : Blk (wc.alloc (.cells #[.int .i64 1, .int .i64 mn, .int .i64 mx, .int .i64 kd, .bool bd, .int .u64 bn, .slice sA sn sc, .string (strOf nm), .slice none 0 0, .int .i64 1, .int .i64 mn2, .int .i64 mx2, .int .i64 kd2, .bool bd2, .int .u64 bn2, .slice tA tn tc, .string (strOf nm2), .slice none 0 0] 31)) b9 [.int .i64 1, .int .i64 mn, .int .i64 mx, .int .i64 kd, .bool bd, .int .u64 bn, (.slice sA sn sc), .string (strOf nm), (.slice none 0 0)] := hblk.alloc _
              have HKA := Lib.hid hKA
              have x0 := hblk.cell 0 _ rfl
              have x1 := hblk.cell 1 _ rfl
              have x2 := hblk.cell 2 _ rfl
              have x3 := hblk.cell 3 _ rfl
              have x4 := hblk.cell 4 _ rfl
              have x5 := hblk.cell 5 _ rfl
              have x6 := hblk.cell 6 _ rfl
              have x7 := hblk.cell 7 _ rfl
              have x8 := hblk.cell 8 _ rfl
              have y0 := k4.cell 0 _ rfl
              have y1 := k4.cell 1 _ rfl
              have y2 := k4.cell 2 _ rfl
              have y3 := k4.cell 3 _ rfl
              have y4 := k4.cell 4 _ rfl
              have y5 := k4.cell 5 _ rfl
              have y6 := k4.cell 6 _ rfl
              have y7 := k4.cell 7 _ rfl
              have y8 := k4.cell 8 _ rfl
              have d0 := hKA.cell 0 _ rfl
              have gd0 := hKA.fr 0 _ rfl
              have d1 := hKA.cell 1 _ rfl
              have gd1 := hKA.fr 1 _ rfl
              have d2 := hKA.cell 2 _ rfl
              have gd2 := hKA.fr 2 _ rfl
              have d3 := hKA.cell 3 _ rfl
              have gd3 := hKA.fr 3 _ rfl
              have d4 := hKA.cell 4 _ rfl
              have gd4 := hKA.fr 4 _ rfl
              have d5 := hKA.cell 5 _ rfl
              have gd5 := hKA.fr 5 _ rfl
              have d6 := hKA.cell 6 _ rfl
              have gd6 := hKA.fr 6 _ rfl
              have d7 := hKA.cell 7 _ rfl
              have gd7 := hKA.fr 7 _ rfl
              have d8 := hKA.cell 8 _ rfl
              have gd8 := hKA.fr 8 _ rfl
              clear hblk k4 hKA k1 k2 k3 hns6 HNS NB hNB
              go_wp2
              go_meet
              case rel =>
                have h3 := res_out HKA.out (us := [.int .i64 4, .int .i64 0, .int .i64 0, .int .i64 0, .bool false, .int .u64 0, .slice none 0 0, .string ⟨#[]⟩, .slice (some ⟨wc.heap.size, 0, none⟩) 2 2]) rfl rfl
                refine ⟨_, _, _, ns6, p + 2, alT wc.heap.size (klfT k p (.slice sA sn sc)) (klfT (k / 5) (p + 1) (.slice tA tn tc)), _, _, _, _, _, _, _, _, _, _, _, _, _, rfl, by first | rfl | (congr 1; omega), Lib.hid ⟨?_, rfl, HNS6.out⟩⟩
                first
                  | exact HX.out _ _ (by rw [HROW.out, HROW2.out]; rfl) h3.2 h3.1
                  | exact HX.out _ _ (by rw [HROW.out, HROW2.out]; rfl) (h3.2.drewN 1) h3.1.drew
            · have hz : (z77 == 1) = false := by rw [beq_eq_false_iff_ne, r_z77.out]; omega
              have HX : Hid (QE W0 wc (.slice A1 n1 c1) (.slice A5 n5 c5) cs1 ns5 b9 (klfT k p (.slice sA sn sc)) ∧ (klfT k p (.slice sA sn sc)).row = [.int .i64 1, .int .i64 mn, .int .i64 mx, .int .i64 kd, .bool bd, .int .u64 bn, (.slice sA sn sc), .string (strOf nm), (.slice none 0 0)] ∧ kStep i k ⟨ks, ns, p⟩ = ⟨ks ++ kGuard i k ++ [(klfT k p (.slice sA sn sc)).nd], ns5, p + 1⟩) := Lib.hid ⟨HO5.out.1.end_, HROW.out, by
                unfold kStep
                rw [if_neg h7, HO5.out.2]
                rfl⟩
              clear h7 HO5
              go_wp2_with fail
              go_meet
              case rel => exact ⟨_, _, _, _, p + 1, _, _, _, _, _, _, _, _, _, _, _, _, _, _, rfl, by first | rfl | (congr 1; omega), HX⟩
          case rest =>
          obtain ⟨A7, n7, c7, ns7, p7, T7, k7, mn7, mx7, kd7, bn7, bd7, nm7, sA7, sn7, sc7, rA7, rn7, rc7, rfl, rfl, HE⟩ := hcut
          clear HO5 HROW e_z77 lo_z77 hi_z77 r_z77
          have hblk := HE.out.1.blk
          rw [HE.out.2.1] at hblk
          have hown := HE.out.1.qi.own
          have hszw := HE.out.1.qi.bel.size
          have hone := ndK.one (W := hide (two W0.heap.size (.slice A1 n1 c1) (.slice A7 n7 c7)) wc) (c := T7) HE.out.1.fr
          have hone2 : ∀ u ∈ T7.row, u.oneCell' = true := hone
          rw [HE.out.2.1] at hone2
          have HK := Lib.hid (fun v' w9 h1 h2 h3 => HE.out.1.qi.kid HE.out.1.fr (v' := v') (w3 := w9) (o := .cells #[.int .i64 k7, .int .i64 mn7, .int .i64 mx7, .int .i64 kd7, .bool bd7, .int .u64 bn7, (.slice sA7 sn7 sc7), .string nm7, (.slice rA7 rn7 rc7)] 31) (by rw [HE.out.2.1]; exact h1) h2 h3)
          have hnew : kLoop l (i + 1) = ⟨ks ++ kGuard i k ++ [T7.nd], ns7, p7⟩ := by rw [hstep.out, HST.out, HE.out.2.2]
          have HNEW := Lib.hid hnew
          have x0 := hblk.cell 0 _ rfl
          have x1 := hblk.cell 1 _ rfl
          have x2 := hblk.cell 2 _ rfl
          have x3 := hblk.cell 3 _ rfl
          have x4 := hblk.cell 4 _ rfl
          have x5 := hblk.cell 5 _ rfl
          have x6 := hblk.cell 6 _ rfl
          have x7 := hblk.cell 7 _ rfl
          have x8 := hblk.cell 8 _ rfl
          clear hblk hone hnew
          go_wp2_with (at_builtin; refine wpList_append_own_at _ rfl _ _ 29 rfl W0.heap.size 31 iN (.agg #[.int .i64 0, .int .i64 0, .int .i64 0, .int .i64 0, .bool false, .int .u64 0, .slice none 0 0, .string ⟨#[]⟩, .slice none 0 0]) 9 112 Tryz.underlying29 hiN hzN0 hzN1 hzN2 rfl (by decide) _ _ _ rfl (hown.alloc _) ⟨wc.heap.size, 0, none⟩ 1 1 ([.int .i64 k7, .int .i64 mn7, .int .i64 mx7, .int .i64 kd7, .bool bd7, .int .u64 bn7, (.slice sA7 sn7 sc7), .string nm7, (.slice rA7 rn7 rc7)]) rfl rfl (new_cells _) hone2 (by unfold maxLen; omega) (by omega) (by rw [World.size_alloc]; omega) ?_; intro v' w9 hown' hgrow hnil hloc)
          have hq9 := HK.out v' w9 hown' hgrow hloc
          obtain ⟨vA, vc, hvv⟩ := own_form hown'
          subst hvv
          obtain ⟨m', rfl⟩ : ∃ m', m = m' + 1 := ⟨m - 1, by omega⟩
          go_roundg (m' + 1)
          case rel => exact ⟨m', i + 1, p7, _, _, _, _, _, _, rfl, by omega, by omega, rfl, rfl, rfl, by first | rfl | (congr 1; omega), Lib.hid ⟨cs1 ++ [T7], by rw [HNEW.out]; exact hq9, by rw [HNEW.out, List.map_append, HKS.out]; rfl, by rw [HNEW.out]⟩⟩
          case measure => omega
        · have hi4 : ¬ (i : Int) < 4 := by omega
          have hK := kLoop_end l i (by omega) (.inr (by omega))
          obtain ⟨cs, hq, hc, -⟩ := hR.out
          rw [hK] at hq hc
          have HX := Lib.hid (And.intro hq hc)
          clear hq hc hR hK
          go_wp2_with fail
          go_meet
          case rel => exact ⟨_, _, _, _, _, _, _, rfl, rfl, HX⟩
      · have hi : ¬ (i : Int) < (l.length : Int) := by omega
        have hK := kLoop_end l i (by omega) (.inl (by omega))
        obtain ⟨cs, hq, hc, -⟩ := hR.out
        rw [hK] at hq hc
        have HX := Lib.hid (And.intro hq hc)
        clear hq hc hR hK
        go_wp2_with fail
        go_meet
        case rel => exact ⟨_, _, _, _, _, _, _, rfl, rfl, HX⟩
  case rest =>
    obtain ⟨cs, A3, n3, c3, A4, n4, c4, rfl, rfl, hq⟩ := hcut
    obtain ⟨Y, hYl, hY⟩ : ∃ Y, Hid (Y = l.getD 4 0) ∧ ∀ w', Below w.heap.size w w' → Calls Tryz.prog 68 #[.slice A l.length cap, .int .i64 4] w' fun e w'' => e = .returned (.int .i64 Y) ∧ w' = w'' :=
      ⟨_, Lib.hid rfl, fun w' hb => by have h := hAt w' hb 4; rw [atI_get] at h; exact h⟩
    have hM8 := fun w' => hMod8 Y w'
    obtain ⟨wi, hwi⟩ : ∃ wi, wi = Y % 8 := ⟨_, rfl⟩
    rw [← hwi] at hM8
    have hw8 : 0 ≤ wi ∧ wi < 8 := by omega
    have HWI : Hid (wi = l.getD 4 0 % 8) := Lib.hid (by rw [hwi, hYl.out])
    have hbc : Below w.heap.size w wc := bstep HB.out hq.out.1.bel
    clear hwi hYl
    go_upto_block 2 with (first | (go_at_call 68; refine (hY _ hbc).mono ?_; rintro e w3 ⟨rfl, rfl⟩) | (go_at_call 66; refine (hM8 _).mono ?_; rintro e w3 ⟨rfl, rfl⟩))
    obtain ⟨V1, hV1⟩ : ∃ V1, V1 = wc := ⟨_, rfl⟩
    subst hV1
    refine named_wp fun W1 hW1 => ?_
    have hb1' : Below V1.heap.size V1 W1 := by rw [hW1]; exact b1 _ _
    have hQ1 : Blk W1 V1.heap.size [.int .i64 0, .int .i64 0, .int .i64 0, .int .i64 0, .bool false, .int .u64 0, .slice none 0 0, .string ⟨#[]⟩, .slice none 0 0, .int .u64 wi, .slice none 0 0, .slice none 0 0] := by rw [hW1]; exact Blk.is (us := [.int .i64 0, .int .i64 0, .int .i64 0, .int .i64 0, .bool false, .int .u64 0, .slice none 0 0, .string ⟨#[]⟩, .slice none 0 0, .int .u64 wi, .slice none 0 0, .slice none 0 0]) _ rfl
    have hlt1 : V1.heap.size < W1.heap.size := by rw [hW1, World.size_alloc]; omega
    clear hW1 hY hM8 hbc
    go_cut [] (fun wx => ∃ T k' mn' mx' kd' bn' bd' nm' sA' sn' sc' rA' rn' rc', Hid (Below V1.heap.size V1 wx ∧ Blk wx V1.heap.size [.int .i64 k', .int .i64 mn', .int .i64 mx', .int .i64 kd', .bool bd', .int .u64 bn', (.slice sA' sn' sc'), .string nm', (.slice rA' rn' rc'), .int .u64 wi, .slice none 0 0, .slice none 0 0] ∧ TrW (hide (fun k => decide (k < W0.heap.size)) V1) T ∧ T.row = [.int .i64 k', .int .i64 mn', .int .i64 mx', .int .i64 kd', .bool bd', .int .u64 bn', (.slice sA' sn' sc'), .string nm', (.slice rA' rn' rc')] ∧ T.nd = kPat (kLoop l 4).kids))
    case first =>
      have hown := own_later hq.out.1.own hb1'
      have hkk := hq.out.2
      have hWV : W0.heap.size ≤ V1.heap.size := hq.out.1.bel.size
      have hel := hq.out.1.el
      cases cs with
      | nil =>
        obtain rfl : n3 = 0 := own_n hown
        have hL := fun w' => leaf_let 0 0 (by omega) (by omega) 0 0 rfl rfl w'
        have HKK := Lib.hid hkk
        have HQ1 := Lib.hid hQ1
        clear hkk hown hel hQ1
        go_wp2_with (go_at_call 67; refine (hL _).mono ?_; rintro e w4 ⟨mn, mx, kd, bn, bd, nm, sA, sn, sc, hb4, rfl, HL⟩; have hQ4 := HQ1.out.later hb4; have d0 := hQ4.cell 0 _ rfl; have gd0 := hQ4.fr 0 _ rfl; have d1 := hQ4.cell 1 _ rfl; have gd1 := hQ4.fr 1 _ rfl; have d2 := hQ4.cell 2 _ rfl; have gd2 := hQ4.fr 2 _ rfl; have d3 := hQ4.cell 3 _ rfl; have gd3 := hQ4.fr 3 _ rfl; have d4 := hQ4.cell 4 _ rfl; have gd4 := hQ4.fr 4 _ rfl; have d5 := hQ4.cell 5 _ rfl; have gd5 := hQ4.fr 5 _ rfl; have d6 := hQ4.cell 6 _ rfl; have gd6 := hQ4.fr 6 _ rfl; have d7 := hQ4.cell 7 _ rfl; have gd7 := hQ4.fr 7 _ rfl; have d8 := hQ4.cell 8 _ rfl; have gd8 := hQ4.fr 8 _ rfl)
        go_meet
        case rel =>
          obtain ⟨h3, h4⟩ := part_out hQ4 (us := [.int .i64 1, .int .i64 mn, .int .i64 mx, .int .i64 kd, .bool bd, .int .u64 bn, (.slice sA sn sc), .string (strOf nm), (.slice none 0 0)]) (by simp)
          exact ⟨klfT 0 0 (.slice sA sn sc), _, _, _, _, _, _, _, _, _, _, _, _, _, Lib.hid ⟨(bstep hb1' hb4).trans h4.below, h3, leaf0_tr HL.out.tr, HL.out.row, by rw [← HKK.out]; rfl⟩⟩
      | cons c cs =>
        cases cs with
        | nil =>
          obtain rfl : n3 = 1 := own_n hown
          obtain ⟨g, hg, hcl⟩ := own_at hown (by simp)
          subst hg
          have hTr := fr_out (hel c List.mem_cons_self)
          obtain ⟨tk, tmn, tmx, ⟨⟨akd, abd, abn, acs, anm⟩, asc⟩, tsk, tks⟩ := c
          obtain ⟨⟨qA, qn, qc, rfl⟩, ⟨rA, rn, rc, rfl⟩⟩ := tr_form (show ndK.E _ _ from hTr)
          have x0 := hcl 0 _ rfl
          have x1 := hcl 1 _ rfl
          have x2 := hcl 2 _ rfl
          have x3 := hcl 3 _ rfl
          have x4 := hcl 4 _ rfl
          have x5 := hcl 5 _ rfl
          have x6 := hcl 6 _ rfl
          have x7 := hcl 7 _ rfl
          have x8 := hcl 8 _ rfl
          rw [add0] at x0 x1 x2 x3 x4 x5 x6 x7 x8
          have HKK := Lib.hid hkk
          have HTR := Lib.hid hTr
          have HQ1 := Lib.hid hQ1
          have d0 := hQ1.cell 0 _ rfl
          have gd0 := hQ1.fr 0 _ rfl
          have d1 := hQ1.cell 1 _ rfl
          have gd1 := hQ1.fr 1 _ rfl
          have d2 := hQ1.cell 2 _ rfl
          have gd2 := hQ1.fr 2 _ rfl
          have d3 := hQ1.cell 3 _ rfl
          have gd3 := hQ1.fr 3 _ rfl
          have d4 := hQ1.cell 4 _ rfl
          have gd4 := hQ1.fr 4 _ rfl
          have d5 := hQ1.cell 5 _ rfl
          have gd5 := hQ1.fr 5 _ rfl
          have d6 := hQ1.cell 6 _ rfl
          have gd6 := hQ1.fr 6 _ rfl
          have d7 := hQ1.cell 7 _ rfl
          have gd7 := hQ1.fr 7 _ rfl
          have d8 := hQ1.cell 8 _ rfl
          have gd8 := hQ1.fr 8 _ rfl
          clear hkk hown hel hcl hTr hQ1
          go_wp2
          go_meet
          case rel =>
            obtain ⟨h3, h4⟩ := part_out HQ1.out (us := [.int .i64 tk, .int .i64 tmn, .int .i64 tmx, .int .i64 akd, .bool abd, .int .u64 abn, (.slice qA qn qc), .string (strOf anm), (.slice rA rn rc)]) (by simp)
            exact ⟨.mk tk tmn tmx ⟨⟨akd, abd, abn, acs, anm⟩, .slice qA qn qc⟩ (.slice rA rn rc) tks, _, _, _, _, _, _, _, _, _, _, _, _, _, Lib.hid ⟨hb1'.trans h4.below, h3, HTR.out, rfl, by rw [← HKK.out]; rfl⟩⟩
        | cons c2 cs =>
          have hn3 := own_n hown
          have hz0 : ((n3 : Int) == 0) = false := by rw [beq_eq_false_iff_ne, hn3]; simp; omega
          have hz1 : ((n3 : Int) == 1) = false := by rw [beq_eq_false_iff_ne, hn3]; simp; omega
          have hz2 : ¬ (n3 : Int) = 0 := by rw [hn3]; simp; omega
          have hz3 : ¬ (n3 : Int) = 1 := by rw [hn3]; simp; omega
          have hT : TrW (hide (fun k => decide (k < W0.heap.size)) V1) (.mk 3 0 0 ga0 (.slice A3 n3 c3) (c :: c2 :: cs)) := fun u hu => by
            have hu2 : u = .mk 3 0 0 ga0 (.slice A3 n3 c3) (c :: c2 :: cs) ∨ ∃ t ∈ c :: c2 :: cs, u ∈ subsT t := by
              simp only [subsT, subsTL_flat, List.mem_cons, List.mem_flatMap] at hu ⊢
              exact hu
            rcases hu2 with rfl | ⟨t, ht, hu2⟩
            · exact ⟨⟨by unfold okV; omega, small_okV (by omega), small_okV (by omega)⟩, one0 _, sl_row hq.out.1.own (fun k hk => by simp only [decide_eq_false_iff_not]; omega)⟩
            · exact fr_out (hel t ht) u hu2
          have HKK := Lib.hid hkk
          have HTR := Lib.hid hT
          have HQ1 := Lib.hid hQ1
          have d0 := hQ1.cell 0 _ rfl
          have gd0 := hQ1.fr 0 _ rfl
          have d1 := hQ1.cell 1 _ rfl
          have gd1 := hQ1.fr 1 _ rfl
          have d2 := hQ1.cell 2 _ rfl
          have gd2 := hQ1.fr 2 _ rfl
          have d3 := hQ1.cell 3 _ rfl
          have gd3 := hQ1.fr 3 _ rfl
          have d4 := hQ1.cell 4 _ rfl
          have gd4 := hQ1.fr 4 _ rfl
          have d5 := hQ1.cell 5 _ rfl
          have gd5 := hQ1.fr 5 _ rfl
          have d6 := hQ1.cell 6 _ rfl
          have gd6 := hQ1.fr 6 _ rfl
          have d7 := hQ1.cell 7 _ rfl
          have gd7 := hQ1.fr 7 _ rfl
          have d8 := hQ1.cell 8 _ rfl
          have gd8 := hQ1.fr 8 _ rfl
          clear hkk hown hel hT hQ1 hn3
          go_wp2
          go_meet
          case rel =>
            obtain ⟨h3, h4⟩ := part_out HQ1.out (us := [.int .i64 3, .int .i64 0, .int .i64 0, .int .i64 0, .bool false, .int .u64 0, (.slice none 0 0), .string ⟨#[]⟩, (.slice A3 n3 c3)]) (by simp)
            exact ⟨.mk 3 0 0 ga0 (.slice A3 n3 c3) (c :: c2 :: cs), _, _, _, _, _, _, _, _, _, _, _, _, _, Lib.hid ⟨hb1'.trans h4.below, h3, HTR.out, rfl, by rw [← HKK.out, nd_mk]; rfl⟩⟩
    case rest =>
    obtain ⟨T, tk, tmn, tmx, tkd, tbn, tbd, tnm, sA, sn, sc, rA, rn, rc, HT⟩ := hcut
    obtain ⟨V2, hV2⟩ : ∃ V2, V2 = wc := ⟨_, rfl⟩
    subst hV2
    clear hb1' hQ1 hlt1
    obtain ⟨ns, hns⟩ : ∃ ns, ns = (kLoop l 4).names := ⟨_, rfl⟩
    have HNS := Lib.hid hns
    have hnm0 := hq.out.1.nms
    rw [← hns] at hnm0
    have hn4 := (own_n hnm0).symm
    have hnfew : ns.length ≤ 8 := by rw [hns]; exact (kLoop_ok l 4 (Nat.le_refl _)).nms
    have hWV : W0.heap.size ≤ V1.heap.size := hq.out.1.bel.size
    have hBV : Below w.heap.size w V1 := bstep HB.out hq.out.1.bel
    have HRV := Lib.hid (HR.out.later hq.out.1.bel)
    have HNM := Lib.hid hnm0
    clear hnm0 hq hns
    go_upto_block 3 with fail
    go_cut [12] (fun v12 wx => ∃ xA xn xc yA yn yc hs es, Hid (QJ V1 wx (.slice xA xn xc) (.slice yA yn yc) hs es [.int .i64 tk, .int .i64 tmn, .int .i64 tmx, .int .i64 tkd, .bool tbd, .int .u64 tbn, (.slice sA sn sc), .string tnm, (.slice rA rn rc), .int .u64 wi] ∧ (hs, es) = (if ns.isEmpty = true then ([], []) else kTail l ns 3)))
    case first =>
      go_wp2_with fail
      go_loopg [12] 4 (fun gm v12 wr => ∃ (m i j : Nat) (xA : Option Addr) (xn xc : Nat) (yA : Option Addr) (yn yc : Nat) (hs : List Hv) (es : List Ag), gm = m + 1 ∧ m + i = 8 ∧ 5 + j = i ∧ v12 = .int .i64 (i : Int) ∧ hs.length ≤ j ∧ es.length ≤ j ∧ (ns = [] → j = 0) ∧ Hid (QJ V1 wr (.slice xA xn xc) (.slice yA yn yc) hs es [.int .i64 tk, .int .i64 tmn, .int .i64 tmx, .int .i64 tkd, .bool tbd, .int .u64 tbn, (.slice sA sn sc), .string tnm, (.slice rA rn rc), .int .u64 wi] ∧ (hs, es) = kTail l ns j))
      case atStart => exact ⟨3, 5, 0, none, 0, 0, none, 0, 0, [], [], rfl, rfl, rfl, rfl, Nat.le_refl _, Nat.le_refl _, (fun _ => rfl), Lib.hid ⟨⟨HT.out.1, World.ownsRow_nil _ _ _ _, World.ownsRow_nil _ _ _ _, HT.out.2.1, (fun k e => by cases e), (fun k e => by cases e)⟩, rfl⟩⟩
      case round =>
        obtain ⟨m, i, j, xA, xn, xc, yA, yn, yc, hs, es, rfl, hmi, hij, rfl, hhs, hes, hj0, hJ⟩ := hrel
        by_cases hlt : i < l.length
        · have hi : (i : Int) < (l.length : Int) := by omega
          by_cases h8 : i < 8
          · have hi8 : (i : Int) < 8 := by omega
            by_cases h0 : 0 < n4
            · have hi0 : 0 < (n4 : Int) := by omega
              obtain ⟨k, hk⟩ : ∃ k, k = kNum l i := ⟨_, rfl⟩
              have hk30 : k < 1073741824 := by rw [hk]; exact (kNum_is l i).2
              obtain ⟨a, hA, hab, hcl⟩ := HCELL.out i hlt
              subst hA
              have hcw : wr.cell? (a.add i) = some (.int .i64 l[i]) := ((bstep hBV hJ.out.1.bel).cell (p := a.add i) (by rw [add_block]; exact hab)).trans hcl
              have hxk : l[i] % 1073741824 = (k : Int) := by rw [hk, (kNum_is l i).1, List.getD_eq_getElem?_getD, List.getElem?_eq_getElem hlt]; rfl
              obtain ⟨x, hx⟩ : ∃ x, x = l[i] := ⟨_, rfl⟩
              rw [← hx] at hcw hxk
              have hM := fun w' => hMod x w'
              rw [hxk] at hM
              have hst : kTail l ns (j + 1) = if k / 60 % 3 = 0 then (hs ++ [⟨kAg ns k, kCn k⟩], es) else (hs, es ++ [kAg ns k]) := by
                rw [kTail, if_pos (by omega), ← hJ.out.2, hij, ← hk]
              have hnr := own_later HNM.out hJ.out.1.bel
              obtain ⟨g, hg, hcl2⟩ := own_at hnr (by omega)
              subst hg
              obtain ⟨idx, hidx⟩ : ∃ idx, idx = k / 6 % n4 := ⟨_, rfl⟩
              have hil : idx < ns.length := by rw [hidx, hn4]; exact Nat.mod_lt _ h0
              have hin : idx < n4 := by omega
              have hiI : (idx : Int) < (n4 : Int) := by omega
              obtain ⟨nm, hnm⟩ : ∃ nm, nm = ns[idx] := ⟨_, rfl⟩
              have hcn : wr.cell? ((⟨g, 0, none⟩ : Addr).add idx) = some (.string (strOf nm)) := hcl2 idx _ (by
                have := flat_get (f := nmC) (n := 1) (fun _ => rfl) ns idx hil 0 (by omega)
                rw [Nat.mul_one, Nat.add_zero] at this
                rw [this, hnm]
                rfl)
              rw [add0] at hcn
              have hka : kAg ns k = ⟨1 + ((k % 6 : Nat) : Int), nm⟩ := by
                unfold kAg
                rw [hn4, ← hidx, List.getD_eq_getElem?_getD, List.getElem?_eq_getElem hil, hnm]
                rfl
              have HST := Lib.hid hst
              have HKA := Lib.hid hka
              have hnz : ((n4 : Int) == 0) = false := by rw [beq_eq_false_iff_ne]; omega
              have hnz2 : ¬ (n4 : Int) = 0 := by omega
              have hne : ns ≠ [] := fun e => by rw [e] at hil; exact absurd hil (Nat.not_lt_zero _)
              have HNE := Lib.hid hne
              clear hx hxk hcl hcl2 hk hst hka hnr hnm hne
              go_upto_region 33 with (go_at_call 66; refine (hM _).mono ?_; rintro e w3 ⟨rfl, rfl⟩)
              obtain ⟨z6, e_z6, r_z6⟩ : ∃ x : Int, (k : Int) % 6 = x ∧ x = ((k % 6 : Nat) : Int) := ⟨_, rfl, by omega⟩
              have lo_z6 : 0 ≤ z6 := by omega
              have hi_z6 : z6 < 6 := by rw [r_z6]; omega
              replace r_z6 := Lib.hid r_z6
              obtain ⟨zk6, e_zk6, r_zk6⟩ : ∃ x : Int, (k : Int) / 6 = x ∧ x = ((k / 6 : Nat) : Int) := ⟨_, rfl, by omega⟩
              have lo_zk6 : 0 ≤ zk6 := by omega
              have hi_zk6 : zk6 < 1073741824 := by rw [r_zk6]; omega
              replace r_zk6 := Lib.hid r_zk6
              have hx1 : zk6 % (n4 : Int) = (idx : Int) := by rw [r_zk6.out, hidx]; rfl
              have hx2 : Int.tmod zk6 (n4 : Int) = (idx : Int) := by rw [← hx1]; exact Int.tmod_eq_emod_of_nonneg lo_zk6
              clear hidx
              go_upto_region 34 with fail
              refine named_wp fun W3 hW3 => ?_
              have hb3 : Below wr.heap.size wr W3 := by rw [hW3]; exact b1 _ _
              have hG : Blk W3 wr.heap.size [.int .i64 (1 + z6), .string (strOf nm)] := by rw [hW3]; exact Blk.is (us := [.int .i64 (1 + z6), .string (strOf nm)]) _ rfl
              clear hW3 hcn hcw hM e_z6 e_zk6 lo_zk6 hi_zk6 r_zk6 hx1 hx2
              have HJ3 := Lib.hid (hJ.out.1.later hb3)
              have hQ3 := HJ3.out.blk
              have y0 := hG.cell 0 _ rfl
              have y1 := hG.cell 1 _ rfl
              have p10 := hQ3.cell 10 _ rfl
              have p11 := hQ3.cell 11 _ rfl
              have hszJ := HJ3.out.bel.size
              clear hJ hb3 hG hQ3
              obtain ⟨z60, e_z60, r_z60⟩ : ∃ x : Int, (k : Int) / 60 = x ∧ x = ((k / 60 : Nat) : Int) := ⟨_, rfl, by omega⟩
              have lo_z60 : 0 ≤ z60 := by omega
              have hi_z60 : z60 < 1073741824 := by rw [r_z60]; omega
              replace r_z60 := Lib.hid r_z60
              obtain ⟨z603, e_z603, r_z603⟩ : ∃ x : Int, z60 % 3 = x ∧ x = ((k / 60 % 3 : Nat) : Int) := ⟨_, rfl, by rw [r_z60.out]; omega⟩
              have lo_z603 : 0 ≤ z603 := by omega
              have hi_z603 : z603 < 3 := by rw [r_z603]; omega
              replace r_z603 := Lib.hid r_z603
              obtain ⟨m', rfl⟩ : ∃ m', m = m' + 1 := ⟨m - 1, by omega⟩
              by_cases h60 : k / 60 % 3 = 0
              · have hz : z603 = 0 := by rw [r_z603.out, h60]; rfl
                subst hz
                clear e_z60 e_z603
                obtain ⟨z180, e_z180, r_z180⟩ : ∃ x : Int, (k : Int) / 180 = x ∧ x = ((k / 180 : Nat) : Int) := ⟨_, rfl, by omega⟩
                have lo_z180 : 0 ≤ z180 := by omega
                have hi_z180 : z180 < 1073741824 := by rw [r_z180]; omega
                replace r_z180 := Lib.hid r_z180
                obtain ⟨z1806, e_z1806, r_z1806⟩ : ∃ x : Int, z180 % 6 = x ∧ x = ((k / 180 % 6 : Nat) : Int) := ⟨_, rfl, by rw [r_z180.out]; omega⟩
                have lo_z1806 : 0 ≤ z1806 := by omega
                have hi_z1806 : z1806 < 6 := by rw [r_z1806]; omega
                replace r_z1806 := Lib.hid r_z1806
                obtain ⟨z1080, e_z1080, r_z1080⟩ : ∃ x : Int, (k : Int) / 1080 = x ∧ x = ((k / 1080 : Nat) : Int) := ⟨_, rfl, by omega⟩
                have lo_z1080 : 0 ≤ z1080 := by omega
                have hi_z1080 : z1080 < 1073741824 := by rw [r_z1080]; omega
                replace r_z1080 := Lib.hid r_z1080
                obtain ⟨z10807, e_z10807, r_z10807⟩ : ∃ x : Int, z1080 % 7 = x ∧ x = ((k / 1080 % 7 : Nat) : Int) := ⟨_, rfl, by rw [r_z1080.out]; omega⟩
                have lo_z10807 : 0 ≤ z10807 := by omega
                have hi_z10807 : z10807 < 7 := by rw [r_z10807]; omega
                replace r_z10807 := Lib.hid r_z10807
                have hown := HJ3.out.hv
                have hev : (⟨⟨1 + z6, nm⟩, ⟨1 + z1806, z10807 - 3⟩⟩ : Hv) = ⟨kAg ns k, kCn k⟩ := by rw [HKA.out, r_z6.out, r_z1806.out, r_z10807.out]; rfl
                have HEV := Lib.hid hev
                clear hev
                go_wp2_with (at_builtin; refine wpList_append_own_at _ rfl _ _ 32 rfl V1.heap.size 96 iH (.agg #[.int .i64 0, .string ⟨#[]⟩, .int .i64 0, .int .i64 0]) 4 40 Tryz.underlying32 hiiH hziH0 hziH1 hziH2 rfl (by decide) _ _ _ rfl (hown.alloc _) ⟨W3.heap.size, 0, none⟩ 1 1 [.int .i64 (1 + z6), .string (strOf nm), .int .i64 (1 + z1806), .int .i64 (z10807 - 3)] rfl rfl (new_cells _) (by simp [Value.oneCell']) (by unfold maxLen; omega) (by omega) (by rw [World.size_alloc]; omega) ?_; intro v' w9 hown' hgrow hnil hloc; obtain ⟨vA, vc, rfl⟩ := own_form hown'; have HLOC := Lib.hid hloc; clear hloc hnil; have hB9 := blk_app HJ3.out.blk hgrow HJ3.out.nx; have d10 := hB9.cell 10 _ rfl; have q10 := hB9.fr 10 _ rfl)
                have hq9 := HJ3.out.have_ rfl (z := ⟨⟨1 + z6, nm⟩, ⟨1 + z1806, z10807 - 3⟩⟩) (o := .cells #[.int .i64 (1 + z6), .string (strOf nm), .int .i64 (1 + z1806), .int .i64 (z10807 - 3)] 96) hown' hgrow HLOC.out
                go_roundg (m' + 1)
                case rel => exact ⟨m', i + 1, j + 1, _, _, _, _, _, _, _, _, rfl, by omega, by omega, by first | rfl | (congr 1; omega), by simp; omega, by omega, fun e => absurd e HNE.out, Lib.hid ⟨hq9, by rw [HST.out, if_pos h60, HEV.out]⟩⟩
                case measure => omega
              · have hz : (z603 == 0) = false := by rw [beq_eq_false_iff_ne, r_z603.out]; omega
                have hown := HJ3.out.em
                have hev : (⟨1 + z6, nm⟩ : Ag) = kAg ns k := by rw [HKA.out, r_z6.out]
                have HEV := Lib.hid hev
                clear hev
                go_wp2_with (at_builtin; refine wpList_append_own_at _ rfl _ _ 33 rfl V1.heap.size 92 iG (.agg #[.int .i64 0, .string ⟨#[]⟩]) 2 24 Tryz.underlying33 hiiG hziG0 hziG1 hziG2 rfl (by decide) _ _ _ rfl (hown.alloc _) ⟨W3.heap.size, 0, none⟩ 1 1 [.int .i64 (1 + z6), .string (strOf nm)] rfl rfl (new_cells _) (by simp [Value.oneCell']) (by unfold maxLen; omega) (by omega) (by rw [World.size_alloc]; omega) ?_; intro v' w9 hown' hgrow hnil hloc; obtain ⟨vA, vc, rfl⟩ := own_form hown'; have HLOC := Lib.hid hloc; clear hloc hnil; have hB9 := blk_app HJ3.out.blk hgrow HJ3.out.ny; have d11 := hB9.cell 11 _ rfl; have q11 := hB9.fr 11 _ rfl)
                have hq9 := HJ3.out.emit_ rfl (z := ⟨1 + z6, nm⟩) (o := .cells #[.int .i64 (1 + z6), .string (strOf nm)] 92) hown' hgrow HLOC.out
                go_roundg (m' + 1)
                case rel => exact ⟨m', i + 1, j + 1, _, _, _, _, _, _, _, _, rfl, by omega, by omega, by first | rfl | (congr 1; omega), by omega, by simp; omega, fun e => absurd e HNE.out, Lib.hid ⟨hq9, by rw [HST.out, if_neg h60, HEV.out]⟩⟩
                case measure => omega
            · have hi0 : ¬ 0 < (n4 : Int) := by omega
              have hne : ns = [] := List.eq_nil_of_length_eq_zero (by omega)
              have HX : Hid (QJ V1 wr (.slice xA xn xc) (.slice yA yn yc) hs es [.int .i64 tk, .int .i64 tmn, .int .i64 tmx, .int .i64 tkd, .bool tbd, .int .u64 tbn, (.slice sA sn sc), .string tnm, (.slice rA rn rc), .int .u64 wi] ∧ (hs, es) = (if ns.isEmpty = true then ([], []) else kTail l ns 3)) := Lib.hid ⟨hJ.out.1, by rw [hJ.out.2, hj0 hne, hne]; rfl⟩
              clear hne hJ hj0
              go_wp2_with fail
              go_meet
              case rel => exact ⟨_, _, _, _, _, _, _, _, HX⟩
          · have hi8 : ¬ (i : Int) < 8 := by omega
            have hj3 : j = 3 := by omega
            have HX : Hid (QJ V1 wr (.slice xA xn xc) (.slice yA yn yc) hs es [.int .i64 tk, .int .i64 tmn, .int .i64 tmx, .int .i64 tkd, .bool tbd, .int .u64 tbn, (.slice sA sn sc), .string tnm, (.slice rA rn rc), .int .u64 wi] ∧ (hs, es) = (if ns.isEmpty = true then ([], []) else kTail l ns 3)) := Lib.hid ⟨hJ.out.1, by
              rw [hJ.out.2, hj3, if_neg]
              intro h
              have := hj0 (List.isEmpty_iff.1 h)
              omega⟩
            clear hJ hj0 hj3
            go_wp2_with fail
            go_meet
            case rel => exact ⟨_, _, _, _, _, _, _, _, HX⟩
        · have hi : ¬ (i : Int) < (l.length : Int) := by omega
          have HX : Hid (QJ V1 wr (.slice xA xn xc) (.slice yA yn yc) hs es [.int .i64 tk, .int .i64 tmn, .int .i64 tmx, .int .i64 tkd, .bool tbd, .int .u64 tbn, (.slice sA sn sc), .string tnm, (.slice rA rn rc), .int .u64 wi] ∧ (hs, es) = (if ns.isEmpty = true then ([], []) else kTail l ns 3)) := Lib.hid ⟨hJ.out.1, by
            rw [hJ.out.2]
            split
            · rename_i h
              rw [hj0 (List.isEmpty_iff.1 h)]
              rfl
            · exact kTail_end l ns j (by omega) (by omega)⟩
          clear hJ hj0
          go_wp2_with fail
          go_meet
          case rel => exact ⟨_, _, _, _, _, _, _, _, HX⟩
    case rest =>
    obtain ⟨xA, xn, xc, yA, yn, yc, hs, es, HJ⟩ := hcut
    have hblk := HJ.out.1.blk
    have hR9 := HRV.out.later HJ.out.1.bel
    have hRlt : w.heap.size < V1.heap.size := HRV.out.lt
    have HF : Hid (∀ V, Only w.heap.size wc V → (∃ G : GQ, G.qu = kitQ l ∧ QW V G ∧ (Ending.returned (.agg #[.int .i64 tk, .int .i64 tmn, .int .i64 tmx, .int .i64 tkd, .bool tbd, .int .u64 tbn, (.slice sA sn sc), .string tnm, (.slice rA rn rc), .int .u64 wi, .slice xA xn xc, .slice yA yn yc]) = .returned (.agg G.row.toArray))) ∧ Below w.heap.size w V) := Lib.hid (fun V ho => by
      have hsm := kitQ_ok l
      have hG : (⟨T, wi, .slice xA xn xc, hs, .slice yA yn yc, es⟩ : GQ).qu = kitQ l := by
        show (⟨T.nd, wi, hs, es⟩ : Qu) = kitQ l
        have he := HJ.out.2
        rw [HT.out.2.2.2.2]
        unfold kitQ
        simp only
        rw [← HNS.out, ← he, HWI.out]
      have hok := kitQ_ok l
      rw [← hG] at hok
      have hbv : Below w.heap.size w wc := bstep hBV HJ.out.1.bel
      refine ⟨⟨⟨T, wi, .slice xA xn xc, hs, .slice yA yn yc, es⟩, hG, ⟨trW_le HT.out.2.2.1 ?_, by show 0 ≤ wi ∧ wi < _; omega, ?_, ?_, fun h hh => ⟨(hok.hv h hh).1, (hok.hv h hh).2.1⟩, fun a ha => (hok.em a ha).1⟩, ?_⟩, hbv.trans ho.below⟩
      · refine hide_out (by rw [ho.size]; exact HJ.out.1.bel.size) fun k hk hp => ?_
        simp only [decide_eq_false_iff_not] at hp
        exact (ho.block k (by have := HR.out.lt; omega)).trans (HJ.out.1.bel.block k hk)
      · exact Sl.of_own (ownsRow_only HJ.out.1.hv ho (fun k e => by have := (HJ.out.1.hv.lt k e).1; omega))
      · exact Sl.of_own (ownsRow_only HJ.out.1.em ho (fun k e => by have := (HJ.out.1.em.lt k e).1; omega))
      · show _ = Ending.returned (.agg (T.row ++ [Value.int .u64 wi, .slice xA xn xc, .slice yA yn yc]).toArray)
        rw [HT.out.2.2.2.1]
        rfl)
    have x0 := hblk.cell 0 _ rfl
    have x1 := hblk.cell 1 _ rfl
    have x2 := hblk.cell 2 _ rfl
    have x3 := hblk.cell 3 _ rfl
    have x4 := hblk.cell 4 _ rfl
    have x5 := hblk.cell 5 _ rfl
    have x6 := hblk.cell 6 _ rfl
    have x7 := hblk.cell 7 _ rfl
    have x8 := hblk.cell 8 _ rfl
    have x9 := hblk.cell 9 _ rfl
    have x10 := hblk.cell 10 _ rfl
    have x11 := hblk.cell 11 _ rfl
    have d0 := hR9.cell 0 _ rfl
    have gd0 := hR9.fr 0 _ rfl
    have d1 := hR9.cell 1 _ rfl
    have gd1 := hR9.fr 1 _ rfl
    have d2 := hR9.cell 2 _ rfl
    have gd2 := hR9.fr 2 _ rfl
    have d3 := hR9.cell 3 _ rfl
    have gd3 := hR9.fr 3 _ rfl
    have d4 := hR9.cell 4 _ rfl
    have gd4 := hR9.fr 4 _ rfl
    have d5 := hR9.cell 5 _ rfl
    have gd5 := hR9.fr 5 _ rfl
    have d6 := hR9.cell 6 _ rfl
    have gd6 := hR9.fr 6 _ rfl
    have d7 := hR9.cell 7 _ rfl
    have gd7 := hR9.fr 7 _ rfl
    have d8 := hR9.cell 8 _ rfl
    have gd8 := hR9.fr 8 _ rfl
    have d9 := hR9.cell 9 _ rfl
    have gd9 := hR9.fr 9 _ rfl
    have d10 := hR9.cell 10 _ rfl
    have gd10 := hR9.fr 10 _ rfl
    have d11 := hR9.cell 11 _ rfl
    have gd11 := hR9.fr 11 _ rfl
    have HR9 := Lib.hid hR9
    clear hblk hR9
    go_wp2
    refine named_post fun V hV => ?_
    obtain ⟨h1, h2⟩ : Blk V w.heap.size [.int .i64 tk, .int .i64 tmn, .int .i64 tmx, .int .i64 tkd, .bool tbd, .int .u64 tbn, (.slice sA sn sc), .string tnm, (.slice rA rn rc), .int .u64 wi, .slice xA xn xc, .slice yA yn yc] ∧ Only w.heap.size wc V := by
      have h3 := res_out HR9.out (us := [.int .i64 tk, .int .i64 tmn, .int .i64 tmx, .int .i64 tkd, .bool tbd, .int .u64 tbn, (.slice sA sn sc), .string tnm, (.slice rA rn rc), .int .u64 wi, .slice xA xn xc, .slice yA yn yc]) rfl rfl
      rcases (show V = (fillW wc w.heap.size 0 [.int .i64 tk, .int .i64 tmn, .int .i64 tmx, .int .i64 tkd, .bool tbd, .int .u64 tbn, (.slice sA sn sc), .string tnm, (.slice rA rn rc), .int .u64 wi, .slice xA xn xc, .slice yA yn yc]) ∨ V = (fillW wc w.heap.size 0 [.int .i64 tk, .int .i64 tmn, .int .i64 tmx, .int .i64 tkd, .bool tbd, .int .u64 tbn, (.slice sA sn sc), .string tnm, (.slice rA rn rc), .int .u64 wi, .slice xA xn xc, .slice yA yn yc]).drew by first | exact .inl hV | exact .inr hV) with rfl | rfl
      · exact h3
      · exact ⟨h3.1.drew, h3.2.drewN 1⟩
    clear hV x0 d0 gd0 x1 d1 gd1 x2 d2 gd2 x3 d3 gd3 x4 d4 gd4 x5 d5 gd5 x6 d6 gd6 x7 d7 gd7 x8 d8 gd8 x9 d9 gd9 x10 d10 gd10 x11 d11 gd11
    have c0 := h1.cell 0 _ rfl
    have c1 := h1.cell 1 _ rfl
    have c2 := h1.cell 2 _ rfl
    have c3 := h1.cell 3 _ rfl
    have c4 := h1.cell 4 _ rfl
    have c5 := h1.cell 5 _ rfl
    have c6 := h1.cell 6 _ rfl
    have c7 := h1.cell 7 _ rfl
    have c8 := h1.cell 8 _ rfl
    have c9 := h1.cell 9 _ rfl
    have c10 := h1.cell 10 _ rfl
    have c11 := h1.cell 11 _ rfl
    obtain ⟨⟨G, g1, g2, g3⟩, g4⟩ := HF.out V h2
    exact bodyPost_ret (v := .agg #[.int .i64 tk, .int .i64 tmn, .int .i64 tmx, .int .i64 tkd, .bool tbd, .int .u64 tbn, (.slice sA sn sc), .string tnm, (.slice rA rn rc), .int .u64 wi, .slice xA xn xc, .slice yA yn yc]) (by simp [results, Tryz.results28, go_sem, c0, c1, c2, c3, c4, c5, c6, c7, c8, c9, c10, c11]; try rfl) rfl ⟨G, g1, g2, g3, g4⟩
end Go.Proofs.YtdoioaeppepndaaGreatDoor
