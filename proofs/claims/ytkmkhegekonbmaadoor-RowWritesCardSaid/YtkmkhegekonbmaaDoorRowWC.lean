/- Walk: OwnRows of the kit. -/
import Derived.Test.YtkmkhegekonbmaaDoorRowHH
import Derived.Test.YtkmkhegekonbmaaDoorRowJJ
import Derived.Test.YtkmkhegekonbmaaDoorRowII
import Derived.Test.YtkmkhegekonbmaaDoorRowY
import Derived.Deep.RegionLaw
import Derived.Deep.LoopGhost
import Derived.Laws.AppendOwnNone
namespace Go.Proofs.YtkmkhegekonbmaaDoor
open Go.RowKit
open Rw6

/-- At a step of a drawn region: a slice, nil or not, appended to a row of the call's own. -/
theorem step_append_any {P : Program} {w : World} {ops : Array Oper} {o : Oper} {a : Act} {K : Act → World → Prop} {Q : Exit → Act → World → Prop} {E : Prop} (hgd : o.guard = none) (s x : Operand) (t : TypeId)
    (ho : o.op = .call { callee := .builtin .append, args := #[s, x], argTypes := #[t, t] })
    (base : Nat) (e : TypeId) (i : TypeInfo) (z : Value) (size bytes : Nat) (ht : P.underlying t = some (.slice e)) (hi : P.info? e = some i) (hz : i.zero = some z)
    (hsize : i.size = size) (hby : i.bytes = bytes) (hzs : z.cells.size = size) (hsz : 0 < size)
    (v : Value) (n : Nat) (xs : List Value) (hs : a.eval s = v) (hown : w.ownsRow base e size v n xs)
    (X : Value) (m : Nat) (news : List Value) (hx : a.eval x = X) (hX : Sl w size m X news) (h1 : ∀ u ∈ news, u.oneCell' = true)
    (h63 : n + m ≤ maxLen) (hbytes : (n + m) * bytes ≤ 140737488355328) (hbase : base ≤ w.heap.size) (N : Nat) (us : List Value) (hN : n + m = N) (hus : xs ++ news = us)
    (h : ∀ A c w', w'.ownsRow base e size (.slice A N c) N us → w.grownBy w' v.ownBlock → K (a.put o.dst (.slice A N c)) w') :
    if Region.wanted o (yielded ops a.tmps) = true then Oper.wp P o a w K Q else E := by
  have hw : Region.wanted o (yielded ops a.tmps) = true := by simp [Region.wanted, hgd]
  rw [if_pos hw]
  subst hN
  subst hus
  obtain ⟨hl, _, A, cap, rfl, hc, hn, hcell⟩ := hX
  cases A with
  | none =>
    obtain rfl : cap = 0 := hn rfl
    obtain rfl : m = 0 := by omega
    obtain rfl : news = [] := List.eq_nil_of_length_eq_zero (by omega)
    obtain ⟨A', c', rfl⟩ := own_form hown
    have hrun := run_append_owned_none (P := P) (w := w) base t o.type e i size ht hi _ n xs hown
    have hk := h A' c' w (by rw [List.append_nil]; exact hown) ⟨rfl, rfl, rfl, Nat.le_refl _, fun _ _ _ => rfl⟩
    unfold Oper.wp
    simp [execOp, ho, resolve, invoke, builtin, hs, hx, hrun, Result.andThen]
    exact hk
  | some ad =>
    refine wp_append_own w s x t ho base e i z size bytes ht hi hz hsize hby hzs hsz v n xs hs hown ad m cap news hx hl (fun j u hu => ?_) h1 h63 hbytes hbase ?_
    · obtain ⟨a', ha, _, hc'⟩ := hcell j u hu
      cases ha
      exact hc'
    · intro v' w' ho' hg _
      obtain ⟨A', c', rfl⟩ := own_form ho'
      exact h A' c' w' ho' hg
/-- The slice v holds these k rows, in memory of the call's own. -/
structure RowI (W : World) (base k : Nat) (rs : List (Int × List Wd)) (v : Value) (vs : List Value) : Prop where
  cnt : rs.length = k
  len : vs.length = k
  row : W.ownsRow base 43 2 v k (rcells ((rs.map (·.1)).zip vs))
  wds : ∀ (i : Nat) (u : Value) (r : Int × List Wd), vs[i]? = some u → rs[i]? = some r → W.ownsRow base 31 3 u r.2.length (wcells r.2)
theorem RowI.nil (W : World) (base : Nat) : RowI W base 0 [] (.slice none 0 0) [] := ⟨rfl, rfl, World.ownsRow_nil _ _ _ _, fun i u r h => by simp at h⟩
theorem RowI.later {W W' : World} {base k : Nat} {rs : List (Int × List Wd)} {v : Value} {vs : List Value} (h : RowI W base k rs v vs) (hb : Below W.heap.size W W') : RowI W' base k rs v vs :=
  have hg : W.grownBy W' none := ⟨hb.os, hb.tape, hb.output, hb.size, fun j hj _ => hb.block j hj⟩
  ⟨h.cnt, h.len, own_far h.row hg fun j e => (by cases e), fun i u r hu hr => own_far (h.wds i u r hu hr) hg fun j e => by cases e⟩
theorem RowI.rsl {W : World} {base k : Nat} {rs : List (Int × List Wd)} {v : Value} {vs : List Value} (h : RowI W base k rs v vs) : RSl W v rs := by
  obtain ⟨hc, hl, hr, hw⟩ := h
  subst hc
  exact ⟨vs, hl, Sl.of_own hr, fun i u r hu hr => Sl.of_own (hw i u r hu hr)⟩
theorem RowI.snoc {W W1 : World} {base k : Nat} {a : Int} {ws : List Wd} {rs : List (Int × List Wd)} {v u v1 : Value} {vs : List Value} (h : RowI W base k rs v vs)
    (hu : W.ownsRow base 31 3 u ws.length (wcells ws))
    (h1 : W1.ownsRow base 43 2 v1 (k + 1) (rcells ((rs.map (·.1)).zip vs) ++ rcell (a, u))) (hg : W.grownBy W1 v.ownBlock) : RowI W1 base (k + 1) (rs ++ [(a, ws)]) v1 (vs ++ [u]) := by
  have keep : ∀ {u : Value} {n : Nat} {xs : List Value}, W.ownsRow base 31 3 u n xs → W1.ownsRow base 31 3 u n xs := fun g => g.kept hg (own_block_ne g h.row (by decide))
  refine ⟨by rw [List.length_append, h.cnt]; rfl, by rw [List.length_append, h.len]; rfl, ?_, fun i x r hx hr => ?_⟩
  · rw [List.map_append, List.map_cons, List.map_nil, zip_snoc _ _ _ _ (by rw [List.length_map, h.len, h.cnt]), rcells_snoc]
    exact h1
  · rw [List.getElem?_append] at hx hr
    rw [h.len] at hx
    rw [h.cnt] at hr
    by_cases hi : i < k
    · rw [if_pos hi] at hx hr
      exact keep (h.wds i x r hx hr)
    · rw [if_neg hi] at hx hr
      have hi0 : i - k = 0 := by
        have := (List.getElem?_eq_some_iff.1 hr).1
        simp at this
        omega
      rw [hi0] at hx hr
      cases hx
      cases hr
      exact keep hu
theorem wcells_one (ws : List Wd) : ∀ u ∈ wcells ws, u.oneCell' = true := by
  intro u hu
  unfold wcells at hu
  obtain ⟨x, _, hu⟩ := List.mem_flatMap.1 hu
  unfold wcell at hu
  simp only [List.mem_cons, List.not_mem_nil, or_false] at hu
  rcases hu with rfl | rfl | rfl <;> rfl
theorem own_noWords (w : World) (b : Nat) (hb : b = w.heap.size) : (w.alloc (.cells #[] 31)).ownsRow b 31 3 (.slice (some ⟨b, 0, none⟩) 0 0) 0 [] := hb ▸
  World.ownsRow_lit (base := w.heap.size) (e := 31) (size := 3) w #[] 0 (Nat.le_refl _) (by unfold maxLen; omega) (by simp)
theorem sl_one (w : World) (b : Nat) (hb : b = w.heap.size) (a : Int) (u : Value) : Sl (w.alloc (.cells #[.int .i64 a, u] 43)) 2 1 (.slice (some ⟨b, 0, none⟩) 1 1) (rcell (a, u)) := hb ▸
  Sl.of_own (World.ownsRow_lit (base := w.heap.size) (e := 43) (size := 2) w #[.int .i64 a, u] 1 (Nat.le_refl _) (by unfold maxLen; omega) (by simp))
set_option maxRecDepth 100000 in
set_option maxHeartbeats 8000000 in
theorem ownRows_any (v : Value) (rs : List (Int × List Wd)) (w : World) (hv : RSl w v rs) (hn : rs.length ≤ 1000) (hl : ∀ r ∈ rs, r.2.length ≤ 1000) :
    Calls Tryd.prog 11 #[v] w fun e w' => Below w.heap.size w w' ∧ ∃ A c, e = .returned (.slice A rs.length c) ∧ RSl w' (.slice A rs.length c) rs := by
  obtain ⟨A, cap, rfl, hcap, hmax, _, hc⟩ := hv.at_
  have HC := Lib.hid hc
  have HL := Lib.hid hl
  obtain ⟨i0, hi, hz0, hz1, hz2⟩ := info_parts infoRow6
  obtain ⟨j0, hj, hy0, hy1, hy2⟩ := info_parts infoWord6
  clear hc hv hl
  go_enter Tryd.func11, Tryd.ntmps11
  go_wp2
  go_loopg [3, 4] rs.length (fun g ov i wr => ∃ (k : Nat) (vs : List Value), k ≤ rs.length ∧ g = rs.length - k ∧ i = .int .i64 (k : Int) ∧ Hid (RowI wr w.heap.size k (rs.take k) ov vs) ∧ Below w.heap.size w wr)
  case atStart => exact ⟨0, [], Nat.zero_le _, rfl, rfl, Lib.hid (RowI.nil _ _), Below.refl _ _⟩
  case round =>
    obtain ⟨k, vs, hk, hg, rfl, hR, hB⟩ := hrel
    obtain ⟨A', c', rfl⟩ := own_form hR.out.row
    by_cases hlt : k < rs.length
    · obtain ⟨a, u, rfl, hab, c0, c1, hu⟩ := HC.out k hlt
      have hu1 := hu.later hB
      have d0 := (hB.cell (p := a.add (k * 2)) (by rw [add_block]; omega)).trans c0
      have d1 := (hB.cell (p := a.add (k * 2 + 1)) (by rw [add_block]; omega)).trans c1
      rw [← add_at _ _ _ (by decide)] at d1
      have hi' : (k : Int) < (rs.length : Int) := by omega
      have hsn := take_snoc rs k hlt
      have hlw := HL.out rs[k] (List.getElem_mem hlt)
      obtain ⟨r, hr⟩ : ∃ r, r = rs[k] := ⟨_, rfl⟩
      rw [← hr] at d0 hu1 hsn hlw
      obtain ⟨at_, ws⟩ := r
      simp only at d0 hu1 hlw
      have hab' : (a.add (k * 2)).block < wr.heap.size := by rw [add_block]; exact Nat.lt_of_lt_of_le hab hB.size
      obtain ⟨A2, cap2, rfl, _⟩ := hu1.at_
      have HU := Lib.hid hu1
      have HSN := Lib.hid hsn
      clear c0 c1 hu hr hu1 hsn
      go_wp2
      go_region_law (first
        | (refine step_append_any rfl _ _ 41 rfl wr.heap.size 31 j0 (.agg #[.bool false, .string ⟨#[]⟩, .int .i64 0]) 3 32 Tryd.underlying41 hj hy0 hy1 hy2 rfl (by decide) (.slice (some ⟨wr.heap.size, 0, none⟩) 0 0) 0 [] rfl (own_noWords wr.drew wr.heap.size (by simp)) (.slice A2 ws.length cap2) ws.length (wcells ws) rfl (HU.out.later (((Below.refl _ _).drew).alloc (by simp) _)) (wcells_one ws) (by unfold maxLen; omega) (by omega) (by simp) ws.length (wcells ws) (by omega) rfl ?_; intro A1 c1 w1 ho1 hg1; have HO1 := Lib.hid ho1; have hb1 := (((Below.refl wr.heap.size wr).drew).alloc (by simp) (.cells #[] 31)).grown hg1 (by simp) (fun j e => by cases e; exact Nat.le_refl _); have HB1 := Lib.hid hb1; have e0 := (hb1.cell (p := a.add (k * 2)) hab').trans d0; have e1 := (hb1.cell (p := ⟨(a.add (k * 2)).block, (a.add (k * 2)).off + 1, none⟩) hab').trans d1; have hab2 := Nat.lt_of_lt_of_le hab' hb1.size; clear ho1 hg1 hb1)
        | (go_loud (refine step_append_any rfl _ _ 22 rfl w.heap.size 43 i0 (.agg #[.int .i64 0, .slice none 0 0]) 2 32 Tryd.underlying22 hi hz0 hz1 hz2 rfl (by decide) (.slice A' k c') k _ rfl ((hR.out.later HB1.out).row.alloc _) (.slice (some ⟨w1.heap.size, 0, none⟩) 1 1) 1 (rcell (at_, .slice A1 ws.length c1)) rfl (sl_one w1 w1.heap.size rfl at_ (.slice A1 ws.length c1)) (by simp [rcell, Value.oneCell']) (by unfold maxLen; omega) (by omega) (by have := hB.size; have := HB1.out.size; simp; omega) (k + 1) _ rfl rfl ?_; intro A3 c3 w3 ho3 hg3; have HS := Lib.hid (((hR.out.later HB1.out).later (below1 w1 (.cells #[.int .i64 at_, .slice A1 ws.length c1] 43))).snoc (a := at_) (ws := ws) ((own_mono HO1.out hB.size).alloc _) ho3 hg3); have HB3 := Lib.hid ((((hB.trans (HB1.out.mono hB.size)).alloc (Nat.le_trans hB.size HB1.out.size) (.cells #[.int .i64 at_, .slice A1 ws.length c1] 43))).grown hg3 (by have := hB.size; have := HB1.out.size; simp; omega) (fun j e => (hR.out.row.lt j e).1)); clear ho3 hg3)))
      all_goals
        go_wp2
        go_roundg (rs.length - (k + 1))
        case measure => omega
        case rel => exact ⟨k + 1, _, by omega, rfl, by go_num, Lib.hid (by rw [HSN.out]; exact HS.out), HB3.out⟩
    · obtain rfl : k = rs.length := by omega
      have hi' : ¬ (rs.length : Int) < (rs.length : Int) := by omega
      have hR1 := hR.out.rsl
      rw [List.take_length] at hR1
      clear hR
      go_wp2
      go_ret
      exact ⟨hB, _, _, rfl, hR1⟩
end Go.Proofs.YtkmkhegekonbmaaDoor
