/- The program's list of a family's labels with the fewest categories first. -/
import Derived.Test.YtdhbadngbhdanaaDoorLatCn
import Derived.Test.YtdhbadngbhdanaaDoorLatE
import Derived.Test.YtdhbadngbhdanaaDoorLatG
import Derived.Lib.SliceRun
namespace Go.Proofs.YtdhbadngbhdanaaDoor.Lt
open Go.RowKit Go.Sort Go.Shelf

theorem tab_below {g n₀ : Nat} {tab : List Nat} {w w' : World} (h : TabAt g tab w) (hb : RowKit.Below n₀ w w') (hg : g < n₀) : TabAt g tab w' :=
  fun j hj => (hb.cell (p := ⟨g, j, none⟩) hg).trans (h j hj)
theorem sw_grown {w : World} {b o n : Nat} {d : Array Lab} {os : Array Obj} : w.grownBy (sortWorld encL w b o n d os) (some b) := by
  unfold sortWorld
  refine ⟨rfl, rfl, rfl, by simp, fun k hk hne => ?_⟩
  have hb : b ≠ k := fun e => hne (by rw [e])
  rw [heap_grow_old _ _ (by simpa using hk)]
  simp [putRow, mapBlock, Sort.ahead, Array.getElem?_modify, hb]
theorem sw_cell {w : World} {b o n : Nat} {d d' : Array Lab} {os : Array Obj} (hH : Holds encL w b o d) (hs : d'.size = d.size) (hb : b < w.heap.size) (i : Nat) (hi : i < d'.size) :
    (sortWorld encL w b o n d' os).cell? ⟨b, o + i, none⟩ = some (encL d'[i]!) := by
  unfold sortWorld
  rw [cell?_grow _ _ _ (by simpa using hb)]
  exact cell?_putRow _ _ _ _ d d' (holds_ahead _ w n b o _ hH) hs i hi
theorem labs : ∀ l : List Nat, U64 l → ∃ ds : List Lab, ds.map (fun x => x.1) = l := by
  intro l
  induction l with
  | nil => intro _; exact ⟨[], rfl⟩
  | cons x l ih =>
    intro h
    obtain ⟨ds, hd⟩ := ih (fun y hy => h y (by simp [hy]))
    exact ⟨⟨x, h x (by simp)⟩ :: ds, by rw [List.map_cons, hd]⟩
theorem holds_labs {w : World} {g : Nat} {cur : Array Value} {e : TypeId} {ds : List Lab} (hb : w.heap[g]? = some (.cells cur e (0, 0))) (ht : cur.toList.take ds.length = ds.map encL) : Holds encL w g 0 ds.toArray := by
  intro j hj
  have hj' : j < ds.length := by simpa using hj
  have h1 : (cur.toList.take ds.length)[j]? = (ds.map encL)[j]? := by rw [ht]
  rw [List.getElem?_take_of_lt hj', Array.getElem?_toList] at h1
  constructor
  · unfold World.cell?
    rw [hb]
    simp [h1, hj']
  · simp [World.frozen?, hb]
theorem lv_labs (ds : List Lab) : lv (ds.map fun x => x.1) = ds.map encL := by simp [lv, encL]

/-- A slice of the call's own that holds these labels. -/
def OutOwn (w : World) (l : List Nat) (e : Ending) (w' : World) : Prop := ∃ v, e = .returned v ∧ w'.ownsRow w.heap.size 23 1 v l.length (lv l) ∧ RowKit.Below w.heap.size w w'
set_option maxRecDepth 100000 in
theorem clone_any (v : Value) (l : List Nat) (w : World) (h : Slc w v (lv l)) (hb : l.length * 8 ≤ 140737488355328) :
    Calls Tryd.prog 38 #[v] w fun e w' => OutOwn w l e w' := by
  obtain ⟨i0, hi, hz0, hz1, hz2⟩ := info_parts infoU64
  have hq : ∀ (w : World) (a : Option Addr) (n c : Nat), (binOp .eql 22 (.slice a n c) (.slice none 0 0)).run Tryd.prog w = .ok (.bool a.isNone) w := fun w a n c => Lib.run_eql_slice_nil w _ _ a n c 0 0 Tryd.underlying22
  rcases h.split with ⟨rfl, hl⟩ | ⟨a, cap, rfl, hl, hc⟩
  · have h0 : l = [] := List.map_eq_nil_iff.1 hl
    subst h0
    clear hl h
    go_enter Tryd.func38, Tryd.ntmps38
    go_wp2
    go_ret
    exact ⟨_, rfl, World.ownsRow_nil _ _ _ _, Below.refl _ _⟩
  · have hown : Own1 w.heap.size 23 w [] (.slice (some ⟨w.heap.size, 0, none⟩) 0 0) (w.alloc (.cells #[] 23)) := Own1.made _ _ _ (by decide) rfl
    have hc' : ∀ (i : Nat) (u : Value), (lv l)[i]? = some u → (w.alloc (.cells #[] 23)).cell? (a.add i) = some u := fun i u hu => by
      obtain ⟨h1, h2⟩ := hc i u hu
      exact ((Below.refl w.heap.size w).alloc (Nat.le_refl _) (.cells #[] 23)).cell (p := a.add i) (by rw [add_block]; exact h1) |>.trans h2
    clear hc h
    go_enter Tryd.func38, Tryd.ntmps38
    go_wp2_with (at_builtin; refine wpList_append_own _ rfl _ _ 22 rfl w.heap.size 23 i0 (.int .u64 0) 1 8 Tryd.underlying22 hi hz0 hz1 hz2 rfl (by decide) _ _ _ rfl hown.1 a (lv l).length cap (lv l) rfl (by simp) hc' (by simp [lv, Value.oneCell']) (by simpa using hl) (by rw [lv_length]; simp only [List.length_nil]; omega) (by have := hown.2.2; omega) ?_; intro v' w1 hown' hgrow hnil; clear hnil)
    go_ret
    exact ⟨v', rfl, by simpa [lv_length] using hown', (hown.2.1.grown hgrow hown.2.2 (fun k hk => (hown.1.lt k hk).1))⟩

/-- The labels again, in an order in which the number of categories does not go down. -/
def OutBy (w : World) (l : List Nat) (e : Ending) (w' : World) : Prop := ∃ v r, e = .returned v ∧ Slc w' v (lv r) ∧ Cap v ∧ r.Perm l ∧ r.Pairwise (fun a b => pc a ≤ pc b) ∧ RowKit.Below w.heap.size w w'
theorem byList {d d' : Array Lab} (hp : PermIn 0 d.size d d') (hs : SortedIn (ltOf cfL) 0 d.size d') : (d'.toList.map fun x => x.1).Perm (d.toList.map fun x => x.1) ∧ (d'.toList.map fun x => x.1).Pairwise (fun a b => pc a ≤ pc b) := by
  have hz : ∀ e : Array Lab, (e.extract 0 e.size).toList = e.toList := fun e => by simp
  constructor
  · have h := hp.2.2
    rw [hz, ← hp.1, hz] at h
    exact h.map _
  · rw [List.pairwise_map, List.pairwise_iff_getElem]
    intro i j hi hj hij
    have hi' : i < d'.size := by simpa using hi
    have hj' : j < d'.size := by simpa using hj
    have h := hs i j (Nat.zero_le _) hij (by rw [← hp.1]; exact hj')
    rw [getElem!_pos d' i hi', getElem!_pos d' j hj', ltOfL] at h
    simp at h
    simpa using h
set_option maxHeartbeats 1000000 in
theorem byCount_any (v : Value) (l : List Nat) (w : World) (h : Slc w v (lv l)) (hu : U64 l) (hl64 : l.length ≤ 64) (hg : 0 < w.heap.size) (hT : TabAt 0 Lib.deBruijn64tab w) :
    Calls Tryd.prog 32 #[v] w fun e w' => OutBy w l e w' := by
  have hC := clone_any v l w h (by omega)
  obtain ⟨A, cap, rfl, hm, hcc⟩ := nats h
  clear h hcc
  go_enter Tryd.func32, Tryd.ntmps32
  go_wp2_with fail
  refine hC.mono ?_
  rintro e w1 ⟨v1, rfl, hr, hb⟩
  rcases hr.2 with ⟨rfl, hz⟩ | ⟨g, cap1, cur, rfl, hbase, hgb, r1, r2, r3, r4⟩
  · have h0 : l = [] := List.eq_nil_of_length_eq_zero hz
    subst h0
    have hS := fun W => AnyF.slices_SortFunc_none (P := Tryd.prog) (ρ := Tryd.sortL_ren) { Tryd.sortL with } none 0 (.func (.func 40) #[] #[]) W
    change ∀ W, Calls Tryd.prog 39 _ _ _ at hS
    clear hr hC hT
    go_wp2_with (go_at_call 39; refine (hS _).mono ?_; rintro e w' ⟨rfl, rfl⟩)
    go_ret
    exact ⟨_, [], rfl, Slc.nil _, ⟨_, _, _, rfl, Nat.le_refl _⟩, List.Perm.refl _, List.Pairwise.nil, hb⟩
  · obtain ⟨ds, hds⟩ := labs l hu
    have hdl : ds.length = l.length := by rw [← hds, List.length_map]
    have hsz : ds.toArray.size = l.length := by simpa using hdl
    have hH : Holds encL w1 g 0 ds.toArray := holds_labs hgb (by rw [hdl, ← lv_labs, hds]; simpa using r4)
    have hgl : g < w1.heap.size := (Array.getElem?_eq_some_iff.1 hgb).1
    have eg : ∀ args w, (callFunc 40 args).run Tryd.prog w = .ok (.enter 40 args) w := enters_of Tryd.func40 (by kernel_rfl) rfl
    have hcm : CmpLays1 Tryd.prog 40 #[] encL cfL g 0 ds.toArray.size w1 := fun m os dk _ x y => by
      have hTT := tab_below hT (hb.grown (sw_grown (b := g) (o := 0) (n := m) (d := dk) (os := os)) hb.size (fun k e => by cases e; exact hbase)) hg
      exact (byCount1_any x y _ hTT).mono fun e w' ⟨h1, h2⟩ => ⟨h1, 0, #[], by rw [h2, grow_empty]; rfl⟩
    have hS := Any.slices_SortFunc Tryd.sortL encL (fun _ => rfl) cfL swoL 40 #[] g 0 cap1 ds.toArray w1 eg hcm hH hgl (by rw [hsz]; omega)
    change Calls Tryd.prog 39 _ _ _ at hS
    rw [hsz] at hS
    have HH := Lib.hid hH
    have HD := Lib.hid hdl
    have HDS := Lib.hid hds
    have HSZ := Lib.hid hsz
    have HLE := Lib.hid (show l.length ≤ maxLen from Nat.le_trans r1 r2)
    have HR1 := Lib.hid r1
    clear hr hC hT hH hcm r1 r2 r3 r4 hgb hdl hds hsz eg
    go_wp2_with (go_at_call 39; refine hS.mono ?_; rintro e w' ⟨rfl, d', n, os, hp, hs, rfl⟩)
    go_ret
    rw [← HSZ.out] at hp hs
    obtain ⟨h1, h2⟩ := byList hp hs
    have h3 : (d'.toList.map fun x => x.1).length = l.length := by rw [List.length_map, Array.length_toList, hp.1, HSZ.out]
    refine ⟨_, d'.toList.map fun x => x.1, rfl, ?_, ⟨_, _, _, rfl, HR1.out⟩, ?_, h2, hb.grown sw_grown hb.size (fun k e => by cases e; exact hbase)⟩
    · refine ⟨some ⟨g, 0, none⟩, cap1, by rw [lv_length, h3]; rfl, by rw [lv_length, h3]; exact HLE.out, fun h => (by cases h), fun i hi => ⟨⟨g, 0, none⟩, rfl, ?_, ?_⟩⟩
      · have := (sw_grown (w := w1) (b := g) (o := 0) (n := n) (d := d') (os := os)).size
        show g < (sortWorld encL w1 g 0 n d' os).heap.size
        omega
      · rw [lv_length, List.length_map, Array.length_toList] at hi
        rw [plain_add, sw_cell HH.out hp.1 hgl i hi, getElem!_pos d' i hi]
        simp [encL, lv]
    · have e : ds.toArray.toList.map (fun x => x.1) = l := by simpa using HDS.out
      rw [e] at h1
      exact h1
end Go.Proofs.YtdhbadngbhdanaaDoor.Lt
