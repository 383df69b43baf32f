/- slices.Sorted at []uint64, and the program's list of a set's labels, given that rows of up to K are sorted. -/
import Derived.Test.YtlembnpplnbagaaLatP
import Derived.Test.YtlembnpplnbagaaLatG
namespace Go.Proofs.Ytlembnpplnbagaa.Lt
open Go.RowKit Go.Sort

theorem Rg.grownBy {w w' : World} {b o : Nat} {d : Array Int} (h : Rg w b o d w') : w.grownBy w' (some b) := by
  obtain ⟨n, os, rfl⟩ := h
  refine ⟨rfl, rfl, rfl, by simp, fun k hk hne => ?_⟩
  have hb : b ≠ k := fun e => hne (by rw [e])
  rw [heap_grow_old _ _ (by simpa using hk)]
  simp [putRow, mapBlock, Sort.ahead, Array.getElem?_modify, hb]
theorem Rg.cell {w w' : World} {b o : Nat} {d d' : Array Int} (h : Rg w b o d' w') (hH : Holds (Value.int .u64) w b o d) (hs : d'.size = d.size) (hb : b < w.heap.size) (i : Nat) (hi : i < d'.size) :
    w'.cell? ⟨b, o + i, none⟩ = some (.int .u64 d'[i]!) := by
  obtain ⟨n, os, rfl⟩ := h
  rw [cell?_grow _ _ _ (by simpa using hb)]
  exact cell?_putRow _ _ _ _ d d' (holds_ahead _ w n b o _ hH) hs i hi

/-- The labels as the sort's array. -/
def arr (l : List Nat) : Array Int := (l.map fun (x : Nat) => (x : Int)).toArray
theorem arr_size (l : List Nat) : (arr l).size = l.length := by simp [arr]
theorem arr_list (l : List Nat) : (arr l).toList = l.map fun (x : Nat) => (x : Int) := by simp [arr]
theorem holds_arr {w : World} {g : Nat} {cur : Array Value} {e : TypeId} {l : List Nat} (hb : w.heap[g]? = some (.cells cur e (0, 0))) (ht : cur.toList.take l.length = lv l) : Holds (Value.int .u64) w g 0 (arr l) := by
  intro j hj
  rw [arr_size] at hj
  have h1 : (cur.toList.take l.length)[j]? = (lv l)[j]? := by rw [ht]
  rw [List.getElem?_take_of_lt hj, Array.getElem?_toList] at h1
  constructor
  · unfold World.cell?
    rw [hb]
    simp [h1, lv, arr, hj]
  · simp [World.frozen?, hb]
theorem extract_all (d : Array Int) : (d.extract 0 d.size).toList = d.toList := by simp
theorem sorted_is {d d' : Array Int} {s : List Nat} (hp : PermIn 0 d.size d d') (hs : SortedIn ltInt 0 d.size d') (hd : d.toList.Perm (s.map fun (x : Nat) => (x : Int))) (ha : Asc s) : d' = arr s := by
  have h1 : d'.toList.Perm (s.map fun (x : Nat) => (x : Int)) := by
    have h := hp.2.2
    rw [extract_all, ← hp.1, extract_all] at h
    exact h.trans hd
  have h2 : d'.toList.Pairwise (· ≤ ·) := by
    rw [List.pairwise_iff_getElem]
    intro i j hi hj hij
    have hi' : i < d'.size := by simpa using hi
    have hj' : j < d'.size := by simpa using hj
    have h := hs i j (Nat.zero_le _) hij (by rw [← hp.1]; exact hj')
    rw [getElem!_pos d' i hi', getElem!_pos d' j hj'] at h
    simp [ltInt] at h
    simpa using h
  have h3 : (s.map fun (x : Nat) => (x : Int)).Pairwise (· ≤ ·) := List.pairwise_map.2 (ha.imp (fun h => by omega))
  have h4 := List.Perm.eq_of_pairwise (le := fun a b : Int => a ≤ b) (fun a b _ _ h1 h2 => Int.le_antisymm h1 h2) h2 h3 h1
  rw [← Array.toList_inj, h4, arr_list]

set_option maxHeartbeats 1000000 in
theorem sorted_any {K : Nat} (hS : Sorts K) (gf : Nat) (lb : Array Value) (eg : ∀ args w, (callFunc gf args).run Try.prog w = .ok (.enter gf args) w) (s : List Nat) (Sp : List Nat → Prop) (w : World) (ha : Asc s) (hK : s.length ≤ K) (hlen : s.length ≤ 100000)
    (hseq : SeqStopsK Fence.wide 2 Try.prog gf lb (fun x : Nat => #[.int .u64 (x : Int)]) KeepsWalks (fun xs => xs.Perm s) Sp s.length w) :
    Calls Try.prog 32 #[.func (.func gf) #[] lb] w fun e w' => OutSlc w (lv s) e w' := by
  go_enter Try.func32, Try.ntmps32
  go_wp2_with fail
  refine (collectU_any gf lb eg s Sp _ hlen hseq).mono ?_
  rintro e w1 ⟨v, ys, rfl, hp, hr, hb⟩
  have hl := hp.length_eq
  rcases hr.2 with ⟨rfl, hz⟩ | ⟨g, cap, cur, rfl, hbase, hg, r1, r2, r3, r4⟩
  · have hs : s = [] := List.eq_nil_of_length_eq_zero (by omega)
    subst hs
    clear hr hl hp
    go_wp2_with (go_at_call 35; refine (sort_none 0 none _).mono ?_; rintro e w' ⟨rfl, rfl⟩)
    go_ret
    exact ⟨_, rfl, Slc.nil _, hb⟩
  · have hH : Holds (Value.int .u64) w1 g 0 (arr ys) := holds_arr hg (by simpa using r4)
    have hgl : g < w1.heap.size := (Array.getElem?_eq_some_iff.1 hg).1
    have hSo := hS g 0 cap (arr ys) w1 hH hgl (by rw [arr_size, hl]; exact hK)
    rw [arr_size] at hSo
    have HH := Lib.hid hH
    have hle : ys.length ≤ maxLen := Nat.le_trans r1 r2
    clear hr r4 r3 r2 r1 hH hg
    have HLE := Lib.hid hle
    have HL := Lib.hid hl
    have HP := Lib.hid hp
    clear hle hl hp hK hlen
    go_wp2_with (go_at_call 35; refine hSo.mono ?_; rintro e w' ⟨rfl, d', hd1, hd2, hd3⟩)
    go_ret
    have hds : d' = arr s := sorted_is (d := arr ys) (by rw [arr_size]; exact hd1) (by rw [arr_size]; exact hd2) (by rw [arr_list]; exact HP.out.map _) ha
    subst hds
    refine ⟨_, rfl, ⟨some ⟨g, 0, none⟩, cap, by rw [lv_length, ← HL.out]; rfl, by rw [lv_length, ← HL.out]; exact HLE.out, fun h => (by cases h), fun i hi => ⟨⟨g, 0, none⟩, rfl, ?_, ?_⟩⟩, hb.grown hd3.grownBy hb.size (fun k e => by cases e; exact hbase)⟩
    · have := hd3.grownBy.size
      show g < w'.heap.size
      omega
    · rw [lv_length] at hi
      have hc := hd3.cell HH.out (by rw [arr_size, arr_size, HL.out]) hgl i (by rw [arr_size]; exact hi)
      rw [plain_add]
      rw [hc, getElem!_pos _ i (by rw [arr_size]; exact hi)]
      simp [arr, lv]

theorem ascending_any {K : Nat} (hS : Sorts K) (b : Nat) (s : List Nat) (w : World) (hs : SetAt w b s) (ha : Asc s) (hK : s.length ≤ K) (hlen : s.length ≤ 100000) :
    Calls Try.prog 27 #[.map (some b)] w fun e w' => OutSlc w (lv s) e w' := by
  have hb0 : Below w.heap.size w (w.alloc (.cells #[.map (some b)] 44)) := (Below.refl _ w).alloc (Nat.le_refl _) _
  have hq := keys_seq 2 (by decide) w.heap.size b s ha (w.alloc (.cells #[.map (some b)] 44)) (by simp) (box_fresh _ _ _) (hs.later hb0 hs.lt)
  have HQ := Lib.hid hq
  clear hq
  go_enter Try.func27, Try.ntmps27
  go_wp2_with (go_at_call 33; refine (keys_any _ _).mono ?_; rintro e w' ⟨rfl, rfl⟩)
  refine (sorted_any hS _ _ (enters_of Try.func36 (by kernel_rfl) rfl) s _ _ ha hK hlen HQ.out).mono ?_
  rintro e w1 ⟨v, rfl, h1, h2⟩
  go_wp2
  go_ret
  exact ⟨v, rfl, h1, hb0.trans (h2.mono (by simp))⟩
end Go.Proofs.Ytlembnpplnbagaa.Lt
