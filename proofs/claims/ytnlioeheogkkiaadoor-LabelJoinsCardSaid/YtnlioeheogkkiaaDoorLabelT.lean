/- Walk: LabelJoins. -/
import Derived.Test.YtnlioeheogkkiaaDoorLabelS
import Derived.Deep.RegionHeld3
namespace Go.Proofs.YtnlioeheogkkiaaDoor
open Go.RowKit
open Lb
theorem infoU64 : (Tryd.prog.info? 22).map (fun i => (i.zero, i.size, i.bytes)) = some (some (.int .u64 0), 1, 8) := by kernel_rfl

theorem u64_of_wf {x : Int} (h : (Lit.int .u64 x).wf = true) : ∃ n : Nat, x = (n : Int) ∧ n < 18446744073709551616 := by
  obtain ⟨h0, h1⟩ := bounds_u64 h
  obtain ⟨n, rfl⟩ := Int.eq_ofNat_of_zero_le h0
  exact ⟨n, rfl, by omega⟩

theorem cell_lt' {w : World} {a : Addr} {v : Value} (h : w.cell? a = some v) : a.block < w.heap.size := World.block_lt_of_cell? w _ h
/-- What region 11 holds fast: the two cells, the tables, what lay. -/
theorem keep4 {w wx w' : World} {p q : Addr} {x : Value} (h1 : wx.cell? p = some x) (h2 : wx.cell? q = some x) (h3 : Tabs wx) (h4 : Below w.heap.size w wx) (hb : Below wx.heap.size wx w') :
    w'.cell? p = some x ∧ w'.cell? q = some x ∧ Tabs w' ∧ Below w.heap.size w w' :=
  ⟨(hb.cell (p := p) (cell_lt' h1)).trans h1, (hb.cell (p := q) (cell_lt' h2)).trans h2, h3.below hb, below_step h4 hb⟩
theorem tabs_drew (w : World) : Tabs w.drew = Tabs w := rfl
theorem below_drew (n : Nat) (w w' : World) : Below n w w'.drew = Below n w w' := by
  apply propext
  constructor
  · intro h; exact ⟨h.os, h.tape, h.output, h.size, h.block⟩
  · intro h; exact ⟨h.os, h.tape, h.output, h.size, h.block⟩
theorem bytes_k (n : Nat) {w wx : World} {p q : Addr} {x : Value} (h1 : wx.cell? p = some x) (h2 : wx.cell? q = some x) (h3 : Tabs wx) (h4 : Below w.heap.size w wx) :
    Calls Tryd.prog 35 #[.int .u64 (n : Int)] wx fun e w' => e = .returned (.string (strOf (bytesI (n : Int)))) ∧ w'.cell? p = some x ∧ w'.cell? q = some x ∧ Tabs w' ∧ Below w.heap.size w w' :=
  (bytes_any n wx).mono fun _ _ hh => ⟨hh.1, keep4 h1 h2 h3 h4 hh.2⟩
theorem refBytes_k (n : Nat) {w wx : World} {p q : Addr} {x : Value} (h1 : wx.cell? p = some x) (h2 : wx.cell? q = some x) (h3 : Tabs wx) (h4 : Below w.heap.size w wx) :
    Calls Tryd.prog 36 #[.int .u64 (n : Int)] wx fun e w' => e = .returned (.string (strOf (bytesI (n : Int)))) ∧ w'.cell? p = some x ∧ w'.cell? q = some x ∧ Tabs w' ∧ Below w.heap.size w w' :=
  (refBytes_any n wx).mono fun _ _ hh => ⟨hh.1, keep4 h1 h2 h3 h4 hh.2⟩
theorem text_k (n : Nat) (hn : n < 18446744073709551616) {w wx : World} {p q : Addr} {x : Value} (h1 : wx.cell? p = some x) (h2 : wx.cell? q = some x) (h3 : Tabs wx) (h4 : Below w.heap.size w wx) :
    Calls Tryd.prog 37 #[.int .u64 (n : Int)] wx fun e w' => e = .returned (.string (strOf (textOf (cats n)))) ∧ w'.cell? p = some x ∧ w'.cell? q = some x ∧ Tabs w' ∧ Below w.heap.size w w' :=
  (text_any n wx hn h3.1 h3.2).mono fun _ _ hh => ⟨hh.1, keep4 h1 h2 h3 h4 hh.2⟩
theorem refText_k (n : Nat) (hn : n < 18446744073709551616) {w wx : World} {p q : Addr} {x : Value} (h1 : wx.cell? p = some x) (h2 : wx.cell? q = some x) (h3 : Tabs wx) (h4 : Below w.heap.size w wx) :
    Calls Tryd.prog 38 #[.int .u64 (n : Int)] wx fun e w' => e = .returned (.string (strOf (textOf (cats n)))) ∧ w'.cell? p = some x ∧ w'.cell? q = some x ∧ Tabs w' ∧ Below w.heap.size w w' :=
  (refText_any n wx hn).mono fun _ _ hh => ⟨hh.1, keep4 h1 h2 h3 h4 hh.2⟩
attribute [local go_sem] tabs_drew below_drew
attribute [local simp] tabs_drew below_drew

set_option maxRecDepth 100000 in
set_option maxHeartbeats 2000000 in
theorem joins_any (v : Value) (l : List Int) (s : ByteArray) (w : World) (hT : Tabs w) (hs : s.size ≤ maxLen) (hv : Slc w v (vals .u64 l)) (hwf : ∀ x ∈ l, (Lit.int .u64 x).wf = true) :
    Calls Tryd.prog 4 #[v, .string s] w fun e w' => e = .returned (.bool true) ∧ Below w.heap.size w w' := by
  obtain ⟨i0, hi, hz0, hz1, hz2⟩ := info_parts infoU64
  obtain ⟨A, cap, rfl, hm0, hc0⟩ := hv.ints
  clear hc0
  by_cases hlen : l.length ≤ 100
  · have h1 : ¬ (100 : Int) < (l.length : Int) := by omega
    by_cases hlen2 : s.size ≤ 40
    · have h2 : ¬ (40 : Int) < (s.size : Int) := by omega
      have hown : Own1 w.heap.size 22 w [] (.slice (some ⟨w.heap.size, 0, none⟩) 0 0) (w.alloc (.cells #[] 22)) := Own1.made _ _ _ (by decide) rfl
      rcases hv.split with ⟨he, hl⟩ | ⟨a, cap', he, hl, hc⟩
      · simp only [Value.slice.injEq] at he
        obtain ⟨rfl, hl0, rfl⟩ := he
        obtain rfl : l = [] := List.eq_nil_of_length_eq_zero hl0
        clear hv hl hl0 hwf hm0
        go_enter Tryd.func4, Tryd.ntmps4
        go_wp2_with (at_builtin; refine wpList_append_own_none rfl _ _ 39 rfl w.heap.size 22 i0 1 Tryd.underlying39 hi _ 0 [] rfl hown.1 rfl ?_)
        refine (of8_any s _ hs).mono ?_
        rintro e w' ⟨rfl, rfl⟩
        go_wp2_with fail
        refine (refOf8_any s _ hs).mono ?_
        rintro e w' ⟨rfl, rfl⟩
        obtain ⟨⟨y, ye⟩, hy⟩ : ∃ q, q = of8I s.data.toList := ⟨_, rfl⟩
        rw [← hy]
        clear hy
        go_wp2_with fail
        refine (join_any _ [] _ hown.slc).mono ?_
        rintro e w' ⟨rfl, rfl⟩
        go_wp2_with fail
        refine (refJoin_any _ [] _ (Slc.nil _)).mono ?_
        rintro e w' ⟨rfl, rfl⟩
        obtain ⟨j, hj⟩ : ∃ q, q = joinI [] := ⟨_, rfl⟩
        rw [← hj]
        clear hj
        go_wp2_with fail
        refine (meet_any _ [] _ hown.slc).mono ?_
        rintro e w' ⟨rfl, rfl⟩
        go_wp2_with fail
        refine (refMeet_any _ [] _ (Slc.nil _)).mono ?_
        rintro e w' ⟨rfl, rfl⟩
        obtain ⟨m, hm⟩ : ∃ q, q = meetI [] := ⟨_, rfl⟩
        rw [← hm]
        clear hm
        go_wp2_with fail
        go_loopw [10] (fun i wr => i = .int .i64 0 ∧ w.alloc (.cells #[] 22) = wr) (fun _ _ => 0)
        case atStart => exact ⟨rfl, rfl⟩
        case round =>
          obtain ⟨rfl, rfl⟩ := hrel
          have hT1 := hT.alloc (.cells #[] 22)
          have hB1 := (Below.refl w.heap.size w).alloc (Nat.le_refl _) (.cells #[] 22)
          go_wp2_with fail
          refine (awake_any _ hT1).mono ?_
          rintro e w2 ⟨rfl, hb2⟩
          go_wp2
          go_ret
          exact ⟨rfl, below_step hB1 hb2⟩
      · simp only [Value.slice.injEq] at he
        obtain ⟨rfl, -, rfl⟩ := he
        have hc' : ∀ (i : Nat) (u : Value), (vals .u64 l)[i]? = some u → (w.alloc (.cells #[] 22)).cell? (a.add i) = some u := fun i u hu => by
          obtain ⟨h1, h2⟩ := hc i u hu
          exact ((Below.refl w.heap.size w).alloc (Nat.le_refl _) (.cells #[] 22)).cell (p := a.add i) (by rw [add_block]; exact h1) |>.trans h2
        have HV := Lib.hid hv
        have hle : l.length ≤ maxLen := by unfold maxLen; omega
        clear hc hv hl
        go_enter Tryd.func4, Tryd.ntmps4
        go_wp2_with (at_builtin; refine wpList_append_own _ rfl _ _ 39 rfl w.heap.size 22 i0 (.int .u64 0) 1 8 Tryd.underlying39 hi hz0 hz1 hz2 rfl (by decide) _ _ _ rfl hown.1 a l.length cap (vals .u64 l) rfl (by simp [vals]) hc' (by simp [vals, Value.oneCell']) (by simpa using hle) (by simp only [List.length_nil]; omega) (by have := hown.2.2; omega) ?_; intro v' w1 hown' hgrow hnil; clear hnil)
        have hin : Slc w1 v' (vals .u64 l) := by simpa using Slc.of_own hown'
        have hB1 : Below w.heap.size w w1 := hown.2.1.grown hgrow hown.2.2 (fun k hk => (hown.1.lt k hk).1)
        have hv1 := HV.out.below hB1
        have hT1 := hT.below hB1
        clear hown hown' hgrow hc' HV hT
        refine (of8_any s _ hs).mono ?_
        rintro e w' ⟨rfl, rfl⟩
        go_wp2_with fail
        refine (refOf8_any s _ hs).mono ?_
        rintro e w' ⟨rfl, rfl⟩
        obtain ⟨⟨y, ye⟩, hy⟩ : ∃ q, q = of8I s.data.toList := ⟨_, rfl⟩
        rw [← hy]
        clear hy
        go_wp2_with fail
        refine (join_any _ l _ hin).mono ?_
        rintro e w' ⟨rfl, rfl⟩
        go_wp2_with fail
        refine (refJoin_any _ l _ hv1).mono ?_
        rintro e w' ⟨rfl, rfl⟩
        obtain ⟨j, hj⟩ : ∃ q, q = joinI l := ⟨_, rfl⟩
        rw [← hj]
        clear hj
        go_wp2_with fail
        refine (meet_any _ l _ hin).mono ?_
        rintro e w' ⟨rfl, rfl⟩
        go_wp2_with fail
        refine (refMeet_any _ l _ hv1).mono ?_
        rintro e w' ⟨rfl, rfl⟩
        obtain ⟨m, hm⟩ : ∃ q, q = meetI l := ⟨_, rfl⟩
        rw [← hm]
        clear hm
        go_wp2_with fail
        obtain ⟨A2, cap2, rfl, _, hc2⟩ := hin.ints
        clear hc2
        have HI := Lib.hid hin
        have HV1 := Lib.hid hv1
        clear hin hv1
        go_loopw [10] (fun i wr => ∃ k : Nat, k ≤ l.length ∧ i = .int .i64 (k : Int) ∧ Below w1.heap.size w1 wr) (fun i _ => l.length - (intOf i).toNat)
        case atStart => exact ⟨0, by omega, rfl, Below.refl _ _⟩
        case round =>
          obtain ⟨k, hk, rfl, hbr⟩ := hrel
          have hTr := hT1.below hbr
          have hBr := below_step hB1 hbr
          by_cases hlt : k < l.length
          · obtain ⟨A3, cap3, he3, _, hc3⟩ := (HI.out.below hbr).ints
            obtain ⟨A4, cap4, he4, _, hc4⟩ := (HV1.out.below hbr).ints
            simp only [Value.slice.injEq] at he3 he4
            obtain ⟨rfl, -, rfl⟩ := he3
            obtain ⟨rfl, -, rfl⟩ := he4
            obtain ⟨a3, rfl, hl3, hcell3⟩ := hc3 k hlt
            obtain ⟨a4, he, hl4, hcell4⟩ := hc4 k hlt
            obtain rfl : a = a4 := Option.some.inj he
            clear hc3 hc4 he
            obtain ⟨n, hn, hn64⟩ := u64_of_wf (hwf l[k] (List.getElem_mem hlt))
            rw [hn] at hcell3 hcell4
            go_wp2_with fail
            go_region_held3 (fun w' => w'.cell? (a3.add k) = some (.int .u64 (n : Int)) ∧ w'.cell? (a.add k) = some (.int .u64 (n : Int)) ∧ Tabs w' ∧ Below w1.heap.size w1 w') (go_keep)
              (first
                | (go_at_call 35; refine (bytes_k (w := w1) (p := a3.add k) (q := a.add k) (x := .int .u64 (n : Int)) n ?_ ?_ ?_ ?_).mono ?_; (simp [*]); (simp [*]); (simp [*]); (simp [*]); rintro e w9 ⟨rfl, g1, g2, g3, g4⟩)
                | (go_at_call 36; refine (refBytes_k (w := w1) (p := a3.add k) (q := a.add k) (x := .int .u64 (n : Int)) n ?_ ?_ ?_ ?_).mono ?_; (simp [*]); (simp [*]); (simp [*]); (simp [*]); rintro e w9 ⟨rfl, g1, g2, g3, g4⟩)
                | (go_at_call 37; refine (text_k (w := w1) (p := a3.add k) (q := a.add k) (x := .int .u64 (n : Int)) n hn64 ?_ ?_ ?_ ?_).mono ?_; (simp [*]); (simp [*]); (simp [*]); (simp [*]); rintro e w9 ⟨rfl, g1, g2, g3, g4⟩)
                | (go_at_call 38; refine (refText_k (w := w1) (p := a3.add k) (q := a.add k) (x := .int .u64 (n : Int)) n hn64 ?_ ?_ ?_ ?_).mono ?_; (simp [*]); (simp [*]); (simp [*]); (simp [*]); rintro e w9 ⟨rfl, g1, g2, g3, g4⟩))
            go_wp2_with fail
            go_roundw
            case rel => exact ⟨k + 1, by omega, by go_num, g4⟩
            case measure => simp [intOf]; omega
          · go_wp2_with fail
            refine (awake_any _ hTr).mono ?_
            rintro e w2 ⟨rfl, hb2⟩
            go_wp2
            go_ret
            exact ⟨rfl, below_step hBr hb2⟩
    · have h2 : (40 : Int) < (s.size : Int) := by omega
      go_enter Tryd.func4, Tryd.ntmps4
      go_wp2_with fail
      refine (awake_any _ hT).mono ?_
      rintro e w1 ⟨rfl, hb1⟩
      go_wp2
      go_ret
      exact ⟨rfl, hb1⟩
  · have h1 : (100 : Int) < (l.length : Int) := by omega
    go_enter Tryd.func4, Tryd.ntmps4
    go_wp2_with fail
    refine (awake_any _ hT).mono ?_
    rintro e w1 ⟨rfl, hb1⟩
    go_wp2
    go_ret
    exact ⟨rfl, hb1⟩
end Go.Proofs.YtnlioeheogkkiaaDoor
