/- Walk: tokens checked, numbers, texts and lists that are the same, against the document's own. -/
import Derived.Test.YtmdlndmibodimaaDoorTokRn
import Derived.Test.YtmdlndmibodimaaDoorTokTx
namespace Go.Proofs.YtmdlndmibodimaaDoor
open Go.RowKit
open Tk7

theorem tail_len (r : List (List UInt8)) (h : ∀ x ∈ r, x.length ≤ 60) : (Lib.joinTail [32] r).length ≤ r.length * 61 := by
  induction r with
  | nil => simp [Lib.joinTail]
  | cons x r ih =>
    have h1 := h x (by simp)
    have h2 := ih (fun y hy => h y (by simp [hy]))
    have e : Lib.joinTail [32] (x :: r) = ([32] ++ x) ++ Lib.joinTail [32] r := by unfold Lib.joinTail; rw [List.map_cons, List.flatten_cons]
    rw [e, List.length_append, List.length_append, List.length_cons]
    simp only [List.length_cons, List.length_nil]
    omega
theorem join_len (xs : List (List UInt8)) (h : ∀ x ∈ xs, x.length ≤ 60) : (Lib.join xs [32]).length ≤ xs.length * 61 := by
  cases xs with
  | nil => simp [Lib.join_nil]
  | cons x r =>
    have h1 := h x (by simp)
    have h2 := tail_len r (fun y hy => h y (by simp [hy]))
    rw [Lib.join_cons, List.length_append, List.length_cons]
    omega
set_option maxRecDepth 100000 in
theorem checks_few (u v : Value) (xs ys : List TK) (lo hi : Int) (w : World) (hG : SG w) (hu : KSl w u xs) (hv : KSl w v ys) (h : fewB xs = false ∨ fewB xs = true ∧ fewB ys = false) :
    Calls Tryd.prog 5 #[u, v, .int .i64 lo, .int .i64 hi] w fun e w' => e = .returned (.bool true) ∧ Below w.heap.size w w' := by
  have hF := few_any u xs w hu
  rcases h with h | ⟨h, h2⟩
  · rw [h] at hF
    clear h
    go_enter Tryd.func5, Tryd.ntmps5
    go_wp2_with (first
      | (go_at_call 21; with_reducible refine hF.mono ?_; rintro e w1 ⟨rfl, hb1⟩)
      | (go_at_call 17; with_reducible refine (awake_any _ (hG.later hb1)).mono ?_; rintro e w2 ⟨rfl, hb2⟩))
    go_ret
    exact ⟨rfl, bstep hb1 hb2⟩
  · have hF2 := fun w hv => few_any v ys w hv
    rw [h] at hF
    rw [h2] at hF2
    clear h h2
    go_enter Tryd.func5, Tryd.ntmps5
    go_wp2_with (first
      | (go_at_call 21; first
        | (with_reducible refine hF.mono ?_; rintro e w1 ⟨rfl, hb1⟩)
        | (with_reducible refine (hF2 _ (hv.later hb1)).mono ?_; rintro e w3 ⟨rfl, hb3⟩))
      | (go_at_call 17; with_reducible refine (awake_any _ (hG.later (bstep hb1 hb3))).mono ?_; rintro e w2 ⟨rfl, hb2⟩))
    go_ret
    exact ⟨rfl, bstep (bstep hb1 hb3) hb2⟩
/-- What the last region of a round holds fast. -/
def HoldC (W w' : World) (p q r : Addr) (x : TK) : Prop := w'.cell? p = some (.int .i64 x.1) ∧ w'.cell? q = some (.string (strOf x.2.1)) ∧ w'.cell? r = some (.int .i64 x.2.2) ∧ SG w' ∧ Below W.heap.size W w'
theorem held_c {P : Program} {f : FuncId} {args : Array Value} {v : Value} {W wx : World} {p q r : Addr} {c0 c1 c2 : Value} (hc : ∀ w, SG w → Calls P f args w fun e w' => e = .returned v ∧ Below w.heap.size w w')
    (h0 : wx.cell? p = some c0) (h1 : wx.cell? q = some c1) (h2 : wx.cell? r = some c2) (h3 : SG wx) (h4 : Below W.heap.size W wx) :
    Calls P f args wx fun e w' => e = .returned v ∧ w'.cell? p = some c0 ∧ w'.cell? q = some c1 ∧ w'.cell? r = some c2 ∧ SG w' ∧ Below W.heap.size W w' :=
  (hc wx h3).mono fun _ w' hh =>
    have hl : ∀ {p : Addr} {v : Value}, wx.cell? p = some v → w'.cell? p = some v := fun {_ _} h => (hh.2.cell (World.block_lt_of_cell? wx _ h)).trans h
    ⟨hh.1, hl h0, hl h1, hl h2, h3.later hh.2, bstep h4 hh.2⟩
theorem sg_drew7 (w : World) : SG w.drew = SG w := rfl
theorem below_drew7 (n : Nat) (w w' : World) : Below n w w'.drew = Below n w w' := by
  apply propext
  constructor
  · intro h; exact ⟨h.os, h.tape, h.output, h.size, h.block⟩
  · intro h; exact ⟨h.os, h.tape, h.output, h.size, h.block⟩
attribute [local go_sem] sg_drew7 below_drew7
attribute [local simp] sg_drew7 below_drew7
set_option maxRecDepth 100000 in
set_option maxHeartbeats 8000000 in
theorem checks_many (u v : Value) (xs ys : List TK) (lo hi : Int) (w : World) (hG : SG w) (hR : ER w) (hu : KSl w u xs) (hv : KSl w v ys) (h1 : fewB xs = true) (h2 : fewB ys = true) :
    Calls Tryd.prog 5 #[u, v, .int .i64 lo, .int .i64 hi] w fun e w' => e = .returned (.bool true) ∧ Below w.heap.size w w' := by
  have hF := few_any u xs w hu
  have hF2 := fun w hv => few_any v ys w hv
  rw [h1] at hF
  rw [h2] at hF2
  obtain ⟨hn, hs⟩ := few_true h1
  clear h1 h2
  obtain ⟨i0, hi0, hz0, hz1, hz2⟩ := info_parts infoTok
  obtain ⟨A, cap, rfl, hcap, hmax, _, _⟩ := hu.at_
  go_enter Tryd.func5, Tryd.ntmps5
  go_upto_region 3 with (go_at_call 21; first
        | (with_reducible refine hF.mono ?_; rintro e w1 ⟨rfl, hb1⟩)
        | (with_reducible refine (hF2 _ (hv.later hb1)).mono ?_; rintro e w2 ⟨rfl, hb2⟩))
  have b2 := bstep hb1 hb2
  have U2 := hu.later b2
  have V2 := hv.later b2
  have G2 := hG.later b2
  have R2 := hR.later b2
  clear hF hF2 hb1 hb2
  have O3 : (w2.alloc (.cells #[] 30)).ownsRow w2.heap.size 30 3 (.slice (some ⟨w2.heap.size, 0, none⟩) 0 0) 0 [] := World.ownsRow_made w2 #[] 0 (Nat.le_refl _) (by unfold maxLen; omega) rfl
  have b3 := below1 w2 (.cells #[] 30)
  obtain ⟨A4, c4, w4, hrun, O4, hg4⟩ := run_append_any (P := Tryd.prog) (w2.alloc (.cells #[] 30)) w2.heap.size 22 22 30 i0 (.agg #[.int .i64 0, .string ⟨#[]⟩, .int .i64 0]) 3 32 Tryd.underlying22 hi0 hz0 hz1 hz2 rfl (by decide) _ 0 [] O3 _ xs.length (kcells xs) (U2.later b3) (kcells_one _) (by unfold maxLen; omega) (by omega) b3.size xs.length (kcells xs) (by omega) rfl
  have b4 : Below w2.heap.size w2 w4 := (b3.grown hg4 b3.size (fun j e => (O3.lt j e).1))
  have K4 := own_k O4
  have U4 := U2.later b4
  have V4 := V2.later b4
  have G4 := G2.later b4
  have R4 := R2.later b4
  have B4 := bstep b2 b4
  clear U2 V2 G2 R2 O3 b3 O4 hg4 b4 b2
  go_upto_region 4 with (at_builtin; refine wpList_append_run rfl _ _ _ rfl rfl rfl hrun ?_)
  clear hrun hu hv hG hR
  have hTx := fun w hG hK => text_any (.slice A4 xs.length c4) xs w hG hK (by omega) (fun x hx => by have := hs x hx; omega) (by
    have := join_len (xs.map (·.2.1)) (fun y hy => by obtain ⟨x, hx, rfl⟩ := List.mem_map.1 hy; exact hs x hx)
    rw [List.length_map] at this
    omega)
  have hTr := fun w hK => rtext_any (.slice A xs.length cap) xs w hK hn hs
  have hSm := fun w hK hV => same_any (.slice A4 xs.length c4) v xs ys w hK hV
  have hSr := fun w hU hV => rsame_any (.slice A xs.length cap) v xs ys w hU hV
  have hEq := fun w hK hU => equal_same (.slice A4 xs.length c4) (.slice A xs.length cap) xs w hK hU
  obtain ⟨S, hS⟩ : ∃ S, S = strOf (textK xs) := ⟨_, rfl⟩
  obtain ⟨er, her⟩ : ∃ er, er = errK xs := ⟨_, rfl⟩
  obtain ⟨sm, hsm⟩ : ∃ sm, sm = sameK xs ys := ⟨_, rfl⟩
  rw [← hS, ← her] at hTx hTr
  rw [← hsm] at hSm hSr
  clear hS her hsm
  go_upto_region 8 with (first
    | (go_at_call 14; with_reducible refine (hTx _ G4 K4).mono ?_; rintro e w5 ⟨rfl, hb5⟩; have U5 := U4.later hb5)
    | (go_at_call 22; with_reducible refine (hTr _ U5).mono ?_; rintro e w6 ⟨rfl, hb6⟩; have b6 := bstep hb5 hb6; have K6 := K4.later b6; have V6 := V4.later b6)
    | (go_at_call 23; with_reducible refine (hSm _ K6 V6).mono ?_; rintro e w7 ⟨rfl, hb7⟩; have b7 := bstep b6 hb7; have U7 := U4.later b7; have V7 := V4.later b7)
    | (go_at_call 24; with_reducible refine (hSr _ U7 V7).mono ?_; rintro e w8 ⟨rfl, hb8⟩; have b8 := bstep b7 hb8; have U8 := U4.later b8; have K8 := K4.later b8)
    | (go_at_call 10; with_reducible refine (hEq _ K8 U8).mono ?_; rintro e w9 ⟨rfl, n9, rfl⟩))
  have b9 := below_drewN b8 n9
  obtain ⟨W, hW⟩ : ∃ W, W = w8.drewN n9 := ⟨_, rfl⟩
  rw [← hW] at b9 ⊢
  have UW := Lib.hid (U4.later b9)
  have GW := Lib.hid (G4.later b9)
  have RW := Lib.hid (R4.later b9)
  have BW := Lib.hid (bstep B4 b9)
  have HS := Lib.hid hs
  clear hW b9 b8 b7 b6 hb5 hb6 hb7 hb8 U5 K6 V6 U7 V7 U8 K8 U4 G4 R4 B4 K4 V4 hTx hTr hSm hSr hEq hs
  go_wp2
  go_loopg [14] xs.length (fun g iv wr => ∃ i : Nat, i ≤ xs.length ∧ g = xs.length - i ∧ iv = .int .i64 (i : Int) ∧ Hid (Below W.heap.size W wr))
  case atStart => exact ⟨0, by omega, rfl, rfl, Lib.hid (Below.refl _ _)⟩
  case round =>
    obtain ⟨i, hil, hg, rfl, hB⟩ := hrel
    have h1b : (0 : Int) ≤ (i : Int) := by omega
    by_cases hz : i < xs.length
    · have h1 : (i : Int) < (xs.length : Int) := by omega
      obtain ⟨A', cap', hA, _, _, _, hc⟩ := (UW.out.later hB.out).at_
      have hA1 := (Value.slice.inj hA).1
      subst hA1
      obtain ⟨a, rfl, hal, c0, c1, c2⟩ := hc i hz
      have hwi : IntKind.i64.wrap ((i : Int) + 1) = (i : Int) + 1 := IntWalk.i64_in _ ⟨by omega, by omega⟩
      obtain ⟨x, hx⟩ : ∃ x, x = xs[i] := ⟨_, rfl⟩
      rw [← hx] at c0 c1 c2
      have hx60 : x.2.1.length ≤ 60 := by rw [hx]; exact HS.out _ (List.getElem_mem hz)
      rw [← add_at _ (i * 3) 1 (by decide)] at c1
      rw [← add_at _ (i * 3) 2 (by decide)] at c2
      have hN := fun w hG hR => number_any x.1 x.2.1 x.2.2 lo hi (by omega) w hG hR
      have hM := fun w => rnumb_any x.1 x.2.1 x.2.2 lo hi (by omega) w
      have hC := fun w hG => check_any x.1 x.2.1 x.2.2 (by unfold maxLen; omega) w hG
      have hD := fun w (_ : SG w) => rcheck_any x.1 x.2.1 x.2.2 (by omega) w
      obtain ⟨nn, hnn⟩ : ∃ nn, nn = (numE (x.1, x.2.1, x.2.2) lo hi).1 := ⟨_, rfl⟩
      obtain ⟨ee, hee⟩ : ∃ ee, ee = (numE (x.1, x.2.1, x.2.2) lo hi).2 := ⟨_, rfl⟩
      obtain ⟨cc, hcc⟩ : ∃ cc, cc = checkI (x.1, x.2.1, x.2.2) := ⟨_, rfl⟩
      rw [← hnn, ← hee] at hN hM
      rw [← hcc] at hC hD
      obtain ⟨X, hX⟩ : ∃ X, X = strOf x.2.1 := ⟨_, rfl⟩
      rw [← hX] at hN hM hC hD c1
      obtain ⟨kd, hkd⟩ : ∃ kd, kd = x.1 := ⟨_, rfl⟩
      obtain ⟨at_, hat⟩ : ∃ at_, at_ = x.2.2 := ⟨_, rfl⟩
      rw [← hkd] at hN hM hC hD c0
      rw [← hat] at hN hM hC hD c2
      have hcell : ∀ w2 : World, Below wr.heap.size wr w2 → w2.cell? (a.add (i * 3)) = some (.int .i64 kd) ∧ w2.cell? ⟨(a.add (i * 3)).block, (a.add (i * 3)).off + 1, none⟩ = some (.string X) ∧ w2.cell? ⟨(a.add (i * 3)).block, (a.add (i * 3)).off + 2, none⟩ = some (.int .i64 at_) ∧ SG w2 ∧ Below W.heap.size W w2 := fun w2 hb => ⟨(hb.cell (by rw [add_block]; exact hal)).trans c0, (hb.cell (by simp only [add_block]; exact hal)).trans c1, (hb.cell (by simp only [add_block]; exact hal)).trans c2, (GW.out.later hB.out).later hb, bstep hB.out hb⟩
      have GX := GW.out.later hB.out
      have RX := RW.out.later hB.out
      clear hA hc hnn hee hcc hX hkd hat hx hx60
      go_upto_region 12 with (go_at_call 13; with_reducible refine (hN _ GX RX).mono ?_; rintro e w9 ⟨rfl, hb9⟩)
      obtain ⟨d0, d1, d2, _, _⟩ := hcell _ hb9
      go_upto_region 13 with (go_at_call 25; with_reducible refine (hM _).mono ?_; rintro e w10 ⟨rfl, hb10⟩)
      obtain ⟨z0, z1, z2, GS, BB⟩ := hcell _ (bstep hb9 hb10)
      clear c0 c1 c2 d0 d1 d2 GX RX hcell hb9 hb10 hN hM hB
      go_region_held3 (fun w' => w'.cell? (a.add (i * 3)) = some (.int .i64 kd) ∧ w'.cell? ⟨(a.add (i * 3)).block, (a.add (i * 3)).off + 1, none⟩ = some (.string X) ∧ w'.cell? ⟨(a.add (i * 3)).block, (a.add (i * 3)).off + 2, none⟩ = some (.int .i64 at_) ∧ SG w' ∧ Below W.heap.size W w') (go_keep)
        (first
          | (go_at_call 26; refine (held_c (W := W) (p := a.add (i * 3)) (q := ⟨(a.add (i * 3)).block, (a.add (i * 3)).off + 1, none⟩) (r := ⟨(a.add (i * 3)).block, (a.add (i * 3)).off + 2, none⟩) (c0 := .int .i64 kd) (c1 := .string X) (c2 := .int .i64 at_) hC ?_ ?_ ?_ ?_ ?_).mono ?_; (simp [*]); (simp [*]); (simp [*]); (simp [*]); (simp [*]); rintro e w11 ⟨rfl, q0, q1, q2, q3, q4⟩)
          | (go_at_call 27; refine (held_c (W := W) (p := a.add (i * 3)) (q := ⟨(a.add (i * 3)).block, (a.add (i * 3)).off + 1, none⟩) (r := ⟨(a.add (i * 3)).block, (a.add (i * 3)).off + 2, none⟩) (c0 := .int .i64 kd) (c1 := .string X) (c2 := .int .i64 at_) hD ?_ ?_ ?_ ?_ ?_).mono ?_; (simp [*]); (simp [*]); (simp [*]); (simp [*]); (simp [*]); rintro e w12 ⟨rfl, r0, r1, r2, r3, r4⟩))
      clear hC hD
      go_wp2
      go_roundg (xs.length - (i + 1))
      case rel => exact ⟨i + 1, by omega, rfl, by go_num, Lib.hid (by first | exact r4 | assumption)⟩
      case measure => omega
    · have h1 : ¬ (i : Int) < (xs.length : Int) := by omega
      have GX := GW.out.later hB.out
      go_wp2_with (go_at_call 17; with_reducible refine (awake_any _ GX).mono ?_; rintro e w9 ⟨rfl, hb9⟩)
      go_ret
      exact ⟨rfl, bstep BW.out (bstep hB.out hb9)⟩
theorem checks_any (u v : Value) (xs ys : List TK) (lo hi : Int) (w : World) (hG : SG w) (hR : ER w) (hu : KSl w u xs) (hv : KSl w v ys) :
    Calls Tryd.prog 5 #[u, v, .int .i64 lo, .int .i64 hi] w fun e w' => e = .returned (.bool true) ∧ Below w.heap.size w w' := by
  cases h1 : fewB xs with
  | false => exact checks_few u v xs ys lo hi w hG hu hv (.inl h1)
  | true =>
    cases h2 : fewB ys with
    | false => exact checks_few u v xs ys lo hi w hG hu hv (.inr ⟨h1, h2⟩)
    | true => exact checks_many u v xs ys lo hi w hG hR hu hv h1 h2
end Go.Proofs.YtmdlndmibodimaaDoor
