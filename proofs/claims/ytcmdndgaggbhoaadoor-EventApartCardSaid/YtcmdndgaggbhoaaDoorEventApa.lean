/- Walk: EventApart. -/
import Derived.Test.YtcmdndgaggbhoaaDoorEventN
import Derived.IntWalk
import Derived.Test.YtcmdndgaggbhoaaDoorEventL
namespace Go.Proofs.YtcmdndgaggbhoaaDoor.Ev
open Go.RowKit Go.Shelf
open Lb Wr

/-- What a region holds fast beside the tables and what lay: 12 cells. -/
theorem held12t {P : Program} {f : FuncId} {args : Array Value} {v : Value} {W wx : World} {a0 a1 a2 a3 a4 a5 a6 a7 a8 a9 a10 a11 : Addr} {c0 c1 c2 c3 c4 c5 c6 c7 c8 c9 c10 c11 : Value} (hc : ∀ w, Tab2 w → Calls P f args w fun e w' => e = .returned v ∧ Below w.heap.size w w')
    (h0 : wx.cell? a0 = some c0) (h1 : wx.cell? a1 = some c1) (h2 : wx.cell? a2 = some c2) (h3 : wx.cell? a3 = some c3) (h4 : wx.cell? a4 = some c4) (h5 : wx.cell? a5 = some c5) (h6 : wx.cell? a6 = some c6) (h7 : wx.cell? a7 = some c7) (h8 : wx.cell? a8 = some c8) (h9 : wx.cell? a9 = some c9) (h10 : wx.cell? a10 = some c10) (h11 : wx.cell? a11 = some c11) (ht : Tab2 wx) (h : Below W.heap.size W wx) :
    Calls P f args wx fun e w' => e = .returned v ∧ w'.cell? a0 = some c0 ∧ w'.cell? a1 = some c1 ∧ w'.cell? a2 = some c2 ∧ w'.cell? a3 = some c3 ∧ w'.cell? a4 = some c4 ∧ w'.cell? a5 = some c5 ∧ w'.cell? a6 = some c6 ∧ w'.cell? a7 = some c7 ∧ w'.cell? a8 = some c8 ∧ w'.cell? a9 = some c9 ∧ w'.cell? a10 = some c10 ∧ w'.cell? a11 = some c11 ∧ Tab2 w' ∧ Below W.heap.size W w' :=
  (hc wx ht).mono fun _ w' hh =>
    have hl : ∀ {p : Addr} {v : Value}, wx.cell? p = some v → w'.cell? p = some v := fun {_ _} h => (hh.2.cell (World.block_lt_of_cell? wx _ h)).trans h
    ⟨hh.1, hl h0, hl h1, hl h2, hl h3, hl h4, hl h5, hl h6, hl h7, hl h8, hl h9, hl h10, hl h11, ht.below hh.2, bstep h hh.2⟩
attribute [local go_sem] tab2_drew below_drew_eq
attribute [local simp] tab2_drew below_drew_eq
theorem storeOk (l k v n o t : Int) (hk : isKindB k = true) (hn : isCountB n = true) (ho : isCountB o = true) (ht0 : 0 ≤ t) (ht1 : t ≤ 1099511627776) (w : World) :
    Calls Tryd.prog 18 #[ev l k v, .int .u64 n, .int .u64 o, .int .u64 t] w fun e w' => e = .returned (.tuple #[stv l n o t k v, .int .i64 0]) ∧ Below w.heap.size w w' := by
  have h1 := isCountB_iff.1 hn
  have h2 := isCountB_iff.1 ho
  have h := store_any l k v n o t (by omega) (by omega) ht0 w
  rw [show storeV l k v n o t = .tuple #[stv l n o t k v, .int .i64 0] by rw [storeV, if_pos hk, if_pos (by rw [soundI, if_pos hn, if_pos hk, if_pos ⟨ho, ht1⟩])]] at h
  exact h
theorem soundOk (l k v n o t : Int) (hk : isKindB k = true) (hn : isCountB n = true) (ho : isCountB o = true) (ht0 : 0 ≤ t) (ht1 : t ≤ 1099511627776) (w : World) :
    Calls Tryd.prog 20 #[stv l n o t k v] w fun e w' => e = .returned (.int .i64 0) ∧ Below w.heap.size w w' := by
  have h1 := isCountB_iff.1 hn
  have h2 := isCountB_iff.1 ho
  have h := sound_any l n o t k v (by omega) (by omega) ht0 w
  rw [show soundI n o t k = 0 by rw [soundI, if_pos hn, if_pos hk, if_pos ⟨ho, ht1⟩]] at h
  exact h
/-- A value as a number without a sign. -/
def unsg (v : Int) : Nat := (v % 18446744073709551616).toNat
theorem unsg_lt (v : Int) : unsg v < 18446744073709551616 := by unfold unsg; omega
theorem unsg_wrap (v : Int) : IntKind.u64.wrap v = (unsg v : Int) := by rw [IntKind.wrap_u64]; unfold unsg; omega
theorem unsg_inj {v u : Int} (hv0 : -9223372036854775808 ≤ v) (hv1 : v ≤ 9223372036854775807) (hu0 : -9223372036854775808 ≤ u) (hu1 : u ≤ 9223372036854775807) (h : unsg v = unsg u) : v = u := by unfold unsg at h; omega
theorem bytesOf (l : Nat) (k v : Int) (hk : isKindB k = true) (hl : l < 18446744073709551616) (w : World) :
    Calls Tryd.prog 8 #[ev l k v] w fun e w' => e = .returned (.tuple #[.string (strOf (evB l k (unsg v))), .int .i64 0]) ∧ Below w.heap.size w w' := by
  have h := bytes_any l k v (unsg v) (by omega) (by omega) (by omega) (by have := unsg_lt v; omega) (unsg_wrap v) w
  unfold bytesE at h
  rw [if_pos hk] at h
  exact h
set_option maxRecDepth 100000 in
set_option maxHeartbeats 8000000 in
theorem apart_any (a b : Nat) (m n v u no : Int) (ha : a < 18446744073709551616) (hb : b < 18446744073709551616) (hm0 : 0 ≤ m) (hm1 : m ≤ 255) (hn0 : 0 ≤ n) (hn1 : n ≤ 255)
    (hv0 : -9223372036854775808 ≤ v) (hv1 : v ≤ 9223372036854775807) (hu0 : -9223372036854775808 ≤ u) (hu1 : u ≤ 9223372036854775807) (hno : 0 ≤ no) (hno1 : no ≤ 18446744073709551615) (w : World) (ht : Tab2 w) :
    Calls Tryd.prog 5 #[.int .u64 (a : Int), .int .u64 (b : Int), .int .u8 m, .int .u8 n, .int .i64 v, .int .i64 u, .int .u64 no] w fun e w' => e = .returned (.bool true) ∧ Below w.heap.size w w' := by
  have hMx := made_any a m v hm0 hm1
  have hMy := made_any b n u hn0 hn1
  obtain ⟨k, hk⟩ : ∃ k, k = m % 26 := ⟨_, rfl⟩
  obtain ⟨j, hj⟩ : ∃ k, k = n % 26 := ⟨_, rfl⟩
  have hkB : isKindB k = true := isKindB_iff.2 (by omega)
  have hjB : isKindB j = true := isKindB_iff.2 (by omega)
  rw [← hk] at hMx
  rw [← hj] at hMy
  clear hk hj hm0 hm1 hn0 hn1
  obtain ⟨N1, hN1⟩ : ∃ x, x = no % 1099511627776 + 1 := ⟨_, rfl⟩
  obtain ⟨O1, hO1⟩ : ∃ x, x = no / 2 % 1099511627776 + 1 := ⟨_, rfl⟩
  obtain ⟨T1, hT1⟩ : ∃ x, x = no % 1099511627777 := ⟨_, rfl⟩
  have hN := isCountB_iff.2 (show 0 < N1 ∧ N1 ≤ 1099511627776 by omega)
  have hO := isCountB_iff.2 (show 0 < O1 ∧ O1 ≤ 1099511627776 by omega)
  have HO : Hid (IntKind.u64.wrap ((IntKind.u64.wrap (no.tdiv 2)).tmod 1099511627776 + 1) = O1) := Lib.hid (by
    rw [IntWalk.u64_quo no 2 ⟨hno, hno1, by decide⟩, IntWalk.rem_in _ _ (by omega), IntWalk.u64_in _ ⟨by omega, by omega⟩, hO1])
  clear hno1 hO1
  have hBx := fun w => bytesOf a k v hkB ha w
  have hBy := fun w => bytesOf b j u hjB hb w
  have hTx := fun w ht => textYes a k v ha hkB hv0 hv1 w ht
  have hTy := fun w ht => textYes b j u hb hjB hu0 hu1 w ht
  have hS := storeOk a k v N1 O1 T1 hkB hN hO (by omega) (by omega)
  have hOf := fun w (_ : Tab2 w) => evOf_any a N1 O1 T1 k v w
  have hSo := fun w (_ : Tab2 w) => soundOk a k v N1 O1 T1 hkB hN hO (by omega) (by omega) w
  have hAw := awake_any
  obtain ⟨P, hP⟩ : ∃ P, P = strOf (evB a k (unsg v)) := ⟨_, rfl⟩
  obtain ⟨Q, hQ⟩ : ∃ P, P = strOf (evB b j (unsg u)) := ⟨_, rfl⟩
  obtain ⟨t, htx⟩ : ∃ P, P = strOf (evT a k v) := ⟨_, rfl⟩
  obtain ⟨q, hty⟩ : ∃ P, P = strOf (evT b j u) := ⟨_, rfl⟩
  rw [← hP] at hBx
  rw [← hQ] at hBy
  rw [← htx] at hTx
  rw [← hty] at hTy
  obtain ⟨A, hA⟩ : ∃ z : Int, z = (a : Int) := ⟨_, rfl⟩
  obtain ⟨B, hBe⟩ : ∃ z : Int, z = (b : Int) := ⟨_, rfl⟩
  have hPQ : P = Q ↔ (A = B ∧ k = j ∧ v = u) := by
    constructor
    · intro e
      rw [hP, hQ] at e
      obtain ⟨k0, k1⟩ := isKindB_iff.1 hkB
      obtain ⟨j0, j1⟩ := isKindB_iff.1 hjB
      obtain ⟨k', hk'⟩ := Int.eq_ofNat_of_zero_le k0
      obtain ⟨j', hj'⟩ := Int.eq_ofNat_of_zero_le j0
      rw [hk', hj'] at e
      obtain ⟨e1, e2, e3⟩ := evB_inj ha hb (by omega) (by omega) (unsg_lt v) (unsg_lt u) (strOf_inj e)
      exact ⟨by omega, by omega, unsg_inj hv0 hv1 hu0 hu1 e3⟩
    · rintro ⟨e1, e2, e3⟩
      rw [hP, hQ, e2, e3, ← hA, ← hBe, e1]
  have htq : t = q ↔ (A = B ∧ k = j ∧ v = u) := by
    constructor
    · intro e
      rw [htx, hty] at e
      obtain ⟨e1, e2, e3⟩ := evT_inj ha hb hkB hjB (strOf_inj e)
      exact ⟨by omega, e2, e3⟩
    · rintro ⟨e1, e2, e3⟩
      rw [htx, hty, e2, e3, show a = b by omega]
  have HPQ := Lib.hid hPQ
  have HTQ := Lib.hid htq
  rw [← hA] at hMx hBx hTx hS hOf hSo
  rw [← hBe] at hMy hBy hTy
  clear hPQ htq hP hQ htx hty ha hb
  rw [← hBe, ← hA]
  clear hA hBe
  simp only [ev, stv] at hBx hBy hTx hTy hS hOf hSo ⊢
  go_enter Tryd.func5, Tryd.ntmps5
  go_wp2_with fail
  refine (hMx _).mono ?_
  rintro e w1 ⟨rfl, hb1⟩
  have ht1 := ht.below hb1
  go_wp2_with fail
  refine (hMy _).mono ?_
  rintro e w2 ⟨rfl, hb2⟩
  replace ht1 := ht1.below hb2
  have hB := bstep hb1 hb2
  clear hb1 hb2 hMx hMy ht
  simp only [ev]
  go_wp2_with fail
  refine named fun W hW => ?_
  have hX : Blk W w2.heap.size [.int .u64 A, .int .i64 k, .int .i64 v] := by rw [hW]; exact (Blk.is _ rfl).alloc _
  have hY : Blk W (w2.heap.size + 1) [.int .u64 B, .int .i64 j, .int .i64 u] := by rw [hW]; exact Blk.is _ (by simp)
  replace ht1 : Tab2 W := by rw [hW]; exact (ht1.alloc _).alloc _
  replace hB : Below w.heap.size w W := by rw [hW]; exact (hB.alloc hB.size _).alloc (by have := hB.size; simp; omega) _
  obtain ⟨X, hXe⟩ : ∃ X, X = w2.heap.size := ⟨_, rfl⟩
  rw [← hXe] at hX hY ⊢
  obtain ⟨Y, hYe⟩ : ∃ Y, Y = X + 1 := ⟨_, rfl⟩
  rw [← hYe] at hY ⊢
  clear hW hXe hYe
  refine (hBx _).mono ?_
  rintro e w3 ⟨rfl, hb3⟩
  replace hX := hX.later hb3
  replace hY := hY.later hb3
  replace ht1 := ht1.below hb3
  replace hB := bstep hB hb3
  clear hb3 hBx
  have xc0 := hX.cell 0 _ rfl
  have xc1 := hX.cell 1 _ rfl
  have xc2 := hX.cell 2 _ rfl
  have yc0 := hY.cell 0 _ rfl
  have yc1 := hY.cell 1 _ rfl
  have yc2 := hY.cell 2 _ rfl
  go_wp2_with fail
  refine (hBy _).mono ?_
  rintro e w4 ⟨rfl, hb4⟩
  replace hX := hX.later hb4
  replace hY := hY.later hb4
  replace ht1 := ht1.below hb4
  replace hB := bstep hB hb4
  clear hb4 hBy xc0 xc1 xc2 yc0 yc1 yc2
  have xc0 := hX.cell 0 _ rfl
  have xc1 := hX.cell 1 _ rfl
  have xc2 := hX.cell 2 _ rfl
  have yc0 := hY.cell 0 _ rfl
  have yc1 := hY.cell 1 _ rfl
  have yc2 := hY.cell 2 _ rfl
  go_wp2_with fail
  refine (hTx _ ht1).mono ?_
  rintro e w5 ⟨rfl, hb5⟩
  replace hX := hX.later hb5
  replace hY := hY.later hb5
  replace ht1 := ht1.below hb5
  replace hB := bstep hB hb5
  clear hb5 hTx xc0 xc1 xc2 yc0 yc1 yc2
  have xc0 := hX.cell 0 _ rfl
  have xc1 := hX.cell 1 _ rfl
  have xc2 := hX.cell 2 _ rfl
  have yc0 := hY.cell 0 _ rfl
  have yc1 := hY.cell 1 _ rfl
  have yc2 := hY.cell 2 _ rfl
  go_wp2_with fail
  refine (hTy _ ht1).mono ?_
  rintro e w6 ⟨rfl, hb6⟩
  replace hX := hX.later hb6
  replace hY := hY.later hb6
  replace ht1 := ht1.below hb6
  replace hB := bstep hB hb6
  clear hb6 hTy xc0 xc1 xc2 yc0 yc1 yc2
  have xc0 := hX.cell 0 _ rfl
  have xc1 := hX.cell 1 _ rfl
  have xc2 := hX.cell 2 _ rfl
  have yc0 := hY.cell 0 _ rfl
  have yc1 := hY.cell 1 _ rfl
  have yc2 := hY.cell 2 _ rfl
  clear hv0 hv1 hu0 hu1 hkB hjB hN hO
  go_wp2_with fail
  rw [HO.out, ← hN1, ← hT1]
  clear hN1 hT1 hno HO
  refine (hS _).mono ?_
  rintro e w7 ⟨rfl, hb7⟩
  replace hX := hX.later hb7
  replace hY := hY.later hb7
  replace ht1 := ht1.below hb7
  replace hB := bstep hB hb7
  clear hb7 hS xc0 xc1 xc2 yc0 yc1 yc2
  go_upto_region 9 with (fail)
  refine named_wp fun W2 hW => ?_
  have hSt : Blk W2 w7.heap.size [.int .u64 A, .int .u64 N1, .int .u64 O1, .int .u64 T1, .int .i64 k, .int .i64 v] := by rw [hW]; exact Blk.is _ rfl
  replace hX : Blk W2 X [.int .u64 A, .int .i64 k, .int .i64 v] := by rw [hW]; exact hX.alloc _
  replace hY : Blk W2 Y [.int .u64 B, .int .i64 j, .int .i64 u] := by rw [hW]; exact hY.alloc _
  replace ht1 : Tab2 W2 := by rw [hW]; exact ht1.alloc _
  replace hB : Below w.heap.size w W2 := by rw [hW]; exact hB.alloc hB.size _
  obtain ⟨S, hSe⟩ : ∃ S, S = w7.heap.size := ⟨_, rfl⟩
  rw [← hSe] at hSt ⊢
  clear hW hSe
  have xc0 := hX.cell 0 _ rfl
  have xc1 := hX.cell 1 _ rfl
  have xc2 := hX.cell 2 _ rfl
  have yc0 := hY.cell 0 _ rfl
  have yc1 := hY.cell 1 _ rfl
  have yc2 := hY.cell 2 _ rfl
  have sc0 := hSt.cell 0 _ rfl
  have sc1 := hSt.cell 1 _ rfl
  have sc2 := hSt.cell 2 _ rfl
  have sc3 := hSt.cell 3 _ rfl
  have sc4 := hSt.cell 4 _ rfl
  have sc5 := hSt.cell 5 _ rfl
  clear hX hY hSt
  by_cases h1 : A = B
  · subst h1
    by_cases h2 : k = j
    · subst h2
      by_cases h3 : v = u
      · subst h3
        obtain rfl : P = Q := HPQ.out.2 ⟨rfl, rfl, rfl⟩
        obtain rfl : t = q := HTQ.out.2 ⟨rfl, rfl, rfl⟩
        clear HPQ HTQ
        go_region_held3 (fun w' => w'.cell? ⟨X, 0, none⟩ = some (.int .u64 A) ∧ w'.cell? ⟨X, 1, none⟩ = some (.int .i64 k) ∧ w'.cell? ⟨X, 2, none⟩ = some (.int .i64 v) ∧ w'.cell? ⟨Y, 0, none⟩ = some (.int .u64 A) ∧ w'.cell? ⟨Y, 1, none⟩ = some (.int .i64 k) ∧ w'.cell? ⟨Y, 2, none⟩ = some (.int .i64 v) ∧ w'.cell? ⟨S, 0, none⟩ = some (.int .u64 A) ∧ w'.cell? ⟨S, 1, none⟩ = some (.int .u64 N1) ∧ w'.cell? ⟨S, 2, none⟩ = some (.int .u64 O1) ∧ w'.cell? ⟨S, 3, none⟩ = some (.int .u64 T1) ∧ w'.cell? ⟨S, 4, none⟩ = some (.int .i64 k) ∧ w'.cell? ⟨S, 5, none⟩ = some (.int .i64 v) ∧ Tab2 w' ∧ Below w.heap.size w w') (go_keep)
          (first
            | (go_at_call 22; refine (held12t (W := w) (a0 := ⟨X, 0, none⟩) (c0 := .int .u64 A) (a1 := ⟨X, 1, none⟩) (c1 := .int .i64 k) (a2 := ⟨X, 2, none⟩) (c2 := .int .i64 v) (a3 := ⟨Y, 0, none⟩) (c3 := .int .u64 A) (a4 := ⟨Y, 1, none⟩) (c4 := .int .i64 k) (a5 := ⟨Y, 2, none⟩) (c5 := .int .i64 v) (a6 := ⟨S, 0, none⟩) (c6 := .int .u64 A) (a7 := ⟨S, 1, none⟩) (c7 := .int .u64 N1) (a8 := ⟨S, 2, none⟩) (c8 := .int .u64 O1) (a9 := ⟨S, 3, none⟩) (c9 := .int .u64 T1) (a10 := ⟨S, 4, none⟩) (c10 := .int .i64 k) (a11 := ⟨S, 5, none⟩) (c11 := .int .i64 v) hOf ?_ ?_ ?_ ?_ ?_ ?_ ?_ ?_ ?_ ?_ ?_ ?_ ?_ ?_ ).mono ?_; (simp [*]); (simp [*]); (simp [*]); (simp [*]); (simp [*]); (simp [*]); (simp [*]); (simp [*]); (simp [*]); (simp [*]); (simp [*]); (simp [*]); (simp [*]); (simp [*]); rintro e w9 ⟨rfl, g0, g1, g2, g3, g4, g5, g6, g7, g8, g9, g10, g11, g12, g13⟩)
            | (go_at_call 20; refine (held12t (W := w) (a0 := ⟨X, 0, none⟩) (c0 := .int .u64 A) (a1 := ⟨X, 1, none⟩) (c1 := .int .i64 k) (a2 := ⟨X, 2, none⟩) (c2 := .int .i64 v) (a3 := ⟨Y, 0, none⟩) (c3 := .int .u64 A) (a4 := ⟨Y, 1, none⟩) (c4 := .int .i64 k) (a5 := ⟨Y, 2, none⟩) (c5 := .int .i64 v) (a6 := ⟨S, 0, none⟩) (c6 := .int .u64 A) (a7 := ⟨S, 1, none⟩) (c7 := .int .u64 N1) (a8 := ⟨S, 2, none⟩) (c8 := .int .u64 O1) (a9 := ⟨S, 3, none⟩) (c9 := .int .u64 T1) (a10 := ⟨S, 4, none⟩) (c10 := .int .i64 k) (a11 := ⟨S, 5, none⟩) (c11 := .int .i64 v) hSo ?_ ?_ ?_ ?_ ?_ ?_ ?_ ?_ ?_ ?_ ?_ ?_ ?_ ?_ ).mono ?_; (simp [*]); (simp [*]); (simp [*]); (simp [*]); (simp [*]); (simp [*]); (simp [*]); (simp [*]); (simp [*]); (simp [*]); (simp [*]); (simp [*]); (simp [*]); (simp [*]); rintro e w9 ⟨rfl, g0, g1, g2, g3, g4, g5, g6, g7, g8, g9, g10, g11, g12, g13⟩)
            | (go_at_call 7; refine (held12t (W := w) (a0 := ⟨X, 0, none⟩) (c0 := .int .u64 A) (a1 := ⟨X, 1, none⟩) (c1 := .int .i64 k) (a2 := ⟨X, 2, none⟩) (c2 := .int .i64 v) (a3 := ⟨Y, 0, none⟩) (c3 := .int .u64 A) (a4 := ⟨Y, 1, none⟩) (c4 := .int .i64 k) (a5 := ⟨Y, 2, none⟩) (c5 := .int .i64 v) (a6 := ⟨S, 0, none⟩) (c6 := .int .u64 A) (a7 := ⟨S, 1, none⟩) (c7 := .int .u64 N1) (a8 := ⟨S, 2, none⟩) (c8 := .int .u64 O1) (a9 := ⟨S, 3, none⟩) (c9 := .int .u64 T1) (a10 := ⟨S, 4, none⟩) (c10 := .int .i64 k) (a11 := ⟨S, 5, none⟩) (c11 := .int .i64 v) hAw ?_ ?_ ?_ ?_ ?_ ?_ ?_ ?_ ?_ ?_ ?_ ?_ ?_ ?_ ).mono ?_; (simp [*]); (simp [*]); (simp [*]); (simp [*]); (simp [*]); (simp [*]); (simp [*]); (simp [*]); (simp [*]); (simp [*]); (simp [*]); (simp [*]); (simp [*]); (simp [*]); rintro e w9 ⟨rfl, g0, g1, g2, g3, g4, g5, g6, g7, g8, g9, g10, g11, g12, g13⟩))
        go_wp2
        go_ret
        exact ⟨rfl, g13⟩
      · have hb1 : (P.toList == Q.toList) = false := str_ne (fun e => h3 (HPQ.out.1 e).2.2)
        have hb2 : (t.toList == q.toList) = false := str_ne (fun e => h3 (HTQ.out.1 e).2.2)
        clear HPQ HTQ
        go_region_held3 (fun w' => w'.cell? ⟨X, 0, none⟩ = some (.int .u64 A) ∧ w'.cell? ⟨X, 1, none⟩ = some (.int .i64 k) ∧ w'.cell? ⟨X, 2, none⟩ = some (.int .i64 v) ∧ w'.cell? ⟨Y, 0, none⟩ = some (.int .u64 A) ∧ w'.cell? ⟨Y, 1, none⟩ = some (.int .i64 k) ∧ w'.cell? ⟨Y, 2, none⟩ = some (.int .i64 u) ∧ w'.cell? ⟨S, 0, none⟩ = some (.int .u64 A) ∧ w'.cell? ⟨S, 1, none⟩ = some (.int .u64 N1) ∧ w'.cell? ⟨S, 2, none⟩ = some (.int .u64 O1) ∧ w'.cell? ⟨S, 3, none⟩ = some (.int .u64 T1) ∧ w'.cell? ⟨S, 4, none⟩ = some (.int .i64 k) ∧ w'.cell? ⟨S, 5, none⟩ = some (.int .i64 v) ∧ Tab2 w' ∧ Below w.heap.size w w') (go_keep)
          (first
            | (go_at_call 22; refine (held12t (W := w) (a0 := ⟨X, 0, none⟩) (c0 := .int .u64 A) (a1 := ⟨X, 1, none⟩) (c1 := .int .i64 k) (a2 := ⟨X, 2, none⟩) (c2 := .int .i64 v) (a3 := ⟨Y, 0, none⟩) (c3 := .int .u64 A) (a4 := ⟨Y, 1, none⟩) (c4 := .int .i64 k) (a5 := ⟨Y, 2, none⟩) (c5 := .int .i64 u) (a6 := ⟨S, 0, none⟩) (c6 := .int .u64 A) (a7 := ⟨S, 1, none⟩) (c7 := .int .u64 N1) (a8 := ⟨S, 2, none⟩) (c8 := .int .u64 O1) (a9 := ⟨S, 3, none⟩) (c9 := .int .u64 T1) (a10 := ⟨S, 4, none⟩) (c10 := .int .i64 k) (a11 := ⟨S, 5, none⟩) (c11 := .int .i64 v) hOf ?_ ?_ ?_ ?_ ?_ ?_ ?_ ?_ ?_ ?_ ?_ ?_ ?_ ?_ ).mono ?_; (simp [*]); (simp [*]); (simp [*]); (simp [*]); (simp [*]); (simp [*]); (simp [*]); (simp [*]); (simp [*]); (simp [*]); (simp [*]); (simp [*]); (simp [*]); (simp [*]); rintro e w9 ⟨rfl, g0, g1, g2, g3, g4, g5, g6, g7, g8, g9, g10, g11, g12, g13⟩)
            | (go_at_call 20; refine (held12t (W := w) (a0 := ⟨X, 0, none⟩) (c0 := .int .u64 A) (a1 := ⟨X, 1, none⟩) (c1 := .int .i64 k) (a2 := ⟨X, 2, none⟩) (c2 := .int .i64 v) (a3 := ⟨Y, 0, none⟩) (c3 := .int .u64 A) (a4 := ⟨Y, 1, none⟩) (c4 := .int .i64 k) (a5 := ⟨Y, 2, none⟩) (c5 := .int .i64 u) (a6 := ⟨S, 0, none⟩) (c6 := .int .u64 A) (a7 := ⟨S, 1, none⟩) (c7 := .int .u64 N1) (a8 := ⟨S, 2, none⟩) (c8 := .int .u64 O1) (a9 := ⟨S, 3, none⟩) (c9 := .int .u64 T1) (a10 := ⟨S, 4, none⟩) (c10 := .int .i64 k) (a11 := ⟨S, 5, none⟩) (c11 := .int .i64 v) hSo ?_ ?_ ?_ ?_ ?_ ?_ ?_ ?_ ?_ ?_ ?_ ?_ ?_ ?_ ).mono ?_; (simp [*]); (simp [*]); (simp [*]); (simp [*]); (simp [*]); (simp [*]); (simp [*]); (simp [*]); (simp [*]); (simp [*]); (simp [*]); (simp [*]); (simp [*]); (simp [*]); rintro e w9 ⟨rfl, g0, g1, g2, g3, g4, g5, g6, g7, g8, g9, g10, g11, g12, g13⟩)
            | (go_at_call 7; refine (held12t (W := w) (a0 := ⟨X, 0, none⟩) (c0 := .int .u64 A) (a1 := ⟨X, 1, none⟩) (c1 := .int .i64 k) (a2 := ⟨X, 2, none⟩) (c2 := .int .i64 v) (a3 := ⟨Y, 0, none⟩) (c3 := .int .u64 A) (a4 := ⟨Y, 1, none⟩) (c4 := .int .i64 k) (a5 := ⟨Y, 2, none⟩) (c5 := .int .i64 u) (a6 := ⟨S, 0, none⟩) (c6 := .int .u64 A) (a7 := ⟨S, 1, none⟩) (c7 := .int .u64 N1) (a8 := ⟨S, 2, none⟩) (c8 := .int .u64 O1) (a9 := ⟨S, 3, none⟩) (c9 := .int .u64 T1) (a10 := ⟨S, 4, none⟩) (c10 := .int .i64 k) (a11 := ⟨S, 5, none⟩) (c11 := .int .i64 v) hAw ?_ ?_ ?_ ?_ ?_ ?_ ?_ ?_ ?_ ?_ ?_ ?_ ?_ ?_ ).mono ?_; (simp [*]); (simp [*]); (simp [*]); (simp [*]); (simp [*]); (simp [*]); (simp [*]); (simp [*]); (simp [*]); (simp [*]); (simp [*]); (simp [*]); (simp [*]); (simp [*]); rintro e w9 ⟨rfl, g0, g1, g2, g3, g4, g5, g6, g7, g8, g9, g10, g11, g12, g13⟩))
        go_wp2
        go_ret
        exact ⟨rfl, g13⟩
    · have hb1 : (P.toList == Q.toList) = false := str_ne (fun e => h2 (HPQ.out.1 e).2.1)
      have hb2 : (t.toList == q.toList) = false := str_ne (fun e => h2 (HTQ.out.1 e).2.1)
      clear HPQ HTQ
      go_region_held3 (fun w' => w'.cell? ⟨X, 0, none⟩ = some (.int .u64 A) ∧ w'.cell? ⟨X, 1, none⟩ = some (.int .i64 k) ∧ w'.cell? ⟨X, 2, none⟩ = some (.int .i64 v) ∧ w'.cell? ⟨Y, 0, none⟩ = some (.int .u64 A) ∧ w'.cell? ⟨Y, 1, none⟩ = some (.int .i64 j) ∧ w'.cell? ⟨Y, 2, none⟩ = some (.int .i64 u) ∧ w'.cell? ⟨S, 0, none⟩ = some (.int .u64 A) ∧ w'.cell? ⟨S, 1, none⟩ = some (.int .u64 N1) ∧ w'.cell? ⟨S, 2, none⟩ = some (.int .u64 O1) ∧ w'.cell? ⟨S, 3, none⟩ = some (.int .u64 T1) ∧ w'.cell? ⟨S, 4, none⟩ = some (.int .i64 k) ∧ w'.cell? ⟨S, 5, none⟩ = some (.int .i64 v) ∧ Tab2 w' ∧ Below w.heap.size w w') (go_keep)
        (first
          | (go_at_call 22; refine (held12t (W := w) (a0 := ⟨X, 0, none⟩) (c0 := .int .u64 A) (a1 := ⟨X, 1, none⟩) (c1 := .int .i64 k) (a2 := ⟨X, 2, none⟩) (c2 := .int .i64 v) (a3 := ⟨Y, 0, none⟩) (c3 := .int .u64 A) (a4 := ⟨Y, 1, none⟩) (c4 := .int .i64 j) (a5 := ⟨Y, 2, none⟩) (c5 := .int .i64 u) (a6 := ⟨S, 0, none⟩) (c6 := .int .u64 A) (a7 := ⟨S, 1, none⟩) (c7 := .int .u64 N1) (a8 := ⟨S, 2, none⟩) (c8 := .int .u64 O1) (a9 := ⟨S, 3, none⟩) (c9 := .int .u64 T1) (a10 := ⟨S, 4, none⟩) (c10 := .int .i64 k) (a11 := ⟨S, 5, none⟩) (c11 := .int .i64 v) hOf ?_ ?_ ?_ ?_ ?_ ?_ ?_ ?_ ?_ ?_ ?_ ?_ ?_ ?_ ).mono ?_; (simp [*]); (simp [*]); (simp [*]); (simp [*]); (simp [*]); (simp [*]); (simp [*]); (simp [*]); (simp [*]); (simp [*]); (simp [*]); (simp [*]); (simp [*]); (simp [*]); rintro e w9 ⟨rfl, g0, g1, g2, g3, g4, g5, g6, g7, g8, g9, g10, g11, g12, g13⟩)
          | (go_at_call 20; refine (held12t (W := w) (a0 := ⟨X, 0, none⟩) (c0 := .int .u64 A) (a1 := ⟨X, 1, none⟩) (c1 := .int .i64 k) (a2 := ⟨X, 2, none⟩) (c2 := .int .i64 v) (a3 := ⟨Y, 0, none⟩) (c3 := .int .u64 A) (a4 := ⟨Y, 1, none⟩) (c4 := .int .i64 j) (a5 := ⟨Y, 2, none⟩) (c5 := .int .i64 u) (a6 := ⟨S, 0, none⟩) (c6 := .int .u64 A) (a7 := ⟨S, 1, none⟩) (c7 := .int .u64 N1) (a8 := ⟨S, 2, none⟩) (c8 := .int .u64 O1) (a9 := ⟨S, 3, none⟩) (c9 := .int .u64 T1) (a10 := ⟨S, 4, none⟩) (c10 := .int .i64 k) (a11 := ⟨S, 5, none⟩) (c11 := .int .i64 v) hSo ?_ ?_ ?_ ?_ ?_ ?_ ?_ ?_ ?_ ?_ ?_ ?_ ?_ ?_ ).mono ?_; (simp [*]); (simp [*]); (simp [*]); (simp [*]); (simp [*]); (simp [*]); (simp [*]); (simp [*]); (simp [*]); (simp [*]); (simp [*]); (simp [*]); (simp [*]); (simp [*]); rintro e w9 ⟨rfl, g0, g1, g2, g3, g4, g5, g6, g7, g8, g9, g10, g11, g12, g13⟩)
          | (go_at_call 7; refine (held12t (W := w) (a0 := ⟨X, 0, none⟩) (c0 := .int .u64 A) (a1 := ⟨X, 1, none⟩) (c1 := .int .i64 k) (a2 := ⟨X, 2, none⟩) (c2 := .int .i64 v) (a3 := ⟨Y, 0, none⟩) (c3 := .int .u64 A) (a4 := ⟨Y, 1, none⟩) (c4 := .int .i64 j) (a5 := ⟨Y, 2, none⟩) (c5 := .int .i64 u) (a6 := ⟨S, 0, none⟩) (c6 := .int .u64 A) (a7 := ⟨S, 1, none⟩) (c7 := .int .u64 N1) (a8 := ⟨S, 2, none⟩) (c8 := .int .u64 O1) (a9 := ⟨S, 3, none⟩) (c9 := .int .u64 T1) (a10 := ⟨S, 4, none⟩) (c10 := .int .i64 k) (a11 := ⟨S, 5, none⟩) (c11 := .int .i64 v) hAw ?_ ?_ ?_ ?_ ?_ ?_ ?_ ?_ ?_ ?_ ?_ ?_ ?_ ?_ ).mono ?_; (simp [*]); (simp [*]); (simp [*]); (simp [*]); (simp [*]); (simp [*]); (simp [*]); (simp [*]); (simp [*]); (simp [*]); (simp [*]); (simp [*]); (simp [*]); (simp [*]); rintro e w9 ⟨rfl, g0, g1, g2, g3, g4, g5, g6, g7, g8, g9, g10, g11, g12, g13⟩))
      go_wp2
      go_ret
      exact ⟨rfl, g13⟩
  · have hb1 : (P.toList == Q.toList) = false := str_ne (fun e => h1 (HPQ.out.1 e).1)
    have hb2 : (t.toList == q.toList) = false := str_ne (fun e => h1 (HTQ.out.1 e).1)
    clear HPQ HTQ
    go_region_held3 (fun w' => w'.cell? ⟨X, 0, none⟩ = some (.int .u64 A) ∧ w'.cell? ⟨X, 1, none⟩ = some (.int .i64 k) ∧ w'.cell? ⟨X, 2, none⟩ = some (.int .i64 v) ∧ w'.cell? ⟨Y, 0, none⟩ = some (.int .u64 B) ∧ w'.cell? ⟨Y, 1, none⟩ = some (.int .i64 j) ∧ w'.cell? ⟨Y, 2, none⟩ = some (.int .i64 u) ∧ w'.cell? ⟨S, 0, none⟩ = some (.int .u64 A) ∧ w'.cell? ⟨S, 1, none⟩ = some (.int .u64 N1) ∧ w'.cell? ⟨S, 2, none⟩ = some (.int .u64 O1) ∧ w'.cell? ⟨S, 3, none⟩ = some (.int .u64 T1) ∧ w'.cell? ⟨S, 4, none⟩ = some (.int .i64 k) ∧ w'.cell? ⟨S, 5, none⟩ = some (.int .i64 v) ∧ Tab2 w' ∧ Below w.heap.size w w') (go_keep)
      (first
        | (go_at_call 22; refine (held12t (W := w) (a0 := ⟨X, 0, none⟩) (c0 := .int .u64 A) (a1 := ⟨X, 1, none⟩) (c1 := .int .i64 k) (a2 := ⟨X, 2, none⟩) (c2 := .int .i64 v) (a3 := ⟨Y, 0, none⟩) (c3 := .int .u64 B) (a4 := ⟨Y, 1, none⟩) (c4 := .int .i64 j) (a5 := ⟨Y, 2, none⟩) (c5 := .int .i64 u) (a6 := ⟨S, 0, none⟩) (c6 := .int .u64 A) (a7 := ⟨S, 1, none⟩) (c7 := .int .u64 N1) (a8 := ⟨S, 2, none⟩) (c8 := .int .u64 O1) (a9 := ⟨S, 3, none⟩) (c9 := .int .u64 T1) (a10 := ⟨S, 4, none⟩) (c10 := .int .i64 k) (a11 := ⟨S, 5, none⟩) (c11 := .int .i64 v) hOf ?_ ?_ ?_ ?_ ?_ ?_ ?_ ?_ ?_ ?_ ?_ ?_ ?_ ?_ ).mono ?_; (simp [*]); (simp [*]); (simp [*]); (simp [*]); (simp [*]); (simp [*]); (simp [*]); (simp [*]); (simp [*]); (simp [*]); (simp [*]); (simp [*]); (simp [*]); (simp [*]); rintro e w9 ⟨rfl, g0, g1, g2, g3, g4, g5, g6, g7, g8, g9, g10, g11, g12, g13⟩)
        | (go_at_call 20; refine (held12t (W := w) (a0 := ⟨X, 0, none⟩) (c0 := .int .u64 A) (a1 := ⟨X, 1, none⟩) (c1 := .int .i64 k) (a2 := ⟨X, 2, none⟩) (c2 := .int .i64 v) (a3 := ⟨Y, 0, none⟩) (c3 := .int .u64 B) (a4 := ⟨Y, 1, none⟩) (c4 := .int .i64 j) (a5 := ⟨Y, 2, none⟩) (c5 := .int .i64 u) (a6 := ⟨S, 0, none⟩) (c6 := .int .u64 A) (a7 := ⟨S, 1, none⟩) (c7 := .int .u64 N1) (a8 := ⟨S, 2, none⟩) (c8 := .int .u64 O1) (a9 := ⟨S, 3, none⟩) (c9 := .int .u64 T1) (a10 := ⟨S, 4, none⟩) (c10 := .int .i64 k) (a11 := ⟨S, 5, none⟩) (c11 := .int .i64 v) hSo ?_ ?_ ?_ ?_ ?_ ?_ ?_ ?_ ?_ ?_ ?_ ?_ ?_ ?_ ).mono ?_; (simp [*]); (simp [*]); (simp [*]); (simp [*]); (simp [*]); (simp [*]); (simp [*]); (simp [*]); (simp [*]); (simp [*]); (simp [*]); (simp [*]); (simp [*]); (simp [*]); rintro e w9 ⟨rfl, g0, g1, g2, g3, g4, g5, g6, g7, g8, g9, g10, g11, g12, g13⟩)
        | (go_at_call 7; refine (held12t (W := w) (a0 := ⟨X, 0, none⟩) (c0 := .int .u64 A) (a1 := ⟨X, 1, none⟩) (c1 := .int .i64 k) (a2 := ⟨X, 2, none⟩) (c2 := .int .i64 v) (a3 := ⟨Y, 0, none⟩) (c3 := .int .u64 B) (a4 := ⟨Y, 1, none⟩) (c4 := .int .i64 j) (a5 := ⟨Y, 2, none⟩) (c5 := .int .i64 u) (a6 := ⟨S, 0, none⟩) (c6 := .int .u64 A) (a7 := ⟨S, 1, none⟩) (c7 := .int .u64 N1) (a8 := ⟨S, 2, none⟩) (c8 := .int .u64 O1) (a9 := ⟨S, 3, none⟩) (c9 := .int .u64 T1) (a10 := ⟨S, 4, none⟩) (c10 := .int .i64 k) (a11 := ⟨S, 5, none⟩) (c11 := .int .i64 v) hAw ?_ ?_ ?_ ?_ ?_ ?_ ?_ ?_ ?_ ?_ ?_ ?_ ?_ ?_ ).mono ?_; (simp [*]); (simp [*]); (simp [*]); (simp [*]); (simp [*]); (simp [*]); (simp [*]); (simp [*]); (simp [*]); (simp [*]); (simp [*]); (simp [*]); (simp [*]); (simp [*]); rintro e w9 ⟨rfl, g0, g1, g2, g3, g4, g5, g6, g7, g8, g9, g10, g11, g12, g13⟩))
    go_wp2
    go_ret
    exact ⟨rfl, g13⟩
end Go.Proofs.YtcmdndgaggbhoaaDoor.Ev
