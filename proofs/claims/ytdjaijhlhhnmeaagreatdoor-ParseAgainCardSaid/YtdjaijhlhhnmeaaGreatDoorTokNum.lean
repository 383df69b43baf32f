/- Numbers of tokens. -/
import Derived.Test.YtdjaijhlhhnmeaaGreatDoorTokTwo
import Derived.Test.YtdjaijhlhhnmeaaGreatDoorSumOne
import Derived.Test.YtdjaijhlhhnmeaaGreatDoorShelfNum
import Derived.Test.YtdjaijhlhhnmeaaGreatDoorTokRef
namespace Go.Proofs.YtdjaijhlhhnmeaaGreatDoor
open Go.RowKit
open Tk7

theorem isD_dig (b : UInt8) : Sm.isD b = digB b := rfl
theorem while_all {p : UInt8 → Bool} : ∀ {r : List UInt8}, (r.takeWhile p).length = r.length → r.takeWhile p = r ∧ ∀ b ∈ r, p b = true := by
  intro r
  induction r with
  | nil => intro _; exact ⟨rfl, fun b hb => by cases hb⟩
  | cons c r ih =>
    intro h
    cases hc : p c with
    | false => rw [List.takeWhile_cons, if_neg (by rw [hc]; decide)] at h; simp at h
    | true =>
      rw [List.takeWhile_cons, if_pos hc, List.length_cons, List.length_cons] at h
      obtain ⟨h1, h2⟩ := ih (by omega)
      refine ⟨by rw [List.takeWhile_cons, if_pos hc, h1], fun b hb => ?_⟩
      rcases List.mem_cons.1 hb with rfl | hb
      · exact hc
      · exact h2 b hb
theorem sm_dig {d : UInt8} {ds : List UInt8} (h : ∀ b ∈ d :: ds, digB b = true) (h2 : d = 48 → ds = []) : Sm.digB (d :: ds) = true := by
  rw [Sm.digB_cons]
  refine ⟨h, fun h3 => h2 ?_⟩
  apply UInt8.toNat_inj.1
  exact h3
/-- A token that is a number is written as said. -/
theorem tok3_form {l : List UInt8} (h : isTok 3 l = true) : Sm.formB l = true := by
  obtain ⟨h1, h2⟩ := isTok_iff.1 h
  cases l with
  | nil => exact absurd rfl h2
  | cons b r =>
    simp only [begG] at h1
    split at h1
    · cases h1
    · split at h1
      · cases h1
      · split at h1
        · rename_i hb
          have hn : numG b r = r.length + 1 := congrArg Prod.snd h1
          by_cases hm : b = 45
          · subst hm
            have h3 : numG 45 r = if rightD true (r.takeWhile digB) then (r.takeWhile digB).length + 1 else 0 := rfl
            rw [h3] at hn
            split at hn
            · rename_i hr
              obtain ⟨h4, h5⟩ := while_all (show (r.takeWhile digB).length = r.length by omega)
              rw [h4] at hr
              unfold Sm.formB
              have hmin : Sm.minB (45 :: r) = true := rfl
              have hrest : Sm.restL (45 :: r) = r := by unfold Sm.restL; rw [if_pos hmin]; rfl
              rw [hrest, hmin]
              cases r with
              | nil => simp [rightD] at hr
              | cons c r =>
                have hc : ¬ c = 48 := by simp [rightD] at hr; exact hr
                rw [sm_dig h5 (fun e => absurd e hc)]
                simp [hc]
            · omega
          · have h3 : numG b r = if rightD false (b :: r.takeWhile digB) then (r.takeWhile digB).length + 1 else 0 := by unfold numG; rw [if_neg (by rw [beq_iff_eq]; exact hm)]
            have hmb : (b == 45) = false := by rw [beq_eq_false_iff_ne]; exact hm
            rw [hmb, Bool.or_false] at hb
            rw [h3] at hn
            split at hn
            · rename_i hr
              obtain ⟨h4, h5⟩ := while_all (show (r.takeWhile digB).length = r.length by omega)
              rw [h4] at hr
              unfold Sm.formB
              have hmin : Sm.minB (b :: r) = false := by unfold Sm.minB; simp [hm]
              have hrest : Sm.restL (b :: r) = b :: r := by unfold Sm.restL; rw [if_neg (by rw [hmin]; decide)]
              rw [hrest, hmin, sm_dig (fun x hx => by rcases List.mem_cons.1 hx with rfl | hx; exact hb; exact h5 x hx) (fun e => by
                subst e
                simpa [rightD] using hr)]
              rfl
            · omega
        · cases h1
/-- The value of a number within limits, and the error beside it. -/
def numE (x : TK) (lo hi : Int) : Int × Int :=
  if ¬ checkI x = 0 then (0, checkI x) else if ¬ x.1 = 3 then (0, 11) else if Sm.okI (Sm.valV x.2.1) = true ∧ lo ≤ Sm.valV x.2.1 ∧ Sm.valV x.2.1 ≤ hi then (Sm.valV x.2.1, 0) else (0, 2)
/-- The variable holds an error. -/
def ER (w : World) : Prop := 6 < w.heap.size ∧ ∃ ev, w.cell? ⟨6, 0, none⟩ = some ev ∧ (ev = .nilIface ∨ ∃ te pe, ev = .iface te pe)
theorem ER.later {w w' : World} (h : ER w) (hb : Below w.heap.size w w') : ER w' := by
  obtain ⟨h1, ev, h2, h3⟩ := h
  exact ⟨Nat.lt_of_lt_of_le h1 hb.size, ev, (hb.cell (p := ⟨6, 0, none⟩) h1).trans h2, h3⟩
theorem parse_ok (s : ByteArray) (hs : s.size ≤ 100000000) (v : Int) (h : Lib.parseIntB 64 s.data.toList = .ok v) (w : World) :
    Calls Tryz.prog 172 #[.string s, .int .i64 10, .int .i64 64] w fun e w' => e = .returned (.tuple #[.int .i64 v, .nilIface]) ∧ Below w.heap.size w w' :=
  (Tryz.strconv_ParseInt_10_at64_ok s (by omega) v h w).mono fun _ _ ⟨he, hw⟩ => ⟨he, by rcases hw with rfl | ⟨t, rfl⟩; exact Below.refl _ _; exact Lib.bytesWorld_below _ _ _⟩
theorem parse_range (s : ByteArray) (hs : s.size ≤ 100000000) (h : Lib.parseIntB 64 s.data.toList = .range) (w : World) (ht : ER w) :
    Calls Tryz.prog 172 #[.string s, .int .i64 10, .int .i64 64] w fun e w' => ∃ v t p, e = .returned (.tuple #[.int .i64 v, .iface t p]) ∧ Below w.heap.size w w' := by
  obtain ⟨_, ev, h1, h2⟩ := ht
  exact (Tryz.strconv_ParseInt_10_at64_range s (by omega) h ev w h1 h2).mono fun _ _ ⟨_, he, _, _, hb⟩ => ⟨_, _, _, he, hb⟩
set_option maxRecDepth 100000 in
set_option maxHeartbeats 4000000 in
theorem number_any (K : Int) (l : List UInt8) (a lo hi : Int) (hl : l.length ≤ 100000000) (w : World) (hG : SG w) (hR : ER w) :
    Calls Tryz.prog 126 #[.agg #[.int .i64 K, .string (strOf l), .int .i64 a], .int .i64 lo, .int .i64 hi] w fun e w' => e = .returned (.tuple #[.int .i64 (numE (K, l, a) lo hi).1, .int .i64 (numE (K, l, a) lo hi).2]) ∧ Below w.heap.size w w' := by
  have hE : numE (K, l, a) lo hi = if ¬ checkI (K, l, a) = 0 then (0, checkI (K, l, a)) else if ¬ K = 3 then (0, 11) else if Sm.okI (Sm.valV l) = true ∧ lo ≤ Sm.valV l ∧ Sm.valV l ≤ hi then (Sm.valV l, 0) else (0, 2) := rfl
  have hC := fun w hG => check_any K l a (by unfold maxLen; omega) w hG
  have hT : checkI (K, l, a) = 0 → K = 3 → isTok 3 l = true := by
    intro h1 h2
    subst h2
    unfold checkI at h1
    simp only at h1
    rw [if_neg (by omega)] at h1
    cases ht : isTok 3 l with
    | true => rfl
    | false => rw [if_pos (show isTok (Int.toNat 3) l = false from ht)] at h1; exact absurd h1 (by decide)
  have hG1 := hG.later (below1 w (.cells #[.int .i64 K, .string (strOf l), .int .i64 a] 130))
  have hR1 := hR.later (below1 w (.cells #[.int .i64 K, .string (strOf l), .int .i64 a] 130))
  have hbx : ∀ w2 : World, Below (w.alloc (.cells #[.int .i64 K, .string (strOf l), .int .i64 a] 130)).heap.size (w.alloc (.cells #[.int .i64 K, .string (strOf l), .int .i64 a] 130)) w2 → Blk w2 w.heap.size [.int .i64 K, .string (strOf l), .int .i64 a] ∧ Below w.heap.size w w2 := fun w2 hb => ⟨(Blk.is _ rfl).later hb, bstep (below1 w _) hb⟩
  have hsz : (strOf l).size ≤ 100000000 := by rw [strOf_size]; exact hl
  obtain ⟨c, hc⟩ : ∃ c, c = checkI (K, l, a) := ⟨_, rfl⟩
  rw [← hc] at hE hC hT
  clear hc
  by_cases h1 : c = 0
  · rw [if_neg (fun h => h h1)] at hE
    subst h1
    by_cases h2 : K = 3
    · rw [if_neg (fun h => h h2)] at hE
      have hp := Sm.parseI_form (tok3_form (hT rfl h2))
      subst h2
      obtain ⟨v, hv⟩ : ∃ v, v = Sm.valV l := ⟨_, rfl⟩
      rw [← hv] at hE hp
      clear hT hv
      by_cases h3 : Sm.okI v = true
      · rw [if_pos h3, ← strOf_dat l] at hp
        have hP := fun w => parse_ok (strOf l) hsz v hp w
        obtain ⟨S, hS⟩ : ∃ S, S = strOf l := ⟨_, rfl⟩
        rw [← hS] at hC hG1 hbx hP ⊢
        clear hp hS hsz hR hR1
        by_cases h4 : lo ≤ v
        · by_cases h5 : v ≤ hi
          · rw [if_pos ⟨h3, h4, h5⟩] at hE
            rw [hE]
            have n4 : ¬ v < lo := by omega
            have n5 : ¬ hi < v := by omega
            clear hE h3
            go_enter Tryz.func126, Tryz.ntmps126
            go_wp2_with (first | (go_at_call 167; refine (hC _ hG1).mono ?_; rintro e w2 ⟨rfl, hb2⟩; obtain ⟨hq, hB2⟩ := hbx w2 hb2; have c0 := hq.cell 0 _ rfl; have c1 := hq.cell 1 _ rfl; have c2 := hq.cell 2 _ rfl; have hql := hq.lt) | (go_at_call 172; refine (hP _).mono ?_; rintro e w3 ⟨rfl, hb3⟩))
            exact bodyPost_ret (v := .tuple #[.int .i64 v, .int .i64 0]) (by simp [results, Tryz.results126, go_sem]; try rfl) rfl ⟨rfl, bstep hB2 hb3⟩
          · rw [if_neg (fun h => h5 h.2.2)] at hE
            rw [hE]
            have n4 : ¬ v < lo := by omega
            have n5 : hi < v := by omega
            clear hE h3
            go_enter Tryz.func126, Tryz.ntmps126
            go_wp2_with (first | (go_at_call 167; refine (hC _ hG1).mono ?_; rintro e w2 ⟨rfl, hb2⟩; obtain ⟨hq, hB2⟩ := hbx w2 hb2; have c0 := hq.cell 0 _ rfl; have c1 := hq.cell 1 _ rfl; have c2 := hq.cell 2 _ rfl; have hql := hq.lt) | (go_at_call 172; refine (hP _).mono ?_; rintro e w3 ⟨rfl, hb3⟩))
            exact bodyPost_ret (v := .tuple #[.int .i64 0, .int .i64 2]) (by simp [results, Tryz.results126, go_sem]; try rfl) rfl ⟨rfl, bstep hB2 hb3⟩
        · rw [if_neg (fun h => h4 h.2.1)] at hE
          rw [hE]
          have n4 : v < lo := by omega
          clear hE h3
          go_enter Tryz.func126, Tryz.ntmps126
          go_wp2_with (first | (go_at_call 167; refine (hC _ hG1).mono ?_; rintro e w2 ⟨rfl, hb2⟩; obtain ⟨hq, hB2⟩ := hbx w2 hb2; have c0 := hq.cell 0 _ rfl; have c1 := hq.cell 1 _ rfl; have c2 := hq.cell 2 _ rfl; have hql := hq.lt) | (go_at_call 172; refine (hP _).mono ?_; rintro e w3 ⟨rfl, hb3⟩))
          exact bodyPost_ret (v := .tuple #[.int .i64 0, .int .i64 2]) (by simp [results, Tryz.results126, go_sem]; try rfl) rfl ⟨rfl, bstep hB2 hb3⟩
      · rw [if_neg h3, ← strOf_dat l] at hp
        rw [if_neg (fun h => h3 h.1)] at hE
        rw [hE]
        have hP := fun w ht => parse_range (strOf l) hsz hp w ht
        obtain ⟨S, hS⟩ : ∃ S, S = strOf l := ⟨_, rfl⟩
        rw [← hS] at hC hG1 hR1 hbx hP ⊢
        clear hp hS hsz hE h3
        go_enter Tryz.func126, Tryz.ntmps126
        go_wp2_with (first | (go_at_call 167; refine (hC _ hG1).mono ?_; rintro e w2 ⟨rfl, hb2⟩; obtain ⟨hq, hB2⟩ := hbx w2 hb2; have c0 := hq.cell 0 _ rfl; have c1 := hq.cell 1 _ rfl; have c2 := hq.cell 2 _ rfl; have hql := hq.lt) | (go_at_call 172; refine (hP _ (hR1.later hb2)).mono ?_; rintro e w3 ⟨v3, t3, p3, rfl, hb3⟩))
        exact bodyPost_ret (v := .tuple #[.int .i64 0, .int .i64 2]) (by simp [results, Tryz.results126, go_sem]; try rfl) rfl ⟨rfl, bstep hB2 hb3⟩
    · rw [if_pos h2] at hE
      rw [hE]
      have n2 : (K == 3) = false := by rw [beq_eq_false_iff_ne]; exact h2
      obtain ⟨S, hS⟩ : ∃ S, S = strOf l := ⟨_, rfl⟩
      rw [← hS] at hC hG1 hbx ⊢
      clear hE hT hS hsz hR hR1
      go_enter Tryz.func126, Tryz.ntmps126
      go_wp2_with (go_at_call 167; refine (hC _ hG1).mono ?_; rintro e w2 ⟨rfl, hb2⟩; obtain ⟨hq, hB2⟩ := hbx w2 hb2; have c0 := hq.cell 0 _ rfl; have c1 := hq.cell 1 _ rfl; have c2 := hq.cell 2 _ rfl; have hql := hq.lt)
      exact bodyPost_ret (v := .tuple #[.int .i64 0, .int .i64 11]) (by simp [results, Tryz.results126, go_sem]; try rfl) rfl ⟨rfl, hB2⟩
  · rw [if_pos h1] at hE
    rw [hE]
    have n1 : (c == 0) = false := by rw [beq_eq_false_iff_ne]; exact h1
    obtain ⟨S, hS⟩ : ∃ S, S = strOf l := ⟨_, rfl⟩
    rw [← hS] at hC hG1 hbx ⊢
    clear hE hT hS hsz hR hR1
    go_enter Tryz.func126, Tryz.ntmps126
    go_wp2_with (go_at_call 167; refine (hC _ hG1).mono ?_; rintro e w2 ⟨rfl, hb2⟩; obtain ⟨hq, hB2⟩ := hbx w2 hb2; have c0 := hq.cell 0 _ rfl; have c1 := hq.cell 1 _ rfl; have c2 := hq.cell 2 _ rfl; have hql := hq.lt)
    exact bodyPost_ret (v := .tuple #[.int .i64 0, .int .i64 c]) (by simp [results, Tryz.results126, go_sem]; try rfl) rfl ⟨rfl, hB2⟩
end Go.Proofs.YtdjaijhlhhnmeaaGreatDoor
namespace Go.Proofs.YtdjaijhlhhnmeaaGreatDoor
open Go.RowKit
open Tk7

/-- What the digits give: the number and whether it is one of 64 bits. -/
def valR (l : List UInt8) : Int × Bool :=
  if 9223372036854775808 < Sm.decN 0 (Sm.restL l) then (0, false)
  else if Sm.minB l = true then (-(Sm.decN 0 (Sm.restL l) : Int), true) else (IntKind.i64.wrap (Sm.decN 0 (Sm.restL l) : Int), decide (Sm.decN 0 (Sm.restL l) < 9223372036854775808))
theorem val_num {l : List UInt8} (x : Int) (p : Bool) (h : valR l = (x, p)) :
    (Sm.okI (Sm.valV l) = true → p = true ∧ x = Sm.valV l) ∧ (Sm.okI (Sm.valV l) = false → p = false) := by
  unfold valR at h
  unfold Sm.valV
  generalize Sm.decN 0 (Sm.restL l) = n at h ⊢
  constructor
  · intro ho
    rw [Sm.okI_iff] at ho
    by_cases h1 : 9223372036854775808 < n
    · exfalso
      split at ho <;> omega
    · rw [if_neg h1] at h
      by_cases h2 : Sm.minB l = true
      · rw [if_pos h2] at h ho ⊢
        cases h
        exact ⟨rfl, rfl⟩
      · rw [if_neg h2] at h ho ⊢
        have h3 : n < 9223372036854775808 := by omega
        rw [decide_eq_true h3] at h
        have h4 : IntKind.i64.wrap (n : Int) = (n : Int) := IntWalk.i64_in _ ⟨by omega, by omega⟩
        rw [h4] at h
        cases h
        exact ⟨rfl, rfl⟩
  · intro ho
    rw [Sm.okI_not] at ho
    by_cases h1 : 9223372036854775808 < n
    · rw [if_pos h1] at h; cases h; rfl
    · rw [if_neg h1] at h
      by_cases h2 : Sm.minB l = true
      · rw [if_pos h2] at ho; exfalso; omega
      · rw [if_neg h2] at h ho
        have h3 : ¬ n < 9223372036854775808 := by omega
        rw [decide_eq_false h3] at h
        cases h
        rfl
theorem dec_take (r : List UInt8) (j : Nat) (hj : j < r.length) : Sm.decN 0 (r.take (j + 1)) = 10 * Sm.decN 0 (r.take j) + ((r[j]'hj).toNat - 48) := by
  rw [take_snoc _ _ hj, Sm.decN_snoc]
theorem dec_mono (r : List UInt8) (j : Nat) : Sm.decN 0 (r.take j) ≤ Sm.decN 0 r := by
  conv => rhs; rw [← List.take_append_drop j r]
  unfold Sm.decN
  rw [List.foldl_append]
  exact Sm.decN_ge _ _
end Go.Proofs.YtdjaijhlhhnmeaaGreatDoor
namespace Go.Proofs.YtdjaijhlhhnmeaaGreatDoor
open Go.RowKit
open Tk7

theorem neg_wrap (n : Nat) (h : n ≤ 9223372036854775808) : IntKind.i64.wrap (-(IntKind.i64.wrap (n : Int))) = -(n : Int) := by
  rcases Nat.lt_or_ge n 9223372036854775808 with h1 | h1
  · rw [IntWalk.i64_in (n : Int) ⟨by omega, by omega⟩, IntWalk.i64_in _ ⟨by omega, by omega⟩]
  · obtain rfl : n = 9223372036854775808 := by omega
    decide
set_option maxRecDepth 100000 in
set_option maxHeartbeats 4000000 in
theorem rvalue_dig (l : List UInt8) (h0 : 0 < l.length) (hl : l.length ≤ 1000000) (hm : Sm.minB l = false) (hd : ∀ b ∈ Sm.restL l, digB b = true) (w : World) :
    Calls Tryz.prog 176 #[.string (strOf l)] w fun e w' => e = .returned (.tuple #[.int .i64 (valR l).1, .bool (valR l).2]) ∧ w = w' := by
  have hsz : (strOf l).size = l.length := strOf_size l
  have q0 : 0 < (strOf l).size := by omega
  have hx0 : ((strOf l)[0]'q0) = l[0]'h0 := rfl
  have hm45 : Sm.minB l = true ↔ l[0]'h0 = 45 := by
    cases l with
    | nil => cases h0
    | cons b l => simp [Sm.minB]
  obtain ⟨c, hc⟩ : ∃ c : Int, ((((strOf l)[0]'q0).toNat : Nat) : Int) = c := ⟨_, rfl⟩
  have hc45 : (c == 45) = false := by
    have h1 := u8_is (b := l[0]'h0) (n := 45) (by decide)
    rw [← hc, hx0]
    rw [beq_eq_false_iff_ne]; intro e; have := hm45.2 (h1.2 e); rw [hm] at this; cases this
  have g1 : (0 : Int) < (l.length : Int) := by omega
  have hrest : Sm.restL l = l := by unfold Sm.restL; rw [hm]; rfl
  have hV : valR l = if 9223372036854775808 < Sm.decN 0 (Sm.restL l) then (0, false) else (IntKind.i64.wrap (Sm.decN 0 (Sm.restL l) : Int), decide (Sm.decN 0 (Sm.restL l) < 9223372036854775808)) := by unfold valR; rw [hm]; rfl
  rw [hrest] at hV hd
  have hrs : (strOf l).size = l.length := strOf_size l
  have g2 : (1 : Int) ≤ (l.length : Int) := by omega
  have HV := Lib.hid hV
  have HD := Lib.hid hd
  clear hx0 hm hm45 hrest hV hd
  go_enter Tryz.func176, Tryz.ntmps176
  go_wp2
  go_loopg [5, 6] l.length (fun g xv iv wr => ∃ (j n : Nat), j ≤ l.length ∧ g = l.length - j ∧ xv = .int .u64 (n : Int) ∧ iv = .int .i64 (j : Int) ∧ w = wr ∧ n ≤ 9223372036854775808 ∧ Hid (n = Sm.decN 0 (l.take j)))
  case atStart => exact ⟨0, 0, by omega, rfl, rfl, rfl, by first | rfl | trivial, by omega, Lib.hid rfl⟩
  case round =>
    obtain ⟨j, n, hj, hg, rfl, rfl, rfl, hn, hN⟩ := hrel
    have k1 : (0 : Int) ≤ (j : Int) := by omega
    by_cases hz : j < l.length
    · have k2 : (j : Int) < (l.length : Int) := by omega
      have qj : j < (strOf l).size := by rw [hrs]; exact hz
      have hb := (digB_iff (b := l[j]'hz)).1 (HD.out _ (List.getElem_mem hz))
      have hxj : ((strOf l)[j]'qj) = l[j]'hz := rfl
      have hdt := dec_take l j hz
      have hmo := dec_mono l (j + 1)
      rw [← hN.out] at hdt
      obtain ⟨x, hx⟩ : ∃ x : Int, ((((strOf l)[j]'qj).toNat : Nat) : Int) = x := ⟨_, rfl⟩
      obtain ⟨d, hd⟩ : ∃ d : Nat, d = (l[j]'hz).toNat - 48 := ⟨_, rfl⟩
      have hxd : x = (d : Int) + 48 := by rw [← hx, hxj]; omega
      rw [← hd] at hdt
      have hd9 : d ≤ 9 := by omega
      have w1 : IntKind.u8.wrap (x - 48) = (d : Int) := by rw [hxd, IntKind.wrap_u8]; omega
      have w2 : IntKind.u64.wrap (d : Int) = (d : Int) := by rw [IntKind.wrap_u64]; omega
      obtain ⟨q, hq⟩ : ∃ q : Nat, q = (9223372036854775808 - d) / 10 := ⟨_, rfl⟩
      have w3 : IntKind.u64.wrap (9223372036854775808 - (d : Int)) = ((9223372036854775808 - d : Nat) : Int) := by rw [IntKind.wrap_u64]; omega
      have w4 : IntKind.u64.wrap (Int.tdiv ((9223372036854775808 - d : Nat) : Int) 10) = (q : Int) := by rw [Int.tdiv_eq_ediv_of_nonneg (by omega), IntKind.wrap_u64]; omega
      obtain ⟨y, hy⟩ : ∃ y : Int, y = ((9223372036854775808 - d : Nat) : Int) := ⟨_, rfl⟩
      rw [← hy] at w3 w4
      have hwi : IntKind.i64.wrap ((j : Int) + 1) = (j : Int) + 1 := IntWalk.i64_in _ ⟨by omega, by omega⟩
      by_cases hov : q < n
      · have k3 : (q : Int) < (n : Int) := by omega
        have e1 := Lib.hid (show valR l = (0, false) by rw [HV.out, if_pos (by omega)])
        clear hxj hdt hmo hd hxd hq hy hb
        go_wp2
        exact bodyPost_ret (v := .tuple #[.int .i64 0, .bool false]) (by simp [results, Tryz.results176, go_sem]; try rfl) rfl ⟨by rw [e1.out], by first | rfl | trivial⟩
      · have k3 : ¬ (q : Int) < (n : Int) := by omega
        have w5 : IntKind.u64.wrap (10 * (n : Int)) = ((10 * n : Nat) : Int) := by rw [IntKind.wrap_u64]; omega
        have w6 : IntKind.u64.wrap (((10 * n : Nat) : Int) + (d : Int)) = ((10 * n + d : Nat) : Int) := by rw [IntKind.wrap_u64]; omega
        have hn2 : 10 * n + d ≤ 9223372036854775808 := by omega
        have hN2 := Lib.hid hdt.symm
        obtain ⟨z, hz1⟩ : ∃ z : Int, z = ((10 * n : Nat) : Int) := ⟨_, rfl⟩
        rw [← hz1] at w5 w6
        obtain ⟨n2, hz2⟩ : ∃ n2 : Nat, n2 = 10 * n + d := ⟨_, rfl⟩
        rw [← hz2] at w6 hn2 hN2
        clear hxj hdt hmo hd hxd hq hy hb hz1 hz2 hN
        go_wp2
        go_roundg (l.length - (j + 1))
        case rel => exact ⟨j + 1, n2, by omega, rfl, rfl, by go_num, by first | rfl | trivial, hn2, hN2⟩
        case measure => omega
    · have k2 : ¬ (j : Int) < (l.length : Int) := by omega
      have hjr : l.take j = l := List.take_of_length_le (by omega)
      have hN2 : n = Sm.decN 0 l := by rw [hN.out, hjr]
      have e1 := Lib.hid (show valR l = (IntKind.i64.wrap (n : Int), decide (n < 9223372036854775808)) by rw [HV.out, ← hN2, if_neg (by omega)])
      obtain ⟨y, hy⟩ : ∃ y : Int, y = IntKind.i64.wrap (n : Int) := ⟨_, rfl⟩
      have w1 : IntKind.i64.wrap (n : Int) = y := hy.symm
      rw [← hy] at e1
      obtain ⟨p, hp⟩ : ∃ p : Bool, p = decide (n < 9223372036854775808) := ⟨_, rfl⟩
      have p1 : decide ((n : Int) < 9223372036854775808) = p := by rw [hp]; simp only [decide_eq_decide]; omega
      rw [← hp] at e1
      have p2 : decide (n < 9223372036854775808) = p := hp.symm
      clear hN hN2 hjr hy hp
      go_wp2
      exact bodyPost_ret (v := .tuple #[.int .i64 y, .bool p]) (by simp [results, Tryz.results176, go_sem]; try rfl) rfl ⟨by rw [e1.out], by first | rfl | trivial⟩
set_option maxRecDepth 100000 in
set_option maxHeartbeats 4000000 in
theorem rvalue_min (l : List UInt8) (h0 : 0 < l.length) (hl : l.length ≤ 1000000) (hm : Sm.minB l = true) (hd : ∀ b ∈ Sm.restL l, digB b = true) (w : World) :
    Calls Tryz.prog 176 #[.string (strOf l)] w fun e w' => e = .returned (.tuple #[.int .i64 (valR l).1, .bool (valR l).2]) ∧ w = w' := by
  have hsz : (strOf l).size = l.length := strOf_size l
  have q0 : 0 < (strOf l).size := by omega
  have hx0 : ((strOf l)[0]'q0) = l[0]'h0 := rfl
  have hm45 : Sm.minB l = true ↔ l[0]'h0 = 45 := by
    cases l with
    | nil => cases h0
    | cons b r => simp [Sm.minB]
  obtain ⟨c, hc⟩ : ∃ c : Int, ((((strOf l)[0]'q0).toNat : Nat) : Int) = c := ⟨_, rfl⟩
  have hc45 : (c == 45) = true := by
    have h1 := u8_is (b := l[0]'h0) (n := 45) (by decide)
    rw [← hc, hx0]
    rw [beq_iff_eq]; exact h1.1 (hm45.1 hm)
  have g1 : (0 : Int) < (l.length : Int) := by omega
  have hrest : Sm.restL l = l.drop 1 := by unfold Sm.restL; rw [hm]; cases l <;> rfl
  have hV : valR l = if 9223372036854775808 < Sm.decN 0 (Sm.restL l) then (0, false) else (-(Sm.decN 0 (Sm.restL l) : Int), true) := by unfold valR; rw [hm]; rfl
  obtain ⟨r, hr⟩ : ∃ r, r = Sm.restL l := ⟨_, rfl⟩
  rw [← hr] at hV hd hrest
  have hrl : r.length = l.length - 1 := by rw [hrest]; exact List.length_drop
  have hex : (strOf l).extract 1 l.length = strOf r := by rw [hrest]; exact ext_from l 1
  have hrs : (strOf r).size = r.length := strOf_size r
  have g2 : (1 : Int) ≤ (l.length : Int) := by omega
  have HV := Lib.hid hV
  have HD := Lib.hid hd
  clear hx0 hm hm45 hr hrest hV hd
  go_enter Tryz.func176, Tryz.ntmps176
  go_wp2
  go_loopg [5, 6] r.length (fun g xv iv wr => ∃ (j n : Nat), j ≤ r.length ∧ g = r.length - j ∧ xv = .int .u64 (n : Int) ∧ iv = .int .i64 (j : Int) ∧ w = wr ∧ n ≤ 9223372036854775808 ∧ Hid (n = Sm.decN 0 (r.take j)))
  case atStart => exact ⟨0, 0, by omega, rfl, rfl, rfl, by first | rfl | trivial, by omega, Lib.hid rfl⟩
  case round =>
    obtain ⟨j, n, hj, hg, rfl, rfl, rfl, hn, hN⟩ := hrel
    have k1 : (0 : Int) ≤ (j : Int) := by omega
    by_cases hz : j < r.length
    · have k2 : (j : Int) < (r.length : Int) := by omega
      have qj : j < (strOf r).size := by rw [hrs]; exact hz
      have hb := (digB_iff (b := r[j]'hz)).1 (HD.out _ (List.getElem_mem hz))
      have hxj : ((strOf r)[j]'qj) = r[j]'hz := rfl
      have hdt := dec_take r j hz
      have hmo := dec_mono r (j + 1)
      rw [← hN.out] at hdt
      obtain ⟨x, hx⟩ : ∃ x : Int, ((((strOf r)[j]'qj).toNat : Nat) : Int) = x := ⟨_, rfl⟩
      obtain ⟨d, hd⟩ : ∃ d : Nat, d = (r[j]'hz).toNat - 48 := ⟨_, rfl⟩
      have hxd : x = (d : Int) + 48 := by rw [← hx, hxj]; omega
      rw [← hd] at hdt
      have hd9 : d ≤ 9 := by omega
      have w1 : IntKind.u8.wrap (x - 48) = (d : Int) := by rw [hxd, IntKind.wrap_u8]; omega
      have w2 : IntKind.u64.wrap (d : Int) = (d : Int) := by rw [IntKind.wrap_u64]; omega
      obtain ⟨q, hq⟩ : ∃ q : Nat, q = (9223372036854775808 - d) / 10 := ⟨_, rfl⟩
      have w3 : IntKind.u64.wrap (9223372036854775808 - (d : Int)) = ((9223372036854775808 - d : Nat) : Int) := by rw [IntKind.wrap_u64]; omega
      have w4 : IntKind.u64.wrap (Int.tdiv ((9223372036854775808 - d : Nat) : Int) 10) = (q : Int) := by rw [Int.tdiv_eq_ediv_of_nonneg (by omega), IntKind.wrap_u64]; omega
      obtain ⟨y, hy⟩ : ∃ y : Int, y = ((9223372036854775808 - d : Nat) : Int) := ⟨_, rfl⟩
      rw [← hy] at w3 w4
      have hwi : IntKind.i64.wrap ((j : Int) + 1) = (j : Int) + 1 := IntWalk.i64_in _ ⟨by omega, by omega⟩
      by_cases hov : q < n
      · have k3 : (q : Int) < (n : Int) := by omega
        have e1 := Lib.hid (show valR l = (0, false) by rw [HV.out, if_pos (by omega)])
        clear hxj hdt hmo hd hxd hq hy hb
        go_wp2
        exact bodyPost_ret (v := .tuple #[.int .i64 0, .bool false]) (by simp [results, Tryz.results176, go_sem]; try rfl) rfl ⟨by rw [e1.out], by first | rfl | trivial⟩
      · have k3 : ¬ (q : Int) < (n : Int) := by omega
        have w5 : IntKind.u64.wrap (10 * (n : Int)) = ((10 * n : Nat) : Int) := by rw [IntKind.wrap_u64]; omega
        have w6 : IntKind.u64.wrap (((10 * n : Nat) : Int) + (d : Int)) = ((10 * n + d : Nat) : Int) := by rw [IntKind.wrap_u64]; omega
        have hn2 : 10 * n + d ≤ 9223372036854775808 := by omega
        have hN2 := Lib.hid hdt.symm
        obtain ⟨z, hz1⟩ : ∃ z : Int, z = ((10 * n : Nat) : Int) := ⟨_, rfl⟩
        rw [← hz1] at w5 w6
        obtain ⟨n2, hz2⟩ : ∃ n2 : Nat, n2 = 10 * n + d := ⟨_, rfl⟩
        rw [← hz2] at w6 hn2 hN2
        clear hxj hdt hmo hd hxd hq hy hb hz1 hz2 hN
        go_wp2
        go_roundg (r.length - (j + 1))
        case rel => exact ⟨j + 1, n2, by omega, rfl, rfl, by go_num, by first | rfl | trivial, hn2, hN2⟩
        case measure => omega
    · have k2 : ¬ (j : Int) < (r.length : Int) := by omega
      have hjr : r.take j = r := List.take_of_length_le (by omega)
      have hN2 : n = Sm.decN 0 r := by rw [hN.out, hjr]
      have e1 := Lib.hid (show valR l = (-(n : Int), true) by rw [HV.out, ← hN2, if_neg (by omega)])
      obtain ⟨y, hy⟩ : ∃ y : Int, y = IntKind.i64.wrap (n : Int) := ⟨_, rfl⟩
      have w1 : IntKind.i64.wrap (n : Int) = y := hy.symm
      have w2 : IntKind.i64.wrap (-y) = -(n : Int) := by rw [hy]; exact neg_wrap n hn
      clear hN hN2 hjr hy
      go_wp2
      exact bodyPost_ret (v := .tuple #[.int .i64 (-(n : Int)), .bool true]) (by simp [results, Tryz.results176, go_sem]; try rfl) rfl ⟨by rw [e1.out], by first | rfl | trivial⟩
end Go.Proofs.YtdjaijhlhhnmeaaGreatDoor
namespace Go.Proofs.YtdjaijhlhhnmeaaGreatDoor
open Go.RowKit
open Tk7

theorem rvalue_any (l : List UInt8) (hl : l.length ≤ 1000000) (hf : Sm.formB l = true) (w : World) :
    Calls Tryz.prog 176 #[.string (strOf l)] w fun e w' => e = .returned (.tuple #[.int .i64 (valR l).1, .bool (valR l).2]) ∧ w = w' := by
  obtain ⟨h1, _⟩ := Sm.form_split hf
  have hd : ∀ b ∈ Sm.restL l, digB b = true := Sm.digB_all h1
  have h0 : 0 < l.length := by
    cases l with
    | nil => simp [Sm.restL, Sm.minB, Sm.digB] at h1
    | cons b r => simp
  cases hm : Sm.minB l with
  | true => exact rvalue_min l h0 hl hm hd w
  | false => exact rvalue_dig l h0 hl hm hd w
set_option maxRecDepth 100000 in
set_option maxHeartbeats 4000000 in
theorem rnumb_any (K : Int) (l : List UInt8) (a lo hi : Int) (hl : l.length ≤ 1000000) (w : World) :
    Calls Tryz.prog 132 #[.agg #[.int .i64 K, .string (strOf l), .int .i64 a], .int .i64 lo, .int .i64 hi] w fun e w' => e = .returned (.tuple #[.int .i64 (numE (K, l, a) lo hi).1, .int .i64 (numE (K, l, a) lo hi).2]) ∧ Below w.heap.size w w' := by
  have hE : numE (K, l, a) lo hi = if ¬ checkI (K, l, a) = 0 then (0, checkI (K, l, a)) else if ¬ K = 3 then (0, 11) else if Sm.okI (Sm.valV l) = true ∧ lo ≤ Sm.valV l ∧ Sm.valV l ≤ hi then (Sm.valV l, 0) else (0, 2) := rfl
  have hC := fun w => rcheck_any K l a hl w
  have hT : checkI (K, l, a) = 0 → K = 3 → isTok 3 l = true := by
    intro h1 h2
    subst h2
    unfold checkI at h1
    simp only at h1
    rw [if_neg (by omega)] at h1
    cases ht : isTok 3 l with
    | true => rfl
    | false => rw [if_pos (show isTok (Int.toNat 3) l = false from ht)] at h1; exact absurd h1 (by decide)
  have hbx : ∀ w2 : World, Below (w.alloc (.cells #[.int .i64 K, .string (strOf l), .int .i64 a] 130)).heap.size (w.alloc (.cells #[.int .i64 K, .string (strOf l), .int .i64 a] 130)) w2 → Blk w2 w.heap.size [.int .i64 K, .string (strOf l), .int .i64 a] ∧ Below w.heap.size w w2 := fun w2 hb => ⟨(Blk.is _ rfl).later hb, bstep (below1 w _) hb⟩
  obtain ⟨c, hc⟩ : ∃ c, c = checkI (K, l, a) := ⟨_, rfl⟩
  rw [← hc] at hE hC hT
  clear hc
  by_cases h1 : c = 0
  · rw [if_neg (fun h => h h1)] at hE
    subst h1
    by_cases h2 : K = 3
    · rw [if_neg (fun h => h h2)] at hE
      have hP := fun w => rvalue_any l hl (tok3_form (hT rfl h2)) w
      subst h2
      obtain ⟨x, p, hxp⟩ : ∃ x p, valR l = (x, p) := ⟨_, _, rfl⟩
      obtain ⟨hv1, hv2⟩ := val_num x p hxp
      rw [hxp] at hP
      obtain ⟨v, hv⟩ : ∃ v, v = Sm.valV l := ⟨_, rfl⟩
      rw [← hv] at hE hv1 hv2
      simp only at hP
      obtain ⟨S, hS⟩ : ∃ S, S = strOf l := ⟨_, rfl⟩
      rw [← hS] at hC hbx hP ⊢
      clear hT hv hxp hS
      by_cases h3 : Sm.okI v = true
      · obtain ⟨rfl, rfl⟩ := hv1 h3
        clear hv1 hv2
        by_cases h4 : lo ≤ x
        · by_cases h5 : x ≤ hi
          · rw [if_pos ⟨h3, h4, h5⟩] at hE
            rw [hE]
            have n4 : ¬ x < lo := by omega
            have n5 : ¬ hi < x := by omega
            clear hE h3
            go_enter Tryz.func132, Tryz.ntmps132
            go_wp2_with (first | (go_at_call 175; refine (hC _).mono ?_; rintro e w2 ⟨rfl, hb2⟩; obtain ⟨hq, hB2⟩ := hbx w2 hb2; have c0 := hq.cell 0 _ rfl; have c1 := hq.cell 1 _ rfl; have c2 := hq.cell 2 _ rfl; have hql := hq.lt) | (go_at_call 176; refine (hP _).mono ?_; rintro e w3 ⟨rfl, rfl⟩))
            exact bodyPost_ret (v := .tuple #[.int .i64 x, .int .i64 0]) (by simp [results, Tryz.results132, go_sem]; try rfl) rfl ⟨rfl, hB2⟩
          · rw [if_neg (fun h => h5 h.2.2)] at hE
            rw [hE]
            have n4 : ¬ x < lo := by omega
            have n5 : hi < x := by omega
            clear hE h3
            go_enter Tryz.func132, Tryz.ntmps132
            go_wp2_with (first | (go_at_call 175; refine (hC _).mono ?_; rintro e w2 ⟨rfl, hb2⟩; obtain ⟨hq, hB2⟩ := hbx w2 hb2; have c0 := hq.cell 0 _ rfl; have c1 := hq.cell 1 _ rfl; have c2 := hq.cell 2 _ rfl; have hql := hq.lt) | (go_at_call 176; refine (hP _).mono ?_; rintro e w3 ⟨rfl, rfl⟩))
            exact bodyPost_ret (v := .tuple #[.int .i64 0, .int .i64 2]) (by simp [results, Tryz.results132, go_sem]; try rfl) rfl ⟨rfl, hB2⟩
        · rw [if_neg (fun h => h4 h.2.1)] at hE
          rw [hE]
          have n4 : x < lo := by omega
          clear hE h3
          go_enter Tryz.func132, Tryz.ntmps132
          go_wp2_with (first | (go_at_call 175; refine (hC _).mono ?_; rintro e w2 ⟨rfl, hb2⟩; obtain ⟨hq, hB2⟩ := hbx w2 hb2; have c0 := hq.cell 0 _ rfl; have c1 := hq.cell 1 _ rfl; have c2 := hq.cell 2 _ rfl; have hql := hq.lt) | (go_at_call 176; refine (hP _).mono ?_; rintro e w3 ⟨rfl, rfl⟩))
          exact bodyPost_ret (v := .tuple #[.int .i64 0, .int .i64 2]) (by simp [results, Tryz.results132, go_sem]; try rfl) rfl ⟨rfl, hB2⟩
      · have h3f : Sm.okI v = false := by simpa using h3
        rw [if_neg (fun h => h3 h.1)] at hE
        rw [hE]
        obtain rfl := hv2 h3f
        clear hE h3 hv1 hv2 h3f
        go_enter Tryz.func132, Tryz.ntmps132
        go_wp2_with (first | (go_at_call 175; refine (hC _).mono ?_; rintro e w2 ⟨rfl, hb2⟩; obtain ⟨hq, hB2⟩ := hbx w2 hb2; have c0 := hq.cell 0 _ rfl; have c1 := hq.cell 1 _ rfl; have c2 := hq.cell 2 _ rfl; have hql := hq.lt) | (go_at_call 176; refine (hP _).mono ?_; rintro e w3 ⟨rfl, rfl⟩))
        exact bodyPost_ret (v := .tuple #[.int .i64 0, .int .i64 2]) (by simp [results, Tryz.results132, go_sem]; try rfl) rfl ⟨rfl, hB2⟩
    · rw [if_pos h2] at hE
      rw [hE]
      have n2 : (K == 3) = false := by rw [beq_eq_false_iff_ne]; exact h2
      obtain ⟨S, hS⟩ : ∃ S, S = strOf l := ⟨_, rfl⟩
      rw [← hS] at hC hbx ⊢
      clear hE hT hS
      go_enter Tryz.func132, Tryz.ntmps132
      go_wp2_with (go_at_call 175; refine (hC _).mono ?_; rintro e w2 ⟨rfl, hb2⟩; obtain ⟨hq, hB2⟩ := hbx w2 hb2; have c0 := hq.cell 0 _ rfl; have c1 := hq.cell 1 _ rfl; have c2 := hq.cell 2 _ rfl; have hql := hq.lt)
      exact bodyPost_ret (v := .tuple #[.int .i64 0, .int .i64 11]) (by simp [results, Tryz.results132, go_sem]; try rfl) rfl ⟨rfl, hB2⟩
  · rw [if_pos h1] at hE
    rw [hE]
    have n1 : (c == 0) = false := by rw [beq_eq_false_iff_ne]; exact h1
    obtain ⟨S, hS⟩ : ∃ S, S = strOf l := ⟨_, rfl⟩
    rw [← hS] at hC hbx ⊢
    clear hE hT hS
    go_enter Tryz.func132, Tryz.ntmps132
    go_wp2_with (go_at_call 175; refine (hC _).mono ?_; rintro e w2 ⟨rfl, hb2⟩; obtain ⟨hq, hB2⟩ := hbx w2 hb2; have c0 := hq.cell 0 _ rfl; have c1 := hq.cell 1 _ rfl; have c2 := hq.cell 2 _ rfl; have hql := hq.lt)
    exact bodyPost_ret (v := .tuple #[.int .i64 0, .int .i64 c]) (by simp [results, Tryz.results132, go_sem]; try rfl) rfl ⟨rfl, hB2⟩
end Go.Proofs.YtdjaijhlhhnmeaaGreatDoor
