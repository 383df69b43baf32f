/- Numbers of tokens. -/
import Derived.Test.YtdjaijhlhhnmeaaGreatDoorTokTwo
import Derived.Test.YtdjaijhlhhnmeaaGreatDoorSumOne
import Derived.Test.YtdjaijhlhhnmeaaGreatDoorShelfNum
namespace Go.Proofs.YtdjaijhlhhnmeaaGreatDoor
open Go.RowKit
open Tk7

theorem while_all {p : UInt8 → Bool} : ∀ {r : List UInt8}, (r.takeWhile p).length = r.length → r.takeWhile p = r ∧ ∀ b ∈ r, p b = true := by
  intro r
  induction r with
  | nil => intro _; exact ⟨rfl, fun b hb => by cases hb⟩
  | cons c r ih =>
    intro h
    cases hc : p c with
    | false => rw [List.takeWhile_cons, if_neg (by rw [hc]; decide)] at h; simp at h
    | true =>
      rw [List.takeWhile_cons, if_pos hc, List.length_cons, List.length_cons] at h
      obtain ⟨h1, h2⟩ := ih (by omega)
      refine ⟨by rw [List.takeWhile_cons, if_pos hc, h1], fun b hb => ?_⟩
      rcases List.mem_cons.1 hb with rfl | hb
      · exact hc
      · exact h2 b hb
theorem sm_dig {d : UInt8} {ds : List UInt8} (h : ∀ b ∈ d :: ds, digB b = true) (h2 : d = 48 → ds = []) : Sm.digB (d :: ds) = true := by
  rw [Sm.digB_cons]
  refine ⟨h, fun h3 => h2 ?_⟩
  apply UInt8.toNat_inj.1
  exact h3
/-- A token that is a number is written as said. -/
theorem tok3_form {l : List UInt8} (h : isTok 3 l = true) : Sm.formB l = true := by
  obtain ⟨h1, h2⟩ := isTok_iff.1 h
  cases l with
  | nil => exact absurd rfl h2
  | cons b r =>
    simp only [begG] at h1
    split at h1
    · cases h1
    · split at h1
      · cases h1
      · split at h1
        · rename_i hb
          have hn : numG b r = r.length + 1 := congrArg Prod.snd h1
          by_cases hm : b = 45
          · subst hm
            have h3 : numG 45 r = if rightD true (r.takeWhile digB) then (r.takeWhile digB).length + 1 else 0 := rfl
            rw [h3] at hn
            split at hn
            · rename_i hr
              obtain ⟨h4, h5⟩ := while_all (show (r.takeWhile digB).length = r.length by omega)
              rw [h4] at hr
              unfold Sm.formB
              have hmin : Sm.minB (45 :: r) = true := rfl
              have hrest : Sm.restL (45 :: r) = r := by unfold Sm.restL; rw [if_pos hmin]; rfl
              rw [hrest, hmin]
              cases r with
              | nil => simp [rightD] at hr
              | cons c r =>
                have hc : ¬ c = 48 := by simp [rightD] at hr; exact hr
                rw [sm_dig h5 (fun e => absurd e hc)]
                simp [hc]
            · omega
          · have h3 : numG b r = if rightD false (b :: r.takeWhile digB) then (r.takeWhile digB).length + 1 else 0 := by unfold numG; rw [if_neg (by rw [beq_iff_eq]; exact hm)]
            have hmb : (b == 45) = false := by rw [beq_eq_false_iff_ne]; exact hm
            rw [hmb, Bool.or_false] at hb
            rw [h3] at hn
            split at hn
            · rename_i hr
              obtain ⟨h4, h5⟩ := while_all (show (r.takeWhile digB).length = r.length by omega)
              rw [h4] at hr
              unfold Sm.formB
              have hmin : Sm.minB (b :: r) = false := by unfold Sm.minB; simp [hm]
              have hrest : Sm.restL (b :: r) = b :: r := by unfold Sm.restL; rw [if_neg (by rw [hmin]; decide)]
              rw [hrest, hmin, sm_dig (fun x hx => by rcases List.mem_cons.1 hx with rfl | hx; exact hb; exact h5 x hx) (fun e => by
                subst e
                simpa [rightD] using hr)]
              rfl
            · omega
        · cases h1
/-- The value of a number within limits, and the error beside it. -/
def numE (x : TK) (lo hi : Int) : Int × Int :=
  if ¬ checkI x = 0 then (0, checkI x) else if ¬ x.1 = 3 then (0, 11) else if Sm.okI (Sm.valV x.2.1) = true ∧ lo ≤ Sm.valV x.2.1 ∧ Sm.valV x.2.1 ≤ hi then (Sm.valV x.2.1, 0) else (0, 2)
/-- The variable holds an error. -/
def ER (w : World) : Prop := 6 < w.heap.size ∧ ∃ ev, w.cell? ⟨6, 0, none⟩ = some ev ∧ (ev = .nilIface ∨ ∃ te pe, ev = .iface te pe)
theorem ER.later {w w' : World} (h : ER w) (hb : Below w.heap.size w w') : ER w' := by
  obtain ⟨h1, ev, h2, h3⟩ := h
  exact ⟨Nat.lt_of_lt_of_le h1 hb.size, ev, (hb.cell (p := ⟨6, 0, none⟩) h1).trans h2, h3⟩
theorem parse_ok (s : ByteArray) (hs : s.size ≤ 100000000) (v : Int) (h : Lib.parseIntB 64 s.data.toList = .ok v) (w : World) :
    Calls Tryz.prog 172 #[.string s, .int .i64 10, .int .i64 64] w fun e w' => e = .returned (.tuple #[.int .i64 v, .nilIface]) ∧ Below w.heap.size w w' :=
  (Tryz.strconv_ParseInt_10_at64_ok s (by omega) v h w).mono fun _ _ ⟨he, hw⟩ => ⟨he, by rcases hw with rfl | ⟨t, rfl⟩; exact Below.refl _ _; exact Lib.bytesWorld_below _ _ _⟩
theorem parse_range (s : ByteArray) (hs : s.size ≤ 100000000) (h : Lib.parseIntB 64 s.data.toList = .range) (w : World) (ht : ER w) :
    Calls Tryz.prog 172 #[.string s, .int .i64 10, .int .i64 64] w fun e w' => ∃ v t p, e = .returned (.tuple #[.int .i64 v, .iface t p]) ∧ Below w.heap.size w w' := by
  obtain ⟨_, ev, h1, h2⟩ := ht
  exact (Tryz.strconv_ParseInt_10_at64_range s (by omega) h ev w h1 h2).mono fun _ _ ⟨_, he, _, _, hb⟩ => ⟨_, _, _, he, hb⟩
set_option maxRecDepth 100000 in
set_option maxHeartbeats 4000000 in
theorem number_any (K : Int) (l : List UInt8) (a lo hi : Int) (hl : l.length ≤ 100000000) (w : World) (hG : SG w) (hR : ER w) :
    Calls Tryz.prog 126 #[.agg #[.int .i64 K, .string (strOf l), .int .i64 a], .int .i64 lo, .int .i64 hi] w fun e w' => e = .returned (.tuple #[.int .i64 (numE (K, l, a) lo hi).1, .int .i64 (numE (K, l, a) lo hi).2]) ∧ Below w.heap.size w w' := by
  have hE : numE (K, l, a) lo hi = if ¬ checkI (K, l, a) = 0 then (0, checkI (K, l, a)) else if ¬ K = 3 then (0, 11) else if Sm.okI (Sm.valV l) = true ∧ lo ≤ Sm.valV l ∧ Sm.valV l ≤ hi then (Sm.valV l, 0) else (0, 2) := rfl
  have hC := fun w hG => check_any K l a (by unfold maxLen; omega) w hG
  have hT : checkI (K, l, a) = 0 → K = 3 → isTok 3 l = true := by
    intro h1 h2
    subst h2
    unfold checkI at h1
    simp only at h1
    rw [if_neg (by omega)] at h1
    cases ht : isTok 3 l with
    | true => rfl
    | false => rw [if_pos (show isTok (Int.toNat 3) l = false from ht)] at h1; exact absurd h1 (by decide)
  have hG1 := hG.later (below1 w (.cells #[.int .i64 K, .string (strOf l), .int .i64 a] 130))
  have hR1 := hR.later (below1 w (.cells #[.int .i64 K, .string (strOf l), .int .i64 a] 130))
  have hbx : ∀ w2 : World, Below (w.alloc (.cells #[.int .i64 K, .string (strOf l), .int .i64 a] 130)).heap.size (w.alloc (.cells #[.int .i64 K, .string (strOf l), .int .i64 a] 130)) w2 → Blk w2 w.heap.size [.int .i64 K, .string (strOf l), .int .i64 a] ∧ Below w.heap.size w w2 := fun w2 hb => ⟨(Blk.is _ rfl).later hb, bstep (below1 w _) hb⟩
  have hsz : (strOf l).size ≤ 100000000 := by rw [strOf_size]; exact hl
  obtain ⟨c, hc⟩ : ∃ c, c = checkI (K, l, a) := ⟨_, rfl⟩
  rw [← hc] at hE hC hT
  clear hc
  by_cases h1 : c = 0
  · rw [if_neg (fun h => h h1)] at hE
    subst h1
    by_cases h2 : K = 3
    · rw [if_neg (fun h => h h2)] at hE
      have hp := Sm.parseI_form (tok3_form (hT rfl h2))
      subst h2
      obtain ⟨v, hv⟩ : ∃ v, v = Sm.valV l := ⟨_, rfl⟩
      rw [← hv] at hE hp
      clear hT hv
      by_cases h3 : Sm.okI v = true
      · rw [if_pos h3, ← strOf_dat l] at hp
        have hP := fun w => parse_ok (strOf l) hsz v hp w
        obtain ⟨S, hS⟩ : ∃ S, S = strOf l := ⟨_, rfl⟩
        rw [← hS] at hC hG1 hbx hP ⊢
        clear hp hS hsz hR hR1
        by_cases h4 : lo ≤ v
        · by_cases h5 : v ≤ hi
          · rw [if_pos ⟨h3, h4, h5⟩] at hE
            rw [hE]
            have n4 : ¬ v < lo := by omega
            have n5 : ¬ hi < v := by omega
            clear hE h3
            go_enter Tryz.func126, Tryz.ntmps126
            go_wp2_with (first | (go_at_call 167; refine (hC _ hG1).mono ?_; rintro e w2 ⟨rfl, hb2⟩; obtain ⟨hq, hB2⟩ := hbx w2 hb2; have c0 := hq.cell 0 _ rfl; have c1 := hq.cell 1 _ rfl; have c2 := hq.cell 2 _ rfl; have hql := hq.lt) | (go_at_call 172; refine (hP _).mono ?_; rintro e w3 ⟨rfl, hb3⟩))
            exact bodyPost_ret (v := .tuple #[.int .i64 v, .int .i64 0]) (by simp [results, Tryz.results126, go_sem]; try rfl) rfl ⟨rfl, bstep hB2 hb3⟩
          · rw [if_neg (fun h => h5 h.2.2)] at hE
            rw [hE]
            have n4 : ¬ v < lo := by omega
            have n5 : hi < v := by omega
            clear hE h3
            go_enter Tryz.func126, Tryz.ntmps126
            go_wp2_with (first | (go_at_call 167; refine (hC _ hG1).mono ?_; rintro e w2 ⟨rfl, hb2⟩; obtain ⟨hq, hB2⟩ := hbx w2 hb2; have c0 := hq.cell 0 _ rfl; have c1 := hq.cell 1 _ rfl; have c2 := hq.cell 2 _ rfl; have hql := hq.lt) | (go_at_call 172; refine (hP _).mono ?_; rintro e w3 ⟨rfl, hb3⟩))
            exact bodyPost_ret (v := .tuple #[.int .i64 0, .int .i64 2]) (by simp [results, Tryz.results126, go_sem]; try rfl) rfl ⟨rfl, bstep hB2 hb3⟩
        · rw [if_neg (fun h => h4 h.2.1)] at hE
          rw [hE]
          have n4 : v < lo := by omega
          clear hE h3
          go_enter Tryz.func126, Tryz.ntmps126
          go_wp2_with (first | (go_at_call 167; refine (hC _ hG1).mono ?_; rintro e w2 ⟨rfl, hb2⟩; obtain ⟨hq, hB2⟩ := hbx w2 hb2; have c0 := hq.cell 0 _ rfl; have c1 := hq.cell 1 _ rfl; have c2 := hq.cell 2 _ rfl; have hql := hq.lt) | (go_at_call 172; refine (hP _).mono ?_; rintro e w3 ⟨rfl, hb3⟩))
          exact bodyPost_ret (v := .tuple #[.int .i64 0, .int .i64 2]) (by simp [results, Tryz.results126, go_sem]; try rfl) rfl ⟨rfl, bstep hB2 hb3⟩
      · rw [if_neg h3, ← strOf_dat l] at hp
        rw [if_neg (fun h => h3 h.1)] at hE
        rw [hE]
        have hP := fun w ht => parse_range (strOf l) hsz hp w ht
        obtain ⟨S, hS⟩ : ∃ S, S = strOf l := ⟨_, rfl⟩
        rw [← hS] at hC hG1 hR1 hbx hP ⊢
        clear hp hS hsz hE h3
        go_enter Tryz.func126, Tryz.ntmps126
        go_wp2_with (first | (go_at_call 167; refine (hC _ hG1).mono ?_; rintro e w2 ⟨rfl, hb2⟩; obtain ⟨hq, hB2⟩ := hbx w2 hb2; have c0 := hq.cell 0 _ rfl; have c1 := hq.cell 1 _ rfl; have c2 := hq.cell 2 _ rfl; have hql := hq.lt) | (go_at_call 172; refine (hP _ (hR1.later hb2)).mono ?_; rintro e w3 ⟨v3, t3, p3, rfl, hb3⟩))
        exact bodyPost_ret (v := .tuple #[.int .i64 0, .int .i64 2]) (by simp [results, Tryz.results126, go_sem]; try rfl) rfl ⟨rfl, bstep hB2 hb3⟩
    · rw [if_pos h2] at hE
      rw [hE]
      have n2 : (K == 3) = false := by rw [beq_eq_false_iff_ne]; exact h2
      obtain ⟨S, hS⟩ : ∃ S, S = strOf l := ⟨_, rfl⟩
      rw [← hS] at hC hG1 hbx ⊢
      clear hE hT hS hsz hR hR1
      go_enter Tryz.func126, Tryz.ntmps126
      go_wp2_with (go_at_call 167; refine (hC _ hG1).mono ?_; rintro e w2 ⟨rfl, hb2⟩; obtain ⟨hq, hB2⟩ := hbx w2 hb2; have c0 := hq.cell 0 _ rfl; have c1 := hq.cell 1 _ rfl; have c2 := hq.cell 2 _ rfl; have hql := hq.lt)
      exact bodyPost_ret (v := .tuple #[.int .i64 0, .int .i64 11]) (by simp [results, Tryz.results126, go_sem]; try rfl) rfl ⟨rfl, hB2⟩
  · rw [if_pos h1] at hE
    rw [hE]
    have n1 : (c == 0) = false := by rw [beq_eq_false_iff_ne]; exact h1
    obtain ⟨S, hS⟩ : ∃ S, S = strOf l := ⟨_, rfl⟩
    rw [← hS] at hC hG1 hbx ⊢
    clear hE hT hS hsz hR hR1
    go_enter Tryz.func126, Tryz.ntmps126
    go_wp2_with (go_at_call 167; refine (hC _ hG1).mono ?_; rintro e w2 ⟨rfl, hb2⟩; obtain ⟨hq, hB2⟩ := hbx w2 hb2; have c0 := hq.cell 0 _ rfl; have c1 := hq.cell 1 _ rfl; have c2 := hq.cell 2 _ rfl; have hql := hq.lt)
    exact bodyPost_ret (v := .tuple #[.int .i64 0, .int .i64 c]) (by simp [results, Tryz.results126, go_sem]; try rfl) rfl ⟨rfl, hB2⟩
end Go.Proofs.YtdjaijhlhhnmeaaGreatDoor
