/- The iterator of strings.SplitAfterSeq at a line feed. -/
import Derived.Test.YtkmkhegekonbmaaDoorRowV
namespace Go.Proofs.YtkmkhegekonbmaaDoor
open Go.RowKit Go.Shelf
open Rw6
attribute [local go_sem] Oper.semAt_some

theorem idx_none {l : List UInt8} (h : (10 : UInt8) ∉ l) : Lib.indexByte l 10 = -1 := by
  induction l with
  | nil => rfl
  | cons b r ih =>
    have hb : (b == 10) = false := by rw [beq_eq_false_iff_ne]; exact fun e => h (by rw [e]; simp)
    unfold Lib.indexByte
    rw [hb, ih (fun e => h (by simp [e]))]
    rfl
theorem idx_some {p r : List UInt8} (h : (10 : UInt8) ∉ p) : Lib.indexByte (p ++ 10 :: r) 10 = (p.length : Int) := by
  induction p with
  | nil => rfl
  | cons b p ih =>
    have hb : (b == 10) = false := by rw [beq_eq_false_iff_ne]; exact fun e => h (by rw [e]; simp)
    show (if b == 10 then 0 else if Lib.indexByte (p ++ 10 :: r) 10 == -1 then -1 else Lib.indexByte (p ++ 10 :: r) 10 + 1) = _
    rw [hb, ih (fun e => h (by simp [e]))]
    have : ((p.length : Int) == -1) = false := by rw [beq_eq_false_iff_ne]; omega
    rw [this]
    simp
theorem trim_chop (p : List UInt8) : Lib.trimSuffix p [10] = chop p := by
  unfold Lib.trimSuffix Lib.hasSuffix chop
  rcases List.eq_nil_or_concat p with rfl | ⟨q, x, rfl⟩
  · rfl
  · by_cases hx : x = 10
    · subst hx
      simp
    · have h1 : (q.concat x).getLast? ≠ some 10 := by simp; exact hx
      have h2 : [(10 : UInt8)].isSuffixOf (q.concat x) = false := by
        cases e : [(10 : UInt8)].isSuffixOf (q.concat x) with
        | false => rfl
        | true =>
          have := List.isSuffixOf_iff_suffix.1 e
          obtain ⟨z, hz⟩ := this
          rw [List.concat_eq_append] at hz
          have := (List.append_inj' hz rfl).2
          cases this
          exact absurd rfl hx
      rw [if_neg h1, h2]
      rfl
/-- The three cells of the iterator: the text that is left, the line feed, and how much of it is kept. -/
def Itr (W : World) (b : Nat) (r : List UInt8) : Prop := Blk W b [.string (strOf r)] ∧ Blk W (b + 1) [.string ⟨#[10]⟩] ∧ Blk W (b + 2) [.int .i64 1]
/-- What a round leaves alone. -/
def Kp3 (b : Nat) (W W' : World) : Prop := W.heap.size ≤ W'.heap.size ∧ ∀ k, b ≤ k → k < b + 3 → W'.heap[k]? = W.heap[k]?
theorem blk_same {W W' : World} {b : Nat} {us : List Value} (h : Blk W b us) (hs : W.heap.size ≤ W'.heap.size) (hk : W'.heap[b]? = W.heap[b]?) : Blk W' b us :=
  ⟨Nat.lt_of_lt_of_le h.lt hs, fun i v hv => (World.cell?_of_block (w := W) (a := ⟨b, i, none⟩) hk).trans (h.cell i v hv), fun i v hv => (World.frozen?_of_block (w := W) (a := ⟨b, i, none⟩) hk).trans (h.fr i v hv)⟩
theorem Itr.kept {W W' : World} {b : Nat} {r : List UInt8} (h : Itr W b r) (hk : Kp3 b W W') : Itr W' b r :=
  ⟨blk_same h.1 hk.1 (hk.2 b (by omega) (by omega)), blk_same h.2.1 hk.1 (hk.2 (b + 1) (by omega) (by omega)), blk_same h.2.2 hk.1 (hk.2 (b + 2) (by omega) (by omega))⟩
theorem Itr.set {W : World} {b : Nat} {r : List UInt8} (h : Itr W b r) (r' : ByteArray) (q : List UInt8) (e : r' = strOf q) : Itr (W.setCell ⟨b, 0, none⟩ (.string r')) b q := by
  subst e
  exact ⟨h.1.set 0 _, h.2.1.other (by simp) _, h.2.2.other (by simp) _⟩
theorem Itr.below {W W' : World} {b : Nat} {r : List UInt8} {n : Nat} (h : Itr W b r) (hb : Below n W W') (hn : b + 3 ≤ n) : Itr W' b r :=
  ⟨h.1.under hb (by omega), h.2.1.under hb (by omega), h.2.2.under hb (by omega)⟩
theorem ext_pre (p q : List UInt8) : (strOf (p ++ q)).extract 0 p.length = strOf p := by
  rw [ext_take]
  unfold restAt
  rw [strOf_dat, List.drop_zero, Nat.sub_zero, List.take_left]
theorem ext_suf (p q : List UInt8) : (strOf (p ++ q)).extract p.length (strOf (p ++ q)).size = strOf q := by
  rw [ext_take, strOf_size]
  unfold restAt
  rw [strOf_dat, List.drop_left, List.length_append, Nat.add_sub_cancel_left, List.take_length]
set_option maxRecDepth 100000 in
set_option maxHeartbeats 4000000 in
theorem split_in (n : Nat) (hn : 1 ≤ n) (l b : Nat) (t : List UInt8) (ht : t.length ≤ 100000) (J Jx : List ByteArray → World → Prop) (hJb : Blind b J)
    (hY : ∀ pre x W1, pre ++ [x] <+: (pcs t).map strOf → J pre W1 → YieldAt Fence.wide (n - 1) Tryd.prog l #[.string x] W1 fun e W' =>
      (e = .returned (.bool true) ∧ J (pre ++ [x]) W' ∧ Kp3 b W1 W') ∨ (e = .returned (.bool false) ∧ Jx (pre ++ [x]) W'))
    (W : World) (hI : Itr W b t) (h0 : J [] W) :
    CallsIn Fence.wide n Tryd.prog 67 #[.func (.yield l) #[] #[], .pointer (some ⟨b + 1, 0, none⟩), .pointer (some ⟨b, 0, none⟩), .pointer (some ⟨b + 2, 0, none⟩)] W fun e W' => (∃ v, e = .returned v) ∧
      (J ((pcs t).map strOf) W' ∨ ∃ pre, pre <+: (pcs t).map strOf ∧ Jx pre W') := by
  have hIx : ∀ (r : List UInt8) (k : Int), Lib.indexByte r 10 = k → ∀ w, Calls Tryd.prog 69 #[.string (strOf r), .string ⟨#[10]⟩] w fun e w' => e = .returned (.int .i64 k) ∧ w = w' := fun r k hk w => by
    subst hk
    have := Tryd.strings_Index_one (strOf r) 10 w
    rw [strOf_dat] at this
    exact this.mono fun _ _ ⟨h1, h2⟩ => ⟨h1, h2.symm⟩
  refine callsIn_of_wp Tryd.func67 rfl trivial ?_ rfl
  simp only [Tryd.ntmps67, List.size_toArray, List.length_cons, List.length_nil, Nat.reduceAdd, Nat.reduceSub, Array.replicate_succ, Array.replicate_zero, List.push_toArray, List.append_toArray, List.nil_append, List.cons_append]
  have c0 := hI.1.cell 0 _ rfl
  have c1 := hI.2.1.cell 0 _ rfl
  have c2 := hI.2.2.cell 0 _ rfl
  gi_wp2
  clear c0 c1 c2
  gi_loopw [7] (fun _ wr => ∃ (pre : List ByteArray) (r : List UInt8), (pcs t).map strOf = pre ++ (pcs r).map strOf ∧ r.length ≤ t.length ∧ Itr wr b r ∧ J pre wr) (fun _ wr => match wr.cell? ⟨b, 0, none⟩ with | some (.string s) => s.size | _ => 0)
  case atStart => exact ⟨[], t, rfl, Nat.le_refl _, hI, h0⟩
  case round =>
    obtain ⟨pre, r, hpre, hrl, hIr, hJ⟩ := hrel
    have c0 := hIr.1.cell 0 _ rfl
    have c1 := hIr.2.1.cell 0 _ rfl
    have c2 := hIr.2.2.cell 0 _ rfl
    rcases split10 r with hno | ⟨p, q, rfl, hp⟩
    · have hi := hIx r _ (idx_none hno)
      rw [pcs_flat hno] at hpre
      obtain ⟨fn, tmps, assign, body, hy, hR⟩ := hY pre (strOf r) wr ⟨[], by rw [List.append_nil]; exact hpre.symm⟩ hJ
      have HPRE := Lib.hid hpre
      clear hpre hIx hno
      gi_wp2_with (refine ⟨trivial, ?_⟩; gi_at_call 69; refine (callsIn_wide.2 (hi _)).mono ?_; rintro e w' ⟨rfl, rfl⟩)
      refine hR.mono ?_
      rintro e W3 (⟨rfl, hJ3, hk3⟩ | ⟨rfl, hJx3⟩)
      · gi_wp2
        go_end0
        exact ⟨⟨_, rfl⟩, .inl (by rw [HPRE.out]; exact hJ3)⟩
      · gi_wp2
        go_end0
        exact ⟨⟨_, rfl⟩, .inr ⟨_, ⟨[], by rw [List.append_nil]; exact HPRE.out.symm⟩, hJx3⟩⟩
    · have hi := hIx _ _ (idx_some (r := q) hp)
      rw [pcs_line p q hp, List.map_cons] at hpre
      obtain ⟨fn, tmps, assign, body, hy, hR⟩ := hY pre (strOf (p ++ [10])) wr ⟨(pcs q).map strOf, by rw [List.append_assoc]; exact hpre.symm⟩ hJ
      have hpl : p.length + 1 = (p ++ [10]).length := by simp
      have hex1 : (strOf (p ++ 10 :: q)).extract 0 (p.length + 1) = strOf (p ++ [10]) := by
        rw [hpl, show p ++ 10 :: q = (p ++ [10]) ++ q by simp]; exact ext_pre _ _
      have hex2 : (strOf (p ++ 10 :: q)).extract (p.length + 1) (strOf (p ++ 10 :: q)).size = strOf q := by
        rw [hpl, show p ++ 10 :: q = (p ++ [10]) ++ q by simp]; exact ext_suf _ _
      have hsz : (strOf (p ++ 10 :: q)).size = p.length + 1 + q.length := by rw [strOf_size, List.length_append, List.length_cons]; omega
      have hrl2 : p.length + 1 + q.length ≤ t.length := by rw [List.length_append, List.length_cons] at hrl; omega
      have HPRE := Lib.hid (show (pcs t).map strOf = (pre ++ [strOf (p ++ [10])]) ++ (pcs q).map strOf by rw [List.append_assoc]; exact hpre)
      have hmeas : (match (wr.cell? ⟨b, 0, none⟩) with | some (.string s) => s.size | _ => 0) = p.length + 1 + q.length := by rw [c0]; exact hsz
      obtain ⟨S, hS⟩ : ∃ S, S = strOf (p ++ 10 :: q) := ⟨_, rfl⟩
      rw [← hS] at hi hex1 hex2 hsz c0
      have HI := Lib.hid hIr
      have HM := Lib.hid hmeas
      have HX2 := Lib.hid hex2
      have HS := Lib.hid hS
      have HZ := Lib.hid hsz
      have z1 : (0 : Int) ≤ (p.length : Int) + 1 := by omega
      have z2 : (p.length : Int) + 1 ≤ (S.size : Int) := by omega
      have z3 : ((p.length : Int) + 1).toNat = p.length + 1 := by omega
      have z4 : IntKind.i64.wrap ((p.length : Int) + 1) = (p.length : Int) + 1 := IntWalk.i64_in _ ⟨by omega, by omega⟩
      have z5 : ¬ (p.length : Int) < 0 := by omega
      clear hpre hIx hp hpl hex2 hmeas hIr hS hsz
      gi_wp2_with (refine ⟨trivial, ?_⟩; gi_at_call 69; refine (callsIn_wide.2 (hi _)).mono ?_; rintro e w' ⟨rfl, rfl⟩)
      refine hR.mono ?_
      rintro e W3 (⟨rfl, hJ3, hk3⟩ | ⟨rfl, hJx3⟩)
      · have hI3 : Itr W3 b (p ++ 10 :: q) := HI.out.kept hk3
        have d0 : W3.cell? ⟨b, 0, none⟩ = some (.string S) := by rw [HS.out]; exact hI3.1.cell 0 _ rfl
        have d1 := hI3.2.1.cell 0 _ rfl
        have d2 := hI3.2.2.cell 0 _ rfl
        have f0 := hI3.1.fr 0 _ rfl
        have hlt := hI3.1.lt
        have H3 := Lib.hid hI3
        clear hI3 hk3 c0 c1 c2 hex1
        gi_wp2
        go_roundw
        case rel => exact ⟨_, q, HPRE.out, by omega, H3.out.set _ q HX2.out, hJb _ _ _ hJ3⟩
        case measure =>
          have := (H3.out.set (S.extract (p.length + 1) S.size) q HX2.out).1.cell 0 _ rfl
          rw [HM.out]
          simp only [this, strOf_size]
          omega
      · gi_wp2
        refine bodyPost_ret (results_none rfl _ _ _) rfl ?_
        exact ⟨⟨_, rfl⟩, .inr ⟨_, ⟨_, HPRE.out.symm⟩, hJx3⟩⟩
end Go.Proofs.YtkmkhegekonbmaaDoor
