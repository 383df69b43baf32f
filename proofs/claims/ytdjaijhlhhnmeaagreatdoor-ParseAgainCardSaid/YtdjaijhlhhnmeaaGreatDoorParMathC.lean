/- Texts of atoms, nodes and queries are read as these, going on. Nothing here speaks of the program. -/
import Derived.Test.YtdjaijhlhhnmeaaGreatDoorParMathB
namespace Go.Proofs.YtdjaijhlhhnmeaaGreatDoor.P9
open Go.Proofs.YtdjaijhlhhnmeaaGreatDoor.Tk7 Go.Proofs.YtdjaijhlhhnmeaaGreatDoor.A8

theorem listT_form (b : UInt8) (l : List (List UInt8)) (btw aft : List UInt8) : listT [b] l btw aft = if l.isEmpty = true then [] else b :: (sepL btw l ++ aft) := by
  unfold listT
  cases l <;> rfl
theorem reads_nm {W : Prop} (e : Nat) {s : List UInt8} (h : s.isEmpty = true ∨ nameB s = true) : Reads W (fun _ => nmP e) (if s.isEmpty = true then [] else 58 :: s) s (fun r => Nb [58] r ∧ Nx smallB r) := by
  cases hs : s.isEmpty with
  | true =>
    rw [List.isEmpty_iff.1 hs]
    exact reads_pass (c := 58) (s := []) (p := fun _ => nameP e) (q := fun _ l => .ok ([], l)) (fun r hr => hr.1) (reads_ret [] _)
  | false =>
    rw [hs] at h
    have hn := h.resolve_left (by decide)
    exact reads_see (x := [58]) (kd := 4) (p := fun _ => nameP e) (q := fun _ l => .ok ([], l)) (fun r _ => fits_sign (b := 58) (by decide) (.inl (by decide))) (fun _ => by decide) ((reads_name e hn).mono fun r hr => hr.2)
theorem reads_conds {W : Prop} (e : Nat) {cs : List Cn} (h : ∀ c ∈ cs, condB c = true ∧ okC c) : Reads W (fun _ => condsP e) (listT [91] (cs.map condT) [44] [93]) cs (Nb [91]) := by
  rw [listT_form]
  cases cs with
  | nil => exact reads_pass (c := 91) (s := []) (p := fun _ l => andThen (listP [44] (condP e) l) fun cs r => andThen (wantP e [93] r) fun _ r => .ok (cs, r)) (q := fun _ l => .ok ([], l)) (fun r hr => hr) (reads_ret [] _)
  | cons c cs =>
    rw [if_neg (by simp)]
    have hl := reads_list (W := W) (p := fun _ => condP e) (c := 44) (s := []) (sb := [44]) (g := condT) (F := Nx digB) (G := fun r => ∃ t, r = 93 :: t) (sign_sep (by decide) (by decide)) (fun r => nx_cons (by decide)) (fun r hr => by
      obtain ⟨t, rfl⟩ := hr
      exact ⟨nx_cons (by decide), nb_cons (by decide) (by decide)⟩) (c :: cs) (by simp) (fun a ha => reads_cond e (h a ha).1 (h a ha).2)
    refine reads_see (x := [91]) (kd := 4) (p := fun _ l => andThen (listP [44] (condP e) l) fun cs r => andThen (wantP e [93] r) fun _ r => .ok (cs, r)) (q := fun _ l => .ok ([], l)) (fun r _ => fits_sign (b := 91) (by decide) (.inl (by decide))) (fun _ => by decide) ?_
    exact reads_then (W := W) (G := Nb [91]) (q := fun _ (cs : List Cn) r => andThen (wantP e [93] r) fun _ r => .ok (cs, r)) hl (reads_map (fun _ => c :: cs) ((sign_want e (b := 93) (by decide) (by decide)).mono fun r _ => trivial)) fun r _ => ⟨r, rfl⟩
theorem reads_bound {W : Prop} (e : Nat) {bd : Bool} {bn : Int} (h0 : bd = true ∨ bn = 0) (hb : 0 ≤ bn ∧ bn < 18446744073709551616) : Reads W (fun _ => boundP e) (if bd = true then 64 :: labelT bn else []) (bd, bn) (Nb [64]) := by
  cases bd with
  | true => exact reads_see (x := [64]) (kd := 4) (p := fun _ l => andThen (labelP e l) fun b r => .ok ((true, b), r)) (q := fun _ l => .ok ((false, 0), l)) (fun r _ => fits_sign (b := 64) (by decide) (.inl (by decide))) (fun _ => by decide) ((reads_map (fun b => (true, b)) (reads_label e hb)).mono fun r _ => trivial)
  | false =>
    have : bn = 0 := h0.resolve_left (by decide)
    subst this
    exact reads_pass (c := 64) (s := []) (p := fun _ l => andThen (labelP e l) fun b r => .ok ((true, b), r)) (q := fun _ l => .ok ((false, 0), l)) (fun r hr => hr) (reads_ret _ _)
/-- What may follow an atom, an item, a sequence, a pattern. -/
def Fa (r : List UInt8) : Prop := Nb [64, 91, 58] r ∧ Nx smallB r
def Fi (r : List UInt8) : Prop := Nb [64, 91, 58, 123] r ∧ Nx smallB r
def Fs (r : List UInt8) : Prop := Nb [64, 91, 58, 123, 59] r ∧ Nx smallB r
def Fp (r : List UInt8) : Prop := Nb [64, 91, 58, 123, 59, 124] r ∧ Nx smallB r
theorem fi_fa {r : List UInt8} (h : Fi r) : Fa r := ⟨h.1.mono (by decide), h.2⟩
theorem fs_fi {r : List UInt8} (h : Fs r) : Fi r := ⟨h.1.mono (by decide), h.2⟩
theorem fp_fs {r : List UInt8} (h : Fp r) : Fs r := ⟨h.1.mono (by decide), h.2⟩
theorem large_facts {kd : Int} (h : 0 ≤ kd ∧ kd ≤ 25) : largeB (UInt8.ofNat (65 + kd.toNat)) = true ∧ ((UInt8.ofNat (65 + kd.toNat)).toNat : Int) - 65 = kd := by
  obtain ⟨k, rfl⟩ : ∃ k : Nat, kd = (k : Int) := ⟨kd.toNat, by omega⟩
  rw [Int.toNat_natCast]
  have h1 : (UInt8.ofNat (65 + k)).toNat = 65 + k := by rw [UInt8.toNat_ofNat']; omega
  unfold largeB
  rw [h1]
  simp
  omega
structure OkB (a : At) : Prop where
  bn : 0 ≤ a.bn ∧ a.bn < 18446744073709551616
  cs : ∀ c ∈ a.cs, okC c
theorem atomB_facts {a : At} (h : atomB a = true) : (0 ≤ a.kd ∧ a.kd ≤ 25) ∧ (a.bd = true ∨ a.bn = 0) ∧ (∀ c ∈ a.cs, condB c = true) ∧ (a.nm.isEmpty = true ∨ nameB a.nm = true) := by
  unfold atomB at h
  simp only [Bool.and_eq_true, Bool.or_eq_true, decide_eq_true_eq] at h
  exact ⟨h.1.1.1, h.1.1.2, List.all_eq_true.1 h.1.2, h.2⟩
theorem nm_head {l : List UInt8} {s r : List UInt8} (h : (58 : UInt8) ∉ l) (hr : Nb l r) : Nb l ((if s.isEmpty = true then [] else 58 :: s) ++ r) := by
  split
  · exact hr
  · exact nb_cons (by decide) h
theorem conds_head {l : List UInt8} {cs : List (List UInt8)} {r : List UInt8} (h : (91 : UInt8) ∉ l) (hr : Nb l r) : Nb l (listT [91] cs [44] [93] ++ r) := by
  rw [listT_form]
  split
  · exact hr
  · exact nb_cons (by decide) h
theorem reads_atom {W : Prop} (e : Nat) {a : At} (h : atomB a = true) (ho : OkB a) : Reads W (fun _ => atomP e) (atomT a) a Fa := by
  obtain ⟨h1, h2, h3, h4⟩ := atomB_facts h
  obtain ⟨kd, bd, bn, cs, nm⟩ := a
  simp only at h1 h2 h3 h4
  unfold atomT
  rw [List.append_assoc, List.append_assoc]
  have r4 := reads_map (W := W) (fun n => (⟨kd, bd, bn, cs, n⟩ : At)) (reads_nm e h4)
  have r3 := reads_then (W := W) (q := fun _ (cs : List Cn) r => andThen (nmP e r) fun n r => .ok ((⟨kd, bd, bn, cs, n⟩ : At), r)) (G := fun r => Nb [91, 58] r ∧ Nx smallB r) (reads_conds e (cs := cs) fun c hc => ⟨h3 c hc, ho.cs c hc⟩) (r4.mono fun r hr => ⟨hr.1.mono (by decide), hr.2⟩) (fun r hr => nm_head (by decide) (hr.1.mono (by decide)))
  have r2 := reads_then (W := W) (q := fun _ (b : Bool × Int) r => andThen (condsP e r) fun cs r => andThen (nmP e r) fun n r => .ok ((⟨kd, b.1, b.2, cs, n⟩ : At), r)) (G := Fa) (reads_bound e h2 ho.bn) (r3.mono fun r hr => ⟨hr.1.mono (by decide), hr.2⟩) (fun r hr => by
    rw [List.append_assoc]
    exact conds_head (by decide) (nm_head (by decide) (hr.1.mono (by decide))))
  refine reads_then (W := W) (q := fun _ (k : Int) r => andThen (boundP e r) fun b r => andThen (condsP e r) fun cs r => andThen (nmP e r) fun n r => .ok ((⟨k, b.1, b.2, cs, n⟩ : At), r)) (F := fun _ => True) (a := kd) ?_ r2 fun _ _ => trivial
  obtain ⟨g1, g2⟩ := large_facts h1
  exact reads_tok (kd := 2) (fun r _ => fits_letter r g1) (fun _ h => by have := congrArg List.length h; simp [withinA] at this) fun f k ts _ => by
    simp only [letterP, List.headD_cons]
    rw [if_pos trivial, g2]
theorem reads_times {W : Prop} (e : Nat) {mn mx : Int} (h1 : 0 ≤ mn ∧ mn ≤ 99) (h2 : 0 ≤ mx ∧ mx ≤ 99) : Reads W (fun _ => timesP e) (timesT mn mx) (mn, mx) (Nb [123]) := by
  unfold timesT
  by_cases h : mn = 1 ∧ mx = 1
  · rw [if_pos h, h.1, h.2]
    exact reads_pass (c := 123) (s := []) (p := fun _ l => andThen (numP e 0 99 l) fun a r => andThen (wantP e [44] r) fun _ r => andThen (numP e 0 99 r) fun b r => andThen (wantP e [125] r) fun _ r => .ok ((a, b), r)) (q := fun _ l => .ok ((1, 1), l)) (fun r hr => hr) (reads_ret _ _)
  · rw [if_neg h]
    have ee : ([123] : List UInt8) ++ (Lib.itoa mn ++ [44] ++ Lib.itoa mx) ++ [125] = [123] ++ (Lib.itoa mn ++ ([44] ++ (Lib.itoa mx ++ [125]))) := by simp
    rw [ee]
    refine reads_see (x := [123]) (kd := 4) (p := fun _ l => andThen (numP e 0 99 l) fun a r => andThen (wantP e [44] r) fun _ r => andThen (numP e 0 99 r) fun b r => andThen (wantP e [125] r) fun _ r => .ok ((a, b), r)) (q := fun _ l => .ok ((1, 1), l)) (fun r _ => fits_sign (b := 123) (by decide) (.inl (by decide))) (fun _ => by decide) ?_
    have r4 := reads_map (W := W) (fun _ => (mn, mx)) (sign_want (W := W) e (b := 125) (by decide) (by decide))
    have r3 := reads_then (W := W) (q := fun _ (b : Int) r => andThen (wantP e [125] r) fun _ r => .ok ((mn, b), r)) (G := fun _ => True) (reads_num e (lo := 0) (hi := 99) (v := mx) (Sm.okI_iff.2 (by omega)) h2.1 h2.2) r4 (fun r _ => nx_cons (p := digB) (c := 125) (u := r) (by decide))
    have r2 := reads_then (W := W) (q := fun _ _ r => andThen (numP e 0 99 r) fun b r => andThen (wantP e [125] r) fun _ r => .ok ((mn, b), r)) (G := fun _ => True) (sign_want (W := W) e (b := 44) (by decide) (by decide)) r3 (fun _ _ => trivial)
    exact (reads_then (W := W) (q := fun _ (a : Int) r => andThen (wantP e [44] r) fun _ r => andThen (numP e 0 99 r) fun b r => andThen (wantP e [125] r) fun _ r => .ok ((a, b), r)) (G := fun _ => True) (reads_num e (lo := 0) (hi := 99) (v := mn) (Sm.okI_iff.2 (by omega)) h1.1 h1.2) r2 (fun r _ => nx_cons (p := digB) (c := 44) (by decide))).mono fun _ _ => trivial
theorem atom_first (a : At) : ∃ t, atomT a = UInt8.ofNat (65 + a.kd.toNat) :: t := ⟨_, rfl⟩
theorem large_nb {l : List UInt8} {a : At} (h : atomB a = true) (hl : ∀ b ∈ l, largeB b = false) (r : List UInt8) : Nb l (atomT a ++ r) := by
  obtain ⟨t, ht⟩ := atom_first a
  have hg := (large_facts (atomB_facts h).1).1
  rw [ht]
  refine nb_cons ?_ fun hm => ?_
  · cases e : blankB (UInt8.ofNat (65 + a.kd.toNat))
    · rfl
    · rw [(blank_not e).2.1] at hg; cases hg
  · rw [hl _ hm] at hg; cases hg
/-- .. behind an opening sign, with one more to spare. -/
theorem reads_open {α : Type} {W : Prop} {p q : Nat → List T → R α} {kd : Nat} {x y : List UInt8} {a : α} {F : List UInt8 → Prop} (hf : ∀ r, F r → Fits kd x (y ++ r)) (hw : W → x ≠ withinA) (hp : Reads W (fun f => p (f + 1)) y a F) :
    Reads W (fun f l => if seesP x l = true then p f l.tail else q f l) (x ++ y) a F := fun r k ts hr ht => by
  rw [List.length_append, ← Nat.add_assoc] at ht
  obtain ⟨us, h1, h2, h3⟩ := hp r (k + x.length) ts hr ht
  refine ⟨(kd, x, k) :: us, ?_, fun f h => ?_, fun w t hm => ?_⟩
  · rw [List.append_assoc, toks_fit (hf r hr), h1]; rfl
  · show (if seesP x ((kd, x, k) :: (us ++ ts)) = true then p f (us ++ ts) else _) = _
    rw [if_pos (by simp [seesP])]
    obtain ⟨f', rfl⟩ : ∃ f', f = f' + 1 := ⟨f - 1, by simp at h; omega⟩
    exact h2 f' (by simp at h ⊢; omega)
  · rcases List.mem_cons.1 hm with rfl | hm
    · exact hw w
    · exact h3 w t hm
/-! Nodes -/
def itemF (e f : Nat) : List T → R Nd := itemP e (patP e f)
def seqF (e f : Nat) : List T → R Nd := seqP e (patP e f)
def patF (e f : Nat) : List T → R Nd := patP e (f + 1)
theorem paren_item {W : Prop} (e : Nat) {x : List UInt8} {n : Nd} (h : Reads W (patF e) x n Fp) : Reads W (itemF e) ([40] ++ x ++ [41]) n Fi := by
  have h1 := reads_then (W := W) (q := fun _ (n : Nd) r => andThen (wantP e [41] r) fun _ r => .ok (n, r)) (G := Fi) h (reads_map (fun _ => n) ((sign_want e (b := 41) (by decide) (by decide)).mono fun _ _ => trivial)) (fun r _ => (⟨nb_cons (b := 41) (r := r) (by decide) (by decide), nx_cons (c := 41) (u := r) (by decide)⟩ : Fp ([41] ++ r)))
  have h2 := reads_open (W := W) (x := [40]) (kd := 4) (p := fun f l => andThen (patP e f l) fun n r => andThen (wantP e [41] r) fun _ r => .ok (n, r)) (q := fun _ l => andThen (atomP e l) fun a r => andThen (timesP e r) fun m r => .ok (Nd.mk 1 m.1 m.2 a [], r)) (fun r _ => fits_sign (b := 40) (by decide) (.inl (by decide))) (fun _ => by decide) h1
  rw [List.append_assoc]
  exact reads_pass (c := 110) (s := [111, 116]) (p := fun _ l => andThen (atomP e l) fun a r => .ok (Nd.mk 2 0 0 a [], r)) (fun r _ => nb_cons (by decide) (by decide)) h2
theorem seq_one {W : Prop} (e : Nat) {x : List UInt8} {n : Nd} (h : Reads W (itemF e) x n Fi) : Reads W (seqF e) x n Fs := by
  have := reads_list (W := W) (p := itemF e) (c := 59) (s := []) (sb := [59]) (g := fun _ => x) (F := Fi) (G := Fs) (sign_sep (by decide) (by decide)) (fun r => ⟨nb_cons (by decide) (by decide), nx_cons (by decide)⟩) (fun r hr => ⟨fs_fi hr, hr.1.mono (by decide)⟩) [n] (by simp) (fun a ha => by rw [List.mem_singleton.1 ha]; exact h)
  exact reads_map (joinP 3) this
theorem pat_one {W : Prop} (e : Nat) {x : List UInt8} {n : Nd} (h : Reads W (seqF e) x n Fs) : Reads W (patF e) x n Fp := by
  have := reads_list (W := W) (p := seqF e) (c := 124) (s := []) (sb := [124]) (g := fun _ => x) (F := Fs) (G := Fp) (sign_sep (by decide) (by decide)) (fun r => ⟨nb_cons (by decide) (by decide), nx_cons (by decide)⟩) (fun r hr => ⟨fp_fs hr, hr.1.mono (by decide)⟩) [n] (by simp) (fun a ha => by rw [List.mem_singleton.1 ha]; exact h)
  exact reads_map (joinP 4) this
/-- A sign between blanks. -/
theorem blank_sep {W : Prop} {b : UInt8} (hb : signB b = true) (h2 : twoB b = false) : ∀ y k ts, toksG y (k + [32, b, 32].length) = .ok ts → ∃ t, toksG ([32, b, 32] ++ y) k = .ok (t :: ts) ∧ t.2.1 = b :: [] ∧ (W → t.2.1 ≠ withinA) := fun y k ts h =>
  ⟨(4, [b], k + 1), by
    have e1 := toks_blank (g := [32]) (fun c hc => by rw [List.mem_singleton.1 hc]; decide) ([b] ++ (32 :: y)) k
    have e2 := toks_fit (fits_sign (r := 32 :: y) hb (.inl h2)) (k + 1)
    have e3 := toks_blank (g := [32]) (fun c hc => by rw [List.mem_singleton.1 hc]; decide) y (k + 1 + 1)
    have e4 : toksG ([32, b, 32] ++ y) k = glue (4, [b], k + 1) (toksG y (k + 1 + 1 + 1)) := e1.trans (e2.trans (congrArg _ e3))
    rw [e4, show k + 1 + 1 + 1 = k + [32, b, 32].length from rfl, h]
    rfl, rfl, fun _ h => by
    have := congrArg List.length h
    simp [withinA] at this⟩
theorem join_many {k : Int} {ks : List Nd} (h : 2 ≤ ks.length) : joinP k ks = .mk k 0 0 noA ks := by
  match ks, h with
  | _ :: _ :: _, _ => rfl
theorem zero_noA {a : At} (h : zeroB a = true) : a = noA := by
  obtain ⟨kd, bd, bn, cs, nm⟩ := a
  unfold zeroB at h
  simp only [Bool.and_eq_true, decide_eq_true_eq, Bool.not_eq_true', List.isEmpty_iff] at h
  obtain ⟨⟨⟨⟨h1, h2⟩, h3⟩, h4⟩, h5⟩ := h
  rw [h1, h2, h3, h4, h5]
  rfl
def OkT9 (n : Nd) : Prop := ∀ t ∈ subsN n, OkB t.atom
theorem subsL_flat (l : List Nd) : subsL l = l.flatMap subsN := by
  induction l with
  | nil => rfl
  | cons n ns ih => rw [subsL, ih, List.flatMap_cons]
theorem okT9_kid {k mn mx : Int} {a : At} {ks : List Nd} (h : OkT9 (.mk k mn mx a ks)) {n : Nd} (hn : n ∈ ks) : OkT9 n := fun t ht => h t (by
  rw [subsN, subsL_flat]
  exact List.mem_cons_of_mem _ (List.mem_flatMap.2 ⟨n, hn, ht⟩))
theorem node_reads (e : Nat) : ∀ n : Nd, ∀ d, soundN d n = true → OkT9 n →
    ((n.kind = 1 ∨ n.kind = 2) → Reads True (itemF e) (textN n) n Fi) ∧ (n.kind = 3 → Reads True (seqF e) (textN n) n Fs) ∧ Reads True (patF e) (textN n) n Fp := by
  refine Nd.ind fun k mn mx a ks ih d hs ho => ?_
  rw [soundN] at hs
  simp only [Bool.and_eq_true, decide_eq_true_eq, soundL_all, List.all_eq_true] at hs
  obtain ⟨⟨hd, hn⟩, hk⟩ := hs
  have hoa : OkB a := ho (.mk k mn mx a ks) (by rw [subsN]; exact List.mem_cons_self)
  have item_of : (k = 1 ∨ k = 2) → Reads True (itemF e) (textN (.mk k mn mx a ks)) (.mk k mn mx a ks) Fi := by
    rintro (rfl | rfl)
    · unfold nodeB at hn
      rw [if_pos rfl] at hn
      simp only [Bool.and_eq_true, decide_eq_true_eq] at hn
      obtain ⟨⟨⟨ha, hmn⟩, hmx⟩, hl⟩ := hn
      have : ks = [] := List.eq_nil_of_length_eq_zero hl
      subst this
      rw [textN, if_pos rfl]
      have h1 := reads_then (W := True) (q := fun _ (a : At) r => andThen (timesP e r) fun m r => .ok (Nd.mk 1 m.1 m.2 a [], r)) (G := Fi) (reads_atom e ha hoa) (reads_map (fun m => Nd.mk 1 m.1 m.2 a []) ((reads_times e (mn := mn) (mx := mx) hmn hmx).mono fun r hr => hr.1.mono (by decide))) (fun r hr => by
        unfold timesT
        split
        · exact fi_fa hr
        · exact (⟨nb_cons (b := 123) (by decide) (by decide), nx_cons (c := 123) (by decide)⟩ : Fa _))
      have h2 := reads_pass (W := True) (c := 40) (s := []) (p := fun f l => andThen (patP e f l) fun n r => andThen (wantP e [41] r) fun _ r => .ok (n, r)) (fun r _ => by rw [List.append_assoc]; exact large_nb ha (by decide) _) h1
      exact reads_pass (c := 110) (s := [111, 116]) (p := fun _ l => andThen (atomP e l) fun a r => .ok (Nd.mk 2 0 0 a [], r)) (fun r _ => by rw [List.append_assoc]; exact large_nb ha (by decide) _) h2
    · unfold nodeB at hn
      rw [if_neg (by decide), if_pos rfl] at hn
      simp only [Bool.and_eq_true, decide_eq_true_eq] at hn
      obtain ⟨⟨ha, hm1, hm2⟩, hl⟩ := hn
      have : ks = [] := List.eq_nil_of_length_eq_zero hl
      subst this
      subst hm1
      subst hm2
      rw [textN, if_neg (by decide), if_pos rfl]
      exact reads_see (x := [110, 111, 116]) (y := 32 :: atomT a) (kd := 1) (p := fun _ l => andThen (atomP e l) fun a r => .ok (Nd.mk 2 0 0 a [], r)) (fun r _ => fits_word (by decide) (by decide) (nx_cons (by decide))) (fun _ => by decide) (reads_map (fun a => Nd.mk 2 0 0 a []) (reads_blank (by decide) ((reads_atom e ha hoa).mono fun r hr => fi_fa hr)))
  have kids : (k = 3 ∨ k = 4) → a = noA ∧ mn = 0 ∧ mx = 0 ∧ 2 ≤ ks.length := by
    intro h
    unfold nodeB at hn
    rw [if_neg (by omega), if_neg (by omega), if_pos h] at hn
    simp only [Bool.and_eq_true, decide_eq_true_eq] at hn
    exact ⟨zero_noA hn.1.1, hn.1.2.1, hn.1.2.2, hn.2⟩
  have kid_kind : ∀ t ∈ ks, t.kind = 1 ∨ t.kind = 2 ∨ t.kind = 3 ∨ t.kind = 4 := by
    intro t ht
    have h1 := hk t ht
    obtain ⟨k', mn', mx', a', ks'⟩ := t
    rw [soundN] at h1
    simp only [Bool.and_eq_true, decide_eq_true_eq] at h1
    have h2 := h1.1.2
    show k' = 1 ∨ k' = 2 ∨ k' = 3 ∨ k' = 4
    unfold nodeB at h2
    by_cases e1 : k' = 1
    · exact .inl e1
    · rw [if_neg e1] at h2
      by_cases e2 : k' = 2
      · exact .inr (.inl e2)
      · rw [if_neg e2] at h2
        by_cases e3 : k' = 3 ∨ k' = 4
        · exact .inr (.inr e3)
        · rw [if_neg e3] at h2; cases h2
  have seq_of : k = 3 → Reads True (seqF e) (textN (.mk k mn mx a ks)) (.mk k mn mx a ks) Fs := by
    rintro rfl
    obtain ⟨rfl, rfl, rfl, h2⟩ := kids (.inl rfl)
    rw [textN, if_neg (by decide), if_neg (by decide), if_pos rfl, textL_map]
    have hl := reads_list (W := True) (p := itemF e) (c := 59) (s := []) (sb := [32, 59, 32]) (g := fun n => wrapT 3 n.kind (textN n)) (F := Fi) (G := Fs) (blank_sep (by decide) (by decide)) (fun r => ⟨(nb_blank (by decide)).2 (nb_cons (b := 59) (by decide) (by decide)), nx_cons (c := 32) (by decide)⟩) (fun r hr => ⟨fs_fi hr, hr.1.mono (by decide)⟩) ks (by intro e; rw [e] at h2; simp at h2) (fun t ht => by
      obtain ⟨g1, g2, g3⟩ := ih t ht (d + 1) (hk t ht) (okT9_kid ho ht)
      unfold wrapT
      rcases kid_kind t ht with h | h | h | h
      · rw [if_neg (by rw [h]; decide)]; exact g1 (.inl h)
      · rw [if_neg (by rw [h]; decide)]; exact g1 (.inr h)
      · rw [if_pos (by rw [h]; decide)]; exact paren_item e g3
      · rw [if_pos (by rw [h]; decide)]; exact paren_item e g3)
    have := reads_map (joinP 3) hl
    rw [join_many h2] at this
    exact this
  refine ⟨item_of, seq_of, ?_⟩
  have hkk : k = 1 ∨ k = 2 ∨ k = 3 ∨ k = 4 := by
    unfold nodeB at hn
    by_cases e1 : k = 1
    · exact .inl e1
    · rw [if_neg e1] at hn
      by_cases e2 : k = 2
      · exact .inr (.inl e2)
      · rw [if_neg e2] at hn
        by_cases e3 : k = 3 ∨ k = 4
        · exact .inr (.inr e3)
        · rw [if_neg e3] at hn; cases hn
  rcases hkk with h | h | h | h
  · exact pat_one e (seq_one e (item_of (.inl h)))
  · exact pat_one e (seq_one e (item_of (.inr h)))
  · exact pat_one e (seq_of h)
  · subst h
    obtain ⟨rfl, rfl, rfl, h2⟩ := kids (.inr rfl)
    rw [textN, if_neg (by decide), if_neg (by decide), if_neg (by decide), if_pos rfl, textL_map]
    have hl := reads_list (W := True) (p := seqF e) (c := 124) (s := []) (sb := [32, 124, 32]) (g := fun n => wrapT 4 n.kind (textN n)) (F := Fs) (G := Fp) (blank_sep (by decide) (by decide)) (fun r => ⟨(nb_blank (by decide)).2 (nb_cons (b := 124) (by decide) (by decide)), nx_cons (c := 32) (by decide)⟩) (fun r hr => ⟨fp_fs hr, hr.1.mono (by decide)⟩) ks (by intro e; rw [e] at h2; simp at h2) (fun t ht => by
      obtain ⟨g1, g2, g3⟩ := ih t ht (d + 1) (hk t ht) (okT9_kid ho ht)
      unfold wrapT
      rcases kid_kind t ht with h | h | h | h
      · rw [if_neg (by rw [h]; decide)]; exact seq_one e (g1 (.inl h))
      · rw [if_neg (by rw [h]; decide)]; exact seq_one e (g1 (.inr h))
      · rw [if_neg (by rw [h]; decide)]; exact g2 h
      · rw [if_pos (by rw [h]; decide)]; exact seq_one e (paren_item e g3))
    have := reads_map (joinP 4) hl
    rw [join_many h2] at this
    exact this
end Go.Proofs.YtdjaijhlhhnmeaaGreatDoor.P9
