/- Walk: WireWhole. -/
import Derived.Test.YtgcgoiaadigmfaaWireWholeM
import Derived.Test.YtgcgoiaadigmfaaWireV
import Derived.Deep.LoopGhost
import Derived.Deep.RegionWith
import Derived.Deep.RegionHeld3
import Derived.Deep.DeepCutAuto
import Derived.Test.YtgcgoiaadigmfaaHeld
namespace Go.Proofs.Ytgcgoiaadigmfaa
open Go.RowKit
open Wr

/-- What the loop over the numbers hands on. -/
def WhRel (s : ByteArray) (len B : Nat) (w : World) (g : Nat) (all i : Value) (wr : World) : Prop :=
  ∃ (j : Nat) (a e f : Int) (p : ByteArray), g = len - j ∧ j ≤ len ∧ j ≤ 30 ∧ i = .int .i64 j ∧ all = .string p ∧ Inv s a e f p ∧ Blk wr B [.string s, .int .i64 a, .int .i64 e, .int .i64 f] ∧ Below w.heap.size w wr
/-- What the reading of one field hands on. -/
def WhCut (s : ByteArray) (B : Nat) (w : World) (a e f a2 e2 f2 : Int) (t : ByteArray) (s9 s10 : Value) (wx : World) : Prop :=
  ∃ N : Nat, s9 = .pointer (some ⟨N, 0, none⟩) ∧ s10 = .string t ∧ N ≠ B ∧ Blk wx N [.string s, .int .i64 a2, .int .i64 e2, .int .i64 f2] ∧ Blk wx B [.string s, .int .i64 a, .int .i64 e, .int .i64 f] ∧ Below w.heap.size w wx
attribute [local go_sem] below_drew_eq
attribute [local simp] below_drew_eq
theorem inv_size {s : ByteArray} {a e f : Int} {p : ByteArray} (h : Inv s a e f p) : p.size ≤ s.size := by
  rw [h.pre, ByteArray.size_extract]
  omega

set_option maxRecDepth 100000 in
set_option maxHeartbeats 4000000 in
theorem whole_any (s : ByteArray) (v : Value) (l : List Int) (w : World) (hs : s.size ≤ 9223372036854775807) (hv : Slc w v (vals .i64 l)) (hwf : ∀ x ∈ l, x ≤ 9223372036854775807) :
    Calls Try.prog 7 #[.string s, v] w fun e w' => e = .returned (.bool true) ∧ Below w.heap.size w w' := by
  have hRd := fun w => read_any s w
  rw [show (readR s).val = .agg #[.string s, .int .i64 0, .int .i64 0, .int .i64 0] from rfl] at hRd
  obtain ⟨A, cap, rfl, hm0, hc0⟩ := hv.ints
  clear hc0
  have HV := Lib.hid hv
  have HWF := Lib.hid hwf
  clear hv hwf
  by_cases hlen : s.size ≤ 200
  · have hk1 : (s.size : Int) ≤ 200 := by omega
    go_enter Try.func7, Try.ntmps7
    go_wp2_with fail
    refine named fun W1 hW => ?_
    have hB : Below w.heap.size w W1 := by rw [hW]; exact (Below.refl _ _)
    clear hW
    refine (known_any _).mono ?_
    rintro e w2 ⟨rfl, hb⟩
    replace hB := bstep hB hb
    clear hb
    go_wp2_with fail
    refine (hRd _).mono ?_
    rintro e w3 ⟨rfl, hb⟩
    replace hB := bstep hB hb
    clear hb
    go_wp2_with fail
    have hBold := hB.size
    refine named_wp fun W4 hW => ?_
    have hKr : Blk W4 w3.heap.size [.string s, .int .i64 0, .int .i64 0, .int .i64 0] := by rw [hW]; exact (Blk.is (us := [.string s, .int .i64 0, .int .i64 0, .int .i64 0]) _ rfl)
    replace hB : Below w.heap.size w W4 := by rw [hW]; exact (hB).alloc hB.size _
    have hler : w.heap.size ≤ w3.heap.size := by have := hBold; omega
    clear hW hBold
    obtain ⟨B, hBd⟩ : ∃ B, B = w3.heap.size := ⟨_, rfl⟩
    rw [← hBd] at hKr hler ⊢
    clear hBd
    go_loopg [7, 8] l.length (fun g all i wr => WhRel s l.length B w g all i wr)
    case atStart => exact ⟨0, 0, 0, 0, ⟨#[]⟩, rfl, by omega, by omega, rfl, rfl, inv_start s, hKr, hB⟩
    case round =>
      obtain ⟨j, a, e, f, p, hg, hj, hj30, rfl, rfl, hI, hKr, hB⟩ := hrel
      have HG := Lib.hid hg
      clear hg
      have hps := inv_size hI
      obtain ⟨A3, cap3, he3, _, hc3⟩ := (HV.out.below hB).ints
      simp only [Value.slice.injEq] at he3
      obtain ⟨rfl, -, rfl⟩ := he3
      by_cases hlt : j < l.length ∧ j < 30
      · obtain ⟨hlt, hlt30⟩ := hlt
        obtain ⟨aa, rfl, _, hcell⟩ := hc3 j hlt
        obtain ⟨a2, e2, f2, t, hb, h1, h2, h3, hI2⟩ := inv_step hI l[j]
        have hBy := fun w => bytes_any ⟨s, a, e, f⟩ l[j] w hs (HWF.out l[j] (List.getElem_mem hlt))
        rw [hb] at hBy
        simp only [Rd.val] at hBy
        have hts : t.size ≤ 200 := by
          have hh := inv_size hI2
          rw [ByteArray.size_append] at hh
          omega
        clear hb hc3
        have HI2 := Lib.hid hI2
        clear hI2
        obtain ⟨z, hz⟩ : ∃ z, z = l[j] := ⟨_, rfl⟩
        rw [← hz] at hcell hBy
        clear hz
        have c0 := hKr.cell 0 _ rfl
        have c1 := hKr.cell 1 _ rfl
        have c2 := hKr.cell 2 _ rfl
        have c3 := hKr.cell 3 _ rfl
        have hltB := hKr.lt
        have hne1 : ¬ B = wr.heap.size := by omega
        have hne2 : ¬ wr.heap.size = B := by omega
        have hi30 : (j : Int) < 30 := by omega
        have hil : (j : Int) < (l.length : Int) := by omega
        have hcellA : (wr.alloc (.cells #[.string ⟨#[]⟩, .int .i64 0, .int .i64 0, .int .i64 0] 26)).cell? (aa.add j) = some (.int .i64 z) := (World.cell?_alloc_lt _ _ _ (World.block_lt_of_cell? wr _ hcell)).trans hcell
        go_upto_region 8 with (fail)
        go_cut [9, 10] (fun s9 s10 wx => WhCut s B w a e f a2 e2 f2 t s9 s10 wx)
        case first =>
          go_region_with ((go_at_call 14; refine (hBy _).mono ?_; rintro e9 w9 ⟨rfl, hb9⟩; first | (have hK9 := hKr.drew.later hb9; have hB9 := bstep hB.drew hb9; have d0 := hK9.cell 0 _ rfl; have d1 := hK9.cell 1 _ rfl; have d2 := hK9.cell 2 _ rfl; have d3 := hK9.cell 3 _ rfl; have g0 := hK9.fr 0 _ rfl; have g1 := hK9.fr 1 _ rfl; have g2 := hK9.fr 2 _ rfl; have g3 := hK9.fr 3 _ rfl; have hlt9 := hK9.lt; have hN1 : ¬ w9.heap.size = B := (by omega)) | (have hK9 := (hKr.alloc (.cells ([.string ⟨#[]⟩, .int .i64 0, .int .i64 0, .int .i64 0] : List Value).toArray 26)).drew.later hb9; have hB9 := bstep (hB.alloc hB.size (.cells ([.string ⟨#[]⟩, .int .i64 0, .int .i64 0, .int .i64 0] : List Value).toArray 26)).drew hb9; have hN9 := (Blk.is (us := [.string ⟨#[]⟩, .int .i64 0, .int .i64 0, .int .i64 0]) (w := wr) 26 rfl).drew.later hb9; have d0 := hK9.cell 0 _ rfl; have d1 := hK9.cell 1 _ rfl; have d2 := hK9.cell 2 _ rfl; have d3 := hK9.cell 3 _ rfl; have g0 := hK9.fr 0 _ rfl; have g1 := hK9.fr 1 _ rfl; have g2 := hK9.fr 2 _ rfl; have g3 := hK9.fr 3 _ rfl; have hlt9 := hK9.lt; have hN1 : ¬ w9.heap.size = B := (by omega); have n0 := hN9.cell 0 _ rfl; have n1 := hN9.cell 1 _ rfl; have n2 := hN9.cell 2 _ rfl; have n3 := hN9.cell 3 _ rfl; have m0 := hN9.fr 0 _ rfl; have m1 := hN9.fr 1 _ rfl; have m2 := hN9.fr 2 _ rfl; have m3 := hN9.fr 3 _ rfl; have ltN := hN9.lt)))
          all_goals
            go_wp2_with fail
            go_meet
            case rel => first | exact ⟨_, rfl, rfl, hN1, Blk.is (us := [.string s, .int .i64 a2, .int .i64 e2, .int .i64 f2]) _ rfl, hK9.alloc _, hB9.alloc hB9.size _⟩ | exact ⟨_, rfl, rfl, hne2, ((((hN9.set 0 _).set 1 _).set 2 _).set 3 _), ((((hK9.other hne2 _).other hne2 _).other hne2 _).other hne2 _), ((((hB9.setCell (p := ⟨wr.heap.size, 0, none⟩) hB.size _).setCell (p := ⟨wr.heap.size, 1, none⟩) hB.size _).setCell (p := ⟨wr.heap.size, 2, none⟩) hB.size _).setCell (p := ⟨wr.heap.size, 3, none⟩) hB.size _)⟩
        case rest =>
        clear c0 c1 c2 c3 hne1 hne2 hcell hcellA hltB hKr hB
        obtain ⟨N, rfl, rfl, hNB, hN9, hKr, hB⟩ := hcut
        have hNB' : ¬ B = N := fun h => hNB h.symm
        have c0 := hKr.cell 0 _ rfl
        have kf0 := hKr.fr 0 _ rfl
        have n0 := hN9.cell 0 _ rfl
        have c1 := hKr.cell 1 _ rfl
        have kf1 := hKr.fr 1 _ rfl
        have n1 := hN9.cell 1 _ rfl
        have c2 := hKr.cell 2 _ rfl
        have kf2 := hKr.fr 2 _ rfl
        have n2 := hN9.cell 2 _ rfl
        have c3 := hKr.cell 3 _ rfl
        have kf3 := hKr.fr 3 _ rfl
        have n3 := hN9.cell 3 _ rfl
        have hltB := hKr.lt
        have hltN := hN9.lt
        have hle1 : ¬ a2 < a := by omega
        have hle2 : ¬ (s.size : Int) < a2 := by omega
        by_cases he : e = 0
        · have heb : (e != 0) = false := by simp [he]
          clear h3 he
          go_wp2
          go_roundg (l.length - (j + 1))
          case measure => have := HG.out; omega
          case rel => exact ⟨j + 1, a2, e2, f2, p ++ t, rfl, by omega, by omega, by go_num, rfl, HI2.out, ((((hKr.set 0 _).set 1 _).set 2 _).set 3 _), ((((hB.setCell (p := ⟨B, 0, none⟩) hler _).setCell (p := ⟨B, 1, none⟩) hler _).setCell (p := ⟨B, 2, none⟩) hler _).setCell (p := ⟨B, 3, none⟩) hler _)⟩
        · obtain ⟨q1, q2, q3, q4⟩ := h3 he
          subst q1 q2 q3 q4
          have heb : (e2 != 0) = true := by simpa using he
          clear h3 he
          go_wp2
          go_roundg (l.length - (j + 1))
          case measure => have := HG.out; omega
          case rel => exact ⟨j + 1, _, _, _, p ++ ⟨#[]⟩, rfl, by omega, by omega, by go_num, rfl, HI2.out, ((((hKr.set 0 _).set 1 _).set 2 _).set 3 _), ((((hB.setCell (p := ⟨B, 0, none⟩) hler _).setCell (p := ⟨B, 1, none⟩) hler _).setCell (p := ⟨B, 2, none⟩) hler _).setCell (p := ⟨B, 3, none⟩) hler _)⟩
      · obtain ⟨h0, h1, -⟩ := soundI.1 hI.sound
        obtain ⟨aN, rfl⟩ := Int.eq_ofNat_of_zero_le h0
        have hpre : p = s.extract 0 aN := hI.pre
        have hcat : p ++ s.extract aN s.size = s := by rw [hpre, extract_join s aN s.size (by omega), extract_all]
        have hes : (s.extract aN s.size).size ≤ 200 := by rw [ByteArray.size_extract]; omega
        have hMk := fun w => make_any s.size w
        rw [makeW_ok s.size (by omega)] at hMk
        have hzz : ∀ z ∈ ([s, ⟨#[120]⟩] : List ByteArray), z.size ≤ 1000000 := fun z hz => by
          rcases List.mem_cons.1 hz with h | h
          · rw [h]; omega
          · rw [List.mem_singleton.1 h]; decide
        have hAd := fun (w : World) (v : Value) (hv : Sln w v (strs [s, ⟨#[120]⟩])) => add_pub ⟨⟨#[]⟩, s.size, 0⟩ v [s, ⟨#[120]⟩] w hv (by simp) hzz
        rw [addW_long s (by omega)] at hAd
        have hPb := fun k w => put_any ⟨⟨#[]⟩, s.size, 4⟩ k 0 w
        simp only [putW_bad s.size (by omega)] at hPb
        have hPs := fun w => putSized_any ⟨⟨#[]⟩, s.size, 4⟩ ⟨#[]⟩ w (by decide)
        rw [putSizedW_bad s.size (by omega)] at hPs
        simp only [Wt.val] at hMk hAd hPb hPs
        clear hzz hpre HG HV HWF hI hc3 hRd
        by_cases hj1 : j < l.length
        · have hil : (j : Int) < (l.length : Int) := by omega
          have hi30 : ¬ (j : Int) < 30 := by omega
          have cr0 := hKr.cell 0 _ rfl
          have fr0 := hKr.fr 0 _ rfl
          have cr1 := hKr.cell 1 _ rfl
          have fr1 := hKr.fr 1 _ rfl
          have cr2 := hKr.cell 2 _ rfl
          have fr2 := hKr.fr 2 _ rfl
          have cr3 := hKr.cell 3 _ rfl
          have fr3 := hKr.fr 3 _ rfl
          go_wp2_with fail
          clear cr0 fr0 cr1 fr1 cr2 fr2 cr3 fr3
          refine (hMk _).mono ?_
          rintro e w51 ⟨rfl, hb⟩
          replace hKr := hKr.later hb
          replace hB := bstep hB hb
          clear hb
          go_wp2_with fail
          have hBold := hB.size
          have hltoldr := hKr.lt
          refine named fun W52 hW => ?_
          replace hKr : Blk W52 B [.string s, .int .i64 (aN : Int), .int .i64 e, .int .i64 f] := by rw [hW]; exact (hKr.alloc _)
          have hKl : Blk W52 w51.heap.size [.string s, .string ⟨#[120]⟩] := by rw [hW]; exact (Blk.is (us := [.string s, .string ⟨#[120]⟩]) _ rfl)
          replace hB : Below w.heap.size w W52 := by rw [hW]; exact (hB).alloc hB.size _
          have hlel : w.heap.size ≤ w51.heap.size := by have := hBold; omega
          have hltrl : B < w51.heap.size := by have := hltoldr; omega
          clear hW hBold hltoldr
          refine (hAd _ _ (Sln.blk hKl (show (2 : Nat) ≤ 1000000 by decide))).mono ?_
          rintro e w53 ⟨rfl, hb⟩
          replace hKr := hKr.later hb
          replace hKl := hKl.later hb
          replace hB := bstep hB hb
          clear hb
          go_wp2_with fail
          have hBold := hB.size
          have hltoldr := hKr.lt
          have hltoldl := hKl.lt
          refine named_wp fun W54 hW => ?_
          replace hKr : Blk W54 B [.string s, .int .i64 (aN : Int), .int .i64 e, .int .i64 f] := by rw [hW]; exact (hKr.alloc _)
          replace hKl : Blk W54 w51.heap.size [.string s, .string ⟨#[120]⟩] := by rw [hW]; exact (hKl.alloc _)
          have hKd : Blk W54 w53.heap.size [.string ⟨#[]⟩, .int .i64 s.size, .int .i64 4] := by rw [hW]; exact (Blk.is (us := [.string ⟨#[]⟩, .int .i64 s.size, .int .i64 4]) _ rfl)
          replace hB : Below w.heap.size w W54 := by rw [hW]; exact (hB).alloc hB.size _
          have hled : w.heap.size ≤ w53.heap.size := by have := hBold; omega
          have hltrd : B < w53.heap.size := by have := hltoldr; omega
          have hltld : w51.heap.size < w53.heap.size := by have := hltoldl; omega
          clear hW hBold hltoldr hltoldl
          have cd0 := hKd.cell 0 _ rfl
          have fd0 := hKd.fr 0 _ rfl
          have cd1 := hKd.cell 1 _ rfl
          have fd1 := hKd.fr 1 _ rfl
          have cd2 := hKd.cell 2 _ rfl
          have fd2 := hKd.fr 2 _ rfl
          have hWW : Below W54.heap.size W54 W54 := Below.refl _ _
          go_region_held3 (fun w' => w'.cell? ⟨w53.heap.size, 0, none⟩ = some (.string ⟨#[]⟩) ∧ w'.cell? ⟨w53.heap.size, 1, none⟩ = some (.int .i64 (s.size : Int)) ∧ w'.cell? ⟨w53.heap.size, 2, none⟩ = some (.int .i64 4) ∧ Below W54.heap.size W54 w') (go_keep) (first | (go_at_call 29; refine (held3c (W := W54) (a0 := ⟨w53.heap.size, 0, none⟩) (a1 := ⟨w53.heap.size, 1, none⟩) (a2 := ⟨w53.heap.size, 2, none⟩) (c0 := .string ⟨#[]⟩) (c1 := .int .i64 (s.size : Int)) (c2 := .int .i64 4) (hPb _) ?_ ?_ ?_ ?_).mono ?_; (simp [*]); (simp [*]); (simp [*]); (simp [*]); rintro e9 w9 ⟨rfl, q0, q1, q2, q3⟩) | (go_at_call 35; refine (held3c (W := W54) (a0 := ⟨w53.heap.size, 0, none⟩) (a1 := ⟨w53.heap.size, 1, none⟩) (a2 := ⟨w53.heap.size, 2, none⟩) (c0 := .string ⟨#[]⟩) (c1 := .int .i64 (s.size : Int)) (c2 := .int .i64 4) hPs ?_ ?_ ?_ ?_).mono ?_; (simp [*]); (simp [*]); (simp [*]); (simp [*]); rintro e9 w9 ⟨rfl, q0, q1, q2, q3⟩))
          go_wp2
          go_ret
          exact ⟨by first | rfl | simp, bstep hB q3⟩
        · have hil : decide ((j : Int) < (l.length : Int)) = false := by simp; omega
          have cr0 := hKr.cell 0 _ rfl
          have fr0 := hKr.fr 0 _ rfl
          have cr1 := hKr.cell 1 _ rfl
          have fr1 := hKr.fr 1 _ rfl
          have cr2 := hKr.cell 2 _ rfl
          have fr2 := hKr.fr 2 _ rfl
          have cr3 := hKr.cell 3 _ rfl
          have fr3 := hKr.fr 3 _ rfl
          go_wp2_with fail
          clear cr0 fr0 cr1 fr1 cr2 fr2 cr3 fr3
          refine (hMk _).mono ?_
          rintro e w51 ⟨rfl, hb⟩
          replace hKr := hKr.later hb
          replace hB := bstep hB hb
          clear hb
          go_wp2_with fail
          have hBold := hB.size
          have hltoldr := hKr.lt
          refine named fun W52 hW => ?_
          replace hKr : Blk W52 B [.string s, .int .i64 (aN : Int), .int .i64 e, .int .i64 f] := by rw [hW]; exact (hKr.alloc _)
          have hKl : Blk W52 w51.heap.size [.string s, .string ⟨#[120]⟩] := by rw [hW]; exact (Blk.is (us := [.string s, .string ⟨#[120]⟩]) _ rfl)
          replace hB : Below w.heap.size w W52 := by rw [hW]; exact (hB).alloc hB.size _
          have hlel : w.heap.size ≤ w51.heap.size := by have := hBold; omega
          have hltrl : B < w51.heap.size := by have := hltoldr; omega
          clear hW hBold hltoldr
          refine (hAd _ _ (Sln.blk hKl (show (2 : Nat) ≤ 1000000 by decide))).mono ?_
          rintro e w53 ⟨rfl, hb⟩
          replace hKr := hKr.later hb
          replace hKl := hKl.later hb
          replace hB := bstep hB hb
          clear hb
          go_wp2_with fail
          have hBold := hB.size
          have hltoldr := hKr.lt
          have hltoldl := hKl.lt
          refine named_wp fun W54 hW => ?_
          replace hKr : Blk W54 B [.string s, .int .i64 (aN : Int), .int .i64 e, .int .i64 f] := by rw [hW]; exact (hKr.alloc _)
          replace hKl : Blk W54 w51.heap.size [.string s, .string ⟨#[120]⟩] := by rw [hW]; exact (hKl.alloc _)
          have hKd : Blk W54 w53.heap.size [.string ⟨#[]⟩, .int .i64 s.size, .int .i64 4] := by rw [hW]; exact (Blk.is (us := [.string ⟨#[]⟩, .int .i64 s.size, .int .i64 4]) _ rfl)
          replace hB : Below w.heap.size w W54 := by rw [hW]; exact (hB).alloc hB.size _
          have hled : w.heap.size ≤ w53.heap.size := by have := hBold; omega
          have hltrd : B < w53.heap.size := by have := hltoldr; omega
          have hltld : w51.heap.size < w53.heap.size := by have := hltoldl; omega
          clear hW hBold hltoldr hltoldl
          have cd0 := hKd.cell 0 _ rfl
          have fd0 := hKd.fr 0 _ rfl
          have cd1 := hKd.cell 1 _ rfl
          have fd1 := hKd.fr 1 _ rfl
          have cd2 := hKd.cell 2 _ rfl
          have fd2 := hKd.fr 2 _ rfl
          have hWW : Below W54.heap.size W54 W54 := Below.refl _ _
          go_region_held3 (fun w' => w'.cell? ⟨w53.heap.size, 0, none⟩ = some (.string ⟨#[]⟩) ∧ w'.cell? ⟨w53.heap.size, 1, none⟩ = some (.int .i64 (s.size : Int)) ∧ w'.cell? ⟨w53.heap.size, 2, none⟩ = some (.int .i64 4) ∧ Below W54.heap.size W54 w') (go_keep) (first | (go_at_call 29; refine (held3c (W := W54) (a0 := ⟨w53.heap.size, 0, none⟩) (a1 := ⟨w53.heap.size, 1, none⟩) (a2 := ⟨w53.heap.size, 2, none⟩) (c0 := .string ⟨#[]⟩) (c1 := .int .i64 (s.size : Int)) (c2 := .int .i64 4) (hPb _) ?_ ?_ ?_ ?_).mono ?_; (simp [*]); (simp [*]); (simp [*]); (simp [*]); rintro e9 w9 ⟨rfl, q0, q1, q2, q3⟩) | (go_at_call 35; refine (held3c (W := W54) (a0 := ⟨w53.heap.size, 0, none⟩) (a1 := ⟨w53.heap.size, 1, none⟩) (a2 := ⟨w53.heap.size, 2, none⟩) (c0 := .string ⟨#[]⟩) (c1 := .int .i64 (s.size : Int)) (c2 := .int .i64 4) hPs ?_ ?_ ?_ ?_).mono ?_; (simp [*]); (simp [*]); (simp [*]); (simp [*]); rintro e9 w9 ⟨rfl, q0, q1, q2, q3⟩))
          go_wp2
          go_ret
          exact ⟨by first | rfl | simp, bstep hB q3⟩
  · have hk1 : (200 : Int) < (s.size : Int) := by omega
    go_enter Try.func7, Try.ntmps7
    go_wp2_with fail
    refine named fun W1 hW => ?_
    have hB : Below w.heap.size w W1 := by rw [hW]; exact (Below.refl _ _)
    clear hW
    refine (known_any _).mono ?_
    rintro e w2 ⟨rfl, hb⟩
    replace hB := bstep hB hb
    clear hb
    go_wp2
    go_ret
    exact ⟨by first | rfl | simp, hB⟩
end Go.Proofs.Ytgcgoiaadigmfaa
