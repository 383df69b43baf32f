/- Walks: strings are written by a writer. -/
import Derived.Test.YtgcgoiaadigmfaaWireE
import Derived.Test.YtgcgoiaadigmfaaWireD
import Derived.Test.YtgcgoiaadigmfaaShelf
import Derived.Deep.RegionWith
namespace Go.Proofs.Ytgcgoiaadigmfaa
open Go.RowKit
open Wr
namespace Wr
/-- The strings of a list, one behind the other; how many bytes they have. -/
def flat (l : List ByteArray) : List UInt8 := (l.map (·.data.toList)).flatten
def total (l : List ByteArray) : Nat := (l.map ByteArray.size).sum
theorem flat_length (l : List ByteArray) : (flat l).length = total l := by
  unfold flat total
  induction l with
  | nil => rfl
  | cons a r ih => simp [List.flatten_cons] at ih ⊢; omega
theorem flat_snoc (l : List ByteArray) (a : ByteArray) : flat (l ++ [a]) = flat l ++ a.data.toList := by simp [flat]
theorem total_snoc (l : List ByteArray) (a : ByteArray) : total (l ++ [a]) = total l + a.size := by simp [total]
theorem join_flat (xs : List (List UInt8)) : Lib.join xs [] = xs.flatten := by
  unfold Lib.join List.intercalate
  induction xs with
  | nil => rfl
  | cons a r ih =>
    cases r with
    | nil => simp
    | cons b r => simp [List.intersperse] at ih ⊢; exact ih
def strs (l : List ByteArray) : List Value := l.map Value.string
def Sp.add (x : Sp) (l : List ByteArray) : Sp := if x.e ≠ 0 then x else if x.m - x.u < total l then x.failAt 4 x.u else { x with u := x.u + total l, s := x.s ++ strOf (flat l) }
end Wr

theorem join_any {w : World} {b o cap : Nat} {l : List ByteArray} (hcap : l.length ≤ cap) (hb : b < w.heap.size) (hc : ∀ (i : Nat) (u : Value), (strs l)[i]? = some u → w.cell? ⟨b, o + i, none⟩ = some u) (hN : total l ≤ 100000) (hl : l.length ≤ 100000) :
    Calls Try.prog 80 #[.slice (some ⟨b, o, none⟩) l.length cap, .string ⟨#[]⟩] w fun e w' => e = .returned (.string (strOf (flat l))) ∧ Below w.heap.size w w' := by
  have e2 : flat l = Lib.join (l.map (·.data.toList)) [] := (join_flat _).symm
  have hj := Try.strings_Join b o cap l ⟨#[]⟩ w (fun j x hx => hc j _ (by simp [strs, hx])) hb (by omega) hcap (by
    have := flat_length l
    rw [e2] at this
    show (Lib.join (l.map (·.data.toList)) []).length ≤ _
    omega)
  exact hj.mono fun e w' ⟨he, hw⟩ => ⟨he.trans (by rw [e2]; rfl), hw⟩
theorem total_take (l : List ByteArray) (k : Nat) (h : k < l.length) : total (l.take (k + 1)) = total (l.take k) + l[k].size := by
  rw [take_snoc l k h, total_snoc]

/-- The program counts the bytes, one more than there is room for at most. -/
theorem add_any {w : World} {b : Nat} {x : Sp} (h : At w b x) (hk : x.Ok) (hm : x.m ≤ 20000) (hss : x.s.size ≤ 1000000) {v : Value} {l : List ByteArray} (hv : Sln w v (strs l)) (hl : l.length ≤ 100000) (hz : ∀ s ∈ l, s.size ≤ 1000000) (hne : ∀ B o n cap, v = .slice (some ⟨B, o, none⟩) n cap → B ≠ b) :
    Calls Try.prog 65 #[.pointer (some ⟨b, 0, none⟩), v] w fun r w' => r = .returned (.tuple #[]) ∧ Below b w w' ∧ At w' b (x.add l) := by
  have hu := hk.u0
  have hum := hk.um
  obtain ⟨B, o, cap, rfl, hcap, hmax, hB, hc⟩ := hv
  obtain ⟨hlt, c0, c1, c2, c3, c4, f0, f1, f2, f3, f4⟩ := id h
  have hll : (strs l).length = l.length := by simp [strs]
  rw [hll] at hcap hmax ⊢
  clear hll
  have hneB := Lib.hid (hne _ _ _ _ rfl)
  clear hne
  have HC := Lib.hid hc
  have HZ := Lib.hid hz
  clear hc hz
  unfold maxLen at hmax
  go_enter Try.func65, Try.ntmps65
  go_wp2
  go_loop [4, 9] (fun t i => ∃ k : Nat, k ≤ l.length ∧ i = .int .i64 k ∧ t = .int .i64 (min (total (l.take k) : Int) (x.m + 1))) (fun _ i => l.length - (intOf i).toNat)
  case atStart => exact ⟨0, by omega, rfl, by simp [total]; omega⟩
  case round =>
    obtain ⟨k, hk, rfl, rfl⟩ := hrel
    by_cases hlt : k < l.length
    · have hcell := HC.out k (.string l[k]) (by simp [strs, hlt])
      have hsz := HZ.out l[k] (List.getElem_mem hlt)
      have hn := Lib.hid (total_take l k hlt)
      obtain ⟨q, hq⟩ : ∃ q, q = min (total (l.take k) : Int) (x.m + 1) := ⟨_, rfl⟩
      have hq0 : 0 ≤ q := by omega
      have hq1 : q ≤ 20001 := by omega
      rw [← hq]
      have HQ := Lib.hid hq
      clear hq
      go_wp2
      go_round
      case rel => exact ⟨k + 1, by omega, by go_num, by congr 1; have := hn.out; have := HQ.out; omega⟩
      case measure => simp [intOf]; omega
    · obtain rfl : k = l.length := by omega
      rw [List.take_length]
      obtain ⟨q, hq⟩ : ∃ q, q = min (total l : Int) (x.m + 1) := ⟨_, rfl⟩
      have hq0 : 0 ≤ q := by omega
      have hq1 : q ≤ 20001 := by omega
      rw [← hq]
      have hadd : (x.claim q 4).2 = false → x.add l = (x.claim q 4).1 := fun hf => by
        unfold Sp.add
        unfold Sp.claim at hf ⊢
        by_cases he : x.e = 0
        · simp only [he, ne_eq, not_true_eq_false, if_false] at hf ⊢
          by_cases hg : x.m - x.u < q
          · rw [if_pos hg, if_pos (by omega)]
          · rw [if_neg hg] at hf; cases hf
        · simp only [he, ne_eq, not_false_eq_true, if_true] at hf ⊢
      have hadd2 : (x.claim q 4).2 = true → q = total l ∧ total l ≤ 20000 ∧ (x.claim q 4).1 = { x with u := x.u + total l } ∧ x.add l = { x with u := x.u + total l, s := x.s ++ strOf (flat l) } := fun hf => by
        unfold Sp.add
        unfold Sp.claim at hf ⊢
        by_cases he : x.e = 0
        · simp only [he, ne_eq, not_true_eq_false, if_false] at hf ⊢
          by_cases hg : x.m - x.u < q
          · rw [if_pos hg] at hf; cases hf
          · rw [if_neg hg, if_neg (by omega)]
            have e : q = total l := by omega
            exact ⟨e, by omega, by rw [e], rfl⟩
        · simp only [he, ne_eq, not_false_eq_true, if_true] at hf
          cases hf
      cases hcl : (x.claim q 4).2
      · have hx := Lib.hid (hadd hcl)
        have HCL := Lib.hid hcl
        clear hadd hadd2 hcl hq
        go_wp2_with (go_at_call 77; refine (claim_any h q 4 hq0 hu hum (by omega) (by omega) (by decide)).mono ?_; rintro e w' ⟨rfl, hb1, h1⟩; rw [HCL.out])
        go_returns
        exact ⟨rfl, hb1, by rw [hx.out]; exact h1⟩
      · obtain ⟨hqt, ht, hy, hxa⟩ := hadd2 hcl
        have hx := Lib.hid hxa
        have hy' := Lib.hid hy
        have HCL := Lib.hid hcl
        clear hadd hadd2 hcl hq hxa hy hqt
        go_wp2_with (go_at_call 77; refine (claim_only h q 4 hq0 hu hum (by omega) (by omega) (by decide)).mono ?_; rintro e w1 ⟨rfl, hb1, h1⟩; rw [HCL.out]; rw [hy'.out] at h1)
        have HC1 := Lib.hid (show ∀ (i : Nat) (u : Value), (strs l)[i]? = some u → w1.cell? ⟨B, o + i, none⟩ = some u from fun i u hu => (hb1.cell hneB.out).trans (HC.out i u hu))
        have hB1 : B < w1.heap.size := by rw [hb1.size]; exact hB
        obtain ⟨hlt1, d0, d1, d2, d3, d4, g0, g1, g2, g3, g4⟩ := id h1
        simp only at d0 d1 d2 d3 d4
        clear c0 c1 c2 c3 c4 f0 f1 f2 f3 f4
        have hs2 : (strOf (flat l)).size ≤ 20000 := by
          have e : (strOf (flat l)).size = (flat l).length := by
            show (flat l).toArray.size = _
            simp
          rw [e, flat_length]; exact ht
        go_region_with ((go_at_call 80; refine (join_any (w := w1.drew) hcap hB1 HC1.out (by omega) hl).mono ?_; rintro e w2 ⟨rfl, hb2⟩; have h2 := h1.drew.later hb2; obtain ⟨hlt2, d0, d1, d2, d3, d4, g0, g1, g2, g3, g4⟩ := id h2; simp only at d0 d1 d2 d3 d4))
        all_goals
          go_wp2
          go_returns
          refine ⟨rfl, ((hb1.below.drew).trans (hb2.mono (Nat.le_of_lt hlt1))).setCell (p := ⟨b, 4, none⟩) (Nat.le_refl _) _, ?_⟩
          rw [hx.out]
          exact h2.set4 _
end Go.Proofs.Ytgcgoiaadigmfaa
