/- Package wire, as far as the events' package calls it: writers; what readers and writers are as data. -/
import Derived.Test.YtcmdndgaggbhoaaDoorCommon
import Derived.Test.YtcmdndgaggbhoaaDoorWireAll
import Derived.Deep.LoopGhost
import Derived.WalkMore
import Derived.Test.YtcmdndgaggbhoaaDoorShelf
import Derived.Deep.RegionWith
import Derived.Test.YtcmdndgaggbhoaaDoorProg
import Derived.Outline
import Derived.IntWalk
namespace Go.Proofs.YtcmdndgaggbhoaaDoor
open Go.RowKit
open Wr

/-- A new array of bytes, written from its end. -/
def row (n : Int) (size k : Nat) : List UInt8 := List.replicate (size - k) 0 ++ digI n k
theorem row_zero (n : Int) (size : Nat) : row n size 0 = List.replicate size 0 := by simp [row, digI]
theorem row_all (n : Int) (size : Nat) : row n size size = digI n size := by simp [row]
theorem row_length (n : Int) (size k : Nat) (h : k ≤ size) : (row n size k).length = size := by simp [row, digI_length]; omega
theorem row_succ (n : Int) (size k : Nat) (h : k < size) : row n size (k + 1) = (row n size k).set (size - 1 - k) (byteAt n k) := by
  unfold row
  obtain ⟨j, hj⟩ : ∃ j, size - k = j + 1 := ⟨size - k - 1, by omega⟩
  rw [show size - (k + 1) = j by omega, show size - 1 - k = j by omega, hj, digI_succ, List.replicate_succ', List.append_assoc, List.set_append_right _ _ (by simp)]
  simp

theorem digits_loop (n : Int) (size : Nat) (w : World) (h0 : 0 < size) (h8 : size ≤ 8)
    (hmk : ∀ w, (Instr.makeSlice 59 (.int .i64 size) (.int .i64 size)).run Tryd.prog w = .ok (.slice (some ⟨w.heap.size, 0, none⟩) size size) (w.alloc (.cells (bvals (row n size 0)).toArray 5))) :
    Calls Tryd.prog 62 #[.int .u64 n, .int .i64 size] w fun e w' => e = .returned (.string (strOf (digI n size))) ∧ Below w.heap.size w w' := by
  go_enter Tryd.func62, Tryd.ntmps62
  go_wp2
  go_loopw [11] (fun i wr => ∃ k : Nat, k ≤ size ∧ i = .int .i64 k ∧ wr = w.alloc (.cells (bvals (row n size k)).toArray 5)) (fun i _ => size - (intOf i).toNat)
  case atStart => exact ⟨0, by omega, rfl, rfl⟩
  case round =>
    obtain ⟨k, hk, rfl, rfl⟩ := hrel
    by_cases hlt : k < size
    · have hlen := row_length n size k hk
      have hget : (bvals (row n size k))[size - 1 - k]? = some (.int .u8 0) := by
        unfold bvals row
        rw [List.getElem?_map, List.getElem?_append_left (by simp; omega), List.getElem?_replicate, if_pos (by omega)]
        rfl
      have hnew := Lib.hid (show (bvals (row n size k)).toArray.setIfInBounds (size - 1 - k) (.int .u8 (n / 2 ^ (8 * k) % 256)) = (bvals (row n size (k + 1))).toArray by
        rw [row_succ n size k hlt, List.setIfInBounds_toArray]
        unfold bvals
        rw [List.map_set, byteAt_val, show (256 : Int) ^ k = 2 ^ (8 * k) by rw [Int.pow_mul]; rfl])
      clear hlen
      go_wp2
      go_roundw
      case rel => exact ⟨k + 1, by omega, by go_num, by rw [← hnew.out]; simp⟩
      case measure => simp [intOf]; omega
    · obtain rfl : k = size := by omega
      rw [row_all]
      have hslc : Slc (w.alloc (.cells (bvals (digI n k)).toArray 5)) (.slice (some ⟨w.heap.size, 0, none⟩) k k) (bvals (digI n k)) := by
        exact Slc.lit w (bvals (digI n k)) 5 k (by rw [bvals_length, digI_length]) (by omega)
      have hconv := conv_bytes Tryd.underlying59 Tryd.underlying5 Tryd.underlying9 hslc (by intro h; have := digI_length n k; rw [h] at this; simp at this; omega)
      clear hslc
      go_wp2
      go_returns
      exact ⟨rfl, by go_grown⟩
theorem digitsU_any (n : Int) (size : Nat) (w : World) (h : size = 1 ∨ size = 2 ∨ size = 4 ∨ size = 8) :
    Calls Tryd.prog 62 #[.int .u64 n, .int .i64 size] w fun e w' => e = .returned (.string (strOf (digI n size))) ∧ Below w.heap.size w w' := by
  rcases h with rfl | rfl | rfl | rfl
  all_goals exact digits_loop n _ w (by decide) (by decide) fun _ => by rw [row_zero]; kernel_rfl

end Go.Proofs.YtcmdndgaggbhoaaDoor
namespace Go.Proofs.YtcmdndgaggbhoaaDoor
open Go.RowKit
open Wr
namespace Wr
/-- The strings of a list, one behind the other; how many bytes they have. -/
def flat (l : List ByteArray) : List UInt8 := (l.map (·.data.toList)).flatten
def total (l : List ByteArray) : Nat := (l.map ByteArray.size).sum
theorem flat_length (l : List ByteArray) : (flat l).length = total l := by
  unfold flat total
  induction l with
  | nil => rfl
  | cons a r ih => simp [List.flatten_cons] at ih ⊢; omega
theorem flat_snoc (l : List ByteArray) (a : ByteArray) : flat (l ++ [a]) = flat l ++ a.data.toList := by simp [flat]
theorem total_snoc (l : List ByteArray) (a : ByteArray) : total (l ++ [a]) = total l + a.size := by simp [total]
theorem join_flat (xs : List (List UInt8)) : Lib.join xs [] = xs.flatten := by
  unfold Lib.join List.intercalate
  induction xs with
  | nil => rfl
  | cons a r ih =>
    cases r with
    | nil => simp
    | cons b r => simp [List.intersperse] at ih ⊢; exact ih
def strs (l : List ByteArray) : List Value := l.map Value.string
def Sp.add (x : Sp) (l : List ByteArray) : Sp := if x.e ≠ 0 then x else if x.m - x.u < total l then x.failAt 4 x.u else { x with u := x.u + total l, s := x.s ++ strOf (flat l) }
end Wr

theorem join_any {w : World} {b o cap : Nat} {l : List ByteArray} (hcap : l.length ≤ cap) (hb : b < w.heap.size) (hc : ∀ (i : Nat) (u : Value), (strs l)[i]? = some u → w.cell? ⟨b, o + i, none⟩ = some u) (hN : total l ≤ 100000) (hl : l.length ≤ 100000) :
    Calls Tryd.prog 56 #[.slice (some ⟨b, o, none⟩) l.length cap, .string ⟨#[]⟩] w fun e w' => e = .returned (.string (strOf (flat l))) ∧ Below w.heap.size w w' := by
  have e2 : flat l = Lib.join (l.map (·.data.toList)) [] := (join_flat _).symm
  have hj := Tryd.strings_Join b o cap l ⟨#[]⟩ w (fun j x hx => hc j _ (by simp [strs, hx])) hb (by omega) hcap (by
    have := flat_length l
    rw [e2] at this
    show (Lib.join (l.map (·.data.toList)) []).length ≤ _
    omega)
  exact hj.mono fun e w' ⟨he, hw⟩ => ⟨he.trans (by rw [e2]; rfl), hw⟩
theorem total_take (l : List ByteArray) (k : Nat) (h : k < l.length) : total (l.take (k + 1)) = total (l.take k) + l[k].size := by
  rw [take_snoc l k h, total_snoc]

/-- The program counts the bytes, one more than there is room for at most. -/
theorem add_any {w : World} {b : Nat} {x : Sp} (h : At w b x) (hk : x.Ok) (hm : x.m ≤ 20000) (hss : x.s.size ≤ 1000000) {v : Value} {l : List ByteArray} (hv : Sln w v (strs l)) (hl : l.length ≤ 100000) (hz : ∀ s ∈ l, s.size ≤ 1000000) (hne : ∀ B o n cap, v = .slice (some ⟨B, o, none⟩) n cap → B ≠ b) :
    Calls Tryd.prog 61 #[.pointer (some ⟨b, 0, none⟩), v] w fun r w' => r = .returned (.tuple #[]) ∧ Below b w w' ∧ At w' b (x.add l) := by
  have hu := hk.u0
  have hum := hk.um
  obtain ⟨B, o, cap, rfl, hcap, hmax, hB, hc⟩ := hv
  obtain ⟨hlt, c0, c1, c2, c3, c4, f0, f1, f2, f3, f4⟩ := id h
  have hll : (strs l).length = l.length := by simp [strs]
  rw [hll] at hcap hmax ⊢
  clear hll
  have hneB := Lib.hid (hne _ _ _ _ rfl)
  clear hne
  have HC := Lib.hid hc
  have HZ := Lib.hid hz
  clear hc hz
  unfold maxLen at hmax
  go_enter Tryd.func61, Tryd.ntmps61
  go_wp2
  go_loop [4, 9] (fun t i => ∃ k : Nat, k ≤ l.length ∧ i = .int .i64 k ∧ t = .int .i64 (min (total (l.take k) : Int) (x.m + 1))) (fun _ i => l.length - (intOf i).toNat)
  case atStart => exact ⟨0, by omega, rfl, by simp [total]; omega⟩
  case round =>
    obtain ⟨k, hk, rfl, rfl⟩ := hrel
    by_cases hlt : k < l.length
    · have hcell := HC.out k (.string l[k]) (by simp [strs, hlt])
      have hsz := HZ.out l[k] (List.getElem_mem hlt)
      have hn := Lib.hid (total_take l k hlt)
      obtain ⟨q, hq⟩ : ∃ q, q = min (total (l.take k) : Int) (x.m + 1) := ⟨_, rfl⟩
      have hq0 : 0 ≤ q := by omega
      have hq1 : q ≤ 20001 := by omega
      rw [← hq]
      have HQ := Lib.hid hq
      clear hq
      go_wp2
      go_round
      case rel => exact ⟨k + 1, by omega, by go_num, by congr 1; have := hn.out; have := HQ.out; omega⟩
      case measure => simp [intOf]; omega
    · obtain rfl : k = l.length := by omega
      rw [List.take_length]
      obtain ⟨q, hq⟩ : ∃ q, q = min (total l : Int) (x.m + 1) := ⟨_, rfl⟩
      have hq0 : 0 ≤ q := by omega
      have hq1 : q ≤ 20001 := by omega
      rw [← hq]
      have hadd : (x.claim q 4).2 = false → x.add l = (x.claim q 4).1 := fun hf => by
        unfold Sp.add
        unfold Sp.claim at hf ⊢
        by_cases he : x.e = 0
        · simp only [he, ne_eq, not_true_eq_false, if_false] at hf ⊢
          by_cases hg : x.m - x.u < q
          · rw [if_pos hg, if_pos (by omega)]
          · rw [if_neg hg] at hf; cases hf
        · simp only [he, ne_eq, not_false_eq_true, if_true] at hf ⊢
      have hadd2 : (x.claim q 4).2 = true → q = total l ∧ total l ≤ 20000 ∧ (x.claim q 4).1 = { x with u := x.u + total l } ∧ x.add l = { x with u := x.u + total l, s := x.s ++ strOf (flat l) } := fun hf => by
        unfold Sp.add
        unfold Sp.claim at hf ⊢
        by_cases he : x.e = 0
        · simp only [he, ne_eq, not_true_eq_false, if_false] at hf ⊢
          by_cases hg : x.m - x.u < q
          · rw [if_pos hg] at hf; cases hf
          · rw [if_neg hg, if_neg (by omega)]
            have e : q = total l := by omega
            exact ⟨e, by omega, by rw [e], rfl⟩
        · simp only [he, ne_eq, not_false_eq_true, if_true] at hf
          cases hf
      cases hcl : (x.claim q 4).2
      · have hx := Lib.hid (hadd hcl)
        have HCL := Lib.hid hcl
        clear hadd hadd2 hcl hq
        go_wp2_with (go_at_call 80; refine (claim_any h q 4 hq0 hu hum (by omega) (by omega) (by decide)).mono ?_; rintro e w' ⟨rfl, hb1, h1⟩; rw [HCL.out])
        go_returns
        exact ⟨rfl, hb1, by rw [hx.out]; exact h1⟩
      · obtain ⟨hqt, ht, hy, hxa⟩ := hadd2 hcl
        have hx := Lib.hid hxa
        have hy' := Lib.hid hy
        have HCL := Lib.hid hcl
        clear hadd hadd2 hcl hq hxa hy hqt
        go_wp2_with (go_at_call 80; refine (claim_only h q 4 hq0 hu hum (by omega) (by omega) (by decide)).mono ?_; rintro e w1 ⟨rfl, hb1, h1⟩; rw [HCL.out]; rw [hy'.out] at h1)
        have HC1 := Lib.hid (show ∀ (i : Nat) (u : Value), (strs l)[i]? = some u → w1.cell? ⟨B, o + i, none⟩ = some u from fun i u hu => (hb1.cell hneB.out).trans (HC.out i u hu))
        have hB1 : B < w1.heap.size := by rw [hb1.size]; exact hB
        obtain ⟨hlt1, d0, d1, d2, d3, d4, g0, g1, g2, g3, g4⟩ := id h1
        simp only at d0 d1 d2 d3 d4
        clear c0 c1 c2 c3 c4 f0 f1 f2 f3 f4
        have hs2 : (strOf (flat l)).size ≤ 20000 := by
          have e : (strOf (flat l)).size = (flat l).length := by
            show (flat l).toArray.size = _
            simp
          rw [e, flat_length]; exact ht
        go_region_with ((go_at_call 56; refine (join_any (w := w1.drew) hcap hB1 HC1.out (by omega) hl).mono ?_; rintro e w2 ⟨rfl, hb2⟩; have h2 := h1.drew.later hb2; obtain ⟨hlt2, d0, d1, d2, d3, d4, g0, g1, g2, g3, g4⟩ := id h2; simp only at d0 d1 d2 d3 d4))
        all_goals
          go_wp2
          go_returns
          refine ⟨rfl, ((hb1.below.drew).trans (hb2.mono (Nat.le_of_lt hlt1))).setCell (p := ⟨b, 4, none⟩) (Nat.le_refl _) _, ?_⟩
          rw [hx.out]
          exact h2.set4 _
end Go.Proofs.YtcmdndgaggbhoaaDoor
namespace Go.Proofs.YtcmdndgaggbhoaaDoor
open Go.RowKit
open Wr

theorem wopened (r : Wt) : r.opened.Ok ∧ r.opened.m ≤ 20000 ∧ r.opened.s.size ≤ 20000 := by
  unfold Wt.opened
  split
  · rename_i h
    have hk := Sp.ok_of_sound h.2
    have h1 := hk.um
    have h2 : r.sp.u = r.s.size := rfl
    have h3 : r.sp.m = r.most := rfl
    refine ⟨hk, h.1, ?_⟩
    show r.s.size ≤ 20000
    omega
  · exact ⟨⟨by decide, by decide⟩, by decide, by decide⟩
namespace Wr
def fitsI (n : Int) (size : Nat) : Bool := n / 2 ^ (8 * size) == 0
def putW (w : Wt) (size n : Int) : Wt := (if isSz size = true ∧ fitsI n size.toNat = true then w.opened.add [strOf (digI n size.toNat)] else w.opened.failAt 2 w.opened.u).wgiven
def addW (w : Wt) (l : List ByteArray) : Wt := (w.opened.add l).wgiven
def putInt64W (w : Wt) (n : Int) : Wt := addW w [strOf (digI n 8)]
def putSizedW (w : Wt) (s : ByteArray) : Wt := (if 65535 < s.size then w.opened.failAt 2 w.opened.u else w.opened.add [strOf (digI s.size 2), s]).wgiven
def doneW (w : Wt) : ByteArray × Int := if w.opened.e ≠ 0 then (⟨#[]⟩, w.opened.e) else (w.opened.s, 0)
def makeW (n : Int) : Wt := (Wt.opened ⟨⟨#[]⟩, n, 0⟩).wgiven
end Wr
theorem fits_is {n : Int} {size : Nat} {b : Bool} (h : fitsI n size = b) (w : World) (hs : size ≤ 8) :
    Calls Tryd.prog 59 #[.int .u64 n, .int .i64 size] w fun e w' => e = .returned (.bool b) ∧ w = w' := by
  have h1 := fits_any n size w (by omega) (by omega)
  rw [show (8 * (size : Int)).toNat = 8 * size by omega] at h1
  exact h ▸ h1
theorem strOf_size (l : List UInt8) : (strOf l).size = l.length := by
  show l.toArray.size = _
  simp

set_option maxHeartbeats 2000000 in
theorem done_any (r : Wt) (w : World) :
    Calls Tryd.prog 32 #[r.val] w fun e w' => e = .returned (.tuple #[.string (doneW r).1, .int .i64 (doneW r).2]) ∧ Below w.heap.size w w' := by
  obtain ⟨hk, hm2, hs2⟩ := wopened r
  have hopen := resume_any r
  obtain ⟨s, most, err⟩ := r
  obtain ⟨x, hx⟩ : ∃ x, x = Wt.opened ⟨s, most, err⟩ := ⟨_, rfl⟩
  have hu := (show doneW ⟨s, most, err⟩ = if x.e ≠ 0 then (⟨#[]⟩, x.e) else (x.s, 0) by rw [hx]; rfl)
  rw [← hx] at hk hm2 hs2 hopen
  clear hx
  simp only [Wt.val, Sp.val] at hopen ⊢
  by_cases he : x.e = 0
  · rw [if_neg (fun h => h he)] at hu
    replace hu := Lib.hid hu
    have hbe : (x.e != 0) = false := by simp [he]
    have HE := Lib.hid he
    clear he
    go_enter Tryd.func32, Tryd.ntmps32
    go_wp2_with fail
    refine named fun W hW => ?_
    have hB : Below w.heap.size w W := by rw [hW]; go_grown
    clear hW
    refine (hopen _).mono ?_
    rintro e w1 ⟨rfl, hb1⟩
    replace hB := bstep hB hb1
    clear hb1
    go_wp2_with fail
    refine named fun W hW => ?_
    have hA : At W w1.heap.size x := by rw [hW]; exact At.new _ _ _
    have hlt0 := hB.size
    replace hB : Below w.heap.size w W := by rw [hW]; exact hB.alloc hB.size _
    obtain ⟨b, hb⟩ : ∃ b, b = w1.heap.size := ⟨_, rfl⟩
    rw [← hb] at hA hlt0 ⊢
    clear hW hb
    refine (failed_any hA).mono ?_
    rintro e w' ⟨rfl, rfl⟩
    rw [hbe]
    obtain ⟨hltA, d0, d1, d2, d3, d4, g0, g1, g2, g3, g4⟩ := id hA
    go_wp2
    go_ret2
    exact ⟨by rw [hu.out]; rfl, hB⟩
  · rw [if_pos he] at hu
    replace hu := Lib.hid hu
    have hbe : (x.e != 0) = true := by simpa using he
    clear he
    go_enter Tryd.func32, Tryd.ntmps32
    go_wp2_with fail
    refine named fun W hW => ?_
    have hB : Below w.heap.size w W := by rw [hW]; go_grown
    clear hW
    refine (hopen _).mono ?_
    rintro e w1 ⟨rfl, hb1⟩
    replace hB := bstep hB hb1
    clear hb1
    go_wp2_with fail
    refine named fun W hW => ?_
    have hA : At W w1.heap.size x := by rw [hW]; exact At.new _ _ _
    have hlt0 := hB.size
    replace hB : Below w.heap.size w W := by rw [hW]; exact hB.alloc hB.size _
    obtain ⟨b, hb⟩ : ∃ b, b = w1.heap.size := ⟨_, rfl⟩
    rw [← hb] at hA hlt0 ⊢
    clear hW hb
    refine (failed_any hA).mono ?_
    rintro e w' ⟨rfl, rfl⟩
    rw [hbe]
    obtain ⟨hltA, d0, d1, d2, d3, d4, g0, g1, g2, g3, g4⟩ := id hA
    go_wp2_with fail
    go_quiet (fail)
    go_wp2
    go_ret2
    exact ⟨by rw [hu.out]; rfl, below_drewN hB _⟩
set_option maxHeartbeats 2000000 in
theorem make_any (n : Int) (w : World) :
    Calls Tryd.prog 30 #[.int .i64 n] w fun e w' => e = .returned (makeW n).val ∧ Below w.heap.size w w' := by
  have hopen := resume_any ⟨⟨#[]⟩, n, 0⟩
  obtain ⟨x, hx⟩ : ∃ x, x = Wt.opened ⟨⟨#[]⟩, n, 0⟩ := ⟨_, rfl⟩
  have hu := Lib.hid (show makeW n = x.wgiven by rw [hx]; rfl)
  rw [← hx] at hopen
  clear hx
  simp only [Wt.val, Sp.val] at hopen ⊢
  go_enter Tryd.func30, Tryd.ntmps30
  go_wp2_with fail
  refine named fun W hW => ?_
  have hB : Below w.heap.size w W := by rw [hW]; go_grown
  have hR : Blk W w.heap.size [.string ⟨#[]⟩, .int .i64 0, .int .i64 0] := by rw [hW]; exact Blk.is (us := [.string ⟨#[]⟩, .int .i64 0, .int .i64 0]) _ rfl
  clear hW
  refine (hopen _).mono ?_
  rintro e w1 ⟨rfl, hb1⟩
  replace hB := bstep hB hb1
  replace hR := hR.later hb1
  clear hb1
  go_wp2_with fail
  refine named fun W hW => ?_
  have hA : At W w1.heap.size x := by rw [hW]; exact At.new _ _ _
  have hlt := hR.lt
  replace hR : Blk W w.heap.size [.string ⟨#[]⟩, .int .i64 0, .int .i64 0] := by rw [hW]; exact hR.alloc _
  replace hB : Below w.heap.size w W := by rw [hW]; exact hB.alloc hB.size _
  clear hW
  refine (wgiven_any hA).mono ?_
  rintro e w9 ⟨rfl, hb9⟩
  simp only [Sp.wgiven, Wt.val]
  replace hR := hR.later hb9
  replace hB := bstep hB hb9
  clear hb9 hlt
  have c0 := hR.cell 0 _ rfl
  have c1 := hR.cell 1 _ rfl
  have c2 := hR.cell 2 _ rfl
  have f0 := hR.fr 0 _ rfl
  have f1 := hR.fr 1 _ rfl
  have f2 := hR.fr 2 _ rfl
  have hltR := hR.lt
  go_wp2
  refine named_post fun V hV => ?_
  have hVR : Blk V w.heap.size [.string (x).s, .int .i64 (x).m, .int .i64 (x).e] := by rw [hV]; exact ((hR.set 0 _).set 1 _).set 2 _
  have hVB : Below w.heap.size w V := by rw [hV]; exact ((hB.setCell (p := ⟨w.heap.size, 0, none⟩) (Nat.le_refl _) _).setCell (p := ⟨w.heap.size, 1, none⟩) (Nat.le_refl _) _).setCell (p := ⟨w.heap.size, 2, none⟩) (Nat.le_refl _) _
  clear hV c0 c1 c2 f0 f1 f2
  have c0 := hVR.cell 0 _ rfl
  have c1 := hVR.cell 1 _ rfl
  have c2 := hVR.cell 2 _ rfl
  refine bodyPost_ret (by simp [results, Tryd.results30, go_sem, c0, c1, c2]; try rfl) rfl ?_
  exact ⟨by rw [hu.out]; rfl, hVB⟩
set_option maxHeartbeats 2000000 in
theorem put_any (r : Wt) (size n : Int) (w : World) :
    Calls Tryd.prog 46 #[r.val, .int .i64 size, .int .u64 n] w fun e w' => e = .returned (putW r size n).val ∧ Below w.heap.size w w' := by
  obtain ⟨hk, hm2, hs2⟩ := wopened r
  have hopen := resume_any r
  obtain ⟨s, most, err⟩ := r
  obtain ⟨x, hx⟩ : ∃ x, x = Wt.opened ⟨s, most, err⟩ := ⟨_, rfl⟩
  have hu := (show putW ⟨s, most, err⟩ size n = (if isSz size = true ∧ fitsI n size.toNat = true then x.add [strOf (digI n size.toNat)] else x.failAt 2 x.u).wgiven by rw [hx]; rfl)
  rw [← hx] at hk hm2 hs2 hopen
  clear hx
  simp only [Wt.val, Sp.val] at hopen ⊢
  cases hz : isSz size
  · rw [if_neg (by rw [hz]; simp)] at hu
    replace hu := Lib.hid hu
    have HZ := Lib.hid hz
    clear hz
    go_enter Tryd.func46, Tryd.ntmps46
    go_wp2_with fail
    refine named fun W hW => ?_
    have hB : Below w.heap.size w W := by rw [hW]; go_grown
    have hR : Blk W (w.heap.size + 1) [.string ⟨#[]⟩, .int .i64 0, .int .i64 0] := by rw [hW]; exact Blk.is (us := [.string ⟨#[]⟩, .int .i64 0, .int .i64 0]) _ (by simp)
    clear hW
    refine (hopen _).mono ?_
    rintro e w1 ⟨rfl, hb1⟩
    replace hB := bstep hB hb1
    replace hR := hR.later hb1
    clear hb1
    go_wp2_with fail
    refine named fun W hW => ?_
    have hA : At W w1.heap.size x := by rw [hW]; exact At.new _ _ _
    have hlt := hR.lt
    replace hR : Blk W (w.heap.size + 1) [.string ⟨#[]⟩, .int .i64 0, .int .i64 0] := by rw [hW]; exact hR.alloc _
    have hlt0 := hB.size
    replace hB : Below w.heap.size w W := by rw [hW]; exact hB.alloc hB.size _
    obtain ⟨b, hb⟩ : ∃ b, b = w1.heap.size := ⟨_, rfl⟩
    rw [← hb] at hA hlt0 ⊢ hlt
    clear hW hb
    refine (isSize_is HZ.out _).mono ?_
    rintro e w' ⟨rfl, rfl⟩
    go_wp2_with fail
    refine (fail_any hA 2).mono ?_
    rintro e w2 ⟨rfl, hb2, hA⟩
    replace hR := hR.under hb2 hlt
    replace hB := hB.trans (hb2.mono (by omega))
    clear hb2
    go_wp2_with fail
    refine (wgiven_any hA).mono ?_
    rintro e w9 ⟨rfl, hb9⟩
    simp only [Sp.wgiven, Wt.val]
    replace hR := hR.later hb9
    replace hB := bstep hB hb9
    clear hb9 hA hlt
    have c0 := hR.cell 0 _ rfl
    have c1 := hR.cell 1 _ rfl
    have c2 := hR.cell 2 _ rfl
    have f0 := hR.fr 0 _ rfl
    have f1 := hR.fr 1 _ rfl
    have f2 := hR.fr 2 _ rfl
    have hltR := hR.lt
    go_wp2
    refine named_post fun V hV => ?_
    have hVR : Blk V (w.heap.size + 1) [.string (x.failAt 2 x.u).s, .int .i64 (x.failAt 2 x.u).m, .int .i64 (x.failAt 2 x.u).e] := by rw [hV]; exact ((hR.set 0 _).set 1 _).set 2 _
    have hVB : Below w.heap.size w V := by rw [hV]; exact ((hB.setCell (p := ⟨w.heap.size + 1, 0, none⟩) (by simp) _).setCell (p := ⟨w.heap.size + 1, 1, none⟩) (by simp) _).setCell (p := ⟨w.heap.size + 1, 2, none⟩) (by simp) _
    clear hV c0 c1 c2 f0 f1 f2
    have c0 := hVR.cell 0 _ rfl
    have c1 := hVR.cell 1 _ rfl
    have c2 := hVR.cell 2 _ rfl
    refine bodyPost_ret (by simp [results, Tryd.results46, go_sem, c0, c1, c2]; try rfl) rfl ?_
    exact ⟨by rw [hu.out]; rfl, hVB⟩
  · have h0 : 0 ≤ size := by have := isSz_iff.1 hz; omega
    obtain ⟨k, rfl⟩ := Int.eq_ofNat_of_zero_le h0
    rw [Int.toNat_natCast] at hu
    have hk8 : k = 1 ∨ k = 2 ∨ k = 4 ∨ k = 8 := by have := isSz_iff.1 hz; omega
    cases hf : fitsI n k
    · rw [if_neg (by rw [hf]; simp)] at hu
      replace hu := Lib.hid hu
      have HZ := Lib.hid hz
      have HF := Lib.hid hf
      clear hz hf
      go_enter Tryd.func46, Tryd.ntmps46
      go_wp2_with fail
      refine named fun W hW => ?_
      have hB : Below w.heap.size w W := by rw [hW]; go_grown
      have hR : Blk W (w.heap.size + 1) [.string ⟨#[]⟩, .int .i64 0, .int .i64 0] := by rw [hW]; exact Blk.is (us := [.string ⟨#[]⟩, .int .i64 0, .int .i64 0]) _ (by simp)
      clear hW
      refine (hopen _).mono ?_
      rintro e w1 ⟨rfl, hb1⟩
      replace hB := bstep hB hb1
      replace hR := hR.later hb1
      clear hb1
      go_wp2_with fail
      refine named fun W hW => ?_
      have hA : At W w1.heap.size x := by rw [hW]; exact At.new _ _ _
      have hlt := hR.lt
      replace hR : Blk W (w.heap.size + 1) [.string ⟨#[]⟩, .int .i64 0, .int .i64 0] := by rw [hW]; exact hR.alloc _
      have hlt0 := hB.size
      replace hB : Below w.heap.size w W := by rw [hW]; exact hB.alloc hB.size _
      obtain ⟨b, hb⟩ : ∃ b, b = w1.heap.size := ⟨_, rfl⟩
      rw [← hb] at hA hlt0 ⊢ hlt
      clear hW hb
      refine (isSize_is HZ.out _).mono ?_
      rintro e w' ⟨rfl, rfl⟩
      go_wp2_with fail
      refine (fits_is HF.out _ (by omega)).mono ?_
      rintro e w' ⟨rfl, rfl⟩
      go_wp2_with fail
      refine (fail_any hA 2).mono ?_
      rintro e w2 ⟨rfl, hb2, hA⟩
      replace hR := hR.under hb2 hlt
      replace hB := hB.trans (hb2.mono (by omega))
      clear hb2
      go_wp2_with fail
      refine (wgiven_any hA).mono ?_
      rintro e w9 ⟨rfl, hb9⟩
      simp only [Sp.wgiven, Wt.val]
      replace hR := hR.later hb9
      replace hB := bstep hB hb9
      clear hb9 hA hlt
      have c0 := hR.cell 0 _ rfl
      have c1 := hR.cell 1 _ rfl
      have c2 := hR.cell 2 _ rfl
      have f0 := hR.fr 0 _ rfl
      have f1 := hR.fr 1 _ rfl
      have f2 := hR.fr 2 _ rfl
      have hltR := hR.lt
      go_wp2
      refine named_post fun V hV => ?_
      have hVR : Blk V (w.heap.size + 1) [.string (x.failAt 2 x.u).s, .int .i64 (x.failAt 2 x.u).m, .int .i64 (x.failAt 2 x.u).e] := by rw [hV]; exact ((hR.set 0 _).set 1 _).set 2 _
      have hVB : Below w.heap.size w V := by rw [hV]; exact ((hB.setCell (p := ⟨w.heap.size + 1, 0, none⟩) (by simp) _).setCell (p := ⟨w.heap.size + 1, 1, none⟩) (by simp) _).setCell (p := ⟨w.heap.size + 1, 2, none⟩) (by simp) _
      clear hV c0 c1 c2 f0 f1 f2
      have c0 := hVR.cell 0 _ rfl
      have c1 := hVR.cell 1 _ rfl
      have c2 := hVR.cell 2 _ rfl
      refine bodyPost_ret (by simp [results, Tryd.results46, go_sem, c0, c1, c2]; try rfl) rfl ?_
      exact ⟨by rw [hu.out]; rfl, hVB⟩
    · rw [if_pos ⟨hz, hf⟩] at hu
      replace hu := Lib.hid hu
      have HZ := Lib.hid hz
      have HF := Lib.hid hf
      clear hz hf
      go_enter Tryd.func46, Tryd.ntmps46
      go_wp2_with fail
      refine named fun W hW => ?_
      have hB : Below w.heap.size w W := by rw [hW]; go_grown
      have hR : Blk W (w.heap.size + 1) [.string ⟨#[]⟩, .int .i64 0, .int .i64 0] := by rw [hW]; exact Blk.is (us := [.string ⟨#[]⟩, .int .i64 0, .int .i64 0]) _ (by simp)
      clear hW
      refine (hopen _).mono ?_
      rintro e w1 ⟨rfl, hb1⟩
      replace hB := bstep hB hb1
      replace hR := hR.later hb1
      clear hb1
      go_wp2_with fail
      refine named fun W hW => ?_
      have hA : At W w1.heap.size x := by rw [hW]; exact At.new _ _ _
      have hlt := hR.lt
      replace hR : Blk W (w.heap.size + 1) [.string ⟨#[]⟩, .int .i64 0, .int .i64 0] := by rw [hW]; exact hR.alloc _
      have hlt0 := hB.size
      replace hB : Below w.heap.size w W := by rw [hW]; exact hB.alloc hB.size _
      obtain ⟨b, hb⟩ : ∃ b, b = w1.heap.size := ⟨_, rfl⟩
      rw [← hb] at hA hlt0 ⊢ hlt
      clear hW hb
      refine (isSize_is HZ.out _).mono ?_
      rintro e w' ⟨rfl, rfl⟩
      go_wp2_with fail
      refine (fits_is HF.out _ (by omega)).mono ?_
      rintro e w' ⟨rfl, rfl⟩
      go_wp2_with fail
      have hdig := digitsU_any n k W hk8
      refine hdig.mono ?_
      rintro e w2 ⟨rfl, hb2⟩
      have hA0 := hA
      replace hA := hA.later hb2
      replace hR := hR.later hb2
      replace hB := bstep hB hb2
      clear hdig
      go_wp2_with fail
      refine named fun W3 hW => ?_
      have hv : Blk W3 w2.heap.size (strs [strOf (digI n k)]) := by rw [hW]; exact Blk.is (us := strs [strOf (digI n k)]) _ rfl
      replace hA := hA.alloc (.cells (strs [strOf (digI n k)]).toArray 9)
      replace hR := hR.alloc (.cells (strs [strOf (digI n k)]).toArray 9)
      have hltv := Nat.lt_of_lt_of_le hA0.lt hb2.size
      replace hB := hB.alloc hB.size (.cells (strs [strOf (digI n k)]).toArray 9)
      have hW' : w2.alloc (.cells (strs [strOf (digI n k)]).toArray 9) = W3 := hW.symm
      rw [hW'] at hA hR hB
      clear hW hW' hb2 hA0
      refine (add_any hA hk hm2 (by omega) (Sln.blk hv (by simp [strs])) (by simp) (fun s hs => by
        rw [List.mem_singleton.1 hs, strOf_size, digI_length]; omega) (fun B o n cap e => by cases e; omega)).mono ?_
      rintro e w4 ⟨rfl, hb2, hA⟩
      replace hR := hR.under hb2 hlt
      replace hB := hB.trans (hb2.mono (by omega))
      clear hb2
      go_wp2_with fail
      refine (wgiven_any hA).mono ?_
      rintro e w9 ⟨rfl, hb9⟩
      simp only [Sp.wgiven, Wt.val]
      replace hR := hR.later hb9
      replace hB := bstep hB hb9
      clear hb9 hA hlt
      have c0 := hR.cell 0 _ rfl
      have c1 := hR.cell 1 _ rfl
      have c2 := hR.cell 2 _ rfl
      have f0 := hR.fr 0 _ rfl
      have f1 := hR.fr 1 _ rfl
      have f2 := hR.fr 2 _ rfl
      have hltR := hR.lt
      go_wp2
      refine named_post fun V hV => ?_
      have hVR : Blk V (w.heap.size + 1) [.string (x.add [strOf (digI n k)]).s, .int .i64 (x.add [strOf (digI n k)]).m, .int .i64 (x.add [strOf (digI n k)]).e] := by rw [hV]; exact ((hR.set 0 _).set 1 _).set 2 _
      have hVB : Below w.heap.size w V := by rw [hV]; exact ((hB.setCell (p := ⟨w.heap.size + 1, 0, none⟩) (by simp) _).setCell (p := ⟨w.heap.size + 1, 1, none⟩) (by simp) _).setCell (p := ⟨w.heap.size + 1, 2, none⟩) (by simp) _
      clear hV c0 c1 c2 f0 f1 f2
      have c0 := hVR.cell 0 _ rfl
      have c1 := hVR.cell 1 _ rfl
      have c2 := hVR.cell 2 _ rfl
      refine bodyPost_ret (by simp [results, Tryd.results46, go_sem, c0, c1, c2]; try rfl) rfl ?_
      exact ⟨by rw [hu.out]; rfl, hVB⟩
end Go.Proofs.YtcmdndgaggbhoaaDoor
namespace Go.Proofs.YtcmdndgaggbhoaaDoor
open Go.RowKit
open Wr

end Go.Proofs.YtcmdndgaggbhoaaDoor
namespace Go.Proofs.YtcmdndgaggbhoaaDoor
open Go.RowKit
open Wr

theorem soundI {s : ByteArray} {at_ err fat : Int} : (Rd.sp ⟨s, at_, err, fat⟩).sound = true ↔ 0 ≤ at_ ∧ at_ ≤ s.size ∧ (err = 0 ∧ fat = 0 ∨ 1 ≤ err ∧ err ≤ 23 ∧ 0 ≤ fat ∧ fat ≤ s.size) := by
  have e : (Rd.sp ⟨s, at_, err, fat⟩).sound = (within at_ s.size && (if err = 0 then decide (fat = 0) else isErr err && within fat s.size)) := rfl
  rw [e, Bool.and_eq_true]
  have e1 : ∀ a b : Int, within a b = true ↔ 0 ≤ a ∧ a ≤ b := fun a b => by simp [within]
  have e2 : isErr err = true ↔ 0 < err ∧ err ≤ 23 := by simp [isErr]
  by_cases h : err = 0
  · rw [if_pos h, e1, decide_eq_true_iff]; omega
  · rw [if_neg h, Bool.and_eq_true, e1, e1, e2]; omega
def openB (s : ByteArray) (at_ err fat : Int) (b : Bool) : Prop := (Rd.opened ⟨s, at_, err, fat⟩) = if b then Rd.sp ⟨s, at_, err, fat⟩ else Sp.bad
theorem openB_of {s : ByteArray} {at_ err fat : Int} {b : Bool} (h : (Rd.sp ⟨s, at_, err, fat⟩).sound = true ↔ b = true) : openB s at_ err fat b := by
  unfold openB Rd.opened
  by_cases hb : b = true
  · rw [if_pos (h.2 hb), if_pos hb]
  · rw [if_neg (fun e => hb (h.1 e)), if_neg hb]
end Go.Proofs.YtcmdndgaggbhoaaDoor
namespace Go.Proofs.YtcmdndgaggbhoaaDoor
open Go.RowKit
open Wr

def failRd (r : Rd) (e a : Int) : Rd := if r.err = 0 then { r with err := e, fat := a } else r
def takeRd (r : Rd) (n : Int) : Rd × ByteArray := if r.err ≠ 0 then (r, ⟨#[]⟩) else if r.s.size - r.at_ < n then (failRd r 5 r.at_, ⟨#[]⟩) else ({ r with at_ := r.at_ + n }, r.s.extract r.at_.toNat (r.at_ + n).toNat)
theorem fail_given (x : Sp) (e a : Int) : failRd x.given e a = (x.failAt e a).given := by
  obtain ⟨u, m, e0, a0, s⟩ := x
  by_cases h : e0 = 0
  · simp [failRd, Sp.failAt, Sp.given, h]
  · simp [failRd, Sp.failAt, Sp.given, h]
theorem take_given (x : Sp) (hm : x.m = x.s.size) (n : Int) : takeRd x.given n = ((x.take n).1.given, (x.take n).2) := by
  obtain ⟨u, m, e0, a0, s⟩ := x
  simp only at hm
  subst hm
  by_cases h : e0 = 0
  · by_cases h2 : (s.size : Int) - u < n
    · simp [takeRd, Sp.take, Sp.claim, failRd, Sp.failAt, Sp.given, h, h2]
    · simp [takeRd, Sp.take, Sp.claim, Sp.given, h, h2]
  · simp [takeRd, Sp.take, Sp.claim, Sp.given, h]

end Go.Proofs.YtcmdndgaggbhoaaDoor
namespace Go.Proofs.YtcmdndgaggbhoaaDoor
open Go.RowKit
open Wr

end Go.Proofs.YtcmdndgaggbhoaaDoor
namespace Go.Proofs.YtcmdndgaggbhoaaDoor
open Go.RowKit
open Wr

end Go.Proofs.YtcmdndgaggbhoaaDoor
namespace Go.Proofs.YtcmdndgaggbhoaaDoor
open Go.RowKit
open Wr

end Go.Proofs.YtcmdndgaggbhoaaDoor
namespace Go.Proofs.YtcmdndgaggbhoaaDoor
open Go.RowKit
open Wr
namespace Wr
def putWt (w : Wt) (s : ByteArray) (refused : Int) : Wt :=
  if w.err ≠ 0 then w else if refused ≠ 0 then { w with err := refused } else if w.most - w.s.size < s.size then { w with err := 4 } else { w with s := w.s ++ s }
theorem put_fail (x : Sp) (s : ByteArray) (e a : Int) (he : e ≠ 0) : putWt x.wgiven s e = (x.failAt e a).wgiven := by
  obtain ⟨u, m, e0, a0, s0⟩ := x
  by_cases h : e0 = 0
  · simp [putWt, Sp.failAt, Sp.wgiven, h, he]
  · simp [putWt, Sp.failAt, Sp.wgiven, h]
theorem put_add (x : Sp) (l : List ByteArray) (hu : x.u = x.s.size) : putWt x.wgiven (strOf (flat l)) 0 = (x.add l).wgiven := by
  have hs : (strOf (flat l)).size = total l := by rw [strOf_size, flat_length]
  obtain ⟨u, m, e0, a0, s0⟩ := x
  simp only at hu
  subst hu
  by_cases h : e0 = 0
  · by_cases h2 : m - (s0.size : Int) < total l
    · simp [putWt, Sp.add, Sp.failAt, Sp.wgiven, h, hs, h2]
    · simp [putWt, Sp.add, Sp.wgiven, h, hs, h2]
  · simp [putWt, Sp.add, Sp.wgiven, h]
theorem wsoundI {s : ByteArray} {most err : Int} : (most ≤ 20000 ∧ (Wt.sp ⟨s, most, err⟩).sound = true) ↔ 0 ≤ most ∧ most ≤ 20000 ∧ s.size ≤ most ∧ 0 ≤ err ∧ err ≤ 23 := by
  have e : (Wt.sp ⟨s, most, err⟩).sound = (within s.size most && (if err = 0 then decide ((0 : Int) = 0) else isErr err && within 0 most)) := rfl
  rw [e, Bool.and_eq_true]
  have e1 : ∀ a b : Int, within a b = true ↔ 0 ≤ a ∧ a ≤ b := fun a b => by simp [within]
  have e2 : isErr err = true ↔ 0 < err ∧ err ≤ 23 := by simp [isErr]
  by_cases h : err = 0
  · rw [if_pos h, e1, decide_eq_true_iff]; omega
  · rw [if_neg h, Bool.and_eq_true, e1, e1, e2]; omega
def wopenB (s : ByteArray) (most err : Int) (b : Bool) : Prop := (Wt.opened ⟨s, most, err⟩) = if b then Wt.sp ⟨s, most, err⟩ else Sp.bad
theorem wopenB_of {s : ByteArray} {most err : Int} {b : Bool} (h : (most ≤ 20000 ∧ (Wt.sp ⟨s, most, err⟩).sound = true) ↔ b = true) : wopenB s most err b := by
  unfold wopenB Wt.opened
  by_cases hb : b = true
  · rw [if_pos (h.2 hb), if_pos hb]
  · rw [if_neg (fun e => hb (h.1 e)), if_neg hb]
theorem wopened_u (r : Wt) : r.opened.u = r.opened.s.size := by
  unfold Wt.opened
  split <;> rfl
end Wr
theorem strOf_append (a b : List UInt8) : strOf a ++ strOf b = strOf (a ++ b) := by
  apply ByteArray.ext
  rw [ByteArray.data_append]
  show a.toArray ++ b.toArray = (a ++ b).toArray
  simp
end Go.Proofs.YtcmdndgaggbhoaaDoor
namespace Go.Proofs.YtcmdndgaggbhoaaDoor
open Go.RowKit
open Wr

theorem fits_nat (n k : Nat) : fitsI n k = decide (n % 256 ^ k = n) := by
  unfold fitsI
  have e : (n : Int) / 2 ^ (8 * k) = ((n / 256 ^ k : Nat) : Int) := by
    rw [show (256 : Nat) ^ k = 2 ^ (8 * k) by rw [Nat.pow_mul]]
    simp
  have hp : 0 < 256 ^ k := Nat.pow_pos (by decide)
  rw [e, Bool.eq_iff_iff, decide_eq_true_iff, beq_iff_eq]
  constructor
  · intro h
    have h1 : n / 256 ^ k = 0 := by omega
    exact Nat.mod_eq_of_lt ((Nat.div_eq_zero_iff_lt hp).1 h1)
  · intro h
    have h1 := Nat.mod_lt n hp
    have : n / 256 ^ k = 0 := Nat.div_eq_of_lt (by omega)
    omega
end Go.Proofs.YtcmdndgaggbhoaaDoor
namespace Go.Proofs.YtcmdndgaggbhoaaDoor
open Go.RowKit
open Wr

theorem digI_u64 (n : Int) (k : Nat) (hk : k ≤ 8) : digI (n % 18446744073709551616) k = digI n k := by
  induction k with
  | zero => rfl
  | succ k ih =>
    rw [digI_succ, digI_succ, ih (by omega)]
    congr 1
    apply UInt8.toNat_inj.1
    have h1 := byteAt_val (n % 18446744073709551616) k
    have h2 := byteAt_val n k
    have hd : (18446744073709551616 : Int) = 256 ^ k * (256 * 256 ^ (7 - k)) := by
      have : (256 : Int) ^ 8 = 256 ^ k * (256 * 256 ^ (7 - k)) := by
        rw [← Int.pow_succ', ← Int.pow_add]; congr 1; omega
      rw [← this]; rfl
    have hp : (256 : Int) ^ k ≠ 0 := Int.ne_of_gt (Int.pow_pos (by decide))
    have hdm := Int.emod_add_mul_ediv n 18446744073709551616
    have : n % 18446744073709551616 / 256 ^ k % 256 = n / 256 ^ k % 256 := by
      obtain ⟨q, hq⟩ : ∃ q, q = n / 18446744073709551616 := ⟨_, rfl⟩
      obtain ⟨m, hm⟩ : ∃ m, m = n % 18446744073709551616 := ⟨_, rfl⟩
      rw [← hq, ← hm] at hdm
      rw [← hm, ← hdm, hd, Int.mul_assoc, Int.add_mul_ediv_left _ _ hp, Int.mul_assoc, Int.add_mul_emod_self_left]
    omega
end Go.Proofs.YtcmdndgaggbhoaaDoor
namespace Go.Proofs.YtcmdndgaggbhoaaDoor.Wr
open Go Go.RowKit

theorem byte_of (n k : Nat) : (byteAt n k).toNat = n / 256 ^ k % 256 := by
  have h := byteAt_val n k
  have e : ((n : Int) / 256 ^ k % 256) = ((n / 256 ^ k % 256 : Nat) : Int) := by simp
  rw [e] at h
  omega
theorem digI_mod (n k j : Nat) (h : j ≤ k) : digI ((n % 256 ^ k : Nat) : Int) j = digI (n : Int) j := by
  induction j with
  | zero => rfl
  | succ j ih =>
    rw [digI_succ, digI_succ, ih (by omega)]
    congr 1
    apply UInt8.toNat_inj.1
    rw [byte_of, byte_of]
    have hs : 256 ^ k = 256 ^ j * (256 * 256 ^ (k - j - 1)) := by
      rw [← Nat.pow_succ', ← Nat.pow_add]; congr 1; omega
    rw [hs, Nat.mod_mul_right_div_self, Nat.mod_mul_right_mod]
theorem less_digI (n x y : Nat) (hx : x < 256 ^ n) (hy : y < 256 ^ n) : Op.bytesLess (digI x n) (digI y n) = decide (x < y) := by
  induction n generalizing x y with
  | zero =>
    rw [Nat.pow_zero] at hx hy
    have : ¬ x < y := by omega
    simp [digI, Op.bytesLess, this]
  | succ n ih =>
    have hp : 0 < 256 ^ n := Nat.pow_pos (by decide)
    rw [Nat.pow_succ] at hx hy
    have hqx : x / 256 ^ n < 256 := Nat.div_lt_of_lt_mul hx
    have hqy : y / 256 ^ n < 256 := Nat.div_lt_of_lt_mul hy
    have bx : (byteAt (x : Int) n).toNat = x / 256 ^ n := by rw [byte_of, Nat.mod_eq_of_lt hqx]
    have bY : (byteAt (y : Int) n).toNat = y / 256 ^ n := by rw [byte_of, Nat.mod_eq_of_lt hqy]
    have dx := Nat.div_add_mod x (256 ^ n)
    have dy := Nat.div_add_mod y (256 ^ n)
    have mx := Nat.mod_lt x hp
    have my := Nat.mod_lt y hp
    have ih' := ih (x % 256 ^ n) (y % 256 ^ n) mx my
    rw [digI_mod x n n (Nat.le_refl _), digI_mod y n n (Nat.le_refl _)] at ih'
    rw [digI_succ, digI_succ, Op.bytesLess, ih', Bool.eq_iff_iff, decide_eq_true_iff, Bool.or_eq_true, Bool.and_eq_true, decide_eq_true_iff, decide_eq_true_iff, beq_iff_eq, UInt8.lt_iff_toNat_lt, ← UInt8.toNat_inj, bx, bY]
    clear ih ih' bx bY hx hy hqx hqy
    generalize 256 ^ n = p at dx dy mx my hp ⊢
    generalize x / p = qx at dx ⊢
    generalize y / p = qy at dy ⊢
    constructor
    · rintro (h | ⟨h, h2⟩)
      · have : p * qx + p ≤ p * qy := by rw [← Nat.mul_succ]; exact Nat.mul_le_mul_left _ h
        omega
      · rw [h] at dx; omega
    · intro h
      rcases Nat.lt_trichotomy qx qy with h1 | h1 | h1
      · exact .inl h1
      · rw [h1] at dx; exact .inr ⟨h1, by omega⟩
      · have : p * qy + p ≤ p * qx := by rw [← Nat.mul_succ]; exact Nat.mul_le_mul_left _ h1
        omega
theorem eq_digI (n x y : Nat) (hx : x < 256 ^ n) (hy : y < 256 ^ n) : (digI x n == digI y n) = decide (x = y) := by
  rw [Bool.eq_iff_iff, beq_iff_eq, decide_eq_true_iff]
  constructor
  · intro h
    have h1 := congrArg numOf h
    rw [numOf_digI, numOf_digI, Nat.mod_eq_of_lt hx, Nat.mod_eq_of_lt hy] at h1
    exact h1
  · intro h; rw [h]
end Go.Proofs.YtcmdndgaggbhoaaDoor.Wr
namespace Go.Proofs.YtcmdndgaggbhoaaDoor
open Go.RowKit

end Go.Proofs.YtcmdndgaggbhoaaDoor
namespace Go.Proofs.YtcmdndgaggbhoaaDoor
open Go.RowKit
open Wr

/-- A size made of a number. -/
def szI (k : Int) : Nat := 2 ^ (k % 4).toNat
theorem szI_cases (k : Int) : k % 4 = 0 ∧ szI k = 1 ∨ k % 4 = 1 ∧ szI k = 2 ∨ k % 4 = 2 ∧ szI k = 4 ∨ k % 4 = 3 ∧ szI k = 8 := by
  unfold szI
  have : k % 4 = 0 ∨ k % 4 = 1 ∨ k % 4 = 2 ∨ k % 4 = 3 := by omega
  rcases this with h | h | h | h <;> rw [h] <;> simp
theorem mask1 (n : Nat) (hn : n < 18446744073709551616) : bits .and .u64 (n : Int) 255 = ((n % 256 ^ 1 : Nat) : Int) := by
  have h := u64_and_nat n 255 hn (by decide)
  rw [nat_mask8] at h
  exact h
theorem mask2 (n : Nat) (hn : n < 18446744073709551616) : bits .and .u64 (n : Int) 65535 = ((n % 256 ^ 2 : Nat) : Int) := by
  have h := u64_and_nat n 65535 hn (by decide)
  rw [show n &&& 65535 = n % 65536 from Nat.and_two_pow_sub_one_eq_mod n 16] at h
  exact h
theorem mask4 (n : Nat) (hn : n < 18446744073709551616) : bits .and .u64 (n : Int) 4294967295 = ((n % 256 ^ 4 : Nat) : Int) := by
  have h := u64_and_nat n 4294967295 hn (by decide)
  rw [show n &&& 4294967295 = n % 4294967296 from Nat.and_two_pow_sub_one_eq_mod n 32] at h
  exact h
theorem tup2 {a b c d : Value} (h1 : a = c) (h2 : b = d) : Ending.returned (.tuple #[a, b]) = .returned (.tuple #[c, d]) := by rw [h1, h2]
theorem append_empty (s : ByteArray) : (⟨#[]⟩ : ByteArray) ++ s = s := by
  apply ByteArray.ext
  rw [ByteArray.data_append]
  simp
theorem flat_one (l : List UInt8) : flat [strOf l] = l := by simp [flat, strOf]
/-- A number that fits is written behind nothing. -/
theorem putW_new (m k x : Nat) (hm : m ≤ 20000) (hk : isSz k = true) (hkm : k ≤ m) (hx : x < 256 ^ k) : putW ⟨⟨#[]⟩, m, 0⟩ k x = ⟨strOf (digI x k), m, 0⟩ := by
  have ho : Wt.opened ⟨⟨#[]⟩, m, 0⟩ = ⟨0, m, 0, 0, ⟨#[]⟩⟩ := by
    unfold Wt.opened
    rw [if_pos (wsoundI.2 ⟨by show (0 : Int) ≤ m; omega, by show (m : Int) ≤ 20000; omega, by show (0 : Int) ≤ m; omega, by decide, by decide⟩)]
    rfl
  unfold putW
  rw [Int.toNat_natCast, if_pos ⟨hk, by rw [fits_nat]; exact decide_eq_true (Nat.mod_eq_of_lt hx)⟩, ho]
  have ht : total [strOf (digI x k)] = k := by simp [total, strOf_size, digI_length]
  unfold Sp.add
  rw [if_neg (fun h => h rfl), if_neg (by rw [ht]; simp; omega), flat_one, append_empty]
  rfl
theorem doneW_ok (s : ByteArray) (m : Nat) (hm : m ≤ 20000) (hs : s.size ≤ m) : doneW ⟨s, m, 0⟩ = (s, 0) := by
  have ho : Wt.opened ⟨s, m, 0⟩ = ⟨s.size, m, 0, 0, s⟩ := by
    unfold Wt.opened
    rw [if_pos (wsoundI.2 ⟨by show (0 : Int) ≤ m; omega, by show (m : Int) ≤ 20000; omega, by show (s.size : Int) ≤ m; omega, by decide, by decide⟩)]
    rfl
  unfold doneW
  rw [ho]
  rfl
end Go.Proofs.YtcmdndgaggbhoaaDoor
namespace Go.Proofs.YtcmdndgaggbhoaaDoor
open Go.RowKit
open Wr
namespace Wr
/-- A reader of s that is valid, and the bytes before its offset. -/
structure Inv (s : ByteArray) (a e f : Int) (all : ByteArray) : Prop where
  sound : (Rd.sp ⟨s, a, e, f⟩).sound = true
  pre : all = s.extract 0 a.toNat
theorem extract_join (s : ByteArray) (a b : Nat) (h : a ≤ b) : s.extract 0 a ++ s.extract a b = s.extract 0 b := by
  apply ByteArray.ext
  rw [ByteArray.data_append, ByteArray.data_extract, ByteArray.data_extract, ByteArray.data_extract]
  apply Array.toList_inj.1
  rw [Array.toList_append, Array.toList_extract, Array.toList_extract, Array.toList_extract]
  simp only [List.extract_eq_take_drop, Nat.sub_zero, List.drop_zero]
  rw [show b = a + (b - a) by omega, List.take_add, show a + (b - a) - a = b - a by omega]
theorem extract_all (s : ByteArray) : s.extract 0 s.size = s := ByteArray.extract_zero_size
theorem inv_start (s : ByteArray) : Inv s 0 0 0 ⟨#[]⟩ := by
  refine ⟨soundI.2 ⟨by decide, by show (0 : Int) ≤ s.size; omega, .inl ⟨rfl, rfl⟩⟩, ?_⟩
  apply ByteArray.ext
  rw [ByteArray.data_extract]
  simp
theorem inv_open {s : ByteArray} {a e f : Int} {all : ByteArray} (h : Inv s a e f all) : Rd.opened ⟨s, a, e, f⟩ = ⟨a, s.size, e, f, s⟩ := by
  unfold Rd.opened
  rw [if_pos h.sound]
  rfl
/-- What reading n bytes does with it. -/
theorem inv_step {s : ByteArray} {a e f : Int} {all : ByteArray} (h : Inv s a e f all) (n : Int) :
    ∃ (a2 e2 f2 : Int) (t : ByteArray), bytesR ⟨s, a, e, f⟩ n = (⟨s, a2, e2, f2⟩, t) ∧ a ≤ a2 ∧ a2 ≤ s.size ∧ (e ≠ 0 → a2 = a ∧ e2 = e ∧ f2 = f ∧ t = ⟨#[]⟩) ∧ Inv s a2 e2 f2 (all ++ t) := by
  have ho := inv_open h
  obtain ⟨hsound, hpre⟩ := id h
  obtain ⟨h0, h1, h2⟩ := soundI.1 hsound
  have he0 : all ++ (⟨#[]⟩ : ByteArray) = all := by
    apply ByteArray.ext
    rw [ByteArray.data_append]
    simp
  unfold bytesR
  rw [ho]
  by_cases he : e = 0
  · subst he
    by_cases hn : n < 0
    · rw [if_pos hn]
      exact ⟨a, 2, a, ⟨#[]⟩, rfl, by omega, h1, fun h => absurd rfl h, ⟨soundI.2 ⟨h0, h1, .inr ⟨by decide, by decide, h0, h1⟩⟩, by rw [he0]; exact hpre⟩⟩
    · rw [if_neg hn]
      by_cases hs : (s.size : Int) - a < n
      · refine ⟨a, 5, a, ⟨#[]⟩, ?_, by omega, h1, fun h => absurd rfl h, ⟨soundI.2 ⟨h0, h1, .inr ⟨by decide, by decide, h0, h1⟩⟩, by rw [he0]; exact hpre⟩⟩
        simp [Sp.take, Sp.claim, Sp.failAt, Sp.given, hs]
      · obtain ⟨h3, h4⟩ : f = 0 ∧ True := ⟨by omega, trivial⟩
        subst h3
        refine ⟨a + n, 0, 0, s.extract a.toNat (a + n).toNat, ?_, by omega, by omega, fun h => absurd rfl h, ⟨soundI.2 ⟨by omega, by omega, .inl ⟨rfl, rfl⟩⟩, ?_⟩⟩
        · simp [Sp.take, Sp.claim, Sp.given, hs]
        · rw [hpre]
          exact extract_join s a.toNat (a + n).toNat (by omega)
  · by_cases hn : n < 0
    · rw [if_pos hn]
      refine ⟨a, e, f, ⟨#[]⟩, ?_, by omega, h1, fun _ => ⟨rfl, rfl, rfl, rfl⟩, ⟨hsound, by rw [he0]; exact hpre⟩⟩
      simp [Sp.failAt, Sp.given, he]
    · rw [if_neg hn]
      refine ⟨a, e, f, ⟨#[]⟩, ?_, by omega, h1, fun _ => ⟨rfl, rfl, rfl, rfl⟩, ⟨hsound, by rw [he0]; exact hpre⟩⟩
      simp [Sp.take, Sp.claim, Sp.given, he]
theorem makeW_ok (m : Nat) (h : m ≤ 20000) : makeW m = ⟨⟨#[]⟩, m, 0⟩ := by
  unfold makeW Wt.opened
  rw [if_pos (wsoundI.2 ⟨by show (0 : Int) ≤ m; omega, by show (m : Int) ≤ 20000; omega, by show (0 : Int) ≤ m; omega, by decide, by decide⟩)]
  rfl
theorem open_err (m : Nat) (h : m ≤ 20000) (s : ByteArray) (hs : s.size ≤ m) (e : Int) (h1 : 0 ≤ e) (h2 : e ≤ 23) : Wt.opened ⟨s, m, e⟩ = ⟨s.size, m, e, 0, s⟩ := by
  unfold Wt.opened
  rw [if_pos (wsoundI.2 ⟨by show (0 : Int) ≤ m; omega, by show (m : Int) ≤ 20000; omega, by show (s.size : Int) ≤ m; omega, h1, h2⟩)]
  rfl
theorem addW_long (s : ByteArray) (h : s.size ≤ 20000) : addW ⟨⟨#[]⟩, s.size, 0⟩ [s, ⟨#[120]⟩] = ⟨⟨#[]⟩, s.size, 4⟩ := by
  unfold addW
  rw [open_err s.size h ⟨#[]⟩ (Nat.zero_le _) 0 (by decide) (by decide)]
  have ht : total [s, ⟨#[120]⟩] = s.size + 1 := rfl
  unfold Sp.add
  rw [if_neg (fun h => h rfl), ht, if_pos (by show (s.size : Int) - 0 < _; omega)]
  rfl
theorem putW_bad (m : Nat) (h : m ≤ 20000) (k n : Int) : putW ⟨⟨#[]⟩, m, 4⟩ k n = ⟨⟨#[]⟩, m, 4⟩ := by
  unfold putW
  rw [open_err m h ⟨#[]⟩ (Nat.zero_le _) 4 (by decide) (by decide)]
  split
  · rfl
  · rfl
theorem putSizedW_bad (m : Nat) (h : m ≤ 20000) (s : ByteArray) : putSizedW ⟨⟨#[]⟩, m, 4⟩ s = ⟨⟨#[]⟩, m, 4⟩ := by
  unfold putSizedW
  rw [open_err m h ⟨#[]⟩ (Nat.zero_le _) 4 (by decide) (by decide)]
  split
  · rfl
  · rfl
end Wr
end Go.Proofs.YtcmdndgaggbhoaaDoor
namespace Go.Proofs.YtcmdndgaggbhoaaDoor
open Go.RowKit
open Wr
namespace Wr
/-- Pieces, one behind the other. -/
def cat (g : Nat → List UInt8) (j : Nat) : List UInt8 := (List.range j).flatMap g
theorem cat_succ (g : Nat → List UInt8) (j : Nat) : cat g (j + 1) = cat g j ++ g j := by simp [cat, List.range_succ]
theorem cat_le (g : Nat → List UInt8) {j n : Nat} (h : j ≤ n) : ∃ r, cat g n = cat g j ++ r := by
  induction n with
  | zero => exact ⟨[], by rw [show j = 0 by omega]; simp⟩
  | succ n ih =>
    by_cases hj : j = n + 1
    · exact ⟨[], by rw [hj]; simp⟩
    · obtain ⟨r, hr⟩ := ih (by omega)
      exact ⟨r ++ g n, by rw [cat_succ, hr, List.append_assoc]⟩
theorem cat_len (g : Nat → List UInt8) (c : Nat) (hg : ∀ i, (g i).length ≤ c) (j : Nat) : (cat g j).length ≤ c * j := by
  induction j with
  | zero => simp [cat]
  | succ j ih => rw [cat_succ, List.length_append, Nat.mul_succ]; have := hg j; omega

/-- What is written behind what a writer with room holds. -/
theorem open_w (A : List UInt8) (h : A.length ≤ 20000) : Wt.opened ⟨strOf A, 20000, 0⟩ = ⟨A.length, 20000, 0, 0, strOf A⟩ := by
  have := open_err 20000 (by decide) (strOf A) (by rw [strOf_size]; exact h) 0 (by decide) (by decide)
  rw [strOf_size] at this
  exact this
theorem add_w (A : List UInt8) (l : List ByteArray) (h : A.length + total l ≤ 20000) : addW ⟨strOf A, 20000, 0⟩ l = ⟨strOf (A ++ flat l), 20000, 0⟩ := by
  unfold addW
  rw [open_w A (by omega)]
  unfold Sp.add
  rw [if_neg (fun h => h rfl), if_neg (by show ¬ (20000 : Int) - A.length < _; omega), strOf_append]
  rfl
theorem total_one (l : List UInt8) : total [strOf l] = l.length := by simp [total, strOf_size]
theorem put_w (A : List UInt8) (k x : Nat) (hk : isSz k = true) (hx : x < 256 ^ k) (h : A.length + k ≤ 20000) : putW ⟨strOf A, 20000, 0⟩ k x = ⟨strOf (A ++ digI x k), 20000, 0⟩ := by
  have h1 := add_w A [strOf (digI x k)] (by rw [total_one, digI_length]; exact h)
  rw [flat_one] at h1
  unfold putW
  rw [Int.toNat_natCast, if_pos ⟨hk, by rw [fits_nat]; exact decide_eq_true (Nat.mod_eq_of_lt hx)⟩]
  exact h1
theorem putInt_w (A : List UInt8) (n : Int) (h : A.length + 8 ≤ 20000) : putInt64W ⟨strOf A, 20000, 0⟩ n = ⟨strOf (A ++ digI n 8), 20000, 0⟩ := by
  have h1 := add_w A [strOf (digI n 8)] (by rw [total_one, digI_length]; exact h)
  rw [flat_one] at h1
  exact h1
theorem putSized_w (A : List UInt8) (s : ByteArray) (hs : s.size ≤ 65535) (h : A.length + (2 + s.size) ≤ 20000) : putSizedW ⟨strOf A, 20000, 0⟩ s = ⟨strOf (A ++ (digI s.size 2 ++ s.data.toList)), 20000, 0⟩ := by
  have h1 := add_w A [strOf (digI s.size 2), s] (by simp [total, strOf_size, digI_length]; omega)
  unfold putSizedW
  rw [if_neg (by omega)]
  rw [show flat [strOf (digI s.size 2), s] = digI s.size 2 ++ s.data.toList by simp [flat, strOf]] at h1
  exact h1
theorem add2_w (A : List UInt8) (s : ByteArray) (h : A.length + s.size ≤ 20000) : addW ⟨strOf A, 20000, 0⟩ [⟨#[]⟩, s] = ⟨strOf (A ++ s.data.toList), 20000, 0⟩ := by
  have h1 := add_w A [⟨#[]⟩, s] (by show _ + (0 + (s.size + 0)) ≤ _; omega)
  rw [show flat [⟨#[]⟩, s] = s.data.toList by simp [flat]] at h1
  exact h1

/-- A reader without a fault behind the bytes A. -/
theorem open_r (S : ByteArray) (a : Nat) (h : a ≤ S.size) : Rd.opened ⟨S, a, 0, 0⟩ = ⟨a, S.size, 0, 0, S⟩ := by
  unfold Rd.opened
  rw [if_pos (soundI.2 ⟨by omega, by omega, .inl ⟨rfl, rfl⟩⟩)]
  rfl
theorem extract_mid (A D B : List UInt8) : (strOf (A ++ (D ++ B))).extract A.length (A.length + D.length) = strOf D := by
  apply ByteArray.ext
  rw [ByteArray.data_extract]
  apply Array.toList_inj.1
  rw [Array.toList_extract]
  show ((A ++ (D ++ B)).toArray.toList.extract A.length (A.length + D.length)) = D.toArray.toList
  simp only [List.extract_eq_take_drop]
  rw [show A.length + D.length - A.length = D.length by omega]
  simp
theorem take_r (A D B : List UInt8) : (Sp.take ⟨A.length, (strOf (A ++ (D ++ B))).size, 0, 0, strOf (A ++ (D ++ B))⟩ D.length) = (⟨(A.length + D.length : Nat), (strOf (A ++ (D ++ B))).size, 0, 0, strOf (A ++ (D ++ B))⟩, strOf D) := by
  have hs : (strOf (A ++ (D ++ B))).size = A.length + (D.length + B.length) := by rw [strOf_size, List.length_append, List.length_append]
  unfold Sp.take Sp.claim
  rw [if_neg (fun h => h rfl), if_neg (by simp only [hs]; omega)]
  simp only [if_true]
  have e := extract_mid A D B
  rw [show ((A.length : Int)).toNat = A.length by omega, show ((A.length : Int) + (D.length : Int)).toNat = A.length + D.length by omega, e]
  rfl
theorem uint_r (A D B : List UInt8) (hD : isSz D.length = true) : uintR ⟨strOf (A ++ (D ++ B)), A.length, 0, 0⟩ D.length = (⟨strOf (A ++ (D ++ B)), (A.length + D.length : Nat), 0, 0⟩, numOf D) := by
  unfold uintR
  rw [open_r _ _ (by rw [strOf_size, List.length_append]; omega)]
  unfold Sp.field
  rw [if_pos hD, take_r]
  rfl
theorem int64_r (A D B : List UInt8) (hD : D.length = 8) : int64R ⟨strOf (A ++ (D ++ B)), A.length, 0, 0⟩ = (⟨strOf (A ++ (D ++ B)), (A.length + 8 : Nat), 0, 0⟩, IntKind.i64.wrap (numOf D)) := by
  have h := take_r A D B
  rw [hD] at h
  unfold int64R
  rw [open_r _ _ (by rw [strOf_size, List.length_append]; omega)]
  unfold Sp.field
  have h8 : Sp.take ⟨A.length, (strOf (A ++ (D ++ B))).size, 0, 0, strOf (A ++ (D ++ B))⟩ 8 = _ := h
  rw [if_pos (by decide), h8]
  rfl
theorem bytes_r (A D B : List UInt8) : bytesR ⟨strOf (A ++ (D ++ B)), A.length, 0, 0⟩ D.length = (⟨strOf (A ++ (D ++ B)), (A.length + D.length : Nat), 0, 0⟩, strOf D) := by
  unfold bytesR
  rw [open_r _ _ (by rw [strOf_size, List.length_append]; omega), if_neg (by omega), take_r]
  rfl
theorem sized_r (A : List UInt8) (D B : List UInt8) (most : Int) (hm : (D.length : Int) ≤ most) (hm2 : most ≤ 65535) :
    sizedR ⟨strOf (A ++ (digI D.length 2 ++ (D ++ B))), A.length, 0, 0⟩ most = (⟨strOf (A ++ (digI D.length 2 ++ (D ++ B))), (A.length + 2 + D.length : Nat), 0, 0⟩, strOf D) := by
  have h1 := take_r A (digI D.length 2) (D ++ B)
  rw [digI_length] at h1
  have h2 := take_r (A ++ digI D.length 2) D B
  rw [List.append_assoc, List.length_append, digI_length] at h2
  have hf : Sp.field ⟨A.length, (strOf (A ++ (digI D.length 2 ++ (D ++ B)))).size, 0, 0, strOf (A ++ (digI D.length 2 ++ (D ++ B)))⟩ 2 = (⟨(A.length + 2 : Nat), (strOf (A ++ (digI D.length 2 ++ (D ++ B)))).size, 0, 0, strOf (A ++ (digI D.length 2 ++ (D ++ B)))⟩, D.length) := by
    rw [field2]
    rw [show (2 : Int) = ((2 : Nat) : Int) from rfl, h1]
    have h3 : numOf (digI (D.length : Nat) 2) = D.length := by rw [numOf_digI]; exact Nat.mod_eq_of_lt (by omega)
    exact Prod.ext rfl h3
  unfold sizedR
  rw [open_r _ _ (by rw [strOf_size, List.length_append]; omega)]
  unfold Sp.sized
  rw [if_pos (by simp [within]; omega), hf, if_neg (by show ¬ most < (D.length : Int); omega), h2]
  rfl
end Wr
end Go.Proofs.YtcmdndgaggbhoaaDoor
