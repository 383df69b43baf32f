/- Walks: Text of the reference of package label. -/
import Derived.Test.YtnlioeheogkkiaaDoorLabelR
namespace Go.Proofs.YtnlioeheogkkiaaDoor
open Go.RowKit
open Lb

theorem conv_lit (w : World) (xs : List UInt8) (ys : List Value) (n : Nat) (hy : ys = bvals xs) (hn : xs.length = n) (h0 : xs ≠ []) (hl : n ≤ 100) :
    (convert 61 9 (.slice (some ⟨w.heap.size, 0, none⟩) n n)).run Tryd.prog (w.alloc (.cells ys.toArray 5)) = .ok (.string (strOf xs)) (w.alloc (.cells ys.toArray 5)) := by
  subst hy
  exact conv_bytes Tryd.underlying61 Tryd.underlying5 Tryd.underlying9 (Slc.lit w (bvals xs) 5 n (by simpa [bvals] using hn) (by omega)) h0

theorem dig_val (k : Nat) (hk : k < 10) : ((UInt8.ofNat (48 + k)).toNat : Int) = 48 + (k : Int) := by
  rw [UInt8.toNat_ofNat']; omega

theorem refDecimal_any (k : Nat) (w : World) (hk : k < 64) :
    Calls Tryd.prog 51 #[.int .i64 (k : Int)] w fun e w' => e = .returned (.string (strOf (Lib.decDigits k))) ∧ Below w.heap.size w w' := by
  by_cases h1 : k < 10
  · have hd := Lib.hid (Lib.decDigits_one h1)
    have hconv := conv_lit w (Lib.decDigits k) [.int .u8 (48 + (k : Int))] 1 (by rw [hd.out]; simp only [bvals, List.map_cons, List.map_nil]; rw [dig_val k h1]) (by rw [hd.out]; rfl) (by rw [hd.out]; simp) (by omega)
    go_enter Tryd.func51, Tryd.ntmps51
    go_wp2
    go_ret
    exact ⟨rfl, (Below.refl _ _).alloc (Nat.le_refl _) _⟩
  · have hd := Lib.hid (Lib.decDigits_two h1 (by omega))
    have hconv := conv_lit w (Lib.decDigits k) [.int .u8 (48 + (k : Int) / 10), .int .u8 (48 + (k : Int) % 10)] 2 (by
      rw [hd.out]; simp only [bvals, List.map_cons, List.map_nil]
      rw [dig_val (k / 10) (by omega), dig_val (k % 10) (by omega)]
      rfl) (by rw [hd.out]; rfl) (by rw [hd.out]; simp) (by omega)
    have h2 : ¬ (k : Int) < 10 := by omega
    go_enter Tryd.func51, Tryd.ntmps51
    go_wp2
    go_ret
    exact ⟨rfl, (Below.refl _ _).alloc (Nat.le_refl _) _⟩

theorem join_snoc (xs : List (List UInt8)) (y sep : List UInt8) (h : xs ≠ []) : Lib.join (xs ++ [y]) sep = Lib.join xs sep ++ (sep ++ y) := by
  cases xs with
  | nil => exact absurd rfl h
  | cons x r => rw [List.cons_append, Lib.join_cons, Lib.join_cons]; simp [Lib.joinTail]

/-- The text up to number k. -/
def preText (zs : List Nat) (k : Nat) : List UInt8 := [123] ++ Lib.join ((zs.take k).map Lib.decDigits) [44]
theorem preText_one (zs : List Nat) (h : 0 < zs.length) : preText zs 1 = preText zs 0 ++ Lib.decDigits zs[0] := by
  unfold preText
  rw [show zs.take 1 = [zs[0]] by rw [take_snoc zs 0 h]; simp]
  simp [Lib.join_one, Lib.join_nil]
theorem preText_succ (zs : List Nat) (k : Nat) (hk : 0 < k) (h : k < zs.length) : preText zs (k + 1) = preText zs k ++ [44] ++ Lib.decDigits zs[k] := by
  unfold preText
  rw [take_snoc zs k h, List.map_append, List.map_cons, List.map_nil, join_snoc _ _ _ (List.ne_nil_of_length_pos (by simp; omega))]
  simp
theorem preText_all (zs : List Nat) : preText zs zs.length ++ [125] = textOf zs := by
  unfold preText textOf
  rw [List.take_length]
theorem str_add (a b : List UInt8) : strOf a ++ strOf b = strOf (a ++ b) := by
  apply ByteArray.ext
  simp [strOf]

theorem dec_size (z : Nat) (h : z < 64) : (strOf (Lib.decDigits z)).size ≤ 2 := by
  by_cases h1 : z < 10
  · rw [Lib.decDigits_one h1]; simp [strOf, ByteArray.size]
  · rw [Lib.decDigits_two h1 (by omega)]; simp [strOf, ByteArray.size]
theorem preText_size (zs : List Nat) (k : Nat) (hz : zs.length ≤ 64) (h : ∀ z ∈ zs, z < 64) : (strOf (preText zs k)).size ≤ 1000 := by
  have h1 := textOf_length (zs.take k) fun z hz => h z (List.mem_of_mem_take hz)
  have h2 : (zs.take k).length ≤ zs.length := by rw [List.length_take]; omega
  have h3 : (strOf (preText zs k)).size = 1 + (Lib.join ((zs.take k).map Lib.decDigits) [44]).length := by
    simp [strOf, preText, ByteArray.size]; omega
  rw [h3]
  omega

theorem refText_any (r : Nat) (w : World) (hr : r < 18446744073709551616) :
    Calls Tryd.prog 38 #[.int .u64 (r : Int)] w fun e w' => e = .returned (.string (strOf (textOf (cats r)))) ∧ Below w.heap.size w w' := by
  have hz64 := cats_le r
  have hzk : ∀ k ∈ cats r, k < 64 := fun k hk => by simpa using (List.mem_filter.1 hk).1
  obtain ⟨zs, hzs⟩ : ∃ zs, zs = cats r := ⟨_, rfl⟩
  rw [← hzs] at hz64 hzk ⊢
  have HZ := Lib.hid hzs
  clear hzs
  go_enter Tryd.func38, Tryd.ntmps38
  go_wp2_with fail
  refine (refList_any r _).mono ?_
  rintro e w1 ⟨v, rfl, hs, hb⟩
  rw [← catsI_vals hr, ← HZ.out] at hs
  have HS := Lib.hid hs
  obtain ⟨A, cap, rfl, hm, hc⟩ := hs.ints
  clear hc hs
  rw [List.length_map] at HS hm ⊢
  go_wp2
  go_loopw [3, 5] (fun o i wr => ∃ k : Nat, k ≤ zs.length ∧ i = .int .i64 (k : Int) ∧ o = .string (strOf (preText zs k)) ∧ Below w1.heap.size w1 wr) (fun _ i _ => zs.length - (intOf i).toNat)
  case atStart => exact ⟨0, by omega, rfl, rfl, Below.refl _ _⟩
  case round =>
    obtain ⟨k, hk, rfl, rfl, hbr⟩ := hrel
    by_cases hlt : k < zs.length
    · obtain ⟨A', cap', hv, _, hc⟩ := (HS.out.below hbr).ints
      simp only [List.length_map, Value.slice.injEq] at hv
      obtain ⟨rfl, -, rfl⟩ := hv
      obtain ⟨a, rfl, _, hcell⟩ := hc k (by simpa using hlt)
      rw [List.getElem_map] at hcell
      clear hc
      have h64 := Lib.hid (hzk zs[k] (List.getElem_mem hlt))
      obtain ⟨z, hz⟩ : ∃ z, z = zs[k] := ⟨_, rfl⟩
      rw [← hz] at hcell h64
      have hz' := Lib.hid hz
      clear hz
      have hsz := preText_size zs k hz64 hzk
      have hdz := dec_size z h64.out
      by_cases hpos : 0 < k
      · have hp := Lib.hid (preText_succ zs k hpos hlt)
        have hk0 : (0 : Int) < (k : Int) := by omega
        have hsz' : (strOf (preText zs k) ++ { data := #[44] }).size ≤ 1001 := by rw [ByteArray.size_append, show ({ data := #[44] } : ByteArray).size = 1 from rfl]; omega
        go_wp2_with (go_at_call 51; refine (refDecimal_any z _ h64.out).mono ?_; rintro e w2 ⟨rfl, hb2⟩)
        go_roundw
        case rel => exact ⟨k + 1, by omega, by go_num, by rw [hp.out, ← hz'.out, ← str_add, ← str_add]; rfl, below_step hbr hb2⟩
        case measure => simp [intOf]; omega
      · have hp := Lib.hid (show preText zs (k + 1) = preText zs k ++ Lib.decDigits zs[k] by
          obtain rfl : k = 0 := by omega
          exact preText_one zs hlt)
        have hk0 : ¬ (0 : Int) < (k : Int) := by omega
        go_wp2_with (go_at_call 51; refine (refDecimal_any z _ h64.out).mono ?_; rintro e w2 ⟨rfl, hb2⟩)
        go_roundw
        case rel => exact ⟨k + 1, by omega, by go_num, by rw [hp.out, ← hz'.out, str_add], below_step hbr hb2⟩
        case measure => simp [intOf]; omega
    · obtain rfl : k = zs.length := by omega
      have hp := Lib.hid (preText_all zs)
      have hsz := preText_size zs zs.length hz64 hzk
      go_wp2
      go_ret
      exact ⟨by rw [← hp.out, ← str_add]; rfl, below_step hb hbr⟩
end Go.Proofs.YtnlioeheogkkiaaDoor
