/- Walk: LabelBack. -/
import Derived.Test.YtnlioeheogkkiaaDoorLabelX
import Derived.Test.YtnlioeheogkkiaaDoorLabelR
import Derived.Test.YtnlioeheogkkiaaDoorLabelQ
namespace Go.Proofs.YtnlioeheogkkiaaDoor
open Go.RowKit
open Lb

theorem parse_fine (s : ByteArray) (h : (parseI s).2.1 = 0) : (parseI s).2.2 = 0 := by
  unfold parseI at h ⊢
  split at h
  · rename_i h0; exact absurd h h0
  · rename_i h0
    rw [if_neg h0]
    split at h
    · simp at h
    · rename_i h1; rw [if_neg h1]

/-- The text of a label, as the walk holds it. -/
structure Txt (a : Nat) (s T : ByteArray) : Prop where
  size : T.size ≤ 1000
  parse : parseI T = ((a : Int), 0, 0)
  read : readI (T ++ s) = ((a : Int), (T.size : Int), 0, 0)
theorem txt_of (a : Nat) (ha : a < 18446744073709551616) (s : ByteArray) : Txt a s (strOf (textOf (cats a))) := by
  have hk : ∀ k ∈ cats a, k < 64 := fun k hk => by simpa using (List.mem_filter.1 hk).1
  have h1 := textOf_length (cats a) hk
  have h2 := cats_le a
  have e : (textOf (cats a)).length = (strOf (textOf (cats a))).size := by rw [← size_len]; simp [strOf]
  refine ⟨?_, parse_text a ha, ?_⟩
  · rw [← e]; simp [textOf]; omega
  · rw [read_text a ha s, e]
theorem text_c (a : Nat) (T : ByteArray) (ha : a < 18446744073709551616) (h : T = strOf (textOf (cats a))) (w : World) (hT : Tabs w) :
    Calls Tryd.prog 37 #[.int .u64 (a : Int)] w fun e w' => e = .returned (.string T) ∧ Below w.heap.size w w' := by
  rw [h]; exact text_any a w ha hT.1 hT.2
theorem parse_c (T : ByteArray) (x e p : Int) (h : parseI T = (x, e, p)) (hs : T.size ≤ 100000) (w : World) :
    Calls Tryd.prog 39 #[.string T] w fun r w' => r = .returned (.tuple #[.int .u64 x, .agg #[.int .i64 e, .int .i64 p]]) ∧ Below w.heap.size w w' := by
  have := parse_any T w (by omega)
  rw [h] at this
  exact this
theorem read_c (T : ByteArray) (x n e p : Int) (h : readI T = (x, n, e, p)) (hs : T.size ≤ 100000) (w : World) :
    Calls Tryd.prog 41 #[.string T] w fun r w' => r = .returned (.tuple #[.int .u64 x, .int .i64 n, .agg #[.int .i64 e, .int .i64 p]]) ∧ Below w.heap.size w w' := by
  have := read_any T w (by omega)
  rw [h] at this
  exact this
theorem of8_c (a : Nat) (ha : a < 18446744073709551616) (w : World) :
    Calls Tryd.prog 29 #[.string (strOf (bytesI (a : Int)))] w fun r w' => r = .returned (.tuple #[.int .u64 (a : Int), .int .i64 0]) ∧ w = w' := by
  have e : (strOf (bytesI (a : Int))).data.toList = bytesI (a : Int) := by simp [strOf]
  have hs : (strOf (bytesI (a : Int))).size = 8 := by rw [← size_len, e]; exact preBytes_length _ _
  have := of8_any (strOf (bytesI (a : Int))) w (by rw [hs]; decide)
  rw [e, of8_bytes a ha] at this
  exact this
theorem of_c (a : Nat) (ha : a < 18446744073709551616) (v : Value) (w : World) (h : Slc w v (vals .i64 (catsI (a : Int)))) :
    Calls Tryd.prog 12 #[v] w fun r w' => r = .returned (.tuple #[.int .u64 (a : Int), .int .i64 0]) ∧ w = w' := by
  have := of_any v _ w h
  rw [of_cats a ha] at this
  exact this

set_option maxRecDepth 100000 in
set_option maxHeartbeats 2000000 in
theorem back_any (a : Nat) (s : ByteArray) (w : World) (ha : a < 18446744073709551616) (hT : Tabs w) (hmax : s.size ≤ maxLen) :
    Calls Tryd.prog 9 #[.int .u64 (a : Int), .string s] w fun e w' => e = .returned (.bool true) ∧ Below w.heap.size w w' := by
  unfold maxLen at hmax
  by_cases hlen : s.size ≤ 200
  · have h1 : ¬ (200 : Int) < (s.size : Int) := by omega
    have hX0 := txt_of a ha s
    obtain ⟨T, hT0⟩ : ∃ T, T = strOf (textOf (cats a)) := ⟨_, rfl⟩
    rw [← hT0] at hX0
    have hsz := hX0.size
    have hsum : (T ++ s).size ≤ 100000 := by rw [ByteArray.size_append]; omega
    have HX := Lib.hid hX0
    have HT := Lib.hid hT0
    clear hX0 hT0 hmax
    go_enter Tryd.func9, Tryd.ntmps9
    go_wp2_with fail
    refine (known_any _ hT).mono ?_
    rintro e w1 ⟨rfl, hB1⟩
    have hT1 := hT.below hB1
    clear hT
    go_wp2_with fail
    refine (text_c a T ha HT.out _ hT1).mono ?_
    rintro e w2 ⟨rfl, hb2⟩
    have hT2 := hT1.below hb2
    have hB2 := below_step hB1 hb2
    clear hb2 hT1 hB1
    go_wp2_with fail
    refine (parse_c T _ _ _ HX.out.parse (by omega) _).mono ?_
    rintro e w3 ⟨rfl, hb3⟩
    have hT3 := hT2.below hb3
    have hB3 := below_step hB2 hb3
    clear hb3 hT2 hB2
    go_wp2_with fail
    refine (bytes_any a _).mono ?_
    rintro e w4 ⟨rfl, hb4⟩
    have hT4 := (hT3.alloc (.cells #[.int .i64 0, .int .i64 0] 45)).below hb4
    have hF4 := (Held2.new w3 45 (.int .i64 0) (.int .i64 0)).below hb4
    have hB4 := below_step (hB3.alloc hB3.size (.cells #[.int .i64 0, .int .i64 0] 45)) hb4
    obtain ⟨b1, hb1⟩ : ∃ b1, b1 = w3.heap.size := ⟨_, rfl⟩
    rw [← hb1] at hF4 ⊢
    clear hb1 hb4 hT3 hB3
    go_wp2_with fail
    refine (of8_c a ha _).mono ?_
    rintro e w' ⟨rfl, rfl⟩
    go_wp2_with fail
    refine (list_s a _ ha hT4).mono ?_
    rintro e w5 ⟨v5, rfl, hs5, hb5⟩
    have hT5 := hT4.below hb5
    have hF5 := hF4.below hb5
    have hB5 := below_step hB4 hb5
    clear hb5 hT4 hF4 hB4
    go_wp2_with fail
    refine (of_c a ha v5 _ hs5).mono ?_
    rintro e w' ⟨rfl, rfl⟩
    clear hs5
    go_wp2_with fail
    refine (read_c (T ++ s) _ _ _ _ HX.out.read hsum _).mono ?_
    rintro e w6 ⟨rfl, hb6⟩
    have hT6 := hT5.below hb6
    have hF6 := hF5.below hb6
    have hB6 := below_step hB5 hb6
    clear hb6 hT5 hF5 hB5
    obtain ⟨-, f0, f1⟩ := hF6.alloc (.cells #[.int .i64 0, .int .i64 0] 45)
    obtain ⟨-, g0, g1⟩ := Held2.new w6 45 (.int .i64 0) (.int .i64 0)
    have hT7 := hT6.alloc (.cells #[.int .i64 0, .int .i64 0] 45)
    have hB7 := hB6.alloc hB6.size (.cells #[.int .i64 0, .int .i64 0] 45)
    go_wp2_with fail
    refine (count_s a _ ha).mono ?_
    rintro e w' ⟨rfl, rfl⟩
    go_wp2_with fail
    refine (list_s a _ ha hT7).mono ?_
    rintro e w8 ⟨v8, rfl, hs8, hb8⟩
    have hT8 := hT7.below hb8
    have hB8 := below_step hB7 hb8
    clear hb8 hT7 hB7 f0 f1 g0 g1 hT6 hF6 hB6
    obtain ⟨A8, cap8, rfl, hm8, hc8⟩ := hs8.ints
    clear hs8 hc8
    have hsm : s.size ≤ 100000 := by omega
    by_cases he : (parseI s).2.1 = 0
    · have hp := parse_fine s he
      obtain ⟨n, hn, hv, hback⟩ := parse_back s he
      have Hq := Lib.hid (show parseI s = ((n : Int), 0, 0) from Prod.ext hv (Prod.ext he hp))
      have Hb := Lib.hid hback.symm
      clear hp hv hback he
      go_wp2_with fail
      refine (parse_c s _ _ _ Hq.out hsm _).mono ?_
      rintro e w9 ⟨rfl, hb9⟩
      have hT9 := hT8.below hb9
      have hB9 := below_step hB8 hb9
      clear hb9 hT8 hB8
      obtain ⟨-, g0, g1⟩ := Held2.new w9 45 (.int .i64 0) (.int .i64 0)
      have hT10 := hT9.alloc (.cells #[.int .i64 0, .int .i64 0] 45)
      have hB10 := hB9.alloc hB9.size (.cells #[.int .i64 0, .int .i64 0] 45)
      go_wp2_with fail
      refine (text_c n s hn Hb.out _ hT10).mono ?_
      rintro e w11 ⟨rfl, hb11⟩
      go_wp2
      go_ret
      exact ⟨rfl, below_step hB10 hb11⟩
    · obtain ⟨⟨x, q, p⟩, hq⟩ : ∃ q, q = parseI s := ⟨_, rfl⟩
      rw [← hq] at he
      have Hq := Lib.hid hq.symm
      have he' : q ≠ 0 := he
      have hqb : (q == 0) = false := by simpa using he'
      have hqb' : (q != 0) = true := by simpa using he'
      clear hq he he'
      go_wp2_with fail
      refine (parse_c s _ _ _ Hq.out hsm _).mono ?_
      rintro e w9 ⟨rfl, hb9⟩
      have hB9 := below_step hB8 hb9
      clear hb9 hT8 hB8
      obtain ⟨-, g0, g1⟩ := Held2.new w9 45 (.int .i64 q) (.int .i64 p)
      have hB10 := hB9.alloc hB9.size (.cells #[.int .i64 q, .int .i64 p] 45)
      go_wp2_with fail
      go_ret
      exact ⟨rfl, hB10⟩
  · have h1 : (200 : Int) < (s.size : Int) := by omega
    clear hlen
    go_enter Tryd.func9, Tryd.ntmps9
    go_wp2_with fail
    refine (known_any _ hT).mono ?_
    rintro e w1 ⟨rfl, hb1⟩
    go_wp2
    go_ret
    exact ⟨rfl, hb1⟩
end Go.Proofs.YtnlioeheogkkiaaDoor
