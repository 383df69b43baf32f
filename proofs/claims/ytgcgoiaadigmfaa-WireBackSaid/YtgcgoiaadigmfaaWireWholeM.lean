/- What WireWhole says, of readers and writers as data. -/
import Derived.Test.YtgcgoiaadigmfaaWireM
import Derived.Test.YtgcgoiaadigmfaaWireSize
namespace Go.Proofs.Ytgcgoiaadigmfaa
open Go.RowKit
open Wr
namespace Wr
/-- A reader of s that is valid, and the bytes before its offset. -/
structure Inv (s : ByteArray) (a e f : Int) (all : ByteArray) : Prop where
  sound : (Rd.sp ⟨s, a, e, f⟩).sound = true
  pre : all = s.extract 0 a.toNat
theorem extract_join (s : ByteArray) (a b : Nat) (h : a ≤ b) : s.extract 0 a ++ s.extract a b = s.extract 0 b := by
  apply ByteArray.ext
  rw [ByteArray.data_append, ByteArray.data_extract, ByteArray.data_extract, ByteArray.data_extract]
  apply Array.toList_inj.1
  rw [Array.toList_append, Array.toList_extract, Array.toList_extract, Array.toList_extract]
  simp only [List.extract_eq_take_drop, Nat.sub_zero, List.drop_zero]
  rw [show b = a + (b - a) by omega, List.take_add, show a + (b - a) - a = b - a by omega]
theorem extract_all (s : ByteArray) : s.extract 0 s.size = s := ByteArray.extract_zero_size
theorem inv_start (s : ByteArray) : Inv s 0 0 0 ⟨#[]⟩ := by
  refine ⟨soundI.2 ⟨by decide, by show (0 : Int) ≤ s.size; omega, .inl ⟨rfl, rfl⟩⟩, ?_⟩
  apply ByteArray.ext
  rw [ByteArray.data_extract]
  simp
theorem inv_open {s : ByteArray} {a e f : Int} {all : ByteArray} (h : Inv s a e f all) : Rd.opened ⟨s, a, e, f⟩ = ⟨a, s.size, e, f, s⟩ := by
  unfold Rd.opened
  rw [if_pos h.sound]
  rfl
/-- What reading n bytes does with it. -/
theorem inv_step {s : ByteArray} {a e f : Int} {all : ByteArray} (h : Inv s a e f all) (n : Int) :
    ∃ (a2 e2 f2 : Int) (t : ByteArray), bytesR ⟨s, a, e, f⟩ n = (⟨s, a2, e2, f2⟩, t) ∧ a ≤ a2 ∧ a2 ≤ s.size ∧ (e ≠ 0 → a2 = a ∧ e2 = e ∧ f2 = f ∧ t = ⟨#[]⟩) ∧ Inv s a2 e2 f2 (all ++ t) := by
  have ho := inv_open h
  obtain ⟨hsound, hpre⟩ := id h
  obtain ⟨h0, h1, h2⟩ := soundI.1 hsound
  have he0 : all ++ (⟨#[]⟩ : ByteArray) = all := by
    apply ByteArray.ext
    rw [ByteArray.data_append]
    simp
  unfold bytesR
  rw [ho]
  by_cases he : e = 0
  · subst he
    by_cases hn : n < 0
    · rw [if_pos hn]
      exact ⟨a, 2, a, ⟨#[]⟩, rfl, by omega, h1, fun h => absurd rfl h, ⟨soundI.2 ⟨h0, h1, .inr ⟨by decide, by decide, h0, h1⟩⟩, by rw [he0]; exact hpre⟩⟩
    · rw [if_neg hn]
      by_cases hs : (s.size : Int) - a < n
      · refine ⟨a, 5, a, ⟨#[]⟩, ?_, by omega, h1, fun h => absurd rfl h, ⟨soundI.2 ⟨h0, h1, .inr ⟨by decide, by decide, h0, h1⟩⟩, by rw [he0]; exact hpre⟩⟩
        simp [Sp.take, Sp.claim, Sp.failAt, Sp.given, hs]
      · obtain ⟨h3, h4⟩ : f = 0 ∧ True := ⟨by omega, trivial⟩
        subst h3
        refine ⟨a + n, 0, 0, s.extract a.toNat (a + n).toNat, ?_, by omega, by omega, fun h => absurd rfl h, ⟨soundI.2 ⟨by omega, by omega, .inl ⟨rfl, rfl⟩⟩, ?_⟩⟩
        · simp [Sp.take, Sp.claim, Sp.given, hs]
        · rw [hpre]
          exact extract_join s a.toNat (a + n).toNat (by omega)
  · by_cases hn : n < 0
    · rw [if_pos hn]
      refine ⟨a, e, f, ⟨#[]⟩, ?_, by omega, h1, fun _ => ⟨rfl, rfl, rfl, rfl⟩, ⟨hsound, by rw [he0]; exact hpre⟩⟩
      simp [Sp.failAt, Sp.given, he]
    · rw [if_neg hn]
      refine ⟨a, e, f, ⟨#[]⟩, ?_, by omega, h1, fun _ => ⟨rfl, rfl, rfl, rfl⟩, ⟨hsound, by rw [he0]; exact hpre⟩⟩
      simp [Sp.take, Sp.claim, Sp.given, he]
theorem makeW_ok (m : Nat) (h : m ≤ 20000) : makeW m = ⟨⟨#[]⟩, m, 0⟩ := by
  unfold makeW Wt.opened
  rw [if_pos (wsoundI.2 ⟨by show (0 : Int) ≤ m; omega, by show (m : Int) ≤ 20000; omega, by show (0 : Int) ≤ m; omega, by decide, by decide⟩)]
  rfl
theorem open_err (m : Nat) (h : m ≤ 20000) (s : ByteArray) (hs : s.size ≤ m) (e : Int) (h1 : 0 ≤ e) (h2 : e ≤ 23) : Wt.opened ⟨s, m, e⟩ = ⟨s.size, m, e, 0, s⟩ := by
  unfold Wt.opened
  rw [if_pos (wsoundI.2 ⟨by show (0 : Int) ≤ m; omega, by show (m : Int) ≤ 20000; omega, by show (s.size : Int) ≤ m; omega, h1, h2⟩)]
  rfl
theorem addW_long (s : ByteArray) (h : s.size ≤ 20000) : addW ⟨⟨#[]⟩, s.size, 0⟩ [s, ⟨#[120]⟩] = ⟨⟨#[]⟩, s.size, 4⟩ := by
  unfold addW
  rw [open_err s.size h ⟨#[]⟩ (Nat.zero_le _) 0 (by decide) (by decide)]
  have ht : total [s, ⟨#[120]⟩] = s.size + 1 := rfl
  unfold Sp.add
  rw [if_neg (fun h => h rfl), ht, if_pos (by show (s.size : Int) - 0 < _; omega)]
  rfl
theorem putW_bad (m : Nat) (h : m ≤ 20000) (k n : Int) : putW ⟨⟨#[]⟩, m, 4⟩ k n = ⟨⟨#[]⟩, m, 4⟩ := by
  unfold putW
  rw [open_err m h ⟨#[]⟩ (Nat.zero_le _) 4 (by decide) (by decide)]
  split
  · rfl
  · rfl
theorem putSizedW_bad (m : Nat) (h : m ≤ 20000) (s : ByteArray) : putSizedW ⟨⟨#[]⟩, m, 4⟩ s = ⟨⟨#[]⟩, m, 4⟩ := by
  unfold putSizedW
  rw [open_err m h ⟨#[]⟩ (Nat.zero_le _) 4 (by decide) (by decide)]
  split
  · rfl
  · rfl
end Wr
end Go.Proofs.Ytgcgoiaadigmfaa
