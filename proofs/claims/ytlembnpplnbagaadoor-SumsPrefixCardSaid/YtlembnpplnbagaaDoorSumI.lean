/- Walks: digits, numbers from texts, texts of numbers: the program's. -/
import Derived.Test.YtlembnpplnbagaaDoorSumTxt
import Derived.Test.YtlembnpplnbagaaDoorSumMath
import Derived.Test.YtlembnpplnbagaaDoorBlk
import Derived.Test.YtlembnpplnbagaaDoorShelf
import Derived.Test.YtlembnpplnbagaaDoorShelfMore
import Derived.Shelf.Strings.SlTrimAscii
import Derived.Lib.Hide
import Derived.WalkMore
namespace Go.Proofs.YtlembnpplnbagaaDoor
open Go.RowKit Go.Shelf
open Sm

def tenL : List UInt8 := [48, 49, 50, 51, 52, 53, 54, 55, 56, 57]
theorem ten_has (b : UInt8) : tenL.contains b = isD b := by
  rw [Bool.eq_iff_iff, isD_iff]
  have : ∀ n : Fin 256, (tenL.contains (UInt8.ofNat n.val) = true) ↔ (48 ≤ n.val ∧ n.val ≤ 57) := by decide +kernel
  have h := this ⟨b.toNat, b.toNat_lt⟩
  simpa using h
theorem drop_nil (p : UInt8 → Bool) (l : List UInt8) : l.dropWhile p = [] ↔ ∀ b ∈ l, p b = true := by
  induction l with
  | nil => simp
  | cons d ds ih =>
    rw [List.dropWhile_cons]
    cases e : p d
    · simp [e]
    · simp [e, ih]
theorem drop_head (p : UInt8 → Bool) (l : List UInt8) (d : UInt8) (ds : List UInt8) (h : l.dropWhile p = d :: ds) : p d = false := by
  induction l with
  | nil => cases h
  | cons x xs ih =>
    rw [List.dropWhile_cons] at h
    cases e : p x
    · rw [e] at h
      simp at h
      rw [← h.1]; exact e
    · rw [e] at h
      exact ih (by simpa using h)
theorem trim_nil (l : List UInt8) : Lib.trimS l tenL = [] ↔ ∀ b ∈ l, isD b = true := by
  unfold Lib.trimS Lib.trimLeftS Lib.trimRightS
  have e : (fun b => tenL.contains b) = isD := funext ten_has
  rw [e, drop_nil]
  constructor
  · intro h
    have hr : l.reverse.dropWhile isD = [] := by
      cases hc : l.reverse.dropWhile isD with
      | nil => rfl
      | cons d ds =>
        have h1 := drop_head isD _ d ds hc
        have h2 := h d (by rw [hc]; simp)
        rw [h2] at h1
        cases h1
    have := (drop_nil _ _).1 hr
    exact fun b hb => this b (by simpa using hb)
  · intro h
    have hr : l.reverse.dropWhile isD = [] := (drop_nil _ _).2 fun b hb => h b (by simpa using hb)
    rw [hr]
    intro b hb
    simp at hb
theorem trim_any (s : ByteArray) (hs : s.size ≤ 100000) (w : World) :
    Calls Tryd.prog 65 #[.string s, .string ⟨#[48, 49, 50, 51, 52, 53, 54, 55, 56, 57]⟩] w fun e w' => e = .returned (.string (strOf (Lib.trimS s.data.toList tenL))) ∧ Below w.heap.size w w' :=
  Any.strings_Trim_laid Tryd.lays160 (by kernel_rfl) s ⟨#[48, 49, 50, 51, 52, 53, 54, 55, 56, 57]⟩ w (by omega) (by decide) (ascii_of_all (by decide))
theorem toL (s : ByteArray) : s.toList = s.data.toList := by rw [ByteArray.toList_eq]
theorem str_is {s : ByteArray} {l : List UInt8} (h : s.data.toList = l) : s = strOf l := by
  cases s with
  | mk d => unfold strOf; congr; rw [← h]
set_option maxHeartbeats 1000000 in
theorem isDigits_is (s : ByteArray) (t : Bool) (ht : digB s.data.toList = t) (hs : s.size ≤ 100000) (w : World) :
    Calls Tryd.prog 58 #[.string s] w fun e w' => e = .returned (.bool t) ∧ Below w.heap.size w w' := by
  have hT := fun w => trim_any s hs w
  obtain ⟨T, hTe⟩ : ∃ T, T = strOf (Lib.trimS s.data.toList tenL) := ⟨_, rfl⟩
  rw [← hTe] at hT
  have hP := fun w => Tryd.strings_HasPrefix s ⟨#[48]⟩ w
  have eP : Lib.hasPrefix s.data.toList (⟨#[48]⟩ : ByteArray).data.toList = (s.data.toList.head? == some 48) := by
    show List.isPrefixOf [48] s.data.toList = _
    cases s.data.toList with
    | nil => rfl
    | cons d ds =>
      show ((48 : UInt8) == d && List.isPrefixOf [] ds) = (some d == some 48)
      have e1 : List.isPrefixOf [] ds = true := by cases ds <;> rfl
      rw [e1, Bool.and_true]
      show ((48 : UInt8) == d) = (d == 48)
      exact Bool.eq_iff_iff.2 (by rw [beq_iff_eq, beq_iff_eq]; exact eq_comm)
  rw [eP] at hP
  have hTl : T.toList = Lib.trimS s.data.toList tenL := by rw [hTe, toL]; simp [strOf]
  cases hl : s.data.toList with
  | nil =>
    rw [hl] at ht
    subst ht
    obtain rfl : s = ⟨#[]⟩ := str_is hl
    clear hT hP hTe hTl eP hl
    go_enter Tryd.func58, Tryd.ntmps58
    go_wp2
    go_ret
    exact ⟨rfl, Below.refl _ _⟩
  | cons d ds =>
    have n0 : ¬ s.toList = [] := by rw [toL, hl]; simp
    have n0b : s.toList.isEmpty = false := by rw [toL, hl]; rfl
    rw [hl] at ht hP hTl
    by_cases ha : ∀ b ∈ d :: ds, isD b = true
    · have hn := (trim_nil (d :: ds)).2 ha
      rw [hn] at hTl
      by_cases h48 : d = 48
      · subst h48
        cases ds with
        | nil =>
          obtain rfl : s = ⟨#[48]⟩ := str_is hl
          obtain rfl : t = true := by rw [← ht]; rfl
          clear hP hTe eP hl ht ha hn
          go_enter Tryd.func58, Tryd.ntmps58
          go_wp2_with (go_at_call 65; refine (hT _).mono ?_; rintro e w' ⟨rfl, hb1⟩)
          go_ret
          exact ⟨rfl, hb1⟩
        | cons x xs =>
          obtain rfl : t = false := by
            rw [← ht]
            cases e : digB (48 :: x :: xs)
            · rfl
            · exact absurd ((digB_cons.1 e).2 rfl) (by simp)
          have n1 : ¬ s.toList = [48] := by rw [toL, hl]; simp
          have n1b : (s.toList == [48]) = false := by rw [beq_eq_false_iff_ne]; exact n1
          have hP' : ∀ w, Calls Tryd.prog 66 #[.string s, .string ⟨#[48]⟩] w fun e w' => e = .returned (.bool true) ∧ w' = w := hP
          clear hP hTe eP hl ht ha hn
          go_enter Tryd.func58, Tryd.ntmps58
          go_wp2_with (first | (go_at_call 65; refine (hT _).mono ?_; rintro e w' ⟨rfl, hb1⟩) | (go_at_call 66; refine (hP' _).mono ?_; rintro e w' ⟨rfl, rfl⟩))
          go_ret
          exact ⟨rfl, hb1⟩
      · obtain rfl : t = true := by
          rw [← ht, digB_cons]
          exact ⟨ha, fun e => absurd (UInt8.toNat_inj.1 (e.trans (by decide : (48 : Nat) = (48 : UInt8).toNat))) h48⟩
        have n1 : ¬ s.toList = [48] := by rw [toL, hl]; simp [h48]
        have n1b : (s.toList == [48]) = false := by rw [beq_eq_false_iff_ne]; exact n1
        have hP' : ∀ w, Calls Tryd.prog 66 #[.string s, .string ⟨#[48]⟩] w fun e w' => e = .returned (.bool false) ∧ w' = w := fun w => by
          have := hP w
          have e : ((d :: ds).head? == some 48) = false := by simp [h48]
          rw [e] at this
          exact this
        clear hP hTe eP hl ht ha hn
        go_enter Tryd.func58, Tryd.ntmps58
        go_wp2_with (first | (go_at_call 65; refine (hT _).mono ?_; rintro e w' ⟨rfl, hb1⟩) | (go_at_call 66; refine (hP' _).mono ?_; rintro e w' ⟨rfl, rfl⟩))
        go_ret
        exact ⟨rfl, hb1⟩
    · have hn : ¬ T.toList = [] := fun e => ha ((trim_nil _).1 (by rw [← hTl]; exact e))
      have hnb : T.toList.isEmpty = false := by cases e : T.toList with | nil => exact absurd e hn | cons _ _ => rfl
      obtain rfl : t = false := by
        rw [← ht]
        cases e : digB (d :: ds)
        · rfl
        · exact absurd (digB_cons.1 e).1 ha
      clear hP hTe eP hl ht ha hTl
      go_enter Tryd.func58, Tryd.ntmps58
      go_wp2_with (go_at_call 65; refine (hT _).mono ?_; rintro e w' ⟨rfl, hb1⟩)
      go_ret
      exact ⟨rfl, hb1⟩
end Go.Proofs.YtlembnpplnbagaaDoor
