/- Walks: the program's kinds of bytes, and which digits are a number. -/
import Derived.Test.YtmdlndmibodimaaDoorTokC
import Derived.Test.YtmdlndmibodimaaDoorShelf
namespace Go.Proofs.YtmdlndmibodimaaDoor
open Go.RowKit
open Tk7

/-- The kind that a byte alone tells. -/
def kindB (b : UInt8) : Nat := if smallB b then 1 else if largeB b then 2 else if digB b then 3 else if b == 45 then 5 else 4
theorem kindOf_any (b : UInt8) (w : World) :
    Calls Tryd.prog 46 #[.int .u8 (b.toNat : Int)] w fun e w' => e = .returned (.int .i64 (kindB b : Int)) ∧ w = w' := by
  have hS := fun w => isSmall_any b w
  have hD := fun w => isDigit_any b w
  have hk : kindB b = if smallB b then 1 else if largeB b then 2 else if digB b then 3 else if b == 45 then 5 else 4 := rfl
  have hlb := largeB_iff (b := b)
  have h45 := beq_is (b := b) 45 (by decide)
  rw [show UInt8.ofNat 45 = 45 from rfl] at h45
  obtain ⟨p, hp⟩ : ∃ p, p = smallB b := ⟨_, rfl⟩
  obtain ⟨q, hq⟩ : ∃ q, q = largeB b := ⟨_, rfl⟩
  obtain ⟨d, hd⟩ : ∃ d, d = digB b := ⟨_, rfl⟩
  obtain ⟨m, hm⟩ : ∃ m, m = (b == 45) := ⟨_, rfl⟩
  rw [← hp] at hS hk
  rw [← hq] at hk hlb
  rw [← hd] at hk hD
  rw [← hm] at hk h45
  obtain ⟨c, hc⟩ : ∃ c : Int, c = (b.toNat : Int) := ⟨_, rfl⟩
  rw [← hc] at hlb h45 hS hD ⊢
  have h0 : ((⟨#[45]⟩ : ByteArray)[0]'(by decide)).toNat = 45 := rfl
  have HK := Lib.hid hk
  clear hk hp hq hd hm hc
  cases p with
  | true =>
    have e1 := Lib.hid HK.out
    go_enter Tryd.func46, Tryd.ntmps46
    go_wp2_with (first | (go_at_call 47; refine (hS _).mono ?_; rintro e w' ⟨rfl, rfl⟩))
    go_ret
    exact ⟨by rw [e1.out]; rfl, rfl⟩
  | false =>
    have hx : q = true ∨ q = false ∧ (¬ 65 ≤ c ∨ 65 ≤ c ∧ ¬ c ≤ 90) := by
      cases q with
      | true => exact .inl rfl
      | false => exact .inr ⟨rfl, by have := hlb.2; simp at this; omega⟩
    rcases hx with rfl | ⟨rfl, hx⟩
    · obtain ⟨h1, h2⟩ := hlb.1 rfl
      clear hlb h45
      go_enter Tryd.func46, Tryd.ntmps46
      go_wp2_with (first | (go_at_call 47; refine (hS _).mono ?_; rintro e w' ⟨rfl, rfl⟩))
      go_ret
      exact ⟨by rw [HK.out]; rfl, rfl⟩
    · clear hlb
      cases d with
      | true =>
        clear h45
        rcases hx with hx | ⟨hx, hx2⟩
        · go_enter Tryd.func46, Tryd.ntmps46
          go_wp2_with (first | (go_at_call 47; refine (hS _).mono ?_; rintro e w' ⟨rfl, rfl⟩) | (go_at_call 48; refine (hD _).mono ?_; rintro e w' ⟨rfl, rfl⟩))
          go_ret
          exact ⟨by rw [HK.out]; rfl, rfl⟩
        · go_enter Tryd.func46, Tryd.ntmps46
          go_wp2_with (first | (go_at_call 47; refine (hS _).mono ?_; rintro e w' ⟨rfl, rfl⟩) | (go_at_call 48; refine (hD _).mono ?_; rintro e w' ⟨rfl, rfl⟩))
          go_ret
          exact ⟨by rw [HK.out]; rfl, rfl⟩
      | false =>
        have e45 : (c == 45) = m := by
          cases m with
          | true => rw [beq_iff_eq]; exact h45.1 rfl
          | false => rw [beq_eq_false_iff_ne]; exact fun e => by have := h45.2 e; cases this
        clear h45
        have hc : c = 45 ∨ ¬ c = 45 := by omega
        rcases hc with rfl | hc
        · obtain rfl : true = m := e45
          clear hx
          go_enter Tryd.func46, Tryd.ntmps46
          go_wp2_with (first | (go_at_call 47; refine (hS _).mono ?_; rintro e w' ⟨rfl, rfl⟩) | (go_at_call 48; refine (hD _).mono ?_; rintro e w' ⟨rfl, rfl⟩))
          go_ret
          exact ⟨by rw [HK.out]; rfl, rfl⟩
        · have hcb : (c == 45) = false := by rw [beq_eq_false_iff_ne]; exact hc
          rw [hcb] at e45
          subst e45
          rcases hx with hx | ⟨hx, hx2⟩
          · go_enter Tryd.func46, Tryd.ntmps46
            go_wp2_with (first | (go_at_call 47; refine (hS _).mono ?_; rintro e w' ⟨rfl, rfl⟩) | (go_at_call 48; refine (hD _).mono ?_; rintro e w' ⟨rfl, rfl⟩))
            go_ret
            exact ⟨by rw [HK.out]; rfl, rfl⟩
          · go_enter Tryd.func46, Tryd.ntmps46
            go_wp2_with (first | (go_at_call 47; refine (hS _).mono ?_; rintro e w' ⟨rfl, rfl⟩) | (go_at_call 48; refine (hD _).mono ?_; rintro e w' ⟨rfl, rfl⟩))
            go_ret
            exact ⟨by rw [HK.out]; rfl, rfl⟩

/-- What stands behind a minus sign, if there is one. -/
def stripG (l : List UInt8) : List UInt8 := Lib.trimPrefix l [45]
theorem strip_nil : stripG [] = [] := rfl
theorem strip_cons (b : UInt8) (r : List UInt8) : stripG (b :: r) = if b == 45 then r else b :: r := by
  unfold stripG Lib.trimPrefix Lib.hasPrefix
  by_cases h : b = 45
  · subst h; simp
  · have h2 : ¬ 45 = b := fun e => h e.symm
    simp [h, h2]
/-- The bytes are a number as it is written. -/
def isNumG (l : List UInt8) : Bool := !(stripG l).isEmpty && ((stripG l).head? != some 48 || l == [48])
theorem toL (s : ByteArray) : s.toList = s.data.toList := ByteArray.toList_eq s
theorem strOf_toL (l : List UInt8) : (strOf l).toList = l := by rw [toL, strOf_dat]
theorem strip_len (l : List UInt8) : (stripG l).length ≤ l.length := by
  cases l with
  | nil => simp [strip_nil]
  | cons b r => rw [strip_cons]; split <;> simp
set_option maxRecDepth 100000 in
theorem isNumber_any (l : List UInt8) (w : World) :
    Calls Tryd.prog 49 #[.string (strOf l)] w fun e w' => e = .returned (.bool (isNumG l)) ∧ w = w' := by
  have hT := fun w => Tryd.strings_TrimPrefix (strOf l) ⟨#[45]⟩ w
  have hn : isNumG l = (!(stripG l).isEmpty && ((stripG l).head? != some 48 || l == [48])) := rfl
  have hz := strip_len l
  rw [strOf_dat, show (⟨(Lib.trimPrefix l (ByteArray.mk #[45]).data.toList).toArray⟩ : ByteArray) = strOf (stripG l) from rfl] at hT
  have h48 : ((strOf l).toList == [48]) = (l == [48]) := by rw [strOf_toL]
  obtain ⟨d, hd⟩ : ∃ d, d = stripG l := ⟨_, rfl⟩
  obtain ⟨S, hS⟩ : ∃ S, S = strOf l := ⟨_, rfl⟩
  obtain ⟨z, hzz⟩ : ∃ z, z = (l == [48]) := ⟨_, rfl⟩
  rw [← hzz] at h48
  rw [← hS] at h48 hT ⊢
  rw [← hd] at hT hn hz
  rw [← hzz] at hn
  have HN := Lib.hid hn
  clear hn hd hS hzz
  cases d with
  | nil =>
    rw [show strOf [] = ⟨#[]⟩ from rfl] at hT
    go_enter Tryd.func49, Tryd.ntmps49
    go_wp2_with (first | (go_at_call 60; refine (hT _).mono ?_; rintro e w' ⟨rfl, rfl⟩))
    go_ret
    exact ⟨by rw [HN.out]; rfl, rfl⟩
  | cons c r =>
    have hex : (strOf (c :: r)).extract 0 1 = strOf [c] := by rw [ext_take]; rfl
    have n1 : ¬ (strOf (c :: r)).toList = [] := by rw [strOf_toL]; simp
    have n2 : (strOf (c :: r)).toList.isEmpty = false := by rw [strOf_toL]; rfl
    have n3 : 1 ≤ (strOf (c :: r)).size := by rw [strOf_size]; simp
    have n4 : (1 : Int) ≤ ((strOf (c :: r)).size : Int) := by omega
    have n5 : ((strOf [c]).toList == [48]) = (c == 48) := by rw [strOf_toL]; show ([c] == [48]) = _; simp [List.cons_beq_cons]
    obtain ⟨D, hD⟩ : ∃ D, D = strOf (c :: r) := ⟨_, rfl⟩
    obtain ⟨X, hX⟩ : ∃ X, X = strOf [c] := ⟨_, rfl⟩
    obtain ⟨y, hy⟩ : ∃ y, y = (c == 48) := ⟨_, rfl⟩
    have e1 := Lib.hid (show isNumG l = (!y || z) by rw [HN.out, hy]; simp [bne, Option.some_beq_some])
    rw [← hD] at hex n1 n2 n3 n4 hT
    rw [← hX] at hex n5
    rw [← hy] at n5
    clear HN hD hX hy hz
    cases y with
    | false =>
      go_enter Tryd.func49, Tryd.ntmps49
      go_wp2_with (first | (go_at_call 60; refine (hT _).mono ?_; rintro e w' ⟨rfl, rfl⟩))
      go_ret
      exact ⟨by rw [e1.out]; rfl, rfl⟩
    | true =>
      go_enter Tryd.func49, Tryd.ntmps49
      go_wp2_with (first | (go_at_call 60; refine (hT _).mono ?_; rintro e w' ⟨rfl, rfl⟩))
      go_ret
      exact ⟨by rw [e1.out]; rfl, rfl⟩
end Go.Proofs.YtmdlndmibodimaaDoor
