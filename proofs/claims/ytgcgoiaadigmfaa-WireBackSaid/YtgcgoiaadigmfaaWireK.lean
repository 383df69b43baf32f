/- Walks: the reference's readers: fail, take, number, size. -/
import Derived.Test.YtgcgoiaadigmfaaWireI
namespace Go.Proofs.Ytgcgoiaadigmfaa
open Go.RowKit
open Wr

def failRd (r : Rd) (e a : Int) : Rd := if r.err = 0 then { r with err := e, fat := a } else r
def takeRd (r : Rd) (n : Int) : Rd × ByteArray := if r.err ≠ 0 then (r, ⟨#[]⟩) else if r.s.size - r.at_ < n then (failRd r 5 r.at_, ⟨#[]⟩) else ({ r with at_ := r.at_ + n }, r.s.extract r.at_.toNat (r.at_ + n).toNat)
theorem fail_given (x : Sp) (e a : Int) : failRd x.given e a = (x.failAt e a).given := by
  obtain ⟨u, m, e0, a0, s⟩ := x
  by_cases h : e0 = 0
  · simp [failRd, Sp.failAt, Sp.given, h]
  · simp [failRd, Sp.failAt, Sp.given, h]
theorem take_given (x : Sp) (hm : x.m = x.s.size) (n : Int) : takeRd x.given n = ((x.take n).1.given, (x.take n).2) := by
  obtain ⟨u, m, e0, a0, s⟩ := x
  simp only at hm
  subst hm
  by_cases h : e0 = 0
  · by_cases h2 : (s.size : Int) - u < n
    · simp [takeRd, Sp.take, Sp.claim, failRd, Sp.failAt, Sp.given, h, h2]
    · simp [takeRd, Sp.take, Sp.claim, Sp.given, h, h2]
  · simp [takeRd, Sp.take, Sp.claim, Sp.given, h]

theorem refFail_any (r : Rd) (er a : Int) (w : World) :
    Calls Try.prog 50 #[r.val, .int .i64 er, .int .i64 a] w fun e w' => e = .returned (failRd r er a).val ∧ Below w.heap.size w w' := by
  obtain ⟨s, at_, err, fat⟩ := r
  by_cases h : err = 0
  · have hx := Lib.hid (show failRd ⟨s, at_, err, fat⟩ er a = ⟨s, at_, er, a⟩ by unfold failRd; rw [if_pos h])
    subst h
    simp only [Rd.val]
    go_enter Try.func50, Try.ntmps50
    go_wp2
    go_returns
    exact ⟨by rw [hx.out], by go_grown⟩
  · have hx := Lib.hid (show failRd ⟨s, at_, err, fat⟩ er a = ⟨s, at_, err, fat⟩ by unfold failRd; rw [if_neg h])
    have hb : (err == 0) = false := by simpa using h
    clear h
    simp only [Rd.val]
    go_enter Try.func50, Try.ntmps50
    go_wp2
    go_returns
    exact ⟨by rw [hx.out], by go_grown⟩
theorem refTake_any (r : Rd) (n : Int) (w : World) (h0 : 0 ≤ r.at_) (h1 : r.at_ ≤ r.s.size) (hs : r.s.size ≤ 9223372036854775807) (hn : 0 ≤ n) (hn' : n ≤ 9223372036854775807) :
    Calls Try.prog 51 #[r.val, .int .i64 n] w fun e w' => e = .returned (.tuple #[(takeRd r n).1.val, .string (takeRd r n).2]) ∧ Below w.heap.size w w' := by
  obtain ⟨s, at_, err, fat⟩ := r
  simp only at h0 h1 hs
  by_cases h : err = 0
  · by_cases h2 : (s.size : Int) - at_ < n
    · have hx := Lib.hid (show takeRd ⟨s, at_, err, fat⟩ n = (failRd ⟨s, at_, err, fat⟩ 5 at_, ⟨#[]⟩) by unfold takeRd; rw [if_neg (fun h' => h' h)]; exact if_pos h2)
      subst h
      have hf := refFail_any ⟨s, at_, 0, fat⟩ 5 at_
      have hfx := Lib.hid (show failRd ⟨s, at_, 0, fat⟩ 5 at_ = ⟨s, at_, 5, at_⟩ by rfl)
      rw [hfx.out] at hf
      simp only [Rd.val] at hf ⊢
      go_enter Try.func51, Try.ntmps51
      go_wp2_with fail
      refine named fun W hW => ?_
      have hB : Below w.heap.size w W := by rw [hW]; go_grown
      have hR : Blk W (w.heap.size + 1) [.string ⟨#[]⟩, .int .i64 0, .int .i64 0, .int .i64 0] := by
        rw [hW]; exact Blk.is (us := [.string ⟨#[]⟩, .int .i64 0, .int .i64 0, .int .i64 0]) _ (by simp)
      clear hW
      refine (hf _).mono ?_
      rintro e w3 ⟨rfl, hb3⟩
      have hR3 := hR.later hb3
      have hB3 := bstep hB hb3
      clear hB hR hb3
      obtain ⟨hlt, c, f⟩ := id hR3
      have c0 := c 0 _ rfl
      have c1 := c 1 _ rfl
      have c2 := c 2 _ rfl
      have c3 := c 3 _ rfl
      have f0 := f 0 _ rfl
      have f1 := f 1 _ rfl
      have f2 := f 2 _ rfl
      have f3 := f 3 _ rfl
      clear c f
      go_wp2
      refine named_post fun V hV => ?_
      have hVR : Blk V (w.heap.size + 1) [.string s, .int .i64 at_, .int .i64 5, .int .i64 at_] := by
        rw [hV]; exact (((hR3.set 0 _).set 1 _).set 2 _).set 3 _
      have hVB : Below w.heap.size w V := by rw [hV]; exact (((hB3.setCell (p := ⟨w.heap.size + 1, 0, none⟩) (by simp) _).setCell (p := ⟨w.heap.size + 1, 1, none⟩) (by simp) _).setCell (p := ⟨w.heap.size + 1, 2, none⟩) (by simp) _).setCell (p := ⟨w.heap.size + 1, 3, none⟩) (by simp) _
      clear hV c0 c1 c2 c3 f0 f1 f2 f3
      have c0 := hVR.cell 0 _ rfl
      have c1 := hVR.cell 1 _ rfl
      have c2 := hVR.cell 2 _ rfl
      have c3 := hVR.cell 3 _ rfl
      refine bodyPost_ret (by simp [results, Try.results51, go_sem, c0, c1, c2, c3]; try rfl) rfl ?_
      exact ⟨by rw [hx.out, hfx.out], hVB⟩
    · subst h
      obtain ⟨U, rfl⟩ := Int.eq_ofNat_of_zero_le h0
      obtain ⟨N, rfl⟩ := Int.eq_ofNat_of_zero_le hn
      have hx := Lib.hid (show takeRd ⟨s, U, 0, fat⟩ N = (⟨s, (U : Int) + N, 0, fat⟩, s.extract U (U + N)) by unfold takeRd; rw [if_neg (fun h' => h' rfl)]; exact if_neg h2)
      simp only [Rd.val]
      go_enter Try.func51, Try.ntmps51
      go_wp2
      go_returns
      exact ⟨by rw [hx.out], by go_grown⟩
  · have hx := Lib.hid (show takeRd ⟨s, at_, err, fat⟩ n = (⟨s, at_, err, fat⟩, ⟨#[]⟩) by unfold takeRd; exact if_pos h)
    have hb : (err != 0) = true := by simpa using h
    clear h
    simp only [Rd.val]
    go_enter Try.func51, Try.ntmps51
    go_wp2
    go_returns
    exact ⟨by rw [hx.out], by go_grown⟩
theorem refSize_any (n : Int) (w : World) :
    Calls Try.prog 49 #[.int .i64 n] w fun e w' => e = .returned (.bool (isSz n)) ∧ w = w' := by
  cases h1 : n == 1 <;> cases h2 : n == 2 <;> cases h3 : n == 4 <;> cases h4 : n == 8
  all_goals
    go_enter Try.func49, Try.ntmps49
    go_wp2
    go_ret
    exact ⟨ret_bool (by unfold isSz; simp at h1 h2 h3 h4; first | (simp [h1, h2, h3, h4]; done) | (subst_vars; simp; done) | (subst_vars; rfl) | skip), rfl⟩
theorem refSize_is {n : Int} {b : Bool} (h : isSz n = b) (w : World) :
    Calls Try.prog 49 #[.int .i64 n] w fun e w' => e = .returned (.bool b) ∧ w = w' := h ▸ refSize_any n w
theorem refNumber_any (s : ByteArray) (w : World) (hs : s.size ≤ 8) :
    Calls Try.prog 52 #[.string s] w fun e w' => e = .returned (.int .u64 (numOf s.data.toList)) ∧ w = w' := by
  go_enter Try.func52, Try.ntmps52
  go_wp2
  go_loop [3, 4] (fun t i => ∃ k : Nat, k ≤ s.size ∧ i = .int .i64 k ∧ t = .int .u64 (numOf (s.data.toList.take k))) (fun _ i => s.size - (intOf i).toNat)
  case atStart => exact ⟨0, by omega, rfl, rfl⟩
  case round =>
    obtain ⟨k, hk, rfl, rfl⟩ := hrel
    by_cases hlt : k < s.size
    · have hb := numOf_take_lt s.data.toList k 7 (by omega)
      have hb' : numOf (s.data.toList.take k) < 72057594037927936 := hb
      have hn := Lib.hid (show (numOf (s.data.toList.take (k + 1)) : Int) = 256 * (numOf (s.data.toList.take k) : Int) + (s[k].toNat : Int) by
        rw [bytes_take s k hlt, numOf_snoc]; omega)
      clear hb
      go_wp2
      go_round
      case rel => exact ⟨k + 1, by omega, by go_num, by rw [hn.out, wrapb, IntKind.wrap_u64]; congr 1; have := s[k].toNat_lt; omega⟩
      case measure => simp [intOf]; omega
    · go_wp2
      go_ret
      exact ⟨by rw [List.take_of_length_le (by rw [bytes_size]; omega)]; rfl, rfl⟩
end Go.Proofs.Ytgcgoiaadigmfaa
