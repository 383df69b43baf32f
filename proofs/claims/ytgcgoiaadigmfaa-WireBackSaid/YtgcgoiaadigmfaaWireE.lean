/- Walks: a reader or writer as callers know it, and as it is opened. -/
import Derived.Test.YtgcgoiaadigmfaaWireB
import Derived.RegionTactic
import Derived.BigRegion
namespace Go.Proofs.Ytgcgoiaadigmfaa
open Go.RowKit
open Wr

set_option maxRecDepth 100000 in
theorem rgiven_any {w : World} {b : Nat} {x : Sp} (h : At w b x) :
    Calls Try.prog 47 #[.pointer (some ⟨b, 0, none⟩)] w fun r w' => r = .returned x.given.val ∧ Below w.heap.size w w' := by
  obtain ⟨hlt, c0, c1, c2, c3, c4, f0, f1, f2, f3, f4⟩ := id h
  go_enter Try.func47, Try.ntmps47
  go_wp2
  go_region
  go_wp2
  go_returns
  exact ⟨rfl, by go_grown⟩
theorem open_any (r : Rd) (w : World) :
    Calls Try.prog 45 #[r.val] w fun e w' => e = .returned r.opened.val ∧ Below w.heap.size w w' := by
  obtain ⟨s, at_, err, fat⟩ := r
  simp only [Rd.val]
  cases hs : (Rd.sp ⟨s, at_, err, fat⟩).sound
  · have hx := Lib.hid (show Rd.opened ⟨s, at_, err, fat⟩ = Sp.bad by unfold Rd.opened; rw [if_neg (by rw [hs]; decide)])
    have HS := Lib.hid hs
    clear hs
    go_enter Try.func45, Try.ntmps45
    go_wp2_with fail
    refine named fun W hW => ?_
    have hA : At W (w.heap.size + 2) (Rd.sp ⟨s, at_, err, fat⟩) := by rw [hW]; constructor <;> (try simp only [Rd.sp]) <;> go_simp
    have hZ : At W (w.heap.size + 1) ⟨0, 0, 0, 0, ⟨#[]⟩⟩ := by rw [hW]; constructor <;> go_simp
    have hB : Below w.heap.size w W := by rw [hW]; go_grown
    clear hW
    refine (sound_any hA).mono ?_
    rintro e w1 ⟨rfl, nq, rfl⟩
    rw [HS.out]
    go_wp2_with fail
    refine (invalid_any _).mono ?_
    rintro e w2 ⟨rfl, hb2⟩
    have hZ2 := (hZ.drewN nq).later hb2
    have hB2 := (below_drewN hB nq).trans (hb2.mono (by simpa using hB.size))
    clear hb2 hZ hB hA
    obtain ⟨hlt, c0, c1, c2, c3, c4, f0, f1, f2, f3, f4⟩ := id hZ2
    go_wp2
    refine named_post fun V hV => ?_
    have hV2 : At V (w.heap.size + 1) Sp.bad := by rw [hV]; exact ((((hZ2.set0 0).set1 0).set2 10).set3 0).set4 _
    have hVB : Below w.heap.size w V := by rw [hV]; go_grown
    clear hV c0 c1 c2 c3 c4 f0 f1 f2 f3 f4
    obtain ⟨_, c0, c1, c2, c3, c4, _⟩ := hV2
    refine bodyPost_ret (by simp [results, Try.results45, go_sem, c0, c1, c2, c3, c4]; try rfl) rfl ?_
    exact ⟨by rw [hx.out]; rfl, hVB⟩
  · have hx := Lib.hid (show Rd.opened ⟨s, at_, err, fat⟩ = Rd.sp ⟨s, at_, err, fat⟩ by unfold Rd.opened; rw [if_pos hs])
    have HS := Lib.hid hs
    clear hs
    go_enter Try.func45, Try.ntmps45
    go_wp2_with fail
    refine named fun W hW => ?_
    have hA : At W (w.heap.size + 2) (Rd.sp ⟨s, at_, err, fat⟩) := by rw [hW]; constructor <;> (try simp only [Rd.sp]) <;> go_simp
    have hZ : At W (w.heap.size + 1) ⟨0, 0, 0, 0, ⟨#[]⟩⟩ := by rw [hW]; constructor <;> go_simp
    have hB : Below w.heap.size w W := by rw [hW]; go_grown
    clear hW
    refine (sound_any hA).mono ?_
    rintro e w1 ⟨rfl, nq, rfl⟩
    rw [HS.out]
    have hZ2 := hZ.drewN nq
    have hA2 := hA.drewN nq
    have hB2 := below_drewN hB nq
    obtain ⟨V, hV⟩ : ∃ V, V = W.drewN nq := ⟨_, rfl⟩
    rw [← hV] at hZ2 hA2 hB2 ⊢
    clear hV hZ hA hB
    obtain ⟨hlt, c0, c1, c2, c3, c4, f0, f1, f2, f3, f4⟩ := id hZ2
    obtain ⟨hlt', d0, d1, d2, d3, d4, g0, g1, g2, g3, g4⟩ := id hA2
    simp only [Rd.sp] at d0 d1 d2 d3 d4
    go_wp2
    refine named_post fun V hV => ?_
    have hV2 : At V (w.heap.size + 1) (Rd.sp ⟨s, at_, err, fat⟩) := by rw [hV]; exact ((((hZ2.set0 at_).set1 s.size).set2 err).set3 fat).set4 s
    have hVB : Below w.heap.size w V := by rw [hV]; go_grown
    clear hV c0 c1 c2 c3 c4 f0 f1 f2 f3 f4 d0 d1 d2 d3 d4 g0 g1 g2 g3 g4
    obtain ⟨_, c0, c1, c2, c3, c4, _⟩ := hV2
    simp only [Rd.sp] at c0 c1 c2 c3 c4
    refine bodyPost_ret (by simp [results, Try.results45, go_sem, c0, c1, c2, c3, c4]; try rfl) rfl ?_
    exact ⟨by rw [hx.out]; rfl, hVB⟩
set_option maxRecDepth 100000 in
theorem wgiven_any {w : World} {b : Nat} {x : Sp} (h : At w b x) :
    Calls Try.prog 61 #[.pointer (some ⟨b, 0, none⟩)] w fun r w' => r = .returned x.wgiven.val ∧ Below w.heap.size w w' := by
  obtain ⟨hlt, c0, c1, c2, c3, c4, f0, f1, f2, f3, f4⟩ := id h
  go_enter Try.func61, Try.ntmps61
  go_wp2
  go_region
  go_wp2
  go_returns
  exact ⟨rfl, by go_grown⟩
theorem resume_any (r : Wt) (w : World) :
    Calls Try.prog 60 #[r.val] w fun e w' => e = .returned r.opened.val ∧ Below w.heap.size w w' := by
  obtain ⟨s, most, err⟩ := r
  simp only [Wt.val]
  by_cases hm : most ≤ 20000
  · cases hs : (Wt.sp ⟨s, most, err⟩).sound
    · have hx := Lib.hid (show Wt.opened ⟨s, most, err⟩ = Sp.bad by unfold Wt.opened; rw [if_neg (by rw [hs]; simp)])
      have HS := Lib.hid hs
      clear hs
      go_enter Try.func60, Try.ntmps60
      go_wp2_with fail
      refine named fun W hW => ?_
      have hA : At W (w.heap.size + 2) (Wt.sp ⟨s, most, err⟩) := by rw [hW]; constructor <;> (try simp only [Wt.sp]) <;> go_simp
      have hZ : At W (w.heap.size + 1) ⟨0, 0, 0, 0, ⟨#[]⟩⟩ := by rw [hW]; constructor <;> go_simp
      have hB : Below w.heap.size w W := by rw [hW]; go_grown
      clear hW
      refine (sound_any hA).mono ?_
      rintro e w1 ⟨rfl, nq, rfl⟩
      rw [HS.out]
      go_wp2_with fail
      refine (invalid_any _).mono ?_
      rintro e w2 ⟨rfl, hb2⟩
      have hZ2 := (hZ.drewN nq).later hb2
      have hB2 := (below_drewN hB nq).trans (hb2.mono (by simpa using hB.size))
      clear hb2 hZ hB hA
      obtain ⟨hlt, c0, c1, c2, c3, c4, f0, f1, f2, f3, f4⟩ := id hZ2
      go_wp2
      refine named_post fun V hV => ?_
      have hV2 : At V (w.heap.size + 1) Sp.bad := by rw [hV]; exact ((((hZ2.set0 0).set1 0).set2 10).set3 0).set4 _
      have hVB : Below w.heap.size w V := by rw [hV]; go_grown
      clear hV c0 c1 c2 c3 c4 f0 f1 f2 f3 f4
      obtain ⟨_, c0, c1, c2, c3, c4, _⟩ := hV2
      refine bodyPost_ret (by simp [results, Try.results60, go_sem, c0, c1, c2, c3, c4]; try rfl) rfl ?_
      exact ⟨by rw [hx.out]; rfl, hVB⟩
    · have hx := Lib.hid (show Wt.opened ⟨s, most, err⟩ = Wt.sp ⟨s, most, err⟩ by unfold Wt.opened; rw [if_pos ⟨hm, hs⟩])
      have HS := Lib.hid hs
      clear hs
      go_enter Try.func60, Try.ntmps60
      go_wp2_with fail
      refine named fun W hW => ?_
      have hA : At W (w.heap.size + 2) (Wt.sp ⟨s, most, err⟩) := by rw [hW]; constructor <;> (try simp only [Wt.sp]) <;> go_simp
      have hZ : At W (w.heap.size + 1) ⟨0, 0, 0, 0, ⟨#[]⟩⟩ := by rw [hW]; constructor <;> go_simp
      have hB : Below w.heap.size w W := by rw [hW]; go_grown
      clear hW
      refine (sound_any hA).mono ?_
      rintro e w1 ⟨rfl, nq, rfl⟩
      rw [HS.out]
      have hZ2 := hZ.drewN nq
      have hA2 := hA.drewN nq
      have hB2 := below_drewN hB nq
      obtain ⟨V, hV⟩ : ∃ V, V = W.drewN nq := ⟨_, rfl⟩
      rw [← hV] at hZ2 hA2 hB2 ⊢
      clear hV hZ hA hB
      obtain ⟨hlt, c0, c1, c2, c3, c4, f0, f1, f2, f3, f4⟩ := id hZ2
      obtain ⟨hlt', d0, d1, d2, d3, d4, g0, g1, g2, g3, g4⟩ := id hA2
      simp only [Wt.sp] at d0 d1 d2 d3 d4
      go_wp2
      refine named_post fun V hV => ?_
      have hV2 : At V (w.heap.size + 1) (Wt.sp ⟨s, most, err⟩) := by rw [hV]; exact ((((hZ2.set0 s.size).set1 most).set2 err).set3 0).set4 s
      have hVB : Below w.heap.size w V := by rw [hV]; go_grown
      clear hV c0 c1 c2 c3 c4 f0 f1 f2 f3 f4 d0 d1 d2 d3 d4 g0 g1 g2 g3 g4
      obtain ⟨_, c0, c1, c2, c3, c4, _⟩ := hV2
      simp only [Wt.sp] at c0 c1 c2 c3 c4
      refine bodyPost_ret (by simp [results, Try.results60, go_sem, c0, c1, c2, c3, c4]; try rfl) rfl ?_
      exact ⟨by rw [hx.out]; rfl, hVB⟩
  · have hx := Lib.hid (show Wt.opened ⟨s, most, err⟩ = Sp.bad by unfold Wt.opened; rw [if_neg (fun h => hm h.1)])
    go_enter Try.func60, Try.ntmps60
    go_wp2_with fail
    refine named fun W hW => ?_
    have hZ : At W (w.heap.size + 1) ⟨0, 0, 0, 0, ⟨#[]⟩⟩ := by rw [hW]; constructor <;> go_simp
    have hB : Below w.heap.size w W := by rw [hW]; go_grown
    clear hW
    refine (invalid_any _).mono ?_
    rintro e w2 ⟨rfl, hb2⟩
    have hZ2 := hZ.later hb2
    have hB2 := hB.trans (hb2.mono (by simpa using hB.size))
    clear hb2 hZ hB
    obtain ⟨hlt, c0, c1, c2, c3, c4, f0, f1, f2, f3, f4⟩ := id hZ2
    go_wp2
    refine named_post fun V hV => ?_
    have hV2 : At V (w.heap.size + 1) Sp.bad := by rw [hV]; exact ((((hZ2.set0 0).set1 0).set2 10).set3 0).set4 _
    have hVB : Below w.heap.size w V := by rw [hV]; go_grown
    clear hV c0 c1 c2 c3 c4 f0 f1 f2 f3 f4
    obtain ⟨_, c0, c1, c2, c3, c4, _⟩ := hV2
    refine bodyPost_ret (by simp [results, Try.results60, go_sem, c0, c1, c2, c3, c4]; try rfl) rfl ?_
    exact ⟨by rw [hx.out]; rfl, hVB⟩
end Go.Proofs.Ytgcgoiaadigmfaa
