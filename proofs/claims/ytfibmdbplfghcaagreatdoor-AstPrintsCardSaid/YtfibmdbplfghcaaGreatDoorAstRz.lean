/- Walks: the document's own operators and functions; texts of conditions and aggregates. -/
import Derived.Test.YtfibmdbplfghcaaGreatDoorAstRy
namespace Go.Proofs.YtfibmdbplfghcaaGreatDoor
open Go.RowKit
open A8 Tk7 Lb

def ops6 : List (List UInt8) := [[61], [33, 61], [60], [60, 61], [62], [62, 61]]
def funs6 : List (List UInt8) := [[99, 111, 117, 110, 116], [115, 117, 109], [109, 105, 110], [109, 97, 120], [102, 105, 114, 115, 116], [108, 97, 115, 116]]
theorem ops6_at (k : Nat) (h : k < 6) : ops6[k]? = some (opsA.getD (k + 1) []) := by
  rcases (by omega : k = 0 ∨ k = 1 ∨ k = 2 ∨ k = 3 ∨ k = 4 ∨ k = 5) with rfl | rfl | rfl | rfl | rfl | rfl <;> rfl
theorem funs6_at (k : Nat) (h : k < 6) : funs6[k]? = some (funsA.getD (k + 1) []) := by
  rcases (by omega : k = 0 ∨ k = 1 ∨ k = 2 ∨ k = 3 ∨ k = 4 ∨ k = 5) with rfl | rfl | rfl | rfl | rfl | rfl <;> rfl
theorem ops_small (k : Nat) : (opsA.getD k []).length ≤ 10 := by
  by_cases h : k < 7
  · have : ∀ i : Fin 7, (opsA.getD i.val []).length ≤ 10 := by decide +kernel
    exact this ⟨k, h⟩
  · unfold List.getD
    rw [List.getElem?_eq_none (by show 7 ≤ k; omega)]
    exact Nat.zero_le _
theorem funs_small (k : Nat) : (funsA.getD k []).length ≤ 10 := by
  by_cases h : k < 7
  · have : ∀ i : Fin 7, (funsA.getD i.val []).length ≤ 10 := by decide +kernel
    exact this ⟨k, h⟩
  · unfold List.getD
    rw [List.getElem?_eq_none (by show 7 ≤ k; omega)]
    exact Nat.zero_le _
set_option maxRecDepth 100000 in
theorem rops_any (w : World) : Calls Tryz.prog 78 #[] w fun e w' => ∃ a : Addr, e = .returned (.slice (some a) 6 6) ∧ Below w.heap.size w w' ∧ ∀ (i : Nat) (c : List UInt8), ops6[i]? = some c → w'.cell? (a.add i) = some (.string (strOf c)) := by
  go_enter Tryz.func78, Tryz.ntmps78
  go_wp2
  go_ret
  refine ⟨⟨w.heap.size, 0, none⟩, rfl, b1 _ _, fun i c hc => ?_⟩
  exact blk_cells (Blk.is (us := ops6.map fun c => .string (strOf c)) _ rfl) i _ (by rw [List.getElem?_map, hc]; rfl)
set_option maxRecDepth 100000 in
theorem rfuns_any (w : World) : Calls Tryz.prog 77 #[] w fun e w' => ∃ a : Addr, e = .returned (.slice (some a) 6 6) ∧ Below w.heap.size w w' ∧ ∀ (i : Nat) (c : List UInt8), funs6[i]? = some c → w'.cell? (a.add i) = some (.string (strOf c)) := by
  go_enter Tryz.func77, Tryz.ntmps77
  go_wp2
  go_ret
  refine ⟨⟨w.heap.size, 0, none⟩, rfl, b1 _ _, fun i c hc => ?_⟩
  exact blk_cells (Blk.is (us := funs6.map fun c => .string (strOf c)) _ rfl) i _ (by rw [List.getElem?_map, hc]; rfl)
theorem condT_len (c : Cn) (h : okV c.va) : (condT c).length ≤ 31 := by
  unfold condT
  rw [List.length_append]
  have := ops_small c.op.toNat
  have := itoa_len21 c.va h
  omega
set_option maxRecDepth 100000 in
set_option maxHeartbeats 8000000 in
theorem rcondText_any (op va : Int) (h : condB ⟨op, va⟩ = true) (hv : okV va) (w : World) :
    Calls Tryz.prog 39 #[.agg #[.int .i64 op, .int .i64 va]] w fun e w' => e = .returned (.string (strOf (condT ⟨op, va⟩))) ∧ Below w.heap.size w w' := by
  obtain ⟨h1, h6⟩ := condB_iff.1 h
  simp only at h1 h6
  have hN := rnumber_any va hv
  have hO := fun w1 => rops_any w1
  obtain ⟨k, hk⟩ : ∃ k : Nat, op = (k : Int) + 1 := ⟨(op - 1).toNat, by omega⟩
  have hk6 : k < 6 := by omega
  have hget := ops6_at k hk6
  have hT : condT ⟨op, va⟩ = opsA.getD (k + 1) [] ++ Lib.itoa va := by
    unfold condT
    have : op.toNat = k + 1 := by omega
    simp only [this]
  have hsum : ∀ w, (Op.stringOp .add (strOf (opsA.getD (k + 1) [])) (strOf (Lib.itoa va))).run Tryz.prog w = .ok (.string (strOf (condT ⟨op, va⟩))) w := fun w => by
    rw [hT]
    exact sum8 _ _ (by have := ops_small (k + 1); have := itoa_len21 va hv; omega) w
  obtain ⟨V, hV⟩ : ∃ D, D = strOf (Lib.itoa va) := ⟨_, rfl⟩
  obtain ⟨R, hR⟩ : ∃ D, D = strOf (condT ⟨op, va⟩) := ⟨_, rfl⟩
  have hcl : ∀ (w' : World) (a : Addr), (∀ (i : Nat) (c : List UInt8), ops6[i]? = some c → w'.cell? (a.add i) = some (.string (strOf c))) → w'.cell? (a.add k) = some (.string (strOf (opsA.getD (k + 1) []))) := fun w' a hc => hc k _ hget
  obtain ⟨O, hOO⟩ : ∃ D, D = strOf (opsA.getD (k + 1) []) := ⟨_, rfl⟩
  rw [← hV] at hN hsum
  rw [← hR] at hsum ⊢
  rw [← hOO] at hsum hcl
  have hw : IntKind.i64.wrap (op - 1) = (k : Int) := by rw [IntWalk.i64_in _ ⟨by omega, by omega⟩]; omega
  have hki : (k : Int) < 6 := by omega
  have hk0 : (0 : Int) ≤ (k : Int) := by omega
  obtain ⟨W, hWW⟩ : ∃ W, W = w.alloc (.cells #[.int .i64 op, .int .i64 va] 59) := ⟨_, rfl⟩
  have HB := Lib.hid (show Below w.heap.size w W from hWW ▸ b1 _ _)
  have hBx : Blk W w.heap.size [.int .i64 op, .int .i64 va] := hWW ▸ Blk.new w _ _
  have hlt := hBx.lt
  have c0 := hBx.cell 0 _ rfl
  have c1 := hBx.cell 1 _ rfl
  have HO : ∀ w1, Below W.heap.size W w1 → Calls Tryz.prog 78 #[] w1 fun e w' => ∃ a : Addr, e = .returned (.slice (some a) 6 6) ∧ w'.cell? (a.add k) = some (.string O) ∧ w'.cell? ⟨w.heap.size, 0, none⟩ = some (.int .i64 op) ∧ w'.cell? ⟨w.heap.size, 1, none⟩ = some (.int .i64 va) ∧ Below w.heap.size w w' := fun w1 h1 => (hO w1).mono fun e w' ⟨a, he, hb2, hc2⟩ => ⟨a, he, hcl _ _ hc2, ((hBx.later h1).later hb2).cell 0 _ rfl, ((hBx.later h1).later hb2).cell 1 _ rfl, bstep (bstep HB.out h1) hb2⟩
  have HO' := Lib.hid HO
  clear hV hR hOO hT hget hk h h1 h6 hv hcl hBx HO hO
  go_enter Tryz.func39, Tryz.ntmps39
  go_wp2_with fail
  rw [← hWW]
  clear hWW
  go_region_with (first | (go_at_call 78; refine (HO'.out _ (by first | exact (Below.refl _ _).drew | exact below_drewN (Below.refl _ _).drew _)).mono ?_; rintro e w2 ⟨a, rfl, hcc, d0, d1, hb2⟩) | (go_at_call 79; refine (hN _).mono ?_; rintro e w3 ⟨rfl, m, rfl⟩))
  all_goals
    go_wp2
    go_ret
    first
    | exact ⟨rfl, below_drewN hb2 _⟩
    | exact ⟨rfl, hb2⟩
end Go.Proofs.YtfibmdbplfghcaaGreatDoor
