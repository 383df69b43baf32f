/- Walks: the example that each statement asks at its end. -/
import Derived.Test.YtkmkhegekonbmaaDoorRowJJ
namespace Go.Proofs.YtkmkhegekonbmaaDoor
open Go.RowKit
open Rw6

/-- Rows of lines, to be computed. -/
def rowsF : List (List UInt8) → Nat → Except (Int × Nat) (List (Nat × List W))
  | [], _ => .ok []
  | l :: ls, at_ =>
    if 1000 < l.length then .error (4, at_)
    else
      match lineF l.length l at_ with
      | .error e => .error (3, e)
      | .ok ws =>
        match rowsF ls (at_ + l.length + 1) with
        | .error e => .error e
        | .ok rs => .ok (if ws = [] then rs else (at_, ws) :: rs)
theorem rowsF_eq : ∀ (ls : List (List UInt8)) (a : Nat), rowsF ls a = rowsG ls a
  | [], _ => rfl
  | l :: ls, a => by unfold rowsF rowsG; rw [lineF_eq _ _ _ (Nat.le_refl _), rowsF_eq ls]; rfl
theorem readF {t : List UInt8} {x : Except (Int × Nat) (List (Nat × List W))} (h : t.length ≤ 20000) (hx : rowsF (linesOf t) 0 = x) : readG t = x := by
  unfold readG
  rw [if_neg (by omega), ← rowsF_eq]
  exact hx
def rsA : List (Nat × List W) := [(0, [(false, [97], 0), (true, [98, 32, 99], 2)]), (13, [(false, [120], 15)])]
theorem read_awake : readG [97, 32, 34, 98, 32, 99, 34, 32, 35, 32, 110, 111, 10, 32, 32, 120, 10] = .ok rsA := readF (by decide) (by kernel_rfl)
theorem text_awake : textI [] [(0, [mkW ⟨#[97]⟩, mkW ⟨#[98, 32, 99]⟩]), (0, [mkW ⟨#[55]⟩])] = ([97, 32, 34, 98, 32, 99, 34, 10, 55, 10], 0) := by decide +kernel
theorem want_any (w3 w4 : World) (hb : Below (w3.heap.size + 1) (w3.alloc (.cells #[.bool false, .string ⟨#[97]⟩, .int .i64 0, .bool true, .string ⟨#[98, 32, 99]⟩, .int .i64 2] 31)) w4) :
    RSl ((w4.alloc (.cells #[.bool false, .string ⟨#[120]⟩, .int .i64 15] 31)).alloc (.cells #[.int .i64 0, .slice (some ⟨w3.heap.size, 0, none⟩) 2 2, .int .i64 13, .slice (some ⟨w4.heap.size, 0, none⟩) 1 1] 43))
      (.slice (some ⟨w4.heap.size + 1, 0, none⟩) 2 2) (rsI rsA) := by
  have h1 := wsl_lit w3 [(false, [97], 0), (true, [98, 32, 99], 2)] (by simp)
  have h1' : WSl (w4.alloc (.cells #[.bool false, .string ⟨#[120]⟩, .int .i64 15] 31)) (.slice (some ⟨w3.heap.size, 0, none⟩) 2 2) [(false, [97], 0), (true, [98, 32, 99], 2)] :=
    (h1.later (w' := w4) (by rw [World.size_alloc]; exact hb)).later (below1 _ _)
  have h2 := wsl_lit w4 [(false, [120], 15)] (by simp)
  have h3 := rsl_lit (w4.alloc (.cells #[.bool false, .string ⟨#[120]⟩, .int .i64 15] 31)) (rsI rsA) [.slice (some ⟨w3.heap.size, 0, none⟩) 2 2, .slice (some ⟨w4.heap.size, 0, none⟩) 1 1] (by simp [rsI, rsA]) rfl (fun i u r hu hr => by
    match i with
    | 0 => cases hu; cases hr; exact h1'
    | 1 => cases hu; cases hr; exact h2
    | i + 2 => simp at hu)
  simp only [World.size_alloc] at h3
  exact h3
theorem own_wsl {w : World} {b : Nat} {v : Value} {l : List ByteArray} (h : w.ownsRow b 31 3 v l.length (wcells (l.map mkW))) : WSl w v (l.map mkW) := by
  have := Sl.of_own h
  unfold WSl
  rw [List.length_map]
  exact this
end Go.Proofs.YtkmkhegekonbmaaDoor
