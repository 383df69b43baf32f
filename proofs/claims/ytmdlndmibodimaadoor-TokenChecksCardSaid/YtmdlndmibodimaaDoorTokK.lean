/- Tokens in memory; walks: lists of tokens that are the same; the example that each statement asks at its end. -/
import Derived.Test.YtmdlndmibodimaaDoorTokN
import Derived.Deep.LoopGhost
import Derived.BigQuiet
import Derived.Deep.Slices
namespace Go.Proofs.YtmdlndmibodimaaDoor
open Go.RowKit
open Tk7

/-- A token: its kind, its text, and its offset, whatever they are. -/
abbrev TK := Int × List UInt8 × Int
def kcell (x : TK) : List Value := [.int .i64 x.1, .string (strOf x.2.1), .int .i64 x.2.2]
def kcells (xs : List TK) : List Value := xs.flatMap kcell
theorem kcells_len (xs : List TK) : (kcells xs).length = xs.length * 3 := by
  induction xs with
  | nil => rfl
  | cons x xs ih => show (kcell x ++ kcells xs).length = _; rw [List.length_append, ih, List.length_cons]; show 3 + _ = _; omega
theorem kcells_app (a b : List TK) : kcells (a ++ b) = kcells a ++ kcells b := by unfold kcells; simp
theorem kcells_get {xs : List TK} {k : Nat} (h : k < xs.length) : (kcells xs)[k * 3]? = some (.int .i64 xs[k].1) ∧ (kcells xs)[k * 3 + 1]? = some (.string (strOf xs[k].2.1)) ∧ (kcells xs)[k * 3 + 2]? = some (.int .i64 xs[k].2.2) :=
  ⟨flat_get (f := kcell) (n := 3) (fun _ => rfl) xs k h 0 (by decide), flat_get (f := kcell) (n := 3) (fun _ => rfl) xs k h 1 (by decide), flat_get (f := kcell) (n := 3) (fun _ => rfl) xs k h 2 (by decide)⟩
def tkOf (t : T) : TK := ((t.1 : Int), t.2.1, (t.2.2 : Int))
theorem tcells_k (ts : List T) : tcells (ts.map okX) = kcells (ts.map tkOf) := by
  unfold tcells kcells
  rw [List.flatMap_map, List.flatMap_map]
  rfl
/-- The slice v holds these tokens. -/
def KSl (w : World) (v : Value) (xs : List TK) : Prop := Sl w 3 xs.length v (kcells xs)
theorem KSl.later {w w' : World} {v : Value} {xs : List TK} (h : KSl w v xs) (hb : Below w.heap.size w w') : KSl w' v xs := Sl.later h hb
theorem KSl.drewN {w : World} {v : Value} {xs : List TK} (h : KSl w v xs) (n : Nat) : KSl (w.drewN n) v xs := h.later (below_drewN (Below.refl _ _) n)
/-- What a slice of tokens gives a walk. -/
theorem KSl.at_ {w : World} {v : Value} {xs : List TK} (h : KSl w v xs) : ∃ (A : Option Addr) (cap : Nat), v = .slice A xs.length cap ∧ xs.length ≤ cap ∧ xs.length ≤ 9223372036854775807 ∧ (A = none → cap = 0) ∧
    ∀ (k : Nat) (hk : k < xs.length), ∃ a, A = some a ∧ a.block < w.heap.size ∧ w.cell? (a.add (k * 3)) = some (.int .i64 xs[k].1) ∧ w.cell? (a.add (k * 3 + 1)) = some (.string (strOf xs[k].2.1)) ∧ w.cell? (a.add (k * 3 + 2)) = some (.int .i64 xs[k].2.2) := by
  obtain ⟨h1, h2, A, cap, h3, h4, h5, h6⟩ := h
  refine ⟨A, cap, h3, h4, by unfold maxLen at h2; exact h2, h5, fun k hk => ?_⟩
  obtain ⟨g0, g1, g2⟩ := kcells_get hk
  obtain ⟨a, rfl, hlt, hc0⟩ := h6 _ _ g0
  obtain ⟨a', e1, _, hc1⟩ := h6 _ _ g1
  cases e1
  obtain ⟨a', e2, _, hc2⟩ := h6 _ _ g2
  cases e2
  exact ⟨a, rfl, hlt, hc0, hc1, hc2⟩
/-- The cells behind an element's first, as a walk names them. -/
theorem add_at (a : Addr) (n m : Nat) (hm : 0 < m) : (⟨(a.add n).block, (a.add n).off + m, none⟩ : Addr) = a.add (n + m) := by
  rw [← Go.Deep.add_add]
  conv => rhs; unfold Addr.add
  rw [if_neg (by omega)]
  rfl
set_option maxRecDepth 100000 in
set_option maxHeartbeats 4000000 in
theorem equal_same (u v : Value) (xs : List TK) (w : World) (hu : KSl w u xs) (hv : KSl w v xs) :
    Calls Tryd.prog 10 #[u, v] w fun e w' => e = .returned (.bool true) ∧ ∃ n, w' = w.drewN n := by
  obtain ⟨A, cap, rfl, hcap, hmax, _, hc⟩ := hu.at_
  obtain ⟨A', cap', rfl, hcap', _, _, hc'⟩ := hv.at_
  have HC := Lib.hid hc
  have HC' := Lib.hid hc'
  clear hc hc' hu hv
  go_enter Tryd.func10, Tryd.ntmps10
  go_wp2
  go_loopw [5] (fun i wr => ∃ k n : Nat, k ≤ xs.length ∧ i = .int .i64 (k : Int) ∧ wr = w.drewN n) (fun i _ => xs.length - (intOf i).toNat)
  case atStart => exact ⟨0, 0, by omega, rfl, rfl⟩
  case round =>
    obtain ⟨k, n, hk, rfl, rfl⟩ := hrel
    by_cases hlt : k < xs.length
    · obtain ⟨a, rfl, _, c0, c1, c2⟩ := HC.out k hlt
      obtain ⟨a', rfl, _, c0', c1', c2'⟩ := HC'.out k hlt
      rw [← add_at _ _ _ (by decide)] at c1 c1' c2 c2'
      obtain ⟨x, hx⟩ : ∃ x, x = xs[k] := ⟨_, rfl⟩
      rw [← hx] at c0 c1 c2 c0' c1' c2'
      have hi : (k : Int) < (xs.length : Int) := by omega
      clear hx
      go_wp2
      go_quiet (fail)
      go_wp2
      go_roundw
      case rel => exact ⟨k + 1, _, by omega, by go_num, rfl⟩
      case measure => simp [intOf]; omega
    · go_wp2
      go_ret
      exact ⟨rfl, _, rfl⟩
theorem toks_lt {t : List UInt8} {ts : List T} (h : toksR t = .ok ts) : t.length ≤ 400 ∧ toksG t 0 = .ok ts := by
  unfold toksR at h
  split at h
  · cases h
  · exact ⟨by omega, h⟩
theorem tokens_ok {t : List UInt8} {ts : List T} (h : toksR t = .ok ts) (w : World) (hG : SG w) :
    Calls Tryd.prog 9 #[.string (strOf t)] w fun e w' => ∃ A c, e = .returned (.tuple #[.slice A ts.length c, .agg #[.int .i64 0, .int .i64 0]]) ∧ Below w.heap.size w w' ∧ w'.ownsRow w.heap.size 30 3 (.slice A ts.length c) ts.length (kcells (ts.map tkOf)) := by
  refine (tokens_any t w hG).mono ?_
  rintro e w' ⟨hb, (⟨er, a, h2, rfl⟩ | ⟨us, v, h2, rfl, ho⟩)⟩
  · rw [h] at h2; cases h2
  · rw [h] at h2
    cases h2
    rw [tcells_k] at ho
    obtain ⟨A, c, rfl⟩ := own_form ho
    exact ⟨A, c, rfl, hb, ho⟩
theorem own_k {w : World} {base : Nat} {A : Option Addr} {c : Nat} {xs : List TK} (h : w.ownsRow base 30 3 (.slice A xs.length c) xs.length (kcells xs)) : KSl w (.slice A xs.length c) xs := Sl.of_own h
theorem own_ts {w : World} {base : Nat} {A : Option Addr} {c : Nat} {ts : List T} (h : w.ownsRow base 30 3 (.slice A ts.length c) ts.length (kcells (ts.map tkOf))) : KSl w (.slice A ts.length c) (ts.map tkOf) := by
  have := Sl.of_own h
  unfold KSl
  rw [List.length_map]
  exact this
theorem tokens_err {t : List UInt8} {er : Int} {a : Nat} (h : toksR t = .error (er, a)) (w : World) (hG : SG w) :
    Calls Tryd.prog 9 #[.string (strOf t)] w fun e w' => e = .returned (.tuple #[.slice none 0 0, .agg #[.int .i64 er, .int .i64 (a : Int)]]) ∧ Below w.heap.size w w' := by
  refine (tokens_any t w hG).mono ?_
  rintro e w' ⟨hb, (⟨er', a', h2, rfl⟩ | ⟨us, v, h2, rfl, ho⟩)⟩
  · rw [h] at h2; cases h2; exact ⟨rfl, hb⟩
  · rw [h] at h2; cases h2
/-- The tokens of a text as they are given, and the error and its place. -/
def outK (t : List UInt8) : List TK := match toksR t with | .error _ => [] | .ok ts => ts.map tkOf
def outE (t : List UInt8) : Int × Nat := match toksR t with | .error e => e | .ok _ => (0, 0)
theorem tokens_is (t : List UInt8) (w : World) (hG : SG w) :
    Calls Tryd.prog 9 #[.string (strOf t)] w fun e w' => ∃ A c, e = .returned (.tuple #[.slice A (outK t).length c, .agg #[.int .i64 (outE t).1, .int .i64 ((outE t).2 : Int)]]) ∧ Below w.heap.size w w' ∧ w'.ownsRow w.heap.size 30 3 (.slice A (outK t).length c) (outK t).length (kcells (outK t)) := by
  refine (tokens_any t w hG).mono ?_
  rintro e w' ⟨hb, (⟨er, a, h2, rfl⟩ | ⟨us, v, h2, rfl, ho⟩)⟩
  · unfold outK outE
    rw [h2]
    exact ⟨none, 0, rfl, hb, World.ownsRow_nil _ _ _ _⟩
  · unfold outK outE
    rw [h2]
    rw [tcells_k] at ho
    obtain ⟨A, c, rfl⟩ := own_form ho
    simp only [List.length_map]
    exact ⟨A, c, rfl, hb, ho⟩
theorem toksR_len {t : List UInt8} {ts : List T} (h : toksR t = .ok ts) : ts.length ≤ t.length := by
  have hl := (toks_lt h).2
  have h1 := laid_of t.length t 0 ts (Nat.le_refl _) hl
  have h2 := laid_len ts t 0 h1
  have h3 := laid_tok ts t 0 h1
  have h4 : ∀ us : List T, (∀ x ∈ us, isTok x.1 x.2.1 = true) → us.length ≤ (us.map fun t => t.2.1.length).sum := by
    intro us
    induction us with
    | nil => intro _; exact Nat.le_refl _
    | cons u us ih =>
      intro hu
      have h5 := (isTok_iff.1 (hu u (by simp))).2
      have h6 := ih (fun x hx => hu x (by simp [hx]))
      have h7 : 0 < u.2.1.length := List.length_pos_iff.2 h5
      rw [List.map_cons, List.sum_cons, List.length_cons]
      omega
  exact Nat.le_trans (h4 ts h3) h2
theorem outK_len (t : List UInt8) : (outK t).length ≤ t.length := by
  unfold outK
  cases h : toksR t with
  | error e => simp
  | ok ts => rw [List.length_map]; exact toksR_len h
theorem laid_at : ∀ (ts : List T) (l : List UInt8) (k : Nat), Laid l k ts → ∀ t ∈ ts, k ≤ t.2.2 ∧ t.2.2 + t.2.1.length ≤ k + l.length := by
  intro ts
  induction ts with
  | nil => intro l k _ t ht; cases ht
  | cons x ts ih =>
    rintro l k ⟨g, e, rfl, h1, h2, h3, h4⟩ t ht
    have hl : (g ++ (x.2.1 ++ e)).length = g.length + (x.2.1.length + e.length) := by rw [List.length_append, List.length_append]
    rw [hl]
    rcases List.mem_cons.1 ht with rfl | ht
    · omega
    · have := ih e _ h4 t ht
      omega
theorem outK_at (t : List UInt8) : ∀ x ∈ outK t, 0 ≤ x.2.2 ∧ x.2.2 ≤ (t.length : Int) := by
  unfold outK
  cases h : toksR t with
  | error e => intro x hx; cases hx
  | ok ts =>
    intro x hx
    obtain ⟨y, hy, rfl⟩ := List.mem_map.1 hx
    have hl := (toks_lt h).2
    have := laid_at ts t 0 (laid_of t.length t 0 ts (Nat.le_refl _) hl) y hy
    unfold tkOf
    simp only
    omega
/-- The tokens of the example. -/
def awT : List T := [(2, [65], 0), (4, [59], 1), (1, [110, 111, 116], 2), (2, [66], 6), (1, [119, 105, 116, 104, 105, 110], 8), (3, [49, 48], 15)]
theorem awR : toksR [65, 59, 110, 111, 116, 32, 66, 32, 119, 105, 116, 104, 105, 110, 32, 49, 48] = .ok awT := by rfl
def awC : List Value := [.int .i64 2, .string ⟨#[65]⟩, .int .i64 0, .int .i64 4, .string ⟨#[59]⟩, .int .i64 1, .int .i64 1, .string ⟨#[110, 111, 116]⟩, .int .i64 2, .int .i64 2, .string ⟨#[66]⟩, .int .i64 6, .int .i64 1, .string ⟨#[119, 105, 116, 104, 105, 110]⟩, .int .i64 8, .int .i64 3, .string ⟨#[49, 48]⟩, .int .i64 15]
theorem awC_is : kcells (awT.map tkOf) = awC := rfl
theorem aw_lit (w : World) (b : Nat) (h : Blk w b awC) : KSl w (.slice (some ⟨b, 0, none⟩) 6 6) (awT.map tkOf) := Sl.lit h 3 6 rfl (by decide)
set_option maxRecDepth 100000 in
set_option maxHeartbeats 4000000 in
theorem awake_any (w : World) (hG : SG w) : Calls Tryd.prog 17 #[] w fun e w' => e = .returned (.bool true) ∧ Below w.heap.size w w' := by
  have hT := fun w hG => tokens_ok awR w hG
  have hE := fun (w : World) (A : Option Addr) (c b : Nat) (h1 : KSl w (.slice A 6 c) (awT.map tkOf)) (h2 : Blk w b awC) => equal_same _ _ _ w h1 (aw_lit w b h2)
  go_enter Tryd.func17, Tryd.ntmps17
  go_wp2_with fail
  refine (hT _ hG).mono ?_
  rintro e w1 ⟨A, c, rfl, hb1, hown⟩
  have hk := Lib.hid (own_ts hown)
  clear hown hT
  go_wp2_with fail
  refine (hE _ A c _ (hk.out.later (below2 w1 _ _)) (Blk.is (us := awC) _ (by simp))).mono ?_
  rintro e w2 ⟨rfl, n, rfl⟩
  go_wp2
  go_ret
  exact ⟨rfl, below_drewN (bstep hb1 (below2 w1 _ _)) n⟩
end Go.Proofs.YtmdlndmibodimaaDoor
