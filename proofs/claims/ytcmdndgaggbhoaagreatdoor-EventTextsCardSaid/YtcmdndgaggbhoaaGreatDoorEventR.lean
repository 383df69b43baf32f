/- Walks: strconv.FormatUint; strconv.ParseInt and ParseUint, whatever they are given. -/
import Derived.Test.YtcmdndgaggbhoaaGreatDoorEventN
import Derived.Lib.AtoiErrMem
import Derived.Lib.ItoaWalk
import Derived.Lib.ParseIntBTie
namespace Go.Proofs.YtcmdndgaggbhoaaGreatDoor.Ev
open Go.RowKit Go.Shelf
open Lb

/-- A variable of an interface's type holds something. -/
def Held1 (w : World) (g : Nat) : Prop := ∃ ev, w.cell? ⟨g, 0, none⟩ = some ev ∧ (ev = .nilIface ∨ ∃ te pe, ev = .iface te pe)
theorem Held1.below {w w' : World} {g : Nat} (h : Held1 w g) (hb : Below w.heap.size w w') : Held1 w' g := by
  obtain ⟨ev, h1, h2⟩ := h
  exact ⟨ev, (hb.cell (World.block_lt_of_cell? w _ h1)).trans h1, h2⟩
/-- The tables and the two errors of strconv lie where their initialisers laid them. -/
def Tab3 (w : World) : Prop := Tab2 w ∧ Held1 w 1 ∧ Held1 w 2
theorem Tab3.below {w w' : World} (h : Tab3 w) (hb : Below w.heap.size w w') : Tab3 w' := ⟨h.1.below hb, h.2.1.below hb, h.2.2.below hb⟩
theorem Tab3.alloc {w : World} (h : Tab3 w) (o : Obj) : Tab3 (w.alloc o) := h.below ((Below.refl _ _).alloc (Nat.le_refl _) o)
theorem tab3_drew (w : World) : Tab3 w.drew = Tab3 w := by
  apply propext
  exact ⟨fun h => h.below ⟨rfl, rfl, rfl, Nat.le_refl _, fun _ _ => rfl⟩, fun h => h.below (Below.refl _ _).drew⟩
/-- The number that ParseInt gives, and ParseUint; with whatever error. -/
def valI (s : ByteArray) : Int := match Lib.parseIntB 64 s.data.toList with | .ok v => v | .«syntax» => 0 | .range => Lib.intSat 64 s.data.toList
def valU (s : ByteArray) : Int := match Lib.parseUintB 64 s.data.toList with | .ok v => (v : Int) | .«syntax» => 0 | .range => 18446744073709551615
/-- Two results, the second of them something. -/
def OutSome (v : Value) (w : World) (e : Ending) (w' : World) : Prop := ∃ x, e = .returned (.tuple #[v, x]) ∧ Below w.heap.size w w'
theorem parseInt_any (s : ByteArray) (hs : s.size ≤ 100000) (w : World) (ht : Tab3 w) :
    Calls Tryz.prog 31 #[.string s, .int .i64 10, .int .i64 64] w (OutSome (.int .i64 (valI s)) w) := by
  unfold valI
  cases h : Lib.parseIntB 64 s.data.toList with
  | ok v => exact (Tryz.strconv_ParseInt_10_at64_ok s (by omega) v h w).mono fun _ _ ⟨he, hw⟩ => ⟨_, he, by rcases hw with rfl | ⟨t, rfl⟩; exact Below.refl _ _; exact Lib.bytesWorld_below _ _ _⟩
  | «syntax» =>
    obtain ⟨ev, h1, h2⟩ := ht.2.1
    exact (Tryz.strconv_ParseInt_10_at64_syntax s (by omega) h ev w h1 h2).mono fun _ _ ⟨_, he, _, _, hb⟩ => ⟨_, he, hb⟩
  | range =>
    obtain ⟨ev, h1, h2⟩ := ht.2.2
    exact (Tryz.strconv_ParseInt_10_at64_range s (by omega) h ev w h1 h2).mono fun _ _ ⟨_, he, _, _, hb⟩ => ⟨_, he, hb⟩
theorem parseUint_any (s : ByteArray) (hs : s.size ≤ 100000) (w : World) (ht : Tab3 w) :
    Calls Tryz.prog 34 #[.string s, .int .i64 10, .int .i64 64] w (OutSome (.int .u64 (valU s)) w) := by
  unfold valU
  cases h : Lib.parseUintB 64 s.data.toList with
  | ok v => exact (Tryz.strconv_ParseUint_10_at64_ok s (by omega) v h w).mono fun _ _ ⟨he, hw⟩ => ⟨_, he, by rcases hw with rfl | rfl; exact Below.refl _ _; exact Lib.bytesWorld_below _ _ _⟩
  | «syntax» =>
    obtain ⟨ev, h1, h2⟩ := ht.2.1
    exact (Tryz.strconv_ParseUint_10_at64_syntax s (by omega) h ev w h1 h2).mono fun _ _ ⟨_, he, _, _, hb⟩ => ⟨_, he, hb⟩
  | range =>
    obtain ⟨ev, h1, h2⟩ := ht.2.2
    exact (Tryz.strconv_ParseUint_10_at64_range s (by omega) h ev w h1 h2).mono fun _ _ ⟨_, he, _, _, hb⟩ => ⟨_, he, hb⟩
/-- What ParseInt gives at the text of a number: this number. -/
theorem parseM_dec (M : Nat) (hM : M ≤ 18446744073709551615) (ds : List UInt8) : ∀ a, (∀ b ∈ ds, isD b = true) → decN a ds ≤ M → Lib.parseUintM M a ds = .ok (decN a ds) := by
  induction ds with
  | nil => intro a _ _; rfl
  | cons d ds ih =>
    intro a hd hle
    have hb := isD_iff.1 (hd d (by simp))
    rw [decN_cons] at hle ⊢
    have h1 := decN_ge ds (10 * a + (d.toNat - 48))
    unfold Lib.parseUintM
    rw [if_pos hb, if_neg (by omega), if_neg (by omega), Nat.mul_comm a 10]
    exact ih _ (fun b hb => hd b (by simp [hb])) hle
theorem parseB_dec (u : Nat) (hu : u < 18446744073709551616) : Lib.parseUintB 64 (Lib.decDigits u) = .ok u := by
  unfold Lib.parseUintB
  rw [if_neg (dec_ne u)]
  have h := parseM_dec (2 ^ 64 - 1) (by decide) (Lib.decDigits u) 0 (dec_all u) (by rw [dec_val]; omega)
  rw [dec_val] at h
  exact h
theorem strOf_data (l : List UInt8) : (strOf l).data.toList = l := by simp [strOf]
theorem valU_dec (u : Nat) (hu : u < 18446744073709551616) : valU (strOf (Lib.decDigits u)) = (u : Int) := by
  unfold valU
  rw [strOf_data, parseB_dec u hu]
theorem parseIntB_itoa (v : Int) (h0 : -9223372036854775808 ≤ v) (h1 : v ≤ 9223372036854775807) : Lib.parseIntB 64 (Lib.itoa v) = .ok v := by
  by_cases h : 0 ≤ v
  · rw [itoa_pos h]
    have hp := parseB_dec v.toNat (by omega)
    obtain ⟨d, ds, e, hd⟩ := dec_cons v.toNat
    have hb := isD_iff.1 hd
    rw [e] at hp ⊢
    unfold Lib.parseIntB
    simp only
    rw [if_neg (by omega), hp]
    simp only
    rw [if_neg (by omega), if_neg (by omega), if_neg (by omega)]
    congr 1
    omega
  · rw [itoa_neg (by omega)]
    have hp := parseB_dec v.natAbs (by omega)
    unfold Lib.parseIntB
    simp only
    rw [if_pos (.inr (by decide)), hp]
    simp only
    rw [if_neg (fun h => h.1 (by decide)), if_neg (by omega), if_pos (by decide)]
    congr 1
    omega
theorem valI_itoa (v : Int) (h0 : -9223372036854775808 ≤ v) (h1 : v ≤ 9223372036854775807) : valI (strOf (Lib.itoa v)) = v := by
  unfold valI
  rw [strOf_data, parseIntB_itoa v h0 h1]
theorem valI_bounds (s : ByteArray) : -9223372036854775808 ≤ valI s ∧ valI s ≤ 9223372036854775807 := by
  unfold valI
  split
  · rename_i v h
    have := Lib.parseIntB_bounds h
    simp at this
    omega
  · decide
  · unfold Lib.intSat
    split <;> decide
theorem valU_bounds (s : ByteArray) : 0 ≤ valU s ∧ valU s ≤ 18446744073709551615 := by
  unfold valU
  split
  · rename_i v h
    have := Lib.parseUintB_le h
    constructor
    · omega
    · have h2 : (2 : Nat) ^ 64 - 1 = 18446744073709551615 := by decide
      omega
  · decide
  · decide
end Go.Proofs.YtcmdndgaggbhoaaGreatDoor.Ev
