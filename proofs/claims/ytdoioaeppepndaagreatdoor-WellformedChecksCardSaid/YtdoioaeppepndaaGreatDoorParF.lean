/- Lists of parts in memory: what stands while a list is read. -/
import Derived.Test.YtdoioaeppepndaaGreatDoorProg
import Derived.Test.YtdoioaeppepndaaGreatDoorParMem
import Derived.Test.YtdoioaeppepndaaGreatDoorTokTwo
import Derived.Test.YtdoioaeppepndaaGreatDoorAstOne
import Derived.Deep.QuietTactic
import Derived.Deep.RegionHeld3
import Derived.Deep.RegionWith
import Derived.Deep.DeepCutAuto
import Derived.Maps.AppendAt
namespace Go.Proofs.YtdoioaeppepndaaGreatDoor
open Go.RowKit
open A8 Tk7 P9

/-- A kind of elements: ghosts γ, that say what was read and how it lies in memory. -/
structure Elt (α γ : Type) where
  val : γ → α
  vl : γ → Value
  cells : γ → List Value
  E : World → γ → Prop
  sz : Nat
  len : ∀ c, (cells c).length = sz
  one : ∀ {W : World} {c : γ}, E W c → ∀ u ∈ cells c, u.oneCell' = true
  mono : ∀ {W W' : World} {c : γ}, E W c → Le W W' → E W' c
theorem new_cells {w : World} {t : TypeId} (us : List Value) : ∀ (j : Nat) (u : Value), us[j]? = some u → (w.alloc (.cells us.toArray t)).cell? ((⟨w.heap.size, 0, none⟩ : Addr).add j) = some u := blk_cells (Blk.new w us t)
theorem infoNd : (Tryz.prog.info? 31).map (fun i => (i.zero, i.size, i.bytes)) = some (some (.agg #[.int .i64 0, .int .i64 0, .int .i64 0, .int .i64 0, .bool false, .int .u64 0, .slice none 0 0, .string ⟨#[]⟩, .slice none 0 0]), 9, 112) := by kernel_rfl
theorem infoHv : (Tryz.prog.info? 96).map (fun i => (i.zero, i.size, i.bytes)) = some (some (.agg #[.int .i64 0, .string ⟨#[]⟩, .int .i64 0, .int .i64 0]), 4, 40) := by kernel_rfl
theorem infoAg : (Tryz.prog.info? 92).map (fun i => (i.zero, i.size, i.bytes)) = some (some (.agg #[.int .i64 0, .string ⟨#[]⟩]), 2, 24) := by kernel_rfl
theorem sl_one {W : World} {sz n : Nat} {v : Value} {us : List Value} (h : Sl W sz n v us) : v.oneCell' = true := by
  obtain ⟨_, _, A, cap, rfl, _⟩ := h
  rfl
def ndK : Elt Nd Tr where
  val := Tr.nd
  vl t := .agg t.row.toArray
  cells := Tr.row
  E := TrW
  sz := 9
  len := row_len
  one {W c} h := by
    obtain ⟨k, mn, mx, ⟨a, sc⟩, sk, ks⟩ := c
    have h1 := h.one
    have h2 := sl_one h1.2.1.2
    have h3 := sl_one h1.2.2
    simp only at h2
    simp [Tr.row, Value.oneCell'] at h2 h3 ⊢
    exact ⟨h2, h3⟩
  mono h hl := trW_le h hl
theorem sl_form {W : World} {sz n : Nat} {v : Value} {us : List Value} (h : Sl W sz n v us) : ∃ A m c, v = .slice A m c := by
  obtain ⟨_, _, A, cap, rfl, _⟩ := h
  exact ⟨A, n, cap, rfl⟩
theorem tr_form {W : World} {k mn mx : Int} {a : A8.At} {sc sk : Value} {ks : List Tr} (h : ndK.E W (.mk k mn mx ⟨a, sc⟩ sk ks)) : (∃ A n c, sc = .slice A n c) ∧ ∃ A n c, sk = .slice A n c := by
  have h' : TrW W (.mk k mn mx ⟨a, sc⟩ sk ks) := h
  have h1 := h'.one
  exact ⟨sl_form h1.2.1.2, sl_form h1.2.2⟩
end Go.Proofs.YtdoioaeppepndaaGreatDoor
