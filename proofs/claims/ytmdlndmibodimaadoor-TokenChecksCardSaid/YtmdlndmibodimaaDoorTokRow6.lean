/- What the rows of the package of tokens give that name the library's tables too: the signs and an error. -/
import Derived.Test.YtmdlndmibodimaaDoorTokRow
import Derived.Test.YtmdlndmibodimaaDoorTokNm
namespace Go.Proofs.YtmdlndmibodimaaDoor
open Go.ChangeShapes Go.WideShapes Go.ChangeAt Go.RowKit Go.Shelf

theorem gErrR : Tryd.prog.globalNamed "strconv.ErrRange" = some 2 := by kernel_rfl
theorem gErrRType : (Tryd.prog.globals[2]?).map (·.type) = some 59 := by kernel_rfl
theorem cellsES : Tryd.prog.cellsOf 107 = 1 := by kernel_rfl
theorem star : "*" ++ "errors.errorString" = "*errors.errorString" := by decide
theorem rowES (u : TypeId) (h : Tryd.prog.typeName? 3 u = some "*errors.errorString") : u = 105 :=
  typeName_ptr_named (nm := "errors.errorString") (by rw [star]; kernel_rfl) (by kernel_rfl) (by decide) u (by rw [star]; exact h)
namespace Tk6
/-- The list of the rows that name the library's tables too. -/
def seatLaid : List (String × DataW Unit) := [("math/bits.deBruijn32tab", Rows.laid_math_bits_deBruijn32tab), ("math/bits.deBruijn64tab", Rows.laid_math_bits_deBruijn64tab), ("internal/strconv.uint64pow10", Rows.laid_internal_strconv_uint64pow10), ("strconv.ErrRange", Rows.laid_strconv_ErrRange), ("strconv.ErrSyntax", Rows.laid_strconv_ErrSyntax), ("partywall/token.signs", Rows.laid_partywall_token_signs)]
theorem tabs_of_laid {W : World} (h : laidMetH Tryd.prog seatLaid W) : SG W ∧ ER W := by
  have h0 : laidMet Tryd.prog seatLaid W := h
  have h1 := laidMet.tail h0
  have h2 := laidMet.tail h1
  have h3 := laidMet.tail h2
  have h4 := laidMet.tail h3
  have h5 := laidMet.tail h4
  obtain ⟨a0, s0, hr, -, -, -⟩ := laid_sentinel h3 gErrR gErrRType Tryd.underlying59 rowES Tryd.underlying105 Tryd.underlying107 rfl rfl Tryd.underlying9 cellsES cellsStr
  have hc := World.var?_cell gErrR hr 0
  have hc2 : W.cell? ⟨2, 0, none⟩ = some (.iface 105 (.pointer (some a0))) := by simpa using hc
  exact ⟨sg_of_head (rest := []) h5, World.block_lt_of_cell? W _ hc2, _, hc2, .inr ⟨_, _, rfl⟩⟩
end Tk6
end Go.Proofs.YtmdlndmibodimaaDoor
