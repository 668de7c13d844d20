/-
From the rows' condition on ErrHead's variable to what the walks ask.
-/
import Derived.Test.YtihlcecincijgaaDoorGlaid
import Derived.Test.YtihlcecincijgaaDoorDtrail
namespace Go.Proofs.YtihlcecincijgaaDoor
open Go.ChangeShapes Go.WideShapes Go.ChangeAt Go.RowKit

theorem gErrHead : Tryd.prog.globalNamed "parley/api.ErrHead" = some 0 := by kernel_rfl
theorem tErrHead : (Tryd.prog.globals[0]?).map (·.type) = some 29 := by kernel_rfl

theorem head_of_laid {l : List (String × DataW Unit)} {W : World} (hL : laidMet Tryd.prog (("parley/api.ErrHead", Rows.laid_parley_api_ErrHead) :: l) W) : ∃ p, EH W p := by
  obtain ⟨a0, _, hv0, _⟩ := laid_sentinel hL gErrHead tErrHead Tryd.underlying29 rowErr Tryd.underlying146 Tryd.underlying163 rfl rfl Tryd.underlying9 cellsErr cellsStr
  refine ⟨a0, ?_⟩
  show W.cell? _ = _
  simpa using World.var?_cell gErrHead hv0 0
theorem head_of_laid3 {W : World} (hL : laidMet Tryd.prog [("unicode/utf8.acceptRanges", Rows.laid_unicode_utf8_acceptRanges), ("parley/api.ErrHead", Rows.laid_parley_api_ErrHead), ("unicode/utf8.first", Rows.laid_unicode_utf8_first)] W) : ∃ p, EH W p := head_of_laid hL.tail
end Go.Proofs.YtihlcecincijgaaDoor
