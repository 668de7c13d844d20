/-
From the rows' condition on ErrHuff's variable to what the walks ask.
-/
import Derived.Test.YtoihbpclfmlokaaDoorGlaid
import Derived.Test.YtoihbpclfmlokaaDoorHfirst
namespace Go.Proofs.YtoihbpclfmlokaaDoor
open Go.ChangeShapes Go.WideShapes Go.ChangeAt Go.RowKit

theorem gErrHuff : Tryd.prog.globalNamed "parley/api.ErrHuff" = some 5 := by kernel_rfl
theorem tErrHuff : (Tryd.prog.globals[5]?).map (·.type) = some 30 := by kernel_rfl

theorem huff_of_laid {W : World} (hL : laidMet Tryd.prog [("parley/api.ErrHuff", Rows.laid_parley_api_ErrHuff)] W) : ∃ e0, HE W e0 := by
  obtain ⟨a0, _, hv0, _⟩ := laid_sentinel hL gErrHuff tErrHuff Tryd.underlying30 rowErr Tryd.underlying153 Tryd.underlying169 rfl rfl Tryd.underlying9 cellsErr cellsStr
  refine ⟨a0, ?_⟩
  show W.cell? _ = _
  simpa using World.var?_cell gErrHuff hv0 0
end Go.Proofs.YtoihbpclfmlokaaDoor
