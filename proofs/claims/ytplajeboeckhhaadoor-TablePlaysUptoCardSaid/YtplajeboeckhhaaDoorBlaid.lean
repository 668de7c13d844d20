/-
From the rows' condition on ErrTable's variable to what the walks ask.
-/
import Derived.Test.YtplajeboeckhhaaDoorGlaid
import Derived.Test.YtplajeboeckhhaaDoorBnew
namespace Go.Proofs.YtplajeboeckhhaaDoor
open Go.ChangeShapes Go.WideShapes Go.ChangeAt Go.RowKit

theorem gErrTable : Tryd.prog.globalNamed "parley/api.ErrTable" = some 0 := by kernel_rfl
theorem tErrTable : (Tryd.prog.globals[0]?).map (·.type) = some 39 := by kernel_rfl

theorem table_of_laid {W : World} (hL : laidMet Tryd.prog [("parley/api.ErrTable", Rows.laid_parley_api_ErrTable)] W) : ∃ e0, TE W e0 := by
  obtain ⟨a0, _, hv0, _⟩ := laid_sentinel hL gErrTable tErrTable Tryd.underlying39 rowErr Tryd.underlying124 Tryd.underlying141 rfl rfl Tryd.underlying9 cellsErr cellsStr
  refine ⟨a0, ?_⟩
  show W.cell? _ = _
  simpa using World.var?_cell gErrTable hv0 0
end Go.Proofs.YtplajeboeckhhaaDoor
