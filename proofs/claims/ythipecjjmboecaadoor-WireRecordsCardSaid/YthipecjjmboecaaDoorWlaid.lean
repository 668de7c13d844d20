/-
From the rows' condition on the listed variables to what the walks ask: what the six sentinels' variables hold.
-/
import Derived.Test.YthipecjjmboecaaDoorGlaid
import Derived.Test.YthipecjjmboecaaDoorWbase
namespace Go.Proofs.YthipecjjmboecaaDoor
open Go.ChangeShapes Go.WideShapes Go.ChangeAt Go.RowKit

theorem gErrEnd : Tryd.prog.globalNamed "parley/api.ErrEnd" = some 2 := by kernel_rfl
theorem tErrEnd : (Tryd.prog.globals[2]?).map (·.type) = some 39 := by kernel_rfl
theorem gErrLong : Tryd.prog.globalNamed "parley/api.ErrLong" = some 1 := by kernel_rfl
theorem tErrLong : (Tryd.prog.globals[1]?).map (·.type) = some 39 := by kernel_rfl
theorem gErrTag : Tryd.prog.globalNamed "parley/api.ErrTag" = some 3 := by kernel_rfl
theorem tErrTag : (Tryd.prog.globals[3]?).map (·.type) = some 39 := by kernel_rfl
theorem gErrGroup : Tryd.prog.globalNamed "parley/api.ErrGroup" = some 5 := by kernel_rfl
theorem tErrGroup : (Tryd.prog.globals[5]?).map (·.type) = some 39 := by kernel_rfl
theorem gErrDeep : Tryd.prog.globalNamed "parley/api.ErrDeep" = some 4 := by kernel_rfl
theorem tErrDeep : (Tryd.prog.globals[4]?).map (·.type) = some 39 := by kernel_rfl
theorem gErrNumber : Tryd.prog.globalNamed "parley/api.ErrNumber" = some 6 := by kernel_rfl
theorem tErrNumber : (Tryd.prog.globals[6]?).map (·.type) = some 39 := by kernel_rfl

/-- the six that the reading side lists -/
def laid6 : List (String × DataW Unit) := [("parley/api.ErrEnd", Rows.laid_parley_api_ErrEnd), ("parley/api.ErrLong", Rows.laid_parley_api_ErrLong), ("parley/api.ErrTag", Rows.laid_parley_api_ErrTag), ("parley/api.ErrGroup", Rows.laid_parley_api_ErrGroup), ("parley/api.ErrDeep", Rows.laid_parley_api_ErrDeep), ("parley/api.ErrNumber", Rows.laid_parley_api_ErrNumber)]

theorem errs_of_laid_app {W : World} {r : List (String × DataW Unit)} (hL : laidMet Tryd.prog (laid6 ++ r) W) : ∃ E, Errs W E := by
  obtain ⟨a0, _, hv0, _⟩ := laid_sentinel hL gErrEnd tErrEnd Tryd.underlying39 rowErr Tryd.underlying124 Tryd.underlying141 rfl rfl Tryd.underlying9 cellsErr cellsStr
  obtain ⟨a1, _, hv1, _⟩ := laid_sentinel hL.tail gErrLong tErrLong Tryd.underlying39 rowErr Tryd.underlying124 Tryd.underlying141 rfl rfl Tryd.underlying9 cellsErr cellsStr
  obtain ⟨a2, _, hv2, _⟩ := laid_sentinel hL.tail.tail gErrTag tErrTag Tryd.underlying39 rowErr Tryd.underlying124 Tryd.underlying141 rfl rfl Tryd.underlying9 cellsErr cellsStr
  obtain ⟨a3, _, hv3, _⟩ := laid_sentinel hL.tail.tail.tail gErrGroup tErrGroup Tryd.underlying39 rowErr Tryd.underlying124 Tryd.underlying141 rfl rfl Tryd.underlying9 cellsErr cellsStr
  obtain ⟨a4, _, hv4, _⟩ := laid_sentinel hL.tail.tail.tail.tail gErrDeep tErrDeep Tryd.underlying39 rowErr Tryd.underlying124 Tryd.underlying141 rfl rfl Tryd.underlying9 cellsErr cellsStr
  obtain ⟨a5, _, hv5, _⟩ := laid_sentinel hL.tail.tail.tail.tail.tail gErrNumber tErrNumber Tryd.underlying39 rowErr Tryd.underlying124 Tryd.underlying141 rfl rfl Tryd.underlying9 cellsErr cellsStr
  refine ⟨fun k => if k = 2 then a0 else if k = 1 then a1 else if k = 3 then a2 else if k = 5 then a3 else if k = 4 then a4 else a5, ?_, ?_, ?_, ?_, ?_, ?_⟩
  · simpa using World.var?_cell gErrLong hv1 0
  · simpa using World.var?_cell gErrEnd hv0 0
  · simpa using World.var?_cell gErrNumber hv5 0
  · simpa using World.var?_cell gErrTag hv2 0
  · simpa using World.var?_cell gErrGroup hv3 0
  · simpa using World.var?_cell gErrDeep hv4 0

theorem errs_of_laid {W : World} (hL : laidMet Tryd.prog laid6 W) : ∃ E, Errs W E := errs_of_laid_app (r := []) hL
end Go.Proofs.YthipecjjmboecaaDoor
