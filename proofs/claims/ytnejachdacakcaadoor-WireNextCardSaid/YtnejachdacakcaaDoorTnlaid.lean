/-
From WireNext's condition on the thirty errors and the library's two tables to what the walk asks.
-/
import Derived.Test.YtnejachdacakcaaDoorTlaid
import Derived.Test.YtnejachdacakcaaDoorGerrl
namespace Go.Proofs.YtnejachdacakcaaDoor
open Go.ChangeShapes Go.WideShapes Go.ChangeAt Go.RowKit Go.Shelf

theorem next_of_laid {W : World} (hL : laidMet Tryd.prog (("unicode/utf8.acceptRanges", Rows.laid_unicode_utf8_acceptRanges) :: (egn.map layOf ++ [("unicode/utf8.first", Rows.laid_unicode_utf8_first)])) W) :
    ∃ E, ErrsAll W E egs ∧ Lib.Utf8Tabs 4 5 W := by
  obtain ⟨E, hE⟩ := errsAll_of_laid hL.tail
  exact ⟨E, hE, tabs_of_laid hL (by simp) (by simp)⟩
end Go.Proofs.YtnejachdacakcaaDoor
