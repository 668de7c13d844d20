/-
From the rows' condition on the library's two tables of text to what the walks ask.
-/
import Derived.Test.YtnejachdacakcaaDoorWlaid
import Derived.Lib.LaidU8T
namespace Go.Proofs.YtnejachdacakcaaDoor
open Go.ChangeShapes Go.WideShapes Go.ChangeAt Go.RowKit Go.Shelf

/-- Where the library's types and variables stand in this program. -/
def renU : Ren := ⟨fun x => x, fun x => if x = 5 then 5 else if x = 119 then 105 else if x = 138 then 107 else 108, fun x => if x = 3 then 4 else 5⟩

theorem renU_types : U8Types Tryd.prog renU := ⟨by kernel_rfl, by kernel_rfl, by kernel_rfl, by kernel_rfl⟩
theorem renU_extra : U8Extra Tryd.prog renU := ⟨by kernel_rfl, by kernel_rfl, by kernel_rfl, by kernel_rfl, by kernel_rfl, by kernel_rfl, by kernel_rfl⟩

theorem first_data : Rows.laid_unicode_utf8_first = Lib.firstData := by kernel_rfl
theorem accept_data : (Rows.laid_unicode_utf8_acceptRanges : DataW Unit) = Lib.acceptData := by kernel_rfl

theorem tabs_of_laid {l : List (String × DataW Unit)} {W : World} (hL : laidMet Tryd.prog l W) (h1 : ("unicode/utf8.first", Rows.laid_unicode_utf8_first) ∈ l) (h2 : ("unicode/utf8.acceptRanges", (Rows.laid_unicode_utf8_acceptRanges : DataW Unit)) ∈ l) :
    Lib.Utf8Tabs 4 5 W := by
  have r1 := Lib.laidMet.reads hL h1
  have r2 := Lib.laidMet.reads hL h2
  rw [first_data] at r1
  rw [accept_data] at r2
  exact utf8Tabs_of_readsT renU_types renU_extra r1 r2

theorem texts_of_laid {W : World} (hL : laidMet Tryd.prog (("unicode/utf8.acceptRanges", Rows.laid_unicode_utf8_acceptRanges) :: (laid6 ++ [("unicode/utf8.first", Rows.laid_unicode_utf8_first)])) W) :
    ∃ E, Errs W E ∧ Lib.Utf8Tabs 4 5 W := by
  obtain ⟨E, hE⟩ := errs_of_laid_app hL.tail
  exact ⟨E, hE, tabs_of_laid hL (by simp) (by simp)⟩
end Go.Proofs.YtnejachdacakcaaDoor
