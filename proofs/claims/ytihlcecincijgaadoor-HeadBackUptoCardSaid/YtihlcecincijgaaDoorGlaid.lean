/-
What every row that lists sentinels of package api asks of the translation's tables.
-/
import Derived.Test.YtihlcecincijgaaDoorTie
import Derived.Test.YtihlcecincijgaaDoorGbase
import Derived.ProofKit
import Derived.Lay
import Derived.SevenTiedAt
import Derived.Stop.LaidErr
namespace Go.Proofs.YtihlcecincijgaaDoor
open Go.ChangeShapes Go.WideShapes Go.ChangeAt Go.RowKit

theorem own : ownKnob Tryd.prog.godebug = none := by kernel_rfl
theorem rowErr (u : TypeId) (h : Tryd.prog.typeName? 3 u = some "*errors.errorString") : u = 146 :=
  typeName_ptr_named (nm := "errors.errorString") (by show _ = _; kernel_rfl) (by kernel_rfl) (by decide) u h

theorem cellsErr : Tryd.prog.cellsOf 163 = 1 := by kernel_rfl
theorem cellsStr : Tryd.prog.cellsOf 9 = 1 := by kernel_rfl
end Go.Proofs.YtihlcecincijgaaDoor
