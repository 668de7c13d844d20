/-
The cells of a new book (the loader of a great program names them).
-/
import Derived.Test.YthdgcakbeiocgaaDoorProg
namespace Go.Proofs.YthdgcakbeiocgaaDoor
/-- A new book's cells. -/
noncomputable abbrev zeroBook : Array Value := Tryd.zeroCells118
end Go.Proofs.YthdgcakbeiocgaaDoor
