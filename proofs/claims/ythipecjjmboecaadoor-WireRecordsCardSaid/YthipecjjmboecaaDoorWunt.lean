/-
The reference's Untag, as the program's.
-/
import Derived.Test.YthipecjjmboecaaDoorWrefb
import Derived.Test.YthipecjjmboecaaDoorWrefd
namespace Go.Proofs.YthipecjjmboecaaDoor
open Go.RowKit

/-- Untag of the reference, as the program's. -/
theorem refUntag_all (u : Nat) (w : World) (hu : u < 18446744073709551616) :
    Calls Tryd.prog 71 #[.int .u64 u] w fun e w' => e = .returned (.tuple #[.int .i64 ((W.untag u).1 : Nat), .int .i64 ((W.untag u).2.1 : Nat), .int .i64 (cd (W.untag u).2.2)]) ∧ w = w' := by
  refine (refUntag_any u w hu).mono ?_
  rintro e w' ⟨rfl, rfl⟩
  refine ⟨?_, rfl⟩
  unfold W.untag
  split <;> rfl
end Go.Proofs.YthipecjjmboecaaDoor
