/-
A slice between two bounds.
-/
import Derived.Test.YtihlcecincijgaaDoorGbase
namespace Go.Proofs.YtihlcecincijgaaDoor
open Go.RowKit

theorem run_mid (a : Option Addr) (len cap lo n : Nat) (x y : Int) (hx : x = lo) (hy : y = lo + n) (h : lo + n ≤ cap) (w : World) :
    (Instr.slice 91 (.slice a len cap) (some (.int .i64 x)) (some (.int .i64 y)) none).run Tryd.prog w = .ok (.slice (cutA a cap lo) n (cap - lo)) w := by
  subst hx hy
  have hs : ∀ w, (sizeOf 5).run Tryd.prog w = .ok 1 w := fun _ => by kernel_rfl
  have := Go.run_slice_lh (P := Tryd.prog) (w := w) 91 a len cap (by kernel_rfl) .i64 .i64 lo (lo + n) (by omega) (by omega) (by omega)
  rw [this, show Tryd.prog.elem 91 = 5 by kernel_rfl, hs]
  have e1 : ((lo : Int) + n).toNat = lo + n := by omega
  simp [Result.andThen, sliced, cutA, e1]
end Go.Proofs.YtihlcecincijgaaDoor
