/-
The walk of parleylaw1.is.
-/
import Derived.Test.YthipecjjmboecaaDoorWrefnx
import Derived.Test.YthipecjjmboecaaDoorGsame
namespace Go.Proofs.YthipecjjmboecaaDoor
open Go.RowKit

set_option maxRecDepth 100000 in
theorem is_same {B1 B2 : Nat} (f k u : Int) (a b : Option Addr) (n m ca cb : Nat) (l : List Nat) (w : World) (hl : l.length = n) (hk : l.length = m) (ha : Rd B1 w a l) (hb : Rd B2 w b l) :
    Calls Tryd.prog 13 #[.agg #[.int .i64 f, .int .i64 k, .int .u64 u, .slice a n ca], .agg #[.int .i64 f, .int .i64 k, .int .u64 u, .slice b m cb]] w fun e w' => e = .returned (.bool true) ∧ Below w.heap.size w w' := by
  have HB : Hid (Below w.heap.size w ((w.alloc (.cells #[.int .i64 f, .int .i64 k, .int .u64 u, .slice a n ca] 29)).alloc (.cells #[.int .i64 f, .int .i64 k, .int .u64 u, .slice b m cb] 30))) := ((Below.refl _ _).alloc (Nat.le_refl _) _).alloc (by simp) _
  have hs := same_any a b n m ca cb l l _ hl hk (ha.below HB.out) (hb.below HB.out)
  rw [decide_eq_true rfl] at hs
  have HS := Lib.hid hs
  clear hs ha hb hl hk
  go_enter Tryd.func13, Tryd.ntmps13
  go_wp2_with fail
  refine HS.out.mono ?_
  rintro e w1 ⟨rfl, rfl⟩
  go_wp2
  go_ret
  exact ⟨rfl, HB.out⟩
end Go.Proofs.YthipecjjmboecaaDoor
