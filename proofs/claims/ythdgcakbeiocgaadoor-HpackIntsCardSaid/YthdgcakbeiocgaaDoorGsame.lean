/-
The walk of parleyref.SameBytes.
-/
import Derived.Test.YthdgcakbeiocgaaDoorGapp
namespace Go.Proofs.YthdgcakbeiocgaaDoor
open Go.RowKit

set_option maxRecDepth 100000 in
theorem same_any {B1 B2 : Nat} (a b : Option Addr) (n m ca cb : Nat) (l k : List Nat) (w : World) (hl : l.length = n) (hk : k.length = m) (ha : Rd B1 w a l) (hb : Rd B2 w b k) :
    Calls Tryd.prog 11 #[.slice a n ca, .slice b m cb] w fun e w' => e = .returned (.bool (decide (l = k))) ∧ w = w' := by
  subst hl hk
  have h1 := run_str a ca l w ha
  have h2 := run_str b cb k w hb
  have hd : ((strOf l).toList == (strOf k).toList) = decide (l = k) := by
    rw [Bool.eq_iff_iff, beq_iff_eq, decide_eq_true_eq, ByteArray.toList_eq, ByteArray.toList_eq]
    exact ⟨fun h => strOf_inj ha.1 hb.1 h, fun h => by rw [h]⟩
  have HD := Lib.hid hd
  clear hd ha hb
  generalize strOf l = x at h1 HD
  generalize strOf k = y at h2 HD
  go_enter Tryd.func11, Tryd.ntmps11
  go_wp2
  go_ret
  exact ⟨by rw [HD.out]; rfl, rfl⟩
end Go.Proofs.YthdgcakbeiocgaaDoor
