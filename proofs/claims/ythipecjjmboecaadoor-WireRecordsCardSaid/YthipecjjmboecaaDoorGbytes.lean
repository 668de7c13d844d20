/-
The walk of parleyref.Bytes.
-/
import Derived.Test.YthipecjjmboecaaDoorGapp
namespace Go.Proofs.YthipecjjmboecaaDoor
open Go.RowKit

theorem bytes_any {B2 : Nat} (a : Option Addr) (len cap : Nat) (l : List Nat) (w : World) (hl : l.length = len) (hr : Rd B2 w a l) (hsz : len ≤ 140737488355328) :
    Calls Tryd.prog 14 #[.slice a len cap] w (OwnPost w.heap.size l w) := by
  have Hr := Lib.hid hr
  have Hl := Lib.hid hl
  clear hr hl
  obtain ⟨i0, hi, hz0, hz1, hz2⟩ := info_parts info5
  have hb2 : i0.bytes * len ≤ 281474976710656 := by rw [hz2]; omega
  have HB2 := Lib.hid hb2
  clear hb2
  go_enter Tryd.func14, Tryd.ntmps14
  go_wp2_with (first | (at_make; refine wpList_make_own _ rfl _ _ 22 rfl w.heap.size 5 i0 (.int .u8 0) 1 Tryd.underlying22 hi hz0 hz1 .i64 .i64 _ len rfl rfl rfl HB2.out ?_ (Nat.le_refl _) ?_; unfold maxLen; omega; intro w1 hown hgrow; have HR1 := Lib.hid (Hr.out.below (Below.grown (Below.refl w.heap.size w) hgrow (Nat.le_refl _) (fun k e => by cases e))); have hs1 := hgrow.size) | (at_builtin; refine wpList_app _ rfl _ _ 22 rfl w.heap.size B2 5 i0 (.int .u8 0) Tryd.underlying22 hi hz0 hz1 hz2 rfl _ 0 [] rfl hown (by intro e; cases e) a len cap l rfl Hl.out HR1.out ?_ hs1 ?_; omega; intro g cp w2 hown2 hgrow2))
  go_ret
  have hl := Hl.out
  subst hl
  rw [Nat.zero_add, List.nil_append] at hown2
  refine ⟨_, rfl, ⟨hown2, g, cp, rfl⟩, ?_⟩
  exact (Below.grown (Below.refl w.heap.size w) hgrow (Nat.le_refl _) (fun k e => by cases e)).grown hgrow2 hs1 (fun k e => by cases e; exact Nat.le_refl _)
end Go.Proofs.YthipecjjmboecaaDoor
