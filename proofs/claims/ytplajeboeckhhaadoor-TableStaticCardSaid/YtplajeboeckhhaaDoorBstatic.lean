/-
The walk of parleylaw3.TableStatic: it returns true whatever is asked.
-/
import Derived.Test.YtplajeboeckhhaaDoorBref
import Derived.Test.YtplajeboeckhhaaDoorBfirst
import Derived.Deep.RegionHeld3
namespace Go.Proofs.YtplajeboeckhhaaDoor
open Go.RowKit

set_option maxRecDepth 100000 in
set_option maxHeartbeats 2000000 in
theorem tableStatic_law (i : Int) (n v : ByteArray) (b : Bool) (w : World) (hn : n.size ≤ 140737488355328) (hv : v.size ≤ 140737488355328) :
    Calls Tryd.prog 6 #[.int .i64 i, .agg #[.string n, .string v, .bool b]] w (TruePost w) := by
  have HF := Lib.hid (fun w => bfirst_any w)
  have HSt := Lib.hid (fun w => static_any i w)
  have HRs := Lib.hid (fun w => refStatic_any i w)
  have HSz : Hid (∀ w, Calls Tryd.prog 33 #[.agg #[.string n, .string v, .bool b]] w fun e w' => e = .returned (.int .i64 ((n.size : Int) + (v.size : Int) + 32)) ∧ Below w.heap.size w w') := fun w => size_any n v b w hn hv
  generalize B.get [] i = x at *
  obtain ⟨xn, xv⟩ := x
  simp only at HSt HRs
  generalize B.has [] i = hb at *
  go_enter Tryd.func6, Tryd.ntmps6
  go_wp2_with fail
  refine (HF.out _).mono ?_
  rintro e w1 ⟨rfl, hb1⟩
  obtain ⟨⟨x0, x1, x2⟩, _, hs1⟩ := cells3 hb1
  have HB1 := Lib.hid (below_over hb1)
  clear hb1
  go_wp2_with fail
  refine (HSt.out _).mono ?_
  rintro e w2 ⟨rfl, hb2⟩
  have a0 := (hb2.cell (p := ⟨w.heap.size, 0, none⟩) hs1).trans x0
  have a1 := (hb2.cell (p := ⟨w.heap.size, 1, none⟩) hs1).trans x1
  have a2 := (hb2.cell (p := ⟨w.heap.size, 2, none⟩) hs1).trans x2
  have hs2 := hb2.size
  have HB2 := Lib.hid (HB1.out.trans (hb2.mono (Nat.le_of_lt hs1)))
  clear hb2 x0 x1 x2
  go_wp2_with fail
  refine (HRs.out _).mono ?_
  rintro e w3 ⟨rfl, hb3⟩
  obtain ⟨⟨z0, z1, z2⟩, _, hs3⟩ := cells3 hb3
  have hb23 := below_over hb3
  have x0 := (hb23.cell (p := ⟨w.heap.size, 0, none⟩) (Nat.lt_of_lt_of_le hs1 hs2)).trans a0
  have x1 := (hb23.cell (p := ⟨w.heap.size, 1, none⟩) (Nat.lt_of_lt_of_le hs1 hs2)).trans a1
  have x2 := (hb23.cell (p := ⟨w.heap.size, 2, none⟩) (Nat.lt_of_lt_of_le hs1 hs2)).trans a2
  have HB3 := Lib.hid (HB2.out.trans (hb23.mono (by omega)))
  clear hb3 hb23 a0 a1 a2
  go_wp2_with fail
  refine (sameHeader_eq xn xv false _).mono ?_
  rintro e w4 ⟨rfl, hb4⟩
  obtain ⟨_, _, hs4⟩ := cells3 hb4
  have hb34 := below_over hb4
  have a0 := (hb34.cell (p := ⟨w.heap.size, 0, none⟩) (by show w.heap.size < _; omega)).trans x0
  have a1 := (hb34.cell (p := ⟨w.heap.size, 1, none⟩) (by show w.heap.size < _; omega)).trans x1
  have a2 := (hb34.cell (p := ⟨w.heap.size, 2, none⟩) (by show w.heap.size < _; omega)).trans x2
  have HB4 := Lib.hid (HB3.out.trans (hb34.mono (by omega)))
  have hw4 : w.heap.size < w4.heap.size := by omega
  clear hb4 hb34 x0 x1 x2 z0 z1 z2
  go_upto_region 5 with (fail)
  have S0 : Hid (w4.cell? ⟨w.heap.size, 0, none⟩ = some (.string n) ∧ w4.cell? ⟨w.heap.size, 1, none⟩ = some (.string v) ∧ w4.cell? ⟨w.heap.size, 2, none⟩ = some (.bool b)) := ⟨a0, a1, a2⟩
  have hbb : (hb == hb) = true := by simp
  clear a0 a1 a2 hs1 hs2 hs3 hs4 hbb
  go_region_held3 (fun w' => w'.cell? ⟨w.heap.size, 0, none⟩ = some (.string n) ∧ w'.cell? ⟨w.heap.size, 1, none⟩ = some (.string v) ∧ w'.cell? ⟨w.heap.size, 2, none⟩ = some (.bool b)) (first | exact S0.out | exact HS5.out) (first | (go_at_call 33; refine (HSz.out _).mono ?_; rintro e w5 ⟨rfl, hb5⟩; have HS5 : Hid (w5.cell? ⟨w.heap.size, 0, none⟩ = some (.string n) ∧ w5.cell? ⟨w.heap.size, 1, none⟩ = some (.string v) ∧ w5.cell? ⟨w.heap.size, 2, none⟩ = some (.bool b)) := ⟨(hb5.cell (p := ⟨w.heap.size, 0, none⟩) hw4).trans S0.out.1, (hb5.cell (p := ⟨w.heap.size, 1, none⟩) hw4).trans S0.out.2.1, (hb5.cell (p := ⟨w.heap.size, 2, none⟩) hw4).trans S0.out.2.2⟩; have HB5 := Lib.hid hb5; clear hb5))
  go_wp2
  go_ret
  have ev : IntKind.i64.wrap (IntKind.i64.wrap ((n.size : Int) + (v.size : Int)) + 32) = (n.size : Int) + (v.size : Int) + 32 := by
    rw [IntKind.wrap_i64, IntKind.wrap_i64]; omega
  refine ⟨by rw [ev]; simp, ?_⟩
  exact (Below.drew HB4.out).trans (HB5.out.mono (Nat.le_of_lt hw4))
end Go.Proofs.YtplajeboeckhhaaDoor
