/-
The walks of the reference's table that stands: names, values, Static; SameHeader.
-/
import Derived.Test.YtplajeboeckhhaaDoorBsta
import Derived.Deep.RegionWith
import Derived.BigRegion
import Derived.RegionTactic
namespace Go.Proofs.YtplajeboeckhhaaDoor
open Go.RowKit

/-- The names and the values, from 1 on. -/
def nmF (j : Nat) : ByteArray := if j = 0 then ⟨#[]⟩ else (B.stL.getD (j - 1) (⟨#[]⟩, ⟨#[]⟩)).1
def vlF (j : Nat) : ByteArray := if j = 0 then ⟨#[]⟩ else (B.stL.getD (j - 1) (⟨#[]⟩, ⟨#[]⟩)).2
def nmC : List Value := (List.range 62).map fun j => .string (nmF j)
def vlC : List Value := (List.range 62).map fun j => .string (vlF j)
def nmP : Array (Nat × Value) := ((List.range 62).map fun j => (j, Value.string (nmF j))).toArray
def vlP : Array (Nat × Value) := ((List.range 62).map fun j => (j, Value.string (vlF j))).toArray
theorem run_names (w : World) : (Instr.buildSlice 98 62 nmP).run Tryd.prog w = .ok (.slice (some ⟨w.heap.size, 0, none⟩) 62 62) (w.alloc (.cells nmC.toArray 9)) := by kernel_rfl
theorem run_values (w : World) : (Instr.buildSlice 98 62 vlP).run Tryd.prog w = .ok (.slice (some ⟨w.heap.size, 0, none⟩) 62 62) (w.alloc (.cells vlC.toArray 9)) := by kernel_rfl

/-- A new slice of 62 strings. -/
def NmOut (f : Nat → ByteArray) (w : World) (e : Ending) (w' : World) : Prop := ∃ g, e = .returned (.slice (some ⟨g, 0, none⟩) 62 62) ∧ w.heap.size ≤ g ∧ Blk w' g 62 (fun j => .string (f j)) ∧ Below w.heap.size w w'

theorem blk62 {f : Nat → ByteArray} {w : World} {g j : Nat} {n : ByteArray} (hb : Blk w g 62 (fun j => .string (f j))) (hj : j < 62) (h : f j = n) : w.cell? ⟨g, j, none⟩ = some (.string n) := by
  rw [← h]
  exact (hb _ hj).1

set_option maxRecDepth 100000 in
theorem names_any (w : World) : Calls Tryd.prog 58 #[] w (NmOut nmF w) := by
  have hb := Blk.new w nmC.toArray 9 (fun j => .string (nmF j)) (fun j hj => by
    rw [List.getElem?_toArray, nmC, List.getElem?_map, List.getElem?_range (by simpa [nmC] using hj)]; rfl)
  rw [show nmC.toArray.size = 62 by simp [nmC]] at hb
  have HBk := Lib.hid hb
  have HB : Hid (Below w.heap.size w (w.alloc (.cells nmC.toArray 9))) := (Below.refl _ _).alloc (Nat.le_refl _) _
  clear hb
  go_enter Tryd.func58, Tryd.ntmps58
  go_upto_region 1 with (fail)
  go_step
  refine wpList_buildSlice_big rfl 98 62 _ rfl nmP (by kernel_rfl) _ _ (run_names w) ?_
  generalize w.alloc (.cells nmC.toArray 9) = w1 at *
  generalize hg : w.heap.size = g at *
  have Hg := Lib.hid hg
  clear hg
  go_wp2
  go_ret
  exact ⟨g, rfl, by rw [Hg.out]; exact Nat.le_refl _, HBk.out, by rw [Hg.out]; exact HB.out⟩

set_option maxRecDepth 100000 in
theorem values_any (w : World) : Calls Tryd.prog 59 #[] w (NmOut vlF w) := by
  have hb := Blk.new w vlC.toArray 9 (fun j => .string (vlF j)) (fun j hj => by
    rw [List.getElem?_toArray, vlC, List.getElem?_map, List.getElem?_range (by simpa [vlC] using hj)]; rfl)
  rw [show vlC.toArray.size = 62 by simp [vlC]] at hb
  have HBk := Lib.hid hb
  have HB : Hid (Below w.heap.size w (w.alloc (.cells vlC.toArray 9))) := (Below.refl _ _).alloc (Nat.le_refl _) _
  clear hb
  go_enter Tryd.func59, Tryd.ntmps59
  go_upto_region 1 with (fail)
  go_step
  refine wpList_buildSlice_big rfl 98 62 _ rfl vlP (by kernel_rfl) _ _ (run_values w) ?_
  generalize w.alloc (.cells vlC.toArray 9) = w1 at *
  generalize hg : w.heap.size = g at *
  have Hg := Lib.hid hg
  clear hg
  go_wp2
  go_ret
  exact ⟨g, rfl, by rw [Hg.out]; exact Nat.le_refl _, HBk.out, by rw [Hg.out]; exact HB.out⟩

theorem sameHeader_eq (n v : ByteArray) (b : Bool) (w : World) :
    Calls Tryd.prog 32 #[.agg #[.string n, .string v, .bool b], .agg #[.string n, .string v, .bool b]] w fun e w' => e = .returned (.bool true) ∧ Below w.heap.size w w' := by
  have HB : Hid (Below w.heap.size w ((w.alloc (.cells #[.string n, .string v, .bool b] 51)).alloc (.cells #[.string n, .string v, .bool b] 51))) := ((Below.refl _ _).alloc (Nat.le_refl _) _).alloc (by simp) _
  go_enter Tryd.func32, Tryd.ntmps32
  go_wp2
  go_ret
  exact ⟨by simp, HB.out⟩

set_option maxRecDepth 100000 in
theorem refStatic_no (i : Int) (w : World) (hi : ¬ (1 ≤ i ∧ i < 62)) : Calls Tryd.prog 31 #[.int .i64 i] w fun e w' => e = .returned (.tuple #[.agg #[.string ⟨#[]⟩, .string ⟨#[]⟩, .bool false], .bool false]) ∧ Below w.heap.size w w' := by
  have hb0 : Below w.heap.size w (w.alloc (.cells #[.string ⟨#[]⟩, .string ⟨#[]⟩, .bool false] 51)) := (Below.refl _ _).alloc (Nat.le_refl _) _
  have HB0 := Lib.hid hb0
  clear hb0
  by_cases h : i < 1
  · have hd : decide (i < 1) = true := by simp; omega
    go_enter Tryd.func31, Tryd.ntmps31
    go_wp2
    refine bodyPost_ret (v := .tuple #[.agg #[.string ⟨#[]⟩, .string ⟨#[]⟩, .bool false], .bool false]) (by simp [results, Tryd.results31, go_sem]) rfl ⟨rfl, ?_⟩
    repeat (first | with_reducible exact HB0.out | with_reducible refine Below.drew ?_ | with_reducible refine below_q ?_ _ | with_reducible refine Below.setCell ?_ (by first | omega | (simp; done) | (simp; omega)) _ | with_reducible refine Below.alloc ?_ (by first | omega | (simp; done) | (simp; omega)) _)
  · have hd : decide (i < 1) = false := by simp; omega
    have h62 : 62 ≤ i := by omega
    go_enter Tryd.func31, Tryd.ntmps31
    go_wp2
    refine bodyPost_ret (v := .tuple #[.agg #[.string ⟨#[]⟩, .string ⟨#[]⟩, .bool false], .bool false]) (by simp [results, Tryd.results31, go_sem]) rfl ⟨rfl, ?_⟩
    repeat (first | with_reducible exact HB0.out | with_reducible refine Below.drew ?_ | with_reducible refine below_q ?_ _ | with_reducible refine Below.setCell ?_ (by first | omega | (simp; done) | (simp; omega)) _ | with_reducible refine Below.alloc ?_ (by first | omega | (simp; done) | (simp; omega)) _)

set_option maxRecDepth 100000 in
set_option maxHeartbeats 2000000 in
theorem refStatic_yes (i : Nat) (w : World) (hi1 : 1 ≤ i) (hi2 : i < 62) : Calls Tryd.prog 31 #[.int .i64 (i : Nat)] w fun e w' => e = .returned (.tuple #[.agg #[.string (B.stL.getD (i - 1) (⟨#[]⟩, ⟨#[]⟩)).1, .string (B.stL.getD (i - 1) (⟨#[]⟩, ⟨#[]⟩)).2, .bool false], .bool true]) ∧ Below w.heap.size w w' := by
  have hN : nmF i = (B.stL.getD (i - 1) (⟨#[]⟩, ⟨#[]⟩)).1 := by unfold nmF; rw [if_neg (by omega)]
  have hV : vlF i = (B.stL.getD (i - 1) (⟨#[]⟩, ⟨#[]⟩)).2 := by unfold vlF; rw [if_neg (by omega)]
  have q0 : (0 : Int) ≤ (i : Int) := by omega
  have q1 : (i : Int) < 62 := by omega
  have HNm := Lib.hid (fun w => names_any w)
  have HVl := Lib.hid (fun w => values_any w)
  generalize B.stL.getD (i - 1) (⟨#[]⟩, ⟨#[]⟩) = h at *
  obtain ⟨n, v⟩ := h
  simp only at hN hV
  have HN := Lib.hid hN
  have HV := Lib.hid hV
  clear hN hV
  have hd : decide ((i : Int) < 1) = false := by simp; omega
  go_enter Tryd.func31, Tryd.ntmps31
  go_upto_region 3 with (fail)
  obtain ⟨w0, hw0⟩ : ∃ w0, w.alloc (.cells #[.string ⟨#[]⟩, .string ⟨#[]⟩, .bool false] 51) = w0 := ⟨_, rfl⟩
  have HB0 : Hid (Below w.heap.size w w0) := by rw [← hw0]; exact (Below.refl _ _).alloc (Nat.le_refl _) _
  have z0 : w0.cell? ⟨w.heap.size, 0, none⟩ = some (.string ⟨#[]⟩) := by rw [← hw0]; simp
  have z1 : w0.cell? ⟨w.heap.size, 1, none⟩ = some (.string ⟨#[]⟩) := by rw [← hw0]; simp
  have z2 : w0.cell? ⟨w.heap.size, 2, none⟩ = some (.bool false) := by rw [← hw0]; simp
  have y0 : w0.frozen? ⟨w.heap.size, 0, none⟩ = false := by rw [← hw0]; simp
  have y1 : w0.frozen? ⟨w.heap.size, 1, none⟩ = false := by rw [← hw0]; simp
  have y2 : w0.frozen? ⟨w.heap.size, 2, none⟩ = false := by rw [← hw0]; simp
  have hs0 : w.heap.size < w0.heap.size := by rw [← hw0]; simp
  rw [hw0]
  clear hw0
  go_region_with (first
    | (go_at_call 58; refine (HNm.out _).mono ?_; rintro e wN ⟨gN, rfl, hgN, hbN, hBN⟩; have cN := blk62 hbN hi2 HN.out; (first | (have e0 := (hBN.cell (p := ⟨w.heap.size, 0, none⟩) hsV).trans zV0; have e1 := (hBN.cell (p := ⟨w.heap.size, 1, none⟩) hsV).trans zV1; have e2 := (hBN.cell (p := ⟨w.heap.size, 2, none⟩) hsV).trans zV2; have k0 := (hBN.frozen (p := ⟨w.heap.size, 0, none⟩) hsV).trans yV0; have k1 := (hBN.frozen (p := ⟨w.heap.size, 1, none⟩) hsV).trans yV1; have k2 := (hBN.frozen (p := ⟨w.heap.size, 2, none⟩) hsV).trans yV2; have cV2 := (hBN.cell (p := ⟨gV, i, none⟩) hgV2).trans cV; have HBE := Lib.hid (HBV.out.trans (hBN.mono (Nat.le_of_lt hsV)))) | (have zN0 := (hBN.cell (p := ⟨w.heap.size, 0, none⟩) hs0).trans z0; have zN1 := (hBN.cell (p := ⟨w.heap.size, 1, none⟩) hs0).trans z1; have zN2 := (hBN.cell (p := ⟨w.heap.size, 2, none⟩) hs0).trans z2; have yN0 := (hBN.frozen (p := ⟨w.heap.size, 0, none⟩) hs0).trans y0; have yN1 := (hBN.frozen (p := ⟨w.heap.size, 1, none⟩) hs0).trans y1; have yN2 := (hBN.frozen (p := ⟨w.heap.size, 2, none⟩) hs0).trans y2; have hsN : w.heap.size < wN.heap.size := Nat.lt_of_lt_of_le hs0 hBN.size; have hgN2 : gN < wN.heap.size := World.block_lt_of_cell? _ _ cN; have HBN := Lib.hid ((Below.drew HB0.out).trans (hBN.mono (Nat.le_of_lt hs0))))); clear hbN hBN)
    | (go_at_call 59; refine (HVl.out _).mono ?_; rintro e wV ⟨gV, rfl, hgV, hbV, hBV⟩; have cV := blk62 hbV hi2 HV.out; (first | (have e0 := (hBV.cell (p := ⟨w.heap.size, 0, none⟩) hsN).trans zN0; have e1 := (hBV.cell (p := ⟨w.heap.size, 1, none⟩) hsN).trans zN1; have e2 := (hBV.cell (p := ⟨w.heap.size, 2, none⟩) hsN).trans zN2; have k0 := (hBV.frozen (p := ⟨w.heap.size, 0, none⟩) hsN).trans yN0; have k1 := (hBV.frozen (p := ⟨w.heap.size, 1, none⟩) hsN).trans yN1; have k2 := (hBV.frozen (p := ⟨w.heap.size, 2, none⟩) hsN).trans yN2; have cN2 := (hBV.cell (p := ⟨gN, i, none⟩) hgN2).trans cN; have HBE := Lib.hid (HBN.out.trans (hBV.mono (Nat.le_of_lt hsN)))) | (have zV0 := (hBV.cell (p := ⟨w.heap.size, 0, none⟩) hs0).trans z0; have zV1 := (hBV.cell (p := ⟨w.heap.size, 1, none⟩) hs0).trans z1; have zV2 := (hBV.cell (p := ⟨w.heap.size, 2, none⟩) hs0).trans z2; have yV0 := (hBV.frozen (p := ⟨w.heap.size, 0, none⟩) hs0).trans y0; have yV1 := (hBV.frozen (p := ⟨w.heap.size, 1, none⟩) hs0).trans y1; have yV2 := (hBV.frozen (p := ⟨w.heap.size, 2, none⟩) hs0).trans y2; have hsV : w.heap.size < wV.heap.size := Nat.lt_of_lt_of_le hs0 hBV.size; have hgV2 : gV < wV.heap.size := World.block_lt_of_cell? _ _ cV; have HBV := Lib.hid ((Below.drew HB0.out).trans (hBV.mono (Nat.le_of_lt hs0))))); clear hbV hBV))
  all_goals
    go_wp2
    go_simp
    refine bodyPost_ret (v := .tuple #[.agg #[.string n, .string v, .bool false], .bool true]) (by simp [results, Tryd.results31, go_sem, e0, e1, e2]) rfl ⟨rfl, ?_⟩
    have hov := HBE.out
    repeat (first | with_reducible exact hov | with_reducible refine Below.drew ?_ | with_reducible refine below_q ?_ _ | with_reducible refine Below.setCell ?_ (by first | omega | (simp; done) | (simp; omega)) _ | with_reducible refine Below.alloc ?_ (by first | omega | (simp; done) | (simp; omega)) _)

theorem refStatic_any (i : Int) (w : World) : Calls Tryd.prog 31 #[.int .i64 i] w fun e w' => e = .returned (.tuple #[.agg #[.string (B.get [] i).1, .string (B.get [] i).2, .bool false], .bool (B.has [] i)]) ∧ Below w.heap.size w w' := by
  by_cases h : 1 ≤ i ∧ i < 62
  · obtain ⟨j, rfl⟩ : ∃ j : Nat, i = (j : Int) := ⟨i.toNat, by omega⟩
    have e1 : B.get [] (j : Int) = B.stL.getD (j - 1) (⟨#[]⟩, ⟨#[]⟩) := by
      unfold B.get
      rw [if_pos h, Int.toNat_natCast]
    have e2 : B.has [] (j : Int) = true := decide_eq_true (by simp only [List.length_nil]; omega)
    rw [e1, e2]
    exact refStatic_yes j w (by omega) (by omega)
  · have e1 : B.get [] i = (⟨#[]⟩, ⟨#[]⟩) := by
      unfold B.get
      rw [if_neg h, if_neg (by simp only [List.length_nil]; omega)]
    have e2 : B.has [] i = false := decide_eq_false (by simp only [List.length_nil]; omega)
    rw [e1, e2]
    exact refStatic_no i w h
end Go.Proofs.YtplajeboeckhhaaDoor
