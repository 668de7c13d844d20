/-
The walks of parleysee: what an error of package api is as plain data, and whether it is the one of a number.
-/
import Derived.Test.YthdgcakbeiocgaaDoorGerr
import Derived.Test.YthdgcakbeiocgaaDoorGcells
import Derived.Deep.QuietTactic
import Derived.BigQuiet
namespace Go.Proofs.YthdgcakbeiocgaaDoor
open Go.RowKit

/-- A fault as a value. -/
def fV (c k s : Int) (v : Value) : Value := .agg #[.int .i64 c, .int .i64 k, .int .i64 s, v]

def FOut (c k s : Int) (v : Value) (w : World) (e : Ending) (w' : World) : Prop := e = .returned (fV c k s v) ∧ Below w.heap.size w w'

theorem none_any (w : World) : Calls Tryd.prog 82 #[] w (FOut 0 0 0 (.slice none 0 0) w) := by
  go_enter Tryd.func82, Tryd.ntmps82
  go_wp2
  exact bodyPost_ret (v := fV 0 0 0 (.slice none 0 0)) (by simp [results, Tryd.results82, go_sem, fV]) rfl ⟨rfl, (Below.refl _ _).alloc (Nat.le_refl _) _⟩
theorem bare_any (c : Int) (w : World) : Calls Tryd.prog 42 #[.int .i64 c] w (FOut c 0 0 (.slice none 0 0) w) := by
  go_enter Tryd.func42, Tryd.ntmps42
  go_wp2
  exact bodyPost_ret (v := fV c 0 0 (.slice none 0 0)) (by simp [results, Tryd.results42, go_sem, fV]) rfl ⟨rfl, (Below.refl _ _).alloc (Nat.le_refl _) _⟩

/-- Alike over two of the errors. -/
theorem alike_any {w : World} {E : Nat → Addr} (hE : ErrsAll w E egs) (i j : Nat) (hi : i < 30) (hj : j < 30) :
    Calls Tryd.prog 107 #[eV E (eg i), eV E (eg j)] w fun e w' => e = .returned (.bool (decide (i = j))) ∧ w = w' := by
  have hx := run_eql_err hE i j hi hj
  unfold eV at hx ⊢
  generalize decide (i = j) = b at *
  go_enter Tryd.func107, Tryd.ntmps107
  go_wp2
  go_ret
  exact ⟨rfl, rfl⟩

theorem egs_cell {w : World} {E : Nat → Addr} (hE : ErrsAll w E egs) (i : Nat) (hi : i < 30) : w.cell? ⟨eg i, 0, none⟩ = some (eV E (eg i)) := by
  obtain ⟨t, hm, _⟩ := egs_mem i hi
  exact hE.cell hm

/-- What sentinels hands back. -/
def SentOut (E : Nat → Addr) (w : World) (e : Ending) (w' : World) : Prop := ∃ g, e = .returned (.slice (some ⟨g, 0, none⟩) 30 30) ∧ w.heap.size ≤ g ∧ Blk w' g 30 (fun j => eV E (eg j)) ∧ Below w.heap.size w w'

theorem sent_cells (E : Nat → Addr) : ∀ j, j < 30 → (#[eV E 3, eV E 2, eV E 7, eV E 8, eV E 9, eV E 10, eV E 4, eV E 6, eV E 0, eV E 5, eV E 11, eV E 12, eV E 13, eV E 14, eV E 1, eV E 15, eV E 16, eV E 17, eV E 18, eV E 19, eV E 20, eV E 21, eV E 22, eV E 23, eV E 24, eV E 25, eV E 26, eV E 27, eV E 28, eV E 29] : Array Value)[j]? = some (eV E (eg j))
  | 0, _ => rfl
  | 1, _ => rfl
  | 2, _ => rfl
  | 3, _ => rfl
  | 4, _ => rfl
  | 5, _ => rfl
  | 6, _ => rfl
  | 7, _ => rfl
  | 8, _ => rfl
  | 9, _ => rfl
  | 10, _ => rfl
  | 11, _ => rfl
  | 12, _ => rfl
  | 13, _ => rfl
  | 14, _ => rfl
  | 15, _ => rfl
  | 16, _ => rfl
  | 17, _ => rfl
  | 18, _ => rfl
  | 19, _ => rfl
  | 20, _ => rfl
  | 21, _ => rfl
  | 22, _ => rfl
  | 23, _ => rfl
  | 24, _ => rfl
  | 25, _ => rfl
  | 26, _ => rfl
  | 27, _ => rfl
  | 28, _ => rfl
  | 29, _ => rfl
  | n + 30, h => absurd h (by omega)

theorem run_sentinels (E : Nat → Addr) (w : World) : (Instr.buildSlice 161 30 #[(0, eV E 3), (1, eV E 2), (2, eV E 7), (3, eV E 8), (4, eV E 9), (5, eV E 10), (6, eV E 4), (7, eV E 6), (8, eV E 0), (9, eV E 5), (10, eV E 11), (11, eV E 12), (12, eV E 13), (13, eV E 14), (14, eV E 1), (15, eV E 15), (16, eV E 16), (17, eV E 17), (18, eV E 18), (19, eV E 19), (20, eV E 20), (21, eV E 21), (22, eV E 22), (23, eV E 23), (24, eV E 24), (25, eV E 25), (26, eV E 26), (27, eV E 27), (28, eV E 28), (29, eV E 29)]).run Tryd.prog w = .ok (.slice (some ⟨w.heap.size, 0, none⟩) 30 30) (w.alloc (.cells #[eV E 3, eV E 2, eV E 7, eV E 8, eV E 9, eV E 10, eV E 4, eV E 6, eV E 0, eV E 5, eV E 11, eV E 12, eV E 13, eV E 14, eV E 1, eV E 15, eV E 16, eV E 17, eV E 18, eV E 19, eV E 20, eV E 21, eV E 22, eV E 23, eV E 24, eV E 25, eV E 26, eV E 27, eV E 28, eV E 29] 29)) := by kernel_rfl

set_option maxRecDepth 100000 in
set_option maxHeartbeats 1000000 in
theorem sentinels_any {E : Nat → Addr} (w : World) (hE : ErrsAll w E egs) : Calls Tryd.prog 106 #[] w (SentOut E w) := by
  have c0 : w.cell? ⟨3, 0, none⟩ = some (eV E 3) := egs_cell hE 0 (by omega)
  have c1 : w.cell? ⟨2, 0, none⟩ = some (eV E 2) := egs_cell hE 1 (by omega)
  have c2 : w.cell? ⟨7, 0, none⟩ = some (eV E 7) := egs_cell hE 2 (by omega)
  have c3 : w.cell? ⟨8, 0, none⟩ = some (eV E 8) := egs_cell hE 3 (by omega)
  have c4 : w.cell? ⟨9, 0, none⟩ = some (eV E 9) := egs_cell hE 4 (by omega)
  have c5 : w.cell? ⟨10, 0, none⟩ = some (eV E 10) := egs_cell hE 5 (by omega)
  have c6 : w.cell? ⟨4, 0, none⟩ = some (eV E 4) := egs_cell hE 6 (by omega)
  have c7 : w.cell? ⟨6, 0, none⟩ = some (eV E 6) := egs_cell hE 7 (by omega)
  have c8 : w.cell? ⟨0, 0, none⟩ = some (eV E 0) := egs_cell hE 8 (by omega)
  have c9 : w.cell? ⟨5, 0, none⟩ = some (eV E 5) := egs_cell hE 9 (by omega)
  have c10 : w.cell? ⟨11, 0, none⟩ = some (eV E 11) := egs_cell hE 10 (by omega)
  have c11 : w.cell? ⟨12, 0, none⟩ = some (eV E 12) := egs_cell hE 11 (by omega)
  have c12 : w.cell? ⟨13, 0, none⟩ = some (eV E 13) := egs_cell hE 12 (by omega)
  have c13 : w.cell? ⟨14, 0, none⟩ = some (eV E 14) := egs_cell hE 13 (by omega)
  have c14 : w.cell? ⟨1, 0, none⟩ = some (eV E 1) := egs_cell hE 14 (by omega)
  have c15 : w.cell? ⟨15, 0, none⟩ = some (eV E 15) := egs_cell hE 15 (by omega)
  have c16 : w.cell? ⟨16, 0, none⟩ = some (eV E 16) := egs_cell hE 16 (by omega)
  have c17 : w.cell? ⟨17, 0, none⟩ = some (eV E 17) := egs_cell hE 17 (by omega)
  have c18 : w.cell? ⟨18, 0, none⟩ = some (eV E 18) := egs_cell hE 18 (by omega)
  have c19 : w.cell? ⟨19, 0, none⟩ = some (eV E 19) := egs_cell hE 19 (by omega)
  have c20 : w.cell? ⟨20, 0, none⟩ = some (eV E 20) := egs_cell hE 20 (by omega)
  have c21 : w.cell? ⟨21, 0, none⟩ = some (eV E 21) := egs_cell hE 21 (by omega)
  have c22 : w.cell? ⟨22, 0, none⟩ = some (eV E 22) := egs_cell hE 22 (by omega)
  have c23 : w.cell? ⟨23, 0, none⟩ = some (eV E 23) := egs_cell hE 23 (by omega)
  have c24 : w.cell? ⟨24, 0, none⟩ = some (eV E 24) := egs_cell hE 24 (by omega)
  have c25 : w.cell? ⟨25, 0, none⟩ = some (eV E 25) := egs_cell hE 25 (by omega)
  have c26 : w.cell? ⟨26, 0, none⟩ = some (eV E 26) := egs_cell hE 26 (by omega)
  have c27 : w.cell? ⟨27, 0, none⟩ = some (eV E 27) := egs_cell hE 27 (by omega)
  have c28 : w.cell? ⟨28, 0, none⟩ = some (eV E 28) := egs_cell hE 28 (by omega)
  have c29 : w.cell? ⟨29, 0, none⟩ = some (eV E 29) := egs_cell hE 29 (by omega)
  have hS := sent_cells E
  have HS := Lib.hid hS
  clear hE hS
  go_enter Tryd.func106, Tryd.ntmps106
  go_upto_region 1 with (fail)
  go_step
  iterate 30
    refine wpList_plain rfl fun K hK => ?_
    go_simp
    refine hK _ _ ?_
    clear hK K
  refine wpList_buildSlice_big rfl 161 30 _ rfl #[(0, eV E 3), (1, eV E 2), (2, eV E 7), (3, eV E 8), (4, eV E 9), (5, eV E 10), (6, eV E 4), (7, eV E 6), (8, eV E 0), (9, eV E 5), (10, eV E 11), (11, eV E 12), (12, eV E 13), (13, eV E 14), (14, eV E 1), (15, eV E 15), (16, eV E 16), (17, eV E 17), (18, eV E 18), (19, eV E 19), (20, eV E 20), (21, eV E 21), (22, eV E 22), (23, eV E 23), (24, eV E 24), (25, eV E 25), (26, eV E 26), (27, eV E 27), (28, eV E 28), (29, eV E 29)] (by simp only [List.map_toArray, List.map_cons, List.map_nil]; rfl) _ _ (run_sentinels E w) ?_
  have hb := Blk.new w _ 29 (fun j => eV E (eg j)) (fun j hj => HS.out j hj)
  have hB : Below w.heap.size w _ := (Below.refl _ _).alloc (Nat.le_refl _) (.cells #[eV E 3, eV E 2, eV E 7, eV E 8, eV E 9, eV E 10, eV E 4, eV E 6, eV E 0, eV E 5, eV E 11, eV E 12, eV E 13, eV E 14, eV E 1, eV E 15, eV E 16, eV E 17, eV E 18, eV E 19, eV E 20, eV E 21, eV E 22, eV E 23, eV E 24, eV E 25, eV E 26, eV E 27, eV E 28, eV E 29] 29)
  generalize w.alloc (.cells #[eV E 3, eV E 2, eV E 7, eV E 8, eV E 9, eV E 10, eV E 4, eV E 6, eV E 0, eV E 5, eV E 11, eV E 12, eV E 13, eV E 14, eV E 1, eV E 15, eV E 16, eV E 17, eV E 18, eV E 19, eV E 20, eV E 21, eV E 22, eV E 23, eV E 24, eV E 25, eV E 26, eV E 27, eV E 28, eV E 29] 29) = w1 at *
  generalize hg : w.heap.size = g at *
  clear HS c0 c1 c2 c3 c4 c5 c6 c7 c8 c9 c10 c11 c12 c13 c14 c15 c16 c17 c18 c19 c20 c21 c22 c23 c24 c25 c26 c27 c28 c29
  go_wp2
  go_ret
  exact ⟨g, rfl, by omega, hb, by rw [hg]; exact hB⟩

set_option maxRecDepth 100000 in
set_option maxHeartbeats 400000 in
theorem sentinel_any {E : Nat → Addr} (i : Nat) (w : World) (hE : ErrsAll w E egs) (hi : i < 30) : Calls Tryd.prog 97 #[eV E (eg i)] w fun e w' => e = .returned (.int .i64 (101 + (i : Int))) ∧ Below w.heap.size w w' := by
  have HE := Lib.hid hE
  clear hE
  go_enter Tryd.func97, Tryd.ntmps97
  go_wp2_with (go_at_call 106; refine (sentinels_any _ HE.out).mono ?_; rintro e w1 ⟨g, rfl, hg, hb, hB⟩; have HB := Lib.hid hB; have HBk := Lib.hid hb; have HE1 := Lib.hid (HE.out.below hB); clear hB hb)
  go_loop [4] (fun v => ∃ k : Nat, k ≤ i ∧ v = .int .i64 k) (fun v => 30 - (intOf v).toNat)
  case atStart => exact ⟨0, Nat.zero_le _, rfl⟩
  case round =>
    obtain ⟨k, hk, rfl⟩ := hrel
    obtain ⟨c1, _⟩ := HBk.out k (by omega)
    have HA := Lib.hid (alike_any HE1.out i k hi (by omega))
    have hk2 : k < 30 := by omega
    by_cases e : i = k
    · subst e
      rw [decide_eq_true rfl] at HA
      go_wp2_with (go_at_call 107; refine HA.out.mono ?_; rintro e w2 ⟨rfl, rfl⟩)
      go_ret
      exact ⟨rfl, HB.out⟩
    · rw [decide_eq_false e] at HA
      go_wp2_with (go_at_call 107; refine HA.out.mono ?_; rintro e w2 ⟨rfl, rfl⟩)
      go_round
      case rel => exact ⟨k + 1, by omega, by go_num⟩
      case measure => simp [intOf]; omega

theorem not_at (p : Addr) (w : World) : (Instr.typeAssert (.iface 166 (.pointer (some p))) 29 147 true).run Tryd.prog w = .ok (.tuple #[.pointer none, .bool false]) w := by kernel_rfl
theorem not_h2 (p : Addr) (w : World) : (Instr.typeAssert (.iface 166 (.pointer (some p))) 29 151 true).run Tryd.prog w = .ok (.tuple #[.pointer none, .bool false]) w := by kernel_rfl

set_option maxRecDepth 100000 in
set_option maxHeartbeats 400000 in
theorem faultOne_any {E : Nat → Addr} (i : Nat) (left : Nat) (w : World) (hE : ErrsAll w E egs) (hi : i < 30) (hl : 0 < left) (hl2 : left < 100) : Calls Tryd.prog 83 #[eV E (eg i), .int .i64 left] w (FOut (101 + (i : Int)) 0 0 (.slice none 0 0) w) := by
  have HE := Lib.hid hE
  clear hE
  have hv : eV E (eg i) = .iface 166 (.pointer (some (E (eg i)))) := rfl
  have hs : ∀ ww, ErrsAll ww E egs → Calls Tryd.prog 97 #[.iface 166 (.pointer (some (E (eg i))))] ww fun e w' => e = .returned (.int .i64 (101 + (i : Int))) ∧ Below ww.heap.size ww w' := fun ww h => sentinel_any i ww h hi
  have HS := Lib.hid hs
  rw [hv]
  clear hv hs
  generalize E (eg i) = p at *
  have hl0 : ((left : Int) == 0) = false := by simp; omega
  have HA : Hid (ErrsAll (w.alloc (.cells #[.int .i64 0, .int .i64 0, .int .i64 0, .slice none 0 0] 79)) E egs) := HE.out.below ((Below.refl _ _).alloc (Nat.le_refl _) _)
  have hn1 := not_at p
  have hn2 := not_h2 p
  go_enter Tryd.func83, Tryd.ntmps83
  go_wp2_with (first
    | (go_at_call 97; refine (HS.out _ HA.out).mono ?_; rintro e w1 ⟨rfl, hB⟩; have HB := Lib.hid hB; clear hB)
    | (go_at_call 42; refine (bare_any _ _).mono ?_; rintro e w2 ⟨rfl, hB2⟩; have HB2 := Lib.hid (HB.out.trans (hB2.mono HB.out.size)); clear hB2; obtain ⟨⟨d0, d1, d2, d3⟩, ⟨f0, f1, f2, f3⟩, hz2⟩ := cells4 HB2.out; unfold fV))
  exact bodyPost_ret (v := fV (101 + (i : Int)) 0 0 (.slice none 0 0)) (by simp [results, Tryd.results83, go_sem, fV, d0, d1, d2, d3]) rfl ⟨rfl, by
    have hb := below_over HB2.out
    exact (((hb.setCell (Nat.le_refl _) _).setCell (Nat.le_refl _) _).setCell (Nat.le_refl _) _).setCell (Nat.le_refl _) _⟩
end Go.Proofs.YthdgcakbeiocgaaDoor
