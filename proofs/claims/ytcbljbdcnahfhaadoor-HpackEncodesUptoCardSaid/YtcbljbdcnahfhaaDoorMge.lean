/-
The thirty errors of package api as their variables hold them; what a number says of one.
-/
import Derived.LaidEql
import Derived.WideLaws
import Derived.Deep.QuietTactic
import Derived.BigQuiet
import Derived.Test.YtcbljbdcnahfhaaDoorMga
/- Gerr -/
namespace Go.Proofs.YtcbljbdcnahfhaaDoor
open Go.RowKit

/-- The errors' variables in the document's order, with their texts. -/
def egs : List (Nat × List UInt8) := [
  (3, [105, 116, 32, 101, 110, 100, 115, 32, 116, 111, 111, 32, 101, 97, 114, 108, 121]),
  (2, [116, 111, 111, 32, 108, 111, 110, 103]),
  (7, [110, 111, 32, 116, 97, 103]),
  (8, [110, 111, 32, 115, 117, 99, 104, 32, 103, 114, 111, 117, 112]),
  (9, [116, 111, 111, 32, 100, 101, 101, 112]),
  (10, [110, 111, 32, 116, 101, 120, 116]),
  (4, [110, 111, 32, 72, 117, 102, 102, 109, 97, 110, 32, 99, 111, 100, 101]),
  (6, [116, 104, 101, 114, 101, 32, 105, 115, 32, 110, 111, 110, 101]),
  (0, [116, 104, 101, 32, 116, 97, 98, 108, 101, 32, 109, 97, 121, 32, 110, 111, 116, 32, 98, 101, 32, 115, 111, 32, 108, 97, 114, 103, 101]),
  (5, [116, 104, 101, 32, 108, 105, 115, 116, 32, 105, 115, 32, 116, 111, 111, 32, 108, 97, 114, 103, 101]),
  (11, [110, 111, 32, 102, 114, 97, 109, 101]),
  (12, [110, 111, 32, 104, 101, 97, 100, 101, 114, 32, 108, 105, 115, 116, 32, 111, 102, 32, 116, 104, 97, 116, 32, 107, 105, 110, 100]),
  (13, [116, 104, 101, 32, 119, 105, 110, 100, 111, 119, 32, 105, 115, 32, 112, 97, 115, 115, 101, 100]),
  (14, [116, 104, 101, 32, 111, 116, 104, 101, 114, 32, 115, 105, 100, 101, 32, 100, 111, 101, 115, 32, 116, 104, 97, 116]),
  (1, [116, 104, 101, 32, 99, 111, 110, 110, 101, 99, 116, 105, 111, 110, 32, 116, 97, 107, 101, 115, 32, 110, 111, 32, 109, 111, 114, 101]),
  (15, [116, 111, 111, 32, 109, 97, 110, 121]),
  (16, [116, 104, 101, 32, 115, 116, 114, 101, 97, 109, 32, 105, 115, 32, 110, 111, 116, 32, 116, 104, 101, 114, 101, 32, 102, 111, 114, 32, 116, 104, 97, 116]),
  (17, [110, 111, 32, 116, 111, 107, 101, 110]),
  (18, [105, 116, 32, 100, 111, 101, 115, 32, 110, 111, 116, 32, 99, 111, 109, 101, 32, 104, 101, 114, 101]),
  (19, [110, 111, 32, 115, 117, 99, 104, 32, 110, 117, 109, 98, 101, 114]),
  (20, [110, 111, 32, 115, 117, 99, 104, 32, 110, 97, 109, 101]),
  (21, [105, 116, 32, 105, 115, 32, 116, 104, 101, 114, 101, 32, 97, 108, 114, 101, 97, 100, 121]),
  (22, [110, 111, 32, 115, 117, 99, 104, 32, 116, 121, 112, 101]),
  (23, [105, 116, 32, 108, 101, 97, 100, 115, 32, 98, 97, 99, 107, 32, 116, 111, 32, 105, 116, 115, 101, 108, 102]),
  (24, [110, 111, 32, 115, 117, 99, 104, 32, 102, 105, 108, 101]),
  (25, [110, 111, 32, 118, 97, 108, 117, 101, 32, 111, 102, 32, 116, 104, 97, 116, 32, 116, 121, 112, 101]),
  (26, [110, 111, 32, 115, 117, 99, 104, 32, 102, 105, 101, 108, 100]),
  (27, [110, 111, 32, 74, 83, 79, 78]),
  (28, [110, 111, 32, 115, 116, 97, 116, 117, 115]),
  (29, [110, 111, 32, 115, 116, 101, 112])]
def eg (i : Nat) : Nat := (egs.map (·.1)).getD i 0

/-- The variable's value: the error of its own pointer. -/
def eV (E : Nat → Addr) (g : Nat) : Value := .iface 166 (.pointer (some (E g)))

/-- Every one of the listed variables holds an error of its own text. -/
def ErrsAll (w : World) (E : Nat → Addr) (l : List (Nat × List UInt8)) : Prop :=
  ∀ p ∈ l, w.cell? ⟨p.1, 0, none⟩ = some (eV E p.1) ∧ ∃ s c t, w.cell? (E p.1) = some (.string s) ∧ s.data.toList = p.2 ∧ w.heap[(E p.1).block]? = some (.cells c t (0, 0))

theorem ErrsAll.below {w w' : World} {E : Nat → Addr} {l : List (Nat × List UInt8)} (h : ErrsAll w E l) (hb : Below w.heap.size w w') : ErrsAll w' E l := fun p hp => by
  obtain ⟨h1, s, c, t, h2, h3, h4⟩ := h p hp
  refine ⟨cell_below hb h1, s, c, t, cell_below hb h2, h3, ?_⟩
  rw [hb.block _ (World.block_lt_of_cell? w _ h2)]
  exact h4
theorem ErrsAll.cell {w : World} {E : Nat → Addr} {l : List (Nat × List UInt8)} (h : ErrsAll w E l) {p : Nat × List UInt8} (hp : p ∈ l) : w.cell? ⟨p.1, 0, none⟩ = some (eV E p.1) := (h p hp).1
theorem ErrsAll.ne {w : World} {E : Nat → Addr} {l : List (Nat × List UInt8)} (h : ErrsAll w E l) {p q : Nat × List UInt8} (hp : p ∈ l) (hq : q ∈ l) (hne : p.2 ≠ q.2) : E p.1 ≠ E q.1 := fun e => by
  obtain ⟨_, s, c, t, h2, h3, h4⟩ := h p hp
  obtain ⟨_, s', c', t', h2', h3', h4'⟩ := h q hq
  rw [e, h2'] at h2
  cases h2
  exact hne (h3.symm.trans h3')
theorem ErrsAll.blk {w : World} {E : Nat → Addr} {l : List (Nat × List UInt8)} (h : ErrsAll w E l) {p : Nat × List UInt8} (hp : p ∈ l) : ∃ c t, w.heap[(E p.1).block]? = some (.cells c t (0, 0)) := by
  obtain ⟨_, s, c, t, _, _, h4⟩ := h p hp
  exact ⟨c, t, h4⟩

theorem egs_len : egs.length = 30 := by decide
theorem egs_mem (i : Nat) (hi : i < 30) : ∃ t, (eg i, t) ∈ egs ∧ egs[i]? = some (eg i, t) := by
  have h : i < egs.length := by rw [egs_len]; exact hi
  refine ⟨(egs[i]).2, ?_, ?_⟩
  · have e : (eg i, (egs[i]).2) = egs[i] := by
      unfold eg
      rw [List.getD_eq_getElem?_getD, List.getElem?_map, List.getElem?_eq_getElem h]
      rfl
    rw [e]; exact List.getElem_mem h
  · rw [List.getElem?_eq_getElem h]
    unfold eg
    rw [List.getD_eq_getElem?_getD, List.getElem?_map, List.getElem?_eq_getElem h]
    rfl
theorem egs_texts : ∀ i, i < 30 → ∀ j, j < 30 → i ≠ j → (egs.map (·.2)).getD i [] ≠ (egs.map (·.2)).getD j [] := by decide +kernel
theorem egs_text {i : Nat} {t : List UInt8} (h : egs[i]? = some (eg i, t)) : (egs.map (·.2)).getD i [] = t := by
  rw [List.getD_eq_getElem?_getD, List.getElem?_map, h]
  rfl

theorem comp_err : (Tryd.prog.info? 166).map (·.comparable) = some true := by kernel_rfl
theorem size_err : (Tryd.prog.info? 181).map (·.size) = some 1 := by kernel_rfl

/-- Two of the errors are the same one just where they are of one place. -/
theorem run_eql_err {w : World} {E : Nat → Addr} (hE : ErrsAll w E egs) (i j : Nat) (hi : i < 30) (hj : j < 30) :
    (binOp .eql 29 (eV E (eg i)) (eV E (eg j))).run Tryd.prog w = .ok (.bool (decide (i = j))) w := by
  obtain ⟨i1, hi1, hc⟩ := Option.map_eq_some_iff.1 comp_err
  obtain ⟨j1, hj1, hz⟩ := Option.map_eq_some_iff.1 size_err
  by_cases e : i = j
  · subst e
    rw [decide_eq_true rfl]
    exact run_eql_iface_ptr_same w (E (eg i)) Tryd.underlying29 Tryd.underlying166 hi1 hc hj1
  · rw [decide_eq_false e]
    obtain ⟨t, hm, ht⟩ := egs_mem i hi
    obtain ⟨t', hm', ht'⟩ := egs_mem j hj
    have hne : t ≠ t' := by
      have := egs_texts i hi j hj e
      rw [egs_text ht, egs_text ht'] at this
      exact this
    obtain ⟨c, ty, hb⟩ := hE.blk hm
    obtain ⟨c', ty', hb'⟩ := hE.blk hm'
    exact run_eql_iface_ptr_other w Tryd.underlying29 Tryd.underlying166 hi1 hc hj1 (by rw [hz]; decide) (hE.ne hm hm' hne) hb hb'
end Go.Proofs.YtcbljbdcnahfhaaDoor
/- Gsee -/
namespace Go.Proofs.YtcbljbdcnahfhaaDoor
open Go.RowKit

/-- A fault as a value. -/
def fV (c k s : Int) (v : Value) : Value := .agg #[.int .i64 c, .int .i64 k, .int .i64 s, v]

def FOut (c k s : Int) (v : Value) (w : World) (e : Ending) (w' : World) : Prop := e = .returned (fV c k s v) ∧ Below w.heap.size w w'

theorem none_any (w : World) : Calls Tryd.prog 82 #[] w (FOut 0 0 0 (.slice none 0 0) w) := by
  go_enter Tryd.func82, Tryd.ntmps82
  go_wp2
  exact bodyPost_ret (v := fV 0 0 0 (.slice none 0 0)) (by simp [results, Tryd.results82, go_sem, fV]) rfl ⟨rfl, (Below.refl _ _).alloc (Nat.le_refl _) _⟩
theorem bare_any (c : Int) (w : World) : Calls Tryd.prog 42 #[.int .i64 c] w (FOut c 0 0 (.slice none 0 0) w) := by
  go_enter Tryd.func42, Tryd.ntmps42
  go_wp2
  exact bodyPost_ret (v := fV c 0 0 (.slice none 0 0)) (by simp [results, Tryd.results42, go_sem, fV]) rfl ⟨rfl, (Below.refl _ _).alloc (Nat.le_refl _) _⟩

/-- Alike over two of the errors. -/
theorem alike_any {w : World} {E : Nat → Addr} (hE : ErrsAll w E egs) (i j : Nat) (hi : i < 30) (hj : j < 30) :
    Calls Tryd.prog 107 #[eV E (eg i), eV E (eg j)] w fun e w' => e = .returned (.bool (decide (i = j))) ∧ w = w' := by
  have hx := run_eql_err hE i j hi hj
  unfold eV at hx ⊢
  generalize decide (i = j) = b at *
  go_enter Tryd.func107, Tryd.ntmps107
  go_wp2
  go_ret
  exact ⟨rfl, rfl⟩

theorem egs_cell {w : World} {E : Nat → Addr} (hE : ErrsAll w E egs) (i : Nat) (hi : i < 30) : w.cell? ⟨eg i, 0, none⟩ = some (eV E (eg i)) := by
  obtain ⟨t, hm, _⟩ := egs_mem i hi
  exact hE.cell hm

/-- What sentinels hands back. -/
def SentOut (E : Nat → Addr) (w : World) (e : Ending) (w' : World) : Prop := ∃ g, e = .returned (.slice (some ⟨g, 0, none⟩) 30 30) ∧ w.heap.size ≤ g ∧ Blk w' g 30 (fun j => eV E (eg j)) ∧ Below w.heap.size w w'

theorem sent_cells (E : Nat → Addr) : ∀ j, j < 30 → (#[eV E 3, eV E 2, eV E 7, eV E 8, eV E 9, eV E 10, eV E 4, eV E 6, eV E 0, eV E 5, eV E 11, eV E 12, eV E 13, eV E 14, eV E 1, eV E 15, eV E 16, eV E 17, eV E 18, eV E 19, eV E 20, eV E 21, eV E 22, eV E 23, eV E 24, eV E 25, eV E 26, eV E 27, eV E 28, eV E 29] : Array Value)[j]? = some (eV E (eg j))
  | 0, _ => rfl
  | 1, _ => rfl
  | 2, _ => rfl
  | 3, _ => rfl
  | 4, _ => rfl
  | 5, _ => rfl
  | 6, _ => rfl
  | 7, _ => rfl
  | 8, _ => rfl
  | 9, _ => rfl
  | 10, _ => rfl
  | 11, _ => rfl
  | 12, _ => rfl
  | 13, _ => rfl
  | 14, _ => rfl
  | 15, _ => rfl
  | 16, _ => rfl
  | 17, _ => rfl
  | 18, _ => rfl
  | 19, _ => rfl
  | 20, _ => rfl
  | 21, _ => rfl
  | 22, _ => rfl
  | 23, _ => rfl
  | 24, _ => rfl
  | 25, _ => rfl
  | 26, _ => rfl
  | 27, _ => rfl
  | 28, _ => rfl
  | 29, _ => rfl
  | n + 30, h => absurd h (by omega)

theorem run_sentinels (E : Nat → Addr) (w : World) : (Instr.buildSlice 161 30 #[(0, eV E 3), (1, eV E 2), (2, eV E 7), (3, eV E 8), (4, eV E 9), (5, eV E 10), (6, eV E 4), (7, eV E 6), (8, eV E 0), (9, eV E 5), (10, eV E 11), (11, eV E 12), (12, eV E 13), (13, eV E 14), (14, eV E 1), (15, eV E 15), (16, eV E 16), (17, eV E 17), (18, eV E 18), (19, eV E 19), (20, eV E 20), (21, eV E 21), (22, eV E 22), (23, eV E 23), (24, eV E 24), (25, eV E 25), (26, eV E 26), (27, eV E 27), (28, eV E 28), (29, eV E 29)]).run Tryd.prog w = .ok (.slice (some ⟨w.heap.size, 0, none⟩) 30 30) (w.alloc (.cells #[eV E 3, eV E 2, eV E 7, eV E 8, eV E 9, eV E 10, eV E 4, eV E 6, eV E 0, eV E 5, eV E 11, eV E 12, eV E 13, eV E 14, eV E 1, eV E 15, eV E 16, eV E 17, eV E 18, eV E 19, eV E 20, eV E 21, eV E 22, eV E 23, eV E 24, eV E 25, eV E 26, eV E 27, eV E 28, eV E 29] 29)) := by kernel_rfl

set_option maxRecDepth 100000 in
set_option maxHeartbeats 1000000 in
theorem sentinels_any {E : Nat → Addr} (w : World) (hE : ErrsAll w E egs) : Calls Tryd.prog 106 #[] w (SentOut E w) := by
  have c0 : w.cell? ⟨3, 0, none⟩ = some (eV E 3) := egs_cell hE 0 (by omega)
  have c1 : w.cell? ⟨2, 0, none⟩ = some (eV E 2) := egs_cell hE 1 (by omega)
  have c2 : w.cell? ⟨7, 0, none⟩ = some (eV E 7) := egs_cell hE 2 (by omega)
  have c3 : w.cell? ⟨8, 0, none⟩ = some (eV E 8) := egs_cell hE 3 (by omega)
  have c4 : w.cell? ⟨9, 0, none⟩ = some (eV E 9) := egs_cell hE 4 (by omega)
  have c5 : w.cell? ⟨10, 0, none⟩ = some (eV E 10) := egs_cell hE 5 (by omega)
  have c6 : w.cell? ⟨4, 0, none⟩ = some (eV E 4) := egs_cell hE 6 (by omega)
  have c7 : w.cell? ⟨6, 0, none⟩ = some (eV E 6) := egs_cell hE 7 (by omega)
  have c8 : w.cell? ⟨0, 0, none⟩ = some (eV E 0) := egs_cell hE 8 (by omega)
  have c9 : w.cell? ⟨5, 0, none⟩ = some (eV E 5) := egs_cell hE 9 (by omega)
  have c10 : w.cell? ⟨11, 0, none⟩ = some (eV E 11) := egs_cell hE 10 (by omega)
  have c11 : w.cell? ⟨12, 0, none⟩ = some (eV E 12) := egs_cell hE 11 (by omega)
  have c12 : w.cell? ⟨13, 0, none⟩ = some (eV E 13) := egs_cell hE 12 (by omega)
  have c13 : w.cell? ⟨14, 0, none⟩ = some (eV E 14) := egs_cell hE 13 (by omega)
  have c14 : w.cell? ⟨1, 0, none⟩ = some (eV E 1) := egs_cell hE 14 (by omega)
  have c15 : w.cell? ⟨15, 0, none⟩ = some (eV E 15) := egs_cell hE 15 (by omega)
  have c16 : w.cell? ⟨16, 0, none⟩ = some (eV E 16) := egs_cell hE 16 (by omega)
  have c17 : w.cell? ⟨17, 0, none⟩ = some (eV E 17) := egs_cell hE 17 (by omega)
  have c18 : w.cell? ⟨18, 0, none⟩ = some (eV E 18) := egs_cell hE 18 (by omega)
  have c19 : w.cell? ⟨19, 0, none⟩ = some (eV E 19) := egs_cell hE 19 (by omega)
  have c20 : w.cell? ⟨20, 0, none⟩ = some (eV E 20) := egs_cell hE 20 (by omega)
  have c21 : w.cell? ⟨21, 0, none⟩ = some (eV E 21) := egs_cell hE 21 (by omega)
  have c22 : w.cell? ⟨22, 0, none⟩ = some (eV E 22) := egs_cell hE 22 (by omega)
  have c23 : w.cell? ⟨23, 0, none⟩ = some (eV E 23) := egs_cell hE 23 (by omega)
  have c24 : w.cell? ⟨24, 0, none⟩ = some (eV E 24) := egs_cell hE 24 (by omega)
  have c25 : w.cell? ⟨25, 0, none⟩ = some (eV E 25) := egs_cell hE 25 (by omega)
  have c26 : w.cell? ⟨26, 0, none⟩ = some (eV E 26) := egs_cell hE 26 (by omega)
  have c27 : w.cell? ⟨27, 0, none⟩ = some (eV E 27) := egs_cell hE 27 (by omega)
  have c28 : w.cell? ⟨28, 0, none⟩ = some (eV E 28) := egs_cell hE 28 (by omega)
  have c29 : w.cell? ⟨29, 0, none⟩ = some (eV E 29) := egs_cell hE 29 (by omega)
  have hS := sent_cells E
  have HS := Lib.hid hS
  clear hE hS
  go_enter Tryd.func106, Tryd.ntmps106
  go_upto_region 1 with (fail)
  go_step
  iterate 30
    refine wpList_plain rfl fun K hK => ?_
    go_simp
    refine hK _ _ ?_
    clear hK K
  refine wpList_buildSlice_big rfl 161 30 _ rfl #[(0, eV E 3), (1, eV E 2), (2, eV E 7), (3, eV E 8), (4, eV E 9), (5, eV E 10), (6, eV E 4), (7, eV E 6), (8, eV E 0), (9, eV E 5), (10, eV E 11), (11, eV E 12), (12, eV E 13), (13, eV E 14), (14, eV E 1), (15, eV E 15), (16, eV E 16), (17, eV E 17), (18, eV E 18), (19, eV E 19), (20, eV E 20), (21, eV E 21), (22, eV E 22), (23, eV E 23), (24, eV E 24), (25, eV E 25), (26, eV E 26), (27, eV E 27), (28, eV E 28), (29, eV E 29)] (by simp only [List.map_toArray, List.map_cons, List.map_nil]; rfl) _ _ (run_sentinels E w) ?_
  have hb := Blk.new w _ 29 (fun j => eV E (eg j)) (fun j hj => HS.out j hj)
  have hB : Below w.heap.size w _ := (Below.refl _ _).alloc (Nat.le_refl _) (.cells #[eV E 3, eV E 2, eV E 7, eV E 8, eV E 9, eV E 10, eV E 4, eV E 6, eV E 0, eV E 5, eV E 11, eV E 12, eV E 13, eV E 14, eV E 1, eV E 15, eV E 16, eV E 17, eV E 18, eV E 19, eV E 20, eV E 21, eV E 22, eV E 23, eV E 24, eV E 25, eV E 26, eV E 27, eV E 28, eV E 29] 29)
  generalize w.alloc (.cells #[eV E 3, eV E 2, eV E 7, eV E 8, eV E 9, eV E 10, eV E 4, eV E 6, eV E 0, eV E 5, eV E 11, eV E 12, eV E 13, eV E 14, eV E 1, eV E 15, eV E 16, eV E 17, eV E 18, eV E 19, eV E 20, eV E 21, eV E 22, eV E 23, eV E 24, eV E 25, eV E 26, eV E 27, eV E 28, eV E 29] 29) = w1 at *
  generalize hg : w.heap.size = g at *
  clear HS c0 c1 c2 c3 c4 c5 c6 c7 c8 c9 c10 c11 c12 c13 c14 c15 c16 c17 c18 c19 c20 c21 c22 c23 c24 c25 c26 c27 c28 c29
  go_wp2
  go_ret
  exact ⟨g, rfl, by omega, hb, by rw [hg]; exact hB⟩

set_option maxRecDepth 100000 in
set_option maxHeartbeats 400000 in
theorem sentinel_any {E : Nat → Addr} (i : Nat) (w : World) (hE : ErrsAll w E egs) (hi : i < 30) : Calls Tryd.prog 97 #[eV E (eg i)] w fun e w' => e = .returned (.int .i64 (101 + (i : Int))) ∧ Below w.heap.size w w' := by
  have HE := Lib.hid hE
  clear hE
  go_enter Tryd.func97, Tryd.ntmps97
  go_wp2_with (go_at_call 106; refine (sentinels_any _ HE.out).mono ?_; rintro e w1 ⟨g, rfl, hg, hb, hB⟩; have HB := Lib.hid hB; have HBk := Lib.hid hb; have HE1 := Lib.hid (HE.out.below hB); clear hB hb)
  go_loop [4] (fun v => ∃ k : Nat, k ≤ i ∧ v = .int .i64 k) (fun v => 30 - (intOf v).toNat)
  case atStart => exact ⟨0, Nat.zero_le _, rfl⟩
  case round =>
    obtain ⟨k, hk, rfl⟩ := hrel
    obtain ⟨c1, _⟩ := HBk.out k (by omega)
    have HA := Lib.hid (alike_any HE1.out i k hi (by omega))
    have hk2 : k < 30 := by omega
    by_cases e : i = k
    · subst e
      rw [decide_eq_true rfl] at HA
      go_wp2_with (go_at_call 107; refine HA.out.mono ?_; rintro e w2 ⟨rfl, rfl⟩)
      go_ret
      exact ⟨rfl, HB.out⟩
    · rw [decide_eq_false e] at HA
      go_wp2_with (go_at_call 107; refine HA.out.mono ?_; rintro e w2 ⟨rfl, rfl⟩)
      go_round
      case rel => exact ⟨k + 1, by omega, by go_num⟩
      case measure => simp [intOf]; omega

theorem not_at (p : Addr) (w : World) : (Instr.typeAssert (.iface 166 (.pointer (some p))) 29 147 true).run Tryd.prog w = .ok (.tuple #[.pointer none, .bool false]) w := by kernel_rfl
theorem not_h2 (p : Addr) (w : World) : (Instr.typeAssert (.iface 166 (.pointer (some p))) 29 151 true).run Tryd.prog w = .ok (.tuple #[.pointer none, .bool false]) w := by kernel_rfl

set_option maxRecDepth 100000 in
set_option maxHeartbeats 400000 in
theorem faultOne_any {E : Nat → Addr} (i : Nat) (left : Nat) (w : World) (hE : ErrsAll w E egs) (hi : i < 30) (hl : 0 < left) (hl2 : left < 100) : Calls Tryd.prog 83 #[eV E (eg i), .int .i64 left] w (FOut (101 + (i : Int)) 0 0 (.slice none 0 0) w) := by
  have HE := Lib.hid hE
  clear hE
  have hv : eV E (eg i) = .iface 166 (.pointer (some (E (eg i)))) := rfl
  have hs : ∀ ww, ErrsAll ww E egs → Calls Tryd.prog 97 #[.iface 166 (.pointer (some (E (eg i))))] ww fun e w' => e = .returned (.int .i64 (101 + (i : Int))) ∧ Below ww.heap.size ww w' := fun ww h => sentinel_any i ww h hi
  have HS := Lib.hid hs
  rw [hv]
  clear hv hs
  generalize E (eg i) = p at *
  have hl0 : ((left : Int) == 0) = false := by simp; omega
  have HA : Hid (ErrsAll (w.alloc (.cells #[.int .i64 0, .int .i64 0, .int .i64 0, .slice none 0 0] 79)) E egs) := HE.out.below ((Below.refl _ _).alloc (Nat.le_refl _) _)
  have hn1 := not_at p
  have hn2 := not_h2 p
  go_enter Tryd.func83, Tryd.ntmps83
  go_wp2_with (first
    | (go_at_call 97; refine (HS.out _ HA.out).mono ?_; rintro e w1 ⟨rfl, hB⟩; have HB := Lib.hid hB; clear hB)
    | (go_at_call 42; refine (bare_any _ _).mono ?_; rintro e w2 ⟨rfl, hB2⟩; have HB2 := Lib.hid (HB.out.trans (hB2.mono HB.out.size)); clear hB2; obtain ⟨⟨d0, d1, d2, d3⟩, ⟨f0, f1, f2, f3⟩, hz2⟩ := cells4 HB2.out; unfold fV))
  exact bodyPost_ret (v := fV (101 + (i : Int)) 0 0 (.slice none 0 0)) (by simp [results, Tryd.results83, go_sem, fV, d0, d1, d2, d3]) rfl ⟨rfl, by
    have hb := below_over HB2.out
    exact (((hb.setCell (Nat.le_refl _) _).setCell (Nat.le_refl _) _).setCell (Nat.le_refl _) _).setCell (Nat.le_refl _) _⟩
end Go.Proofs.YtcbljbdcnahfhaaDoor
/- Gis -/
namespace Go.Proofs.YtcbljbdcnahfhaaDoor
open Go.RowKit

/-- No error, or the i-th one of package api's. -/
def oV (E : Nat → Addr) : Option Nat → Value
  | none => .nilIface
  | some i => eV E (eg i)
/-- Its number. -/
def oC : Option Nat → Int
  | none => 0
  | some i => 101 + (i : Nat)

theorem oC_inj {a b : Option Nat} : oC a = oC b ↔ a = b := by
  cases a <;> cases b <;> simp [oC] <;> omega

set_option maxRecDepth 100000 in
theorem Fault_any {E : Nat → Addr} (o : Option Nat) (w : World) (hE : ErrsAll w E egs) (ho : ∀ i, o = some i → i < 30) : Calls Tryd.prog 61 #[oV E o] w (FOut (oC o) 0 0 (.slice none 0 0) w) := by
  have HE := Lib.hid hE
  clear hE
  have HA : Hid (ErrsAll (w.alloc (.cells #[.int .i64 0, .int .i64 0, .int .i64 0, .slice none 0 0] 79)) E egs) := HE.out.below ((Below.refl _ _).alloc (Nat.le_refl _) _)
  cases o with
  | none =>
    simp only [oV, oC]
    go_enter Tryd.func61, Tryd.ntmps61
    go_wp2_with (go_at_call 82; refine (none_any _).mono ?_; rintro e w2 ⟨rfl, hB2⟩; have HB2 := Lib.hid hB2; clear hB2; obtain ⟨⟨d0, d1, d2, d3⟩, ⟨f0, f1, f2, f3⟩, hz2⟩ := cells4 HB2.out; unfold fV)
    exact bodyPost_ret (v := fV 0 0 0 (.slice none 0 0)) (by simp [results, Tryd.results61, go_sem, fV, d0, d1, d2, d3]) rfl ⟨rfl, by
      have hb := below_over HB2.out
      exact (((hb.setCell (Nat.le_refl _) _).setCell (Nat.le_refl _) _).setCell (Nat.le_refl _) _).setCell (Nat.le_refl _) _⟩
  | some i =>
    have hi := ho i rfl
    have HF : Hid (∀ ww, ErrsAll ww E egs → Calls Tryd.prog 83 #[.iface 166 (.pointer (some (E (eg i)))), .int .i64 9] ww (FOut (101 + (i : Int)) 0 0 (.slice none 0 0) ww)) := fun ww h => by
      have h1 := faultOne_any i 9 ww h hi (by omega) (by omega)
      rw [show ((9 : Nat) : Int) = 9 from rfl] at h1
      unfold eV at h1
      exact h1
    simp only [oV, oC, eV]
    generalize E (eg i) = p at *
    go_enter Tryd.func61, Tryd.ntmps61
    go_wp2_with (go_at_call 83; refine (HF.out _ HA.out).mono ?_; rintro e w2 ⟨rfl, hB2⟩; have HB2 := Lib.hid hB2; clear hB2; obtain ⟨⟨d0, d1, d2, d3⟩, ⟨f0, f1, f2, f3⟩, hz2⟩ := cells4 HB2.out; unfold fV)
    exact bodyPost_ret (v := fV (101 + (i : Int)) 0 0 (.slice none 0 0)) (by simp [results, Tryd.results61, go_sem, fV, d0, d1, d2, d3]) rfl ⟨rfl, by
      have hb := below_over HB2.out
      exact (((hb.setCell (Nat.le_refl _) _).setCell (Nat.le_refl _) _).setCell (Nat.le_refl _) _).setCell (Nat.le_refl _) _⟩

/-- The slice at a reads as the ints l. -/
def RdZ (w : World) (a : Option Addr) (l : List Int) : Prop := ∀ j, j < l.length → ∃ b o, a = some ⟨b, o, none⟩ ∧ w.cell? ⟨b, o + j, none⟩ = some (.int .i64 (l.getD j 0))
theorem RdZ.nil (w : World) (a : Option Addr) : RdZ w a [] := fun j hj => by simp at hj
theorem RdZ.below {w w' : World} {a : Option Addr} {l : List Int} (h : RdZ w a l) (hb : Below w.heap.size w w') : RdZ w' a l := fun j hj => by
  obtain ⟨b, o, e, hc⟩ := h j hj
  exact ⟨b, o, e, cell_below hb hc⟩

theorem take_eq_succ {l k : List Int} {i : Nat} (hl : i < l.length) (hk : i < k.length) (h : l.take i = k.take i) : l.take (i + 1) = k.take (i + 1) ↔ l.getD i 0 = k.getD i 0 := by
  have e1 : l.getD i 0 = l[i] := by rw [List.getD_eq_getElem?_getD, List.getElem?_eq_getElem hl]; rfl
  have e2 : k.getD i 0 = k[i] := by rw [List.getD_eq_getElem?_getD, List.getElem?_eq_getElem hk]; rfl
  rw [e1, e2, List.take_succ_eq_append_getElem hl, List.take_succ_eq_append_getElem hk, h]
  constructor
  · intro e
    have := List.append_cancel_left e
    injection this
  · intro e
    rw [e]

set_option maxRecDepth 100000 in
set_option maxHeartbeats 400000 in
theorem sameInts_any (a b : Option Addr) (n m ca cb : Nat) (l k : List Int) (w : World) (hl : l.length = n) (hk : k.length = m) (hn : n ≤ 140737488355328) (ha : RdZ w a l) (hb : RdZ w b k) :
    Calls Tryd.prog 84 #[.slice a n ca, .slice b m cb] w fun e w' => e = .returned (.bool (decide (l = k))) ∧ ∃ q, w' = w.drewN q := by
  have Ha := Lib.hid ha
  have Hb := Lib.hid hb
  clear ha hb
  by_cases hnm : n = m
  · subst hnm
    have Hl := Lib.hid hl
    have Hk := Lib.hid hk
    clear hl hk
    go_enter Tryd.func84, Tryd.ntmps84
    go_wp2
    go_loopw [5] (fun v wr => ∃ i q : Nat, i ≤ n ∧ v = .int .i64 i ∧ Hid (l.take i = k.take i) ∧ wr = w.drewN q) (fun v _ => n - (intOf v).toNat)
    case atStart => exact ⟨0, 0, Nat.zero_le _, rfl, rfl, rfl⟩
    case round =>
      obtain ⟨i, q, hi, rfl, HT, rfl⟩ := hrel
      by_cases hlt : i < n
      · obtain ⟨b1, o1, rfl, c1⟩ := Ha.out i (by rw [Hl.out]; exact hlt)
        obtain ⟨b2, o2, rfl, c2⟩ := Hb.out i (by rw [Hk.out]; exact hlt)
        have HI := Lib.hid (take_eq_succ (by rw [Hl.out]; exact hlt) (by rw [Hk.out]; exact hlt) HT.out)
        have k0 : (0 : Int) ≤ (i : Int) := by omega
        have k1 : (i : Int) < (n : Int) := by omega
        have HN : Hid (l.getD i 0 ≠ k.getD i 0 → decide (l = k) = false) := fun h => by
          refine decide_eq_false fun e => h ?_
          rw [e]
        generalize l.getD i 0 = x at *
        generalize k.getD i 0 = y at *
        go_upto_region 6 with (fail)
        go_quiet (fail)
        by_cases e : x = y
        · have hx : (x == y) = true := by simp [e]
          have HT2 : Hid (l.take (i + 1) = k.take (i + 1)) := HI.out.2 e
          clear e
          go_wp2
          go_roundw
          case rel => exact ⟨i + 1, _, by omega, by go_num, HT2, rfl⟩
          case measure => simp [intOf]; omega
        · have hx : (x == y) = false := by simp [e]
          have Hf := Lib.hid (HN.out e)
          clear e
          go_wp2
          go_ret
          refine ⟨?_, _, rfl⟩
          rw [Hf.out]; rfl
      · obtain rfl : i = n := by omega
        have hf : decide (l = k) = true := by
          refine decide_eq_true ?_
          have := HT.out
          rw [List.take_of_length_le (by rw [Hl.out]; exact Nat.le_refl _), List.take_of_length_le (by rw [Hk.out]; exact Nat.le_refl _)] at this
          exact this
        have Hf := Lib.hid hf
        clear hf
        go_wp2
        go_ret
        refine ⟨?_, _, rfl⟩
        rw [Hf.out]; rfl
  · have hf : decide (l = k) = false := by
      refine decide_eq_false fun e => hnm ?_
      rw [← hl, ← hk, e]
    have Hf := Lib.hid hf
    clear hf hl hk
    have hne : ((n : Int) != (m : Int)) = true := by simp; omega
    go_enter Tryd.func84, Tryd.ntmps84
    go_wp2
    go_ret
    refine ⟨?_, 0, rfl⟩
    rw [Hf.out]; rfl

def FAgree (c k s c2 k2 s2 : Int) (l l2 : List Int) : Bool := decide (c = c2 ∧ k = k2 ∧ s = s2 ∧ l = l2)

set_option maxRecDepth 100000 in
set_option maxHeartbeats 1000000 in
theorem sameFault_any (c k s c2 k2 s2 : Int) (a b : Option Addr) (n m ca cb : Nat) (l l2 : List Int) (w : World) (hl : l.length = n) (hk : l2.length = m) (hn : n ≤ 140737488355328) (ha : RdZ w a l) (hb : RdZ w b l2) :
    Calls Tryd.prog 62 #[fV c k s (.slice a n ca), fV c2 k2 s2 (.slice b m cb)] w fun e w' => e = .returned (.bool (FAgree c k s c2 k2 s2 l l2)) ∧ Below w.heap.size w w' := by
  have HB : Hid (Below w.heap.size w ((w.alloc (.cells #[.int .i64 c, .int .i64 k, .int .i64 s, .slice a n ca] 79)).alloc (.cells #[.int .i64 c2, .int .i64 k2, .int .i64 s2, .slice b m cb] 79))) := ((Below.refl _ _).alloc (Nat.le_refl _) _).alloc (by simp) _
  have HS : Hid (Calls Tryd.prog 84 #[.slice a n ca, .slice b m cb] ((w.alloc (.cells #[.int .i64 c, .int .i64 k, .int .i64 s, .slice a n ca] 79)).alloc (.cells #[.int .i64 c2, .int .i64 k2, .int .i64 s2, .slice b m cb] 79)) fun e w' => e = .returned (.bool (decide (l = l2))) ∧ ∃ q, w' = ((w.alloc (.cells #[.int .i64 c, .int .i64 k, .int .i64 s, .slice a n ca] 79)).alloc (.cells #[.int .i64 c2, .int .i64 k2, .int .i64 s2, .slice b m cb] 79)).drewN q) :=
    sameInts_any a b n m ca cb l l2 _ hl hk hn (ha.below HB.out) (hb.below HB.out)
  clear ha hb hl hk
  have HA : Hid (FAgree c k s c2 k2 s2 l l2 = (c == c2 && (k == k2 && (s == s2 && decide (l = l2))))) := by
    show _ = _
    unfold FAgree
    rw [Bool.eq_iff_iff]
    simp
  generalize decide (l = l2) = q at *
  unfold fV
  by_cases hc : c = c2
  · have xc : (c == c2) = true := by simp [hc]
    rw [xc, Bool.true_and] at HA
    clear hc
    by_cases hk : k = k2
    · have xk : (k == k2) = true := by simp [hk]
      rw [xk, Bool.true_and] at HA
      clear hk
      by_cases hs : s = s2
      · have xs : (s == s2) = true := by simp [hs]
        rw [xs, Bool.true_and] at HA
        clear hs
        go_enter Tryd.func62, Tryd.ntmps62
        go_wp2_with (go_at_call 84; refine HS.out.mono ?_; rintro e w1 ⟨rfl, q9, rfl⟩)
        go_ret
        refine ⟨?_, below_q HB.out _⟩
        rw [HA.out]; rfl
      · have xs : (s == s2) = false := by simp [hs]
        rw [xs, Bool.false_and] at HA
        clear hs
        go_enter Tryd.func62, Tryd.ntmps62
        go_wp2_with (go_at_call 84; refine HS.out.mono ?_; rintro e w1 ⟨rfl, q9, rfl⟩)
        go_ret
        refine ⟨?_, below_q HB.out _⟩
        rw [HA.out]; rfl
    · have xk : (k == k2) = false := by simp [hk]
      rw [xk, Bool.false_and] at HA
      clear hk
      go_enter Tryd.func62, Tryd.ntmps62
      go_wp2_with (go_at_call 84; refine HS.out.mono ?_; rintro e w1 ⟨rfl, q9, rfl⟩)
      go_ret
      refine ⟨?_, below_q HB.out _⟩
      rw [HA.out]; rfl
  · have xc : (c == c2) = false := by simp [hc]
    rw [xc, Bool.false_and] at HA
    clear hc
    go_enter Tryd.func62, Tryd.ntmps62
    go_wp2_with (go_at_call 84; refine HS.out.mono ?_; rintro e w1 ⟨rfl, q9, rfl⟩)
    go_ret
    refine ⟨?_, below_q HB.out _⟩
    rw [HA.out]; rfl

set_option maxRecDepth 100000 in
set_option maxHeartbeats 1000000 in
/-- Same over no error or a bare one. -/
theorem Same_any {E : Nat → Addr} (o : Option Nat) (c2 k2 s2 : Int) (b : Option Addr) (m cb : Nat) (l2 : List Int) (w : World) (hE : ErrsAll w E egs) (ho : ∀ i, o = some i → i < 30) (hk : l2.length = m) (hb : RdZ w b l2) :
    Calls Tryd.prog 41 #[oV E o, fV c2 k2 s2 (.slice b m cb)] w fun e w' => e = .returned (.bool (FAgree (oC o) 0 0 c2 k2 s2 [] l2)) ∧ Below w.heap.size w w' := by
  have HB : Hid (Below w.heap.size w (w.alloc (.cells #[.int .i64 c2, .int .i64 k2, .int .i64 s2, .slice b m cb] 79))) := (Below.refl _ _).alloc (Nat.le_refl _) _
  have HF := Lib.hid (Fault_any o _ (hE.below HB.out) ho)
  have Hb := Lib.hid (hb.below HB.out)
  have Hk := Lib.hid hk
  have HSF : Hid (∀ ww, RdZ ww b l2 → Calls Tryd.prog 62 #[.agg #[.int .i64 (oC o), .int .i64 0, .int .i64 0, .slice none 0 0], .agg #[.int .i64 c2, .int .i64 k2, .int .i64 s2, .slice b m cb]] ww fun e w' => e = .returned (.bool (FAgree (oC o) 0 0 c2 k2 s2 [] l2)) ∧ Below ww.heap.size ww w') := fun ww h =>
    sameFault_any (oC o) 0 0 c2 k2 s2 none b 0 m 0 cb [] l2 ww rfl Hk.out (by omega) (RdZ.nil _ _) h
  clear hE ho hb hk
  generalize oC o = c at *
  generalize oV E o = v at *
  unfold fV at *
  go_enter Tryd.func41, Tryd.ntmps41
  go_wp2_with fail
  refine HF.out.mono ?_
  rintro e w1 ⟨rfl, hb1⟩
  obtain ⟨⟨d0, d1, d2, d3⟩, ⟨f0, f1, f2, f3⟩, hz1⟩ := cells4 hb1
  have HB1 := Lib.hid hb1
  clear hb1
  have HB2 : Hid (Below (w.alloc (.cells #[.int .i64 c2, .int .i64 k2, .int .i64 s2, .slice b m cb] 79)).heap.size (w.alloc (.cells #[.int .i64 c2, .int .i64 k2, .int .i64 s2, .slice b m cb] 79)) (w1.alloc (.cells #[.int .i64 c, .int .i64 0, .int .i64 0, .slice none 0 0] 79))) := HB1.out.alloc HB1.out.size _
  have HS2 := Lib.hid (HSF.out _ (Hb.out.below HB2.out))
  unfold fV
  clear HSF HF HB1
  go_wp2_with (go_at_call 62; refine HS2.out.mono ?_; rintro e w3 ⟨rfl, hb3⟩; have HB3 := Lib.hid (HB2.out.trans (hb3.mono HB2.out.size)); clear hb3)
  go_ret
  exact ⟨rfl, below_over HB3.out⟩

set_option maxRecDepth 100000 in
/-- Is over no error or one of package api's. -/
theorem Is_any {E : Nat → Addr} (o : Option Nat) (c : Int) (w : World) (hE : ErrsAll w E egs) (ho : ∀ i, o = some i → i < 30) :
    Calls Tryd.prog 17 #[oV E o, .int .i64 c] w fun e w' => e = .returned (.bool (decide (oC o = c))) ∧ Below w.heap.size w w' := by
  have HE := Lib.hid hE
  have HS : Hid (∀ ww, ErrsAll ww E egs → Calls Tryd.prog 41 #[oV E o, .agg #[.int .i64 c, .int .i64 0, .int .i64 0, .slice none 0 0]] ww fun e w' => e = .returned (.bool (decide (oC o = c))) ∧ Below ww.heap.size ww w') := fun ww h => by
    have h1 := Same_any o c 0 0 none 0 0 [] ww h ho rfl (RdZ.nil _ _)
    have e : FAgree (oC o) 0 0 c 0 0 [] [] = decide (oC o = c) := by
      unfold FAgree
      rw [Bool.eq_iff_iff]
      simp
    rw [e] at h1
    exact h1
  clear hE ho
  generalize decide (oC o = c) = q at *
  generalize oV E o = v at *
  go_enter Tryd.func17, Tryd.ntmps17
  go_wp2_with (first
    | (go_at_call 42; refine (bare_any _ _).mono ?_; rintro e w2 ⟨rfl, hB2⟩; have HB2 := Lib.hid hB2; clear hB2; unfold fV)
    | (go_at_call 41; refine (HS.out _ (HE.out.below HB2.out)).mono ?_; rintro e w3 ⟨rfl, hB3⟩; have HB3 := Lib.hid (HB2.out.trans (hB3.mono HB2.out.size)); clear hB3))
  go_ret
  exact ⟨rfl, HB3.out⟩
end Go.Proofs.YtcbljbdcnahfhaaDoor
/- Kerr -/
namespace Go.Proofs.YtcbljbdcnahfhaaDoor
open Go.RowKit

def kgi : List Nat := [0, 1, 6, 7, 8, 9, 14]
def kgs : List (Nat × List UInt8) := kgi.map fun i => egs.getD i (0, [])
theorem kgs_cell {w : World} {E : Nat → Addr} (hE : ErrsAll w E kgs) (i : Nat) (hi : i ∈ kgi) : w.cell? ⟨eg i, 0, none⟩ = some (eV E (eg i)) := by
  have h := (hE _ (List.mem_map_of_mem (f := fun i => egs.getD i (0, [])) hi)).1
  have e : (egs.getD i (0, [])).1 = eg i := by
    unfold eg
    rw [List.getD_eq_getElem?_getD, List.getD_eq_getElem?_getD, List.getElem?_map]
    cases egs[i]? <;> rfl
  simp only [e] at h
  exact h
theorem ErrsAll.kgs {w : World} {E : Nat → Addr} (h : ErrsAll w E egs) : ErrsAll w E kgs := fun p hp => by
  obtain ⟨i, hi, rfl⟩ := List.mem_map.1 hp
  have hlt : ∀ i ∈ kgi, i < egs.length := by decide
  have := hlt i hi
  refine h _ ?_
  rw [List.getD_eq_getElem?_getD, List.getElem?_eq_getElem this]
  exact List.getElem_mem _
theorem ErrsAll.keep {w w' : World} {E : Nat → Addr} {l : List (Nat × List UInt8)} (h : ErrsAll w E l) (hb : ∀ k, k < w.heap.size → w'.heap[k]? = w.heap[k]?) : ErrsAll w' E l := fun p hp => by
  obtain ⟨h1, s, c, t, h2, h3, h4⟩ := h p hp
  exact ⟨(World.cell?_of_block (hb _ (World.block_lt_of_cell? _ _ h1))).trans h1, s, c, t, (World.cell?_of_block (hb _ (World.block_lt_of_cell? _ _ h2))).trans h2, h3, (hb _ (World.block_lt_of_cell? _ _ h2)).trans h4⟩
end Go.Proofs.YtcbljbdcnahfhaaDoor
