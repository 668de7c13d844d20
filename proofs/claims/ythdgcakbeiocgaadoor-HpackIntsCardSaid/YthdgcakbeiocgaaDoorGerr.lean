/-
The thirty errors of package api as their variables hold them; what a number says of one.
-/
import Derived.Test.YthdgcakbeiocgaaDoorGbase
import Derived.Test.YthdgcakbeiocgaaDoorGblk
import Derived.LaidEql
import Derived.WideLaws
namespace Go.Proofs.YthdgcakbeiocgaaDoor
open Go.RowKit

/-- The errors' variables in the document's order, with their texts. -/
def egs : List (Nat × List UInt8) := [
  (3, [105, 116, 32, 101, 110, 100, 115, 32, 116, 111, 111, 32, 101, 97, 114, 108, 121]),
  (2, [116, 111, 111, 32, 108, 111, 110, 103]),
  (7, [110, 111, 32, 116, 97, 103]),
  (8, [110, 111, 32, 115, 117, 99, 104, 32, 103, 114, 111, 117, 112]),
  (9, [116, 111, 111, 32, 100, 101, 101, 112]),
  (10, [110, 111, 32, 116, 101, 120, 116]),
  (4, [110, 111, 32, 72, 117, 102, 102, 109, 97, 110, 32, 99, 111, 100, 101]),
  (6, [116, 104, 101, 114, 101, 32, 105, 115, 32, 110, 111, 110, 101]),
  (0, [116, 104, 101, 32, 116, 97, 98, 108, 101, 32, 109, 97, 121, 32, 110, 111, 116, 32, 98, 101, 32, 115, 111, 32, 108, 97, 114, 103, 101]),
  (5, [116, 104, 101, 32, 108, 105, 115, 116, 32, 105, 115, 32, 116, 111, 111, 32, 108, 97, 114, 103, 101]),
  (11, [110, 111, 32, 102, 114, 97, 109, 101]),
  (12, [110, 111, 32, 104, 101, 97, 100, 101, 114, 32, 108, 105, 115, 116, 32, 111, 102, 32, 116, 104, 97, 116, 32, 107, 105, 110, 100]),
  (13, [116, 104, 101, 32, 119, 105, 110, 100, 111, 119, 32, 105, 115, 32, 112, 97, 115, 115, 101, 100]),
  (14, [116, 104, 101, 32, 111, 116, 104, 101, 114, 32, 115, 105, 100, 101, 32, 100, 111, 101, 115, 32, 116, 104, 97, 116]),
  (1, [116, 104, 101, 32, 99, 111, 110, 110, 101, 99, 116, 105, 111, 110, 32, 116, 97, 107, 101, 115, 32, 110, 111, 32, 109, 111, 114, 101]),
  (15, [116, 111, 111, 32, 109, 97, 110, 121]),
  (16, [116, 104, 101, 32, 115, 116, 114, 101, 97, 109, 32, 105, 115, 32, 110, 111, 116, 32, 116, 104, 101, 114, 101, 32, 102, 111, 114, 32, 116, 104, 97, 116]),
  (17, [110, 111, 32, 116, 111, 107, 101, 110]),
  (18, [105, 116, 32, 100, 111, 101, 115, 32, 110, 111, 116, 32, 99, 111, 109, 101, 32, 104, 101, 114, 101]),
  (19, [110, 111, 32, 115, 117, 99, 104, 32, 110, 117, 109, 98, 101, 114]),
  (20, [110, 111, 32, 115, 117, 99, 104, 32, 110, 97, 109, 101]),
  (21, [105, 116, 32, 105, 115, 32, 116, 104, 101, 114, 101, 32, 97, 108, 114, 101, 97, 100, 121]),
  (22, [110, 111, 32, 115, 117, 99, 104, 32, 116, 121, 112, 101]),
  (23, [105, 116, 32, 108, 101, 97, 100, 115, 32, 98, 97, 99, 107, 32, 116, 111, 32, 105, 116, 115, 101, 108, 102]),
  (24, [110, 111, 32, 115, 117, 99, 104, 32, 102, 105, 108, 101]),
  (25, [110, 111, 32, 118, 97, 108, 117, 101, 32, 111, 102, 32, 116, 104, 97, 116, 32, 116, 121, 112, 101]),
  (26, [110, 111, 32, 115, 117, 99, 104, 32, 102, 105, 101, 108, 100]),
  (27, [110, 111, 32, 74, 83, 79, 78]),
  (28, [110, 111, 32, 115, 116, 97, 116, 117, 115]),
  (29, [110, 111, 32, 115, 116, 101, 112])]
def eg (i : Nat) : Nat := (egs.map (·.1)).getD i 0

/-- The variable's value: the error of its own pointer. -/
def eV (E : Nat → Addr) (g : Nat) : Value := .iface 166 (.pointer (some (E g)))

/-- Every one of the listed variables holds an error of its own text. -/
def ErrsAll (w : World) (E : Nat → Addr) (l : List (Nat × List UInt8)) : Prop :=
  ∀ p ∈ l, w.cell? ⟨p.1, 0, none⟩ = some (eV E p.1) ∧ ∃ s c t, w.cell? (E p.1) = some (.string s) ∧ s.data.toList = p.2 ∧ w.heap[(E p.1).block]? = some (.cells c t (0, 0))

theorem ErrsAll.below {w w' : World} {E : Nat → Addr} {l : List (Nat × List UInt8)} (h : ErrsAll w E l) (hb : Below w.heap.size w w') : ErrsAll w' E l := fun p hp => by
  obtain ⟨h1, s, c, t, h2, h3, h4⟩ := h p hp
  refine ⟨cell_below hb h1, s, c, t, cell_below hb h2, h3, ?_⟩
  rw [hb.block _ (World.block_lt_of_cell? w _ h2)]
  exact h4
theorem ErrsAll.cell {w : World} {E : Nat → Addr} {l : List (Nat × List UInt8)} (h : ErrsAll w E l) {p : Nat × List UInt8} (hp : p ∈ l) : w.cell? ⟨p.1, 0, none⟩ = some (eV E p.1) := (h p hp).1
theorem ErrsAll.ne {w : World} {E : Nat → Addr} {l : List (Nat × List UInt8)} (h : ErrsAll w E l) {p q : Nat × List UInt8} (hp : p ∈ l) (hq : q ∈ l) (hne : p.2 ≠ q.2) : E p.1 ≠ E q.1 := fun e => by
  obtain ⟨_, s, c, t, h2, h3, h4⟩ := h p hp
  obtain ⟨_, s', c', t', h2', h3', h4'⟩ := h q hq
  rw [e, h2'] at h2
  cases h2
  exact hne (h3.symm.trans h3')
theorem ErrsAll.blk {w : World} {E : Nat → Addr} {l : List (Nat × List UInt8)} (h : ErrsAll w E l) {p : Nat × List UInt8} (hp : p ∈ l) : ∃ c t, w.heap[(E p.1).block]? = some (.cells c t (0, 0)) := by
  obtain ⟨_, s, c, t, _, _, h4⟩ := h p hp
  exact ⟨c, t, h4⟩

theorem egs_len : egs.length = 30 := by decide
theorem egs_mem (i : Nat) (hi : i < 30) : ∃ t, (eg i, t) ∈ egs ∧ egs[i]? = some (eg i, t) := by
  have h : i < egs.length := by rw [egs_len]; exact hi
  refine ⟨(egs[i]).2, ?_, ?_⟩
  · have e : (eg i, (egs[i]).2) = egs[i] := by
      unfold eg
      rw [List.getD_eq_getElem?_getD, List.getElem?_map, List.getElem?_eq_getElem h]
      rfl
    rw [e]; exact List.getElem_mem h
  · rw [List.getElem?_eq_getElem h]
    unfold eg
    rw [List.getD_eq_getElem?_getD, List.getElem?_map, List.getElem?_eq_getElem h]
    rfl
theorem egs_texts : ∀ i, i < 30 → ∀ j, j < 30 → i ≠ j → (egs.map (·.2)).getD i [] ≠ (egs.map (·.2)).getD j [] := by decide +kernel
theorem egs_text {i : Nat} {t : List UInt8} (h : egs[i]? = some (eg i, t)) : (egs.map (·.2)).getD i [] = t := by
  rw [List.getD_eq_getElem?_getD, List.getElem?_map, h]
  rfl

theorem comp_err : (Tryd.prog.info? 166).map (·.comparable) = some true := by kernel_rfl
theorem size_err : (Tryd.prog.info? 181).map (·.size) = some 1 := by kernel_rfl

/-- Two of the errors are the same one just where they are of one place. -/
theorem run_eql_err {w : World} {E : Nat → Addr} (hE : ErrsAll w E egs) (i j : Nat) (hi : i < 30) (hj : j < 30) :
    (binOp .eql 29 (eV E (eg i)) (eV E (eg j))).run Tryd.prog w = .ok (.bool (decide (i = j))) w := by
  obtain ⟨i1, hi1, hc⟩ := Option.map_eq_some_iff.1 comp_err
  obtain ⟨j1, hj1, hz⟩ := Option.map_eq_some_iff.1 size_err
  by_cases e : i = j
  · subst e
    rw [decide_eq_true rfl]
    exact run_eql_iface_ptr_same w (E (eg i)) Tryd.underlying29 Tryd.underlying166 hi1 hc hj1
  · rw [decide_eq_false e]
    obtain ⟨t, hm, ht⟩ := egs_mem i hi
    obtain ⟨t', hm', ht'⟩ := egs_mem j hj
    have hne : t ≠ t' := by
      have := egs_texts i hi j hj e
      rw [egs_text ht, egs_text ht'] at this
      exact this
    obtain ⟨c, ty, hb⟩ := hE.blk hm
    obtain ⟨c', ty', hb'⟩ := hE.blk hm'
    exact run_eql_iface_ptr_other w Tryd.underlying29 Tryd.underlying166 hi1 hc hj1 (by rw [hz]; decide) (hE.ne hm hm' hne) hb hb'
end Go.Proofs.YthdgcakbeiocgaaDoor
