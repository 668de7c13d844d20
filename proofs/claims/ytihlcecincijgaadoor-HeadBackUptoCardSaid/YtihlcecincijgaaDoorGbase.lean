/-
What every walk leans on: what a slice of bytes reads as, and that this stays where old memory stays.
-/
import Derived.Test.YtihlcecincijgaaDoorProg
import Derived.WalkKit
import Derived.Outline
import Derived.Deep.QuietTactic
import Derived.BigQuiet
import Derived.Lib.Hide
import Derived.Laws.BitsAllLaws
namespace Go.Proofs.YtihlcecincijgaaDoor
open Go.RowKit

/-- The slice at a reads as the bytes l, in blocks below B. -/
def Rd (B : Nat) (w : World) (a : Option Addr) (l : List Nat) : Prop :=
  (∀ x ∈ l, x < 256) ∧ ∀ j, j < l.length → ∃ b o, a = some ⟨b, o, none⟩ ∧ b < B ∧ w.cell? ⟨b, o + j, none⟩ = some (.int .u8 (l.getD j 0 : Nat))

theorem Rd.nil (B : Nat) (w : World) (a : Option Addr) : Rd B w a [] := ⟨by simp, fun j hj => by simp at hj⟩

theorem Rd.lt {B : Nat} {w : World} {a : Option Addr} {l : List Nat} (h : Rd B w a l) (j : Nat) : l.getD j 0 < 256 := by
  rw [List.getD_eq_getElem?_getD]
  by_cases hj : j < l.length
  · rw [List.getElem?_eq_getElem hj]; exact h.1 _ (List.getElem_mem hj)
  · rw [List.getElem?_eq_none (by omega)]; simp

theorem Rd.cell {B : Nat} {w : World} {a : Option Addr} {l : List Nat} (h : Rd B w a l) {j : Nat} (hj : j < l.length) : ∃ b o, a = some ⟨b, o, none⟩ ∧ w.cell? ⟨b, o + j, none⟩ = some (.int .u8 (l.getD j 0 : Nat)) := by
  obtain ⟨b, o, e, _, hc⟩ := h.2 j hj
  exact ⟨b, o, e, hc⟩

theorem Rd.ptr {B : Nat} {w : World} {a : Option Addr} {l : List Nat} (h : Rd B w a l) (hl : l ≠ []) :
    ∃ b o, a = some ⟨b, o, none⟩ ∧ b < B ∧ ∀ j, j < l.length → w.cell? ⟨b, o + j, none⟩ = some (.int .u8 (l.getD j 0 : Nat)) := by
  have h0 : 0 < l.length := List.length_pos_iff.2 hl
  obtain ⟨b, o, rfl, hb, _⟩ := h.2 0 h0
  refine ⟨b, o, rfl, hb, fun j hj => ?_⟩
  obtain ⟨b', o', e, _, hc⟩ := h.2 j hj
  cases e
  exact hc

theorem Rd.mk {B : Nat} {w : World} {b o : Nat} {l : List Nat} (h : ∀ x ∈ l, x < 256) (hb : b < B) (hc : ∀ j, j < l.length → w.cell? ⟨b, o + j, none⟩ = some (.int .u8 (l.getD j 0 : Nat))) :
    Rd B w (some ⟨b, o, none⟩) l := ⟨h, fun j hj => ⟨b, o, rfl, hb, hc j hj⟩⟩

theorem Rd.mono {B B' : Nat} {w : World} {a : Option Addr} {l : List Nat} (h : Rd B w a l) (hB : B ≤ B') : Rd B' w a l :=
  ⟨h.1, fun j hj => by obtain ⟨b, o, e, hb, hc⟩ := h.2 j hj; exact ⟨b, o, e, Nat.lt_of_lt_of_le hb hB, hc⟩⟩

theorem Rd.of_cells {B : Nat} {w w' : World} {a : Option Addr} {l : List Nat} (h : Rd B w a l) (hw : ∀ p v, w.cell? p = some v → w'.cell? p = some v) : Rd B w' a l :=
  ⟨h.1, fun j hj => by obtain ⟨b, o, e, hb, hc⟩ := h.2 j hj; exact ⟨b, o, e, hb, hw _ _ hc⟩⟩

/-- Old memory below B reads as it did, wherever what lies from B on has turned. -/
theorem Rd.belowB {B : Nat} {w w' : World} {a : Option Addr} {l : List Nat} (h : Rd B w a l) (hb : Below B w w') : Rd B w' a l :=
  ⟨h.1, fun j hj => by obtain ⟨b, o, e, hlt, hc⟩ := h.2 j hj; exact ⟨b, o, e, hlt, (hb.cell (p := ⟨b, o + j, none⟩) hlt).trans hc⟩⟩

theorem cell_below {w w' : World} (h : Below w.heap.size w w') {p : Addr} {v : Value} (hc : w.cell? p = some v) : w'.cell? p = some v :=
  (h.cell (World.block_lt_of_cell? w p hc)).trans hc

theorem Rd.below {B : Nat} {w w' : World} {a : Option Addr} {l : List Nat} (h : Rd B w a l) (hb : Below w.heap.size w w') : Rd B w' a l := h.of_cells fun _ _ => cell_below hb

theorem Rd.drewN {B : Nat} {w : World} {a : Option Addr} {l : List Nat} (h : Rd B w a l) (q : Nat) : Rd B (w.drewN q) a l := h

/-- Below, once more behind a quiet stretch. -/
theorem below_q {B : Nat} {a w : World} (h : Below B a w) (n : Nat) : Below B a (w.drewN n) := h.trans ⟨rfl, rfl, rfl, Nat.le_refl _, fun _ _ => rfl⟩

/-- Where a slice from lo on lies. -/
def cutA (a : Option Addr) (cap lo : Nat) : Option Addr := if cap = lo then a else a.map (·.add lo)

theorem run_from (a : Option Addr) (n cap lo : Nat) (h : lo ≤ n) (w : World) :
    (Instr.slice 91 (.slice a n cap) (some (.int .i64 (lo : Nat))) none none).run Tryd.prog w = .ok (.slice (cutA a cap lo) (n - lo) (cap - lo)) w := by
  have hs : ∀ w, (sizeOf 5).run Tryd.prog w = .ok 1 w := fun _ => by kernel_rfl
  have := Go.run_slice_l (P := Tryd.prog) (w := w) 91 a n cap (by kernel_rfl) .i64 lo (by omega) (by omega)
  rw [this, show Tryd.prog.elem 91 = 5 by kernel_rfl, hs]
  simp [Result.andThen, sliced, cutA]
theorem run_to (k : IntKind) (a : Option Addr) (n cap hi : Nat) (h : hi ≤ cap) (w : World) :
    (Instr.slice 91 (.slice a n cap) none (some (.int k (hi : Nat))) none).run Tryd.prog w = .ok (.slice (cutA a cap 0) hi cap) w := by
  have hs : ∀ w, (sizeOf 5).run Tryd.prog w = .ok 1 w := fun _ => by kernel_rfl
  have := Go.run_slice_h (P := Tryd.prog) (w := w) 91 a n cap (by kernel_rfl) k hi (by omega) (by omega)
  rw [this, show Tryd.prog.elem 91 = 5 by kernel_rfl, hs]
  simp [Result.andThen, sliced, cutA]

theorem Rd.drop {B : Nat} {w : World} {a : Option Addr} {l : List Nat} (h : Rd B w a l) {cap lo : Nat} (hc : l.length ≤ cap) : Rd B w (cutA a cap lo) (l.drop lo) := by
  refine ⟨fun x hx => h.1 x (List.mem_of_mem_drop hx), fun j hj => ?_⟩
  rw [List.length_drop] at hj
  obtain ⟨b, o, rfl, hb, hcell⟩ := h.2 (lo + j) (by omega)
  unfold cutA
  rw [if_neg (by omega)]
  refine ⟨b, o + lo, by simp [Addr.add], hb, ?_⟩
  rw [Nat.add_assoc, hcell]
  simp [List.getD_eq_getElem?_getD]

theorem Rd.take {B : Nat} {w : World} {a : Option Addr} {l : List Nat} (h : Rd B w a l) (n : Nat) : Rd B w a (l.take n) := by
  refine ⟨fun x hx => h.1 x (List.mem_of_mem_take hx), fun j hj => ?_⟩
  rw [List.length_take] at hj
  obtain ⟨b, o, rfl, hb, hcell⟩ := h.2 j (by omega)
  refine ⟨b, o, rfl, hb, ?_⟩
  rw [hcell]
  simp [List.getD_eq_getElem?_getD, List.getElem?_take_of_lt (show j < n by omega)]

theorem Rd.cut0 {B : Nat} {w : World} {a : Option Addr} {l : List Nat} (h : Rd B w a l) {cap : Nat} : Rd B w (cutA a cap 0) l := by
  unfold cutA
  split
  · exact h
  · refine ⟨h.1, fun j hj => ?_⟩
    obtain ⟨b, o, rfl, hb, hcell⟩ := h.2 j hj
    exact ⟨b, o, by simp [Addr.add], hb, hcell⟩

end Go.Proofs.YtihlcecincijgaaDoor
