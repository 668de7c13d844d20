/-
Blocks of cells that are known by a function of their places: what holds of them behind a store, an alloc, a draw.
-/
import Derived.Test.YthdgcakbeiocgaaDoorGbase
import Derived.Laws.NewBlocks
import Derived.Deep.MidRow
import Derived.Deep.RegionHeld3
import Derived.Deep.Cut
namespace Go.Proofs.YthdgcakbeiocgaaDoor
open Go.RowKit

theorem addr_ne {b i j : Nat} (h : i ≠ j) : (⟨b, i, none⟩ : Addr) ≠ ⟨b, j, none⟩ := fun e => h (congrArg Addr.off e)
/-- A store elsewhere in a block turns no cell, behind a draw. -/
theorem far_drew {w : World} {b i j : Nat} {v u : Value} (h : i ≠ j) (hc : w.cell? ⟨b, j, none⟩ = some u) : (w.setCell ⟨b, i, none⟩ v).drew.cell? ⟨b, j, none⟩ = some u :=
  (World.cell?_setCell_other _ _ _ _ (addr_ne h)).trans hc

/-- Block g holds n cells, and they may be written: cell j is f j. -/
def Blk (w : World) (g n : Nat) (f : Nat → Value) : Prop := ∀ j, j < n → w.cell? ⟨g, j, none⟩ = some (f j) ∧ w.frozen? ⟨g, j, none⟩ = false

theorem Blk.ext {w : World} {g n : Nat} {f h : Nat → Value} (a : Blk w g n f) (e : ∀ j, j < n → f j = h j) : Blk w g n h :=
  fun j hj => by rw [← e j hj]; exact a j hj
theorem Blk.set {w : World} {g n : Nat} {f : Nat → Value} (a : Blk w g n f) {i : Nat} (hi : i < n) (v : Value) : Blk (w.setCell ⟨g, i, none⟩ v) g n (fun j => if j = i then v else f j) := by
  intro j hj
  refine ⟨?_, by rw [World.frozen?_setCell]; exact (a j hj).2⟩
  by_cases e : j = i
  · subst e; rw [World.cell?_setCell_same _ _ _ (a j hj).1]; simp
  · rw [World.cell?_setCell_other _ _ _ _ (by intro h; cases h; exact e rfl), (a j hj).1]
    show _ = some (if j = i then v else f j)
    rw [if_neg e]
theorem Blk.set_other {w : World} {g n : Nat} {f : Nat → Value} (a : Blk w g n f) {p : Addr} (hp : p.block ≠ g) (v : Value) : Blk (w.setCell p v) g n f := by
  intro j hj
  rw [World.frozen?_setCell, World.cell?_setCell_other _ _ _ _ (by intro h; rw [h] at hp; exact hp rfl)]
  exact a j hj
theorem Blk.drewN {w : World} {g n : Nat} {f : Nat → Value} (a : Blk w g n f) (q : Nat) : Blk (w.drewN q) g n f := a
theorem Blk.drew {w : World} {g n : Nat} {f : Nat → Value} (a : Blk w g n f) : Blk w.drew g n f := fun j hj => by simpa using a j hj
theorem Blk.lt {w : World} {g n : Nat} {f : Nat → Value} (a : Blk w g n f) (hn : 0 < n) : g < w.heap.size := World.block_lt_of_cell? w _ (a 0 hn).1
theorem Blk.alloc {w : World} {g n : Nat} {f : Nat → Value} (a : Blk w g n f) (o : Obj) : Blk (w.alloc o) g n f := fun j hj => by
  have hb := World.block_lt_of_cell? w _ (a j hj).1
  exact ⟨by rw [World.cell?_alloc_lt _ _ _ hb]; exact (a j hj).1, by rw [World.frozen?_alloc_past _ _ _ hb]; exact (a j hj).2⟩
theorem Blk.below {w w' : World} {g n : Nat} {f : Nat → Value} (a : Blk w g n f) (hb : Below w.heap.size w w') : Blk w' g n f := fun j hj => by
  have hlt := World.block_lt_of_cell? w _ (a j hj).1
  exact ⟨(hb.cell (p := ⟨g, j, none⟩) hlt).trans (a j hj).1, (hb.frozen (p := ⟨g, j, none⟩) hlt).trans (a j hj).2⟩
theorem Blk.belowB {w w' : World} {B g n : Nat} {f : Nat → Value} (a : Blk w g n f) (hb : Below B w w') (hg : g < B) : Blk w' g n f := fun j hj =>
  ⟨(hb.cell (p := ⟨g, j, none⟩) hg).trans (a j hj).1, (hb.frozen (p := ⟨g, j, none⟩) hg).trans (a j hj).2⟩
theorem Blk.new (w : World) (C : Array Value) (t : TypeId) (f : Nat → Value) (h : ∀ j, j < C.size → C[j]? = some (f j)) : Blk (w.alloc (.cells C t)) w.heap.size C.size f := by
  intro j hj
  have hb := heap_alloc_new w (.cells C t)
  refine ⟨?_, ?_⟩
  · rw [cell_of_row (w.alloc (.cells C t)) w.heap.size j C t (0, 0) hb, h j hj]
  · exact World.frozen?_alloc_new w C t j

/-- A variable of many cells is made. -/
theorem wpList_alloc_big {P : Program} {ops : Array Oper} {rest : List Oper} {op : Oper} {a : Act} {w : World} {Q : Exit → Act → World → Prop} (hgd : op.guard = none) (ty : TypeId) (ho : op.op = .alloc ty) (C : Array Value)
    (hrun : ∀ w, (Instr.alloc ty true (.tuple #[])).run P w = .ok (.pointer (some ⟨w.heap.size, 0, none⟩)) (w.alloc (.cells C ty)))
    (h : wpList P ops Q rest (a.put op.dst (.pointer (some ⟨w.heap.size, 0, none⟩))) (w.alloc (.cells C ty))) : wpList P ops Q (op :: rest) a w :=
  wpList_plain hgd fun _ hK => by
    unfold Oper.wp execOp
    simp only [ho, hrun, Sem.run_bind, Sem.run_pure, Result.andThen_ok]
    exact hK _ _ h

theorem Blk.setCells_other {w : World} {g n : Nat} {f : Nat → Value} (a : Blk w g n f) {b : Nat} (hb : g ≠ b) (o : Nat) (vs : List Value) : Blk (w.setCells b o vs) g n f := fun j hj =>
  ⟨by rw [World.cell?_setCells_out b vs o w ⟨g, j, none⟩ (fun h _ => absurd h hb)]; exact (a j hj).1, by rw [World.frozen?_setCells]; exact (a j hj).2⟩
theorem Blk.setCells {w : World} {g n : Nat} {f : Nat → Value} (a : Blk w g n f) {vs : List Value} (hv : vs.length = n) {h : Nat → Value} (hh : ∀ j, j < n → vs[j]? = some (h j)) : Blk (w.setCells g 0 vs) g n h := fun j hj => by
  refine ⟨?_, by rw [World.frozen?_setCells]; exact (a j hj).2⟩
  have := World.cell?_setCells_in g vs 0 w (fun i hi => by rw [Nat.zero_add, (a i (by omega)).1]; rfl) j (by omega)
  rw [Nat.zero_add] at this
  rw [this, ← hh j hj, List.getElem?_eq_getElem (by omega)]
theorem below_setCells (b : Nat) {B : Nat} (hb : B ≤ b) {a : World} : ∀ (vs : List Value) (o : Nat) {w : World}, Below B a w → Below B a (w.setCells b o vs)
  | [], _, _, h => h
  | v :: vs, o, w, h => by
    rw [World.setCells]
    exact below_setCells b hb vs (o + 1) (h.setCell (by exact hb) v)
theorem size_setCells (b : Nat) : ∀ (vs : List Value) (o : Nat) (w : World), (w.setCells b o vs).heap.size = w.heap.size
  | [], _, _ => rfl
  | v :: vs, o, w => by rw [World.setCells, size_setCells b vs, World.size_setCell]
theorem Blk.rangeAt {w : World} {g n : Nat} {f : Nat → Value} (a : Blk w g n f) {o : Nat} {cs : List Value} (h : ∀ j, j < cs.length → o + j < n ∧ cs[j]? = some (f (o + j))) : w.rangeAt g o cs := fun j v hv => by
  obtain ⟨h1, h2⟩ := h j (List.getElem?_eq_some_iff.1 hv).1
  rw [h2] at hv
  cases hv
  exact (a (o + j) h1).1
theorem Blk.there {w : World} {g n : Nat} {f : Nat → Value} (a : Blk w g n f) {o m : Nat} (h : o + m ≤ n) : w.there g o m := fun j hj => by
  obtain ⟨h1, h2⟩ := a (o + j) (by omega)
  exact ⟨by rw [h1]; rfl, h2⟩

/-- A result that lies in a variable of many cells. -/
theorem results_cell1 {P : Program} {fn : Func} {p : Tmp} {ty : TypeId} (h : fn.results = #[.cell p ty]) (tmps : Array Value) {w : World} {ad : Addr} (ha : tmps.getD p undef = .pointer (some ad)) {v : Value} (hl : (loadVar ty ad).run P w = .ok v w) :
    (results fn tmps).run P w = .ok v w := by
  have ha1 : tmps[p]?.getD undef = .pointer (some ad) := by rw [← ha]; simp
  have ha2 : (asAddr (.pointer (some ad))).run P w = .ok ad w := by simp [asAddr]
  simp [results, h, ha1, Sem.run_bind, Result.andThen, ha2, hl]

/-- A slice of many cells is made. -/
theorem wpList_make_big {P : Program} {ops : Array Oper} {rest : List Oper} {op : Oper} {a : Act} {w : World} {Q : Exit → Act → World → Prop} (hgd : op.guard = none) (ty : TypeId) (x y : Operand) (ho : op.op = .makeSlice ty x y) (v : Value) (w' : World)
    (hrun : (Instr.makeSlice ty (a.eval x) (a.eval y)).run P w = .ok v w')
    (h : wpList P ops Q rest (a.put op.dst v) w') : wpList P ops Q (op :: rest) a w :=
  wpList_plain hgd fun _ hK => by
    unfold Oper.wp execOp
    simp only [ho, hrun, Sem.run_bind, Sem.run_pure, Result.andThen_ok]
    exact hK _ _ h

/-- A slice of many values is built. -/
theorem wpList_buildSlice_big {P : Program} {ops : Array Oper} {rest : List Oper} {op : Oper} {a : Act} {w : World} {Q : Exit → Act → World → Prop} (hgd : op.guard = none) (ty : TypeId) (len : Nat) (parts : Array (Nat × Operand)) (ho : op.op = .buildSlice ty len parts)
    (vs : Array (Nat × Value)) (hvs : (parts.map fun (i, x) => (i, a.eval x)) = vs) (v : Value) (w' : World) (hrun : (Instr.buildSlice ty len vs).run P w = .ok v w')
    (h : wpList P ops Q rest (a.put op.dst v) w') : wpList P ops Q (op :: rest) a w :=
  wpList_plain hgd fun _ hK => by
    unfold Oper.wp execOp
    simp only [ho, hvs, hrun, Sem.run_bind, Sem.run_pure, Result.andThen_ok]
    exact hK _ _ h
end Go.Proofs.YthdgcakbeiocgaaDoor
