/-
The walk of wire.readers: the map of functions that it makes, and what a look-up in it gives.
-/
import Derived.Test.YthipecjjmboecaaDoorWbody
import Derived.Maps.Own
import Derived.WideMake
namespace Go.Proofs.YthipecjjmboecaaDoor
open Go.RowKit

theorem run_put {P : Program} (w : World) (mty kt et : TypeId) (r clock : Nat) (es : Array MapEntry) (n : Int) (val : Value) (hm : P.underlying mty = some (.map kt et)) (hk : P.underlying kt = some (.int .i64))
    (hb : w.heap[r]? = some (.map es clock)) (hf : Instr.findNow (.int .i64) (.int .i64 n) es.toList 0 = some none) :
    (Instr.mapUpdate mty (.map (some r)) (.int .i64 n) val).run P w = .ok () { w with heap := w.heap.setIfInBounds r (.map (es.push { key := .int .i64 n, val := val, born := clock }) (clock + 1)) } := by
  have hc : (Instr.checkKey false 10000 kt (.int .i64 n)).run P w = .ok () w := MapKept.run_checkKey (k := .int .i64 n) hk (by simp [MapKept.IsKey]) false 9999
  simp [Instr.mapUpdate, run_underlying hm, MapKept.run_getObj_map hb, hc, MapKept.run_findKey hk hf, MapKept.run_setObj_map _ hb, Result.andThen]

theorem run_get {P : Program} (w : World) (mty kt et : TypeId) (r clock : Nat) (es : Array MapEntry) (n : Int) (i : Nat) (val : Value) (hm : P.underlying mty = some (.map kt et)) (hk : P.underlying kt = some (.int .i64))
    (hb : w.heap[r]? = some (.map es clock)) (hf : Instr.findNow (.int .i64) (.int .i64 n) es.toList 0 = some (some (i, val))) :
    (Instr.lookup mty (.map (some r)) (.int .i64 n) false).run P w = .ok val w := by
  have hc : ∀ b, (Instr.checkKey b 10000 kt (.int .i64 n)).run P w = .ok () w := fun b => MapKept.run_checkKey (k := .int .i64 n) hk (by simp [MapKept.IsKey]) b 9999
  simp [Instr.lookup, run_underlying hm, MapKept.run_getObj_map hb, hc, MapKept.run_findKey hk hf, Result.andThen]

theorem wpList_put {P : Program} (w : World) {ops : Array Oper} {rest : List Oper} {o : Oper} {a : Act} {Q : Exit → Act → World → Prop}
    (hg : o.guard = none) (m x v : Operand) (t : TypeId) (hop : o.op = Op.insert t m x v) (kt et : TypeId) (ht : P.underlying t = some (.map kt et)) (hk : P.underlying kt = some (.int .i64))
    (b clock : Nat) (es : Array MapEntry) (n : Int) (val : Value) (hm : a.eval m = .map (some b)) (hx : a.eval x = .int .i64 n) (hv : a.eval v = val)
    (hb : w.heap[b]? = some (.map es clock)) (hf : Instr.findNow (.int .i64) (.int .i64 n) es.toList 0 = some none)
    (hK : ∀ w', w'.heap[b]? = some (.map (es.push { key := .int .i64 n, val := val, born := clock }) (clock + 1)) → w.grownBy w' (some b) → wpList P ops Q rest (a.put o.dst undef) w') :
    wpList P ops Q (o :: rest) a w := by
  refine wpList_plain hg fun K' hK' => ?_
  have hrun := run_put (P := P) w t kt et b clock es n val ht hk hb hf
  have hlt := (Array.getElem?_eq_some_iff.1 hb).1
  unfold Oper.wp
  simp [execOp, hop, hm, hx, hv, hrun, Result.andThen]
  refine hK' _ _ (hK _ ?_ ⟨rfl, rfl, rfl, by simp, fun k hk hne => ?_⟩)
  · simp [hlt]
  · have : b ≠ k := fun e => hne (by rw [e])
    simp [this]

/-- The map of readers, its closures' variables with it. -/
def ByAt (w : World) (bm : Nat) : Prop :=
  ∃ c8 c4 cb : Nat,
    w.heap[bm]? = some (.map #[{ key := .int .i64 0, val := .func (.func 63) #[] #[], born := 0 },
      { key := .int .i64 1, val := .func (.func 78) #[] #[.pointer (some ⟨c8, 0, none⟩)], born := 1 },
      { key := .int .i64 2, val := .func (.func 65) #[] #[], born := 2 },
      { key := .int .i64 3, val := .func (.func 66) #[] #[.pointer (some ⟨cb, 0, none⟩)], born := 3 },
      { key := .int .i64 4, val := .func (.func 68) #[] #[], born := 4 },
      { key := .int .i64 5, val := .func (.func 78) #[] #[.pointer (some ⟨c4, 0, none⟩)], born := 5 }] 6) ∧
    w.cell? ⟨c8, 0, none⟩ = some (.int .i64 8) ∧ w.cell? ⟨c4, 0, none⟩ = some (.int .i64 4) ∧ w.cell? ⟨cb, 0, none⟩ = some (.map (some bm))

/-- The same, its variables' places named. -/
def ByIn (w : World) (bm c8 c4 cb : Nat) : Prop :=
    w.heap[bm]? = some (.map #[{ key := .int .i64 0, val := .func (.func 63) #[] #[], born := 0 },
      { key := .int .i64 1, val := .func (.func 78) #[] #[.pointer (some ⟨c8, 0, none⟩)], born := 1 },
      { key := .int .i64 2, val := .func (.func 65) #[] #[], born := 2 },
      { key := .int .i64 3, val := .func (.func 66) #[] #[.pointer (some ⟨cb, 0, none⟩)], born := 3 },
      { key := .int .i64 4, val := .func (.func 68) #[] #[], born := 4 },
      { key := .int .i64 5, val := .func (.func 78) #[] #[.pointer (some ⟨c4, 0, none⟩)], born := 5 }] 6) ∧
    w.cell? ⟨c8, 0, none⟩ = some (.int .i64 8) ∧ w.cell? ⟨c4, 0, none⟩ = some (.int .i64 4) ∧ w.cell? ⟨cb, 0, none⟩ = some (.map (some bm))
theorem ByIn.at {w : World} {bm c8 c4 cb : Nat} (h : ByIn w bm c8 c4 cb) : ByAt w bm := ⟨c8, c4, cb, h⟩

theorem ByAt.lt {w : World} {bm : Nat} (h : ByAt w bm) : bm < w.heap.size := by
  obtain ⟨_, _, _, h, _⟩ := h
  exact (Array.getElem?_eq_some_iff.1 h).1

theorem ByAt.below {w w' : World} {bm : Nat} (h : ByAt w bm) (hb : Below w.heap.size w w') : ByAt w' bm := by
  have hlt := h.lt
  obtain ⟨c8, c4, cb, h1, h2, h3, h4⟩ := h
  exact ⟨c8, c4, cb, (hb.block bm hlt).trans h1, cell_below hb h2, cell_below hb h3, cell_below hb h4⟩

theorem fixedReader_any (n : Int) (w : World) :
    Calls Tryd.prog 64 #[.int .i64 n] w fun e w' => e = .returned (.func (.func 78) #[] #[.pointer (some ⟨w.heap.size, 0, none⟩)]) ∧ w.alloc (.cells #[.int .i64 n] 3) = w' := by
  go_enter Tryd.func64, Tryd.ntmps64
  go_wp2
  go_ret
  exact ⟨rfl, rfl⟩

/-- what readers hands back -/
def ByPost (w : World) (e : Ending) (w' : World) : Prop := ∃ bm, e = .returned (.map (some bm)) ∧ w.heap.size ≤ bm ∧ ByAt w' bm ∧ Below w.heap.size w w'

/-- .. and where it all lies: in new memory. -/
def ByNew (w : World) (e : Ending) (w' : World) : Prop := ∃ bm c8 c4 cb, e = .returned (.map (some bm)) ∧ (w.heap.size ≤ bm ∧ w.heap.size ≤ c8 ∧ w.heap.size ≤ c4 ∧ w.heap.size ≤ cb) ∧ ByIn w' bm c8 c4 cb ∧ Below w.heap.size w w'

set_option maxRecDepth 100000 in
theorem readers_new (w : World) : Calls Tryd.prog 45 #[] w (ByNew w) := by
  have hmm := @run_makeMap Tryd.prog
  have h0 : ((w.alloc (.cells #[.map none] 83)).alloc (.map #[] 0)).heap[w.heap.size + 1]? = some (.map #[] 0) := by
    have := heap_alloc_new (w.alloc (.cells #[.map none] 83)) (.map #[] 0)
    simpa using this
  have u84 : Tryd.prog.underlying 83 = some (.map 3 105) := by kernel_rfl
  have u3 : Tryd.prog.underlying 3 = some (.int .i64) := by kernel_rfl
  have hA : ((w.alloc (.cells #[.map none] 83)).alloc (.map #[] 0)).heap[w.heap.size]? = some (.cells #[.map none] 83 (0, 0)) := by
    rw [heap_alloc_old _ _ (by simp)]
    exact heap_alloc_new w _
  go_enter Tryd.func45, Tryd.ntmps45
  go_wp2_with (refine wpList_put _ rfl _ _ _ _ rfl _ _ u84 u3 (w.heap.size + 1) _ _ _ _ rfl rfl rfl (by assumption) (by rfl) ?_; intro w1 hb1 hg1)
  have hA1 := (hg1.block w.heap.size (by simp; omega) (by simp)).trans hA
  have hz1 : w.heap.size + 2 ≤ w1.heap.size := by have := hg1.size; simpa using this
  clear hA h0
  refine (fixedReader_any 8 _).mono ?_
  rintro e w2 ⟨rfl, rfl⟩
  have hb2 := (heap_alloc_old w1 (.cells #[.int .i64 8] 3) (show w.heap.size + 1 < w1.heap.size by omega)).trans hb1
  go_wp2_with (refine wpList_put _ rfl _ _ _ _ rfl _ _ u84 u3 (w.heap.size + 1) _ _ _ _ rfl rfl rfl (by assumption) (by rfl) ?_; intro w3 hb3 hg3)
  rename_i w21 hb21 hg21 w22 hb22 hg22 w23 hb23 hg23 _ _
  have c8 : w3.cell? ⟨w1.heap.size, 0, none⟩ = some (.int .i64 8) := by
    refine hg3.cell (hg23.cell (hg22.cell (hg21.cell ?_ ?_) ?_) ?_) ?_
    · simp
    all_goals (intro e; simp at e; omega)
  have hs3 : w.heap.size + 3 ≤ w3.heap.size := by
    have h1 := hg21.size; have h2 := hg22.size; have h3 := hg23.size; have h4 := hg3.size
    simp at h1
    omega
  have hA3 : w3.heap[w.heap.size]? = some (.cells #[.map none] 83 (0, 0)) := by
    have h1 := hg21.size; have h2 := hg22.size; have h3 := hg23.size
    simp at h1
    rw [hg3.block _ (by omega) (by simp), hg23.block _ (by omega) (by simp), hg22.block _ (by omega) (by simp), hg21.block _ (by simp; omega) (by simp), heap_alloc_old _ _ (by omega)]
    exact hA1
  have B3 : Below w.heap.size w w3 := by
    have h1 := hg21.size; have h2 := hg22.size; have h3 := hg23.size
    simp at h1
    have b1 : Below w.heap.size w w1 := (((Below.refl _ _).alloc (Nat.le_refl _) _).alloc (by simp) _).grown hg1 (by simp; omega) (fun k e => by cases e; omega)
    have b2 := b1.alloc (show w.heap.size ≤ w1.heap.size by omega) (.cells #[.int .i64 8] 3)
    exact (((b2.grown hg21 (by simp; omega) (fun k e => by cases e; omega)).grown hg22 (by omega) (fun k e => by cases e; omega)).grown hg23 (by omega) (fun k e => by cases e; omega)).grown hg3 (by omega) (fun k e => by cases e; omega)
  clear hb21 hb22 hb23 hg21 hg22 hg23 hg3 hb2 hg1 hb1 hA1
  refine (fixedReader_any 4 _).mono ?_
  rintro e w4 ⟨rfl, rfl⟩
  have hb4 := (heap_alloc_old w3 (.cells #[.int .i64 4] 3) (show w.heap.size + 1 < w3.heap.size by omega)).trans hb3
  clear hb3
  have HB3 := Lib.hid B3
  have C8 := Lib.hid c8
  clear B3 c8
  go_wp2_with (refine wpList_put _ rfl _ _ _ _ rfl _ _ u84 u3 (w.heap.size + 1) _ _ _ _ rfl rfl rfl (by assumption) (by rfl) ?_; intro w5 hb5 hg5; have hs5 := hg5.size; have hA5 := (hg5.block w.heap.size (by simp; omega) (by simp)).trans ((heap_alloc_old w3 (.cells #[.int .i64 4] 3) (show w.heap.size < w3.heap.size by omega)).trans hA3); have cA := cell_of_one hA5; have fA := free_of_one hA5)
  go_ret
  simp at hs5
  refine ⟨w.heap.size + 1, w1.heap.size, w3.heap.size, w.heap.size, rfl, ⟨by omega, by omega, by omega, by omega⟩, ⟨?_, ?_, ?_, ?_⟩, ?_⟩
  · rw [Below.heap_setCell _ _ _ _ (by simp)]
    exact hb5
  · rw [World.cell?_of_block (w := w5) (Below.heap_setCell _ _ _ _ (by simp; omega))]
    refine hg5.cell ?_ (by intro e; simp at e; omega)
    rw [World.cell?_of_block (w := w3) (heap_alloc_old _ _ (World.block_lt_of_cell? _ _ C8.out))]
    exact C8.out
  · rw [World.cell?_of_block (w := w5) (Below.heap_setCell _ _ _ _ (by simp; omega))]
    refine hg5.cell ?_ (by intro e; simp at e; omega)
    simp
  · have := cell_of_one (one_setCell (u := .map (some (w.heap.size + 1))) hA5)
    exact this
  · have b4 := HB3.out.alloc (show w.heap.size ≤ w3.heap.size by omega) (.cells #[.int .i64 4] 3)
    exact (b4.grown hg5 (by simp; omega) (fun k e => by cases e; omega)).setCell (by simp) _

theorem readers_any (w : World) : Calls Tryd.prog 45 #[] w (ByPost w) := (readers_new w).mono fun _ _ ⟨bm, _, _, _, he, hb, hi, hB⟩ => ⟨bm, he, hb.1, hi.at, hB⟩

/-- what a look-up gives, wherever old memory stands -/
theorem by_get {w : World} {bm : Nat} (h : ByAt w bm) :
    ∃ c8 c4 cb : Nat, w.cell? ⟨c8, 0, none⟩ = some (.int .i64 8) ∧ w.cell? ⟨c4, 0, none⟩ = some (.int .i64 4) ∧ w.cell? ⟨cb, 0, none⟩ = some (.map (some bm)) ∧
    ∀ ww, Below w.heap.size w ww →
    (Instr.lookup 83 (.map (some bm)) (.int .i64 0) false).run Tryd.prog ww = .ok (.func (.func 63) #[] #[]) ww ∧
    (Instr.lookup 83 (.map (some bm)) (.int .i64 1) false).run Tryd.prog ww = .ok (.func (.func 78) #[] #[.pointer (some ⟨c8, 0, none⟩)]) ww ∧
    (Instr.lookup 83 (.map (some bm)) (.int .i64 2) false).run Tryd.prog ww = .ok (.func (.func 65) #[] #[]) ww ∧
    (Instr.lookup 83 (.map (some bm)) (.int .i64 3) false).run Tryd.prog ww = .ok (.func (.func 66) #[] #[.pointer (some ⟨cb, 0, none⟩)]) ww ∧
    (Instr.lookup 83 (.map (some bm)) (.int .i64 4) false).run Tryd.prog ww = .ok (.func (.func 68) #[] #[]) ww ∧
    (Instr.lookup 83 (.map (some bm)) (.int .i64 5) false).run Tryd.prog ww = .ok (.func (.func 78) #[] #[.pointer (some ⟨c4, 0, none⟩)]) ww := by
  have u84 : Tryd.prog.underlying 83 = some (.map 3 105) := by kernel_rfl
  have u3 : Tryd.prog.underlying 3 = some (.int .i64) := by kernel_rfl
  have hlt := h.lt
  obtain ⟨c8, c4, cb, h1, h2, h3, h4⟩ := h
  refine ⟨c8, c4, cb, h2, h3, h4, fun ww hb => ?_⟩
  have h1 := (hb.block bm hlt).trans h1
  refine ⟨?_, ?_, ?_, ?_, ?_, ?_⟩
  · exact run_get ww _ _ _ bm _ _ 0 0 _ u84 u3 h1 rfl
  · exact run_get ww _ _ _ bm _ _ 1 1 _ u84 u3 h1 rfl
  · exact run_get ww _ _ _ bm _ _ 2 2 _ u84 u3 h1 rfl
  · exact run_get ww _ _ _ bm _ _ 3 3 _ u84 u3 h1 rfl
  · exact run_get ww _ _ _ bm _ _ 4 4 _ u84 u3 h1 rfl
  · exact run_get ww _ _ _ bm _ _ 5 5 _ u84 u3 h1 rfl
end Go.Proofs.YthipecjjmboecaaDoor
