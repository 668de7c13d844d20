/-
The walk of parleylaw1.WireRecords.
-/
import Derived.Test.YthipecjjmboecaaDoorWiterv
import Derived.Test.YthipecjjmboecaaDoorWfirst
import Derived.Test.YthipecjjmboecaaDoorWis
import Derived.Test.YthipecjjmboecaaDoorWown
import Derived.RangeFuncBound
import Derived.RangeFuncCalls
import Derived.Deep.RegionHeld3
namespace Go.Proofs.YthipecjjmboecaaDoor
open Go.RowKit Go.Shelf
attribute [local go_sem] Oper.semAt_some

/-- The marks of the ranges that have ended. -/
def marks (L : List Nat) : List Deferred := L.map fun d => { target := .collected d, args := #[] }
/-- .. lie empty, from block B on. -/
def Marks (B : Nat) (L : List Nat) (w : World) : Prop := L.Nodup ∧ ∀ d ∈ L, B ≤ d ∧ w.heap[d]? = some (.deferred (some []))

theorem Kx.below' {X : Nat → Prop} {B : Nat} {W A C : World} (h : Kx X B W A) (hb : Below A.heap.size A C) (hB : B ≤ A.heap.size) : Kx X B W C :=
  ⟨Nat.le_trans h.1 hb.size, fun k hk hx => (hb.block k (by omega)).trans (h.2 k hk hx)⟩
theorem Kx.set' {X : Nat → Prop} {B : Nat} {W A : World} (h : Kx X B W A) {b j : Nat} (v : Value) (hx : X b) : Kx X B W (A.setCell ⟨b, j, none⟩ v) :=
  ⟨by simpa using h.1, fun k hk hn => (Below.heap_setCell _ _ _ _ (fun e => hn (by rw [e]; exact hx))).trans (h.2 k hk hn)⟩
theorem Kx.put' {X : Nat → Prop} {B : Nat} {W A : World} (h : Kx X B W A) {b : Nat} (o : Obj) (hx : X b) : Kx X B W (A.putObj b o) :=
  ⟨by simpa using h.1, fun k hk hn => (World.putObj_heap_other (fun e => hn (by rw [e]; exact hx))).trans (h.2 k hk hn)⟩

/-- What holds between the rounds of a range: the boxes at bo, bo + 1, bo + 2; the loop's record behind its mark at z. -/
structure RecK (l : List Nat) (wo : World) (bo z : Nat) (o : Obj) (lf : Bool) (s : Nat) (W : World) : Prop where
  hs : s ≤ l.length
  hb : Below wo.heap.size wo W
  hz : z + 2 ≤ W.heap.size
  cat : W.cell? ⟨bo, 0, none⟩ = some (.int .i64 (s : Nat)) ∧ W.frozen? ⟨bo, 0, none⟩ = false
  ci : ∃ i : Nat, i ≤ s ∧ W.cell? ⟨bo + 1, 0, none⟩ = some (.int .i64 (i : Nat)) ∧ W.frozen? ⟨bo + 1, 0, none⟩ = false
  cl : W.cell? ⟨bo + 1 + 1, 0, none⟩ = some (.bool lf) ∧ W.frozen? ⟨bo + 1 + 1, 0, none⟩ = false
  recd : W.heap[z + 1]? = some o
  mark : W.heap[z]? = some (.deferred (some []))
theorem frozen_below {w w' : World} (h : Below w.heap.size w w') {p : Addr} {v : Value} (hc : w.cell? p = some v) {b : Bool} (hf : w.frozen? p = b) : w'.frozen? p = b :=
  (h.frozen (World.block_lt_of_cell? w p hc)).trans hf
theorem cell_far {w : World} {b c j : Nat} {v u : Value} (h : b ≠ c) (hc : w.cell? ⟨c, 0, none⟩ = some u ∧ w.frozen? ⟨c, 0, none⟩ = false) : (w.setCell ⟨b, j, none⟩ v).cell? ⟨c, 0, none⟩ = some u ∧ (w.setCell ⟨b, j, none⟩ v).frozen? ⟨c, 0, none⟩ = false :=
  ⟨(World.cell?_setCell_other _ _ _ _ (fun e => h (congrArg Addr.block e))).trans hc.1, by rw [World.frozen?_setCell]; exact hc.2⟩
theorem cell_near {w : World} {b : Nat} {v u : Value} (hc : w.cell? ⟨b, 0, none⟩ = some u ∧ w.frozen? ⟨b, 0, none⟩ = false) : (w.setCell ⟨b, 0, none⟩ v).cell? ⟨b, 0, none⟩ = some v ∧ (w.setCell ⟨b, 0, none⟩ v).frozen? ⟨b, 0, none⟩ = false :=
  ⟨World.cell?_setCell_same _ _ _ hc.1, by rw [World.frozen?_setCell]; exact hc.2⟩
theorem RecK.below {l : List Nat} {wo : World} {bo z : Nat} {o : Obj} {lf : Bool} {s : Nat} {W C : World} (h : RecK l wo bo z o lf s W) (hb : Below W.heap.size W C) : RecK l wo bo z o lf s C := by
  obtain ⟨i, hi, hc, hf⟩ := h.ci
  exact ⟨h.hs, h.hb.trans (hb.mono h.hb.size), Nat.le_trans h.hz hb.size, ⟨cell_below hb h.cat.1, frozen_below hb h.cat.1 h.cat.2⟩, ⟨i, hi, cell_below hb hc, frozen_below hb hc hf⟩, ⟨cell_below hb h.cl.1, frozen_below hb h.cl.1 h.cl.2⟩,
    (hb.block _ (Array.getElem?_eq_some_iff.1 h.recd).1).trans h.recd, (hb.block _ (Array.getElem?_eq_some_iff.1 h.mark).1).trans h.mark⟩
theorem RecK.put {l : List Nat} {wo : World} {bo z : Nat} {o : Obj} {lf : Bool} {s : Nat} {W : World} (h : RecK l wo bo z o lf s W) (hbo : bo = wo.heap.size) (hz : z = bo + 3) (o' : Obj) : RecK l wo bo z o' lf s (W.putObj (z + 1) o') := by
  obtain ⟨i, hi, hc, hf⟩ := h.ci
  have key : ∀ (b : Nat) (v : Value), b ≠ z + 1 → W.cell? ⟨b, 0, none⟩ = some v ∧ W.frozen? ⟨b, 0, none⟩ = false → (W.putObj (z + 1) o').cell? ⟨b, 0, none⟩ = some v ∧ (W.putObj (z + 1) o').frozen? ⟨b, 0, none⟩ = false := fun b v hb h =>
    ⟨(World.cell?_of_block (a := ⟨b, 0, none⟩) (World.putObj_heap_other hb)).trans h.1, (World.frozen?_of_block (a := ⟨b, 0, none⟩) (World.putObj_heap_other hb)).trans h.2⟩
  exact ⟨h.hs, below_putObj h.hb (by omega) _, by simpa using h.hz, key _ _ (by omega) h.cat, ⟨i, hi, key _ _ (by omega) ⟨hc, hf⟩⟩, key _ _ (by omega) h.cl, World.putObj_heap_same (by have := h.hz; omega), (World.putObj_heap_other (by omega)).trans h.mark⟩
theorem RecK.setAt {l : List Nat} {wo : World} {bo z : Nat} {o : Obj} {lf : Bool} {s : Nat} {W : World} (h : RecK l wo bo z o lf s W) (hbo : bo = wo.heap.size) (hz : z = bo + 3) (s' : Nat) (h1 : s ≤ s') (h2 : s' ≤ l.length) : RecK l wo bo z o lf s' (W.setCell ⟨bo, 0, none⟩ (.int .i64 (s' : Nat))) := by
  obtain ⟨i, hi, hc⟩ := h.ci
  exact ⟨h2, h.hb.setCell (by show wo.heap.size ≤ bo; omega) _, by simpa using h.hz, cell_near h.cat, ⟨i, by omega, cell_far (by omega) hc⟩, cell_far (by omega) h.cl, (Below.heap_setCell _ _ _ _ (by show z + 1 ≠ bo; omega)).trans h.recd, (Below.heap_setCell _ _ _ _ (by show z ≠ bo; omega)).trans h.mark⟩
theorem RecK.setI {l : List Nat} {wo : World} {bo z : Nat} {o : Obj} {lf : Bool} {s : Nat} {W : World} (h : RecK l wo bo z o lf s W) (hbo : bo = wo.heap.size) (hz : z = bo + 3) (i' : Nat) (h1 : i' ≤ s) : RecK l wo bo z o lf s (W.setCell ⟨bo + 1, 0, none⟩ (.int .i64 (i' : Nat))) := by
  obtain ⟨i, hi, hc⟩ := h.ci
  exact ⟨h.hs, h.hb.setCell (by show wo.heap.size ≤ bo + 1; omega) _, by simpa using h.hz, cell_far (by omega) h.cat, ⟨i', h1, cell_near hc⟩, cell_far (by omega) h.cl, (Below.heap_setCell _ _ _ _ (by show z + 1 ≠ bo + 1; omega)).trans h.recd, (Below.heap_setCell _ _ _ _ (by show z ≠ bo + 1; omega)).trans h.mark⟩
theorem RecK.setL {l : List Nat} {wo : World} {bo z : Nat} {o : Obj} {lf : Bool} {s : Nat} {W : World} (h : RecK l wo bo z o lf s W) (hbo : bo = wo.heap.size) (hz : z = bo + 3) (lf' : Bool) : RecK l wo bo z o lf' s (W.setCell ⟨bo + 1 + 1, 0, none⟩ (.bool lf')) := by
  obtain ⟨i, hi, hc⟩ := h.ci
  exact ⟨h.hs, h.hb.setCell (by show wo.heap.size ≤ bo + 1 + 1; omega) _, by simpa using h.hz, cell_far (by omega) h.cat, ⟨i, hi, cell_far (by omega) hc⟩, cell_near h.cl, (Below.heap_setCell _ _ _ _ (by show z + 1 ≠ bo + 1 + 1; omega)).trans h.recd, (Below.heap_setCell _ _ _ _ (by show z ≠ bo + 1 + 1; omega)).trans h.mark⟩

/-- What holds at the loop's head. -/
def RecS (wS : World) (r b7 : Nat) (L : List Nat) (w' : World) : Prop :=
  r ≤ 2 ∧ L.length = r ∧ Hid (Below wS.heap.size wS w') ∧ w'.cell? ⟨b7, 0, none⟩ = some (.int .i64 r) ∧ w'.frozen? ⟨b7, 0, none⟩ = false ∧ wS.heap.size ≤ b7 ∧ Hid (Marks wS.heap.size L w') ∧ b7 ∉ L
def RecJ (a : Option Addr) (len cap : Nat) (sp : Int) (w : World) (Bt : Nat) (wS : World) (k : Nat) (x : Act) (w' : World) : Prop :=
  ∃ (r b7 : Nat) (L : List Nat) (u : Nat → Value), k + r = 3 ∧ x = { tmps := #[.slice a len cap, .int .i64 sp, .pointer (some ⟨w.heap.size, 0, none⟩), .pointer (some ⟨w.heap.size + 1, 0, none⟩), .pointer (some ⟨w.heap.size + 1 + 1, 0, none⟩), .bool true, .func (.func 44) #[] #[.pointer (some ⟨Bt, 0, none⟩)], .pointer (some ⟨b7, 0, none⟩), u 8, u 9, u 10, u 11, u 12, u 13, u 14, u 15, u 16, u 17, u 18, u 19, u 20, u 21, u 22, u 23, u 24, u 25, u 26, u 27, u 28, u 29, u 30, u 31, u 32, u 33, u 34, u 35, u 36, u 37, u 38, u 39, u 40, u 41, u 42, u 43, u 44, u 45, u 46, u 47, u 48, u 49, u 50, u 51, u 52, u 53, u 54, u 55, u 56, u 57, u 58, u 59, u 60, u 61, u 62, u 63, u 64, u 65, u 66, u 67, u 68, u 69, u 70, u 71, u 72, u 73, u 74, u 75, u 76, u 77, u 78, u 79, u 80, u 81, u 82, u 83, u 84, u 85, u 86, u 87, u 88, u 89, u 90, u 91, u 92, u 93, u 94, u 95, u 96, u 97, u 98], defers := marks L } ∧ RecS wS r b7 L w'
theorem recJ_mk {a : Option Addr} {len cap : Nat} {sp : Int} {w : World} {Bt : Nat} {wS : World} {k : Nat} {x : Act} {w' : World} (r b7 : Nat) (L : List Nat) (hk : k + r = 3) (hx : x = { tmps := #[.slice a len cap, .int .i64 sp, .pointer (some ⟨w.heap.size, 0, none⟩), .pointer (some ⟨w.heap.size + 1, 0, none⟩), .pointer (some ⟨w.heap.size + 1 + 1, 0, none⟩), .bool true, .func (.func 44) #[] #[.pointer (some ⟨Bt, 0, none⟩)], .pointer (some ⟨b7, 0, none⟩), x.tmps.getD 8 undef, x.tmps.getD 9 undef, x.tmps.getD 10 undef, x.tmps.getD 11 undef, x.tmps.getD 12 undef, x.tmps.getD 13 undef, x.tmps.getD 14 undef, x.tmps.getD 15 undef, x.tmps.getD 16 undef, x.tmps.getD 17 undef, x.tmps.getD 18 undef, x.tmps.getD 19 undef, x.tmps.getD 20 undef, x.tmps.getD 21 undef, x.tmps.getD 22 undef, x.tmps.getD 23 undef, x.tmps.getD 24 undef, x.tmps.getD 25 undef, x.tmps.getD 26 undef, x.tmps.getD 27 undef, x.tmps.getD 28 undef, x.tmps.getD 29 undef, x.tmps.getD 30 undef, x.tmps.getD 31 undef, x.tmps.getD 32 undef, x.tmps.getD 33 undef, x.tmps.getD 34 undef, x.tmps.getD 35 undef, x.tmps.getD 36 undef, x.tmps.getD 37 undef, x.tmps.getD 38 undef, x.tmps.getD 39 undef, x.tmps.getD 40 undef, x.tmps.getD 41 undef, x.tmps.getD 42 undef, x.tmps.getD 43 undef, x.tmps.getD 44 undef, x.tmps.getD 45 undef, x.tmps.getD 46 undef, x.tmps.getD 47 undef, x.tmps.getD 48 undef, x.tmps.getD 49 undef, x.tmps.getD 50 undef, x.tmps.getD 51 undef, x.tmps.getD 52 undef, x.tmps.getD 53 undef, x.tmps.getD 54 undef, x.tmps.getD 55 undef, x.tmps.getD 56 undef, x.tmps.getD 57 undef, x.tmps.getD 58 undef, x.tmps.getD 59 undef, x.tmps.getD 60 undef, x.tmps.getD 61 undef, x.tmps.getD 62 undef, x.tmps.getD 63 undef, x.tmps.getD 64 undef, x.tmps.getD 65 undef, x.tmps.getD 66 undef, x.tmps.getD 67 undef, x.tmps.getD 68 undef, x.tmps.getD 69 undef, x.tmps.getD 70 undef, x.tmps.getD 71 undef, x.tmps.getD 72 undef, x.tmps.getD 73 undef, x.tmps.getD 74 undef, x.tmps.getD 75 undef, x.tmps.getD 76 undef, x.tmps.getD 77 undef, x.tmps.getD 78 undef, x.tmps.getD 79 undef, x.tmps.getD 80 undef, x.tmps.getD 81 undef, x.tmps.getD 82 undef, x.tmps.getD 83 undef, x.tmps.getD 84 undef, x.tmps.getD 85 undef, x.tmps.getD 86 undef, x.tmps.getD 87 undef, x.tmps.getD 88 undef, x.tmps.getD 89 undef, x.tmps.getD 90 undef, x.tmps.getD 91 undef, x.tmps.getD 92 undef, x.tmps.getD 93 undef, x.tmps.getD 94 undef, x.tmps.getD 95 undef, x.tmps.getD 96 undef, x.tmps.getD 97 undef, x.tmps.getD 98 undef], defers := marks L }) (h : RecS wS r b7 L w') : RecJ a len cap sp w Bt wS k x w' :=
  ⟨r, b7, L, fun k => x.tmps.getD k undef, hk, hx, h⟩

set_option maxRecDepth 100000 in
set_option maxHeartbeats 4000000 in
theorem wireRecords_in (n : Nat) (hn : 8 ≤ n) (a : Option Addr) (len cap : Nat) (l : List Nat) (sp : Int) (E : Nat → Addr) (w : World) (hl : l.length = len) (hcap : len ≤ cap) (hr : Rd w.heap.size w a l) (hE : Errs w E) :
    CallsIn Fence.wide n Tryd.prog 3 #[.slice a len cap, .int .i64 sp] w (TruePost w) := by
  have HL := Lib.hid hl
  have HR := Lib.hid hr
  have HE := Lib.hid hE
  have H256 := Lib.hid hr.all
  clear hl hr hE
  refine callsIn_of_wp_marks Tryd.func3 rfl trivial ?_ rfl
  simp only [Tryd.ntmps3, List.size_toArray, List.length_cons, List.length_nil, Nat.reduceAdd, Nat.reduceSub, Array.replicate_succ, Array.replicate_zero, List.push_toArray, List.append_toArray, List.nil_append, List.cons_append]
  gi_wp2_with fail
  refine ⟨trivial, fun _ => by omega, ?_⟩
  obtain ⟨wa, hwa⟩ : ∃ wa, wa = w.alloc (.cells #[.slice a len cap] 22) := ⟨_, rfl⟩
  have hza : wa.heap.size = w.heap.size + 1 := by rw [hwa]; simp
  have c2 : wa.cell? ⟨w.heap.size, 0, none⟩ = some (.slice a len cap) := by rw [hwa]; simp
  have hba : Below w.heap.size w wa := by rw [hwa]; exact (Below.refl _ _).alloc (Nat.le_refl _) _
  obtain ⟨wb, hwb⟩ : ∃ wb, wb = wa.alloc (.cells #[.int .i64 sp] 3) := ⟨_, rfl⟩
  have hzb : wb.heap.size = w.heap.size + 2 := by rw [hwb]; simp; omega
  have c3 : wb.cell? ⟨w.heap.size + 1, 0, none⟩ = some (.int .i64 sp) := by rw [hwb, ← hza]; simp
  have hbb : Below wa.heap.size wa wb := by rw [hwb]; exact (Below.refl _ _).alloc (Nat.le_refl _) _
  obtain ⟨w0, hw0⟩ : ∃ w0, w0 = wb.alloc (.cells #[.bool false] 4) := ⟨_, rfl⟩
  have hs0 : w0.heap.size = w.heap.size + 3 := by rw [hw0]; simp; omega
  have c4 : w0.cell? ⟨w.heap.size + 1 + 1, 0, none⟩ = some (.bool false) := by rw [hw0, show w.heap.size + 1 + 1 = wb.heap.size by omega]; simp
  have f4 : w0.frozen? ⟨w.heap.size + 1 + 1, 0, none⟩ = false := by rw [hw0, show w.heap.size + 1 + 1 = wb.heap.size by omega]; simp
  have hb0 : Below wb.heap.size wb w0 := by rw [hw0]; exact (Below.refl _ _).alloc (Nat.le_refl _) _
  rw [← hwa, ← hwb, ← hw0]
  replace c2 := cell_below hb0 (cell_below hbb c2)
  replace c3 := cell_below hb0 c3
  replace hb0 : Below w.heap.size w w0 := hba.trans ((hbb.mono (by omega)).trans (hb0.mono (by omega)))
  clear hwa hwb hw0 hba hbb hza hzb
  clear wa wb
  have HB0 := Lib.hid hb0
  clear hb0
  refine (callsIn_wide.2 (first_any E w0 (HE.out.below HB0.out))).mono ?_
  rintro e w1 ⟨rfl, hb1⟩
  have hz1 := hb1.size
  replace c2 := cell_below hb1 c2
  replace c3 := cell_below hb1 c3
  replace c4 := cell_below hb1 c4
  replace f4 := (hb1.frozen (p := ⟨w.heap.size + 1 + 1, 0, none⟩) (by show w.heap.size + 1 + 1 < w0.heap.size; omega)).trans f4
  have HB1 := Lib.hid (HB0.out.trans (hb1.mono HB0.out.size))
  clear hb1
  by_cases hm : (16384 : Int) < (len : Int)
  · gi_wp2
    have hc := World.cell?_setCell_same _ _ (.bool true) c4
    exact ⟨.bool true, by simp [results, Tryd.results3, go_sem, hc], rfl, HB1.out.setCell (by show w.heap.size ≤ w.heap.size + 1 + 1; omega) _⟩
  have hsz : len ≤ 1048576 := by omega
  gi_wp2_with fail
  refine ⟨trivial, fun _ => by omega, ?_⟩
  refine (callsIn_wide.2 (records_any (B2 := w.heap.size) a len cap l w1 HL.out (HR.out.below HB1.out) hsz)).mono ?_
  rintro e wS ⟨Bt, gB, cB, rfl, hBt1, hBt2, hown, hbS⟩
  have hzS := hbS.size
  replace c2 := cell_below hbS c2
  replace c3 := cell_below hbS c3
  replace f4 := (hbS.frozen (p := ⟨w.heap.size + 1 + 1, 0, none⟩) (by show w.heap.size + 1 + 1 < w1.heap.size; omega)).trans f4
  replace c4 := cell_below hbS c4
  have HBS := Lib.hid (HB1.out.trans (hbS.mono (by omega)))
  have HBt := Lib.hid hBt2
  have hBt3 : Bt < wS.heap.size := World.block_lt_of_cell? _ _ hBt2
  have hgB := (hown.1.lt gB rfl).2
  obtain ⟨aB, cB', hvB, hcB, hrB⟩ := hown.rd H256.out
  cases hvB
  have HRB := Lib.hid hrB
  clear hown hbS hBt2 hrB HB1 HB0
  have hnf : ∀ (w : World), (binOp .eql 25 (.func (.func 44) #[] #[.pointer (some ⟨Bt, 0, none⟩)]) .nilFunc).run Tryd.prog w = .ok (.bool false) w := fun _ => by kernel_rfl
  gi_wp2
  refine wpIn_loop_inv (RecJ a len cap sp w Bt wS) 3 ?h0 ?hz ?step
  case h0 => exact recJ_mk 0 wS.heap.size [] rfl rfl ⟨by omega, rfl, (Below.refl _ _).alloc (Nat.le_refl _) _, by simp, by simp, Nat.le_refl _, ⟨List.nodup_nil, fun d h => by cases h⟩, by simp⟩
  case hz =>
    rintro x w' ⟨r, b7, L, u, hk, _, h, _⟩
    omega
  case step =>
    rintro k x wo ⟨r, b7, L, u, hk, rfl, hr2', hL, HB, c7, f7, hb7, HM, hn7⟩
    have c2o := (HB.out.cell (p := ⟨w.heap.size, 0, none⟩) (by show w.heap.size < wS.heap.size; omega)).trans c2
    have c3o := (HB.out.cell (p := ⟨w.heap.size + 1, 0, none⟩) (by show w.heap.size + 1 < wS.heap.size; omega)).trans c3
    have c4o := (HB.out.cell (p := ⟨w.heap.size + 1 + 1, 0, none⟩) (by show w.heap.size + 1 + 1 < wS.heap.size; omega)).trans c4
    have f4o := (HB.out.frozen (p := ⟨w.heap.size + 1 + 1, 0, none⟩) (by show w.heap.size + 1 + 1 < wS.heap.size; omega)).trans f4
    by_cases hr2 : r < 2
    · have q1 : (r : Int) < 2 := by omega
      gi_wp2
      obtain ⟨wx, hwx⟩ : ∃ wx, wx = wo.alloc (.cells #[.int .i64 0] 3) := ⟨_, rfl⟩
      have hzx : wx.heap.size = wo.heap.size + 1 := by rw [hwx]; simp
      have c8 : wx.cell? ⟨wo.heap.size, 0, none⟩ = some (.int .i64 0) ∧ wx.frozen? ⟨wo.heap.size, 0, none⟩ = false := by rw [hwx]; exact ⟨by simp, by simp⟩
      have hbx : Below wo.heap.size wo wx := by rw [hwx]; exact (Below.refl _ _).alloc (Nat.le_refl _) _
      obtain ⟨wy, hwy⟩ : ∃ wy, wy = wx.alloc (.cells #[.int .i64 0] 3) := ⟨_, rfl⟩
      have hzy : wy.heap.size = wo.heap.size + 1 + 1 := by rw [hwy]; simp; omega
      have c9 : wy.cell? ⟨wo.heap.size + 1, 0, none⟩ = some (.int .i64 0) ∧ wy.frozen? ⟨wo.heap.size + 1, 0, none⟩ = false := by rw [hwy, ← hzx]; exact ⟨by simp, by simp⟩
      have hby : Below wx.heap.size wx wy := by rw [hwy]; exact (Below.refl _ _).alloc (Nat.le_refl _) _
      obtain ⟨w5, hw5⟩ : ∃ w5, w5 = wy.alloc (.cells #[.bool false] 4) := ⟨_, rfl⟩
      have hz5 : w5.heap.size = wo.heap.size + 3 := by rw [hw5]; simp; omega
      have c10 : w5.cell? ⟨wo.heap.size + 1 + 1, 0, none⟩ = some (.bool false) ∧ w5.frozen? ⟨wo.heap.size + 1 + 1, 0, none⟩ = false := by rw [hw5, ← hzy]; exact ⟨by simp, by simp⟩
      have hb5 : Below wy.heap.size wy w5 := by rw [hw5]; exact (Below.refl _ _).alloc (Nat.le_refl _) _
      rw [← hwx, ← hwy, ← hw5]
      replace c9 : w5.cell? ⟨wo.heap.size + 1, 0, none⟩ = some (.int .i64 0) ∧ w5.frozen? ⟨wo.heap.size + 1, 0, none⟩ = false := ⟨cell_below hb5 c9.1, frozen_below hb5 c9.1 c9.2⟩
      replace c8 : w5.cell? ⟨wo.heap.size, 0, none⟩ = some (.int .i64 0) ∧ w5.frozen? ⟨wo.heap.size, 0, none⟩ = false := ⟨cell_below hb5 (cell_below hby c8.1), frozen_below hb5 (cell_below hby c8.1) (frozen_below hby c8.1 c8.2)⟩
      have HB5 : Hid (Below wo.heap.size wo w5) := hbx.trans ((hby.mono (by omega)).trans (hb5.mono (by omega)))
      clear hwx hwy hw5 hbx hby hb5 hzx hzy
      clear wx wy
      have HZ5 := Lib.hid hz5
      have hz5a : wo.heap.size + 3 ≤ w5.heap.size := by omega
      clear hz5
      refine rangeFunc_by rfl (by omega) (gf := 44) (lb := #[.pointer (some ⟨Bt, 0, none⟩)]) rfl trivial (enters_of Tryd.func44 (by kernel_rfl) rfl) ?_
      intro fn hfn rc hrc0
      have hrcH := Lib.hid hrc0
      clear hrc0
      have hle : w5.heap.size ≤ ((w5.alloc (.deferred (some []))).alloc (rc .ready none)).heap.size := by simp only [World.size_alloc]; omega
      have hb50 : Below w5.heap.size w5 ((w5.alloc (.deferred (some []))).alloc (rc .ready none)) := ((Below.refl _ _).alloc (Nat.le_refl _) _).alloc (by simp) _
      have hl0 : ((w5.alloc (.deferred (some []))).alloc (rc .ready none)).heap[w5.heap.size + 1]? = some (rc .ready none) := by
        have := World.alloc_heap_new (w5.alloc (.deferred (some []))) (rc .ready none)
        rwa [World.size_alloc] at this
      have hd0 : ((w5.alloc (.deferred (some []))).alloc (rc .ready none)).heap[w5.heap.size]? = some (.deferred (some [])) := by
        rw [heap_alloc_old _ _ (by simp)]
        exact World.alloc_heap_new w5 _
      have hK0 : RecK l wo wo.heap.size w5.heap.size (rc .ready none) false 0 ((w5.alloc (.deferred (some []))).alloc (rc .ready none)) :=
        ⟨Nat.zero_le _, HB5.out.trans (hb50.mono (by omega)), by simp only [World.size_alloc]; omega, ⟨cell_below hb50 c8.1, frozen_below hb50 c8.1 c8.2⟩, ⟨0, Nat.le_refl _, cell_below hb50 c9.1, frozen_below hb50 c9.1 c9.2⟩, ⟨cell_below hb50 c10.1, frozen_below hb50 c10.1 c10.2⟩, hl0, hd0⟩
      have HBo := Lib.hid (HBS.out.trans (HB.out.mono (by omega)))
      have hzo := HB.out.size
      have hrl := HL.out
      have HYL : ∀ s f kd u2 bs sz v B1 W1, s < l.length → W.nextF 32 (l.drop s) = (f, kd, u2, bs, sz, 0) → RecK l wo wo.heap.size w5.heap.size (rc .ready none) false s W1 → w5.heap.size + 2 ≤ B1 → B1 ≤ W1.heap.size → Own B1 W1 v bs →
          YieldAt Fence.wide (n - 1 - 1) Tryd.prog (w5.heap.size + 1) (encR s f kd u2 v) W1 fun e W' => (e = .returned (.bool true) ∧ RecK l wo wo.heap.size w5.heap.size (rc .ready none) false (s + sz) W' ∧ Kx (fun k => k = wo.heap.size ∨ k = wo.heap.size + 1 ∨ k = wo.heap.size + 1 + 1) B1 W1 W') ∨ (e = .returned (.bool false) ∧ RecK l wo wo.heap.size w5.heap.size (rc .done (some (.exit 2))) true (s + sz) W') := by
        intro s f kd u2 bs sz v B1 W1 hs hx hJ hB0 hB1 hown
        obtain ⟨gr, cr, rfl⟩ := hown.2
        have hok := W.nextF_ok (lv := 32) (l := l.drop s) (by rw [hx])
        rw [hx, List.length_drop] at hok
        simp only at hok
        have hsz1 : s + sz ≤ l.length := by omega
        have hsz0 : 0 < sz := by omega
        have HX := Lib.hid hx
        have hmem := W.nextF_mem 32 (l.drop s)
        rw [hx] at hmem
        have HBl : Hid (∀ x ∈ bs, x < 256) := fun x hxx => H256.out x (List.mem_of_mem_drop (hmem x hxx))
        have hbl := W.nextF_bytes 32 (l.drop s)
        rw [hx, List.length_drop] at hbl
        simp only at hbl
        have HO := Lib.hid hown
        have HJ := Lib.hid hJ
        refine YieldAt.mono (yield_by (R := fun b W' => (b = true ∧ RecK l wo wo.heap.size w5.heap.size (rc .ready none) false (s + sz) W' ∧ Kx (fun k => k = wo.heap.size ∨ k = wo.heap.size + 1 ∨ k = wo.heap.size + 1 + 1) B1 W1 W') ∨ (b = false ∧ RecK l wo wo.heap.size w5.heap.size (rc .done (some (.exit 2))) true (s + sz) W')) hrcH.out hfn hJ.recd rfl ?_) (fun e W' ⟨b, he, hb⟩ => hb.imp (fun h => ⟨by rw [he, h.1], h.2⟩) (fun h => ⟨by rw [he, h.1], h.2⟩))
        clear hx hJ hown hok hmem hl0 hd0 hb50 hle hK0
        gi_wp2
        have hba : Below W1.heap.size W1 (W1.alloc (.cells #[.int .i64 f, .int .i64 kd, .int .u64 u2, .slice (some ⟨gr, 0, none⟩) bs.length cr] 29)) := (Below.refl _ _).alloc (Nat.le_refl _) _
        refine ⟨(HJ.out.below hba).recd, ?_⟩
        have HW1 := Lib.hid HJ.out.recd
        obtain ⟨Wb, hWb⟩ : ∃ Wb, Wb = (W1.alloc (.cells #[.int .i64 f, .int .i64 kd, .int .u64 u2, .slice (some ⟨gr, 0, none⟩) bs.length cr] 29)).putObj (w5.heap.size + 1) (rc .busy none) := ⟨_, rfl⟩
        have hJb : RecK l wo wo.heap.size w5.heap.size (rc .busy none) false s Wb := by rw [hWb]; exact (HJ.out.below hba).put rfl HZ5.out _
        have hKb : Kx (fun k => (k = wo.heap.size ∨ k = wo.heap.size + 1 ∨ k = wo.heap.size + 1 + 1) ∨ k = w5.heap.size + 1) B1 W1 Wb := by rw [hWb]; exact (Kx.below' ⟨Nat.le_refl _, fun _ _ _ => rfl⟩ hba hB1).put' _ (Or.inr rfl)
        have hzb : W1.heap.size < Wb.heap.size := by rw [hWb]; simp
        have hne : W1.heap.size ≠ w5.heap.size + 1 := by have := HJ.out.hz; omega
        have hcr : ∀ j v, (#[.int .i64 f, .int .i64 kd, .int .u64 u2, .slice (some ⟨gr, 0, none⟩) bs.length cr] : Array Value)[j]? = some v → Wb.cell? ⟨W1.heap.size, j, none⟩ = some v := fun j v h => by
          rw [hWb, World.cell?_of_block (a := ⟨W1.heap.size, j, none⟩) (World.putObj_heap_other hne), cell_of_row _ _ j _ _ _ (heap_alloc_new W1 _), h]
        have r0 := hcr 0 _ rfl
        have r1 := hcr 1 _ rfl
        have r2 := hcr 2 _ rfl
        have r3 := hcr 3 _ rfl
        have hOb : Rd Wb.heap.size Wb (some ⟨gr, 0, none⟩) bs := by
          obtain ⟨a9, c9', e9, _, h9⟩ := HO.out.rd HBl.out
          cases e9
          have hg := (HO.out.1.lt gr rfl)
          refine ⟨h9.1, fun j hj => ?_⟩
          obtain ⟨b9, o9, e9, hlt9, hc9⟩ := h9.2 j hj
          cases e9
          exact ⟨gr, 0, rfl, by omega, by
            rw [hWb, World.cell?_of_block (a := ⟨gr, 0 + j, none⟩) (World.putObj_heap_other (by show gr ≠ w5.heap.size + 1; omega)), World.cell?_of_block (a := ⟨gr, 0 + j, none⟩) (heap_alloc_old W1 _ (by show gr < W1.heap.size; omega))]
            exact hc9⟩
        rw [← hWb]
        have HJb := Lib.hid hJb
        have HKb := Lib.hid hKb
        have HOb := Lib.hid hOb
        clear hWb hJb hKb hba hcr hOb HJ HO
        have hbo := HJb.out.hb
        have c2b := (hbo.cell (p := ⟨w.heap.size, 0, none⟩) (by show w.heap.size < wo.heap.size; omega)).trans c2o
        have c3b := (hbo.cell (p := ⟨w.heap.size + 1, 0, none⟩) (by show w.heap.size + 1 < wo.heap.size; omega)).trans c3o
        have c7b := cell_below hbo c7
        obtain ⟨i, hi, ci, fi⟩ := HJb.out.ci
        obtain ⟨ca, fa⟩ := HJb.out.cat
        obtain ⟨cl, fl⟩ := HJb.out.cl
        have hrf := run_from a len cap s (by omega)
        have hR : Hid (Rd w.heap.size Wb (cutA a cap s) (l.drop s)) := ((HR.out.below HBo.out).below hbo).drop (by rw [HL.out]; exact hcap)
        generalize cutA a cap s = a2 at hrf hR
        have hzb2 := HJb.out.hz
        clear hbo
        gi_wp2_with fail
        refine ⟨trivial, fun _ => by omega, ?_⟩
        refine (CallsIn.inRound _ (callsIn_wide.2 (refNext_all (B := w.heap.size) a2 (len - s) (cap - s) (l.drop s) Wb (by rw [List.length_drop, HL.out]) (by omega) (by omega) (by omega) hR.out))).mono ?_
        rintro e w6 ⟨v6, rfl, hv6, hb6⟩
        rw [HX.out] at hv6 ⊢
        obtain ⟨a6, cp6, rfl⟩ := hv6.sl
        simp only
        have hz6 := hb6.size
        have HJ6 := Lib.hid (HJb.out.below hb6)
        have HK6 := Lib.hid (HKb.out.below' hb6 (by omega))
        have HO6 := Lib.hid (HOb.out.below hb6)
        have HV6 := Lib.hid (hv6.rd HBl.out)
        replace r0 := cell_below hb6 r0
        replace r1 := cell_below hb6 r1
        replace r2 := cell_below hb6 r2
        replace r3 := cell_below hb6 r3
        replace c2b := cell_below hb6 c2b
        replace c3b := cell_below hb6 c3b
        replace c7b := cell_below hb6 c7b
        replace fa := frozen_below hb6 ca fa
        replace fi := frozen_below hb6 ci fi
        replace fl := frozen_below hb6 cl fl
        replace ca := cell_below hb6 ca
        replace ci := cell_below hb6 ci
        replace cl := cell_below hb6 cl
        clear hv6 hb6 HJb HKb HOb hrf hR
        have hba : Below w6.heap.size w6 (w6.alloc (.cells #[.int .i64 f, .int .i64 kd, .int .u64 u2, .slice a6 bs.length cp6] 30)) := (Below.refl _ _).alloc (Nat.le_refl _) _
        have HIS := Lib.hid (is_same (B1 := Wb.heap.size) (B2 := w6.heap.size) f kd u2 (some ⟨gr, 0, none⟩) a6 bs.length bs.length cr cp6 bs _ rfl rfl (HO6.out.below hba) (HV6.out.1.below hba))
        have HJ7 := Lib.hid (HJ6.out.below hba)
        have HK7 := Lib.hid (HK6.out.below' hba (by omega))
        clear hba HJ6 HK6
        have hcd : cd 0 = 0 := rfl
        have q2 : (s : Int) < (len : Int) := by omega
        have p2 : w.heap.size < w6.heap.size := World.block_lt_of_cell? _ _ c2b
        have p3 : w.heap.size + 1 < w6.heap.size := World.block_lt_of_cell? _ _ c3b
        have p7 : b7 < w6.heap.size := World.block_lt_of_cell? _ _ c7b
        have p8 : wo.heap.size < w6.heap.size := World.block_lt_of_cell? _ _ ca
        have p9 : wo.heap.size + 1 < w6.heap.size := World.block_lt_of_cell? _ _ ci
        have p10 : wo.heap.size + 1 + 1 < w6.heap.size := World.block_lt_of_cell? _ _ cl
        have p12 : W1.heap.size < w6.heap.size := World.block_lt_of_cell? _ _ r0
        gi_wp2_with fail
        refine ⟨trivial, fun _ => by omega, ?_⟩
        refine (CallsIn.inRound _ (callsIn_wide.2 HIS.out)).mono ?_
        rintro e w7 ⟨rfl, hb7'⟩
        have HJ8 := Lib.hid (HJ7.out.below hb7')
        have HK8 := Lib.hid (HK7.out.below' hb7' (by simp only [World.size_alloc]; omega))
        have hb67 := below_over hb7'
        replace c3b := cell_below hb67 c3b
        replace c7b := cell_below hb67 c7b
        replace fa := frozen_below hb67 ca fa
        replace fi := frozen_below hb67 ci fi
        replace fl := frozen_below hb67 cl fl
        replace ca := cell_below hb67 ca
        replace ci := cell_below hb67 ci
        replace cl := cell_below hb67 cl
        have hz7 := hb67.size
        clear hb7' hb67 HJ7 HK7 HIS HO6 HV6 c2b r0 r1 r2 r3
        have H1 := HJ8.out.setAt rfl HZ5.out (s + sz) (by omega) hsz1
        have H2 := H1.setI rfl HZ5.out (i + 1) (by omega)
        have K1 := HK8.out.set' (b := wo.heap.size) (j := 0) (.int .i64 ((s + sz : Nat) : Int)) (Or.inl (Or.inl rfl))
        have K2 := K1.set' (b := wo.heap.size + 1) (j := 0) (.int .i64 ((i + 1 : Nat) : Int)) (Or.inl (Or.inr (Or.inl rfl)))
        have e1 : ((s + sz : Nat) : Int) = (s : Int) + (sz : Int) := Int.natCast_add _ _
        have e2 : ((i + 1 : Nat) : Int) = (i : Int) + 1 := Int.natCast_add _ _
        rw [e1, e2] at H2 K2
        have HH2 := Lib.hid H2
        have HK2 := Lib.hid K2
        clear H1 H2 K1 K2 e1 e2 HJ8 HK8
        have hfin : ∀ W, RecK l wo wo.heap.size w5.heap.size (rc .busy none) false (s + sz) W → Kx (fun k => (k = wo.heap.size ∨ k = wo.heap.size + 1 ∨ k = wo.heap.size + 1 + 1) ∨ k = w5.heap.size + 1) B1 W1 W → W1.heap[w5.heap.size + 1]? = some (rc .ready none) →
            RecK l wo wo.heap.size w5.heap.size (rc .ready none) false (s + sz) (W.putObj (w5.heap.size + 1) (rc .ready none)) ∧ Kx (fun k => k = wo.heap.size ∨ k = wo.heap.size + 1 ∨ k = wo.heap.size + 1 + 1) B1 W1 (W.putObj (w5.heap.size + 1) (rc .ready none)) := fun W h1 h2 h3 => by
          refine ⟨h1.put rfl HZ5.out _, by simpa using h2.1, fun k hk hn => ?_⟩
          by_cases e : k = w5.heap.size + 1
          · subst e
            exact (World.putObj_heap_same (by have := h1.hz; omega)).trans h3.symm
          · exact (World.putObj_heap_other e).trans (h2.2 k hk (fun h => h.elim hn e))
        have HFin := Lib.hid hfin
        clear hfin
        have hb7o : b7 < wo.heap.size := World.block_lt_of_cell? _ _ c7
        have n78 : wo.heap.size ≠ b7 := by omega
        have n79 : wo.heap.size + 1 ≠ b7 := by omega
        have n38 : wo.heap.size ≠ w.heap.size + 1 := by omega
        have n39 : wo.heap.size + 1 ≠ w.heap.size + 1 := by omega
        by_cases hr0 : r = 0
        · subst hr0
          by_cases hsp : (i : Int) + 1 = sp
          · have q3 : (((i : Int) + 1) == sp) = true := by simp [hsp]
            have HH3 := Lib.hid (HH2.out.setL rfl HZ5.out true)
            have HSp := Lib.hid hsp
            clear hsp
            gi_wp2
            exact ⟨HH3.out.recd, HH3.out.put rfl HZ5.out _⟩
          · have q3 : (((i : Int) + 1) == sp) = false := by simp [hsp]
            clear hsp
            gi_wp2
            exact ⟨HH2.out.recd, HFin.out _ HH2.out HK2.out HW1.out⟩
        · have q3 : ((r : Int) == 0) = false := by simp; omega
          gi_wp2
          exact ⟨HH2.out.recd, HFin.out _ HH2.out HK2.out HW1.out⟩
      have HC := Lib.hid (records1_inV (n - 1) (w5.heap.size + 1) Bt (by omega) (fun k => k = wo.heap.size ∨ k = wo.heap.size + 1 ∨ k = wo.heap.size + 1 + 1) (w5.heap.size + 2) wS.heap.size (fun k h1 h2 => by omega) (fun h => by omega) (some ⟨gB, 0, none⟩) l.length cB l E w HE.out (by omega) (fun k h1 h2 => by omega) rfl hcB (by omega) (fun bl o e h => by cases e; omega)
        (fun s W => RecK l wo wo.heap.size w5.heap.size (rc .ready none) false s W) (fun _ W => ∃ s', RecK l wo wo.heap.size w5.heap.size (rc .done (some (.exit 2))) true s' W) (fun _ _ _ h hb => h.below hb)
        (fun s f kd u2 bs sz v B1 W1 h1 h2 h3 h4 h5 h6 => YieldAt.mono (HYL s f kd u2 bs sz v B1 W1 h1 h2 h3 h4 h5 h6) (fun e W' h => h.imp id (fun h => ⟨h.1, _, h.2⟩)))
        _ (by simp) (by simp only [World.size_alloc]; omega) (HE.out.below (HBo.out.trans ((HB5.out.trans (hb50.mono (by omega))).mono (by omega)))) (cell_below hb50 (cell_below HB5.out (cell_below HB.out HBt.out))) (((HRB.out.below HB.out).below HB5.out).below hb50) hK0)
      clear HYL hK0 hd0 hl0 hb50 hle c8 c9 c10 HRB HBt hrcH
      refine HC.out.mono ?_
      clear HC
      rintro e W2 ⟨hv, (⟨s, hJ2, hor⟩ | ⟨_, s, hJ2⟩)⟩
      · refine ⟨hv, .ready, none, by simp, hJ2.recd, ?_⟩
        dsimp only
        have hJ3 := hJ2.put rfl HZ5.out (rc .exhausted none)
        generalize W2.putObj (w5.heap.size + 1) (rc .exhausted none) = wz at *
        have hbo := hJ3.hb
        have c2z := (hbo.cell (p := ⟨w.heap.size, 0, none⟩) (by show w.heap.size < wo.heap.size; omega)).trans c2o
        have c7z := cell_below hbo c7
        have f7z := frozen_below hbo c7 f7
        obtain ⟨ca, fa⟩ := hJ3.cat
        obtain ⟨cl, fl⟩ := hJ3.cl
        have hsl := hJ3.hs
        have hrf := run_from a len cap s (by omega)
        have hR : Hid (Rd w.heap.size wz (cutA a cap s) (l.drop s)) := ((HR.out.below HBo.out).below hbo).drop (by rw [HL.out]; exact hcap)
        generalize cutA a cap s = a2 at hrf hR
        have hzz := hJ3.hz
        have HJ3 := Lib.hid hJ3
        clear hJ2 hJ3 hbo hv
        obtain ⟨f, kd, u2, bs, sz, e8, hx⟩ : ∃ f kd u2 bs sz e, W.nextF 32 (l.drop s) = (f, kd, u2, bs, sz, e) := ⟨_, _, _, _, _, _, rfl⟩
        have HX := Lib.hid hx
        have hor2 : ¬ s < len ∨ (cd e8 == 0) = false := by
          rcases hor with h | h
          · exact Or.inl (by omega)
          · rw [hx] at h
            obtain ⟨k8, rfl⟩ : ∃ k8, e8 = k8 + 1 := ⟨e8 - 1, by simp only at h; omega⟩
            exact Or.inr (by simpa using cd_succ k8)
        clear hor
        clear hx
        gi_wp2_with fail
        refine ⟨trivial, fun _ => by omega, ?_⟩
        refine (callsIn_wide.2 (refNext_all (B := w.heap.size) a2 (len - s) (cap - s) (l.drop s) wz (by rw [List.length_drop, HL.out]) (by omega) (by omega) (by omega) hR.out)).mono ?_
        rintro e w8 ⟨v8, rfl, hv8, hb8⟩
        rw [HX.out] at hv8 ⊢
        obtain ⟨a8, cp8, rfl⟩ := hv8.sl
        simp only
        have hz8 := hb8.size
        have HJ8 := Lib.hid (HJ3.out.below hb8)
        replace f7z := frozen_below hb8 c7z f7z
        replace c2z := cell_below hb8 c2z
        replace c7z := cell_below hb8 c7z
        replace ca := cell_below hb8 ca
        replace cl := cell_below hb8 cl
        have p2 : w.heap.size < w8.heap.size := World.block_lt_of_cell? _ _ c2z
        have p7 : b7 < w8.heap.size := World.block_lt_of_cell? _ _ c7z
        have p8 : wo.heap.size < w8.heap.size := World.block_lt_of_cell? _ _ ca
        have p10 : wo.heap.size + 1 + 1 < w8.heap.size := World.block_lt_of_cell? _ _ cl
        have hb7o : b7 < wo.heap.size := World.block_lt_of_cell? _ _ c7
        clear hb8 hv8 hR hrf HJ3 fa fl
        have hout : ∀ wy N, wy.heap.size = N → Below w8.heap.size w8 wy → RecS wS (r + 1) N (w5.heap.size :: L) (wy.alloc (.cells #[.int .i64 ((r : Int) + 1)] 3)) := fun wy N hN hby => by
          subst hN
          have hJy := HJ8.out.below hby
          have hzy := hJy.hz
          have hba : Below wy.heap.size wy (wy.alloc (.cells #[.int .i64 ((r : Int) + 1)] 3)) := (Below.refl _ _).alloc (Nat.le_refl _) _
          have hbw : Below wo.heap.size wo (wy.alloc (.cells #[.int .i64 ((r : Int) + 1)] 3)) := hJy.hb.trans (hba.mono (by omega))
          refine ⟨by omega, by simp only [List.length_cons]; omega, HB.out.trans (hbw.mono hzo), ?_, ?_, by omega, ⟨?_, ?_⟩, ?_⟩
          · rw [Int.natCast_add]; simp
          · simp
          · rw [List.nodup_cons]
            refine ⟨fun h => ?_, HM.out.1⟩
            have := (Array.getElem?_eq_some_iff.1 (HM.out.2 _ h).2).1
            omega
          · intro d hd
            rcases List.mem_cons.1 hd with rfl | hd
            · exact ⟨by omega, (hba.block _ (by omega)).trans hJy.mark⟩
            · obtain ⟨h1, h2⟩ := HM.out.2 d hd
              exact ⟨h1, (hbw.block _ (Array.getElem?_eq_some_iff.1 h2).1).trans h2⟩
          · rw [List.mem_cons]
            rintro (h | h)
            · omega
            · have := (Array.getElem?_eq_some_iff.1 (HM.out.2 _ h).2).1
              omega
        have HOut := Lib.hid hout
        clear hout HJ8 HM HB HBo
        by_cases hsl2 : s < len
        · have q2 : (s : Int) < (len : Int) := by omega
          have q3 : (cd e8 == 0) = false := by
            rcases hor2 with h | h
            · exact absurd hsl2 h
            · exact h
          clear hor2
          generalize cd e8 = c8 at *
          gi_wp2
          exact recJ_mk (r + 1) _ (w5.heap.size :: L) (by omega) rfl (HOut.out _ _ (by simp) ((Below.refl _ _).alloc (Nat.le_refl _) _))
        · have q2 : ¬ (s : Int) < (len : Int) := by omega
          clear hor2
          generalize cd e8 = c8 at *
          gi_wp2
          exact recJ_mk (r + 1) _ (w5.heap.size :: L) (by omega) rfl (HOut.out _ _ (by simp) ((Below.refl _ _).alloc (Nat.le_refl _) _))
      · refine ⟨hv, .done, some (.exit 2), by simp, hJ2.recd, ?_⟩
        dsimp only
        have hJ3 := hJ2.put rfl HZ5.out (rc .exhausted (some (.exit 2)))
        generalize W2.putObj (w5.heap.size + 1) (rc .exhausted (some (.exit 2))) = wz at *
        have hbo := hJ3.hb
        have c2z := (hbo.cell (p := ⟨w.heap.size, 0, none⟩) (by show w.heap.size < wo.heap.size; omega)).trans c2o
        have c7z := cell_below hbo c7
        have f7z := frozen_below hbo c7 f7
        obtain ⟨ca, fa⟩ := hJ3.cat
        obtain ⟨cl, fl⟩ := hJ3.cl
        have hsl := hJ3.hs
        have hrf := run_from a len cap s (by omega)
        have hR : Hid (Rd w.heap.size wz (cutA a cap s) (l.drop s)) := ((HR.out.below HBo.out).below hbo).drop (by rw [HL.out]; exact hcap)
        generalize cutA a cap s = a2 at hrf hR
        have hzz := hJ3.hz
        have HJ3 := Lib.hid hJ3
        clear hJ2 hJ3 hbo hv
        obtain ⟨f, kd, u2, bs, sz, e8, hx⟩ : ∃ f kd u2 bs sz e, W.nextF 32 (l.drop s) = (f, kd, u2, bs, sz, e) := ⟨_, _, _, _, _, _, rfl⟩
        have HX := Lib.hid hx
        skip
        clear hx
        gi_wp2_with fail
        refine ⟨trivial, fun _ => by omega, ?_⟩
        refine (callsIn_wide.2 (refNext_all (B := w.heap.size) a2 (len - s) (cap - s) (l.drop s) wz (by rw [List.length_drop, HL.out]) (by omega) (by omega) (by omega) hR.out)).mono ?_
        rintro e w8 ⟨v8, rfl, hv8, hb8⟩
        rw [HX.out] at hv8 ⊢
        obtain ⟨a8, cp8, rfl⟩ := hv8.sl
        simp only
        have hz8 := hb8.size
        have HJ8 := Lib.hid (HJ3.out.below hb8)
        replace f7z := frozen_below hb8 c7z f7z
        replace c2z := cell_below hb8 c2z
        replace c7z := cell_below hb8 c7z
        replace ca := cell_below hb8 ca
        replace cl := cell_below hb8 cl
        have p2 : w.heap.size < w8.heap.size := World.block_lt_of_cell? _ _ c2z
        have p7 : b7 < w8.heap.size := World.block_lt_of_cell? _ _ c7z
        have p8 : wo.heap.size < w8.heap.size := World.block_lt_of_cell? _ _ ca
        have p10 : wo.heap.size + 1 + 1 < w8.heap.size := World.block_lt_of_cell? _ _ cl
        have hb7o : b7 < wo.heap.size := World.block_lt_of_cell? _ _ c7
        clear hb8 hv8 hR hrf HJ3 fa fl
        have hout : ∀ wy N, wy.heap.size = N → Below w8.heap.size w8 wy → RecS wS (r + 1) N (w5.heap.size :: L) (wy.alloc (.cells #[.int .i64 ((r : Int) + 1)] 3)) := fun wy N hN hby => by
          subst hN
          have hJy := HJ8.out.below hby
          have hzy := hJy.hz
          have hba : Below wy.heap.size wy (wy.alloc (.cells #[.int .i64 ((r : Int) + 1)] 3)) := (Below.refl _ _).alloc (Nat.le_refl _) _
          have hbw : Below wo.heap.size wo (wy.alloc (.cells #[.int .i64 ((r : Int) + 1)] 3)) := hJy.hb.trans (hba.mono (by omega))
          refine ⟨by omega, by simp only [List.length_cons]; omega, HB.out.trans (hbw.mono hzo), ?_, ?_, by omega, ⟨?_, ?_⟩, ?_⟩
          · rw [Int.natCast_add]; simp
          · simp
          · rw [List.nodup_cons]
            refine ⟨fun h => ?_, HM.out.1⟩
            have := (Array.getElem?_eq_some_iff.1 (HM.out.2 _ h).2).1
            omega
          · intro d hd
            rcases List.mem_cons.1 hd with rfl | hd
            · exact ⟨by omega, (hba.block _ (by omega)).trans hJy.mark⟩
            · obtain ⟨h1, h2⟩ := HM.out.2 d hd
              exact ⟨h1, (hbw.block _ (Array.getElem?_eq_some_iff.1 h2).1).trans h2⟩
          · rw [List.mem_cons]
            rintro (h | h)
            · omega
            · have := (Array.getElem?_eq_some_iff.1 (HM.out.2 _ h).2).1
              omega
        have HOut := Lib.hid hout
        clear hout HJ8 HM HB HBo
        generalize cd e8 = c8 at *
        gi_wp2
        exact recJ_mk (r + 1) _ (w5.heap.size :: L) (by omega) rfl (HOut.out _ _ (by simp) ((Below.refl _ _).alloc (Nat.le_refl _) _))
    · have q1 : ¬ (r : Int) < 2 := by omega
      obtain ⟨d2, d1, rfl⟩ : ∃ d2 d1, L = [d2, d1] := by
        match L, hL, hk with
        | [], h, _ => simp at h; omega
        | [_], h, _ => simp at h; omega
        | [x, y], _, _ => exact ⟨x, y, rfl⟩
        | _ :: _ :: _ :: _, h, hk => simp at h; omega
      gi_wp2
      simp only [marks, List.map_cons, List.map_nil]
      obtain ⟨hnd, hmm⟩ := HM.out
      obtain ⟨m2, e2⟩ := hmm d2 (by simp)
      obtain ⟨m1, e1⟩ := hmm d1 (by simp)
      have hne : d1 ≠ d2 := fun e => by subst e; simp at hnd
      have e2' : (wo.setCell ⟨w.heap.size + 1 + 1, 0, none⟩ (.bool true)).heap[d2]? = some (.deferred (some [])) := (Below.heap_setCell _ _ _ _ (show d2 ≠ w.heap.size + 1 + 1 by omega)).trans e2
      have e1' : (wo.setCell ⟨w.heap.size + 1 + 1, 0, none⟩ (.bool true)).heap[d1]? = some (.deferred (some [])) := (Below.heap_setCell _ _ _ _ (show d1 ≠ w.heap.size + 1 + 1 by omega)).trans e1
      have hc := World.cell?_setCell_same _ _ (.bool true) c4o
      have HBf : Hid (Below w.heap.size w (wo.setCell ⟨w.heap.size + 1 + 1, 0, none⟩ (.bool true))) := (HBS.out.trans (HB.out.mono (by omega))).setCell (by show w.heap.size ≤ w.heap.size + 1 + 1; omega) _
      generalize wo.setCell ⟨w.heap.size + 1 + 1, 0, none⟩ (.bool true) = wf at *
      refine ⟨by simp, .inl ⟨_, _, rfl, run_takeDeferred e2', ?_⟩⟩
      refine ⟨by simp, .inl ⟨_, _, rfl, run_takeDeferred ((World.putObj_heap_other hne).trans e1'), ?_⟩⟩
      have hcf : ∀ (o o' : Obj), ((wf.putObj d2 o).putObj d1 o').cell? ⟨w.heap.size + 1 + 1, 0, none⟩ = some (.bool true) := fun o o' =>
        (World.cell?_of_block (a := ⟨w.heap.size + 1 + 1, 0, none⟩) (World.putObj_heap_other (by show w.heap.size + 1 + 1 ≠ d1; omega))).trans ((World.cell?_of_block (a := ⟨w.heap.size + 1 + 1, 0, none⟩) (World.putObj_heap_other (by show w.heap.size + 1 + 1 ≠ d2; omega))).trans hc)
      exact ⟨.bool true, by simp [results, Tryd.results3, go_sem, hcf], rfl, below_putObj (below_putObj HBf.out (by omega) _) (by omega) _⟩

theorem wireRecords_law (a : Option Addr) (len cap : Nat) (l : List Nat) (sp : Int) (E : Nat → Addr) (w : World) (hl : l.length = len) (hcap : len ≤ cap) (hr : Rd w.heap.size w a l) (hE : Errs w E) :
    Calls Tryd.prog 3 #[.slice a len cap, .int .i64 sp] w (TruePost w) :=
  callsIn_wide.1 (wireRecords_in 8 (Nat.le_refl _) a len cap l sp E w hl hcap hr hE)
end Go.Proofs.YthipecjjmboecaaDoor
