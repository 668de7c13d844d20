/-
The walk of parleylaw6.first: the chapter's examples.
-/
import Derived.Test.YtihlcecincijgaaDoorDopen
import Derived.Test.YtihlcecincijgaaDoorDall
import Derived.LaidEql
namespace Go.Proofs.YtihlcecincijgaaDoor
open Go.RowKit

theorem QRdB.blk {w : World} {g : Nat} {l : List (B.HD × Bool)} {T : TypeId} {fz : Nat × Nat} (h : w.heap[g]? = some (.cells (nvs l).toArray T fz)) : QRdB (g + 1) w (some ⟨g, 0, none⟩) l := fun j x hx => by
  obtain ⟨g0, g1, g2⟩ := nvs_at l j x hx
  refine ⟨g, 0, rfl, by omega, ?_, ?_, ?_⟩
  · rw [cell_of_row w g _ _ _ _ h, List.getElem?_toArray, Nat.zero_add]; exact g0
  · rw [cell_of_row w g _ _ _ _ h, List.getElem?_toArray, Nat.zero_add]; exact g1
  · rw [cell_of_row w g _ _ _ _ h, List.getElem?_toArray, Nat.zero_add]; exact g2
theorem run_toQ (a : Option Addr) (n cap hi : Nat) (h : hi ≤ cap) (w : World) :
    (Instr.slice 22 (.slice a n cap) none (some (.int .i64 (hi : Nat))) none).run Tryd.prog w = .ok (.slice (cutQ a cap 0) hi cap) w := by
  have hs : ∀ w, (sizeOf 54).run Tryd.prog w = .ok 3 w := fun _ => by kernel_rfl
  have := Go.run_slice_h (P := Tryd.prog) (w := w) 22 a n cap (by kernel_rfl) .i64 hi (by omega) (by omega)
  rw [this, show Tryd.prog.elem 22 = 54 by kernel_rfl, hs]
  simp [Result.andThen, sliced, cutQ]

theorem QRdB.cut2 {K : Nat} {w : World} {a : Option Addr} {l : List (B.HD × Bool)} {k : Nat} (h : QRdB K w a l) : QRdB K w a (l.take k) := fun j x hx => by
  by_cases hj : j < k
  · rw [List.getElem?_take_of_lt hj] at hx
    exact h j x hx
  · rw [List.getElem?_take_eq_none (by omega)] at hx
    cases hx
def post : ByteArray := ⟨#[80, 79, 83, 84]⟩
def http : ByteArray := ⟨#[104, 116, 116, 112]⟩
def pa : ByteArray := ⟨#[47, 97]⟩
def d200 : ByteArray := ⟨#[50, 48, 48]⟩
def d007 : ByteArray := ⟨#[48, 48, 55]⟩
def ex1 : List (B.HD × Bool) := [((D.kMethod, post), false), ((D.kPath, pa), false), ((D.kScheme, http), false), ((D.te, D.trailers), false)]
def ex2 : List (B.HD × Bool) := [((D.kStatus, d200), false)]
def ex3 : List (B.HD × Bool) := [((D.cLength, d007), false)]
theorem ex1_o : D.opn ex1 = some (⟨post, http, ⟨#[]⟩, pa⟩, [((D.te, D.trailers), false)]) := by rfl
theorem ex1_n : D.opn (ex1.take 2) = none := by rfl
theorem ex2_o : D.opnA ex2 = some (200, []) := by rfl
theorem ex3_o : D.lenV (D.allN D.cLength ex3) = (7, true, true) := by rfl
theorem qsz_of {l : List (B.HD × Bool)} (h : l.all (fun x => decide (x.1.1.size ≤ 1048576 ∧ x.1.2.size ≤ 1048576)) = true) : QSz 1048576 l := fun x hx => by
  rw [List.all_eq_true] at h
  exact of_decide_eq_true (h x hx)

theorem o1 {p : Addr} {w w' : World} {e : Ending} (h : OpenOut p (D.opn ex1) w e w') : ∃ va vc, e = .returned (.tuple #[.agg #[.string ⟨#[80, 79, 83, 84]⟩, .string ⟨#[104, 116, 116, 112]⟩, .string ⟨#[]⟩, .string ⟨#[47, 97]⟩, .slice va 1 vc], .nilIface]) ∧ Below w.heap.size w w' := by
  obtain ⟨v, he, ho, hb⟩ := h
  rw [ex1_o] at he ho
  obtain ⟨va, vc, hv⟩ := ho.form
  rw [hv] at he
  exact ⟨va, vc, he, hb⟩
theorem o2 {p : Addr} {w w' : World} {e : Ending} (h : OpenOut p (D.opn (ex1.take 2)) w e w') : ∃ va vc, e = .returned (.tuple #[.agg #[.string ⟨#[]⟩, .string ⟨#[]⟩, .string ⟨#[]⟩, .string ⟨#[]⟩, .slice va 0 vc], .iface 146 (.pointer (some p))]) ∧ Below w.heap.size w w' := by
  obtain ⟨v, he, ho, hb⟩ := h
  rw [ex1_n] at he ho
  obtain ⟨va, vc, hv⟩ := ho.form
  rw [hv] at he
  exact ⟨va, vc, he, hb⟩
theorem o3 {p : Addr} {w w' : World} {e : Ending} (h : OpenAOut p (D.opnA ex2) w e w') : ∃ va vc, e = .returned (.tuple #[.agg #[.int .i64 200, .slice va 0 vc], .nilIface]) ∧ Below w.heap.size w w' := by
  obtain ⟨v, he, ho, hb⟩ := h
  rw [ex2_o] at he ho
  obtain ⟨va, vc, hv⟩ := ho.form
  rw [hv] at he
  exact ⟨va, vc, he, hb⟩
theorem o4 {p : Addr} {w w' : World} {e : Ending} (h : LenOut p (D.lenV (D.allN D.cLength ex3)) w e w') : e = .returned (.tuple #[.int .i64 7, .bool true, .nilIface]) ∧ Below w.heap.size w w' := by
  obtain ⟨he, hb⟩ := h
  rw [ex3_o] at he
  exact ⟨he, hb⟩
theorem comp_errD : (Tryd.prog.info? 146).map (·.comparable) = some true := by kernel_rfl
theorem size_errD : (Tryd.prog.info? 163).map (·.size) = some 1 := by kernel_rfl
theorem run_eqI_same (w : World) (a : Addr) : (binOp .eql 29 (.iface 146 (.pointer (some a))) (.iface 146 (.pointer (some a)))).run Tryd.prog w = .ok (.bool true) w := by
  obtain ⟨i1, hi1, hc⟩ := Option.map_eq_some_iff.1 comp_errD
  obtain ⟨j1, hj1, hz⟩ := Option.map_eq_some_iff.1 size_errD
  exact run_eql_iface_ptr_same w a Tryd.underlying29 Tryd.underlying146 hi1 hc hj1
set_option maxRecDepth 100000 in
set_option maxHeartbeats 4000000 in
theorem first_any (p : Addr) (w : World) (hE : EH w p) : Calls Tryd.prog 8 #[] w (TruePost w) := by
  obtain ⟨w0, hw0⟩ : ∃ w0, w0 = w.alloc (.cells (nvs ex1).toArray 54) := ⟨_, rfl⟩
  have hb0 : Below w.heap.size w w0 := by rw [hw0]; exact (Below.refl _ _).alloc (Nat.le_refl _) _
  have HQ1 : Hid (QRdB (w.heap.size + 1) w0 (some ⟨w.heap.size, 0, none⟩) ex1) := by rw [hw0]; exact QRdB.blk (heap_alloc_new w _)
  have hz0 : w0.heap.size = w.heap.size + 1 := by rw [hw0]; simp
  have HB0 := Lib.hid hb0
  have HE0 := Lib.hid (hE.below hb0)
  have HO1 := Lib.hid (Open_any (some ⟨w.heap.size, 0, none⟩) 4 4 ex1 p w0 rfl (by decide) (by decide) HQ1.out (by omega) (qsz_of (by decide)) HE0.out)
  have hsl : ∀ ww, (Instr.slice 22 (.slice (some ⟨w.heap.size, 0, none⟩) 4 4) none (some (.int .i64 2)) none).run Tryd.prog ww = .ok (.slice (some ⟨w.heap.size, 0, none⟩) 2 4) ww := fun ww => run_toQ _ 4 4 2 (by decide) ww
  have Hw0 : Hid (w0 = w.alloc (.cells #[.string ⟨#[58, 109, 101, 116, 104, 111, 100]⟩, .string ⟨#[80, 79, 83, 84]⟩, .bool false, .string ⟨#[58, 112, 97, 116, 104]⟩, .string ⟨#[47, 97]⟩, .bool false, .string ⟨#[58, 115, 99, 104, 101, 109, 101]⟩, .string ⟨#[104, 116, 116, 112]⟩, .bool false, .string ⟨#[116, 101]⟩, .string ⟨#[116, 114, 97, 105, 108, 101, 114, 115]⟩, .bool false] 54)) := hw0
  have hzz : w.heap.size + 1 ≤ w0.heap.size := Nat.le_of_eq hz0.symm
  clear hE hw0 hb0 hz0
  go_enter Tryd.func8, Tryd.ntmps8
  go_wp2_with fail
  rw [← Hw0.out]
  refine HO1.out.mono ?_
  rintro e w1 ho
  obtain ⟨va, vc, rfl, hb1⟩ := o1 ho
  have HB1 := Lib.hid (HB0.out.trans (hb1.mono (by omega)))
  have HE1 := Lib.hid (HE0.out.below hb1)
  have HQb := Lib.hid (HQ1.out.belowB hb1 hzz)
  have hz1 : w.heap.size + 1 ≤ w1.heap.size := by have := hb1.size; omega
  clear ho hb1 HO1 HQ1
  have hb2 : Below w1.heap.size w1 (w1.alloc (.cells #[.string ⟨#[80, 79, 83, 84]⟩, .string ⟨#[104, 116, 116, 112]⟩, .string ⟨#[]⟩, .string ⟨#[47, 97]⟩, .slice va 1 vc] 27)) := (Below.refl _ _).alloc (Nat.le_refl _) _
  have HR2 : Hid (BA 27 (w1.alloc (.cells #[.string ⟨#[80, 79, 83, 84]⟩, .string ⟨#[104, 116, 116, 112]⟩, .string ⟨#[]⟩, .string ⟨#[47, 97]⟩, .slice va 1 vc] 27)) w1.heap.size #[.string ⟨#[80, 79, 83, 84]⟩, .string ⟨#[104, 116, 116, 112]⟩, .string ⟨#[]⟩, .string ⟨#[47, 97]⟩, .slice va 1 vc]) := heap_alloc_new w1 _
  have HB2 := Lib.hid (HB1.out.trans (hb2.mono (by omega)))
  have HE2 := Lib.hid (HE1.out.below hb2)
  have HO2 := Lib.hid (Open_any (some ⟨w.heap.size, 0, none⟩) 2 4 (ex1.take 2) p _ rfl (by decide) (by decide) ((QRdB.cut2 HQb.out).belowB hb2 hz1) (by simp; omega) (qsz_of (by decide)) HE2.out)
  have hz2 : w.heap.size + 2 ≤ (w1.alloc (.cells #[.string ⟨#[80, 79, 83, 84]⟩, .string ⟨#[104, 116, 116, 112]⟩, .string ⟨#[]⟩, .string ⟨#[47, 97]⟩, .slice va 1 vc] 27)).heap.size := by simp; omega
  clear hb2
  go_wp2_with fail
  refine HO2.out.mono ?_
  rintro e w3 ho
  obtain ⟨vb, vd, rfl, hb3⟩ := o2 ho
  have HB3 := Lib.hid (HB2.out.trans (hb3.mono (by omega)))
  have HE3 := Lib.hid (HE2.out.below hb3)
  have HR3 := Lib.hid (HR2.out.below hb3)
  have hz3 := hb3.size
  clear ho hb3 HO2 HR2
  obtain ⟨w4, hw4⟩ : ∃ w4, w4 = (w3.alloc (.cells #[.string ⟨#[]⟩, .string ⟨#[]⟩, .string ⟨#[]⟩, .string ⟨#[]⟩, .slice vb 0 vd] 27)).alloc (.cells (nvs ex2).toArray 54) := ⟨_, rfl⟩
  have hb4 : Below w3.heap.size w3 w4 := by rw [hw4]; exact ((Below.refl _ _).alloc (Nat.le_refl _) _).alloc (by simp) _
  have HQ4 : Hid (QRdB (w3.heap.size + 1 + 1) w4 (some ⟨w3.heap.size + 1, 0, none⟩) ex2) := by rw [hw4]; exact QRdB.blk (alloc_at2 _ (by simp))
  have hz4 : w4.heap.size = w3.heap.size + 2 := by rw [hw4]; simp
  have HB4 := Lib.hid (HB3.out.trans (hb4.mono (by omega)))
  have HE4 := Lib.hid (HE3.out.below hb4)
  have HR4 := Lib.hid (HR3.out.below hb4)
  have HO4 := Lib.hid (OpenAnswer_any (some ⟨w3.heap.size + 1, 0, none⟩) 1 1 ex2 p w4 rfl (by decide) (by decide) HQ4.out (by omega) (qsz_of (by decide)) HE4.out)
  have Hw4 : Hid (w4 = (w3.alloc (.cells #[.string ⟨#[]⟩, .string ⟨#[]⟩, .string ⟨#[]⟩, .string ⟨#[]⟩, .slice vb 0 vd] 27)).alloc (.cells #[.string ⟨#[58, 115, 116, 97, 116, 117, 115]⟩, .string ⟨#[50, 48, 48]⟩, .bool false] 54)) := hw4
  have hz4' : w3.heap.size + 2 ≤ w4.heap.size := Nat.le_of_eq hz4.symm
  clear hw4 hb4 HR3 HQ4 hz4
  go_wp2_with fail
  rw [← Hw4.out]
  refine HO4.out.mono ?_
  rintro e w5 ho
  obtain ⟨vx, vy, rfl, hb5⟩ := o3 ho
  have HB5 := Lib.hid (HB4.out.trans (hb5.mono (by omega)))
  have HE5 := Lib.hid (HE4.out.below hb5)
  have HR5 := Lib.hid (HR4.out.below hb5)
  have hz5 := hb5.size
  clear ho hb5 HO4 HR4
  obtain ⟨w6, hw6⟩ : ∃ w6, w6 = (w5.alloc (.cells #[.int .i64 200, .slice vx 0 vy] 36)).alloc (.cells (nvs ex3).toArray 54) := ⟨_, rfl⟩
  have hb6 : Below w5.heap.size w5 w6 := by rw [hw6]; exact ((Below.refl _ _).alloc (Nat.le_refl _) _).alloc (by simp) _
  have HQ6 : Hid (QRdB (w5.heap.size + 1 + 1) w6 (some ⟨w5.heap.size + 1, 0, none⟩) ex3) := by rw [hw6]; exact QRdB.blk (alloc_at2 _ (by simp))
  have HS6 : Hid (BA 36 w6 w5.heap.size #[.int .i64 200, .slice vx 0 vy]) := by
    show _ = _
    rw [hw6, heap_alloc_old _ _ (by simp)]
    exact heap_alloc_new w5 _
  have hz6 : w6.heap.size = w5.heap.size + 2 := by rw [hw6]; simp
  have HB6 := Lib.hid (HB5.out.trans (hb6.mono (by omega)))
  have HE6 := Lib.hid (HE5.out.below hb6)
  have HR6 := Lib.hid (HR5.out.below hb6)
  have HO6 := Lib.hid (Length_any (some ⟨w5.heap.size + 1, 0, none⟩) 1 1 ex3 p w6 rfl (by decide) HQ6.out (by omega) (qsz_of (by decide)) HE6.out)
  have Hw6 : Hid (w6 = (w5.alloc (.cells #[.int .i64 200, .slice vx 0 vy] 36)).alloc (.cells #[.string ⟨#[99, 111, 110, 116, 101, 110, 116, 45, 108, 101, 110, 103, 116, 104]⟩, .string ⟨#[48, 48, 55]⟩, .bool false] 54)) := hw6
  have hz6' : w5.heap.size + 2 ≤ w6.heap.size := Nat.le_of_eq hz6.symm
  clear hw6 hb6 HR5 HQ6 hz6
  go_wp2_with fail
  rw [← Hw6.out]
  refine HO6.out.mono ?_
  rintro e w7 ho
  obtain ⟨rfl, hb7⟩ := o4 ho
  have HB7 := Lib.hid (HB6.out.trans (hb7.mono (by omega)))
  have hE7 : EH w7 p := HE6.out.below hb7
  have HR7 := HR6.out.below hb7
  have HS7 := HS6.out.below hb7
  unfold EH at hE7
  have c3 := HR7.cell (i := 3) (v := .string ⟨#[47, 97]⟩) rfl
  have c4 := HR7.cell (i := 4) (v := .slice va 1 vc) rfl
  have s0 := HS7.cell (i := 0) (v := .int .i64 200) rfl
  have heq := run_eqI_same w7 p
  clear ho hb7 HO6 HR6 HS6 HR7 HS7
  go_wp2
  go_ret
  exact ⟨rfl, HB7.out⟩
end Go.Proofs.YtihlcecincijgaaDoor
