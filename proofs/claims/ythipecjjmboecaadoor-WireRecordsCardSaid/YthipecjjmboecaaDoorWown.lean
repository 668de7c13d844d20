/-
The walk of parleylaw1.WireOwn.
-/
import Derived.Test.YthipecjjmboecaaDoorWiter
import Derived.Test.YthipecjjmboecaaDoorWchk
import Derived.Test.YthipecjjmboecaaDoorWfirst
import Derived.Test.YthipecjjmboecaaDoorGbytes
import Derived.Test.YthipecjjmboecaaDoorGsame
import Derived.RangeFuncBound
import Derived.Deep.RegionHeld3
namespace Go.Proofs.YthipecjjmboecaaDoor
open Go.RowKit Go.Shelf
attribute [local go_sem] Oper.semAt_some

/-- Block g's first n cells are bytes that may be written. -/
def Wz (g n : Nat) (w : World) : Prop := ∀ q, q < n → (∃ v, w.cell? ⟨g, q, none⟩ = some v) ∧ w.frozen? ⟨g, q, none⟩ = false
theorem Wz.step {g n j : Nat} {w : World} {v : Value} (h : Wz g n w) : Wz g n (w.setCell ⟨g, j, none⟩ v) := by
  intro q hq
  obtain ⟨⟨d, hd⟩, hf⟩ := h q hq
  refine ⟨?_, by simpa using hf⟩
  by_cases e : j = q
  · subst e
    exact ⟨v, World.cell?_setCell_same _ _ _ hd⟩
  · exact ⟨d, (World.cell?_setCell_other _ _ _ _ (fun h => e (congrArg Addr.off h))).trans hd⟩
theorem Own.wz {B : Nat} {w : World} {g cp : Nat} {l : List Nat} (h : Own B w (.slice (some ⟨g, 0, none⟩) l.length cp) l) : Wz g l.length w := fun q hq =>
  ⟨⟨_, (h.1.cellAt q (by omega)).trans (List.getElem?_eq_getElem (by simpa [vals] using hq))⟩, h.1.frozenAt q⟩
theorem Wz.lt {g n : Nat} {w : World} (h : Wz g n w) (hn : 0 < n) : g < w.heap.size := by
  obtain ⟨⟨v, hv⟩, _⟩ := h 0 hn
  exact World.block_lt_of_cell? _ _ hv

theorem below_putObj {B l : Nat} {w W : World} (h : Below B w W) (hl : B ≤ l) (o : Obj) : Below B w (W.putObj l o) :=
  ⟨h.os, h.tape, h.output, by simpa using h.size, fun k hk => (World.putObj_heap_other (by omega)).trans (h.block k hk)⟩
/-- All but block g lies as it lay. -/
def Fz (g : Nat) (W W' : World) : Prop := W'.heap.size = W.heap.size ∧ ∀ k, k ≠ g → W'.heap[k]? = W.heap[k]?
theorem Fz.refl (g : Nat) (W : World) : Fz g W W := ⟨rfl, fun _ _ => rfl⟩
theorem Fz.step {g j : Nat} {W W' : World} {v : Value} (h : Fz g W W') : Fz g W (W'.setCell ⟨g, j, none⟩ v) :=
  ⟨by simpa using h.1, fun k hk => (Below.heap_setCell _ _ _ _ (by simpa using hk)).trans (h.2 k hk)⟩

set_option maxRecDepth 100000 in
set_option maxHeartbeats 4000000 in
theorem wireOwn_in (n : Nat) (hn : 8 ≤ n) (a : Option Addr) (len cap : Nat) (l : List Nat) (u : Nat) (E : Nat → Addr) (w : World) (hl : l.length = len) (hcap : len ≤ cap) (hr : Rd w.heap.size w a l) (hu : Hid (u < 18446744073709551616)) (hE : Errs w E) :
    CallsIn Fence.wide n Tryd.prog 4 #[.slice a len cap, .int .u64 u] w (TruePost w) := by
  have HL := Lib.hid hl
  have HR := Lib.hid hr
  have HE := Lib.hid hE
  have hb256 := hr.all
  have H256 := Lib.hid hb256
  clear hl hr hE hb256
  refine callsIn_of_wp_marks Tryd.func4 rfl trivial ?_ rfl
  simp only [Tryd.ntmps4, List.size_toArray, List.length_cons, List.length_nil, Nat.reduceAdd, Nat.reduceSub, Array.replicate_succ, Array.replicate_zero, List.push_toArray, List.append_toArray, List.nil_append, List.cons_append]
  gi_wp2_with fail
  refine ⟨trivial, fun _ => by omega, ?_⟩
  refine (callsIn_wide.2 (first_any E w HE.out)).mono ?_
  rintro e w1 ⟨rfl, hb1⟩
  have HB1 := Lib.hid hb1
  have hz1 := hb1.size
  clear hb1
  by_cases hm : (16384 : Int) < (len : Int)
  · gi_wp2
    exact ⟨_, results_tmp rfl _ _ _, rfl, HB1.out⟩
  have hsz : len ≤ 1048576 := by omega
  gi_wp2_with fail
  refine ⟨trivial, fun _ => by omega, ?_⟩
  refine (callsIn_wide.2 (bytes_any (B2 := w.heap.size) a len cap l w1 HL.out (HR.out.below HB1.out) (by omega))).mono ?_
  rintro e w2 ⟨kv, rfl, hkv, hb2⟩
  obtain ⟨gk, ck, rfl⟩ := hkv.2
  have HKv := Lib.hid hkv
  have HB2 := Lib.hid (HB1.out.trans (hb2.mono hz1))
  have hz2 := HB2.out.size
  clear hkv hb2 HB1 hz1
  gi_wp2
  refine wpIn_loop_rounds 3 ?_
  obtain ⟨wo, hwo⟩ : ∃ wo, wo = w2 := ⟨_, rfl⟩
  have HBr : Hid (Below w2.heap.size w2 wo) := by rw [hwo]; exact Below.refl _ _
  rw [← hwo]
  clear hwo
  rw [roundsIn_succ]
  gi_wp2_with fail
  refine ⟨trivial, fun _ => by omega, ?_⟩
  have HRr := Lib.hid (HR.out.below (HB2.out.trans (HBr.out.mono hz2)))
  refine (callsIn_wide.2 (varint_any (B2 := w.heap.size) a len cap l u wo HL.out HRr.out hu (by omega))).mono ?_
  rintro e v1 ⟨vv, rfl, hvv, hbv⟩
  obtain ⟨gv, cv, rfl⟩ := hvv.2
  obtain ⟨N, hN⟩ : ∃ N, N = (l ++ W.vbs u).length := ⟨_, rfl⟩
  have HWv := Lib.hid hvv.wz
  have HBv := Lib.hid hbv
  have hgv : wo.heap.size ≤ gv := (hvv.1.lt gv rfl).1
  rw [← hN] at HWv ⊢
  have hzv := hbv.size
  have hNs : N ≤ 2097152 := by
    rw [hN, List.length_append, HL.out]
    have := (W.vb_len 9 u).2
    unfold W.vbs
    omega
  clear hvv hbv hN HRr
  gi_wp2
  gi_loopw [9] (fun i wq => ∃ j : Nat, j ≤ N ∧ i = .int .i64 j ∧ Hid (Below wo.heap.size wo wq) ∧ Hid (Wz gv N wq)) (fun i _ => N - (intOf i).toNat)
  case atStart => exact ⟨0, by omega, rfl, HBv, HWv⟩
  case round =>
    obtain ⟨j, hj, rfl, HBq, HW⟩ := hrel
    clear HBv HWv
    by_cases hlt : j < N
    · obtain ⟨⟨v0, hv0⟩, hf0⟩ := HW.out j hlt
      have q0 : (0 : Int) ≤ (j : Int) := by omega
      have q1 : (j : Int) < (N : Int) := by omega
      gi_wp2
      go_roundw
      case rel => exact ⟨j + 1, by omega, by rw [Int.natCast_add]; rfl, HBq.out.setCell hgv _, HW.out.step⟩
      case measure => simp [intOf]; omega
    · have q1 : ¬ (j : Int) < (N : Int) := by omega
      have HBw := Lib.hid (HB2.out.trans ((HBr.out.trans (HBq.out.mono HBr.out.size)).mono hz2))
      gi_wp2_with fail
      refine ⟨trivial, fun _ => by omega, ?_⟩
      refine (callsIn_wide.2 (records_any (B2 := w.heap.size) a len cap l wr HL.out (HR.out.below HBw.out) (by omega))).mono ?_
      rintro e w5 ⟨Bt, gB, cB, rfl, hBt1, hBt2, hown, hb5⟩
      have HB5 := Lib.hid (HBw.out.trans (hb5.mono HBw.out.size))
      have HB25 := Lib.hid ((HBr.out.trans (HBq.out.mono HBr.out.size)).trans (hb5.mono ((HBr.out.trans (HBq.out.mono HBr.out.size)).size)))
      have HO5 := Lib.hid hown
      have HBt := Lib.hid hBt2
      have hz5 := HB5.out.size
      clear hown hb5 hBt2 HBw HBq HW
      gi_wp2
      refine rangeFunc_by rfl (by omega) (gf := 44) (lb := #[.pointer (some ⟨Bt, 0, none⟩)]) rfl trivial (enters_of Tryd.func44 (by kernel_rfl) rfl) ?_
      intro fn hfn rc hrc0
      have hrcH := Lib.hid hrc0
      clear hrc0
      have hle : w5.heap.size ≤ ((w5.alloc (.deferred (some []))).alloc (rc .ready none)).heap.size := by simp; omega
      have hb50 : Below w5.heap.size w5 ((w5.alloc (.deferred (some []))).alloc (rc .ready none)) := ((Below.refl _ _).alloc (Nat.le_refl _) _).alloc (by simp) _
      have hl0 : ((w5.alloc (.deferred (some []))).alloc (rc .ready none)).heap[w5.heap.size + 1]? = some (rc .ready none) := by
        have := World.alloc_heap_new (w5.alloc (.deferred (some []))) (rc .ready none)
        rwa [World.size_alloc] at this
      have hd0 : ((w5.alloc (.deferred (some []))).alloc (rc .ready none)).heap[w5.heap.size]? = some (.deferred (some [])) := by
        rw [heap_alloc_old _ _ (by simp)]
        exact World.alloc_heap_new w5 _
      obtain ⟨aB, cB', hvB, hcB, hrB⟩ := HO5.out.rd H256.out
      cases hvB
      have HYL : ∀ s f kd u2 bs sz v B1 W1, s < l.length → W.nextF 32 (l.drop s) = (f, kd, u2, bs, sz, 0) → ((Below w5.heap.size w5 W1 ∧ W1.heap[w5.heap.size + 1]? = some (rc .ready none)) ∧ W1.heap[w5.heap.size]? = some (.deferred (some []))) → w5.heap.size + 2 ≤ B1 → B1 ≤ W1.heap.size → Own B1 W1 v bs →
          YieldAt Fence.wide (n - 1 - 1) Tryd.prog (w5.heap.size + 1) (encR s f kd u2 v) W1 fun e W' => (e = .returned (.bool true) ∧ ((Below w5.heap.size w5 W' ∧ W'.heap[w5.heap.size + 1]? = some (rc .ready none)) ∧ W'.heap[w5.heap.size]? = some (.deferred (some []))) ∧ Kx (fun _ => False) B1 W1 W') ∨ (e = .returned (.bool false) ∧ False) := by
        intro s f kd u2 bs sz v B1 W1 hs hx ⟨⟨hJ1, hJ2⟩, hJ3⟩ hB0 hB1 hown
        obtain ⟨gr, cr, rfl⟩ := hown.2
        have hgr := (hown.1.lt gr rfl).1
        have hgr2 := (hown.1.lt gr rfl).2
        have HWz := Lib.hid hown.wz
        have hbs := W.nextF_bytes 32 (l.drop s)
        rw [hx, List.length_drop] at hbs
        simp only at hbs
        obtain ⟨nb, hnb⟩ : ∃ nb, nb = bs.length := ⟨_, rfl⟩
        rw [← hnb] at HWz hbs ⊢
        have hnb2 : nb ≤ 1048576 := by have := HL.out; omega
        have H1 := Lib.hid hJ1
        have H2 := Lib.hid hJ2
        have H3 := Lib.hid hJ3
        refine YieldAt.mono (yield_by (R := fun b W' => b = true ∧ ((Below w5.heap.size w5 W' ∧ W'.heap[w5.heap.size + 1]? = some (rc .ready none)) ∧ W'.heap[w5.heap.size]? = some (.deferred (some []))) ∧ Kx (fun _ => False) B1 W1 W') hrcH.out hfn hJ2 rfl ?_) (fun e W' ⟨b, he, hb, h⟩ => .inl ⟨by rw [he, hb], h⟩)
        clear hx hJ1 hJ2 hJ3 hown hnb hl0 hd0 hb50 hle hrB
        gi_wp2
        have hl1 : w5.heap.size + 1 < W1.heap.size := by omega
        have hal : ∀ k, k < W1.heap.size → (W1.alloc (.cells #[.int .i64 f, .int .i64 kd, .int .u64 u2, .slice (some ⟨gr, 0, none⟩) nb cr] 29)).heap[k]? = W1.heap[k]? := fun k hk => heap_alloc_old _ _ hk
        refine ⟨(hal _ hl1).trans H2.out, ?_⟩
        obtain ⟨Wb, hWb⟩ : ∃ Wb, Wb = (W1.alloc (.cells #[.int .i64 f, .int .i64 kd, .int .u64 u2, .slice (some ⟨gr, 0, none⟩) nb cr] 29)).putObj (w5.heap.size + 1) (rc .busy none) := ⟨_, rfl⟩
        have hFb : ∀ k, k ≠ w5.heap.size + 1 → k < W1.heap.size → Wb.heap[k]? = W1.heap[k]? := fun k hk hlt => by rw [hWb, World.putObj_heap_other hk, hal k hlt]
        have hsb : Wb.heap.size = W1.heap.size + 1 := by rw [hWb]; simp
        have hcR : Wb.cell? ⟨W1.heap.size, 3, none⟩ = some (.slice (some ⟨gr, 0, none⟩) nb cr) := by
          rw [hWb, World.cell?_of_block (World.putObj_heap_other (by show W1.heap.size ≠ _; omega))]
          simp
        have hbusy : Wb.heap[w5.heap.size + 1]? = some (rc .busy none) := by rw [hWb]; exact World.putObj_heap_same (by simp; omega)
        have hbB : Below w5.heap.size w5 Wb := by rw [hWb]; exact below_putObj (H1.out.alloc (by omega) _) (by omega) _
        have hzB : Wz gr nb Wb := fun q hq => by
          obtain ⟨⟨v, hv⟩, hf⟩ := HWz.out q hq
          have e := hFb gr (by omega) hgr2
          exact ⟨⟨v, (World.cell?_of_block (a := ⟨gr, q, none⟩) e).trans hv⟩, (World.frozen?_of_block (a := ⟨gr, q, none⟩) e).trans hf⟩
        have hF3 := (hFb w5.heap.size (by omega) (by omega)).trans H3.out
        rw [← hWb]
        have HFb := Lib.hid hFb
        have HcR := Lib.hid hcR
        have Hbusy := Lib.hid hbusy
        have HbB := Lib.hid hbB
        have HzB := Lib.hid hzB
        have HF3 := Lib.hid hF3
        clear hWb hal hFb hcR hbusy hbB hzB hF3
        gi_wp2
        gi_loopw [12] (fun i wr => ∃ j : Nat, j ≤ nb ∧ i = .int .i64 j ∧ Hid (Fz gr Wb wr) ∧ Hid (Wz gr nb wr) ∧ Hid (Below w5.heap.size w5 wr)) (fun i _ => nb - (intOf i).toNat)
        case atStart => exact ⟨0, by omega, rfl, Fz.refl _ _, HzB, HbB⟩
        case round =>
          obtain ⟨j, hj, rfl, HF, HW, HB⟩ := hrel
          have hcR := (World.cell?_of_block (a := ⟨W1.heap.size, 3, none⟩) (HF.out.2 W1.heap.size (by omega))).trans HcR.out
          by_cases hlt : j < nb
          · obtain ⟨⟨v0, hv0⟩, hf0⟩ := HW.out j hlt
            have q0 : (0 : Int) ≤ (j : Int) := by omega
            have q1 : (j : Int) < (nb : Int) := by omega
            gi_wp2
            go_roundw
            case rel => exact ⟨j + 1, by omega, by rw [Int.natCast_add]; rfl, HF.out.step, HW.out.step, HB.out.setCell (show w5.heap.size ≤ gr by omega) _⟩
            case measure => simp [intOf]; omega
          · have q1 : ¬ (j : Int) < (nb : Int) := by omega
            gi_wp2
            have hl2 : w5.heap.size + 1 < wr.heap.size := by rw [HF.out.1]; omega
            refine ⟨(HF.out.2 _ (by omega)).trans Hbusy.out, ⟨⟨below_putObj HB.out (by omega) _, World.putObj_heap_same hl2⟩, ?_⟩, ?_, fun k hk _ => ?_⟩
            · exact (World.putObj_heap_other (by omega)).trans ((HF.out.2 _ (by omega)).trans HF3.out)
            · rw [World.putObj_size, HF.out.1, hsb]; omega
            · by_cases e : k = w5.heap.size + 1
              · subst e
                exact (World.putObj_heap_same hl2).trans H2.out.symm
              · exact (World.putObj_heap_other e).trans ((HF.out.2 _ (by omega)).trans (HFb.out k e (by omega)))
      have HC := Lib.hid (records1_in (n - 1) (w5.heap.size + 1) Bt (by omega) (fun _ => False) (w5.heap.size + 2) w5.heap.size (fun _ _ h => h) (fun _ _ h => h) (fun h => h) (some ⟨gB, 0, none⟩) l.length cB l E rfl hcB (by rw [HL.out]; exact hsz) (fun _ _ _ h => h)
        (fun _ W => (Below w5.heap.size w5 W ∧ W.heap[w5.heap.size + 1]? = some (rc .ready none)) ∧ W.heap[w5.heap.size]? = some (.deferred (some []))) (fun _ _ => False)
        (fun _ A C h hb => ⟨⟨h.1.1.trans (hb.mono h.1.1.size), (hb.block _ (Array.getElem?_eq_some_iff.1 h.1.2).1).trans h.1.2⟩, (hb.block _ (Array.getElem?_eq_some_iff.1 h.2).1).trans h.2⟩)
        HYL _ (by simp) hle (HE.out.below (HB5.out.trans (hb50.mono hz5))) (cell_below hb50 HBt.out) (hrB.below hb50) ⟨⟨hb50, hl0⟩, hd0⟩)
      refine HC.out.mono ?_
      rintro e W2 ⟨hv, (⟨s, ⟨⟨hb2, hl2⟩, hd2⟩, _⟩ | ⟨s, hx⟩)⟩
      · refine ⟨hv, .ready, none, by simp, hl2, ?_⟩
        dsimp only
        have hBn : Below w2.heap.size w2 (W2.putObj (w5.heap.size + 1) (rc .exhausted none)) := below_putObj (HB25.out.trans (hb2.mono HB25.out.size)) (by have := HB25.out.size; omega) _
        have hDn : (W2.putObj (w5.heap.size + 1) (rc .exhausted none)).heap[w5.heap.size]? = some (.deferred (some [])) := (World.putObj_heap_other (by omega)).trans hd2
        have HBx := Lib.hid hBn
        have hdw1 : w.heap.size ≤ w5.heap.size := HB5.out.size
        have HDx := Lib.hid hDn
        clear hBn hDn hb2 hl2 hd2 hv
        generalize W2.putObj (w5.heap.size + 1) (rc .exhausted none) = wx at *
        gi_wp2
        clear HC HYL hle hb50 hl0 hd0 hrB hcB HO5 HBt HB5 HB25 hz5 hBt1 hrcH HBr
        generalize w5.heap.size = dd1 at *
        obtain ⟨wo, hwo⟩ : ∃ wo, wo = wx := ⟨_, rfl⟩
        subst hwo
        have HBr := HBx
        have HD1 := HDx
        clear HBx HDx
        rw [roundsIn_succ]
        gi_wp2_with fail
        refine ⟨trivial, fun _ => by omega, ?_⟩
        have HRr := Lib.hid (HR.out.below (HB2.out.trans (HBr.out.mono hz2)))
        refine (callsIn_wide.2 (varint_any (B2 := w.heap.size) a len cap l u wo HL.out HRr.out hu (by omega))).mono ?_
        rintro e v1 ⟨vv, rfl, hvv, hbv⟩
        obtain ⟨gv, cv, rfl⟩ := hvv.2
        obtain ⟨N, hN⟩ : ∃ N, N = (l ++ W.vbs u).length := ⟨_, rfl⟩
        have HWv := Lib.hid hvv.wz
        have HBv := Lib.hid hbv
        have hgv : wo.heap.size ≤ gv := (hvv.1.lt gv rfl).1
        rw [← hN] at HWv ⊢
        have hzv := hbv.size
        have hNs : N ≤ 2097152 := by
          rw [hN, List.length_append, HL.out]
          have := (W.vb_len 9 u).2
          unfold W.vbs
          omega
        clear hvv hbv hN HRr
        gi_wp2
        gi_loopw [9] (fun i wq => ∃ j : Nat, j ≤ N ∧ i = .int .i64 j ∧ Hid (Below wo.heap.size wo wq) ∧ Hid (Wz gv N wq)) (fun i _ => N - (intOf i).toNat)
        case atStart => exact ⟨0, by omega, rfl, HBv, HWv⟩
        case round =>
          obtain ⟨j, hj, rfl, HBq, HW⟩ := hrel
          clear HBv HWv
          by_cases hlt : j < N
          · obtain ⟨⟨v0, hv0⟩, hf0⟩ := HW.out j hlt
            have q0 : (0 : Int) ≤ (j : Int) := by omega
            have q1 : (j : Int) < (N : Int) := by omega
            gi_wp2
            go_roundw
            case rel => exact ⟨j + 1, by omega, by rw [Int.natCast_add]; rfl, HBq.out.setCell hgv _, HW.out.step⟩
            case measure => simp [intOf]; omega
          · have q1 : ¬ (j : Int) < (N : Int) := by omega
            have HBw := Lib.hid (HB2.out.trans ((HBr.out.trans (HBq.out.mono HBr.out.size)).mono hz2))
            gi_wp2_with fail
            refine ⟨trivial, fun _ => by omega, ?_⟩
            refine (callsIn_wide.2 (records_any (B2 := w.heap.size) a len cap l wr HL.out (HR.out.below HBw.out) (by omega))).mono ?_
            rintro e w5 ⟨Bt, gB, cB, rfl, hBt1, hBt2, hown, hb5⟩
            have HB5 := Lib.hid (HBw.out.trans (hb5.mono HBw.out.size))
            have HB25 := Lib.hid ((HBr.out.trans (HBq.out.mono HBr.out.size)).trans (hb5.mono ((HBr.out.trans (HBq.out.mono HBr.out.size)).size)))
            have HO5 := Lib.hid hown
            have HBo5 := Lib.hid (HBq.out.trans (hb5.mono HBq.out.size))
            have HBt := Lib.hid hBt2
            have hz5 := HB5.out.size
            clear hown hb5 hBt2 HBw HBq HW
            gi_wp2
            refine rangeFunc_by rfl (by omega) (gf := 44) (lb := #[.pointer (some ⟨Bt, 0, none⟩)]) rfl trivial (enters_of Tryd.func44 (by kernel_rfl) rfl) ?_
            intro fn hfn rc hrc0
            have hrcH := Lib.hid hrc0
            clear hrc0
            have hle : w5.heap.size ≤ ((w5.alloc (.deferred (some []))).alloc (rc .ready none)).heap.size := by simp; omega
            have hb50 : Below w5.heap.size w5 ((w5.alloc (.deferred (some []))).alloc (rc .ready none)) := ((Below.refl _ _).alloc (Nat.le_refl _) _).alloc (by simp) _
            have hl0 : ((w5.alloc (.deferred (some []))).alloc (rc .ready none)).heap[w5.heap.size + 1]? = some (rc .ready none) := by
              have := World.alloc_heap_new (w5.alloc (.deferred (some []))) (rc .ready none)
              rwa [World.size_alloc] at this
            have hd0 : ((w5.alloc (.deferred (some []))).alloc (rc .ready none)).heap[w5.heap.size]? = some (.deferred (some [])) := by
              rw [heap_alloc_old _ _ (by simp)]
              exact World.alloc_heap_new w5 _
            obtain ⟨aB, cB', hvB, hcB, hrB⟩ := HO5.out.rd H256.out
            cases hvB
            have HYL : ∀ s f kd u2 bs sz v B1 W1, s < l.length → W.nextF 32 (l.drop s) = (f, kd, u2, bs, sz, 0) → ((Below w5.heap.size w5 W1 ∧ W1.heap[w5.heap.size + 1]? = some (rc .ready none)) ∧ W1.heap[w5.heap.size]? = some (.deferred (some []))) → w5.heap.size + 2 ≤ B1 → B1 ≤ W1.heap.size → Own B1 W1 v bs →
                YieldAt Fence.wide (n - 1 - 1) Tryd.prog (w5.heap.size + 1) (encR s f kd u2 v) W1 fun e W' => (e = .returned (.bool true) ∧ ((Below w5.heap.size w5 W' ∧ W'.heap[w5.heap.size + 1]? = some (rc .ready none)) ∧ W'.heap[w5.heap.size]? = some (.deferred (some []))) ∧ Kx (fun _ => False) B1 W1 W') ∨ (e = .returned (.bool false) ∧ False) := by
              intro s f kd u2 bs sz v B1 W1 hs hx ⟨⟨hJ1, hJ2⟩, hJ3⟩ hB0 hB1 hown
              obtain ⟨gr, cr, rfl⟩ := hown.2
              have hgr := (hown.1.lt gr rfl).1
              have hgr2 := (hown.1.lt gr rfl).2
              have HWz := Lib.hid hown.wz
              have hbs := W.nextF_bytes 32 (l.drop s)
              rw [hx, List.length_drop] at hbs
              simp only at hbs
              obtain ⟨nb, hnb⟩ : ∃ nb, nb = bs.length := ⟨_, rfl⟩
              rw [← hnb] at HWz hbs ⊢
              have hnb2 : nb ≤ 1048576 := by have := HL.out; omega
              have H1 := Lib.hid hJ1
              have H2 := Lib.hid hJ2
              have H3 := Lib.hid hJ3
              refine YieldAt.mono (yield_by (R := fun b W' => b = true ∧ ((Below w5.heap.size w5 W' ∧ W'.heap[w5.heap.size + 1]? = some (rc .ready none)) ∧ W'.heap[w5.heap.size]? = some (.deferred (some []))) ∧ Kx (fun _ => False) B1 W1 W') hrcH.out hfn hJ2 rfl ?_) (fun e W' ⟨b, he, hb, h⟩ => .inl ⟨by rw [he, hb], h⟩)
              clear hx hJ1 hJ2 hJ3 hown hnb hl0 hd0 hb50 hle hrB
              gi_wp2
              have hl1 : w5.heap.size + 1 < W1.heap.size := by omega
              have hal : ∀ k, k < W1.heap.size → (W1.alloc (.cells #[.int .i64 f, .int .i64 kd, .int .u64 u2, .slice (some ⟨gr, 0, none⟩) nb cr] 29)).heap[k]? = W1.heap[k]? := fun k hk => heap_alloc_old _ _ hk
              refine ⟨(hal _ hl1).trans H2.out, ?_⟩
              obtain ⟨Wb, hWb⟩ : ∃ Wb, Wb = (W1.alloc (.cells #[.int .i64 f, .int .i64 kd, .int .u64 u2, .slice (some ⟨gr, 0, none⟩) nb cr] 29)).putObj (w5.heap.size + 1) (rc .busy none) := ⟨_, rfl⟩
              have hFb : ∀ k, k ≠ w5.heap.size + 1 → k < W1.heap.size → Wb.heap[k]? = W1.heap[k]? := fun k hk hlt => by rw [hWb, World.putObj_heap_other hk, hal k hlt]
              have hsb : Wb.heap.size = W1.heap.size + 1 := by rw [hWb]; simp
              have hcR : Wb.cell? ⟨W1.heap.size, 3, none⟩ = some (.slice (some ⟨gr, 0, none⟩) nb cr) := by
                rw [hWb, World.cell?_of_block (World.putObj_heap_other (by show W1.heap.size ≠ _; omega))]
                simp
              have hbusy : Wb.heap[w5.heap.size + 1]? = some (rc .busy none) := by rw [hWb]; exact World.putObj_heap_same (by simp; omega)
              have hbB : Below w5.heap.size w5 Wb := by rw [hWb]; exact below_putObj (H1.out.alloc (by omega) _) (by omega) _
              have hzB : Wz gr nb Wb := fun q hq => by
                obtain ⟨⟨v, hv⟩, hf⟩ := HWz.out q hq
                have e := hFb gr (by omega) hgr2
                exact ⟨⟨v, (World.cell?_of_block (a := ⟨gr, q, none⟩) e).trans hv⟩, (World.frozen?_of_block (a := ⟨gr, q, none⟩) e).trans hf⟩
              have hF3 := (hFb w5.heap.size (by omega) (by omega)).trans H3.out
              rw [← hWb]
              have HFb := Lib.hid hFb
              have HcR := Lib.hid hcR
              have Hbusy := Lib.hid hbusy
              have HbB := Lib.hid hbB
              have HzB := Lib.hid hzB
              have HF3 := Lib.hid hF3
              clear hWb hal hFb hcR hbusy hbB hzB hF3
              gi_wp2
              gi_loopw [12] (fun i wr => ∃ j : Nat, j ≤ nb ∧ i = .int .i64 j ∧ Hid (Fz gr Wb wr) ∧ Hid (Wz gr nb wr) ∧ Hid (Below w5.heap.size w5 wr)) (fun i _ => nb - (intOf i).toNat)
              case atStart => exact ⟨0, by omega, rfl, Fz.refl _ _, HzB, HbB⟩
              case round =>
                obtain ⟨j, hj, rfl, HF, HW, HB⟩ := hrel
                have hcR := (World.cell?_of_block (a := ⟨W1.heap.size, 3, none⟩) (HF.out.2 W1.heap.size (by omega))).trans HcR.out
                by_cases hlt : j < nb
                · obtain ⟨⟨v0, hv0⟩, hf0⟩ := HW.out j hlt
                  have q0 : (0 : Int) ≤ (j : Int) := by omega
                  have q1 : (j : Int) < (nb : Int) := by omega
                  gi_wp2
                  go_roundw
                  case rel => exact ⟨j + 1, by omega, by rw [Int.natCast_add]; rfl, HF.out.step, HW.out.step, HB.out.setCell (show w5.heap.size ≤ gr by omega) _⟩
                  case measure => simp [intOf]; omega
                · have q1 : ¬ (j : Int) < (nb : Int) := by omega
                  gi_wp2
                  have hl2 : w5.heap.size + 1 < wr.heap.size := by rw [HF.out.1]; omega
                  refine ⟨(HF.out.2 _ (by omega)).trans Hbusy.out, ⟨⟨below_putObj HB.out (by omega) _, World.putObj_heap_same hl2⟩, ?_⟩, ?_, fun k hk _ => ?_⟩
                  · exact (World.putObj_heap_other (by omega)).trans ((HF.out.2 _ (by omega)).trans HF3.out)
                  · rw [World.putObj_size, HF.out.1, hsb]; omega
                  · by_cases e : k = w5.heap.size + 1
                    · subst e
                      exact (World.putObj_heap_same hl2).trans H2.out.symm
                    · exact (World.putObj_heap_other e).trans ((HF.out.2 _ (by omega)).trans (HFb.out k e (by omega)))
            have HC := Lib.hid (records1_in (n - 1) (w5.heap.size + 1) Bt (by omega) (fun _ => False) (w5.heap.size + 2) w5.heap.size (fun _ _ h => h) (fun _ _ h => h) (fun h => h) (some ⟨gB, 0, none⟩) l.length cB l E rfl hcB (by rw [HL.out]; exact hsz) (fun _ _ _ h => h)
              (fun _ W => (Below w5.heap.size w5 W ∧ W.heap[w5.heap.size + 1]? = some (rc .ready none)) ∧ W.heap[w5.heap.size]? = some (.deferred (some []))) (fun _ _ => False)
              (fun _ A C h hb => ⟨⟨h.1.1.trans (hb.mono h.1.1.size), (hb.block _ (Array.getElem?_eq_some_iff.1 h.1.2).1).trans h.1.2⟩, (hb.block _ (Array.getElem?_eq_some_iff.1 h.2).1).trans h.2⟩)
              HYL _ (by simp) hle (HE.out.below (HB5.out.trans (hb50.mono hz5))) (cell_below hb50 HBt.out) (hrB.below hb50) ⟨⟨hb50, hl0⟩, hd0⟩)
            refine HC.out.mono ?_
            rintro e W2 ⟨hv, (⟨s, ⟨⟨hb2, hl2⟩, hd2⟩, _⟩ | ⟨s, hx⟩)⟩
            · refine ⟨hv, .ready, none, by simp, hl2, ?_⟩
              dsimp only
              have hBn : Below w2.heap.size w2 (W2.putObj (w5.heap.size + 1) (rc .exhausted none)) := below_putObj (HB25.out.trans (hb2.mono HB25.out.size)) (by have := HB25.out.size; omega) _
              have hDn : (W2.putObj (w5.heap.size + 1) (rc .exhausted none)).heap[w5.heap.size]? = some (.deferred (some [])) := (World.putObj_heap_other (by omega)).trans hd2
              have HBx := Lib.hid hBn
              have hdd1 : dd1 < w5.heap.size := Nat.lt_of_lt_of_le (Array.getElem?_eq_some_iff.1 HD1.out).1 HBo5.out.size
              have HDx := Lib.hid hDn
              have HD1n : Hid ((W2.putObj (w5.heap.size + 1) (rc .exhausted none)).heap[dd1]? = some (.deferred (some []))) := (((below_putObj (HBo5.out.trans (hb2.mono HBo5.out.size)) (by have := HBo5.out.size; omega) _ : Below wo.heap.size wo (W2.putObj (w5.heap.size + 1) (rc .exhausted none))).block _ (Array.getElem?_eq_some_iff.1 HD1.out).1).trans HD1.out)
              clear hBn hDn hb2 hl2 hd2 hv
              generalize W2.putObj (w5.heap.size + 1) (rc .exhausted none) = wx at *
              gi_wp2
              clear HC HYL hle hb50 hl0 hd0 hrB hcB HO5 HBt HB5 HB25 HBo5 HD1 hz5 hBt1 hrcH HBr
              generalize w5.heap.size = dd2 at *
              obtain ⟨wo, hwo⟩ : ∃ wo, wo = wx := ⟨_, rfl⟩
              subst hwo
              have HBr := HBx
              have HD2 := HDx
              have HD1 := HD1n
              clear HBx HDx HD1n
              rw [roundsIn_succ]
              gi_wp2_with fail
              refine ⟨trivial, fun _ => by omega, ?_⟩
              have HBw := Lib.hid (HB2.out.trans (HBr.out.mono hz2))
              obtain ⟨aK, cK, hvK, hcK, hrK⟩ := HKv.out.rd H256.out
              cases hvK
              have HRk := Lib.hid (hrK.below HBr.out)
              clear hrK
              refine (callsIn_wide.2 (same_any (B1 := w.heap.size) (B2 := w2.heap.size) a (some ⟨gk, 0, none⟩) len l.length cap ck l l wo HL.out rfl (HR.out.below HBw.out) HRk.out)).mono ?_
              rintro e w6 ⟨rfl, rfl⟩
              rw [decide_eq_true rfl]
              by_cases hz : (W.chk 32 l).2 = 0
              · skip
                have HA : Hid (∀ w', Below wo.heap.size wo w' → Calls Tryd.prog 17 #[.slice a len cap] w' fun e w'' => e = .returned .nilIface ∧ Below w'.heap.size w' w'') := fun w' hb =>
                  (check_any (B := w.heap.size) a len cap l E w' HL.out hcap (by omega) (Nat.le_trans HBw.out.size hb.size) ((HR.out.below HBw.out).below hb) (HE.out.below (HBw.out.trans (hb.mono HBw.out.size)))).mono fun e w'' ⟨hB, h⟩ => ⟨by rcases h with h | ⟨_, k, h, _⟩; exact h.2; omega, hB⟩
                have HK : Hid (∀ w', Below wo.heap.size wo w' → Calls Tryd.prog 17 #[.slice (some ⟨gk, 0, none⟩) l.length ck] w' fun e w'' => e = .returned .nilIface ∧ Below w'.heap.size w' w'') := fun w' hb =>
                  (check_any (B := w2.heap.size) (some ⟨gk, 0, none⟩) l.length ck l E w' rfl hcK (by have := HL.out; omega) (Nat.le_trans HBr.out.size hb.size) (HRk.out.below hb) (HE.out.below (HBw.out.trans (hb.mono HBw.out.size)))).mono fun e w'' ⟨hB, h⟩ => ⟨by rcases h with h | ⟨_, k, h, _⟩; exact h.2; omega, hB⟩
                clear hz
                have hmix : Tryd.prog.follows .mixedOrders = true := by kernel_rfl
                gi_wp2_with fail
                refine Code.wpIn_mono NoPanic.imp ?_
                gi_region_with_o (first
                  | (refine ⟨trivial, fun _ => by omega, ?_⟩; gi_at_call 17; refine (callsIn_wide.2 (HA.out wo.drew (Below.drew (Below.refl _ wo)))).mono ?_; rintro e w7 ⟨rfl, hb7⟩; have HB7 : Hid (Below wo.heap.size wo w7) := ⟨hb7.os, hb7.tape, hb7.output, hb7.size, hb7.block⟩; clear hb7 HA)
                  | (refine ⟨trivial, fun _ => by omega, ?_⟩; gi_at_call 17; refine (callsIn_wide.2 (HK.out w7 HB7.out)).mono ?_; rintro e w8 ⟨rfl, hb8⟩; have HB8 := Lib.hid (HB7.out.trans (hb8.mono HB7.out.size)); clear hb8))
                refine NoPanic.normal ?_
                gi_wp2
                have e2 : w8.heap[dd2]? = some (.deferred (some [])) := (HB8.out.block _ (Array.getElem?_eq_some_iff.1 HD2.out).1).trans HD2.out
                have e1 : w8.heap[dd1]? = some (.deferred (some [])) := (HB8.out.block _ (Array.getElem?_eq_some_iff.1 HD1.out).1).trans HD1.out
                refine ⟨by simp, .inl ⟨_, _, rfl, run_takeDeferred e2, ?_⟩⟩
                refine ⟨by simp, .inl ⟨_, _, rfl, run_takeDeferred ((World.putObj_heap_other (by omega)).trans e1), ?_⟩⟩
                refine ⟨_, results_tmp rfl _ _ _, ?_, below_putObj (below_putObj (HBw.out.trans (HB8.out.mono HBw.out.size)) (by omega) _) hdw1 _⟩
                rfl
              · skip
                have HA : Hid (∀ w', Below wo.heap.size wo w' → Calls Tryd.prog 17 #[.slice a len cap] w' fun e w'' => (∃ g, e = .returned (.iface 90 (.pointer (some ⟨g, 0, none⟩)))) ∧ Below w'.heap.size w' w'') := fun w' hb =>
                  (check_any (B := w.heap.size) a len cap l E w' HL.out hcap (by omega) (Nat.le_trans HBw.out.size hb.size) ((HR.out.below HBw.out).below hb) (HE.out.below (HBw.out.trans (hb.mono HBw.out.size)))).mono fun e w'' ⟨hB, h⟩ => ⟨by rcases h with h | ⟨g, k, _, h, _⟩; exact absurd h.1 hz; exact ⟨g, h⟩, hB⟩
                have HK : Hid (∀ w', Below wo.heap.size wo w' → Calls Tryd.prog 17 #[.slice (some ⟨gk, 0, none⟩) l.length ck] w' fun e w'' => (∃ g, e = .returned (.iface 90 (.pointer (some ⟨g, 0, none⟩)))) ∧ Below w'.heap.size w' w'') := fun w' hb =>
                  (check_any (B := w2.heap.size) (some ⟨gk, 0, none⟩) l.length ck l E w' rfl hcK (by have := HL.out; omega) (Nat.le_trans HBr.out.size hb.size) (HRk.out.below hb) (HE.out.below (HBw.out.trans (hb.mono HBw.out.size)))).mono fun e w'' ⟨hB, h⟩ => ⟨by rcases h with h | ⟨g, k, _, h, _⟩; exact absurd h.1 hz; exact ⟨g, h⟩, hB⟩
                clear hz
                have hmix : Tryd.prog.follows .mixedOrders = true := by kernel_rfl
                gi_wp2_with fail
                refine Code.wpIn_mono NoPanic.imp ?_
                gi_region_with_o (first
                  | (refine ⟨trivial, fun _ => by omega, ?_⟩; gi_at_call 17; refine (callsIn_wide.2 (HA.out wo.drew (Below.drew (Below.refl _ wo)))).mono ?_; rintro e w7 ⟨⟨gg, rfl⟩, hb7⟩; have HB7 : Hid (Below wo.heap.size wo w7) := ⟨hb7.os, hb7.tape, hb7.output, hb7.size, hb7.block⟩; clear hb7 HA)
                  | (refine ⟨trivial, fun _ => by omega, ?_⟩; gi_at_call 17; refine (callsIn_wide.2 (HK.out w7 HB7.out)).mono ?_; rintro e w8 ⟨⟨gg, rfl⟩, hb8⟩; have HB8 := Lib.hid (HB7.out.trans (hb8.mono HB7.out.size)); clear hb8))
                refine NoPanic.normal ?_
                gi_wp2
                have e2 : w8.heap[dd2]? = some (.deferred (some [])) := (HB8.out.block _ (Array.getElem?_eq_some_iff.1 HD2.out).1).trans HD2.out
                have e1 : w8.heap[dd1]? = some (.deferred (some [])) := (HB8.out.block _ (Array.getElem?_eq_some_iff.1 HD1.out).1).trans HD1.out
                refine ⟨by simp, .inl ⟨_, _, rfl, run_takeDeferred e2, ?_⟩⟩
                refine ⟨by simp, .inl ⟨_, _, rfl, run_takeDeferred ((World.putObj_heap_other (by omega)).trans e1), ?_⟩⟩
                refine ⟨_, results_tmp rfl _ _ _, ?_, below_putObj (below_putObj (HBw.out.trans (HB8.out.mono HBw.out.size)) (by omega) _) hdw1 _⟩
                rfl
            · exact hx.elim
      · exact hx.elim

theorem wireOwn_law (a : Option Addr) (len cap : Nat) (l : List Nat) (u : Nat) (E : Nat → Addr) (w : World) (hl : l.length = len) (hcap : len ≤ cap) (hr : Rd w.heap.size w a l) (hu : u < 18446744073709551616) (hE : Errs w E) :
    Calls Tryd.prog 4 #[.slice a len cap, .int .u64 u] w (TruePost w) :=
  callsIn_wide.1 (wireOwn_in 8 (Nat.le_refl _) a len cap l u E w hl hcap hr (Lib.hid hu) hE)
end Go.Proofs.YthipecjjmboecaaDoor
