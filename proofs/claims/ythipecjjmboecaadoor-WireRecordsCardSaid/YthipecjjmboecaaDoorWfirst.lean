/-
The walk of parleylaw1.first: the chapter's examples hold, whatever stands in memory.
-/
import Derived.Test.YthipecjjmboecaaDoorWchk
namespace Go.Proofs.YthipecjjmboecaaDoor
open Go.RowKit

theorem tag12 (w : World) : Calls Tryd.prog 41 #[.int .i64 1, .int .i64 2] w fun e w' => e = .returned (.tuple #[.int .u64 10, .nilIface]) ∧ w = w' := by
  have ho : bits .or .u64 8 2 = 10 := by
    have h := u64_or_nat 8 2 (by omega) (by omega)
    simpa using h
  go_enter Tryd.func41, Tryd.ntmps41
  go_wp2
  go_ret2
  exact ⟨rfl, rfl⟩

theorem zigm1 (w : World) : Calls Tryd.prog 42 #[.int .i64 (-1)] w fun e w' => e = .returned (.int .u64 1) ∧ w = w' := by
  have hx : bits .xor .u64 18446744073709551614 18446744073709551615 = 1 := by
    have h := u64_xor_nat 18446744073709551614 18446744073709551615 (by omega) (by omega)
    simpa using h
  go_enter Tryd.func42, Tryd.ntmps42
  go_wp2
  go_ret
  exact ⟨rfl, rfl⟩

theorem ex_vbs : W.vbs 300 = [172, 2] := by decide
theorem ex_uv : W.uvA [172, 2] = (300, 2, 0) := by decide
theorem ex_next : W.nextF 32 [11, 8, 1, 12] = (1, 3, 0, [8, 1], 4, 0) := by decide +kernel
theorem ex_end : W.nextF 32 [12] = (0, 0, 0, [], 0, 5 + 1) := by decide +kernel

set_option maxRecDepth 100000 in
set_option maxHeartbeats 2000000 in
theorem first_any (E : Nat → Addr) (w : World) (hE : Errs w E) : Calls Tryd.prog 10 #[] w (TruePost w) := by
  have HE := Lib.hid hE
  clear hE
  go_enter Tryd.func10, Tryd.ntmps10
  go_wp2_with fail
  refine (varint_any (B2 := 0) none 0 0 [] 300 w rfl (Rd.nil _ _ _) (show (300 : Nat) < _ by omega) (by omega)).mono ?_
  rintro e w1 ⟨v, rfl, hv, hb1⟩
  rw [List.nil_append, ex_vbs] at hv
  obtain ⟨a1, c1, rfl, _, hr1⟩ := hv.rd (by decide)
  have HB1 := Lib.hid hb1
  have HR1 := Lib.hid hr1
  have hs1 := hb1.size
  clear hb1 hr1 hv
  go_wp2_with fail
  refine (same_any a1 (some ⟨w1.heap.size, 0, none⟩) 2 2 c1 2 [172, 2] [172, 2] _ rfl rfl (HR1.out.below ((Below.refl _ _).alloc (Nat.le_refl _) _)) (Rd.lit w1 #[.int .u8 172, .int .u8 2] 5 [172, 2] (by decide) rfl)).mono ?_
  rintro e w2 ⟨rfl, rfl⟩
  rw [decide_eq_true rfl]
  go_wp2_with fail
  have hr2 := Rd.lit (w1.alloc (.cells #[.int .u8 172, .int .u8 2] 5)) #[.int .u8 172, .int .u8 2] 5 [172, 2] (by decide) rfl
  rw [World.size_alloc] at hr2
  refine (uv_any _ 2 [172, 2] E _ (by decide) hr2 (HE.out.below ((HB1.out.alloc hs1 _).alloc (by simp; omega) _))).mono ?_
  rintro e w2 ⟨rfl, q, rfl⟩
  rw [ex_uv]
  unfold uvV
  simp only
  unfold er
  clear hr2
  go_wp2_with fail
  generalize hw2 : ((w1.alloc (.cells #[.int .u8 172, .int .u8 2] 5)).alloc (.cells #[.int .u8 172, .int .u8 2] 5)) = w2
  have HB2 : Hid (Below w.heap.size w w2) := by rw [← hw2]; exact (HB1.out.alloc hs1 _).alloc (by simp; omega) _
  have hs2 : w.heap.size ≤ w2.heap.size := HB2.out.size
  have hz2 : w1.heap.size + 1 + 1 = w2.heap.size := by rw [← hw2]; simp
  refine (Next_any (B := w2.heap.size + 1) _ 4 4 [11, 8, 1, 12] E _ rfl (by omega) (by omega) ?hB ?hr ?hE).mono ?_
  case hB => simp
  case hr => rw [hz2]; exact (Rd.lit w2 #[.int .u8 11, .int .u8 8, .int .u8 1, .int .u8 12] 5 [11, 8, 1, 12] (by decide) rfl).drewN q
  case hE => exact HE.out.below (below_q (HB2.out.alloc hs2 _) q)
  rintro e w3 ⟨v3, he, hv3, _, hb3⟩
  subst he
  rw [ex_next] at hv3 ⊢
  simp only at hv3 ⊢
  obtain ⟨hown, g3, c3, rfl⟩ := hv3 trivial
  have HB3 : Hid (Below w.heap.size w w3) := (below_q (HB2.out.alloc hs2 (.cells #[.int .u8 11, .int .u8 8, .int .u8 1, .int .u8 12] 5)) q).trans (hb3.mono (by simp; omega))
  have hs3 := HB3.out.size
  clear hown hb3
  unfold er
  go_wp2_with fail
  generalize hw4 : w3.alloc (.cells #[.int .i64 1, .int .i64 3, .int .u64 0, .slice (some ⟨g3, 0, none⟩) 2 c3] 29) = w4
  have hz4 : w3.heap.size + 1 = w4.heap.size := by rw [← hw4]; simp
  have hk4 : w4.cell? ⟨w3.heap.size, 1, none⟩ = some (.int .i64 3) := by rw [← hw4]; simp
  have HB4 : Hid (Below w.heap.size w w4) := by rw [← hw4]; exact HB3.out.alloc hs3 _
  have hs4 := HB4.out.size
  clear hw4
  refine (Next_any (B := w4.heap.size + 1) _ 1 1 [12] E _ rfl (by omega) (by omega) ?hB2 ?hr2 ?hE2).mono ?_
  case hB2 => simp
  case hr2 => rw [hz4]; exact Rd.lit w4 #[.int .u8 12] 5 [12] (by decide) rfl
  case hE2 => exact HE.out.below (HB4.out.alloc hs4 _)
  rintro e w5 ⟨v5, he, _, hv5, hb5⟩
  subst he
  rw [ex_end] at hv5 ⊢
  simp only at hv5 ⊢
  have hv5 : v5 = .slice none 0 0 := hv5 (by simp)
  subst hv5
  have HB5 : Hid (Below w.heap.size w w5) := (HB4.out.alloc hs4 (.cells #[.int .u8 12] 5)).trans (hb5.mono (by simp; omega))
  have hs5 := HB5.out.size
  have hk5 : w5.cell? ⟨w3.heap.size, 1, none⟩ = some (.int .i64 3) := by
    refine cell_below hb5 ?_
    rw [World.cell?_of_block (w := w4) (heap_alloc_old w4 _ (World.block_lt_of_cell? _ _ hk4))]
    exact hk4
  have hz5 : w3.heap.size < w5.heap.size := World.block_lt_of_cell? _ _ hk5
  clear hk4 hb5
  unfold er
  go_wp2_with (first | (go_at_call 41; refine (tag12 _).mono ?_; rintro e w6 ⟨rfl, rfl⟩) | (go_at_call 42; refine (zigm1 _).mono ?_; rintro e w6 ⟨rfl, rfl⟩))
  go_ret
  exact ⟨rfl, HB5.out.alloc hs5 _⟩
end Go.Proofs.YthipecjjmboecaaDoor
