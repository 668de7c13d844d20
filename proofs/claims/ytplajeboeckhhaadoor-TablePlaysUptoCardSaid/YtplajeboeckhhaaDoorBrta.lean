/-
The walks of the reference's New, Add and Resize.
-/
import Derived.Test.YtplajeboeckhhaaDoorBrtr
namespace Go.Proofs.YtplajeboeckhhaaDoor
open Go.RowKit

theorem Rx.put {w : World} {K gx M : Nat} {A : List B.HD} {v v0 : Value} (c0 : w.cell? ⟨gx, 0, none⟩ = some v0) (f0 : w.frozen? ⟨gx, 0, none⟩ = false) (c1 : w.cell? ⟨gx, 1, none⟩ = some (.int .i64 M)) (f1 : w.frozen? ⟨gx, 1, none⟩ = false)
    (hv : HOwn K w v A) (hne : v.ownBlock ≠ some gx) : Rx (w.setCell ⟨gx, 0, none⟩ v) K gx A M :=
  ⟨v, ⟨World.cell?_setCell_same _ _ _ c0, by rw [World.frozen?_setCell]; exact f0⟩, ⟨(World.cell?_setCell_other _ _ _ _ (by simp)).trans c1, by rw [World.frozen?_setCell]; exact f1⟩, hv.only ((Only.refl gx w).set 0 v) hne, hne⟩

theorem refNew_any (K M : Nat) (w : World) : Calls Tryd.prog 22 #[.int .i64 M] w fun e w' => e = .returned (.pointer (some ⟨w.heap.size, 0, none⟩)) ∧ Rx w' K w.heap.size [] M ∧ Below w.heap.size w w' := by
  go_enter Tryd.func22, Tryd.ntmps22
  go_wp2
  go_ret
  refine ⟨rfl, ⟨.slice none 0 0, ⟨by simp, by simp⟩, ⟨by simp, by simp⟩, HOwn.nil _ _, by simp [Value.ownBlock]⟩, (Below.refl _ _).alloc (Nat.le_refl _) _⟩

set_option maxRecDepth 100000 in
set_option maxHeartbeats 1000000 in
theorem refResize_any (K gx M M' : Nat) (A : List B.HD) (w : World) (hK : K ≤ w.heap.size) (hR : Rx w K gx A M) (ht : B.tot A ≤ 1048576) :
    Calls Tryd.prog 26 #[.pointer (some ⟨gx, 0, none⟩), .int .i64 M'] w fun e w' => e = .returned (.tuple #[]) ∧ Rx w' K gx (B.rm M' 0 A) M' ∧ Only gx w w' := by
  have HR := Lib.hid (room_any K gx M' 0 A (w.setCell ⟨gx, 1, none⟩ (.int .i64 M')) (by simpa using hK) (hR.set1 M') ht (by omega))
  have HO := Lib.hid ((Only.refl gx w).set 1 (.int .i64 M'))
  obtain ⟨v, _, ⟨c1, f1⟩, _, _⟩ := hR
  go_enter Tryd.func26, Tryd.ntmps26
  go_wp2_with (go_at_call 54; refine HR.out.mono ?_; rintro e w5 ⟨rfl, hr5, ho5⟩; have HR5 := Lib.hid hr5; have HO5 := Lib.hid ho5; clear hr5 ho5)
  go_end0
  exact ⟨rfl, HR5.out, HO.out.trans HO5.out⟩

theorem B.rm_tot (M n : Nat) (A : List B.HD) : B.tot (B.rm M n A) ≤ M := by
  unfold B.rm
  by_cases h : n ≤ M
  · rw [if_pos h, B.tot_rev]
    have := B.shr_tot (M - n) A.reverse
    omega
  · rw [if_neg h]; simp [B.tot]

set_option maxRecDepth 100000 in
set_option maxHeartbeats 4000000 in
theorem refAdd_any (K gx M : Nat) (A : List B.HD) (n v : ByteArray) (b : Bool) (w : World) (hK : K ≤ w.heap.size) (hn : n.size ≤ 140737488355328) (hv : v.size ≤ 140737488355328) (hR : Rx w K gx A M) (ht : B.tot A ≤ 1048576) (hM : M ≤ 4096) :
    Calls Tryd.prog 24 #[.pointer (some ⟨gx, 0, none⟩), .agg #[.string n, .string v, .bool b]] w fun e w' => e = .returned (.tuple #[]) ∧ Rx w' K gx (if B.sz (n, v) ≤ M then (n, v) :: B.rm M (B.sz (n, v)) A else B.rm M (B.sz (n, v)) A) M ∧ Only gx w w' := by
  obtain ⟨N, hN⟩ : ∃ N, N = B.sz (n, v) := ⟨_, rfl⟩
  have hNs : N ≤ 281474976710688 := by rw [hN]; unfold B.sz; simp only; omega
  have HSz := Lib.hid (fun w => refSize_any n v b w hn hv)
  have hg := hR.lt
  rw [← hN] at HSz ⊢
  clear hN
  have htr := B.rm_tot M N A
  obtain ⟨A3, hA3⟩ : ∃ A3, A3 = B.rm M N A := ⟨_, rfl⟩
  have HA3 := Lib.hid hA3
  rw [← hA3] at htr ⊢
  clear hA3
  have hl3 := B.tot_len A3
  obtain ⟨AA, hAA⟩ : ∃ AA, AA = if N ≤ M then (n, v) :: A3 else A3 := ⟨_, rfl⟩
  rw [← hAA]
  have HAA := Lib.hid hAA
  clear hAA
  have HB1 : Hid (Below w.heap.size w (w.alloc (.cells #[.string n, .string v, .bool b] 51))) := (Below.refl _ w).alloc (Nat.le_refl _) _
  have HR1 := Lib.hid (hR.below HB1.out)
  clear hR
  go_enter Tryd.func24, Tryd.ntmps24
  go_wp2_with fail
  refine (HSz.out _).mono ?_
  rintro e w2 ⟨rfl, hb2⟩
  obtain ⟨⟨x0, x1, x2⟩, _, hz2⟩ := cells3 hb2
  have hb12 := below_over hb2
  have HR2 := Lib.hid (HR1.out.below hb2)
  have HO2 := Lib.hid ((Only.refl gx w).below hb12)
  clear hb2 hb12 HB1 HR1 HSz
  have HM := Lib.hid (room_any K gx M N A w2 (Nat.le_trans hK HO2.out.size) HR2.out ht hNs)
  go_wp2_with fail
  refine HM.out.mono ?_
  rintro e w3 ⟨rfl, hr3, ho3⟩
  have hne : w.heap.size ≠ gx := by omega
  have y0 := ho3.cell hne x0
  have y1 := ho3.cell hne x1
  have HR3 := Lib.hid hr3
  have HO3 := Lib.hid (HO2.out.trans ho3)
  have hz3 := ho3.size
  clear hr3 ho3 x0 x1 x2 HM HR2 HO2
  rw [← HA3.out] at HR3
  obtain ⟨v3, ⟨c0, f0⟩, ⟨c1, f1⟩, hO3, hne3⟩ := id HR3.out
  have hg3 := HR3.out.lt
  by_cases hf : N ≤ M
  · have q1 : (N : Int) ≤ (M : Int) := by omega
    have e := HAA.out
    rw [if_pos hf] at e
    obtain rfl := e
    clear HAA
    obtain ⟨a3, cp3, rfl, _, _⟩ := hO3.form
    have hba : Below w3.drew.heap.size w3.drew (w3.drew.alloc (.cells #[.string n, .string v, .bool false] 51)) := (Below.refl _ _).alloc (Nat.le_refl _) _
    have HO1 := Lib.hid (HOwn.one w3.drew n v)
    have HOA := Lib.hid ((hO3.below (below_drew w3)).below hba)
    have HRa := Lib.hid ((HR3.out.below (below_drew w3)).below hba)
    have HBa := Lib.hid ((below_drew w3).trans hba)
    have hsz : [(n, v)].length + A3.length ≤ 2097152 := by simp; omega
    clear hba hO3
    go_upto_region 4 with (fail)
    go_region_law (first | (refine step_appT _ rfl _ _ rfl rfl w3.drew.heap.size _ [(n, v)] rfl HO1.out _ K A3 rfl (Nat.zero_lt_one) HOA.out hsz (by simp) ?_; intro g7 cp7 w7 hA7 hg7; have HB7 := Lib.hid (Below.grown HBa.out hg7 HBa.out.size (fun r e => (HO1.out.lt r e).1)); have e0 := (HB7.out.cell (p := ⟨gx, 0, none⟩) hg3).trans c0; have g0 := (World.frozen?_of_block (a := ⟨gx, 0, none⟩) (HB7.out.block gx hg3)).trans f0; have e1 := (HB7.out.cell (p := ⟨gx, 1, none⟩) hg3).trans c1; have g1 := (World.frozen?_of_block (a := ⟨gx, 1, none⟩) (HB7.out.block gx hg3)).trans f1; have HA7 := Lib.hid hA7; clear hA7 hg7))
    all_goals
      go_wp2
      go_end0
      refine ⟨rfl, ?_, ((HO3.out.below HB7.out).set 0 _)⟩
      exact Rx.put e0 g0 e1 g1 (HA7.out.mono (Nat.le_trans hK HO3.out.size)) (fun e => by have h := (HA7.out.lt gx e).1; exact absurd h (by show ¬ w3.heap.size ≤ gx; omega))
  · have q1 : ¬ (N : Int) ≤ (M : Int) := by omega
    go_wp2
    go_end0
    exact ⟨rfl, by rw [HAA.out, if_neg hf]; exact HR3.out, HO3.out⟩
end Go.Proofs.YtplajeboeckhhaaDoor
