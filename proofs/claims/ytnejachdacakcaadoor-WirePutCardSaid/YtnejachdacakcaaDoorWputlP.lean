/-
Proved: parleylaw1.WirePut returns true whatever is asked, and leaves its arguments and all old memory as they were. Its one condition: the thirty listed error variables hold what the program's own initialiser lays (the card ties it to the program's text).
-/
import Derived.Test.YtnejachdacakcaaDoorGerrl
import Derived.Test.YtnejachdacakcaaDoorWputl
import Derived.Test.YtnejachdacakcaaDoorGargs
namespace Go.Proofs.YtnejachdacakcaaDoor
open Go.ChangeShapes Go.WideShapes Go.ChangeAt Go.RowKit

namespace WirePutC
set_option maxRecDepth 100000 in
theorem lifted (os : Os) (started : os.Started) (H : Type) (enc : TypeId × Value → H) :
    ReturnsInHanded {} Tryd.checked os 4 .any (fun w args => (Rows.wirePutSpec.pre enc Tryd.prog Tryd.f4 [] false w args ∧ laidMetH Tryd.prog Rows.wirePutRow.laid w) ∧ sizedMet enc Tryd.prog Tryd.f4 (OpenSpec.ofChange Rows.wirePutSpec) false w args)
      (Rows.wirePutSpec.post enc Tryd.prog Tryd.f4 false true false false) := by
  refine returnsInHanded_of_change_and (C := Tryd.checked) (X := fun w _ => laidMetH Tryd.prog Rows.wirePutRow.laid w) (fun _ _ _ hh h => h.of_heap hh) own started (by kernel_rfl) Tryd.func4
    (ChangeSpec.witness_shaped (enc := enc) (C := Tryd.checked) (os := os) (X := fun w _ => laidMetH Tryd.prog Rows.wirePutRow.laid w) false (World.laidAll Tryd.prog os Rows.wirePutRow.laid) #[.slice none 0 0, .int .i64 0, .int .i64 0, .int .u64 0, .slice none 0 0] 8 (World.laidAll_os _ _ _)
      (World.shaped_of_ZipB (by kernel_rfl) (by kernel_rfl)) (by kernel_rfl) (by kernel_rfl) (by kernel_rfl)
      (by rw [MakeChecks.laidMetH_plain _ _ _ (by kernel_rfl)]; exact laidMet_laidAll _ (by kernel_rfl) (by kernel_rfl))) ?_
  intro W base args ds gs before hval0 hW _ _ hL0 _
  have hval : ∀ (j : Nat) t v, Tryd.f4.params[j]? = some t → args[j]? = some v → Value.okWide Tryd.prog W .any base t v := hval0
  have hW' := hW
  obtain ⟨p, q, hA0, hV, rfl, _, _⟩ := hW
  have hA : DataW.TrodAll enc Tryd.prog W 0 (fun _ => true) true Tryd.f4.params.toList args.toList ds p := hA0
  rw [Tryd.params4] at hA hval
  obtain ⟨v0, v1, v2, v3, v4, d0, d1, d2, d3, d4, p0, p1, p2, p3, p4, rfl, rfl, rfl, h0, h1, h2, h3, h4⟩ := trodO5 hA
  obtain ⟨rfl, rfl⟩ := trodVars_none hV
  have hlt : ∀ x ∈ p0 ++ (p1 ++ (p2 ++ (p3 ++ p4))), x.block < W.heap.size := fun x hx => hW'.lt x (by simpa using hx)
  have l0 : ∀ x ∈ p0, x.block < W.heap.size := fun x hx => hlt x (by simp [hx])
  have l1 : ∀ x ∈ p1, x.block < W.heap.size := fun x hx => hlt x (by simp [hx])
  have l2 : ∀ x ∈ p2, x.block < W.heap.size := fun x hx => hlt x (by simp [hx])
  have l3 : ∀ x ∈ p3, x.block < W.heap.size := fun x hx => hlt x (by simp [hx])
  have l4 : ∀ x ∈ p4, x.block < W.heap.size := fun x hx => hlt x (by simp [hx])
  obtain ⟨a0, n0, c0, e0, rfl, hl0, hc0, hr0⟩ := open_bytes (hval 0 22 v0 rfl rfl) h0 l0
  have k1 := h1
  obtain ⟨x1, rfl, _, _, w1⟩ := open_int Tryd.underlying3 (hval 1 3 v1 rfl rfl) k1
  have b1 := bounds_i64 w1
  have k2 := h2
  obtain ⟨x2, rfl, _, _, w2⟩ := open_int Tryd.underlying3 (hval 2 3 v2 rfl rfl) k2
  have b2 := bounds_i64 w2
  have k3 := h3
  obtain ⟨x3, rfl, _, _, w3⟩ := open_int Tryd.underlying25 (hval 3 25 v3 rfl rfl) k3
  have b3 := bounds_u64 w3
  obtain ⟨U3, rfl⟩ : ∃ m : Nat, x3 = m := ⟨x3.toNat, by omega⟩
  obtain ⟨a4, n4, c4, e4, rfl, hl4, hc4, hr4⟩ := open_bytes (hval 4 22 v4 rfl rfl) h4 l4
  simp only [List.append_nil] at hW'
  have hL : laidMet Tryd.prog (egn.map layOf ++ []) W := by
    rw [MakeChecks.laidMetH_plain _ _ _ (by kernel_rfl)] at hL0
    exact hL0
  obtain ⟨E, hE⟩ := errsAll_of_laid hL
  refine (wirePut_law E a0 a4 n0 c0 n4 c4 x1 x2 U3 e0 e4 W (by omega) hl0 hl4 hc4 hr0 hr4 hE).mono fun e W' ⟨he, hb⟩ => ?_
  subst he
  exact ⟨_, rfl, _, _, _, [], _, [], hW', trodAll_mk1 (shut_bool Tryd.underlying4 _),
    trodM5 (hb.trod lays_out (by kernel_rfl) (of_decide_eq_true (by kernel_rfl)) h0 l0) (hb.trod lays_out (by kernel_rfl) (of_decide_eq_true (by kernel_rfl)) h1 l1) (hb.trod lays_out (by kernel_rfl) (of_decide_eq_true (by kernel_rfl)) h2 l2) (hb.trod lays_out (by kernel_rfl) (of_decide_eq_true (by kernel_rfl)) h3 l3) (hb.trod lays_out (by kernel_rfl) (of_decide_eq_true (by kernel_rfl)) h4 l4), rfl, hb.frame _, fun h => by cases h⟩

theorem holds : Rows.WirePutSaid :=
  OpenClaim.holds_of_wide 4 Tryd.f4 rfl rfl rfl rfl rfl rfl rfl ⟨rfl, rfl, rfl, rfl, rfl⟩ rfl rfl rfl rfl rfl (by kernel_rfl) Tryd.func4 (by kernel_rfl)
    (of_decide_eq_true (by kernel_rfl)) (by unfold Func.isWrapper; first | (rw [if_pos (by decide +kernel)]; kernel_rfl) | (rw [if_neg (by decide +kernel)]; exact ⟨rfl, rfl⟩))
    (fun os started H enc _ => lifted os started H enc)
end WirePutC

theorem wirePut_card : Rows.WirePutCardSaid :=
  Claim7.holds_tied_plain_at .later [] Rows.wirePutCard.laidKinds true Rows.wirePutCard.stood.harness Rows.wirePutCard.stood.looks WirePutC.holds (fun _ h => by cases h) (by kernel_rfl) (fun _ h => by cases h) wirePut_row_tie rfl ⟨rfl, rfl⟩ (by kernel_rfl) rfl
    (fun f fn hf hfn => by
      obtain rfl : f = 4 := Option.some.inj ((show Tryd.prog.funcNamed "parley/parleylaw1.WirePut" = some 4 by kernel_rfl).symm.trans hf) |>.symm
      obtain rfl : fn = Tryd.f4 := (Option.some.inj (Tryd.func4.symm.trans hfn)).symm
      exact ⟨by kernel_rfl, fun j t ht => by
        rw [Tryd.params4] at ht
        have hm : t ∈ [22, 3, 3, 25, 22] := by simpa using Array.mem_of_getElem? ht
        have hall : ([22, 3, 3, 25, 22].all fun u => !Tryd.prog.wantsStandIn u) = true := by kernel_rfl
        exact (show Tryd.prog.wantsStandIn t = false by simpa using List.all_eq_true.1 hall t hm)⟩)
    (by kernel_rfl)
#print axioms wirePut_card
end Go.Proofs.YtnejachdacakcaaDoor
