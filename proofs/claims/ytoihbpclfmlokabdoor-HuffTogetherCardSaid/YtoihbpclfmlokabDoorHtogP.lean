/-
Proved: parleylaw2.HuffTogether returns true for every two texts, and leaves its arguments and all old memory as they were. Its one condition: the listed error variable holds what the program's own initialiser lays (the card ties it to the program's text).
-/
import Derived.Test.YtoihbpclfmlokabDoorHlaid
import Derived.Test.YtoihbpclfmlokabDoorHtog
import Derived.ChangeMaps5
import Derived.SizedLaws
import Derived.Test.YtoihbpclfmlokabDoorGargs
namespace Go.Proofs.YtoihbpclfmlokabDoor
open Go.ChangeShapes Go.WideShapes Go.ChangeAt Go.RowKit

namespace HuffTogetherC
set_option maxRecDepth 100000 in
theorem lifted (os : Os) (started : os.Started) (H : Type) (enc : TypeId × Value → H) :
    ReturnsInHanded {} Tryd.checked os 5 .any (fun w args => (Rows.huffTogetherSpec.pre enc Tryd.prog Tryd.f5 [] false w args ∧ laidMetH Tryd.prog Rows.huffTogetherRow.laid w) ∧ sizedMet enc Tryd.prog Tryd.f5 (OpenSpec.ofChange Rows.huffTogetherSpec) false w args)
      (Rows.huffTogetherSpec.post enc Tryd.prog Tryd.f5 false true false false) := by
  refine returnsInHanded_of_change_and (C := Tryd.checked) (X := fun w _ => laidMetH Tryd.prog Rows.huffTogetherRow.laid w) (fun _ _ _ hh h => h.of_heap hh) own started (by kernel_rfl) Tryd.func5
    (ChangeSpec.witness_shaped (enc := enc) (C := Tryd.checked) (os := os) (X := fun w _ => laidMetH Tryd.prog Rows.huffTogetherRow.laid w) false (World.laidAll Tryd.prog os Rows.huffTogetherRow.laid) #[.string ⟨#[]⟩, .string ⟨#[]⟩] 8 (World.laidAll_os _ _ _)
      (World.shaped_of_ZipB (by kernel_rfl) (by kernel_rfl)) (by kernel_rfl) (by kernel_rfl) (by kernel_rfl)
      (by rw [MakeChecks.laidMetH_plain _ _ _ (by kernel_rfl)]; exact laidMet_laidAll _ (by kernel_rfl) (by kernel_rfl))) ?_
  intro W base args ds gs before hval0 hW _ hsz0 hL0 _
  have hval : ∀ (j : Nat) t v, Tryd.f5.params[j]? = some t → args[j]? = some v → Value.okWide Tryd.prog W .any base t v := hval0
  have hW' := hW
  obtain ⟨p, q, hA0, hV, rfl, _, _⟩ := hW
  have hA : DataW.TrodAll enc Tryd.prog W 0 (fun _ => true) true Tryd.f5.params.toList args.toList ds p := hA0
  have hsz : (DataW.weightsEach Tryd.prog (Tryd.f5.params.toList ++ Rows.huffTogetherSpec.plain.varTypes Tryd.prog) (ds ++ gs)).all (· ≤ reachBytes) = true := hsz0
  rw [Tryd.params5] at hA hval hsz
  obtain ⟨v0, v1, d0, d1, p0, p1, rfl, rfl, rfl, h0, h1⟩ := trodO2 hA
  obtain ⟨rfl, rfl⟩ := trodVars_none hV
  have hlt : ∀ x ∈ p0 ++ p1, x.block < W.heap.size := fun x hx => hW'.lt x (by simpa using hx)
  have l0 : ∀ x ∈ p0, x.block < W.heap.size := fun x hx => hlt x (by simp [hx])
  have l1 : ∀ x ∈ p1, x.block < W.heap.size := fun x hx => hlt x (by simp [hx])
  have k0 := h0
  obtain ⟨s0, rfl, g0, _, _⟩ := Go.ChangeMaps.open_string Tryd.underlying9 (hval 0 9 v0 rfl rfl) k0
  have z0 : s0.size ≤ reachBytes := sized_string hsz (j := 0) (t := 9) rfl (by rw [g0]; rfl)
  unfold reachBytes at z0
  have k1 := h1
  obtain ⟨s1, rfl, g1, _, _⟩ := Go.ChangeMaps.open_string Tryd.underlying9 (hval 1 9 v1 rfl rfl) k1
  have z1 : s1.size ≤ reachBytes := sized_string hsz (j := 1) (t := 9) rfl (by rw [g1]; rfl)
  unfold reachBytes at z1
  simp only [List.append_nil] at hW'
  have hL : laidMet Tryd.prog [("parley/api.ErrHuff", Rows.laid_parley_api_ErrHuff)] W := by
    rw [MakeChecks.laidMetH_plain _ _ _ (by kernel_rfl)] at hL0
    exact hL0
  obtain ⟨e0, hE⟩ := huff_of_laid hL
  refine (huffTogether_law e0 s0 s1 W (by omega) (by omega) hE).mono fun e W' ⟨he, hb⟩ => ?_
  subst he
  exact ⟨_, rfl, _, _, _, [], _, [], hW', trodAll_mk1 (shut_bool Tryd.underlying4 _),
    trodM2 (hb.trod lays_out (by kernel_rfl) (of_decide_eq_true (by kernel_rfl)) h0 l0) (hb.trod lays_out (by kernel_rfl) (of_decide_eq_true (by kernel_rfl)) h1 l1), rfl, hb.frame _, fun h => by cases h⟩

theorem holds : Rows.HuffTogetherSaid :=
  OpenClaim.holds_of_wide 5 Tryd.f5 rfl rfl rfl rfl rfl rfl rfl ⟨rfl, rfl, rfl, rfl, rfl⟩ rfl rfl rfl rfl rfl (by kernel_rfl) Tryd.func5 (by kernel_rfl)
    (of_decide_eq_true (by kernel_rfl)) (by unfold Func.isWrapper; first | (rw [if_pos (by decide +kernel)]; kernel_rfl) | (rw [if_neg (by decide +kernel)]; exact ⟨rfl, rfl⟩))
    (fun os started H enc _ => lifted os started H enc)
end HuffTogetherC

theorem huffTogether_card : Rows.HuffTogetherCardSaid :=
  Claim7.holds_tied_plain_at .later [] Rows.huffTogetherCard.laidKinds true Rows.huffTogetherCard.stood.harness Rows.huffTogetherCard.stood.looks HuffTogetherC.holds (fun _ h => by cases h) (by kernel_rfl) (fun _ h => by cases h) huffTogether_row_tie rfl ⟨rfl, rfl⟩ (by kernel_rfl) rfl
    (fun f fn hf hfn => by
      obtain rfl : f = 5 := Option.some.inj ((show Tryd.prog.funcNamed "parley/parleylaw2.HuffTogether" = some 5 by kernel_rfl).symm.trans hf) |>.symm
      obtain rfl : fn = Tryd.f5 := (Option.some.inj (Tryd.func5.symm.trans hfn)).symm
      exact ⟨by kernel_rfl, fun j t ht => by
        rw [Tryd.params5] at ht
        have hm : t ∈ [9, 9] := by simpa using Array.mem_of_getElem? ht
        have hall : ([9, 9].all fun u => !Tryd.prog.wantsStandIn u) = true := by kernel_rfl
        exact (show Tryd.prog.wantsStandIn t = false by simpa using List.all_eq_true.1 hall t hm)⟩)
    (by kernel_rfl)
#print axioms huffTogether_card
end Go.Proofs.YtoihbpclfmlokabDoor
