/-
Proved: parleylaw4.HpackTexts returns true for every slice of bytes and every text, and leaves its arguments and all old memory as they were. Its one condition: the listed error variables hold what the program's own initialiser lays (the card ties it to the program's text).
-/
import Derived.Test.YtcbljbdcnahfhaaDoorGargs
import Derived.Test.YtcbljbdcnahfhaaDoorGerrl
import Derived.Test.YtcbljbdcnahfhaaDoorKtexts
import Derived.ChangeMaps5
import Derived.SizedLaws
namespace Go.Proofs.YtcbljbdcnahfhaaDoor
open Go.ChangeShapes Go.WideShapes Go.ChangeAt Go.RowKit

namespace HpackTextsC
set_option maxRecDepth 100000 in
theorem lifted (os : Os) (started : os.Started) (H : Type) (enc : TypeId × Value → H) :
    ReturnsInHanded {} Tryd.checked os 4 .any (fun w args => (Rows.hpackTextsSpec.pre enc Tryd.prog Tryd.f4 [] false w args ∧ laidMetH Tryd.prog Rows.hpackTextsRow.laid w) ∧ sizedMet enc Tryd.prog Tryd.f4 (OpenSpec.ofChange Rows.hpackTextsSpec) false w args)
      (Rows.hpackTextsSpec.post enc Tryd.prog Tryd.f4 false true false false) := by
  refine returnsInHanded_of_change_and (C := Tryd.checked) (X := fun w _ => laidMetH Tryd.prog Rows.hpackTextsRow.laid w) (fun _ _ _ hh h => h.of_heap hh) own started (by kernel_rfl) Tryd.func4
    (ChangeSpec.witness_shaped (enc := enc) (C := Tryd.checked) (os := os) (X := fun w _ => laidMetH Tryd.prog Rows.hpackTextsRow.laid w) false (World.laidAll Tryd.prog os Rows.hpackTextsRow.laid) #[.slice none 0 0, .string ⟨#[]⟩] 8 (World.laidAll_os _ _ _)
      (World.shaped_of_ZipB (by kernel_rfl) (by kernel_rfl)) (by kernel_rfl) (by kernel_rfl) (by kernel_rfl)
      (by rw [MakeChecks.laidMetH_plain _ _ _ (by kernel_rfl)]; exact laidMet_laidAll _ (by kernel_rfl) (by kernel_rfl))) ?_
  intro W base args ds gs before hval0 hW _ hsz0 hL0 _
  have hval : ∀ (j : Nat) t v, Tryd.f4.params[j]? = some t → args[j]? = some v → Value.okWide Tryd.prog W .any base t v := hval0
  have hW' := hW
  obtain ⟨p, q, hA0, hV, rfl, _, _⟩ := hW
  have hA : DataW.TrodAll enc Tryd.prog W 0 (fun _ => true) true Tryd.f4.params.toList args.toList ds p := hA0
  have hsz : (DataW.weightsEach Tryd.prog (Tryd.f4.params.toList ++ Rows.hpackTextsSpec.plain.varTypes Tryd.prog) (ds ++ gs)).all (· ≤ reachBytes) = true := hsz0
  rw [Tryd.params4] at hA hval hsz
  obtain ⟨v0, v1, d0, d1, p0, p1, rfl, rfl, rfl, h0, h1⟩ := trodO2 hA
  obtain ⟨rfl, rfl⟩ := trodVars_none hV
  have hlt : ∀ x ∈ p0 ++ p1, x.block < W.heap.size := fun x hx => hW'.lt x (by simpa using hx)
  have l0 : ∀ x ∈ p0, x.block < W.heap.size := fun x hx => hlt x (by simp [hx])
  have l1 : ∀ x ∈ p1, x.block < W.heap.size := fun x hx => hlt x (by simp [hx])
  obtain ⟨a0, n0, c0, e0, rfl, hl0, hc0, hr0⟩ := open_bytes (hval 0 22 v0 rfl rfl) h0 l0
  have k1 := h1
  obtain ⟨s1, rfl, g1, _, _⟩ := Go.ChangeMaps.open_string Tryd.underlying9 (hval 1 9 v1 rfl rfl) k1
  have z1 : s1.size ≤ reachBytes := sized_string hsz (j := 1) (t := 9) rfl (by rw [g1]; rfl)
  unfold reachBytes at z1
  simp only [List.append_nil] at hW'
  have hL : laidMet Tryd.prog (egn.map layOf ++ []) W := by
    rw [MakeChecks.laidMetH_plain _ _ _ (by kernel_rfl)] at hL0
    exact hL0
  obtain ⟨E, hE⟩ := errsAll_of_laid hL
  refine (hpackTexts_law E a0 n0 c0 e0 s1 W hl0 hc0 hr0 hE).mono fun e W' ⟨he, hb⟩ => ?_
  subst he
  exact ⟨_, rfl, _, _, _, [], _, [], hW', trodAll_mk1 (shut_bool Tryd.underlying4 _),
    trodM2 (hb.trod lays_out (by kernel_rfl) (of_decide_eq_true (by kernel_rfl)) h0 l0) (hb.trod lays_out (by kernel_rfl) (of_decide_eq_true (by kernel_rfl)) h1 l1), rfl, hb.frame _, fun h => by cases h⟩

theorem holds : Rows.HpackTextsSaid :=
  OpenClaim.holds_of_wide 4 Tryd.f4 rfl rfl rfl rfl rfl rfl rfl ⟨rfl, rfl, rfl, rfl, rfl⟩ rfl rfl rfl rfl rfl (by kernel_rfl) Tryd.func4 (by kernel_rfl)
    (of_decide_eq_true (by kernel_rfl)) (by unfold Func.isWrapper; first | (rw [if_pos (by decide +kernel)]; kernel_rfl) | (rw [if_neg (by decide +kernel)]; exact ⟨rfl, rfl⟩))
    (fun os started H enc _ => lifted os started H enc)
end HpackTextsC

theorem hpackTexts_card : Rows.HpackTextsCardSaid :=
  Claim7.holds_tied_plain_at .later [] Rows.hpackTextsCard.laidKinds true Rows.hpackTextsCard.stood.harness Rows.hpackTextsCard.stood.looks HpackTextsC.holds (fun _ h => by cases h) (by kernel_rfl) (fun _ h => by cases h) hpackTexts_row_tie rfl ⟨rfl, rfl⟩ (by kernel_rfl) rfl
    (fun f fn hf hfn => by
      obtain rfl : f = 4 := Option.some.inj ((show Tryd.prog.funcNamed "parley/parleylaw4.HpackTexts" = some 4 by kernel_rfl).symm.trans hf) |>.symm
      obtain rfl : fn = Tryd.f4 := (Option.some.inj (Tryd.func4.symm.trans hfn)).symm
      exact ⟨by kernel_rfl, fun j t ht => by
        rw [Tryd.params4] at ht
        have hm : t ∈ [22, 9] := by simpa using Array.mem_of_getElem? ht
        have hall : ([22, 9].all fun u => !Tryd.prog.wantsStandIn u) = true := by kernel_rfl
        exact (show Tryd.prog.wantsStandIn t = false by simpa using List.all_eq_true.1 hall t hm)⟩)
    (by kernel_rfl)
#print axioms hpackTexts_card
end Go.Proofs.YtcbljbdcnahfhaaDoor
