/-
Proved: parleylaw6.HeadLess returns true for every list of headers and every two numbers, and leaves its arguments and all old memory as they were. Its conditions: what is read holds at most 1048576 values and letters; the listed variables (ErrHead, the library's two tables of UTF-8) hold what the program's own initialisers lay (the card ties them to the program's text).
-/
import Derived.Test.YtihlcecincijgaaDoorTie
import Derived.Test.YtihlcecincijgaaDoorQargs
import Derived.Test.YtihlcecincijgaaDoorDlaid
import Derived.Test.YtihlcecincijgaaDoorDless
import Derived.ChangeMaps5
import Derived.Deep.DeepHandedRow
import Derived.Test.YtihlcecincijgaaDoorGargs
namespace Go.Proofs.YtihlcecincijgaaDoor
open Go.ChangeShapes Go.WideShapes Go.ChangeAt Go.RowKit

namespace HeadLessU
set_option maxRecDepth 100000 in
theorem lifted (os : Os) (started : os.Started) (H : Type) (enc : TypeId × Value → H) (F : Stop.Interp) :
    ReturnsInHanded {} Tryd.checked os 6 .any ((Rows.OpenSpec.upto Rows.headLessSpec).preRow enc Tryd.prog Tryd.f6 Rows.headLessUptoRow.domain false Rows.headLessUptoRow.laid) (((Rows.OpenSpec.upto Rows.headLessSpec).at F).post enc Tryd.prog Tryd.f6 false true false false) := by
  have hx : ∃ places, DataW.whole enc Tryd.prog ((World.laidAll Tryd.prog os Rows.headLessUptoRow.laid).forCall (fun _ _ => 0) ⟨#[], #[.slice none 0 0, .int .i64 0, .int .i64 0], []⟩).memory Tryd.f6.params.toList Rows.headLessSpec.vars false (#[.slice none 0 0, .int .i64 0, .int .i64 0] : Array Value).toList 8 = some ([.nil, .lit (.int .i64 0), .lit (.int .i64 0)], [], places) := ⟨[], by kernel_rfl⟩
  obtain ⟨places, hx⟩ := hx
  have hok : Input.okWideB Tryd.prog ((World.laidAll Tryd.prog os Rows.headLessUptoRow.laid).forCall (fun _ _ => 0) ⟨#[], #[.slice none 0 0, .int .i64 0, .int .i64 0], []⟩) 6 ⟨#[], #[.slice none 0 0, .int .i64 0, .int .i64 0], []⟩ = true := by kernel_rfl
  refine returnsInHanded_of_row (C := Tryd.checked) (s := Rows.OpenSpec.upto Rows.headLessSpec) own started (by kernel_rfl) Tryd.func6
    ⟨(World.laidAll Tryd.prog os Rows.headLessUptoRow.laid), fun _ _ => 0, ⟨#[], #[.slice none 0 0, .int .i64 0, .int .i64 0], []⟩, World.laidAll_os _ _ _, World.shaped_of_ZipB (by kernel_rfl) (by kernel_rfl), (Input.okWide_of_okWideB (base := 0) hok).1, (Input.okWide_of_okWideB hok).2,
      OpenSpec.preRow_of_cond 8 hx (by kernel_rfl) (fun k hk => by cases hk; kernel_rfl) (by kernel_rfl) (laidMet_laidAll _ (by kernel_rfl) (by kernel_rfl)), by
        simp only [Assume.holds]
        exact ⟨by simp, by simp, fun _ => Modest.zero, by simp, by simp⟩⟩ ?_
  intro W base args ds gs before hval0 hW _ hcond _ hL0 _ _
  have hk : Rows.uptoSmall H (ds ++ gs) = true := hcond _ rfl
  have hval : ∀ (j : Nat) t v, Tryd.f6.params[j]? = some t → args[j]? = some v → Value.okWide Tryd.prog W .any base t v := hval0
  have hW' := hW
  obtain ⟨p, q, hA0, hV, rfl, _, _⟩ := hW
  have hA : DataW.TrodAll enc Tryd.prog W 0 (fun _ => true) true Tryd.f6.params.toList args.toList ds p := hA0
  rw [Tryd.params6] at hA hval
  obtain ⟨v0, v1, v2, d0, d1, d2, p0, p1, p2, rfl, rfl, rfl, h0, h1, h2⟩ := trodO3 hA
  obtain ⟨rfl, rfl⟩ := trodVars_none hV
  have hlt : ∀ x ∈ p0 ++ (p1 ++ p2), x.block < W.heap.size := fun x hx => hW'.lt x (by simpa using hx)
  have l0 : ∀ x ∈ p0, x.block < W.heap.size := fun x hx => hlt x (by simp [hx])
  have l1 : ∀ x ∈ p1, x.block < W.heap.size := fun x hx => hlt x (by simp [hx])
  have l2 : ∀ x ∈ p2, x.block < W.heap.size := fun x hx => hlt x (by simp [hx])
  obtain ⟨a0, n0, c0, m0, sp0, rfl, hl0, hc0, hr0, hd0⟩ := open_headers (hval 0 22 v0 rfl rfl) h0
  obtain ⟨hb0, hz0⟩ := bulk_headers (kbulk_arg hk (show d0 ∈ _ by simp)) hd0
  have k1 := h1
  obtain ⟨x1, rfl, _, _, w1⟩ := open_int Tryd.underlying3 (hval 1 3 v1 rfl rfl) k1
  have b1 := bounds_i64 w1
  have k2 := h2
  obtain ⟨x2, rfl, _, _, w2⟩ := open_int Tryd.underlying3 (hval 2 3 v2 rfl rfl) k2
  have b2 := bounds_i64 w2
  simp only [List.append_nil] at hW'
  have hL : laidMet Tryd.prog [("unicode/utf8.acceptRanges", Rows.laid_unicode_utf8_acceptRanges), ("parley/api.ErrHead", Rows.laid_parley_api_ErrHead), ("unicode/utf8.first", Rows.laid_unicode_utf8_first)] W := by
    rw [MakeChecks.laidMetH_plain _ _ _ (by kernel_rfl)] at hL0
    exact hL0
  obtain ⟨p0, hE⟩ := head_of_laid3 hL
  refine (headLess_law p0 a0 n0 c0 m0 x1 x2 W hl0 (by omega) hc0 hr0 hz0 hE b1 b2).mono fun e W' ⟨he, hb⟩ => ?_
  subst he
  exact ⟨_, rfl, _, _, _, [], _, [], hW', trodAll_mk1 (shut_bool Tryd.underlying4 _),
    trodM3 (hb.trod lays_out (by kernel_rfl) (of_decide_eq_true (by kernel_rfl)) h0 l0) (hb.trod lays_out (by kernel_rfl) (of_decide_eq_true (by kernel_rfl)) h1 l1) (hb.trod lays_out (by kernel_rfl) (of_decide_eq_true (by kernel_rfl)) h2 l2), rfl, hb.frame _, fun h => by cases h⟩

theorem holds : Rows.HeadLessUptoSaid :=
  OpenClaim.holds_of_cond 6 Tryd.f6 rfl rfl rfl rfl rfl rfl rfl ⟨rfl, rfl, rfl, rfl, rfl⟩ rfl rfl rfl rfl rfl (by kernel_rfl) Tryd.func6 (by kernel_rfl)
    (of_decide_eq_true (by kernel_rfl)) (by unfold Func.isWrapper; first | (rw [if_pos (by decide +kernel)]; kernel_rfl) | (rw [if_neg (by decide +kernel)]; exact ⟨rfl, rfl⟩))
    (fun os started H enc _ F => by rw [OpenClaim.pre_eq_preRow]; exact lifted os started H enc F)
end HeadLessU

theorem headLess_card : Rows.HeadLessUptoCardSaid :=
  Claim7.holds_tied_plain_at .later [] Rows.headLessUptoCard.laidKinds true Rows.headLessUptoCard.stood.harness Rows.headLessUptoCard.stood.looks HeadLessU.holds (fun _ h => by cases h) (by kernel_rfl) (fun _ h => by cases h) headLessUpto_row_tie rfl ⟨rfl, rfl⟩ (by kernel_rfl) rfl
    (fun f fn hf hfn => by
      obtain rfl : f = 6 := Option.some.inj ((show Tryd.prog.funcNamed "parley/parleylaw6.HeadLess" = some 6 by kernel_rfl).symm.trans hf) |>.symm
      obtain rfl : fn = Tryd.f6 := (Option.some.inj (Tryd.func6.symm.trans hfn)).symm
      exact ⟨by kernel_rfl, fun j t ht => by
        rw [Tryd.params6] at ht
        have hm : t ∈ [22, 3, 3] := by simpa using Array.mem_of_getElem? ht
        have hall : ([22, 3, 3].all fun u => !Tryd.prog.wantsStandIn u) = true := by kernel_rfl
        exact (show Tryd.prog.wantsStandIn t = false by simpa using List.all_eq_true.1 hall t hm)⟩)
    (by kernel_rfl)
#print axioms headLess_card
end Go.Proofs.YtihlcecincijgaaDoor
