/-
Proved: parleylaw3.TableEmptied returns true whatever is asked, and leaves its arguments and all old memory as they were. Its conditions: what is read holds at most 1048576 values and letters; the listed error variable holds what the program's own initialiser lays (the card ties it to the program's text).
-/
import Derived.Test.YtplajeboeckhhaaDoorTie
import Derived.Test.YtplajeboeckhhaaDoorBargs
import Derived.Test.YtplajeboeckhhaaDoorBempt
import Derived.ChangeMaps5
import Derived.Deep.DeepHandedRow
import Derived.Test.YtplajeboeckhhaaDoorGargs
namespace Go.Proofs.YtplajeboeckhhaaDoor
open Go.ChangeShapes Go.WideShapes Go.ChangeAt Go.RowKit

namespace TableEmptiedU
set_option maxRecDepth 100000 in
theorem lifted (os : Os) (started : os.Started) (H : Type) (enc : TypeId × Value → H) (F : Stop.Interp) :
    ReturnsInHanded {} Tryd.checked os 9 .any ((Rows.OpenSpec.upto Rows.tableEmptiedSpec).preRow enc Tryd.prog Tryd.f9 Rows.tableEmptiedUptoRow.domain false Rows.tableEmptiedUptoRow.laid) (((Rows.OpenSpec.upto Rows.tableEmptiedSpec).at F).post enc Tryd.prog Tryd.f9 false true false false) := by
  have hx : ∃ places, DataW.whole enc Tryd.prog ((World.laidAll Tryd.prog os Rows.tableEmptiedUptoRow.laid).forCall (fun _ _ => 0) ⟨#[], #[.int .i64 0, .slice none 0 0, .slice none 0 0, .int .i64 0], []⟩).memory Tryd.f9.params.toList Rows.tableEmptiedSpec.vars false (#[.int .i64 0, .slice none 0 0, .slice none 0 0, .int .i64 0] : Array Value).toList 8 = some ([.lit (.int .i64 0), .nil, .nil, .lit (.int .i64 0)], [], places) := ⟨[], by kernel_rfl⟩
  obtain ⟨places, hx⟩ := hx
  have hok : Input.okWideB Tryd.prog ((World.laidAll Tryd.prog os Rows.tableEmptiedUptoRow.laid).forCall (fun _ _ => 0) ⟨#[], #[.int .i64 0, .slice none 0 0, .slice none 0 0, .int .i64 0], []⟩) 9 ⟨#[], #[.int .i64 0, .slice none 0 0, .slice none 0 0, .int .i64 0], []⟩ = true := by kernel_rfl
  refine returnsInHanded_of_row (C := Tryd.checked) (s := Rows.OpenSpec.upto Rows.tableEmptiedSpec) own started (by kernel_rfl) Tryd.func9
    ⟨(World.laidAll Tryd.prog os Rows.tableEmptiedUptoRow.laid), fun _ _ => 0, ⟨#[], #[.int .i64 0, .slice none 0 0, .slice none 0 0, .int .i64 0], []⟩, World.laidAll_os _ _ _, World.shaped_of_ZipB (by kernel_rfl) (by kernel_rfl), (Input.okWide_of_okWideB (base := 0) hok).1, (Input.okWide_of_okWideB hok).2,
      OpenSpec.preRow_of_cond 8 hx (by kernel_rfl) (fun k hk => by cases hk; kernel_rfl) (by kernel_rfl) (laidMet_laidAll _ (by kernel_rfl) (by kernel_rfl)), by
        simp only [Assume.holds]
        exact ⟨by simp, by simp, fun _ => Modest.zero, by simp, by simp⟩⟩ ?_
  intro W base args ds gs before hval0 hW _ hcond _ _ _ _
  have hk : Rows.uptoSmall H (ds ++ gs) = true := hcond _ rfl
  have hval : ∀ (j : Nat) t v, Tryd.f9.params[j]? = some t → args[j]? = some v → Value.okWide Tryd.prog W .any base t v := hval0
  have hW' := hW
  obtain ⟨p, q, hA0, hV, rfl, _, _⟩ := hW
  have hA : DataW.TrodAll enc Tryd.prog W 0 (fun _ => true) true Tryd.f9.params.toList args.toList ds p := hA0
  rw [Tryd.params9] at hA hval
  obtain ⟨v0, v1, v2, v3, d0, d1, d2, d3, p0, p1, p2, p3, rfl, rfl, rfl, h0, h1, h2, h3⟩ := trodO4 hA
  obtain ⟨rfl, rfl⟩ := trodVars_none hV
  have hlt : ∀ x ∈ p0 ++ (p1 ++ (p2 ++ p3)), x.block < W.heap.size := fun x hx => hW'.lt x (by simpa using hx)
  have l0 : ∀ x ∈ p0, x.block < W.heap.size := fun x hx => hlt x (by simp [hx])
  have l1 : ∀ x ∈ p1, x.block < W.heap.size := fun x hx => hlt x (by simp [hx])
  have l2 : ∀ x ∈ p2, x.block < W.heap.size := fun x hx => hlt x (by simp [hx])
  have l3 : ∀ x ∈ p3, x.block < W.heap.size := fun x hx => hlt x (by simp [hx])
  have k0 := h0
  obtain ⟨x0, rfl, _, _, w0⟩ := open_int Tryd.underlying3 (hval 0 3 v0 rfl rfl) k0
  have b0 := bounds_i64 w0
  obtain ⟨a1, n1, c1, m1, sp1, rfl, hl1, hc1, hr1, hw1, hd1⟩ := open_calls (hval 1 42 v1 rfl rfl) h1 l1
  obtain ⟨hb1, hz1⟩ := bulk_calls (bulk_arg hk (show d1 ∈ _ by simp)) hd1
  obtain ⟨a2, n2, c2, m2, sp2, rfl, hl2, hc2, hr2, hw2, hd2⟩ := open_calls (hval 2 42 v2 rfl rfl) h2 l2
  obtain ⟨hb2, hz2⟩ := bulk_calls (bulk_arg hk (show d2 ∈ _ by simp)) hd2
  have k3 := h3
  obtain ⟨x3, rfl, _, _, w3⟩ := open_int Tryd.underlying3 (hval 3 3 v3 rfl rfl) k3
  have b3 := bounds_i64 w3
  simp only [List.append_nil] at hW'
  refine (tableEmptied_law x0 a1 a2 n1 c1 n2 c2 m1 m2 x3 W hl1 hl2 (by omega) (by omega) hr1 hr2 (fun x hx => ⟨Nat.le_trans (hz1 x hx).1 (by decide), Nat.le_trans (hz1 x hx).2 (by decide)⟩) (fun x hx => ⟨Nat.le_trans (hz2 x hx).1 (by decide), Nat.le_trans (hz2 x hx).2 (by decide)⟩) b3.2).mono fun e W' ⟨he, hb⟩ => ?_
  subst he
  exact ⟨_, rfl, _, _, _, [], _, [], hW', trodAll_mk1 (shut_bool Tryd.underlying4 _),
    trodM4 (hb.trod lays_out (by kernel_rfl) (of_decide_eq_true (by kernel_rfl)) h0 l0) (hb.trod lays_out (by kernel_rfl) (of_decide_eq_true (by kernel_rfl)) h1 l1) (hb.trod lays_out (by kernel_rfl) (of_decide_eq_true (by kernel_rfl)) h2 l2) (hb.trod lays_out (by kernel_rfl) (of_decide_eq_true (by kernel_rfl)) h3 l3), rfl, hb.frame _, fun h => by cases h⟩

theorem holds : Rows.TableEmptiedUptoSaid :=
  OpenClaim.holds_of_cond 9 Tryd.f9 rfl rfl rfl rfl rfl rfl rfl ⟨rfl, rfl, rfl, rfl, rfl⟩ rfl rfl rfl rfl rfl (by kernel_rfl) Tryd.func9 (by kernel_rfl)
    (of_decide_eq_true (by kernel_rfl)) (by unfold Func.isWrapper; first | (rw [if_pos (by decide +kernel)]; kernel_rfl) | (rw [if_neg (by decide +kernel)]; exact ⟨rfl, rfl⟩))
    (fun os started H enc _ F => by rw [OpenClaim.pre_eq_preRow]; exact lifted os started H enc F)
end TableEmptiedU

theorem tableEmptied_card : Rows.TableEmptiedUptoCardSaid :=
  Claim7.holds_tied_plain_at .later [] Rows.tableEmptiedUptoCard.laidKinds true Rows.tableEmptiedUptoCard.stood.harness Rows.tableEmptiedUptoCard.stood.looks TableEmptiedU.holds (fun _ h => by cases h) (by kernel_rfl) (fun _ h => by cases h) tableEmptiedUpto_row_tie rfl ⟨rfl, rfl⟩ (by kernel_rfl) rfl
    (fun f fn hf hfn => by
      obtain rfl : f = 9 := Option.some.inj ((show Tryd.prog.funcNamed "parley/parleylaw3.TableEmptied" = some 9 by kernel_rfl).symm.trans hf) |>.symm
      obtain rfl : fn = Tryd.f9 := (Option.some.inj (Tryd.func9.symm.trans hfn)).symm
      exact ⟨by kernel_rfl, fun j t ht => by
        rw [Tryd.params9] at ht
        have hm : t ∈ [3, 42, 42, 3] := by simpa using Array.mem_of_getElem? ht
        have hall : ([3, 42, 42, 3].all fun u => !Tryd.prog.wantsStandIn u) = true := by kernel_rfl
        exact (show Tryd.prog.wantsStandIn t = false by simpa using List.all_eq_true.1 hall t hm)⟩)
    (by kernel_rfl)
#print axioms tableEmptied_card
end Go.Proofs.YtplajeboeckhhaaDoor
