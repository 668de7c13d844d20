/-
The walks of wire.Put of bytes and of groups.
-/
import Derived.Test.YtnejachdacakcaaDoorWput
import Derived.Deep.RegionLaw
namespace Go.Proofs.YtnejachdacakcaaDoor
open Go.RowKit

set_option maxRecDepth 100000 in
set_option maxHeartbeats 4000000 in
theorem put2 {B Bb : Nat} (f u : Nat) (a ab : Option Addr) (len cap nb cb : Nat) (l bs : List Nat) (w : World) (h1 : 1 ≤ f) (h2 : f ≤ 536870911) (hl : l.length = len) (hb : bs.length = nb) (hsz : len + nb + 60 ≤ 140737488355328) (hr : Rd B w a l) (hrb : Rd Bb w ab bs) :
    Calls Tryd.prog 20 #[.slice a len cap, .agg #[.int .i64 f, .int .i64 2, .int .u64 u, .slice ab nb cb]] w (PutOk (l ++ W.putF f 2 u bs) w) := by
  have hT64 : f * 8 + 2 < 18446744073709551616 := by omega
  have hPF : Hid (W.putF f 2 u bs = W.vbs (f * 8 + 2) ++ (W.vbs nb ++ bs)) := by show _ = _; rw [← hb]; simp [W.putF]
  have HPF := hPF
  clear hPF
  have HB0 : Below w.heap.size w (w.alloc (.cells #[.int .i64 f, .int .i64 2, .int .u64 u, .slice ab nb cb] 27)) := (Below.refl _ _).alloc (Nat.le_refl _) _
  have hF0 := fresh_from (B := B) (w1 := w.alloc (.cells #[.int .i64 f, .int .i64 2, .int .u64 u, .slice ab nb cb] 27)) a len cap l hl (hr.below HB0)
  have hrb0 := hrb.below HB0
  have HRb := Lib.hid hrb0
  have Hb := Lib.hid hb
  have hnb : Hid (nb < 18446744073709551616) := by show _ < _; omega
  have HF := Lib.hid hF0
  have Hl := Lib.hid hl
  clear hF0 hr hl HB0 hrb hrb0 hb
  obtain ⟨i0, hi, hz0, hz1, hz2⟩ := info_parts info5
  go_enter Tryd.func20, Tryd.ntmps20
  go_wp2_with fail
  refine (show Calls _ _ #[_, .int .i64 2] _ _ from tag_ok f 2 _ h1 h2 (by omega)).mono ?_
  rintro e w0 ⟨rfl, rfl⟩
  generalize hT : f * 8 + 2 = T at *
  have HT : Hid (T < 18446744073709551616) := hT64
  clear hT hT64
  generalize hw1 : w.alloc (.cells #[.int .i64 f, .int .i64 2, .int .u64 u, .slice ab nb cb] 27) = w1 at *
  have hb1 : Below (w.alloc (.cells #[.int .i64 f, .int .i64 2, .int .u64 u, .slice ab nb cb] 27)).heap.size (w.alloc (.cells #[.int .i64 f, .int .i64 2, .int .u64 u, .slice ab nb cb] 27)) w1 := by rw [hw1]; exact Below.refl _ _
  obtain ⟨⟨c0, c1, c2, c3⟩, ⟨f0, f1, f2, f3⟩, hs1⟩ := cells4 hb1
  have HB1 := Lib.hid (below_over hb1)
  have HBd : Hid (Below w1.heap.size w1 w1.drew) := (Below.refl _ _).drew
  obtain ⟨nT, hnT, hST⟩ := size_some T HT
  obtain ⟨nU, hnU, hSU⟩ := size_some nb hnb
  have HST := Lib.hid hST
  have HSU := Lib.hid hSU
  have HlT : Hid ((W.vbs T).length ≤ 10) := (W.vb_len 9 T).2
  have HL1 : Hid (l.length + 10 ≤ 140737488355328) := by show _ ≤ _; have := Hl.out; omega
  have HL2 : Hid ((l ++ W.vbs T).length + 10 ≤ 140737488355328) := by show _ ≤ _; rw [List.length_append]; have := Hl.out; have := HlT.out; omega
  obtain ⟨l1, hl1, HA1⟩ : ∃ l1, l1 = l ++ W.vbs T ∧ Hid (∀ ww v, Own w1.heap.size ww v l → Below w1.heap.size w1 ww → Calls Tryd.prog 39 #[v, .int .u64 T] ww (OwnPost w1.heap.size l1 w1)) :=
    ⟨_, rfl, fun ww v h1 h2 => appendVarint_from ww v l T h1 h2 HT HL1⟩
  obtain ⟨l2, hl2, HA2⟩ : ∃ l2, l2 = l1 ++ W.vbs nb ∧ Hid (∀ ww v, Own w1.heap.size ww v l1 → Below w1.heap.size w1 ww → Calls Tryd.prog 39 #[v, .int .u64 nb] ww (OwnPost w1.heap.size l2 w1)) :=
    ⟨_, rfl, fun ww v h1 h2 => appendVarint_from ww v l1 nb h1 h2 hnb (by subst hl1; exact HL2)⟩
  have HF2 : Hid (l ++ W.putF f 2 u bs = l2 ++ bs) := by show _ = _; rw [HPF.out, hl2, hl1]; simp only [List.append_assoc]
  have HL3 : Hid (l2.length + nb ≤ 140737488355328) := by
    have := Hl.out; have := HlT.out; have := (W.vb_len 9 nb).2
    have e : (W.vbs nb).length = (W.vb 9 nb).length := rfl
    show _ ≤ _
    rw [hl2, hl1, List.length_append, List.length_append]; omega
  clear hl1 hl2 HL1 HL2 HPF HlT
  have HR : Hid (IntKind.i64.wrap (IntKind.i64.wrap ((nT : Int) + nU) + nb) = ((nT + nU + nb : Nat) : Int)) := by show _ = _; have e1 : IntKind.i64.wrap ((nT : Int) + nU) = ((nT + nU : Nat) : Int) := (by rw [IntKind.wrap_i64]; omega); rw [e1, IntKind.wrap_i64]; omega
  clear hST hSU hb1 hw1
  go_wp2
  go_region_with (first
    | (with_reducible refine (HST.out _).mono ?_; rintro e w2 ⟨rfl, rfl⟩)
    | (with_reducible refine (HSU.out _).mono ?_; rintro e w2 ⟨rfl, rfl⟩)
    | (with_reducible refine (HF.out _ (nT + nU + nb) _ ?_ ?_ ?_).mono ?_
       · repeat (first | with_reducible exact Below.refl _ _ | with_reducible refine Below.drew ?_ | with_reducible refine below_q ?_ _)
       · exact HR.out
       · omega
       rintro e w2 ⟨v, rfl, hv, hb2⟩
       obtain ⟨gv, cp, rfl⟩ := hv.2
       have d2 := cell_below hb2 c2
       have d3 := cell_below hb2 c3
       have HV := Lib.hid hv
       have HB2 := Lib.hid hb2
       clear hv hb2))
  all_goals
    clear HF HST HSU
    go_wp2
    go_region_law (first
      | (refine step_app rfl (.tmp 85) (.tmp 87) 22 rfl w1.heap.size Bb 5 i0 (.int .u8 0) Tryd.underlying22 hi hz0 hz1 hz2 rfl _ l2.length (vals l2) rfl HV4.out.1 (by intro e; cases e) ab nb cb bs rfl Hb.out ?_ HL3.out ?_ ?_
         · exact HRb.out.below HB4.out
         · exact HB4.out.size
         intro g5 cp5 w5 hown5 hgrow5)
      | (go_simp; with_reducible refine (HA1.out _ _ ?_ ?_).mono ?_
         · exact HV.out
         · have hov := HB2.out
           repeat (first | with_reducible exact hov | with_reducible refine Below.drew ?_ | with_reducible refine below_q ?_ _)
         rintro e w3 ⟨v3, rfl, hv3, hb3⟩
         obtain ⟨g3, cp3, rfl⟩ := hv3.2
         have e3 := cell_below hb3 c3
         have HV3 := Lib.hid hv3
         have HB3 := Lib.hid hb3
         clear hv3 hb3)
      | (go_simp; with_reducible refine (HA2.out _ _ ?_ ?_).mono ?_
         · exact HV3.out
         · have hov := HB3.out
           repeat (first | with_reducible exact hov | with_reducible refine Below.drew ?_ | with_reducible refine below_q ?_ _)
         rintro e w4 ⟨v4, rfl, hv4, hb4⟩
         obtain ⟨g4, cp4, rfl⟩ := hv4.2
         have g3 := cell_below hb4 c3
         have HV4 := Lib.hid hv4
         have HB4 := Lib.hid hb4
         clear hv4 hb4))
    all_goals
      have hgrow : w4.grownBy w5 (Value.slice (some ⟨g4, 0, none⟩) l2.length cp4).ownBlock := hgrow5
      have HB5 := Lib.hid (HB4.out.grown hgrow HB4.out.size (fun k e => by cases e; exact (HV4.out.1.lt g4 rfl).1))
      have HO := Lib.hid (own_app Hb.out hown5)
      clear hgrow hgrow5 hown5
      go_wp2
      refine bodyPost_ret (v := .tuple #[.slice (some ⟨g5, 0, none⟩) (l2.length + nb) cp5, .nilIface]) (by simp [results, Tryd.results20, go_sem]) rfl ?_
      refine ⟨_, rfl, ?_, HB1.out.trans (HB5.out.mono (by omega))⟩
      rw [HF2.out]
      exact HO.out.mono (by omega)


end Go.Proofs.YtnejachdacakcaaDoor
