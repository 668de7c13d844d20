/-
The walks of wire.putGroup, and of wire.Put of groups and of what may not be.
-/
import Derived.Test.YtnejachdacakcaaDoorWputb
namespace Go.Proofs.YtnejachdacakcaaDoor
open Go.RowKit

/-- What Put hands back where it refuses. -/
def PutNo (p : Addr) (w : World) (e : Ending) (w' : World) : Prop := e = .returned (.tuple #[.slice none 0 0, .iface 121 (.pointer (some p))]) ∧ Below w.heap.size w w'

/-- Either of both. -/
def GroupOut (p : Addr) (k : Nat) (lp : List Nat) (w : World) (e : Ending) (w' : World) : Prop := if k = 0 then PutOk lp w e w' else PutNo p w e w'

set_option maxRecDepth 100000 in
set_option maxHeartbeats 4000000 in
theorem putG {B Bb : Nat} (f T u : Nat) (a ab : Option Addr) (len cap nb cb : Nat) (l bs : List Nat) (E : Nat → Addr) (w : World) (h1 : 1 ≤ f) (h2 : f ≤ 536870911) (HT : Hid (T < 18446744073709551616)) (hl : l.length = len) (hb : bs.length = nb) (hcb : nb ≤ cb) (hsz : len + nb + 60 ≤ 140737488355328) (hr : Rd B w a l) (hrb : Rd Bb w ab bs) (hBw : Bb ≤ w.heap.size) (hE : Errs w E) :
    Calls Tryd.prog 41 #[.slice a len cap, .int .u64 T, .agg #[.int .i64 f, .int .i64 3, .int .u64 u, .slice ab nb cb]] w
      (GroupOut (E 0) (W.chk 31 bs).2 (l ++ (W.vbs T ++ bs ++ W.vbs (f * 8 + 4))) w) := by
  obtain ⟨p, k, hx⟩ : ∃ p k, W.chk 31 bs = (p, k) := ⟨_, _, rfl⟩
  have HB0 : Below w.heap.size w (w.alloc (.cells #[.int .i64 f, .int .i64 3, .int .u64 u, .slice ab nb cb] 27)) := (Below.refl _ _).alloc (Nat.le_refl _) _
  have HFA := Lib.hid (fault_any (B := Bb) (lv := 31) (by omega) ab nb cb bs 1 E (w.alloc (.cells #[.int .i64 f, .int .i64 3, .int .u64 u, .slice ab nb cb] 27)) hb hcb (by omega) (Nat.le_trans hBw HB0.size) (hrb.below HB0) (hE.below HB0) (by simp))
  rw [hx] at HFA ⊢
  have HE := Lib.hid (hE.below HB0)
  have Hr := Lib.hid (hr.below HB0)
  have HRb0 := Lib.hid (hrb.below HB0)
  have Hl := Lib.hid hl
  have Hb := Lib.hid hb
  obtain ⟨i0, hi, hz0, hz1, hz2⟩ := info_parts info5
  clear hE hr hrb hl hb HB0 hx
  go_enter Tryd.func41, Tryd.ntmps41
  go_wp2_with fail
  refine HFA.out.mono ?_
  rintro e w1 ⟨rfl, hb1⟩
  clear HFA
  obtain ⟨⟨c0, c1, c2, c3⟩, ⟨f0, f1, f2, f3⟩, hs1⟩ := cells4 hb1
  have HB1 := Lib.hid (below_over hb1)
  cases k with
  | succ k =>
    have hg := (HE.out.below hb1).group
    generalize E 0 = E0 at *
    simp only
    unfold er
    clear HE Hr HRb0 hb1
    go_wp2
    go_quiet (fail)
    go_wp2
    refine bodyPost_ret (v := .tuple #[.slice none 0 0, .iface 121 (.pointer (some E0))]) (by simp [results, Tryd.results41, go_sem]) rfl ?_
    unfold GroupOut
    rw [if_neg (by omega)]
    refine ⟨rfl, ?_⟩
    have hov := HB1.out
    repeat (first | with_reducible exact hov | with_reducible refine Below.drew ?_ | with_reducible refine below_q ?_ _)
  | zero =>
    simp only
    unfold er
    have hT4 : f * 8 + 4 < 18446744073709551616 := by omega
    have HF := Lib.hid (fresh_from (B := B) (w1 := w1) a len cap l Hl.out (Hr.out.below hb1))
    have HRb : Hid (Rd Bb w1 ab bs) := HRb0.out.below hb1
    clear HE Hr HRb0 hb1
    go_wp2_with fail
    refine (show Calls _ _ #[_, .int .i64 4] _ _ from tag_ok f 4 _ h1 h2 (by omega)).mono ?_
    rintro e w0 ⟨rfl, rfl⟩
    generalize f * 8 + 4 = T4 at *
    have HT4 : Hid (T4 < 18446744073709551616) := hT4
    clear hT4
    obtain ⟨nT, hnT, hST⟩ := size_some T HT
    obtain ⟨nU, hnU, hSU⟩ := size_some T4 HT4
    have HST := Lib.hid hST
    have HSU := Lib.hid hSU
    clear hST hSU
    have HlT : Hid ((W.vbs T).length ≤ 10) := (W.vb_len 9 T).2
    have HL1 : Hid (l.length + 10 ≤ 140737488355328) := by show _ ≤ _; have := Hl.out; omega
    obtain ⟨l1, hl1, HA1⟩ : ∃ l1, l1 = l ++ W.vbs T ∧ Hid (∀ ww v, Own w1.heap.size ww v l → Below w1.heap.size w1 ww → Calls Tryd.prog 39 #[v, .int .u64 T] ww (OwnPost w1.heap.size l1 w1)) :=
      ⟨_, rfl, fun ww v h1 h2 => appendVarint_from ww v l T h1 h2 HT HL1⟩
    have HL2 : Hid ((l1 ++ bs).length + 10 ≤ 140737488355328) := by show _ ≤ _; rw [hl1, List.length_append, List.length_append]; have := Hl.out; have := HlT.out; have := Hb.out; omega
    have HL3 : Hid (l1.length + nb ≤ 140737488355328) := by show _ ≤ _; have := HL2.out; rw [List.length_append, Hb.out] at this; omega
    obtain ⟨l2, hl2, HA2⟩ : ∃ l2, l2 = (l1 ++ bs) ++ W.vbs T4 ∧ Hid (∀ ww v, Own w1.heap.size ww v (l1 ++ bs) → Below w1.heap.size w1 ww → Calls Tryd.prog 39 #[v, .int .u64 T4] ww (OwnPost w1.heap.size l2 w1)) :=
      ⟨_, rfl, fun ww v h1 h2 => appendVarint_from ww v (l1 ++ bs) T4 h1 h2 HT4 HL2⟩
    have HF2 : Hid (l ++ (W.vbs T ++ bs ++ W.vbs T4) = l2) := by show _ = _; rw [hl2, hl1]; simp only [List.append_assoc]
    clear hl1 hl2 HL1 HL2 HlT
    have HR : Hid (IntKind.i64.wrap (IntKind.i64.wrap ((nT : Int) + nb) + nU) = ((nT + nb + nU : Nat) : Int)) := by show _ = _; have e1 : IntKind.i64.wrap ((nT : Int) + nb) = ((nT + nb : Nat) : Int) := (by rw [IntKind.wrap_i64]; omega); rw [e1, IntKind.wrap_i64]; omega
    go_wp2
    go_region_with (first
      | (with_reducible refine (HST.out _).mono ?_; rintro e w2 ⟨rfl, rfl⟩)
      | (with_reducible refine (HSU.out _).mono ?_; rintro e w2 ⟨rfl, rfl⟩)
      | (with_reducible refine (HF.out _ (nT + nb + nU) _ ?_ ?_ ?_).mono ?_
         · repeat (first | with_reducible exact Below.refl _ _ | with_reducible refine Below.drew ?_ | with_reducible refine below_q ?_ _)
         · exact HR.out
         · omega
         rintro e w2 ⟨v, rfl, hv, hb2⟩
         obtain ⟨gv, cp, rfl⟩ := hv.2
         have d3 := cell_below hb2 c3
         have HV := Lib.hid hv
         have HB2 := Lib.hid hb2
         clear hv hb2))
    all_goals
      clear HF HST HSU
      go_wp2
      go_region_law (first
        | (refine step_app rfl (.tmp 43) (.tmp 45) 22 rfl w1.heap.size Bb 5 i0 (.int .u8 0) Tryd.underlying22 hi hz0 hz1 hz2 rfl _ l1.length (vals l1) rfl HV3.out.1 (by intro e; cases e) ab nb cb bs rfl Hb.out ?_ HL3.out ?_ ?_
           · exact HRb.out.below HB3.out
           · exact HB3.out.size
           intro g5 cp5 w5 hown5 hgrow5)
        | (go_simp; with_reducible refine (HA1.out _ _ ?_ ?_).mono ?_
           · exact HV.out
           · have hov := HB2.out
             repeat (first | with_reducible exact hov | with_reducible refine Below.drew ?_ | with_reducible refine below_q ?_ _)
           rintro e w3 ⟨v3, rfl, hv3, hb3⟩
           obtain ⟨g3, cp3, rfl⟩ := hv3.2
           have e3 := cell_below hb3 c3
           have HV3 := Lib.hid hv3
           have HB3 := Lib.hid hb3
           clear hv3 hb3))
      all_goals
        have hgrow : w3.grownBy w5 (Value.slice (some ⟨g3, 0, none⟩) l1.length cp3).ownBlock := hgrow5
        have HB5 := Lib.hid (HB3.out.grown hgrow HB3.out.size (fun k e => by cases e; exact (HV3.out.1.lt g3 rfl).1))
        have HO := Lib.hid (own_app Hb.out hown5)
        clear hgrow hgrow5 hown5
        go_wp2_with fail
        refine (HA2.out _ _ HO.out HB5.out).mono ?_
        rintro e w6 ⟨v6, rfl, hv6, hb6⟩
        obtain ⟨g6, cp6, rfl⟩ := hv6.2
        have HV6 := Lib.hid hv6
        have HB6 := Lib.hid hb6
        clear hv6 hb6
        go_wp2
        refine bodyPost_ret (v := .tuple #[.slice (some ⟨g6, 0, none⟩) l2.length cp6, .nilIface]) (by simp [results, Tryd.results41, go_sem]) rfl ?_
        unfold GroupOut
        rw [if_pos rfl]
        refine ⟨_, rfl, ?_, HB1.out.trans (HB6.out.mono (by omega))⟩
        rw [HF2.out]
        exact HV6.out.mono (by omega)
end Go.Proofs.YtnejachdacakcaaDoor
