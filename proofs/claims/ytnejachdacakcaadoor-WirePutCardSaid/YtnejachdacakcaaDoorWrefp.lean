/-
The walk of parleyref1.Put.
-/
import Derived.Test.YtnejachdacakcaaDoorWrefk
import Derived.Test.YtnejachdacakcaaDoorWrefc
import Derived.Test.YtnejachdacakcaaDoorWputd
namespace Go.Proofs.YtnejachdacakcaaDoor
open Go.RowKit

/-- What the reference's Put hands back: bytes of its own, or an error's number. -/
def RefPut (c : Nat) (P : List Nat) (w : World) (e : Ending) (w' : World) : Prop :=
  if c = 0 then ∃ v, e = .returned (.tuple #[v, .int .i64 0]) ∧ Own w.heap.size w' v P ∧ Below w.heap.size w w'
  else e = .returned (.tuple #[.slice none 0 0, .int .i64 (cd c)]) ∧ Below w.heap.size w w'

theorem refTag_nat (f kd T : Nat) (w : World) (h1 : 1 ≤ f) (h2 : f ≤ 536870911) (h3 : kd ≤ 5) (hT : T = f * 8 + kd) :
    Calls Tryd.prog 42 #[.int .i64 f, .int .i64 kd] w fun e w' => e = .returned (.tuple #[.int .u64 (T : Nat), .int .i64 0]) ∧ w = w' := by
  refine (refTag_yes f kd w (by omega)).mono ?_
  rintro e w' ⟨rfl, rfl⟩
  subst hT
  exact ⟨by push_cast; rfl, rfl⟩

theorem refPut_bad (F K : Int) (u : Nat) (ab : Option Addr) (nb cb : Nat) (w : World) (h : F < 1 ∨ 536870911 < F ∨ K < 0 ∨ 5 < K) :
    Calls Tryd.prog 21 #[.agg #[.int .i64 F, .int .i64 K, .int .u64 u, .slice ab nb cb]] w (RefPut (3 + 1) [] w) := by
  have HT := Lib.hid (refTag_no F K (w.alloc (.cells #[.int .i64 F, .int .i64 K, .int .u64 u, .slice ab nb cb] 32)) h)
  clear h
  go_enter Tryd.func21, Tryd.ntmps21
  go_wp2_with fail
  refine HT.out.mono ?_
  rintro e w1 ⟨rfl, rfl⟩
  go_wp2
  go_ret2
  unfold RefPut
  rw [if_neg (by omega)]
  exact ⟨rfl, (Below.refl _ _).alloc (Nat.le_refl _) _⟩

theorem refPut4 (f u : Nat) (ab : Option Addr) (nb cb : Nat) (w : World) (h1 : 1 ≤ f) (h2 : f ≤ 536870911) :
    Calls Tryd.prog 21 #[.agg #[.int .i64 f, .int .i64 4, .int .u64 u, .slice ab nb cb]] w (RefPut (0 + 1) [] w) := by
  obtain ⟨T, hT⟩ : ∃ T, T = f * 8 + 4 := ⟨_, rfl⟩
  have hT64 : Hid (T < 18446744073709551616) := by show T < _; omega
  have HT := Lib.hid (refTag_nat f 4 T (w.alloc (.cells #[.int .i64 f, .int .i64 4, .int .u64 u, .slice ab nb cb] 32)) h1 h2 (by omega) hT)
  clear hT
  go_enter Tryd.func21, Tryd.ntmps21
  go_wp2_with fail
  refine HT.out.mono ?_
  rintro e w1 ⟨rfl, rfl⟩
  go_wp2_with fail
  refine (refVarint_any T _ hT64).mono ?_
  rintro e w1 ⟨v1, rfl, hv1, hb1⟩
  obtain ⟨g1, cp1, rfl⟩ := hv1.2
  obtain ⟨⟨c0, c1, c2, c3⟩, ⟨f0, f1, f2, f3⟩, hs1⟩ := cells4 hb1
  have HB1 := Lib.hid (below_over hb1)
  clear hb1 hv1 HT
  go_wp2
  go_ret2
  unfold RefPut
  rw [if_neg (by omega)]
  exact ⟨rfl, HB1.out⟩

set_option maxRecDepth 100000 in
theorem refPut0 (f u : Nat) (ab : Option Addr) (nb cb : Nat) (bs : List Nat) (w : World) (h1 : 1 ≤ f) (h2 : f ≤ 536870911) (hu : Hid (u < 18446744073709551616)) :
    Calls Tryd.prog 21 #[.agg #[.int .i64 f, .int .i64 0, .int .u64 u, .slice ab nb cb]] w (RefPut 0 (W.putF f 0 u bs) w) := by
  obtain ⟨i0, hi, hz0, hz1b, hz2⟩ := info_parts info5
  have Hz2 := Lib.hid hz2
  clear hz2
  obtain ⟨T, hT⟩ : ∃ T, T = f * 8 + 0 := ⟨_, rfl⟩
  have HP : Hid (W.putF f 0 u bs = W.vbs T ++ W.vbs u) := by show _ = _; rw [hT]; simp [W.putF]
  have hT64 : Hid (T < 18446744073709551616) := by show T < _; omega
  have HT := Lib.hid (refTag_nat f 0 T (w.alloc (.cells #[.int .i64 f, .int .i64 0, .int .u64 u, .slice ab nb cb] 32)) h1 h2 (by omega) hT)
  clear hT
  rw [HP.out]
  have hl1 := vbs_10 T
  have hl2 : (W.vbs u).length ≤ 10 := by have := vbs_10 u; omega
  have HLT : Hid (∀ x ∈ W.vbs u, x < 256) := W.vbs_lt u hu.out
  clear HP
  go_enter Tryd.func21, Tryd.ntmps21
  go_wp2_with fail
  refine HT.out.mono ?_
  rintro e w1 ⟨rfl, rfl⟩
  go_wp2_with fail
  refine (refVarint_any T _ hT64).mono ?_
  rintro e w1 ⟨v1, rfl, hv1, hb1⟩
  obtain ⟨g1, cp1, rfl⟩ := hv1.2
  obtain ⟨⟨c0, c1, c2, c3⟩, ⟨f0, f1, f2, f3⟩, hs1⟩ := cells4 hb1
  have HB1 := Lib.hid hb1
  have HV1 := Lib.hid hv1
  clear hb1 hv1 HT
  go_wp2_with fail
  refine (refVarint_any u w1 hu).mono ?_
  rintro e w2 ⟨v2, rfl, hv2, hb2⟩
  obtain ⟨g2, cp2, rfl⟩ := hv2.2
  have HB2 := Lib.hid (HB1.out.trans (hb2.mono HB1.out.size))
  have HV2 := Lib.hid (HV1.out.below hb2)
  have HR2 := Lib.hid (own_rd hv2 rfl HLT.out).1
  have hs2 := HB2.out.size
  simp only [World.size_alloc] at hs2
  clear hb2 hv2 c0 c1 c2 c3 f0 f1 f2 f3 HB1 HV1
  generalize W.vbs u = bb at *
  go_wp2_with (at_builtin; refine wpList_app _ rfl _ _ 22 rfl (w.heap.size + 1) _ 5 i0 (.int .u8 0) Tryd.underlying22 hi hz0 hz1b Hz2.out rfl _ (W.vbs T).length (vals (W.vbs T)) rfl (by have := HV2.out.1; simp only [World.size_alloc] at this; exact this) (by intro e; cases e) _ bb.length cp2 bb rfl rfl HR2.out ?_ ?_ ?_; omega; omega; intro g3 cp3 w3 hown3 hgrow3)
  go_ret2
  unfold RefPut
  rw [if_pos rfl]
  refine ⟨_, rfl, ?_, ?_⟩
  · have := own_app rfl hown3
    rw [← List.length_append] at this ⊢
    exact this.mono (by omega)
  · exact below_over (HB2.out.grown hgrow3 HB2.out.size (fun k e => by cases e; exact (HV2.out.1.lt g1 rfl).1))

set_option maxRecDepth 100000 in
theorem refPut1 (f u : Nat) (ab : Option Addr) (nb cb : Nat) (bs : List Nat) (w : World) (h1 : 1 ≤ f) (h2 : f ≤ 536870911) (hu : Hid (u < 18446744073709551616)) :
    Calls Tryd.prog 21 #[.agg #[.int .i64 f, .int .i64 1, .int .u64 u, .slice ab nb cb]] w (RefPut 0 (W.putF f 1 u bs) w) := by
  obtain ⟨i0, hi, hz0, hz1b, hz2⟩ := info_parts info5
  have Hz2 := Lib.hid hz2
  clear hz2
  obtain ⟨T, hT⟩ : ∃ T, T = f * 8 + 1 := ⟨_, rfl⟩
  have HP : Hid (W.putF f 1 u bs = W.vbs T ++ W.leB 8 u) := by show _ = _; rw [hT]; simp [W.putF]
  have hT64 : Hid (T < 18446744073709551616) := by show T < _; omega
  have HT := Lib.hid (refTag_nat f 1 T (w.alloc (.cells #[.int .i64 f, .int .i64 1, .int .u64 u, .slice ab nb cb] 32)) h1 h2 (by omega) hT)
  clear hT
  rw [HP.out]
  have hl1 := vbs_10 T
  have hl2 : (W.leB 8 u).length ≤ 10 := by rw [W.leB_len]; omega
  have HLT : Hid (∀ x ∈ W.leB 8 u, x < 256) := W.leB_lt 8 u
  clear HP
  go_enter Tryd.func21, Tryd.ntmps21
  go_wp2_with fail
  refine HT.out.mono ?_
  rintro e w1 ⟨rfl, rfl⟩
  go_wp2_with fail
  refine (refVarint_any T _ hT64).mono ?_
  rintro e w1 ⟨v1, rfl, hv1, hb1⟩
  obtain ⟨g1, cp1, rfl⟩ := hv1.2
  obtain ⟨⟨c0, c1, c2, c3⟩, ⟨f0, f1, f2, f3⟩, hs1⟩ := cells4 hb1
  have HB1 := Lib.hid hb1
  have HV1 := Lib.hid hv1
  clear hb1 hv1 HT
  go_wp2_with fail
  refine (refFixed8 u w1 hu).mono ?_
  rintro e w2 ⟨v2, rfl, hv2, hb2⟩
  obtain ⟨g2, cp2, rfl⟩ := hv2.2
  have HB2 := Lib.hid (HB1.out.trans (hb2.mono HB1.out.size))
  have HV2 := Lib.hid (HV1.out.below hb2)
  have HR2 := Lib.hid (own_rd hv2 rfl HLT.out).1
  have hs2 := HB2.out.size
  simp only [World.size_alloc] at hs2
  clear hb2 hv2 c0 c1 c2 c3 f0 f1 f2 f3 HB1 HV1
  generalize W.leB 8 u = bb at *
  go_wp2_with (at_builtin; refine wpList_app _ rfl _ _ 22 rfl (w.heap.size + 1) _ 5 i0 (.int .u8 0) Tryd.underlying22 hi hz0 hz1b Hz2.out rfl _ (W.vbs T).length (vals (W.vbs T)) rfl (by have := HV2.out.1; simp only [World.size_alloc] at this; exact this) (by intro e; cases e) _ bb.length cp2 bb rfl rfl HR2.out ?_ ?_ ?_; omega; omega; intro g3 cp3 w3 hown3 hgrow3)
  go_ret2
  unfold RefPut
  rw [if_pos rfl]
  refine ⟨_, rfl, ?_, ?_⟩
  · have := own_app rfl hown3
    rw [← List.length_append] at this ⊢
    exact this.mono (by omega)
  · exact below_over (HB2.out.grown hgrow3 HB2.out.size (fun k e => by cases e; exact (HV2.out.1.lt g1 rfl).1))

set_option maxRecDepth 100000 in
theorem refPut5 (f u : Nat) (ab : Option Addr) (nb cb : Nat) (bs : List Nat) (w : World) (h1 : 1 ≤ f) (h2 : f ≤ 536870911) (hu : Hid (u < 18446744073709551616)) :
    Calls Tryd.prog 21 #[.agg #[.int .i64 f, .int .i64 5, .int .u64 u, .slice ab nb cb]] w (RefPut 0 (W.putF f 5 u bs) w) := by
  obtain ⟨i0, hi, hz0, hz1b, hz2⟩ := info_parts info5
  have Hz2 := Lib.hid hz2
  clear hz2
  obtain ⟨T, hT⟩ : ∃ T, T = f * 8 + 5 := ⟨_, rfl⟩
  have HP : Hid (W.putF f 5 u bs = W.vbs T ++ W.leB 4 u) := by show _ = _; rw [hT]; simp [W.putF]
  have hT64 : Hid (T < 18446744073709551616) := by show T < _; omega
  have HT := Lib.hid (refTag_nat f 5 T (w.alloc (.cells #[.int .i64 f, .int .i64 5, .int .u64 u, .slice ab nb cb] 32)) h1 h2 (by omega) hT)
  clear hT
  rw [HP.out]
  have hl1 := vbs_10 T
  have hl2 : (W.leB 4 u).length ≤ 10 := by rw [W.leB_len]; omega
  have HLT : Hid (∀ x ∈ W.leB 4 u, x < 256) := W.leB_lt 4 u
  clear HP
  go_enter Tryd.func21, Tryd.ntmps21
  go_wp2_with fail
  refine HT.out.mono ?_
  rintro e w1 ⟨rfl, rfl⟩
  go_wp2_with fail
  refine (refVarint_any T _ hT64).mono ?_
  rintro e w1 ⟨v1, rfl, hv1, hb1⟩
  obtain ⟨g1, cp1, rfl⟩ := hv1.2
  obtain ⟨⟨c0, c1, c2, c3⟩, ⟨f0, f1, f2, f3⟩, hs1⟩ := cells4 hb1
  have HB1 := Lib.hid hb1
  have HV1 := Lib.hid hv1
  clear hb1 hv1 HT
  go_wp2_with fail
  refine (refFixed4 u w1 hu).mono ?_
  rintro e w2 ⟨v2, rfl, hv2, hb2⟩
  obtain ⟨g2, cp2, rfl⟩ := hv2.2
  have HB2 := Lib.hid (HB1.out.trans (hb2.mono HB1.out.size))
  have HV2 := Lib.hid (HV1.out.below hb2)
  have HR2 := Lib.hid (own_rd hv2 rfl HLT.out).1
  have hs2 := HB2.out.size
  simp only [World.size_alloc] at hs2
  clear hb2 hv2 c0 c1 c2 c3 f0 f1 f2 f3 HB1 HV1
  generalize W.leB 4 u = bb at *
  go_wp2_with (at_builtin; refine wpList_app _ rfl _ _ 22 rfl (w.heap.size + 1) _ 5 i0 (.int .u8 0) Tryd.underlying22 hi hz0 hz1b Hz2.out rfl _ (W.vbs T).length (vals (W.vbs T)) rfl (by have := HV2.out.1; simp only [World.size_alloc] at this; exact this) (by intro e; cases e) _ bb.length cp2 bb rfl rfl HR2.out ?_ ?_ ?_; omega; omega; intro g3 cp3 w3 hown3 hgrow3)
  go_ret2
  unfold RefPut
  rw [if_pos rfl]
  refine ⟨_, rfl, ?_, ?_⟩
  · have := own_app rfl hown3
    rw [← List.length_append] at this ⊢
    exact this.mono (by omega)
  · exact below_over (HB2.out.grown hgrow3 HB2.out.size (fun k e => by cases e; exact (HV2.out.1.lt g1 rfl).1))

set_option maxRecDepth 100000 in
set_option maxHeartbeats 1000000 in
theorem refPut2 {Bb : Nat} (f u : Nat) (ab : Option Addr) (nb cb : Nat) (bs : List Nat) (w : World) (h1 : 1 ≤ f) (h2 : f ≤ 536870911) (hb : bs.length = nb) (hnb : nb ≤ 100000000000000) (hrb : Rd Bb w ab bs) :
    Calls Tryd.prog 21 #[.agg #[.int .i64 f, .int .i64 2, .int .u64 u, .slice ab nb cb]] w (RefPut 0 (W.putF f 2 u bs) w) := by
  obtain ⟨i0, hi, hz0, hz1b, hz2⟩ := info_parts info5
  have Hz2 := Lib.hid hz2
  clear hz2
  obtain ⟨T, hT⟩ : ∃ T, T = f * 8 + 2 := ⟨_, rfl⟩
  have HP : Hid (W.putF f 2 u bs = W.vbs T ++ W.vbs nb ++ bs) := by show _ = _; rw [hT, ← hb]; simp [W.putF]
  have hT64 : Hid (T < 18446744073709551616) := by show T < _; omega
  have hN64 : Hid (nb < 18446744073709551616) := by show nb < _; omega
  have HT := Lib.hid (refTag_nat f 2 T (w.alloc (.cells #[.int .i64 f, .int .i64 2, .int .u64 u, .slice ab nb cb] 32)) h1 h2 (by omega) hT)
  clear hT
  rw [HP.out]
  have hl1 := vbs_10 T
  have hl2 := vbs_10 nb
  have HLT : Hid (∀ x ∈ W.vbs nb, x < 256) := W.vbs_lt nb hN64.out
  have Hrb := Lib.hid hrb
  have Hb := Lib.hid hb
  clear HP hrb hb
  go_enter Tryd.func21, Tryd.ntmps21
  go_wp2_with fail
  refine HT.out.mono ?_
  rintro e w1 ⟨rfl, rfl⟩
  go_wp2_with fail
  refine (refVarint_any T _ hT64).mono ?_
  rintro e w1 ⟨v1, rfl, hv1, hb1⟩
  obtain ⟨g1, cp1, rfl⟩ := hv1.2
  obtain ⟨⟨c0, c1, c2, c3⟩, ⟨f0, f1, f2, f3⟩, hs1⟩ := cells4 hb1
  have HB1 := Lib.hid hb1
  have HV1 := Lib.hid hv1
  clear hb1 hv1 HT
  go_wp2_with fail
  refine (refVarint_any nb w1 hN64).mono ?_
  rintro e w2 ⟨v2, rfl, hv2, hb2⟩
  obtain ⟨g2, cp2, rfl⟩ := hv2.2
  have HB2 := Lib.hid (HB1.out.trans (hb2.mono HB1.out.size))
  have HV2 := Lib.hid (HV1.out.below hb2)
  have HR2 := Lib.hid (own_rd hv2 rfl HLT.out).1
  have hs2 := HB2.out.size
  simp only [World.size_alloc] at hs2
  clear hb2 hv2 c0 c1 c2 c3 f0 f1 f2 f3 HB1 HV1
  generalize W.vbs nb = bb at *
  go_upto_region 14 with (at_builtin; refine wpList_app _ rfl _ _ 22 rfl (w.heap.size + 1) _ 5 i0 (.int .u8 0) Tryd.underlying22 hi hz0 hz1b Hz2.out rfl _ (W.vbs T).length (vals (W.vbs T)) rfl (by have := HV2.out.1; simp only [World.size_alloc] at this; exact this) (by intro e; cases e) _ bb.length cp2 bb rfl rfl HR2.out ?_ ?_ ?_; omega; omega; intro g3 cp3 w3 hown3 hgrow3)
  have hb3 := HB2.out.grown hgrow3 HB2.out.size (fun k e => by cases e; exact (HV2.out.1.lt g1 rfl).1)
  obtain ⟨⟨c0, c1, c2, c3⟩, ⟨f0, f1, f2, f3⟩, hs3⟩ := cells4 hb3
  have hs4 := hb3.size
  simp only [World.size_alloc] at hs4
  have HB3 := Lib.hid hb3
  have HO3 := Lib.hid hown3
  have HRb3 := Lib.hid (Hrb.out.below (below_over hb3))
  clear hb3 hown3 hgrow3 HV2 HR2 HB2
  go_wp2_with (at_builtin; refine wpList_app _ rfl _ _ 22 rfl (w.heap.size + 1) _ 5 i0 (.int .u8 0) Tryd.underlying22 hi hz0 hz1b Hz2.out rfl _ ((W.vbs T).length + bb.length) (vals (W.vbs T) ++ vals bb) rfl HO3.out (by intro e; cases e) ab nb cb bs rfl Hb.out HRb3.out ?_ ?_ ?_; omega; omega; intro g5 cp5 w5 hown5 hgrow5)
  go_ret2
  unfold RefPut
  rw [if_pos rfl]
  refine ⟨_, rfl, ?_, ?_⟩
  · have := own_app (l := W.vbs T ++ bb) (bs := bs) Hb.out (by rw [List.length_append, vals_append]; exact hown5)
    rw [List.length_append] at this
    exact this.mono (by omega)
  · exact below_over (HB3.out.grown hgrow5 HB3.out.size (fun k e => by cases e; have := (HO3.out.lt g3 rfl).1; simp only [World.size_alloc]; exact this))

set_option maxRecDepth 100000 in
set_option maxHeartbeats 1000000 in
theorem refPut3_no {Bb : Nat} (f u : Nat) (ab : Option Addr) (nb cb : Nat) (bs : List Nat) (w : World) (h1 : 1 ≤ f) (h2 : f ≤ 536870911) (hb : bs.length = nb) (hcb : nb ≤ cb) (hnb : nb ≤ 100000000000000) (hBb : Bb ≤ w.heap.size) (hrb : Rd Bb w ab bs) (hc : (W.chk 31 bs).2 ≠ 0) :
    Calls Tryd.prog 21 #[.agg #[.int .i64 f, .int .i64 3, .int .u64 u, .slice ab nb cb]] w (RefPut (0 + 1) [] w) := by
  obtain ⟨T, hT⟩ : ∃ T, T = f * 8 + 3 := ⟨_, rfl⟩
  have hT64 : Hid (T < 18446744073709551616) := by show T < _; omega
  have HT := Lib.hid (refTag_nat f 3 T (w.alloc (.cells #[.int .i64 f, .int .i64 3, .int .u64 u, .slice ab nb cb] 32)) h1 h2 (by omega) hT)
  obtain ⟨p, k, hx⟩ : ∃ p k, W.chk 32 bs = (p, k) := ⟨_, _, rfl⟩
  have hdeep : Hid (k = 0 → 32 ≤ W.dp 33 bs) := fun h => by
    subst h
    exact Nat.lt_of_not_le ((not_congr (W.dp_iff 32 (by omega) bs (by rw [hx]) 31)).1 hc)
  have Hrb := Lib.hid hrb
  have Hb := Lib.hid hb
  have HX := Lib.hid hx
  clear hT hrb hb hc hx
  go_enter Tryd.func21, Tryd.ntmps21
  go_wp2_with fail
  refine HT.out.mono ?_
  rintro e w1 ⟨rfl, rfl⟩
  go_wp2_with fail
  refine (refVarint_any T _ hT64).mono ?_
  rintro e w1 ⟨v1, rfl, hv1, hb1⟩
  obtain ⟨g1, cp1, rfl⟩ := hv1.2
  obtain ⟨⟨c0, c1, c2, c3⟩, ⟨f0, f1, f2, f3⟩, hs1⟩ := cells4 hb1
  have hs1' := hb1.size
  have HB1 := Lib.hid hb1
  have HV1 := Lib.hid hv1
  have HR1 := Lib.hid (Hrb.out.below (below_over hb1))
  clear hb1 hv1 HT
  go_wp2_with fail
  refine (refCheck_any (B := Bb) ab nb cb bs w1 Hb.out (by omega) hcb (by simp at hs1'; omega) HR1.out).mono ?_
  rintro e w2 ⟨v2, rfl, hv2, hb2⟩
  rw [HX.out] at hv2
  obtain ⟨at_, hat⟩ : ∃ a n c, v2 = .slice a n c := by
    rcases hv2 with ⟨_, h⟩ | ⟨_, g, h, _⟩
    · exact ⟨_, _, _, h⟩
    · exact ⟨_, _, _, h⟩
  obtain ⟨an, ac, rfl⟩ := hat
  have hb3 := HB1.out.trans (hb2.mono HB1.out.size)
  clear c0 c1 c2 c3 f0 f1 f2 f3
  obtain ⟨⟨c0, c1, c2, c3⟩, ⟨f0, f1, f2, f3⟩, hs2⟩ := cells4 hb3
  have HB2 := Lib.hid hb3
  have hs2' := hb3.size
  simp only [World.size_alloc] at hs2'
  have HR2 := Lib.hid (HR1.out.below hb2)
  clear hb2 hb3 hv2
  unfold fV
  cases k with
  | succ k =>
    have hne : (cd (k + 1) != 0) = true := by simpa using cd_succ k
    rw [HX.out]
    simp only
    go_wp2
    go_ret2
    unfold RefPut
    rw [if_neg (by omega)]
    refine ⟨rfl, ?_⟩
    have hov := below_over HB2.out
    repeat (first | with_reducible exact hov | with_reducible refine Below.setCell ?_ (by first | omega | (simp; done) | (simp; omega)) _ | with_reducible refine Below.alloc ?_ (by first | omega | (simp; done) | (simp; omega)) _)
  | zero =>
    have hdp := hdeep.out rfl
    rw [HX.out]
    have hcd1 : cd 0 = 0 := rfl
    simp only [hcd1]
    go_wp2_with fail
    refine (deep_all 32 (by omega) Bb ab nb cb bs _ Hb.out (by omega) hcb (by simp; omega) (HR2.out.below ((Below.refl _ _).alloc (Nat.le_refl _) _)) (by rw [HX.out])).mono ?_
    rintro e w3 ⟨rfl, hb3⟩
    have hb4 := (HB2.out.alloc (by simp; omega) (.cells #[.int .i64 0, .int .i64 0, .int .i64 0, .slice at_ an ac] 42)).trans (hb3.mono (by simp; omega))
    have HB4 := Lib.hid hb4
    clear hb3 hb4
    generalize W.dp (32 + 1) bs = D at *
    go_wp2
    go_ret2
    unfold RefPut
    rw [if_neg (by omega)]
    exact ⟨rfl, below_over HB4.out⟩

set_option maxRecDepth 100000 in
set_option maxHeartbeats 2000000 in
theorem refPut3_ok {Bb : Nat} (f u : Nat) (ab : Option Addr) (nb cb : Nat) (bs : List Nat) (w : World) (h1 : 1 ≤ f) (h2 : f ≤ 536870911) (hb : bs.length = nb) (hcb : nb ≤ cb) (hnb : nb ≤ 100000000000000) (hBb : Bb ≤ w.heap.size) (hrb : Rd Bb w ab bs) (hc : (W.chk 31 bs).2 = 0) :
    Calls Tryd.prog 21 #[.agg #[.int .i64 f, .int .i64 3, .int .u64 u, .slice ab nb cb]] w (RefPut 0 (W.putF f 3 u bs) w) := by
  obtain ⟨i0, hi, hz0, hz1b, hz2⟩ := info_parts info5
  have Hz2 := Lib.hid hz2
  clear hz2
  obtain ⟨T, hT⟩ : ∃ T, T = f * 8 + 3 := ⟨_, rfl⟩
  have HP : Hid (W.putF f 3 u bs = W.vbs T ++ bs ++ W.vbs (T + 1)) := by show _ = _; rw [hT]; simp [W.putF]
  have hT64 : Hid (T < 18446744073709551616) := by show T < _; omega
  have hT65 : Hid (T + 1 < 18446744073709551616) := by show T + 1 < _; omega
  have HT := Lib.hid (refTag_nat f 3 T (w.alloc (.cells #[.int .i64 f, .int .i64 3, .int .u64 u, .slice ab nb cb] 32)) h1 h2 (by omega) hT)
  have hTs : T ≤ 4294967291 := by omega
  rw [HP.out]
  have hl1 := vbs_10 T
  have hl2 := vbs_10 (T + 1)
  have HLT : Hid (∀ x ∈ W.vbs (T + 1), x < 256) := W.vbs_lt (T + 1) hT65.out
  have HLb : Hid (∀ x ∈ W.vbs T, x < 256) := W.vbs_lt T hT64.out
  have hc32 : (W.chk 32 bs).2 = 0 := W.chk_mono (by omega) bs _ _ hc
  obtain ⟨p, hx⟩ : ∃ p, W.chk 32 bs = (p, 0) := ⟨_, Prod.ext rfl hc32⟩
  have hdeep : W.dp (32 + 1) bs ≤ 31 := (W.dp_iff 32 (by omega) bs hc32 31).1 hc
  have Hrb := Lib.hid hrb
  have Hb := Lib.hid hb
  have HX := Lib.hid hx
  clear hT hrb hb hc hx hc32 HP
  go_enter Tryd.func21, Tryd.ntmps21
  go_wp2_with fail
  refine HT.out.mono ?_
  rintro e w1 ⟨rfl, rfl⟩
  go_wp2_with fail
  refine (refVarint_any T _ hT64).mono ?_
  rintro e w1 ⟨v1, rfl, hv1, hb1⟩
  obtain ⟨g1, cp1, rfl⟩ := hv1.2
  obtain ⟨⟨c0, c1, c2, c3⟩, ⟨f0, f1, f2, f3⟩, hs1⟩ := cells4 hb1
  have hs1' := hb1.size
  have HB1 := Lib.hid hb1
  have HV1 := Lib.hid hv1
  have HR1 := Lib.hid (Hrb.out.below (below_over hb1))
  clear hb1 hv1 HT
  go_wp2_with fail
  refine (refCheck_any (B := Bb) ab nb cb bs w1 Hb.out (by omega) hcb (by simp at hs1'; omega) HR1.out).mono ?_
  rintro e w2 ⟨v2, rfl, hv2, hb2⟩
  rw [HX.out] at hv2
  obtain ⟨_, rfl⟩ : (0 : Nat) = 0 ∧ v2 = .slice none 0 0 := by
    rcases hv2 with h | ⟨h, _⟩
    · exact h
    · exact absurd rfl h
  have hb3 := HB1.out.trans (hb2.mono HB1.out.size)
  clear c0 c1 c2 c3 f0 f1 f2 f3
  obtain ⟨⟨c0, c1, c2, c3⟩, ⟨f0, f1, f2, f3⟩, hs2⟩ := cells4 hb3
  have HB2 := Lib.hid hb3
  have hs2' := hb3.size
  simp only [World.size_alloc] at hs2'
  have HR2 := Lib.hid (HR1.out.below hb2)
  have HV2 := Lib.hid (HV1.out.below hb2)
  clear hb2 hb3 hv2 HV1
  unfold fV
  rw [HX.out]
  have hcd1 : cd 0 = 0 := rfl
  simp only [hcd1]
  go_wp2_with fail
  refine (deep_all 32 (by omega) Bb ab nb cb bs _ Hb.out (by omega) hcb (by simp; omega) (HR2.out.below ((Below.refl _ _).alloc (Nat.le_refl _) _)) (by rw [HX.out])).mono ?_
  rintro e w3 ⟨rfl, hb3⟩
  have hb4 := (HB2.out.alloc (by simp; omega) (.cells #[.int .i64 0, .int .i64 0, .int .i64 0, .slice none 0 0] 42)).trans (hb3.mono (by simp; omega))
  have HB4 := Lib.hid hb4
  have HV4 := Lib.hid (HV2.out.below (show Below w2.heap.size w2 w3 from ((Below.refl _ _).alloc (Nat.le_refl _) _).trans (hb3.mono (by simp))))
  have HR4 := Lib.hid (HR2.out.below (show Below w2.heap.size w2 w3 from ((Below.refl _ _).alloc (Nat.le_refl _) _).trans (hb3.mono (by simp))))
  clear hb3 hb4
  generalize W.dp (32 + 1) bs = D at *
  clear c0 c1 c2 c3 f0 f1 f2 f3
  obtain ⟨⟨c0, c1, c2, c3⟩, ⟨f0, f1, f2, f3⟩, hs4⟩ := cells4 HB4.out
  have hs4' := HB4.out.size
  simp only [World.size_alloc] at hs4'
  go_upto_region 20 with (at_builtin; refine wpList_app _ rfl _ _ 22 rfl (w.heap.size + 1) _ 5 i0 (.int .u8 0) Tryd.underlying22 hi hz0 hz1b Hz2.out rfl _ (W.vbs T).length (vals (W.vbs T)) rfl (by have := HV4.out.1; simp only [World.size_alloc] at this; exact this) (by intro e; cases e) ab nb cb bs rfl Hb.out HR4.out ?_ ?_ ?_; omega; omega; intro g5 cp5 w5 hown5 hgrow5)
  have hb5 := HB4.out.grown hgrow5 HB4.out.size (fun k e => by cases e; exact (HV4.out.1.lt g1 rfl).1)
  have HB5 := Lib.hid hb5
  have hs5' := hb5.size
  simp only [World.size_alloc] at hs5'
  have hown5' : Own (w.heap.size + 1) w5 (.slice (some ⟨g5, 0, none⟩) (W.vbs T ++ bs).length cp5) (W.vbs T ++ bs) := by
    have := own_app (l := W.vbs T) (bs := bs) Hb.out hown5
    rw [List.length_append, Hb.out]
    exact this
  have HO5 := Lib.hid hown5'
  clear hb5 hown5' hown5 hgrow5 HV2 HV4 HR2 HR4 HB2
  go_wp2_with fail
  refine (show Calls _ _ #[.int .u64 ((T : Int) + 1)] _ _ from refVarint_any (T + 1) _ hT65).mono ?_
  rintro e w6 ⟨v6, rfl, hv6, hb6⟩
  obtain ⟨g6, cp6, rfl⟩ := hv6.2
  have HB6 := Lib.hid (HB5.out.trans (hb6.mono HB5.out.size))
  have HV6 := Lib.hid (HO5.out.below hb6)
  have HR6 := Lib.hid (own_rd hv6 rfl HLT.out).1
  have hs6 := HB6.out.size
  simp only [World.size_alloc] at hs6
  have HLN : Hid ((W.vbs T ++ bs).length = (W.vbs T).length + nb) := by show _ = _; rw [List.length_append, Hb.out]
  clear hb6 hv6 HO5 HB5
  generalize W.vbs (T + 1) = bb at *
  have hown6 := HV6.out.1
  rw [HLN.out] at hown6
  have HO6 := Lib.hid hown6
  clear hown6
  go_wp2_with (at_builtin; refine wpList_app _ rfl _ _ 22 rfl (w.heap.size + 1) _ 5 i0 (.int .u8 0) Tryd.underlying22 hi hz0 hz1b Hz2.out rfl _ ((W.vbs T).length + nb) (vals (W.vbs T ++ bs)) rfl HO6.out (by intro e; cases e) _ bb.length cp6 bb rfl rfl HR6.out ?_ ?_ ?_; omega; omega; intro g7 cp7 w7 hown7 hgrow7)
  go_ret2
  unfold RefPut
  rw [if_pos rfl]
  refine ⟨_, rfl, ?_, ?_⟩
  · have := own_app (l := W.vbs T ++ bs) (bs := bb) rfl (by rw [HLN.out]; exact hown7)
    rw [HLN.out] at this
    exact this.mono (by omega)
  · exact below_over (HB6.out.grown hgrow7 HB6.out.size (fun k e => by cases e; have := (HO6.out.lt g5 rfl).1; simp only [World.size_alloc]; exact this))
end Go.Proofs.YtnejachdacakcaaDoor
