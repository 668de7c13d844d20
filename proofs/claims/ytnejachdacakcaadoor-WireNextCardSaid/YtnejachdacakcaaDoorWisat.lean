/-
The walks of parleylaw1.is; of parleysee.fault, Fault and Same over an error with its place.
-/
import Derived.Test.YtnejachdacakcaaDoorWrefk
import Derived.Test.YtnejachdacakcaaDoorGsame
import Derived.Deep.RegionWith
namespace Go.Proofs.YtnejachdacakcaaDoor
open Go.RowKit

set_option maxRecDepth 100000 in
theorem is_same {B1 B2 : Nat} (f k u : Int) (a b : Option Addr) (n m ca cb : Nat) (l : List Nat) (w : World) (hl : l.length = n) (hk : l.length = m) (ha : Rd B1 w a l) (hb : Rd B2 w b l) :
    Calls Tryd.prog 13 #[.agg #[.int .i64 f, .int .i64 k, .int .u64 u, .slice a n ca], .agg #[.int .i64 f, .int .i64 k, .int .u64 u, .slice b m cb]] w fun e w' => e = .returned (.bool true) ∧ Below w.heap.size w w' := by
  have HB : Hid (Below w.heap.size w ((w.alloc (.cells #[.int .i64 f, .int .i64 k, .int .u64 u, .slice a n ca] 27)).alloc (.cells #[.int .i64 f, .int .i64 k, .int .u64 u, .slice b m cb] 32))) := ((Below.refl _ _).alloc (Nat.le_refl _) _).alloc (by simp) _
  have hs := same_any a b n m ca cb l l _ hl hk (ha.below HB.out) (hb.below HB.out)
  rw [decide_eq_true rfl] at hs
  have HS := Lib.hid hs
  clear hs ha hb hl hk
  go_enter Tryd.func13, Tryd.ntmps13
  go_wp2_with fail
  refine HS.out.mono ?_
  rintro e w1 ⟨rfl, rfl⟩
  go_wp2
  go_ret
  exact ⟨rfl, HB.out⟩

theorem at_yes (p : Addr) (w : World) : (Instr.typeAssert (.iface 68 (.pointer (some p))) 29 68 true).run Tryd.prog w = .ok (.tuple #[.pointer (some p), .bool true]) w := by kernel_rfl

theorem far4 {w2 : World} {b g : Nat} (h : b ≠ g) (x y z u : Value) : ((((w2.setCell ⟨b, 0, none⟩ x).setCell ⟨b, 1, none⟩ y).setCell ⟨b, 2, none⟩ z).setCell ⟨b, 3, none⟩ u).cell? ⟨g, 0, none⟩ = w2.cell? ⟨g, 0, none⟩ := by
  have far : ∀ (x : World) (o : Nat) (v : Value), (x.setCell ⟨b, o, none⟩ v).cell? ⟨g, 0, none⟩ = x.cell? ⟨g, 0, none⟩ := fun x o v => World.cell?_setCell_other (h := fun e => h (congrArg Addr.block e)) ..
  rw [far, far, far, far]

/-- Around, of a bare fault. -/
theorem around_any (c p : Int) (w : World) (hc : (c == 0) = false) :
    Calls Tryd.prog 66 #[fV c 0 0 (.slice none 0 0), .int .i64 p] w fun e w' => ∃ g, w.heap.size ≤ g ∧ e = .returned (fV c 0 0 (.slice (some ⟨g, 0, none⟩) 1 1)) ∧ w'.cell? ⟨g, 0, none⟩ = some (.int .i64 p) ∧ Below w.heap.size w w' := by
  unfold fV
  go_enter Tryd.func66, Tryd.ntmps66
  go_wp2
  refine bodyPost_ret (v := fV c 0 0 (.slice (some ⟨w.heap.size + 1 + 1, 0, none⟩) 1 1)) (by simp [results, Tryd.results66, go_sem, fV]) rfl ⟨w.heap.size + 1 + 1, by omega, rfl, ?_, ?_⟩
  · have h := heap_alloc_new ((w.alloc (.cells #[.int .i64 c, .int .i64 0, .int .i64 0, .slice none 0 0] 42)).alloc (.cells #[.int .i64 c, .int .i64 0, .int .i64 0, .slice (some ⟨w.heap.size + 1 + 1, 0, none⟩) 1 1] 42)) (.cells #[.int .i64 p] 3)
    simp only [World.size_alloc] at h
    rw [cell_of_row _ _ 0 _ _ _ h]
    rfl
  repeat (first | with_reducible exact Below.refl _ _ | with_reducible refine Below.setCell ?_ (by first | omega | (simp; done) | (simp; omega)) _ | with_reducible refine Below.alloc ?_ (by first | omega | (simp; done) | (simp; omega)) _)

set_option maxRecDepth 100000 in
set_option maxHeartbeats 1000000 in
/-- fault, of an error with its place. -/
theorem faultAt_any {E : Nat → Addr} (i : Nat) (g : Nat) (p : Int) (w : World) (hE : ErrsAll w E egs) (hi : i < 30) (hp : w.cell? ⟨g, 0, none⟩ = some (.int .i64 p)) (he : w.cell? ⟨g, 1, none⟩ = some (eV E (eg i))) :
    Calls Tryd.prog 59 #[.iface 68 (.pointer (some ⟨g, 0, none⟩)), .int .i64 9] w fun e w' => ∃ g2, w.heap.size ≤ g2 ∧ e = .returned (fV (101 + (i : Int)) 0 0 (.slice (some ⟨g2, 0, none⟩) 1 1)) ∧ w'.cell? ⟨g2, 0, none⟩ = some (.int .i64 p) ∧ Below w.heap.size w w' := by
  have hs := World.block_lt_of_cell? w _ hp
  simp only at hs
  have HA : Hid (ErrsAll (w.alloc (.cells #[.int .i64 0, .int .i64 0, .int .i64 0, .slice none 0 0] 42)) E egs) := hE.below ((Below.refl _ _).alloc (Nat.le_refl _) _)
  have HF := Lib.hid (faultOne_any i 8 _ HA.out hi (by omega) (by omega))
  clear hE
  generalize eV E (eg i) = ev at *
  have ha := at_yes ⟨g, 0, none⟩
  have hci : ((101 + (i : Int)) == 0) = false := by simp; omega
  have HCI := Lib.hid hci
  clear hci
  generalize (101 + (i : Int)) = C at *
  have HAR : Hid (∀ ww, Calls Tryd.prog 66 #[.agg #[.int .i64 C, .int .i64 0, .int .i64 0, .slice none 0 0], .int .i64 p] ww fun e w' => ∃ g, ww.heap.size ≤ g ∧ e = .returned (.agg #[.int .i64 C, .int .i64 0, .int .i64 0, .slice (some ⟨g, 0, none⟩) 1 1]) ∧ w'.cell? ⟨g, 0, none⟩ = some (.int .i64 p) ∧ Below ww.heap.size ww w') := fun ww => around_any C p ww HCI.out
  go_enter Tryd.func59, Tryd.ntmps59
  go_wp2_with fail
  refine (show Calls _ _ #[_, .int .i64 8] _ _ from HF.out).mono ?_
  rintro e w1 ⟨rfl, hb1⟩
  obtain ⟨⟨d0, d1, d2, d3⟩, ⟨f0, f1, f2, f3⟩, hz1⟩ := cells4 hb1
  have hb2 := below_over hb1
  have hp1 := cell_below hb2 hp
  have HB1 := Lib.hid hb1
  clear hb1 HF HA
  unfold fV
  have hs1 : g < w1.heap.size := by omega
  go_wp2
  go_region_with (((with_reducible refine (HAR.out _).mono ?_)); rintro e w2 ⟨g2, hg2, he2, hc2, hb2⟩; subst he2; have HB2 := Lib.hid hb2; have HC2 := Lib.hid hc2; obtain ⟨hcc, hff, hzz⟩ := bcell hb2; have HG2 := Lib.hid hg2; clear hb2 hc2 hg2; simp at hzz)
  all_goals
    have hb3 : Below (w.alloc (.cells #[.int .i64 0, .int .i64 0, .int .i64 0, .slice none 0 0] 42)).heap.size (w.alloc (.cells #[.int .i64 0, .int .i64 0, .int .i64 0, .slice none 0 0] 42)) w2 :=
      ((HB1.out.alloc HB1.out.size _).drew).trans (HB2.out.mono (by have := HB1.out.size; simp at this ⊢; omega))
    obtain ⟨⟨k0, k1, k2, k3⟩, ⟨m0, m1, m2, m3⟩, hz2⟩ := cells4 hb3
    have HB3 := Lib.hid (below_over hb3)
    have hg2 : w.heap.size + 1 ≤ g2 := by have h1 := HG2.out; have h2 := HB1.out.size; simp at h1 h2; omega
    clear hcc hff hb3 d0 d1 d2 d3 f0 f1 f2 f3
    go_wp2
    refine bodyPost_ret (v := fV C 0 0 (.slice (some ⟨g2, 0, none⟩) 1 1)) (by simp [results, Tryd.results59, go_sem, fV, k0, k1, k2, k3]) rfl ⟨g2, by omega, rfl, ?_, ?_⟩
    · rw [far4 (by omega)]; exact HC2.out
    · have hov := HB3.out
      repeat (first | with_reducible exact hov | with_reducible refine Below.setCell ?_ (by first | omega | (simp; done) | (simp; omega)) _)

set_option maxRecDepth 100000 in
theorem FaultAt_any {E : Nat → Addr} (i : Nat) (g : Nat) (p : Int) (w : World) (hE : ErrsAll w E egs) (hi : i < 30) (hp : w.cell? ⟨g, 0, none⟩ = some (.int .i64 p)) (he : w.cell? ⟨g, 1, none⟩ = some (eV E (eg i))) :
    Calls Tryd.prog 33 #[.iface 68 (.pointer (some ⟨g, 0, none⟩))] w fun e w' => ∃ g2, w.heap.size ≤ g2 ∧ e = .returned (fV (101 + (i : Int)) 0 0 (.slice (some ⟨g2, 0, none⟩) 1 1)) ∧ w'.cell? ⟨g2, 0, none⟩ = some (.int .i64 p) ∧ Below w.heap.size w w' := by
  have b0 := (Below.refl w.heap.size w).alloc (Nat.le_refl _) (.cells #[.int .i64 0, .int .i64 0, .int .i64 0, .slice none 0 0] 42)
  have HF := Lib.hid (faultAt_any i g p _ (hE.below b0) hi (cell_below b0 hp) (cell_below b0 he))
  clear hE hp he b0
  generalize (101 + (i : Int)) = C at *
  go_enter Tryd.func33, Tryd.ntmps33
  go_wp2_with fail
  refine HF.out.mono ?_
  rintro e w2 ⟨g2, hg2, rfl, hc2, hb2⟩
  obtain ⟨⟨d0, d1, d2, d3⟩, ⟨f0, f1, f2, f3⟩, hz2⟩ := cells4 hb2
  have HB2 := Lib.hid (below_over hb2)
  have HC2 := Lib.hid hc2
  simp only [World.size_alloc] at hg2
  clear hb2 hc2 HF
  unfold fV
  go_wp2
  refine bodyPost_ret (v := fV C 0 0 (.slice (some ⟨g2, 0, none⟩) 1 1)) (by simp [results, Tryd.results33, go_sem, fV, d0, d1, d2, d3]) rfl ⟨g2, by omega, rfl, ?_, ?_⟩
  · rw [far4 (by omega)]; exact HC2.out
  · have hov := HB2.out
    repeat (first | with_reducible exact hov | with_reducible refine Below.setCell ?_ (by first | omega | (simp; done) | (simp; omega)) _)

theorem RdZ.one {w : World} {g : Nat} {p : Int} (h : w.cell? ⟨g, 0, none⟩ = some (.int .i64 p)) : RdZ w (some ⟨g, 0, none⟩) [p] := fun j hj => by
  have : j = 0 := by simpa using hj
  subst this
  exact ⟨g, 0, rfl, h⟩

set_option maxRecDepth 100000 in
set_option maxHeartbeats 1000000 in
/-- Same, over an error with its place and what the reference says of it. -/
theorem SameAt_any {E : Nat → Addr} (i : Nat) (g g3 : Nat) (p : Int) (w : World) (hE : ErrsAll w E egs) (hi : i < 30) (hp : w.cell? ⟨g, 0, none⟩ = some (.int .i64 p)) (he : w.cell? ⟨g, 1, none⟩ = some (eV E (eg i))) (h3 : w.cell? ⟨g3, 0, none⟩ = some (.int .i64 p)) :
    Calls Tryd.prog 16 #[.iface 68 (.pointer (some ⟨g, 0, none⟩)), fV (101 + (i : Int)) 0 0 (.slice (some ⟨g3, 0, none⟩) 1 1)] w fun e w' => e = .returned (.bool true) ∧ Below w.heap.size w w' := by
  have b0 := (Below.refl w.heap.size w).alloc (Nat.le_refl _) (.cells #[.int .i64 (101 + (i : Int)), .int .i64 0, .int .i64 0, .slice (some ⟨g3, 0, none⟩) 1 1] 42)
  have HF := Lib.hid (FaultAt_any i g p _ (hE.below b0) hi (cell_below b0 hp) (cell_below b0 he))
  have H3 := Lib.hid (cell_below b0 h3)
  clear hE hp he h3
  have HSF : Hid (∀ ww g2, ww.cell? ⟨g2, 0, none⟩ = some (.int .i64 p) → ww.cell? ⟨g3, 0, none⟩ = some (.int .i64 p) → Calls Tryd.prog 34 #[.agg #[.int .i64 (101 + (i : Int)), .int .i64 0, .int .i64 0, .slice (some ⟨g2, 0, none⟩) 1 1], .agg #[.int .i64 (101 + (i : Int)), .int .i64 0, .int .i64 0, .slice (some ⟨g3, 0, none⟩) 1 1]] ww fun e w' => e = .returned (.bool true) ∧ Below ww.heap.size ww w') := fun ww g2 h1 h2 => by
    have := sameFault_any (101 + (i : Int)) 0 0 (101 + (i : Int)) 0 0 (some ⟨g2, 0, none⟩) (some ⟨g3, 0, none⟩) 1 1 1 1 [p] [p] ww rfl rfl (by omega) (RdZ.one h1) (RdZ.one h2)
    have e : FAgree (101 + (i : Int)) 0 0 (101 + (i : Int)) 0 0 [p] [p] = true := by unfold FAgree; simp
    rw [e] at this
    exact this
  clear b0
  unfold fV at *
  generalize (101 + (i : Int)) = C at *
  go_enter Tryd.func16, Tryd.ntmps16
  go_wp2_with fail
  refine HF.out.mono ?_
  rintro e w1 ⟨g2, hg2, rfl, hc2, hb1⟩
  obtain ⟨⟨d0, d1, d2, d3⟩, ⟨f0, f1, f2, f3⟩, hz1⟩ := cells4 hb1
  have HB1 := Lib.hid hb1
  have bx := (Below.refl w1.heap.size w1).alloc (Nat.le_refl _) (.cells #[.int .i64 C, .int .i64 0, .int .i64 0, .slice (some ⟨g2, 0, none⟩) 1 1] 42)
  have HS2 := Lib.hid (HSF.out _ g2 (cell_below bx hc2) (cell_below bx (cell_below hb1 H3.out)))
  have HX : Hid (Below w.heap.size w (w1.alloc (.cells #[.int .i64 C, .int .i64 0, .int .i64 0, .slice (some ⟨g2, 0, none⟩) 1 1] 42))) := (below_over hb1).alloc (below_over hb1).size _
  clear HSF HF hb1 bx hc2 H3 hg2
  go_wp2_with fail
  refine HS2.out.mono ?_
  rintro e w3 ⟨rfl, hb3⟩
  have HB3 := Lib.hid (HX.out.trans (hb3.mono HX.out.size))
  clear hb3
  go_wp2
  go_ret
  exact ⟨rfl, HB3.out⟩
end Go.Proofs.YtnejachdacakcaaDoor
