/-
The walk of parleylaw3.is: true of two tables that hold the same.
-/
import Derived.Test.YtplajeboeckhhaaDoorBrta
import Derived.Test.YtplajeboeckhhaaDoorBrtg
namespace Go.Proofs.YtplajeboeckhhaaDoor
open Go.RowKit

set_option maxRecDepth 100000 in
set_option maxHeartbeats 4000000 in
theorem is_any (K g gx m : Nat) (L : List B.HD) (i : Int) (w : World) (hi : i ≤ 9223372036854775807) (hT : Tab w g L m) (hR : Rx w K gx L.reverse m) :
    Calls Tryd.prog 27 #[.pointer (some ⟨g, 0, none⟩), .pointer (some ⟨gx, 0, none⟩), .int .i64 i] w fun e w' => e = .returned (.bool true) ∧ Below w.heap.size w w' := by
  obtain ⟨hl128, htm, hm4⟩ := hT.le
  have HT := Lib.hid hT
  have HR := Lib.hid hR
  have HG := Lib.hid (get_any g L m i w hi hT)
  have HG2 := Lib.hid (fun w hw => refGet_any K gx m L i w hi hw (by omega))
  clear hT hR
  generalize B.get L i = x at *
  obtain ⟨xn, xv⟩ := x
  generalize B.has L i = bb at *
  have HSH := Lib.hid (fun w => sameHeader_eq xn xv false w)
  obtain ⟨ln, hln⟩ : ∃ ln, ln = L.length := ⟨_, rfl⟩
  have HLn := Lib.hid hln
  obtain ⟨tz, htz⟩ : ∃ tz, tz = B.tot L := ⟨_, rfl⟩
  have HTZ := Lib.hid htz
  rw [← hln] at hl128
  rw [← htz] at htm
  clear hln htz
  go_enter Tryd.func27, Tryd.ntmps27
  go_wp2_with fail
  refine HG.out.mono ?_
  rintro e w1 ⟨rfl, hb1⟩
  have hba : Below w1.heap.size w1 (w1.alloc (.cells #[.string xn, .string xv, .bool false] 51)) := (Below.refl _ _).alloc (Nat.le_refl _) _
  have HB1 := Lib.hid (hb1.trans (hba.mono hb1.size))
  have HR1 := Lib.hid (HR.out.below HB1.out)
  have hw1 : w1.heap.size < (w1.alloc (.cells #[.string xn, .string xv, .bool false] 51)).heap.size := by simp
  have x0 : (w1.alloc (.cells #[.string xn, .string xv, .bool false] 51)).cell? ⟨w1.heap.size, 0, none⟩ = some (.string xn) := by simp
  have x1 : (w1.alloc (.cells #[.string xn, .string xv, .bool false] 51)).cell? ⟨w1.heap.size, 1, none⟩ = some (.string xv) := by simp
  have x2 : (w1.alloc (.cells #[.string xn, .string xv, .bool false] 51)).cell? ⟨w1.heap.size, 2, none⟩ = some (.bool false) := by simp
  have HX := Lib.hid (And.intro x0 (And.intro x1 x2))
  clear hb1 hba HG HR x0 x1 x2
  go_wp2_with fail
  refine (HG2.out _ HR1.out).mono ?_
  rintro e w2 ⟨rfl, hb2⟩
  have hba : Below w2.heap.size w2 (w2.alloc (.cells #[.string xn, .string xv, .bool false] 51)) := (Below.refl _ _).alloc (Nat.le_refl _) _
  have hb23 := hb2.trans (hba.mono hb2.size)
  have HB2 := Lib.hid (HB1.out.trans (hb23.mono HB1.out.size))
  have HR2 := Lib.hid (HR1.out.below hb23)
  have HT2 := Lib.hid (HT.out.below HB2.out)
  have y0 := (hb23.cell (p := ⟨w1.heap.size, 0, none⟩) hw1).trans HX.out.1
  have y1 := (hb23.cell (p := ⟨w1.heap.size, 1, none⟩) hw1).trans HX.out.2.1
  have y2 := (hb23.cell (p := ⟨w1.heap.size, 2, none⟩) hw1).trans HX.out.2.2
  clear hb2 hba hb23 HX HG2 HR1 HB1 hw1
  go_wp2_with fail
  refine (HSH.out _).mono ?_
  rintro e w3 ⟨rfl, hb3⟩
  have HB3 := Lib.hid (HB2.out.trans (hb3.mono HB2.out.size))
  have HT3 := Lib.hid (HT2.out.below hb3)
  have HR3 := Lib.hid (HR2.out.below hb3)
  clear hb3 HB2 HT2 HR2 y0 y1 y2 HSH
  obtain ⟨v3, ⟨c0, _⟩, ⟨c1, _⟩, hO3, _⟩ := id HR3.out
  have hg3 := HR3.out.lt
  obtain ⟨a3, cp3, rfl, _, _⟩ := hO3.form
  rw [List.length_reverse, ← HLn.out] at c0
  clear hO3
  have cn := (by obtain ⟨R, o, _, h2, _⟩ := HT3.out.below (below_drew w3); rw [HLn.out]; exact h2.n.1 : w3.drew.cell? ⟨g, 385, none⟩ = some (.int .i64 ln))
  have cs := (by obtain ⟨R, o, _, h2, _⟩ := HT3.out.below (below_drew w3); rw [HTZ.out]; exact h2.s.1 : w3.drew.cell? ⟨g, 386, none⟩ = some (.int .i64 tz))
  have HLE := Lib.hid (len_any w3.drew g ln cn)
  have HSE := Lib.hid (sizeM_any w3.drew g tz cs)
  have HTO : Hid (Calls Tryd.prog 56 #[.pointer (some ⟨gx, 0, none⟩)] w3.drew fun e w' => e = .returned (.int .i64 tz) ∧ Below w3.drew.heap.size w3.drew w') := by
    have h := refTot_any K gx m L.reverse w3.drew (HR3.out.below (below_drew w3)) (by rw [B.tot_rev, ← HTZ.out]; omega)
    rw [B.tot_rev, ← HTZ.out] at h
    exact h
  have HME : Hid (∀ w', Below w3.drew.heap.size w3.drew w' → Calls Tryd.prog 37 #[.pointer (some ⟨g, 0, none⟩)] w' fun e w'' => e = .returned (.int .i64 m) ∧ w' = w'') := fun w' hb => most_any w' g m (by obtain ⟨R, o, _, h2, _⟩ := (HT3.out.below (below_drew w3)).below hb; exact h2.m.1)
  have S0 : Hid (w3.cell? ⟨gx, 0, none⟩ = some (.slice a3 ln cp3) ∧ w3.cell? ⟨gx, 1, none⟩ = some (.int .i64 m)) := ⟨c0, c1⟩
  clear cn cs c0 c1 HT3 HR3 HT
  go_upto_region 4 with (fail)
  go_region_held3 (fun ww => ww.cell? ⟨gx, 0, none⟩ = some (.slice a3 ln cp3) ∧ ww.cell? ⟨gx, 1, none⟩ = some (.int .i64 m)) (first | exact S0.out | exact HS5.out) (first
    | (go_at_call 34; refine HLE.out.mono ?_; rintro e wA ⟨rfl, rfl⟩)
    | (go_at_call 38; refine HSE.out.mono ?_; rintro e wA ⟨rfl, rfl⟩)
    | (go_at_call 56; refine HTO.out.mono ?_; rintro e w5 ⟨rfl, hb5⟩; have HS5 : Hid (w5.cell? ⟨gx, 0, none⟩ = some (.slice a3 ln cp3) ∧ w5.cell? ⟨gx, 1, none⟩ = some (.int .i64 m)) := ⟨(hb5.cell (p := ⟨gx, 0, none⟩) hg3).trans S0.out.1, (hb5.cell (p := ⟨gx, 1, none⟩) hg3).trans S0.out.2⟩; have HM5 := Lib.hid (HME.out w5 hb5); have HB5 := Lib.hid hb5; clear hb5)
    | (go_at_call 37; refine HM5.out.mono ?_; rintro e wA ⟨rfl, rfl⟩))
  go_wp2
  go_ret
  exact ⟨by simp, HB3.out.trans (((below_drew w3).trans HB5.out).mono HB3.out.size)⟩
end Go.Proofs.YtplajeboeckhhaaDoor
