/-
The walk of parleylaw3.first: the chapter's examples hold, whatever stands in memory.
-/
import Derived.Test.YtplajeboeckhhaaDoorBfind
import Derived.Test.YtplajeboeckhhaaDoorGapp
namespace Go.Proofs.YtplajeboeckhhaaDoor
open Go.RowKit

theorem ex_add1 : B.add 70 [] (⟨#[97]⟩, ⟨#[49]⟩) = [(⟨#[97]⟩, ⟨#[49]⟩)] := by kernel_rfl
theorem ex_add2 : B.add 70 [(⟨#[97]⟩, ⟨#[49]⟩)] (⟨#[98]⟩, ⟨#[50]⟩) = [(⟨#[97]⟩, ⟨#[49]⟩), (⟨#[98]⟩, ⟨#[50]⟩)] := by kernel_rfl
theorem ex_add3 : B.add 70 [(⟨#[97]⟩, ⟨#[49]⟩), (⟨#[98]⟩, ⟨#[50]⟩)] (⟨#[99]⟩, ⟨#[51]⟩) = [(⟨#[98]⟩, ⟨#[50]⟩), (⟨#[99]⟩, ⟨#[51]⟩)] := by kernel_rfl
theorem ex_tot : B.tot [(⟨#[98]⟩, ⟨#[50]⟩), (⟨#[99]⟩, ⟨#[51]⟩)] = 68 := by kernel_rfl
theorem ex_get : B.get [(⟨#[98]⟩, ⟨#[50]⟩), (⟨#[99]⟩, ⟨#[51]⟩)] 62 = (⟨#[99]⟩, ⟨#[51]⟩) := by kernel_rfl
theorem ex_has : B.has [(⟨#[98]⟩, ⟨#[50]⟩), (⟨#[99]⟩, ⟨#[51]⟩)] 62 = true := by kernel_rfl
theorem ex_get2 : B.get [] 2 = (⟨#[58, 109, 101, 116, 104, 111, 100]⟩, ⟨#[71, 69, 84]⟩) := by kernel_rfl
theorem ex_has2 : B.has [] 2 = true := by kernel_rfl
theorem ex_find : B.fnd (⟨#[58, 109, 101, 116, 104, 111, 100]⟩ : ByteArray).toList (⟨#[80, 85, 84]⟩ : ByteArray).toList 0 (B.allL [(⟨#[98]⟩, ⟨#[50]⟩), (⟨#[99]⟩, ⟨#[51]⟩)]) = (2, false) := by kernel_rfl

set_option maxRecDepth 100000 in
set_option maxHeartbeats 1000000 in
theorem bfirst_any (w : World) : Calls Tryd.prog 18 #[] w (TruePost w) := by
  have HN := Lib.hid (new_yes 70 w (by omega))
  go_enter Tryd.func18, Tryd.ntmps18
  go_wp2_with fail
  refine (show Calls _ _ #[.int .i64 70] _ _ from HN.out).mono ?_
  rintro e w1 ⟨rfl, hT1, hb1⟩
  have HT1 := Lib.hid hT1
  have HB1 := Lib.hid hb1
  have hs1 := hb1.size
  clear hT1 hb1 HN
  generalize hs : w.heap.size = s at *
  have HS := Lib.hid hs
  clear hs
  go_wp2_with fail
  refine (add_any s [] 70 ⟨#[97]⟩ ⟨#[49]⟩ false w1 (by decide) (by decide) HT1.out).mono ?_
  rintro e w2 ⟨rfl, hT2, hO2⟩
  rw [ex_add1] at hT2
  have HT2 := Lib.hid hT2
  have HB2 := Lib.hid (Below.only_trans HB1.out hO2 hs1 (Nat.le_refl _))
  have hs2 := HT2.out.lt
  clear hT2 hO2 HT1 HB1
  go_wp2_with fail
  refine (add_any s _ 70 ⟨#[98]⟩ ⟨#[50]⟩ false w2 (by decide) (by decide) HT2.out).mono ?_
  rintro e w3 ⟨rfl, hT3, hO3⟩
  rw [ex_add2] at hT3
  have HT3 := Lib.hid hT3
  have HB3 := Lib.hid (Below.only_trans HB2.out hO3 (by omega) (Nat.le_refl _))
  have hs3 := HT3.out.lt
  clear hT3 hO3 HT2 HB2
  go_wp2_with fail
  refine (add_any s _ 70 ⟨#[99]⟩ ⟨#[51]⟩ false w3 (by decide) (by decide) HT3.out).mono ?_
  rintro e w4 ⟨rfl, hT4, hO4⟩
  rw [ex_add3] at hT4
  have HT4 := Lib.hid hT4
  have HB4 := Lib.hid (Below.only_trans HB3.out hO4 (by omega) (Nat.le_refl _))
  have hs4 := HT4.out.lt
  clear hT4 hO4 HT3 HB3
  go_wp2_with fail
  have HG := get_any s _ 70 62 w4 (by omega) HT4.out
  rw [ex_get, ex_has] at HG
  refine HG.mono ?_
  rintro e w5 ⟨rfl, hb5⟩
  have HT5 := Lib.hid (HT4.out.below hb5)
  have HB5 := Lib.hid (HB4.out.trans (hb5.mono (Nat.le_of_lt HT4.out.lt)))
  clear hb5 HG HT4 HB4
  simp only
  go_wp2_with fail
  have HST := static_any 2 (w5.alloc (.cells #[.string ⟨#[99]⟩, .string ⟨#[51]⟩, .bool false] 51))
  rw [ex_get2, ex_has2] at HST
  refine HST.mono ?_
  rintro e w6 ⟨rfl, hb6⟩
  obtain ⟨⟨z0, z1, z2⟩, _, hs6⟩ := cells3 hb6
  have HB6 := Lib.hid (HB5.out.trans ((below_over hb6).mono (Nat.le_of_lt HT5.out.lt)))
  have HT6 := Lib.hid (HT5.out.below (below_over hb6))
  clear hb6 HST HT5 HB5
  simp only
  go_wp2_with fail
  have HA := HT6.out.below ((Below.refl w6.heap.size w6).alloc (Nat.le_refl _) (.cells #[.string ⟨#[58, 109, 101, 116, 104, 111, 100]⟩, .string ⟨#[71, 69, 84]⟩, .bool false] 51))
  have HF := find_any s 70 _ ⟨#[58, 109, 101, 116, 104, 111, 100]⟩ ⟨#[80, 85, 84]⟩ _ HA
  rw [ex_find] at HF
  refine HF.mono ?_
  rintro e w7 ⟨rfl, hb7⟩
  obtain ⟨⟨y0, y1, y2⟩, _, hs7⟩ := cells3 hb7
  have hb67 := below_over hb7
  have HT7 := Lib.hid (HT6.out.below hb67)
  have HB7 := Lib.hid (HB6.out.trans (hb67.mono (Nat.le_of_lt HT6.out.lt)))
  have x0 := (hb67.cell (p := ⟨w5.heap.size, 0, none⟩) hs6).trans z0
  have cn := (by obtain ⟨R, o, _, h2, _⟩ := HT7.out; exact h2.n.1 : w7.cell? ⟨s, 385, none⟩ = some (.int .i64 2))
  have cz := (by obtain ⟨R, o, _, h2, _⟩ := HT7.out; exact h2.s.1 : w7.cell? ⟨s, 386, none⟩ = some (.int .i64 (B.tot [(⟨#[98]⟩, ⟨#[50]⟩), (⟨#[99]⟩, ⟨#[51]⟩)] : Nat)))
  rw [ex_tot] at cz
  clear hb7 hb67 HF HA HT6 HB6 z0 z1 z2
  simp only
  go_wp2_with (first
    | (go_at_call 34; refine (show Calls _ _ _ _ fun e w' => e = .returned (.int .i64 2) ∧ _ from len_any w7 s 2 cn).mono ?_; rintro e w8 ⟨rfl, rfl⟩)
    | (go_at_call 38; refine (show Calls _ _ _ _ fun e w' => e = .returned (.int .i64 68) ∧ _ from sizeM_any w7 s 68 cz).mono ?_; rintro e w8 ⟨rfl, rfl⟩))
  go_ret
  exact ⟨rfl, by rw [HS.out]; exact HB7.out⟩
end Go.Proofs.YtplajeboeckhhaaDoor
